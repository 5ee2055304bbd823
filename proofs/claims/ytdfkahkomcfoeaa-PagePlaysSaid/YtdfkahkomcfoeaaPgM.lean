/- pages as plain mathematics -/
import Derived.Test.YtdfkahkomcfoeaaTxt
namespace Go.Proofs.Ytdfkahkomcfoeaa

/-- a record: its number, its bytes -/
abbrev Bod := Nat × List UInt8

/-- what a page has -/
abbrev Pg := List Bod

/-- how many bytes it takes -/
def usedP : Pg → Nat
  | [] => 2
  | r :: t => 12 + r.2.length + usedP t

theorem usedP_app : ∀ a b : Pg, usedP (a ++ b) + 2 = usedP a + usedP b
  | [], b => by simp [usedP]; omega
  | r :: t, b => by
    have := usedP_app t b
    simp only [List.cons_append, usedP]; omega

theorem usedP_ge : ∀ l : Pg, 2 + 12 * l.length ≤ usedP l
  | [] => by simp [usedP]
  | r :: t => by
    have := usedP_ge t
    simp only [usedP, List.length_cons]; omega

theorem usedP_mem : ∀ {l : Pg} {r : Bod}, r ∈ l → 14 + r.2.length ≤ usedP l
  | x :: t, r, h => by
    rcases List.mem_cons.1 h with rfl | h
    · have := usedP_ge t; simp only [usedP]; omega
    · have := usedP_mem h; simp only [usedP]; omega

/-- by their numbers -/
def RisB (l : Pg) : Prop := l.Pairwise fun a b => a.1 < b.1

/-- where a record is or would be -/
def findI (l : Pg) (id : Nat) : Nat := l.countP fun r => decide (r.1 < id)

/-- is there one? -/
def hasP (l : Pg) (id : Nat) : Bool := l.any fun r => r.1 == id

/-- those ahead of a number, those behind it -/
def loP (l : Pg) (id : Nat) : Pg := l.filter fun r => decide (r.1 < id)
def hiP (l : Pg) (id : Nat) : Pg := l.filter fun r => decide (id < r.1)

/-- a record laid, the one of its number taken away -/
def putL (l : Pg) (id : Nat) (s : List UInt8) : Pg := loP l id ++ (id, s) :: hiP l id
def dropL (l : Pg) (id : Nat) : Pg := l.filter fun r => r.1 != id

theorem findI_len (l : Pg) (id : Nat) : findI l id = (loP l id).length := by
  unfold findI loP; rw [List.countP_eq_length_filter]

theorem ris_tail {r : Bod} {l : Pg} (h : RisB (r :: l)) : RisB l := (List.pairwise_cons.1 h).2

/-- a rising list about a number: those below it, perhaps the one, those above -/
theorem ris_split : ∀ {l : Pg} (_ : RisB l) (id : Nat), (∃ s, hasP l id = true ∧ l = loP l id ++ (id, s) :: hiP l id) ∨ (hasP l id = false ∧ l = loP l id ++ hiP l id)
  | [], _, _ => .inr ⟨rfl, rfl⟩
  | r :: t, h, id => by
    obtain ⟨h1, h2⟩ := List.pairwise_cons.1 h
    rcases Nat.lt_trichotomy r.1 id with hlt | heq | hgt
    · have e1 : loP (r :: t) id = r :: loP t id := by unfold loP; rw [List.filter_cons_of_pos (by simpa using hlt)]
      have e2 : hiP (r :: t) id = hiP t id := by unfold hiP; rw [List.filter_cons_of_neg (by simp; omega)]
      have e3 : hasP (r :: t) id = hasP t id := by unfold hasP; rw [List.any_cons, show (r.1 == id) = false by simp; omega, Bool.false_or]
      rw [e1, e2, e3]
      rcases ris_split h2 id with ⟨s, ha, hb⟩ | ⟨ha, hb⟩
      · exact .inl ⟨s, ha, by rw [List.cons_append, ← hb]⟩
      · exact .inr ⟨ha, by rw [List.cons_append, ← hb]⟩
    · subst heq
      refine .inl ⟨r.2, by simp [hasP], ?_⟩
      have e1 : loP (r :: t) r.1 = [] := by
        unfold loP
        rw [List.filter_eq_nil_iff]
        intro x hx
        rcases List.mem_cons.1 hx with rfl | hx
        · simp
        · have := h1 x hx; simp; omega
      have e2 : hiP (r :: t) r.1 = t := by
        unfold hiP
        rw [List.filter_cons_of_neg (by simp), List.filter_eq_self.2]
        intro x hx
        have := h1 x hx; simpa using this
      rw [e1, e2]; rfl
    · refine .inr ⟨?_, ?_⟩
      · unfold hasP
        rw [List.any_eq_false]
        intro x hx
        rcases List.mem_cons.1 hx with rfl | hx
        · simp; omega
        · have := h1 x hx; simp; omega
      · have e1 : loP (r :: t) id = [] := by
          unfold loP
          rw [List.filter_eq_nil_iff]
          intro x hx
          rcases List.mem_cons.1 hx with rfl | hx
          · simp; omega
          · have := h1 x hx; simp; omega
        have e2 : hiP (r :: t) id = r :: t := by
          unfold hiP
          rw [List.filter_eq_self.2]
          intro x hx
          rcases List.mem_cons.1 hx with rfl | hx
          · simpa using hgt
          · have := h1 x hx; simp; omega
        rw [e1, e2]; rfl

theorem lo_lt {l : Pg} {id : Nat} {r : Bod} (h : r ∈ loP l id) : r.1 < id := by
  have := (List.mem_filter.1 h).2; simpa using this

theorem hi_gt {l : Pg} {id : Nat} {r : Bod} (h : r ∈ hiP l id) : id < r.1 := by
  have := (List.mem_filter.1 h).2; simpa using this

theorem ris_put {l : Pg} (h : RisB l) (id : Nat) (s : List UInt8) : RisB (putL l id s) := by
  unfold putL RisB
  rw [List.pairwise_append, List.pairwise_cons]
  refine ⟨h.sublist List.filter_sublist, ⟨fun x hx => hi_gt hx, h.sublist List.filter_sublist⟩, fun x hx y hy => ?_⟩
  have h1 := lo_lt hx
  rcases List.mem_cons.1 hy with rfl | hy
  · exact h1
  · have := hi_gt hy; omega

theorem ris_drop {l : Pg} (h : RisB l) (id : Nat) : RisB (dropL l id) := h.sublist List.filter_sublist

theorem drop_eq {l : Pg} (h : RisB l) (id : Nat) : dropL l id = loP l id ++ hiP l id := by
  have hk : ∀ x : Bod, (x.1 != id) = true ↔ x.1 ≠ id := fun x => by simp
  have f1 : ∀ {m : Pg}, (∀ x ∈ m, x.1 ≠ id) → m.filter (fun r => r.1 != id) = m := fun hm => List.filter_eq_self.2 fun x hx => (hk x).2 (hm x hx)
  have a1 : ∀ x ∈ loP l id, x.1 ≠ id := fun x hx => by have := lo_lt hx; omega
  have a2 : ∀ x ∈ hiP l id, x.1 ≠ id := fun x hx => by have := hi_gt hx; omega
  rcases ris_split h id with ⟨s, -, hb⟩ | ⟨-, hb⟩
  · have : dropL l id = (loP l id ++ (id, s) :: hiP l id).filter (fun r => r.1 != id) := by unfold dropL; exact congrArg _ hb
    rw [this, List.filter_append, List.filter_cons_of_neg (by simp), f1 a1, f1 a2]
  · have : dropL l id = (loP l id ++ hiP l id).filter (fun r => r.1 != id) := by unfold dropL; exact congrArg _ hb
    rw [this, List.filter_append, f1 a1, f1 a2]

/-- a page as it may be -/
structure OkP (l : Pg) : Prop where
  ris : RisB l
  ids : ∀ r ∈ l, r.1 < 18446744073709551616
  fit : usedP l ≤ 512

theorem OkP.nil : OkP [] := ⟨.nil, by simp, by simp [usedP]⟩

theorem OkP.put {l : Pg} (h : OkP l) {id : Nat} (hi : id < 18446744073709551616) {s : List UInt8} (hf : usedP (putL l id s) ≤ 512) : OkP (putL l id s) := by
  refine ⟨ris_put h.ris id s, fun r hr => ?_, hf⟩
  unfold putL at hr
  rcases List.mem_append.1 hr with hr | hr
  · exact h.ids r (List.mem_filter.1 hr).1
  · rcases List.mem_cons.1 hr with rfl | hr
    · exact hi
    · exact h.ids r (List.mem_filter.1 hr).1

theorem used_sub : ∀ {a b : Pg}, a.Sublist b → usedP a ≤ usedP b
  | _, _, .slnil => Nat.le_refl _
  | _, _, .cons r h => by have := used_sub h; simp only [usedP]; omega
  | _, _, .cons_cons r h => by have := used_sub h; simp only [usedP]; omega

theorem OkP.drop {l : Pg} (h : OkP l) (id : Nat) : OkP (dropL l id) :=
  ⟨ris_drop h.ris id, fun r hr => h.ids r (List.mem_filter.1 hr).1, Nat.le_trans (used_sub List.filter_sublist) h.fit⟩

theorem OkP.len {l : Pg} (h : OkP l) : l.length ≤ 42 := by have := usedP_ge l; have := h.fit; omega

theorem OkP.str {l : Pg} (h : OkP l) {r : Bod} (hr : r ∈ l) : r.2.length ≤ 498 := by have := usedP_mem hr; have := h.fit; omega

/-- the slots: each record's number, where it begins, how long it is -/
def slotsP : Pg → Nat → List UInt8
  | [], _ => []
  | r :: t, e => eightL r.1 ++ twoL (e - r.2.length) ++ twoL r.2.length ++ slotsP t (e - r.2.length)

/-- the records, the first one last -/
def bodsP : Pg → List UInt8
  | [] => []
  | r :: t => bodsP t ++ r.2

/-- a page's bytes -/
def encP (l : Pg) : List UInt8 := twoL l.length ++ slotsP l 512 ++ List.replicate (512 - usedP l) 0 ++ bodsP l

theorem slots_len : ∀ (l : Pg) (e : Nat), (slotsP l e).length = 12 * l.length
  | [], _ => rfl
  | r :: t, e => by
    simp only [slotsP, List.length_append, eightL_len, twoL_len, slots_len t, List.length_cons]; omega

theorem bods_len : ∀ l : Pg, 2 + 12 * l.length + (bodsP l).length = usedP l
  | [] => rfl
  | r :: t => by
    have := bods_len t
    simp only [bodsP, usedP, List.length_append, List.length_cons]; omega

theorem enc_len {l : Pg} (h : usedP l ≤ 512) : (encP l).length = 512 := by
  have h1 := bods_len l
  simp only [encP, List.length_append, twoL_len, slots_len, List.length_replicate]; omega

/-- what the slots tell: n records from behind 'sl' on -/
def parseP (s : List UInt8) : Nat → List UInt8 → Option Pg
  | 0, _ => some []
  | n + 1, sl =>
    if 512 < wd ((sl.drop 8).take 2) + wd ((sl.drop 10).take 2) then none
    else (parseP s n (sl.drop 12)).map fun t => (wd (sl.take 8), (s.take (wd ((sl.drop 8).take 2) + wd ((sl.drop 10).take 2))).drop (wd ((sl.drop 8).take 2))) :: t

/-- .. laid in a page, as long as there is room -/
def readP (s : List UInt8) : Nat → List UInt8 → Pg → Option Pg
  | 0, _, l => some l
  | n + 1, sl, l =>
    if 512 < wd ((sl.drop 8).take 2) + wd ((sl.drop 10).take 2) then none
    else if 512 < usedP (putL l (wd (sl.take 8)) ((s.take (wd ((sl.drop 8).take 2) + wd ((sl.drop 10).take 2))).drop (wd ((sl.drop 8).take 2)))) then none
    else readP s n (sl.drop 12) (putL l (wd (sl.take 8)) ((s.take (wd ((sl.drop 8).take 2) + wd ((sl.drop 10).take 2))).drop (wd ((sl.drop 8).take 2))))

theorem lo_all {l : Pg} {id : Nat} (h : ∀ r ∈ l, r.1 < id) : loP l id = l := List.filter_eq_self.2 fun x hx => by simpa using h x hx

theorem hi_none {l : Pg} {id : Nat} (h : ∀ r ∈ l, r.1 < id) : hiP l id = [] := by
  unfold hiP
  rw [List.filter_eq_nil_iff]
  intro x hx
  have := h x hx; simp; omega

theorem put_end {l : Pg} {id : Nat} {s : List UInt8} (h : ∀ r ∈ l, r.1 < id) : putL l id s = l ++ [(id, s)] := by
  unfold putL; rw [lo_all h, hi_none h]

/-- what the slots tell is laid in a page one behind the other, if it may be one -/
theorem read_parse (s : List UInt8) : ∀ (n : Nat) (sl : List UInt8) (a t : Pg), parseP s n sl = some t → RisB (a ++ t) → usedP (a ++ t) ≤ 512 → readP s n sl a = some (a ++ t)
  | 0, sl, a, t, h, _, _ => by
    simp only [parseP, Option.some.injEq] at h
    subst h; simp [readP]
  | n + 1, sl, a, t, h, hr, hu => by
    rw [parseP] at h
    split at h
    · cases h
    rename_i hc
    obtain ⟨t', ht', rfl⟩ := Option.map_eq_some_iff.1 h
    have hlt : ∀ r ∈ a, r.1 < wd (sl.take 8) := fun r hr' => (List.pairwise_append.1 hr).2.2 r hr' _ (List.mem_cons_self)
    rw [readP, if_neg hc, put_end hlt]
    have happ : ∀ x : Bod, a ++ x :: t' = (a ++ [x]) ++ t' := by simp
    rw [happ] at hr hu
    rw [if_neg (by have := used_sub (List.sublist_append_left (a ++ [(wd (sl.take 8), (s.take (wd ((sl.drop 8).take 2) + wd ((sl.drop 10).take 2))).drop (wd ((sl.drop 8).take 2)))]) t'); omega)]
    rw [read_parse s n (sl.drop 12) _ t' ht' hr hu, happ]

theorem slot_facts {id b z : Nat} (hi : id < 18446744073709551616) (hb : b < 65536) (hz : z < 65536) (x : List UInt8) :
    wd ((eightL id ++ twoL b ++ twoL z ++ x).take 8) = id ∧ wd (((eightL id ++ twoL b ++ twoL z ++ x).drop 8).take 2) = b ∧ wd (((eightL id ++ twoL b ++ twoL z ++ x).drop 10).take 2) = z ∧ (eightL id ++ twoL b ++ twoL z ++ x).drop 12 = x := by
  have h8 := eightL_len id
  have hb2 := twoL_len b
  have hz2 := twoL_len z
  have e1 : (eightL id ++ twoL b ++ twoL z ++ x).take 8 = eightL id := by
    rw [List.append_assoc, List.append_assoc, List.take_append_of_le_length (by omega), List.take_of_length_le (by omega)]
  have e2 : (eightL id ++ twoL b ++ twoL z ++ x).drop 8 = twoL b ++ (twoL z ++ x) := by
    rw [List.append_assoc, List.append_assoc, List.drop_left' h8]
  have e3 : (eightL id ++ twoL b ++ twoL z ++ x).drop 10 = twoL z ++ x := by
    rw [List.append_assoc, List.drop_left' (by rw [List.length_append]; omega)]
  have e4 : (eightL id ++ twoL b ++ twoL z ++ x).drop 12 = x := List.drop_left' (by simp only [List.length_append]; omega)
  have t2 : ∀ (n : Nat) (y : List UInt8), (twoL n ++ y).take 2 = twoL n := fun n y => by rw [List.take_append_of_le_length (by rw [twoL_len]; exact Nat.le_refl _), List.take_of_length_le (by rw [twoL_len]; exact Nat.le_refl _)]
  rw [e1, e2, e3, e4, t2, t2, wd_eight hi, wd_two _ hb, wd_two _ hz]
  exact ⟨rfl, rfl, rfl, rfl⟩

/-- a page's bytes tell it -/
theorem parse_slots (s : List UInt8) : ∀ (l : Pg) (e : Nat) (x pre suf : List UInt8), s = pre ++ bodsP l ++ suf → pre.length + (bodsP l).length = e → e ≤ 512 → s.length = 512 → (∀ r ∈ l, r.1 < 18446744073709551616) → parseP s l.length (slotsP l e ++ x) = some l
  | [], _, _, _, _, _, _, _, _, _ => rfl
  | r :: t, e, x, pre, suf, hs, he, h5, hl, hi => by
    have hbl : (bodsP (r :: t)).length = (bodsP t).length + r.2.length := by simp [bodsP]
    have hr : r.2.length ≤ e := by omega
    have hb : e - r.2.length < 65536 := by omega
    have hz : r.2.length < 65536 := by omega
    obtain ⟨f1, f2, f3, f4⟩ := slot_facts (hi r (by simp)) hb hz (slotsP t (e - r.2.length) ++ x)
    have e0 : slotsP (r :: t) e ++ x = eightL r.1 ++ twoL (e - r.2.length) ++ twoL r.2.length ++ (slotsP t (e - r.2.length) ++ x) := by simp [slotsP]
    rw [e0, List.length_cons, parseP, f1, f2, f3, f4, if_neg (by omega)]
    have hs2 : s = pre ++ bodsP t ++ (r.2 ++ suf) := by rw [hs]; simp [bodsP]
    rw [parse_slots s t (e - r.2.length) x pre (r.2 ++ suf) hs2 (by omega) (by omega) hl (fun q hq => hi q (List.mem_cons_of_mem _ hq))]
    have hcut : (s.take (e - r.2.length + r.2.length)).drop (e - r.2.length) = r.2 := by
      have hpl : (pre ++ bodsP t).length = e - r.2.length := by rw [List.length_append]; omega
      rw [hs2, ← List.append_assoc, List.take_append_of_le_length (by rw [List.length_append, hpl]; exact Nat.le_refl _), List.take_of_length_le (by rw [List.length_append, hpl]; exact Nat.le_refl _), List.drop_left' hpl]
    rw [hcut]; rfl

theorem parse_enc {l : Pg} (h : OkP l) : wd ((encP l).take 2) = l.length ∧ parseP (encP l) l.length ((encP l).drop 2) = some l := by
  have hl := h.len
  have hf := h.fit
  have hb := bods_len l
  have e1 : encP l = twoL l.length ++ (slotsP l 512 ++ (List.replicate (512 - usedP l) 0 ++ bodsP l)) := by simp [encP]
  have e2 : encP l = (twoL l.length ++ slotsP l 512 ++ List.replicate (512 - usedP l) 0) ++ bodsP l ++ [] := by simp [encP]
  refine ⟨?_, ?_⟩
  · rw [e1, List.take_append_of_le_length (by rw [twoL_len]; exact Nat.le_refl _), List.take_of_length_le (by rw [twoL_len]; exact Nat.le_refl _), wd_two _ (by omega)]
  · have e3 : (encP l).drop 2 = slotsP l 512 ++ (List.replicate (512 - usedP l) 0 ++ bodsP l) := by rw [e1]; exact List.drop_left' (twoL_len _)
    rw [e3]
    refine parse_slots (encP l) l 512 _ _ [] e2 ?_ (Nat.le_refl _) (enc_len hf) h.ids
    simp only [List.length_append, twoL_len, slots_len, List.length_replicate]; omega

/-- what Decode answers -/
def decP (s : List UInt8) : Option Pg × Int :=
  if s.length < 512 then (none, 4) else if 512 < s.length then (none, 5)
  else if 42 < wd (s.take 2) then (none, 6)
  else match readP s (wd (s.take 2)) (s.drop 2) [] with
    | none => (none, 6)
    | some l => if encP l = s then (some l, 0) else (none, 6)

instance (l : Pg) : Decidable (RisB l) := by unfold RisB; infer_instance

/-- what the reference reads -/
def getP (s : List UInt8) : Option Pg × Int :=
  if s.length < 512 then (none, 4) else if 512 < s.length then (none, 5)
  else if 42 < wd (s.take 2) then (none, 6)
  else match parseP s (wd (s.take 2)) (s.drop 2) with
    | none => (none, 6)
    | some l => if RisB l ∧ usedP l ≤ 512 ∧ encP l = s then (some l, 0) else (none, 6)

theorem put_ok_nil : RisB ([] : Pg) := .nil

theorem read_ok (s : List UInt8) : ∀ (n : Nat) (sl : List UInt8) (a t : Pg), OkP a → readP s n sl a = some t → OkP t
  | 0, _, a, t, h, hr => by
    simp only [readP, Option.some.injEq] at hr; subst hr; exact h
  | n + 1, sl, a, t, h, hr => by
    rw [readP] at hr
    split at hr
    · cases hr
    split at hr
    · cases hr
    rename_i hc
    exact read_ok s n _ _ t (h.put (wd_le8 _ (k := 8) (by rw [List.length_take]; omega) (Nat.le_refl _)) (by omega)) hr

theorem dec_get (s : List UInt8) : decP s = getP s := by
  unfold decP getP
  split
  · rfl
  split
  · rfl
  split
  · rfl
  rename_i h1 h2 h3
  have key : ∀ l, readP s (wd (s.take 2)) (s.drop 2) [] = some l → encP l = s → parseP s (wd (s.take 2)) (s.drop 2) = some l ∧ RisB l ∧ usedP l ≤ 512 := by
    intro l hr he
    have hok := read_ok s _ _ [] l OkP.nil hr
    obtain ⟨p1, p2⟩ := parse_enc hok
    rw [he] at p1 p2
    rw [p1]
    exact ⟨p2, hok.ris, hok.fit⟩
  have back : ∀ l, parseP s (wd (s.take 2)) (s.drop 2) = some l → RisB l → usedP l ≤ 512 → readP s (wd (s.take 2)) (s.drop 2) [] = some l := fun l hp hr hu => by
    have := read_parse s _ _ [] l hp hr hu
    exact this
  cases hp : parseP s (wd (s.take 2)) (s.drop 2) with
  | none =>
    cases hr : readP s (wd (s.take 2)) (s.drop 2) [] with
    | none => rfl
    | some l =>
      simp only
      rw [if_neg]
      intro he
      have := (key l hr he).1
      rw [hp] at this; cases this
  | some l =>
    simp only
    by_cases hg : RisB l ∧ usedP l ≤ 512 ∧ encP l = s
    · rw [if_pos hg, back l hp hg.1 hg.2.1]
      simp only
      rw [if_pos hg.2.2]
    · rw [if_neg hg]
      cases hr : readP s (wd (s.take 2)) (s.drop 2) [] with
      | none => rfl
      | some l' =>
        simp only
        rw [if_neg]
        intro he
        obtain ⟨k1, k2, k3⟩ := key l' hr he
        rw [hp] at k1
        cases k1
        exact hg ⟨k2, k3, he⟩

theorem dec_enc {l : Pg} (h : OkP l) : decP (encP l) = (some l, 0) := by
  obtain ⟨p1, p2⟩ := parse_enc h
  have hl := enc_len h.fit
  rw [dec_get]
  unfold getP
  rw [if_neg (by omega), if_neg (by omega), p1, if_neg (by have := h.len; omega), p2]
  simp only
  rw [if_pos ⟨h.ris, h.fit, trivial⟩]

end Go.Proofs.Ytdfkahkomcfoeaa
