/- ChkM, SrA -/
import Derived.Test.YtgmjhoppjjjilaaDoorQ43
import Derived.Lib.Strings
import Derived.Test.YtgmjhoppjjjilaaDoorQ32
import Derived.Test.YtgmjhoppjjjilaaDoorQ33
import Derived.Test.YtgmjhoppjjjilaaDoorQ37

/- what a value that may be is made of: plain -/
namespace Go.Proofs.YtgmjhoppjjjilaaDoor
open Go.ChangeShapes Go.WideShapes Go.ChangeAt Go.RowKit Go.Fl

theorem chk_parts {k : Int} {b : Bool} {n : Int} {f : Nat} {s : ByteArray} {l : List T} {d : Nat} (h : chkT (.mk k b n f s l) d = 0) : d ≤ 13 ∧ shpT k b n f s l.length = true ∧ s.size ≤ 500 ∧ l.length ≤ 1000 ∧ chkL l (d + 1) = 0 ∧ (k = 6 → risesB l = true) := by
  rw [chkT] at h
  by_cases h1 : 13 < d
  · rw [if_pos h1] at h; exact absurd h (by decide)
  rw [if_neg h1] at h
  by_cases h2 : shpT k b n f s l.length = false
  · rw [if_pos h2] at h; exact absurd h (by decide)
  rw [if_neg h2] at h
  by_cases h3 : 500 < s.size ∨ 1000 < l.length
  · rw [if_pos h3] at h; exact absurd h (by decide)
  rw [if_neg h3] at h
  unfold lex at h
  by_cases h4 : chkL l (d + 1) = 0
  · rw [if_pos h4] at h
    refine ⟨by omega, by simpa using h2, by omega, by omega, h4, fun h6 => ?_⟩
    by_cases hr : risesB l = false
    · rw [if_pos ⟨h6, hr⟩] at h; exact absurd h (by decide)
    · simpa using hr
  · rw [if_neg h4] at h; exact absurd h h4

theorem chkL_all {l : List T} {d : Nat} (h : chkL l d = 0) : ∀ i (hi : i < l.length), chkT l[i] d = 0 := by
  induction l with
  | nil => intro i hi; exact absurd hi (Nat.not_lt_zero _)
  | cons t r ih =>
    rw [chkL] at h
    unfold lex at h
    by_cases h0 : chkT t d = 0
    · rw [if_pos h0] at h
      intro i hi
      match i with
      | 0 => exact h0
      | i + 1 => simpa using ih h i (by simpa using hi)
    · rw [if_neg h0] at h; exact absurd h h0

theorem shp_parts {k : Int} {b : Bool} {n : Int} {f : Nat} {s : ByteArray} {m : Nat} (h : shpT k b n f s m = true) : 0 ≤ k ∧ k ≤ 8 ∧ (b = true → k = 1) ∧ (n ≠ 0 → k = 2 ∨ k = 7 ∨ k = 8) ∧ (k = 7 ∨ k = 8 → 1 ≤ n) ∧ (f ≠ 0 → k = 3) ∧ (s.toList ≠ [] → k = 4) ∧ (m ≠ 0 → k = 5 ∨ k = 6) := by
  unfold shpT at h; exact of_decide_eq_true h

/-- of a tree that came in: its numbers -/
def NumsT (t : T) : Prop := ∃ w B v, Rd w B t v

theorem NumsT.parts {k : Int} {b : Bool} {n : Int} {f : Nat} {s : ByteArray} {l : List T} (h : NumsT (.mk k b n f s l)) : is64 n = true ∧ f < 18446744073709551616 ∧ ∀ i (hi : i < l.length), NumsT l[i] := by
  obtain ⟨w, B, v, h⟩ := h
  obtain ⟨A, cap, rfl, hk, hn, hf, hs, hc, hm, hA, hl⟩ := h.open
  exact ⟨hn, hf, fun i hi => by obtain ⟨a, u, -, -, -, hu⟩ := hl i hi; exact ⟨w, B, u, hu⟩⟩

theorem chkF_two {t : T} (h : chkF t = 0) : chkT t 1 = 0 := by
  unfold chkF at h
  by_cases h6 : 60000 < tot t
  · rw [if_pos h6] at h; exact absurd h (by decide)
  · rwa [if_neg h6] at h

theorem shp_mk {k : Int} {b : Bool} {n : Int} {f : Nat} {s : ByteArray} {m : Nat} (h : 0 ≤ k ∧ k ≤ 8 ∧ (b = true → k = 1) ∧ (n ≠ 0 → k = 2 ∨ k = 7 ∨ k = 8) ∧ (k = 7 ∨ k = 8 → 1 ≤ n) ∧ (f ≠ 0 → k = 3) ∧ (s.toList ≠ [] → k = 4) ∧ (m ≠ 0 → k = 5 ∨ k = 6)) : shpT k b n f s m = true := by
  unfold shpT; exact decide_eq_true h

theorem chk_mk {k : Int} {b : Bool} {n : Int} {f : Nat} {s : ByteArray} {l : List T} {d : Nat} (hd : d ≤ 13) (hsh : shpT k b n f s l.length = true) (hs : s.size ≤ 500) (hlen : l.length ≤ 1000) (hL : chkL l (d + 1) = 0) (h6 : k = 6 → risesB l = true) : chkT (.mk k b n f s l) d = 0 := by
  rw [chkT, if_neg (by omega), if_neg (by rw [hsh]; decide), if_neg (by omega), hL]
  unfold lex
  rw [if_pos rfl, if_neg]
  rintro ⟨h, hr⟩
  rw [h6 h] at hr
  exact absurd hr (by decide)

theorem empty_list : (⟨#[]⟩ : ByteArray).toList = [] := by rw [Lib.toList_data]

end Go.Proofs.YtgmjhoppjjjilaaDoor

/- what a told value's text says, read again: the plain mathematics -/
namespace Go.Proofs.YtgmjhoppjjjilaaDoor
open Go.ChangeShapes Go.WideShapes Go.ChangeAt Go.RowKit Go.Fl

/-- a word without its place -/
def era (x : Wd) : Wd := { x with at_ := 0 }

/-- the words of what is left, of which n were read -/
def wdR : Nat → List UInt8 → Nat → Option (List Wd)
  | 0, _, _ => none
  | fu + 1, r, n =>
    match r with
    | [] => some [⟨0, ⟨#[]⟩, 0, 0, 0⟩]
    | c :: q =>
      if c = 32 then wdR fu q n
      else match oneR (c :: q) with
        | none => none
        | some (x, m) => if n = 1500 then none else (wdR fu ((c :: q).drop m) (n + 1)).map (era x :: ·)

theorem wdR_end (fu n : Nat) : wdR (fu + 1) [] n = some [⟨0, ⟨#[]⟩, 0, 0, 0⟩] := rfl

theorem wdR_spc (fu n : Nat) (q : List UInt8) : wdR (fu + 1) (32 :: q) n = wdR fu q n := rfl

theorem wdR_one {fu n : Nat} {c : UInt8} {q : List UInt8} {x : Wd} {m : Nat} (hc : c ≠ 32) (ho : oneR (c :: q) = some (x, m)) (hn : n ≠ 1500) : wdR (fu + 1) (c :: q) n = (wdR fu ((c :: q).drop m) (n + 1)).map (era x :: ·) := by
  show (if c = 32 then wdR fu q n else match oneR (c :: q) with | none => none | some (x, m) => if n = 1500 then none else (wdR fu ((c :: q).drop m) (n + 1)).map (era x :: ·)) = _
  rw [if_neg hc, ho]
  exact if_neg hn

theorem wdR_step {fu n : Nat} {c : UInt8} {q : List UInt8} {ws : List Wd} (hc : c ≠ 32) (h : wdR fu (c :: q) n = some ws) : ∃ fu' x m ws', fu = fu' + 1 ∧ oneR (c :: q) = some (x, m) ∧ wdR fu' ((c :: q).drop m) (n + 1) = some ws' ∧ ws = era x :: ws' := by
  cases fu with
  | zero => cases h
  | succ fu =>
    have h' : (if c = 32 then wdR fu q n else match oneR (c :: q) with | none => none | some (x, m) => if n = 1500 then none else (wdR fu ((c :: q).drop m) (n + 1)).map (era x :: ·)) = some ws := h
    rw [if_neg hc] at h'
    cases ho : oneR (c :: q) with
    | none => rw [ho] at h'; cases h'
    | some xm =>
      obtain ⟨x, m⟩ := xm
      rw [ho] at h'
      replace h' : (if n = 1500 then none else (wdR fu ((c :: q).drop m) (n + 1)).map (era x :: ·)) = some ws := h'
      split at h'
      · cases h'
      · cases hw : wdR fu ((c :: q).drop m) (n + 1) with
        | none => rw [hw] at h'; cases h'
        | some ws' =>
          rw [hw] at h'
          exact ⟨fu, x, m, ws', rfl, rfl, hw, (Option.some.inj h').symm⟩

theorem rwGo_wdR (l : List UInt8) : ∀ (fu a : Nat) (acc ws : List Wd) (p : Nat), rwGo l fu a acc = (ws, p, 0) → a ≤ l.length → l.length + 1 ≤ a + fu → ∃ ws2, wdR fu (l.drop a) acc.length = some ws2 ∧ ws.map era = acc.map era ++ ws2 := by
  intro fu
  induction fu with
  | zero => intro a acc ws p _ h1 h2; omega
  | succ fu ih =>
    intro a acc ws p h h1 h2
    rcases hd : l.drop a with _ | ⟨c, r⟩
    · rw [rwGo_end hd] at h
      injection h with h _
      subst h
      exact ⟨_, rfl, by simp [era]⟩
    · have hr : l.drop (a + 1) = r := by rw [← List.drop_drop, hd]; rfl
      have hlen : (c :: r).length = l.length - a := by rw [← hd, List.length_drop]
      rw [List.length_cons] at hlen
      by_cases hc : c = 32
      · subst hc
        rw [rwGo_spc hd] at h
        obtain ⟨ws2, h3, h4⟩ := ih (a + 1) acc ws p h (by omega) (by omega)
        exact ⟨ws2, by rw [wdR_spc, ← hr]; exact h3, h4⟩
      · cases ho : oneR (c :: r) with
        | none =>
          rw [rwGo_bad hd hc ho] at h
          injection h with _ h; injection h with _ h
          exact absurd h (by decide)
        | some xm =>
          obtain ⟨x, m⟩ := xm
          by_cases hm : acc.length = 1500
          · rw [rwGo_most hd hc ho hm] at h
            injection h with _ h; injection h with _ h
            exact absurd h (by decide)
          · rw [rwGo_go hd hc ho hm] at h
            have ht := oneR_tells ho
            rw [List.length_cons] at ht
            obtain ⟨ws2, h3, h4⟩ := ih (a + m) _ ws p h (by omega) (by omega)
            refine ⟨era x :: ws2, ?_, by rw [h4]; simp [era]⟩
            rw [wdR_one hc ho hm, ← hd, List.drop_drop]
            rw [List.length_append, List.length_singleton] at h3
            rw [h3]
            rfl

theorem one_sign {c : UInt8} (q : List UInt8) (h : c = 46 ∨ c = 40 ∨ c = 41 ∨ c = 44 ∨ c = 91 ∨ c = 93) : oneR (c :: q) = some (⟨5, ofL [c], 0, 0, 0⟩, 1) := by
  rcases h with rfl | rfl | rfl | rfl | rfl | rfl
  all_goals
    unfold oneR
    simp only []
    rw [if_neg (by rintro ⟨h, -⟩; exact absurd h (by decide)), if_neg (by decide), if_neg (by decide), if_neg (by decide), if_pos (by decide)]

/-- no name goes on -/
def Sep (rest : List UInt8) : Prop := ∀ c q, rest = c :: q → namB c = false

theorem dig_nam {c : UInt8} (h : namB c = false) : digB c = false := by
  unfold namB at h
  simp only [Bool.or_eq_false_iff] at h
  exact h.1.2

theorem run_head {P : UInt8 → Bool} {c : UInt8} {q rest : List UInt8} (ha : q.all P = true) (hr : ∀ b t, rest = b :: t → P b = false) : runP P (c :: q ++ rest) 1 = (c :: q).length := by
  unfold runP
  rw [show (c :: q ++ rest).drop 1 = q ++ rest from rfl, List.takeWhile_append_of_pos (by simpa using ha)]
  have : rest.takeWhile P = [] := by
    cases rest with
    | nil => rfl
    | cons b t => simp [hr b t rfl]
  rw [this, List.append_nil, List.length_cons]
  omega

theorem one_name {c : UInt8} {q rest : List UInt8} (hc : namB c = true) (hd : digB c = false) (hf : c ≠ 102 ∨ q.head? ≠ some 39 ∧ q ≠ []) (ha : q.all namB = true) (hq : q.length < 16) (hr : Sep rest) : oneR (c :: q ++ rest) = some (⟨1, ofL (c :: q), 0, 0, 0⟩, (c :: q).length) := by
  have h39 : c ≠ 39 := fun e => by rw [e] at hc; exact absurd hc (by decide)
  have h45 : c ≠ 45 := fun e => by rw [e] at hc; exact absurd hc (by decide)
  have hrun := run_head (P := namB) (c := c) ha hr
  unfold oneR
  rw [List.cons_append]
  simp only []
  rw [if_neg, if_neg h39, if_neg (by rintro (h | h); exact h45 h; rw [hd] at h; cases h), if_pos hc]
  · unfold namR
    rw [← List.cons_append, hrun, if_neg (by rw [List.length_cons]; omega)]
    rw [List.take_left]
  · rintro ⟨h, h2⟩
    rcases hf with hf | ⟨hf, hn⟩
    · exact hf h
    · cases q with
      | nil => exact hn rfl
      | cons b t => exact hf h2

theorem itoa_shape (n : Int) : ∃ c q, Lib.itoa n = c :: q ∧ (c = 45 ∨ digB c = true) ∧ q.all digB = true := by
  have hd : ∀ u, ∃ c q, Lib.decDigits u = c :: q ∧ digB c = true ∧ q.all digB = true := fun u => by
    have ha := dec_all u
    cases h : Lib.decDigits u with
    | nil => exact absurd h (dec_ne u)
    | cons c q =>
      rw [h, List.all_cons, Bool.and_eq_true] at ha
      exact ⟨c, q, rfl, ha.1, ha.2⟩
  unfold Lib.itoa
  split
  · exact ⟨45, _, rfl, .inl rfl, dec_all _⟩
  · obtain ⟨c, q, h, h1, h2⟩ := hd n.toNat
    exact ⟨c, q, h, .inr h1, h2⟩

theorem one_itoa {n : Int} {rest : List UInt8} (hn : is64 n = true) (hr : Sep rest) : oneR (Lib.itoa n ++ rest) = some (⟨2, ⟨#[]⟩, n, 0, 0⟩, (Lib.itoa n).length) := by
  obtain ⟨h1, h2⟩ := is64_iff.1 hn
  have hi := intO_itoa n h1 (by omega)
  obtain ⟨c, q, he, hc, hq⟩ := itoa_shape n
  rw [he] at hi ⊢
  have hrun := run_head (P := digB) (c := c) (rest := rest) hq (fun b t e => dig_nam (hr b t e))
  unfold oneR
  rw [List.cons_append]
  simp only []
  rw [if_neg (by rintro ⟨h, -⟩; rw [h] at hc; exact absurd hc (by decide)), if_neg (by intro h; rw [h] at hc; exact absurd hc (by decide)), if_pos hc]
  unfold intR
  rw [← List.cons_append, hrun, List.take_left, hi]

theorem qGo_say : ∀ (r : List UInt8) (fu : Nat) (l acc rest : List UInt8) (a : Nat), l.drop a = sayL r ++ 39 :: rest → r.length < fu → qGo fu l acc a = some (acc ++ r, a + (sayL r).length + 1)
  | [], fu + 1, l, acc, rest, a, hd, _ => by
    rw [qGo_end (r := rest) hd]
    simp [sayL]
  | c :: r, fu + 1, l, acc, rest, a, hd, hf => by
    obtain ⟨b, q, hb, hne⟩ := sayC_cons c
    have hby := bytO_say c (sayL r ++ 39 :: rest)
    have hd2 : l.drop a = sayC c ++ (sayL r ++ 39 :: rest) := by rw [hd, sayL, List.append_assoc]
    have hd3 : l.drop (a + (sayC c).length) = sayL r ++ 39 :: rest := by
      rw [← List.drop_drop, hd2, List.drop_append_of_le_length (Nat.le_refl _), List.drop_eq_nil_of_le (Nat.le_refl _), List.nil_append]
    have hd4 := hd2
    rw [hb, List.cons_append] at hd4 hby
    rw [List.length_cons] at hf
    rw [qGo_go hd4 hne hby, ← hb, qGo_say r fu l (acc ++ [c]) rest (a + (sayC c).length) hd3 (by omega)]
    rw [List.append_assoc, sayL, List.length_append]
    congr 2
    omega

theorem quoO_say (r rest : List UInt8) : quoO (textL r ++ rest) = some (r, (textL r).length) := by
  have hg := sayL_ge r
  have e : textL r ++ rest = 39 :: (sayL r ++ 39 :: rest) := by unfold textL; simp
  rw [e]
  unfold quoO
  simp only [if_true]
  rw [qGo_say r _ _ [] rest 1 rfl (by simp; omega), textL_len, List.nil_append]
  congr 2
  omega

theorem one_text (r rest : List UInt8) : oneR (textL r ++ rest) = if 500 < r.length then none else some (⟨4, ofL r, 0, 0, 0⟩, (textL r).length) := by
  have hq := quoO_say r rest
  have e : textL r ++ rest = 39 :: (sayL r ++ 39 :: rest) := by unfold textL; simp
  rw [e] at hq ⊢
  unfold oneR
  simp only []
  rw [if_neg (by rintro ⟨h, -⟩; exact absurd h (by decide))]
  simp only [if_true]
  unfold txtR
  rw [hq]

theorem hexC_fin : ∀ i : Fin 16, plnB (hexC i.val) = true ∧ hexC i.val ≠ 39 ∧ hexC i.val ≠ 92 := by decide +kernel

theorem hex16_plain : ∀ (k v : Nat), ∀ c ∈ hex16 v k, plnB c = true ∧ c ≠ 39 ∧ c ≠ 92
  | 0, v, c, h => by cases h
  | k + 1, v, c, h => by
    rw [hex16, List.mem_append] at h
    rcases h with h | h
    · exact hex16_plain k _ c h
    · rw [List.mem_singleton] at h
      subst h
      exact hexC_fin ⟨v % 16, by omega⟩

theorem say_self : ∀ (t : List UInt8), (∀ c ∈ t, plnB c = true ∧ c ≠ 39 ∧ c ≠ 92) → sayL t = t
  | [], _ => rfl
  | c :: r, h => by
    obtain ⟨h1, h2, h3⟩ := h c (List.mem_cons_self ..)
    rw [sayL, say_self r (fun d hd => h d (List.mem_cons_of_mem _ hd))]
    have : sayC c = [c] := by
      unfold sayC
      rw [if_neg (by rw [h1]; decide), if_neg (by rintro (e | e); exact h2 e; exact h3 e)]
    rw [this]
    rfl

theorem hexD_hexC (i : Nat) (h : i < 16) : hexD (hexC i) = i := by unfold hexD; rw [hexI_hexC i h]; rfl

theorem hxV_hex16 : ∀ (k v : Nat), v < 16 ^ k → hxV (hex16 v k) = v
  | 0, v, h => by
    have : v = 0 := by simpa using h
    subst this
    rfl
  | k + 1, v, h => by
    rw [hex16, hxV_snoc, hxV_hex16 k (v / 16) (by rw [Nat.pow_succ] at h; omega), hexD_hexC _ (by omega)]
    omega

theorem hexG_hex16 : ∀ (k v : Nat), (hex16 v k).all hexG = true
  | 0, v => rfl
  | k + 1, v => by
    rw [hex16, List.all_append, hexG_hex16 k, List.all_cons]
    unfold hexG
    rw [hexD_hexC _ (by omega), decide_eq_true (by omega : v % 16 < 16)]
    rfl

theorem one_float {u : Nat} (hu : u < 18446744073709551616) (hc : canonN u = u) (rest : List UInt8) : oneR (fltL u ++ rest) = some (⟨3, ⟨#[]⟩, 0, u, 0⟩, 19) := by
  have hs := say_self (hex16 u 16) (hex16_plain 16 u)
  have e : fltL u ++ rest = 102 :: (textL (hex16 u 16) ++ rest) := by unfold fltL textL; rw [hs]; simp
  have hq := quoO_say (hex16 u 16) rest
  have hv := hxV_hex16 16 u (by rw [show (16 : Nat) ^ 16 = 18446744073709551616 by decide]; exact hu)
  have hl : (textL (hex16 u 16)).length = 18 := by rw [textL_len, hs, hex16_len]
  rw [hl] at hq
  rw [e]
  unfold oneR
  simp only []
  rw [if_pos (by unfold textL; simp)]
  unfold fltR
  rw [hq]
  simp only []
  rw [if_pos ⟨hex16_len _ _, hexG_hex16 _ _, by rw [hv]; exact hc⟩, hv]

end Go.Proofs.YtgmjhoppjjjilaaDoor
