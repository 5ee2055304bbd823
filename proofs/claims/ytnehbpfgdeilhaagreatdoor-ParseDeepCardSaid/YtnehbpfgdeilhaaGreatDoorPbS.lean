/- parse: what words there are; what a text comes to -/
import Derived.Test.YtnehbpfgdeilhaaGreatDoorPaX
import Derived.Test.YtnehbpfgdeilhaaGreatDoorLxF

namespace Go.Proofs.YtnehbpfgdeilhaaGreatDoor
open Go.ChangeShapes Go.WideShapes Go.ChangeAt Go.RowKit Go.Fl

/-- a word as lex makes it -/
def WdOk (m : Nat) (x : Wd) : Prop := 1 ≤ x.k ∧ x.k ≤ 5 ∧ is64 x.n = true ∧ x.f < 18446744073709551616 ∧ x.s.size ≤ m

theorem ofL_size' (l : List UInt8) : (ofL l).size = l.length := by simp [ofL, ByteArray.size]

theorem read_ok {l : List UInt8} {x : Wd} {n m : Nat} (hl : l.length ≤ m) (hm : 500 ≤ m) (h : readO canonN l = some (x, n)) : WdOk m x := by
  obtain ⟨-, -, h1, h5, -⟩ := read_tells canonN l x n h
  refine ⟨h1, h5, ?_⟩
  unfold readO at h
  split at h
  · cases h
  · rename_i c r
    split at h
    · unfold fltO at h
      split at h
      · cases h
      · split at h
        · cases h
        · rename_i b hb
          split at h
          · injection h with h; injection h with h; subst h
            have hlt := hexGo_lt _ 0 b 0 (by decide) hb
            have hlen : (((c :: r).take 18).drop 2).length ≤ 16 := by rw [List.length_drop, List.length_take]; omega
            refine ⟨(by decide : is64 0 = true), Nat.lt_of_lt_of_le hlt (by rw [Nat.zero_add]; exact Nat.le_trans (Nat.pow_le_pow_right (by decide) hlen) (by decide)), ?_⟩
            show (ofL ((c :: r).take 19)).size ≤ m
            rw [ofL_size', List.length_take]; omega
          · cases h
    · split at h
      · unfold txtO at h
        split at h
        · cases h
        · rename_i t k he
          have := txtGo_le _ _ _ _ _ _ he
          injection h with h; injection h with h; subst h
          refine ⟨(by decide : is64 0 = true), (by decide : (0 : Nat) < 18446744073709551616), ?_⟩
          show (ofL t).size ≤ m
          rw [ofL_size']; omega
      · split at h
        · unfold numO at h
          split at h
          · rename_i v hv
            split at h
            · injection h with h; injection h with h; subst h
              have hvb := Lib.parseIntB_bounds hv
              refine ⟨(is64_yes (by omega) (by omega) : is64 v = true), (by decide : (0 : Nat) < 18446744073709551616), ?_⟩
              show (ofL (numL (c :: r))).size ≤ m
              rw [ofL_size']
              unfold numL
              rw [List.length_take]; omega
            · cases h
          · cases h
          · cases h
        · split at h
          · injection h with h; injection h with h; subst h
            refine ⟨(by decide : is64 0 = true), (by decide : (0 : Nat) < 18446744073709551616), ?_⟩
            show (ofL [c]).size ≤ m
            rw [ofL_size']; simp; omega
          · unfold nameO at h
            split at h
            · cases h
            · injection h with h; injection h with h; subst h
              refine ⟨(by decide : is64 0 = true), (by decide : (0 : Nat) < 18446744073709551616), ?_⟩
              show (ofL ((c :: r).take _)).size ≤ m
              rw [ofL_size', List.length_take]; omega

theorem wdsGo_gd {l : List UInt8} (hl : l.length ≤ 3000) : ∀ (fu a : Nat) (acc ws : List Wd), (∀ x ∈ acc, WdOk 3000 x ∧ x.at_ ≤ 3000) → wdsGo canonN l fu a acc = (ws, 0, 0) → ws ≠ [] → Gd ws
  | 0, _, _, _, _, h, hn => by rw [wdsGo] at h; cases h; exact absurd rfl hn
  | fu + 1, a, acc, ws, hacc, h, hn => by
    rw [wdsGo] at h
    split at h
    · rename_i ha
      split at h
      · cases h
      · rename_i x n hr
        refine wdsGo_gd hl fu _ _ ws ?_ h hn
        intro y hy
        rw [List.mem_append, List.mem_singleton] at hy
        rcases hy with hy | rfl
        · exact hacc y hy
        · have := read_ok (m := 3000) (by rw [List.length_drop]; omega) (by decide) hr
          exact ⟨this, by show a ≤ 3000; omega⟩
    · split at h
      · injection h with _ h; injection h with _ h; exact absurd h (by decide)
      · rename_i hk
        injection h with h
        subst h
        refine ⟨by rw [List.length_append, List.length_singleton]; omega, fun x hx => ?_, fun x hx => ?_⟩
        · rw [List.length_append, List.length_singleton, Nat.add_sub_cancel, List.getElem?_append_right (Nat.le_refl _), Nat.sub_self] at hx
          injection hx with hx
          subst hx
          rfl
        · rw [List.mem_append, List.mem_singleton] at hx
          rcases hx with hx | rfl
          · obtain ⟨⟨h1, h2, h3, h4, h5⟩, h6⟩ := hacc x hx
            exact ⟨by omega, h2, h3, h4, h5, h6⟩
          · exact ⟨(by decide : (0 : Int) ≤ 0), (by decide : (0 : Int) ≤ 5), (by decide : is64 0 = true), (by decide : (0 : Nat) < 18446744073709551616), (by decide : (0 : Nat) ≤ 3000), hl⟩

theorem wds_gd {l : List UInt8} {ws : List Wd} (h : wdsO canonN l = (ws, 0, 0)) (hn : ws ≠ []) : Gd ws := by
  unfold wdsO at h
  split at h
  · cases h
  · rename_i hl
    exact wdsGo_gd (by omega) _ _ _ _ (fun x hx => by cases hx) h hn

theorem wdsGo_ne {cn : Nat → Nat} {l : List UInt8} : ∀ (fu a : Nat) (acc ws : List Wd) (p : Nat), a ≤ l.length → l.length < a + fu → wdsGo cn l fu a acc = (ws, p, 0) → ws ≠ [] ∧ p = 0
  | 0, a, acc, ws, p, ha, hf, h => by omega
  | fu + 1, a, acc, ws, p, ha, hf, h => by
    rw [wdsGo] at h
    split at h
    · rename_i hlt
      split at h
      · cases h
      · rename_i x n hr
        obtain ⟨h0, h1, -⟩ := read_tells cn _ x n hr
        rw [List.length_drop] at h1
        have hge := runP_ge spcB l (a + n)
        have hle := runP_le (P := spcB) (l := l) (k := a + n) (by omega)
        exact wdsGo_ne fu _ _ ws p hle (by omega) h
    · split at h
      · cases h
      · cases h; simp

theorem wds_ne {cn : Nat → Nat} {l : List UInt8} {ws : List Wd} {p : Nat} (h : wdsO cn l = (ws, p, 0)) : ws ≠ [] ∧ p = 0 := by
  unfold wdsO at h
  split at h
  · cases h
  · exact wdsGo_ne _ _ _ _ _ (runP_le (Nat.zero_le _)) (by have := runP_ge spcB l 0; omega) h

/-- what a text comes to: its steps, or where and why not -/
inductive Prs where
  | ok (l : List Sp) : Prs
  | bad (a : Nat) (e : Int) : Prs

def prsW (ws : List Wd) : Prs :=
  match pText (gx ws) with
  | .ok l _ => .ok l
  | .bad j c => .bad (ws.getD j wdNone).at_ c

def parseO (l : List UInt8) : Prs := if (wdsO canonN l).2.2 = 0 then prsW (wdsO canonN l).1 else .bad (wdsO canonN l).2.1 (wdsO canonN l).2.2

/-- what package parse's Parse tells -/
def PrsP (r : Prs) (w : World) (e : Ending) (w' : World) : Prop :=
  Below w.heap.size w w' ∧ match r with
  | .ok l => ∃ v, e = .returned (.tuple #[v, .int .i64 0, .int .i64 0]) ∧ RdTr 13 w' (fun b => w.heap.size ≤ b ∧ b < w'.heap.size) l v
  | .bad a c => e = .returned (.tuple #[.slice none 0 0, .int .i64 (a : Nat), .int .i64 c])

end Go.Proofs.YtnehbpfgdeilhaaGreatDoor

namespace Go.Proofs.YtnehbpfgdeilhaaGreatDoor
open Go Go.Fl

theorem runP_sp {P : UInt8 → Bool} (hP : P 32 = false) {x : List UInt8} {k : Nat} (hk : k ≤ x.length) : runP P (x ++ [32]) k = runP P x k := by
  unfold runP
  rw [List.drop_append_of_le_length hk]
  congr 2
  generalize x.drop k = y
  induction y with
  | nil => simp [hP]
  | cons c r ih =>
    rw [List.cons_append, List.takeWhile_cons, List.takeWhile_cons]
    split
    · rw [ih]
    · rfl

theorem take_sp {x : List UInt8} {k : Nat} (hk : k ≤ x.length) : (x ++ [32]).take k = x.take k := List.take_append_of_le_length hk

theorem byt_sp {y : List UInt8} (hy : y ≠ []) : bytO (y ++ [32]) = bytO y := by
  have h32 : hexI 32 = none := by decide
  match y, hy with
  | [c], _ =>
    show bytO [c, 32] = bytO [c]
    by_cases h1 : plnB c = false
    · simp [bytO, h1]
    · by_cases h2 : c = 92
      · simp [bytO, h2]
      · simp [bytO, h1, h2]
  | [c, d], _ =>
    show bytO [c, d, 32] = bytO [c, d]
    by_cases h1 : plnB c = false
    · simp [bytO, h1]
    · by_cases h2 : c = 92
      · simp [bytO, h2]
      · simp [bytO, h1, h2]
  | [c, d, e], _ =>
    show bytO [c, d, e, 32] = bytO [c, d, e]
    by_cases h1 : plnB c = false
    · simp [bytO, h1]
    · by_cases h2 : c = 92
      · cases he : hexI e <;> simp [bytO, h2, h32, he]
      · simp [bytO, h1, h2]
  | c :: d :: e :: f :: r, _ => rfl

theorem txt_none {l acc : List UInt8} {a fu : Nat} (h : l.length ≤ a) : txtGo fu l acc a = none := by
  cases fu with
  | zero => rfl
  | succ fu => rw [txtGo, List.drop_eq_nil_of_le h]

theorem txt_end {x acc : List UInt8} {fu : Nat} : txtGo fu (x ++ [32]) acc x.length = none := by
  cases fu with
  | zero => rfl
  | succ fu =>
    rw [txtGo, List.drop_append_of_le_length (Nat.le_refl _), List.drop_length, List.nil_append]
    have h1 : bytO [32] = some (32, 1) := by decide
    simp only [h1]
    rw [if_neg (by decide)]
    exact txt_none (by simp)

theorem txt_sp {x : List UInt8} : ∀ (fu fu' : Nat) (acc : List UInt8) (a : Nat), x.length ≤ a + fu → x.length ≤ a + fu' → txtGo fu' (x ++ [32]) acc a = txtGo fu x acc a
  | fu, fu', acc, a, h, h' => by
    by_cases ha : a < x.length
    · match fu, fu' with
      | 0, _ => omega
      | _, 0 => omega
      | fu + 1, fu' + 1 =>
        rw [txtGo, txtGo, List.drop_append_of_le_length (by omega)]
        cases hd : x.drop a with
        | nil => have := congrArg List.length hd; rw [List.length_drop, List.length_nil] at this; omega
        | cons c r =>
          have hb := byt_sp (y := c :: r) (by simp)
          rw [List.cons_append] at hb ⊢
          dsimp only
          rw [hb]
          split
          · rfl
          · cases hby : bytO (c :: r) with
            | none => rfl
            | some q =>
              obtain ⟨b, n⟩ := q
              have := (bytO_le hby).1
              exact txt_sp fu fu' _ (a + n) (by omega) (by omega)
    · rw [txt_none (fu := fu) (l := x) (by omega)]
      by_cases he : a = x.length
      · subst he; exact txt_end
      · exact txt_none (by rw [List.length_append, List.length_singleton]; omega)

theorem txtO_sp {x : List UInt8} : txtO (x ++ [32]) = txtO x := by
  unfold txtO
  have h := txt_sp (x := x) x.length (x ++ [32]).length [] 1 (by omega) (by rw [List.length_append]; omega)
  rw [h]

theorem numO_sp {x : List UInt8} (hx : x ≠ []) : numO (x ++ [32]) = numO x := by
  have hl : 1 ≤ x.length := List.length_pos_iff.2 hx
  have h1 : runP digB (x ++ [32]) 1 = runP digB x 1 := runP_sp (by decide) hl
  have h2 : numL (x ++ [32]) = numL x := by unfold numL; rw [h1]; exact take_sp (runP_le hl)
  unfold numO
  rw [h1, h2]

theorem nameO_sp {x : List UInt8} : nameO (x ++ [32]) = nameO x := by
  have h1 : runP namB (x ++ [32]) 0 = runP namB x 0 := runP_sp (by decide) (Nat.zero_le _)
  unfold nameO
  rw [h1, take_sp (runP_le (Nat.zero_le _))]

theorem flt_last (n : Nat) (x : List UInt8) : fltL n ≠ x ++ [32] := by
  intro h
  unfold fltL at h
  have a : (x ++ [32]).getLast? = some 32 := by rw [List.getLast?_append]; rfl
  have b : ([102, 39] ++ hex16 n 16 ++ [39]).getLast? = some 39 := by rw [List.getLast?_append]; rfl
  rw [h, a] at b
  exact absurd b (by decide)

theorem fltO_sp {cn : Nat → Nat} {x : List UInt8} : fltO cn (x ++ [32]) = fltO cn x := by
  unfold fltO
  by_cases h19 : x.length < 18
  · rw [if_pos (by rw [List.length_append, List.length_singleton]; omega), if_pos (by omega)]
  · by_cases h18 : x.length = 18
    · rw [if_neg (by rw [List.length_append, List.length_singleton]; omega), if_pos (by omega), List.take_of_length_le (i := 19) (by rw [List.length_append, List.length_singleton]; omega)]
      split
      · rfl
      · rw [if_neg (flt_last _ _)]
    · rw [if_neg (by rw [List.length_append, List.length_singleton]; omega), if_neg (by omega), take_sp (by omega), take_sp (by omega)]

theorem read_sp {cn : Nat → Nat} {x : List UInt8} (hx : x ≠ []) : readO cn (x ++ [32]) = readO cn x := by
  match x, hx with
  | c :: r, _ =>
    have hp : [102, 39].isPrefixOf (c :: r ++ [32]) = [102, 39].isPrefixOf (c :: r) := by
      cases r with
      | nil => simp [List.isPrefixOf]
      | cons d r => simp [List.isPrefixOf]
    have h1 := fltO_sp (cn := cn) (x := c :: r)
    have h2 := txtO_sp (x := c :: r)
    have h3 := numO_sp (x := c :: r) (by simp)
    have h4 := nameO_sp (x := c :: r)
    rw [List.cons_append] at hp h1 h2 h3 h4 ⊢
    unfold readO
    dsimp only
    rw [hp, h1, h2, h3, h4]

/-- a word without its place -/
def noAt (x : Wd) : Wd := { x with at_ := 0 }

/-- where a place of l lies among l with spaces round it -/
def shP (l : List UInt8) (a : Nat) : Nat := if a < l.length then a + 1 else l.length + 2

theorem runP_sh {l : List UInt8} {k : Nat} (hk : k ≤ l.length) : runP spcB (32 :: (l ++ [32])) (k + 1) = shP l (runP spcB l k) := by
  have h0 : runP spcB (32 :: (l ++ [32])) (k + 1) = runP spcB (l ++ [32]) k + 1 := by
    unfold runP
    rw [List.drop_succ_cons]
    omega
  rw [h0]
  unfold runP shP
  rw [List.drop_append_of_le_length hk]
  have key : ∀ y : List UInt8, ((y ++ [32]).takeWhile spcB).length = if (y.takeWhile spcB).length < y.length then (y.takeWhile spcB).length else y.length + 1 := by
    intro y
    induction y with
    | nil => rfl
    | cons c r ih =>
      rw [List.cons_append, List.takeWhile_cons, List.takeWhile_cons]
      split
      · rw [List.length_cons, List.length_cons, List.length_cons, ih]
        split <;> split <;> omega
      · simp
  rw [key, List.length_drop]
  have := (List.takeWhile_prefix (l := l.drop k) spcB).length_le
  rw [List.length_drop] at this
  split <;> split <;> omega

theorem wdsGo_sp {cn : Nat → Nat} {l : List UInt8} : ∀ (fu fu' a : Nat) (acc acc' : List Wd), a ≤ l.length → l.length < a + fu → l.length < a + fu' → acc'.map noAt = acc.map noAt →
    (wdsGo cn (32 :: (l ++ [32])) fu' (shP l a) acc').2.2 = (wdsGo cn l fu a acc).2.2 ∧ (wdsGo cn (32 :: (l ++ [32])) fu' (shP l a) acc').1.map noAt = (wdsGo cn l fu a acc).1.map noAt
  | 0, _, a, _, _, ha, hf, _, _ => by omega
  | _, 0, a, _, _, ha, _, hf, _ => by omega
  | fu + 1, fu' + 1, a, acc, acc', ha, hf, hf', hacc => by
    have hlen : acc'.length = acc.length := by have := congrArg List.length hacc; simpa using this
    rw [wdsGo, wdsGo]
    by_cases hlt : a < l.length
    · have hs : shP l a = a + 1 := by unfold shP; rw [if_pos hlt]
      rw [hs, if_pos (show a + 1 < (32 :: (l ++ [32])).length by rw [List.length_cons, List.length_append]; omega), if_pos hlt]
      have hd : (32 :: (l ++ [32])).drop (a + 1) = l.drop a ++ [32] := by rw [List.drop_succ_cons, List.drop_append_of_le_length ha]
      have hne : l.drop a ≠ [] := by intro e; have := congrArg List.length e; rw [List.length_drop, List.length_nil] at this; omega
      rw [hd, read_sp hne]
      cases hr : readO cn (l.drop a) with
      | none => exact ⟨rfl, rfl⟩
      | some q =>
        obtain ⟨x, n⟩ := q
        obtain ⟨h0, h1, -⟩ := read_tells cn _ x n hr
        rw [List.length_drop] at h1
        dsimp only
        rw [show a + 1 + n = (a + n) + 1 by omega, runP_sh (by omega)]
        have hge := runP_ge spcB l (a + n)
        exact wdsGo_sp fu fu' _ _ _ (runP_le (by omega)) (by omega) (by omega) (by rw [List.map_append, List.map_append, hacc]; rfl)
    · have hs : shP l a = l.length + 2 := by unfold shP; rw [if_neg hlt]
      rw [hs, if_neg (show ¬ l.length + 2 < (32 :: (l ++ [32])).length by rw [List.length_cons, List.length_append, List.length_singleton]; omega), if_neg hlt, hlen]
      split
      · exact ⟨rfl, rfl⟩
      · refine ⟨rfl, ?_⟩
        rw [List.map_append, List.map_append, hacc]
        rfl

theorem wdsO_sp {cn : Nat → Nat} {l : List UInt8} (hl : l.length ≤ 1000) : (wdsO cn (32 :: (l ++ [32]))).2.2 = (wdsO cn l).2.2 ∧ (wdsO cn (32 :: (l ++ [32]))).1.map noAt = (wdsO cn l).1.map noAt := by
  unfold wdsO
  have h0 : runP spcB (32 :: (l ++ [32])) 0 = shP l (runP spcB l 0) := by
    rw [← runP_sh (Nat.zero_le _)]
    exact runP_step (P := spcB) (by simp) (show spcB 32 = true by decide)
  rw [if_neg (by rw [List.length_cons, List.length_append, List.length_singleton]; omega), if_neg (by omega), h0]
  have hge := runP_ge spcB l 0
  exact wdsGo_sp _ _ _ _ _ (runP_le (Nat.zero_le _)) (by omega) (by rw [List.length_cons, List.length_append]; omega) rfl

theorem gx_noAt {ws ws' : List Wd} (h : ws'.map noAt = ws.map noAt) : gx ws' = gx ws := by
  funext i
  have hi : (ws'.map noAt)[i]? = (ws.map noAt)[i]? := by rw [h]
  rw [List.getElem?_map, List.getElem?_map] at hi
  unfold gx
  rw [List.getD_eq_getElem?_getD, List.getD_eq_getElem?_getD]
  cases h1 : ws'[i]? <;> cases h2 : ws[i]? <;> rw [h1, h2] at hi <;> simp at hi ⊢
  have k1 := congrArg Wd.k hi
  have k2 := congrArg Wd.s hi
  have k3 := congrArg Wd.n hi
  have k4 := congrArg Wd.f hi
  exact ⟨k1, k2, k3, k4⟩

/-- with spaces round it a text comes to the same -/
theorem parse_sp {l : List UInt8} (hl : l.length ≤ 1000) : (∃ st, parseO l = .ok st ∧ parseO (32 :: (l ++ [32])) = .ok st) ∨ (∃ a a' c, parseO l = .bad a c ∧ parseO (32 :: (l ++ [32])) = .bad a' c) := by
  obtain ⟨h1, h2⟩ := wdsO_sp (cn := canonN) hl
  have hg := gx_noAt h2
  unfold parseO prsW
  rw [h1, hg]
  split
  · cases pText (gx (wdsO canonN l).1) with
    | ok st s => exact .inl ⟨st, rfl, rfl⟩
    | bad j c => exact .inr ⟨_, _, c, rfl, rfl⟩
  · exact .inr ⟨_, _, _, rfl, rfl⟩

end Go.Proofs.YtnehbpfgdeilhaaGreatDoor
