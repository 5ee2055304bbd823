/- SpO -/
import Derived.Test.YtgmjhoppjjjilaaDoorQ15
import Derived.Test.YtgmjhoppjjjilaaDoorQ28

/- the document's words: one (written by tools/laws13o.py) -/
namespace Go.Proofs.YtgmjhoppjjjilaaDoor
open Go.ChangeShapes Go.WideShapes Go.ChangeAt Go.RowKit Go.Fl
open Go.Shelf

/-- the number of digits to the base 16 -/
def hxV (l : List UInt8) : Nat := l.foldl (fun b c => b * 16 + hexD c) 0

def hexG (c : UInt8) : Bool := decide (hexD c < 16)

/-- a float's word behind its letter -/
def fltR (r : List UInt8) : Option (Wd × Nat) :=
  match quoO r with
  | none => none
  | some (t, n) => if t.length = 16 ∧ t.all hexG = true ∧ canonN (hxV t) = hxV t then some (⟨3, ⟨#[]⟩, 0, hxV t, 0⟩, n + 1) else none

/-- a text's word -/
def txtR (l : List UInt8) : Option (Wd × Nat) :=
  match quoO l with
  | none => none
  | some (t, n) => if 500 < t.length then none else some (⟨4, ofL t, 0, 0, 0⟩, n)

def intR (l : List UInt8) : Option (Wd × Nat) :=
  match intO (l.take (runP digB l 1)) with
  | none => none
  | some v => some (⟨2, ⟨#[]⟩, v, 0, 0⟩, runP digB l 1)

def namR (l : List UInt8) : Option (Wd × Nat) :=
  if 16 < runP namB l 1 then none else some (⟨1, ofL (l.take (runP namB l 1)), 0, 0, 0⟩, runP namB l 1)

/-- the word at the beginning of bytes -/
def oneR (l : List UInt8) : Option (Wd × Nat) :=
  match l with
  | [] => none
  | c :: r =>
    if c = 102 ∧ r.head? = some 39 then fltR r
    else if c = 39 then txtR (c :: r)
    else if c = 45 ∨ digB c = true then intR (c :: r)
    else if namB c = true then namR (c :: r)
    else if sgnW c = true then some (⟨5, ofL [c], 0, 0, 0⟩, 1)
    else none

/-- what one comes to -/
def OneQ (o : Option (Wd × Nat)) (w : World) (z : Ending) (w' : World) : Prop :=
  ∃ (x : Wd) (n : Nat), z = .returned (.tuple #[.agg #[.int .i64 x.k, .string x.s, .int .i64 x.n, .float .f64 x.f, .int .i64 (x.at_ : Nat)], .int .i64 (n : Nat)]) ∧ Below w.heap.size w w' ∧ (o = some (x, n) ∨ (o = none ∧ n = 0))

theorem five_frozen {w : World} {b : Nat} {T : TypeId} {x0 x1 x2 x3 x4 : Value} (h : w.heap[b]? = some (.cells #[x0, x1, x2, x3, x4] T (0, 0))) (k : Nat) : w.frozen? ⟨b, k, none⟩ = false := by simp [World.frozen?, h]

theorem five_done {w : World} {b : Nat} {T : TypeId} {x0 x1 x2 x3 x4 : Value} (h : w.heap[b]? = some (.cells #[x0, x1, x2, x3, x4] T (0, 0))) (u0 u1 u2 u3 u4 : Value) :
    (((((w.setCell ⟨b, 0, none⟩ u0).setCell ⟨b, 1, none⟩ u1).setCell ⟨b, 2, none⟩ u2).setCell ⟨b, 3, none⟩ u3).setCell ⟨b, 4, none⟩ u4).heap[b]? = some (.cells #[u0, u1, u2, u3, u4] T (0, 0)) := by
  simp [World.setCell, Array.getElem?_modify, h]

theorem hxV_snoc (l : List UInt8) (c : UInt8) : hxV (l ++ [c]) = hxV l * 16 + hexD c := by unfold hxV; rw [List.foldl_append]; rfl

theorem hxV_lt : ∀ (n : Nat) (l : List UInt8), l.length = n → l.all hexG = true → hxV l < 16 ^ n := by
  intro n
  induction n with
  | zero => intro l hl _; rw [List.length_eq_zero_iff.1 hl]; decide
  | succ n ih =>
    intro l hl ha
    have hne : l ≠ [] := by intro e; rw [e] at hl; cases hl
    have hd := List.dropLast_concat_getLast hne
    rw [← hd] at ha ⊢
    rw [List.all_append, Bool.and_eq_true] at ha
    have h1 := ih l.dropLast (by rw [List.length_dropLast, hl]; rfl) ha.1
    have h2 : hexD (l.getLast hne) < 16 := by
      have := ha.2
      rw [List.all_cons, Bool.and_eq_true] at this
      simpa [hexG] using this.1
    rw [hxV_snoc, Nat.pow_succ]
    omega

theorem new_zero (w : World) : (w.alloc (.cells #[.int .i64 0, .string ⟨#[]⟩, .int .i64 0, .float .f64 0, .int .i64 0] 65)).heap[w.heap.size]? = some (.cells #[.int .i64 0, .string ⟨#[]⟩, .int .i64 0, .float .f64 0, .int .i64 0] 65 (0, 0)) ∧ Below w.heap.size w (w.alloc (.cells #[.int .i64 0, .string ⟨#[]⟩, .int .i64 0, .float .f64 0, .int .i64 0] 65)) := ⟨heap_alloc_new w _, (Below.refl _ w).alloc (Nat.le_refl _) _⟩

theorem hexD_le (c : UInt8) : hexD c ≤ 16 := by
  unfold hexD
  cases h : hexI c with
  | none => decide
  | some n => have := hexI_l16 h; show n ≤ 16; omega

theorem qGo_le : ∀ (fu : Nat) (l acc : List UInt8) (a : Nat) (t : List UInt8) (n : Nat), qGo fu l acc a = some (t, n) → a < n ∧ n ≤ l.length ∧ t.length ≤ acc.length + (n - a)
  | 0, _, _, _, _, _, h => by cases h
  | fu + 1, l, acc, a, t, n, h => by
    rw [qGo] at h
    split at h
    · cases h
    · rename_i c r hd
      have hl : a < l.length := by
        rcases Nat.lt_or_ge a l.length with h' | h'
        · exact h'
        · rw [List.drop_eq_nil_of_le h'] at hd; cases hd
      have hlen := congrArg List.length hd
      rw [List.length_drop] at hlen
      split at h
      · injection h with h; injection h with h1 h2; subst h1; subst h2; exact ⟨by omega, by omega, by omega⟩
      · split at h
        · cases h
        · rename_i b m hb
          have h1 := bytO_le hb
          have h2 := qGo_le fu l _ _ t n h
          rw [List.length_append, List.length_singleton] at h2
          omega

theorem quoO_pos {l t : List UInt8} {n : Nat} (h : quoO l = some (t, n)) : 0 < n ∧ n ≤ l.length := by
  unfold quoO at h
  split at h
  · cases h
  · split at h
    · have := qGo_le _ _ _ _ _ _ h
      omega
    · cases h

set_option maxHeartbeats 4000000 in
set_option maxRecDepth 100000 in
theorem one_flt (S : ByteArray) (hs : S.size ≤ 3000) (h0 : 0 < S.size) (h1 : 1 < S.size) (hc : (S[0]'h0) = 102) (hc1 : (S[1]'h1) = 39) (w : World) : Calls Tryd.prog 44 #[.string S] w (OneQ (oneR S.data.toList) w) := by
  have HZ := Lib.hid (new_zero w)
  have hS1 := list_one S h0
  obtain ⟨D, hD⟩ : ∃ D, S.extract 1 S.size = D := ⟨_, rfl⟩
  have hDl : D.data.toList = S.data.toList.drop 1 := by rw [← hD, drop_list]
  have hDs : D.size ≤ 3000 := by rw [← hD, ByteArray.size_extract]; omega
  have e0 : (((S[0]'h0).toNat : Int) == 102) = true := by rw [hc]; rfl
  have e1 : (((S[1]'h1).toNat : Int) == 39) = true := by rw [hc1]; rfl
  have i1 : (1 : Int) < (S.size : Int) := by omega
  have i2 : (1 : Int) ≤ (S.size : Int) := by omega
  have HQ := Lib.hid (fun W => quo_any D hDs W)
  have HO : Hid (oneR S.data.toList = fltR D.data.toList) := Lib.hid (by
    rw [hDl, list_cut S 1 h1]
    have h2 := list_cut S 1 h1
    rw [hS1, h2]
    show (if (S[0]'h0) = 102 ∧ (S[1] :: S.data.toList.drop (1 + 1)).head? = some 39 then _ else _) = _
    exact if_pos ⟨hc, by rw [List.head?_cons, hc1]⟩)
  have hfrom := call_from
  have HDs := Lib.hid hDs
  clear hS1 hDl hDs hc hc1
  go_enter Tryd.func44, Tryd.ntmps44
  go_wp2_with fail
  refine (HQ.out _).mono ?_
  rintro e w1 ⟨rfl, hb1⟩
  have hb1' := HZ.out.2.trans (hb1.mono HZ.out.2.size)
  have zw := (hb1.block w.heap.size (Array.getElem?_eq_some_iff.1 HZ.out.1).1).trans HZ.out.1
  cases hq : quoO D.data.toList with
  | none =>
    have HT : Hid (oneR S.data.toList = none) := Lib.hid (by rw [HO.out, fltR, hq])
    have HZW := Lib.hid (And.intro zw hb1')
    clear hb1 hb1' zw hq
    unfold quoV
    go_wp2_with fail
    go_loopw [7, 8, 9] (fun vb vok vi wr => vb = .int .u64 0 ∧ vok = .bool false ∧ vi = .int .i64 0 ∧ wr = w1) (fun _ _ _ _ => 0)
    case atStart => exact ⟨rfl, rfl, rfl, rfl⟩
    case round =>
      obtain ⟨rfl, rfl, rfl, rfl⟩ := hrel
      have zw := HZW.out.1
      obtain ⟨⟨ry0, ry1, ry2, ry3, ry4⟩, rl⟩ := five_cells zw
      have rf0 := five_frozen zw 0; have rf1 := five_frozen zw 1; have rf2 := five_frozen zw 2; have rf3 := five_frozen zw 3; have rf4 := five_frozen zw 4
      obtain ⟨⟨rr0, rr1, rr2, rr3, rr4⟩, -⟩ := five_cells (five_done zw (.int .i64 0) (.string ⟨#[]⟩) (.int .i64 0) (.float .f64 0) (.int .i64 0))
      have HBF := Lib.hid HZW.out.2
      go_wp2_with fail
      refine bodyPost_ret (v := .tuple #[.agg #[.int .i64 0, .string ⟨#[]⟩, .int .i64 0, .float .f64 0, .int .i64 0], .int .i64 0]) (by simp [results, Tryd.results44, go_sem, rr0, rr1, rr2, rr3, rr4]) rfl ?_
      exact ⟨⟨0, ⟨#[]⟩, 0, 0, 0⟩, 0, rfl, by
        repeat (with_reducible first | exact HBF.out | refine Below.setCell ?_ (by simp <;> omega) _ | refine Below.drew ?_), .inr ⟨HT.out, rfl⟩⟩
  | some v =>
    obtain ⟨t, n⟩ := v
    have hn := quoO_pos hq
    have hn1 : (0 : Int) < (n : Int) := by omega
    have hnn : (n : Int) ≤ 3000 := by have := hn.2; have := len_list D; have := HDs.out; omega
    have htl : (ofL t).size = t.length := rfl
    obtain ⟨T, hT⟩ : ∃ T, ofL t = T := ⟨_, rfl⟩
    have hTl : T.data.toList = t := by rw [← hT]; rfl
    have HZW := Lib.hid (And.intro zw hb1')
    have HQ2 := Lib.hid hq
    clear hb1 hb1' zw hq
    unfold quoV
    simp only []
    rw [hT]
    rw [hT] at htl
    have HTL := Lib.hid htl
    clear htl
    by_cases h16 : T.size = 16
    rotate_left
    · have d16 : ((T.size : Int) == 16) = false := by rw [beq_eq_false_iff_ne]; omega
      have HT : Hid (oneR S.data.toList = none) := Lib.hid (by rw [HO.out, fltR, HQ2.out]; exact if_neg (fun h => h16 (HTL.out.trans h.1)))
      clear h16
      go_wp2_with fail
      go_loopw [7, 8, 9] (fun vb vok vi wr => vb = .int .u64 0 ∧ vok = .bool false ∧ vi = .int .i64 0 ∧ wr = w1) (fun _ _ _ _ => 0)
      case atStart => exact ⟨rfl, rfl, rfl, rfl⟩
      case round =>
        obtain ⟨rfl, rfl, rfl, rfl⟩ := hrel
        have zw := HZW.out.1
        by_cases hlt : (0 : Nat) < T.size
        · have hlt1 : decide ((0 : Int) < (T.size : Int)) = true := by rw [decide_eq_true_eq]; omega
          obtain ⟨⟨ry0, ry1, ry2, ry3, ry4⟩, rl⟩ := five_cells zw
          have rf0 := five_frozen zw 0; have rf1 := five_frozen zw 1; have rf2 := five_frozen zw 2; have rf3 := five_frozen zw 3; have rf4 := five_frozen zw 4
          obtain ⟨⟨rr0, rr1, rr2, rr3, rr4⟩, -⟩ := five_cells (five_done zw (.int .i64 0) (.string ⟨#[]⟩) (.int .i64 0) (.float .f64 0) (.int .i64 0))
          have HBF := Lib.hid HZW.out.2
          go_wp2_with fail
          refine bodyPost_ret (v := .tuple #[.agg #[.int .i64 0, .string ⟨#[]⟩, .int .i64 0, .float .f64 0, .int .i64 0], .int .i64 0]) (by simp [results, Tryd.results44, go_sem, rr0, rr1, rr2, rr3, rr4]) rfl ?_
          exact ⟨⟨0, ⟨#[]⟩, 0, 0, 0⟩, 0, rfl, by
            repeat (with_reducible first | exact HBF.out | refine Below.setCell ?_ (by simp <;> omega) _ | refine Below.drew ?_), .inr ⟨HT.out, rfl⟩⟩
        · have hlt1 : decide ((0 : Int) < (T.size : Int)) = false := by rw [decide_eq_false_iff_not]; omega
          obtain ⟨⟨ry0, ry1, ry2, ry3, ry4⟩, rl⟩ := five_cells zw
          have rf0 := five_frozen zw 0; have rf1 := five_frozen zw 1; have rf2 := five_frozen zw 2; have rf3 := five_frozen zw 3; have rf4 := five_frozen zw 4
          obtain ⟨⟨rr0, rr1, rr2, rr3, rr4⟩, -⟩ := five_cells (five_done zw (.int .i64 0) (.string ⟨#[]⟩) (.int .i64 0) (.float .f64 0) (.int .i64 0))
          have HBF := Lib.hid HZW.out.2
          go_wp2_with fail
          refine bodyPost_ret (v := .tuple #[.agg #[.int .i64 0, .string ⟨#[]⟩, .int .i64 0, .float .f64 0, .int .i64 0], .int .i64 0]) (by simp [results, Tryd.results44, go_sem, rr0, rr1, rr2, rr3, rr4]) rfl ?_
          exact ⟨⟨0, ⟨#[]⟩, 0, 0, 0⟩, 0, rfl, by
            repeat (with_reducible first | exact HBF.out | refine Below.setCell ?_ (by simp <;> omega) _ | refine Below.drew ?_), .inr ⟨HT.out, rfl⟩⟩
    · have d16 : ((T.size : Int) == 16) = true := by rw [beq_iff_eq]; omega
      have H16 := Lib.hid h16
      clear h16
      go_wp2_with fail
      go_loopw [7, 8, 9] (fun vb vok vi wr => ∃ (b : Int) (ok : Bool) (i : Nat), vb = .int .u64 b ∧ vok = .bool ok ∧ vi = .int .i64 i ∧ i ≤ 16 ∧ Hid ((ok = true ∧ b = (hxV (t.take i) : Nat) ∧ (t.take i).all hexG = true) ∨ (ok = false ∧ t.all hexG = false)) ∧ wr = w1) (fun _ _ vi _ => 16 - (intOf vi).toNat)
      case atStart => exact ⟨0, true, 0, rfl, rfl, rfl, by omega, Lib.hid (.inl ⟨rfl, rfl, rfl⟩), rfl⟩
      case round =>
        obtain ⟨b, ok, i, rfl, rfl, rfl, hi, Hb, rfl⟩ := hrel
        have zw := HZW.out.1
        have h16 := H16.out
        clear d16
        by_cases hlt : i < T.size
        · have hlt1 : decide ((i : Int) < (T.size : Int)) = true := by rw [decide_eq_true_eq]; omega
          cases ok
          · -- a byte that is no digit
            have HT : Hid (oneR S.data.toList = none) := Lib.hid (by
              rcases Hb.out with ⟨h, -⟩ | ⟨-, h⟩
              · cases h
              · rw [HO.out, fltR, HQ2.out]; exact if_neg (fun h' => by rw [h] at h'; cases h'.2.1))
            have hfr := hfrom b
            clear h16
            obtain ⟨⟨ry0, ry1, ry2, ry3, ry4⟩, rl⟩ := five_cells zw
            have rf0 := five_frozen zw 0; have rf1 := five_frozen zw 1; have rf2 := five_frozen zw 2; have rf3 := five_frozen zw 3; have rf4 := five_frozen zw 4
            obtain ⟨⟨rr0, rr1, rr2, rr3, rr4⟩, -⟩ := five_cells (five_done zw (.int .i64 0) (.string ⟨#[]⟩) (.int .i64 0) (.float .f64 0) (.int .i64 0))
            have HBF := Lib.hid HZW.out.2
            go_wp2_with fail
            refine bodyPost_ret (v := .tuple #[.agg #[.int .i64 0, .string ⟨#[]⟩, .int .i64 0, .float .f64 0, .int .i64 0], .int .i64 0]) (by simp [results, Tryd.results44, go_sem, rr0, rr1, rr2, rr3, rr4]) rfl ?_
            exact ⟨⟨0, ⟨#[]⟩, 0, 0, 0⟩, 0, rfl, by
              repeat (with_reducible first | exact HBF.out | refine Below.setCell ?_ (by simp <;> omega) _ | refine Below.drew ?_), .inr ⟨HT.out, rfl⟩⟩
          · obtain ⟨hbv, hgd⟩ : b = (hxV (t.take i) : Nat) ∧ (t.take i).all hexG = true := by
              rcases Hb.out with ⟨-, h⟩ | ⟨h, -⟩
              · exact h
              · cases h
            have hts : t.take (i + 1) = t.take i ++ [T[i]] := by rw [← hTl]; exact take_snocS T i hlt
            have HD := Lib.hid (fun W => rdig_any T[i] W)
            obtain ⟨x, hx⟩ : ∃ x, hexD T[i] = x := ⟨_, rfl⟩
            rw [hx] at HD
            have hb0 : 0 ≤ b := by rw [hbv]; omega
            have hb1 : b < 1152921504606846976 := by
              have h1 := hxV_lt i (t.take i) (by rw [List.length_take]; have := HTL.out; omega) hgd
              have h2 : 16 ^ i ≤ 16 ^ 15 := Nat.pow_le_pow_right (by decide) (by omega)
              have h4 : (16 : Nat) ^ 15 = 1152921504606846976 := by decide
              rw [hbv]
              omega
            by_cases hx16 : x < 16
            · have d1 : decide ((x : Int) < 16) = true := by rw [decide_eq_true_eq]; omega
              have hxi : (x : Int) < 16 := by omega
              have HN : Hid (b * 16 + (x : Int) = (hxV (t.take (i + 1)) : Nat) ∧ (t.take (i + 1)).all hexG = true) := Lib.hid (by
                rw [hts, hxV_snoc, hx, List.all_append, hgd]
                refine ⟨by rw [hbv]; omega, ?_⟩
                rw [List.all_cons, Bool.true_and]
                show (hexG T[i] && _) = true
                unfold hexG
                rw [hx, decide_eq_true hx16]
                rfl)
              clear hbv hgd hts hx hx16 h16
              go_wp2_with fail
              (with_reducible refine (HD.out _).mono ?_)
              rintro e w' ⟨rfl, rfl⟩
              go_wp2_with fail
              (with_reducible refine (HD.out _).mono ?_)
              rintro e w' ⟨rfl, rfl⟩
              go_wp2_with fail
              refine ⟨⟨_, true, i + 1, rfl, rfl, (by first | rfl | go_num), by have := H16.out; omega, Lib.hid (.inl ⟨rfl, HN.out.1, HN.out.2⟩), trivial⟩, by have := H16.out; simp [intOf]; omega⟩
            · have d1 : decide ((x : Int) < 16) = false := by rw [decide_eq_false_iff_not]; omega
              have hxi : (x : Int) ≤ 16 := by
                have : hexD T[i] ≤ 16 := hexD_le _
                omega
              have HN : Hid (t.all hexG = false) := Lib.hid (by
                have hm : T[i] ∈ t := by rw [← hTl]; exact Array.getElem_mem_toList _
                rw [List.all_eq_false]
                exact ⟨T[i], hm, by unfold hexG; rw [hx, decide_eq_false hx16]; decide⟩)
              clear hbv hgd hts hx hx16 h16
              go_wp2_with fail
              (with_reducible refine (HD.out _).mono ?_)
              rintro e w' ⟨rfl, rfl⟩
              go_wp2_with fail
              (with_reducible refine (HD.out _).mono ?_)
              rintro e w' ⟨rfl, rfl⟩
              go_wp2_with fail
              refine ⟨⟨_, false, i + 1, rfl, rfl, (by first | rfl | go_num), by have := H16.out; omega, Lib.hid (.inr ⟨rfl, HN.out⟩), trivial⟩, by have := H16.out; simp [intOf]; omega⟩
        · have hlt1 : decide ((i : Int) < (T.size : Int)) = false := by rw [decide_eq_false_iff_not]; omega
          cases ok
          · have HT : Hid (oneR S.data.toList = none) := Lib.hid (by
              rcases Hb.out with ⟨h, -⟩ | ⟨-, h⟩
              · cases h
              · rw [HO.out, fltR, HQ2.out]; exact if_neg (fun h' => by rw [h] at h'; cases h'.2.1))
            have hfr := hfrom b
            clear h16
            obtain ⟨⟨ry0, ry1, ry2, ry3, ry4⟩, rl⟩ := five_cells zw
            have rf0 := five_frozen zw 0; have rf1 := five_frozen zw 1; have rf2 := five_frozen zw 2; have rf3 := five_frozen zw 3; have rf4 := five_frozen zw 4
            obtain ⟨⟨rr0, rr1, rr2, rr3, rr4⟩, -⟩ := five_cells (five_done zw (.int .i64 0) (.string ⟨#[]⟩) (.int .i64 0) (.float .f64 0) (.int .i64 0))
            have HBF := Lib.hid HZW.out.2
            go_wp2_with fail
            refine bodyPost_ret (v := .tuple #[.agg #[.int .i64 0, .string ⟨#[]⟩, .int .i64 0, .float .f64 0, .int .i64 0], .int .i64 0]) (by simp [results, Tryd.results44, go_sem, rr0, rr1, rr2, rr3, rr4]) rfl ?_
            exact ⟨⟨0, ⟨#[]⟩, 0, 0, 0⟩, 0, rfl, by
              repeat (with_reducible first | exact HBF.out | refine Below.setCell ?_ (by simp <;> omega) _ | refine Below.drew ?_), .inr ⟨HT.out, rfl⟩⟩
          · obtain ⟨hbv, hgd⟩ : b = (hxV t : Nat) ∧ t.all hexG = true := by
              rcases Hb.out with ⟨-, h1, h2⟩ | ⟨h, -⟩
              · rw [List.take_of_length_le (by have := HTL.out; omega)] at h1 h2; exact ⟨h1, h2⟩
              · cases h
            obtain ⟨f, hf⟩ : ∃ f, hxV t = f := ⟨_, rfl⟩
            have hfr : ∀ W, (callFunc 61 #[.int .u64 (f : Int)]).run Tryd.prog W = .ok (.value (.float .f64 f)) W := fun W => call_from (f : Nat) W
            have HC := Lib.hid (fun W => rcanon_any f W)
            rw [hf] at hbv
            subst hbv
            obtain ⟨cf, hcf⟩ : ∃ cf, canonN f = cf := ⟨_, rfl⟩
            rw [hcf] at HC
            by_cases hcc : cf = f
            · have d1 : ((cf : Int) != (f : Int)) = false := by rw [hcc]; simp
              have HT : Hid (oneR S.data.toList = some (⟨3, ⟨#[]⟩, 0, f, 0⟩, n + 1)) := Lib.hid (by
                rw [HO.out, fltR, HQ2.out]
                show (if t.length = 16 ∧ t.all hexG = true ∧ canonN (hxV t) = hxV t then _ else _) = _
                rw [hf]
                exact if_pos ⟨by have := HTL.out; omega, hgd, by rw [hcf, hcc]⟩)
              clear hcc hgd hf h16
              go_wp2_with fail
              (with_reducible refine (HC.out _).mono ?_)
              rintro e w' ⟨rfl, rfl⟩
              obtain ⟨⟨ry0, ry1, ry2, ry3, ry4⟩, rl⟩ := five_cells zw
              have rf0 := five_frozen zw 0; have rf1 := five_frozen zw 1; have rf2 := five_frozen zw 2; have rf3 := five_frozen zw 3; have rf4 := five_frozen zw 4
              obtain ⟨⟨rr0, rr1, rr2, rr3, rr4⟩, -⟩ := five_cells (five_done zw (.int .i64 3) (.string ⟨#[]⟩) (.int .i64 0) (.float .f64 f) (.int .i64 0))
              have HBF := Lib.hid HZW.out.2
              go_wp2_with fail
              refine bodyPost_ret (v := .tuple #[.agg #[.int .i64 3, .string ⟨#[]⟩, .int .i64 0, .float .f64 f, .int .i64 0], .int .i64 ((n : Int) + 1)]) (by simp [results, Tryd.results44, go_sem, rr0, rr1, rr2, rr3, rr4]) rfl ?_
              exact ⟨⟨3, ⟨#[]⟩, 0, f, 0⟩, n + 1, rfl, by
                repeat (with_reducible first | exact HBF.out | refine Below.setCell ?_ (by simp <;> omega) _ | refine Below.drew ?_), .inl HT.out⟩
            · have d1 : ((cf : Int) != (f : Int)) = true := by rw [bne_iff_ne]; omega
              have HT : Hid (oneR S.data.toList = none) := Lib.hid (by
                rw [HO.out, fltR, HQ2.out]
                exact if_neg (fun h => hcc (by have := h.2.2; rw [hf, hcf] at this; exact this)))
              clear hcc hgd hf h16
              go_wp2_with fail
              (with_reducible refine (HC.out _).mono ?_)
              rintro e w' ⟨rfl, rfl⟩
              obtain ⟨⟨ry0, ry1, ry2, ry3, ry4⟩, rl⟩ := five_cells zw
              have rf0 := five_frozen zw 0; have rf1 := five_frozen zw 1; have rf2 := five_frozen zw 2; have rf3 := five_frozen zw 3; have rf4 := five_frozen zw 4
              obtain ⟨⟨rr0, rr1, rr2, rr3, rr4⟩, -⟩ := five_cells (five_done zw (.int .i64 0) (.string ⟨#[]⟩) (.int .i64 0) (.float .f64 0) (.int .i64 0))
              have HBF := Lib.hid HZW.out.2
              go_wp2_with fail
              refine bodyPost_ret (v := .tuple #[.agg #[.int .i64 0, .string ⟨#[]⟩, .int .i64 0, .float .f64 0, .int .i64 0], .int .i64 0]) (by simp [results, Tryd.results44, go_sem, rr0, rr1, rr2, rr3, rr4]) rfl ?_
              exact ⟨⟨0, ⟨#[]⟩, 0, 0, 0⟩, 0, rfl, by
                repeat (with_reducible first | exact HBF.out | refine Below.setCell ?_ (by simp <;> omega) _ | refine Below.drew ?_), .inr ⟨HT.out, rfl⟩⟩

set_option maxHeartbeats 4000000 in
set_option maxRecDepth 100000 in
theorem one_txt (S : ByteArray) (hs : S.size ≤ 3000) (h0 : 0 < S.size) (hc : (S[0]'h0) = 39) (w : World) : Calls Tryd.prog 44 #[.string S] w (OneQ (oneR S.data.toList) w) := by
  have HZ := Lib.hid (new_zero w)
  have hS1 := list_one S h0
  have e0 : (((S[0]'h0).toNat : Int) == 102) = false := by rw [hc]; rfl
  have e1 : (((S[0]'h0).toNat : Int) == 39) = true := by rw [hc]; rfl
  have HQ := Lib.hid (fun W => quo_any S hs W)
  have HO : Hid (oneR S.data.toList = txtR S.data.toList) := Lib.hid (by
    generalize hl : S.data.toList = l at hS1 ⊢
    rw [hS1, hc]
    rfl)
  clear hS1 hc
  go_enter Tryd.func44, Tryd.ntmps44
  go_wp2_with fail
  refine (HQ.out _).mono ?_
  rintro e w1 ⟨rfl, hb1⟩
  have hb1' := HZ.out.2.trans (hb1.mono HZ.out.2.size)
  have zw := (hb1.block w.heap.size (Array.getElem?_eq_some_iff.1 HZ.out.1).1).trans HZ.out.1
  have HB1 := Lib.hid hb1'
  clear hb1 hb1'
  cases hq : quoO S.data.toList with
  | none =>
    have HT : Hid (oneR S.data.toList = none) := Lib.hid (by rw [HO.out, txtR, hq])
    clear hq
    unfold quoV
    obtain ⟨⟨ry0, ry1, ry2, ry3, ry4⟩, rl⟩ := five_cells zw
    have rf0 := five_frozen zw 0; have rf1 := five_frozen zw 1; have rf2 := five_frozen zw 2; have rf3 := five_frozen zw 3; have rf4 := five_frozen zw 4
    obtain ⟨⟨rr0, rr1, rr2, rr3, rr4⟩, -⟩ := five_cells (five_done zw (.int .i64 4) (.string ⟨#[]⟩) (.int .i64 0) (.float .f64 0) (.int .i64 0))
    have HBF := Lib.hid HB1.out
    go_wp2_with fail
    refine bodyPost_ret (v := .tuple #[.agg #[.int .i64 4, .string ⟨#[]⟩, .int .i64 0, .float .f64 0, .int .i64 0], .int .i64 0]) (by simp [results, Tryd.results44, go_sem, rr0, rr1, rr2, rr3, rr4]) rfl ?_
    exact ⟨⟨4, ⟨#[]⟩, 0, 0, 0⟩, 0, rfl, by
      repeat (with_reducible first | exact HBF.out | refine Below.setCell ?_ (by simp <;> omega) _ | refine Below.drew ?_), .inr ⟨HT.out, rfl⟩⟩
  | some v =>
    obtain ⟨t, n⟩ := v
    obtain ⟨T, hT⟩ : ∃ T, ofL t = T := ⟨_, rfl⟩
    have htl : T.size = t.length := by rw [← hT]; rfl
    unfold quoV
    simp only []
    rw [hT]
    by_cases h5 : 500 < T.size
    · have d5 : decide ((500 : Int) < (T.size : Int)) = true := by rw [decide_eq_true_eq]; omega
      have HT : Hid (oneR S.data.toList = none) := Lib.hid (by rw [HO.out, txtR, hq]; exact if_pos (by omega))
      clear hq htl h5
      obtain ⟨⟨ry0, ry1, ry2, ry3, ry4⟩, rl⟩ := five_cells zw
      have rf0 := five_frozen zw 0; have rf1 := five_frozen zw 1; have rf2 := five_frozen zw 2; have rf3 := five_frozen zw 3; have rf4 := five_frozen zw 4
      obtain ⟨⟨rr0, rr1, rr2, rr3, rr4⟩, -⟩ := five_cells (five_done zw (.int .i64 0) (.string ⟨#[]⟩) (.int .i64 0) (.float .f64 0) (.int .i64 0))
      have HBF := Lib.hid HB1.out
      go_wp2_with fail
      refine bodyPost_ret (v := .tuple #[.agg #[.int .i64 0, .string ⟨#[]⟩, .int .i64 0, .float .f64 0, .int .i64 0], .int .i64 0]) (by simp [results, Tryd.results44, go_sem, rr0, rr1, rr2, rr3, rr4]) rfl ?_
      exact ⟨⟨0, ⟨#[]⟩, 0, 0, 0⟩, 0, rfl, by
        repeat (with_reducible first | exact HBF.out | refine Below.setCell ?_ (by simp <;> omega) _ | refine Below.drew ?_), .inr ⟨HT.out, rfl⟩⟩
    · have d5 : decide ((500 : Int) < (T.size : Int)) = false := by rw [decide_eq_false_iff_not]; omega
      have HT : Hid (oneR S.data.toList = some (⟨4, T, 0, 0, 0⟩, n)) := Lib.hid (by rw [HO.out, txtR, hq, ← hT]; exact if_neg (by omega))
      clear hq htl h5
      obtain ⟨⟨ry0, ry1, ry2, ry3, ry4⟩, rl⟩ := five_cells zw
      have rf0 := five_frozen zw 0; have rf1 := five_frozen zw 1; have rf2 := five_frozen zw 2; have rf3 := five_frozen zw 3; have rf4 := five_frozen zw 4
      obtain ⟨⟨rr0, rr1, rr2, rr3, rr4⟩, -⟩ := five_cells (five_done zw (.int .i64 4) (.string T) (.int .i64 0) (.float .f64 0) (.int .i64 0))
      have HBF := Lib.hid HB1.out
      go_wp2_with fail
      refine bodyPost_ret (v := .tuple #[.agg #[.int .i64 4, .string T, .int .i64 0, .float .f64 0, .int .i64 0], .int .i64 (n : Nat)]) (by simp [results, Tryd.results44, go_sem, rr0, rr1, rr2, rr3, rr4]) rfl ?_
      exact ⟨⟨4, T, 0, 0, 0⟩, n, rfl, by
        repeat (with_reducible first | exact HBF.out | refine Below.setCell ?_ (by simp <;> omega) _ | refine Below.drew ?_), .inl HT.out⟩

theorem run_at {P : UInt8 → Bool} (S : ByteArray) (k : Nat) (h : k < S.size) : runP P S.data.toList k = if P S[k] = true then runP P S.data.toList (k + 1) else k := by
  split
  · rename_i hp; exact runP_step (l := S.data.toList) (k := k) h hp
  · rename_i hp; exact runP_stop (l := S.data.toList) (k := k) h (eq_false_of_ne_true hp)

set_option maxHeartbeats 4000000 in
set_option maxRecDepth 100000 in
theorem one_int (S : ByteArray) (hs : S.size ≤ 3000) (h0 : 0 < S.size) (hc : (S[0]'h0) = 45 ∨ digB (S[0]'h0) = true) (w : World) : Calls Tryd.prog 44 #[.string S] w (OneQ (oneR S.data.toList) w) := by
  have HZ := Lib.hid (new_zero w)
  have hS1 := list_one S h0
  have hn102 : (S[0]'h0) ≠ 102 := by rintro h; rw [h] at hc; rcases hc with h | h <;> revert h <;> decide
  have hn39 : (S[0]'h0) ≠ 39 := by rintro h; rw [h] at hc; rcases hc with h | h <;> revert h <;> decide
  have e0 : (((S[0]'h0).toNat : Int) == 102) = false := by have := u8_ne (k := 102) hn102; rw [beq_eq_false_iff_ne]; omega
  have e1 : (((S[0]'h0).toNat : Int) == 39) = false := by have := u8_ne (k := 39) hn39; rw [beq_eq_false_iff_ne]; omega
  have HO : Hid (oneR S.data.toList = intR S.data.toList) := Lib.hid (by
    generalize hl : S.data.toList = l at hS1 ⊢
    rw [hS1]
    show (if (S[0]'h0) = 102 ∧ _ then _ else if (S[0]'h0) = 39 then _ else if (S[0]'h0) = 45 ∨ digB (S[0]'h0) = true then _ else _) = _
    rw [if_neg (fun h => hn102 h.1), if_neg hn39, if_pos hc])
  have h45 : (((S[0]'h0).toNat : Int) == 45) = true ∨ ((((S[0]'h0).toNat : Int) == 45) = false ∧ decide ((48 : Int) ≤ ((S[0]'h0).toNat : Int)) = true ∧ decide (((S[0]'h0).toNat : Int) ≤ 57) = true) := by
    by_cases h : (S[0]'h0) = 45
    · left; rw [h]; rfl
    · right
      have hd := (digB_iff _).1 (hc.resolve_left h)
      refine ⟨by have := u8_ne (k := 45) h; rw [beq_eq_false_iff_ne]; omega, by rw [decide_eq_true_eq]; omega, by rw [decide_eq_true_eq]; omega⟩
  clear hS1 hc hn102 hn39
  obtain ⟨WZ, hWZ⟩ : ∃ W, w.alloc (.cells #[.int .i64 0, .string ⟨#[]⟩, .int .i64 0, .float .f64 0, .int .i64 0] 65) = W := ⟨_, rfl⟩
  rcases h45 with h45 | ⟨h45, h48, h57⟩
  all_goals
    go_enter Tryd.func44, Tryd.ntmps44
    go_wp2_with fail
    go_loopw [13] (fun vn wr => ∃ n : Nat, vn = .int .i64 n ∧ 1 ≤ n ∧ n ≤ S.size ∧ Hid (runP digB S.data.toList 1 = runP digB S.data.toList n) ∧ wr = WZ) (fun vn _ => S.size - (intOf vn).toNat)
    case atStart => exact ⟨1, rfl, Nat.le_refl _, h0, Lib.hid rfl, rfl⟩
    case round =>
      obtain ⟨n, rfl, hn1, hnS, Hn, rfl⟩ := hrel
      by_cases hlt : n < S.size
      · have hlt1 : decide ((n : Int) < (S.size : Int)) = true := by rw [decide_eq_true_eq]; omega
        have hra := run_at (P := digB) S n hlt
        by_cases hd : 48 ≤ S[n].toNat ∧ S[n].toNat ≤ 57
        · have q1 : decide ((48 : Int) ≤ (S[n].toNat : Int)) = true := by rw [decide_eq_true_eq]; omega
          have q2 : decide ((S[n].toNat : Int) ≤ 57) = true := by rw [decide_eq_true_eq]; omega
          have HN : Hid (runP digB S.data.toList 1 = runP digB S.data.toList (n + 1)) := Lib.hid (by rw [Hn.out, hra, if_pos ((digB_iff _).2 hd)])
          clear hd hra
          go_wp2_with fail
          refine ⟨⟨n + 1, (by first | rfl | go_num), by omega, hlt, HN, (by first | rfl | trivial)⟩, by simp [intOf]; omega⟩
        · have HR : Hid (runP digB S.data.toList 1 = n) := Lib.hid (by rw [Hn.out, hra, if_neg (fun h => hd ((digB_iff _).1 h))])
          by_cases hl : 48 ≤ S[n].toNat
          · have q1 : decide ((48 : Int) ≤ (S[n].toNat : Int)) = true := by rw [decide_eq_true_eq]; omega
            have q2 : decide ((S[n].toNat : Int) ≤ 57) = false := by rw [decide_eq_false_iff_not]; omega
            clear hd hra hl
            obtain ⟨T, hT⟩ : ∃ T, S.extract 0 n = T := ⟨_, rfl⟩
            have hTl : T.data.toList = S.data.toList.take n := by rw [← hT, take_list]; rfl
            have HI := Lib.hid (fun W => rint_any T W (by rw [← hT, ByteArray.size_extract]; omega))
            have i0 : (0 : Int) ≤ (n : Int) := by omega
            have i1 : (n : Int) ≤ (S.size : Int) := by omega
            have HO2 : Hid (oneR S.data.toList = match intO T.data.toList with | none => none | some v => some (⟨2, ⟨#[]⟩, v, 0, 0⟩, n)) := Lib.hid (by rw [HO.out, intR, HR.out, hTl])
            have zw := HZ.out.1
            rw [hWZ] at zw
            have HBZ : Hid (Below w.heap.size w wr) := Lib.hid (hWZ ▸ HZ.out.2)
            clear hTl
            cases hv : intO T.data.toList with
            | none =>
              have HT : Hid (oneR S.data.toList = none) := Lib.hid (by rw [HO2.out, hv])
              have HV := Lib.hid hv
              clear hv
              go_wp2_with fail
              refine (HI.out _).mono ?_
              rw [HV.out]
              rintro e w' ⟨rfl, rfl⟩
              unfold intV
              simp only [Option.getD, Option.isSome]
              obtain ⟨⟨ry0, ry1, ry2, ry3, ry4⟩, rl⟩ := five_cells zw
              have rf0 := five_frozen zw 0; have rf1 := five_frozen zw 1; have rf2 := five_frozen zw 2; have rf3 := five_frozen zw 3; have rf4 := five_frozen zw 4
              obtain ⟨⟨rr0, rr1, rr2, rr3, rr4⟩, -⟩ := five_cells (five_done zw (.int .i64 0) (.string ⟨#[]⟩) (.int .i64 0) (.float .f64 0) (.int .i64 0))
              have HBF := Lib.hid HBZ.out
              go_wp2_with fail
              refine bodyPost_ret (v := .tuple #[.agg #[.int .i64 0, .string ⟨#[]⟩, .int .i64 0, .float .f64 0, .int .i64 0], .int .i64 0]) (by simp [results, Tryd.results44, go_sem, rr0, rr1, rr2, rr3, rr4]) rfl ?_
              exact ⟨⟨0, ⟨#[]⟩, 0, 0, 0⟩, 0, rfl, by
                repeat (with_reducible first | exact HBF.out | refine Below.setCell ?_ (by simp <;> omega) _ | refine Below.drew ?_), .inr ⟨HT.out, rfl⟩⟩
            | some v =>
              have HT : Hid (oneR S.data.toList = some (⟨2, ⟨#[]⟩, v, 0, 0⟩, n)) := Lib.hid (by rw [HO2.out, hv])
              have HV := Lib.hid hv
              clear hv
              go_wp2_with fail
              refine (HI.out _).mono ?_
              rw [HV.out]
              rintro e w' ⟨rfl, rfl⟩
              unfold intV
              simp only [Option.getD, Option.isSome]
              obtain ⟨⟨ry0, ry1, ry2, ry3, ry4⟩, rl⟩ := five_cells zw
              have rf0 := five_frozen zw 0; have rf1 := five_frozen zw 1; have rf2 := five_frozen zw 2; have rf3 := five_frozen zw 3; have rf4 := five_frozen zw 4
              obtain ⟨⟨rr0, rr1, rr2, rr3, rr4⟩, -⟩ := five_cells (five_done zw (.int .i64 2) (.string ⟨#[]⟩) (.int .i64 v) (.float .f64 0) (.int .i64 0))
              have HBF := Lib.hid HBZ.out
              go_wp2_with fail
              refine bodyPost_ret (v := .tuple #[.agg #[.int .i64 2, .string ⟨#[]⟩, .int .i64 v, .float .f64 0, .int .i64 0], .int .i64 (n : Nat)]) (by simp [results, Tryd.results44, go_sem, rr0, rr1, rr2, rr3, rr4]) rfl ?_
              exact ⟨⟨2, ⟨#[]⟩, v, 0, 0⟩, n, rfl, by
                repeat (with_reducible first | exact HBF.out | refine Below.setCell ?_ (by simp <;> omega) _ | refine Below.drew ?_), .inl HT.out⟩
          · have q1 : decide ((48 : Int) ≤ (S[n].toNat : Int)) = false := by rw [decide_eq_false_iff_not]; omega
            clear hd hra hl
            obtain ⟨T, hT⟩ : ∃ T, S.extract 0 n = T := ⟨_, rfl⟩
            have hTl : T.data.toList = S.data.toList.take n := by rw [← hT, take_list]; rfl
            have HI := Lib.hid (fun W => rint_any T W (by rw [← hT, ByteArray.size_extract]; omega))
            have i0 : (0 : Int) ≤ (n : Int) := by omega
            have i1 : (n : Int) ≤ (S.size : Int) := by omega
            have HO2 : Hid (oneR S.data.toList = match intO T.data.toList with | none => none | some v => some (⟨2, ⟨#[]⟩, v, 0, 0⟩, n)) := Lib.hid (by rw [HO.out, intR, HR.out, hTl])
            have zw := HZ.out.1
            rw [hWZ] at zw
            have HBZ : Hid (Below w.heap.size w wr) := Lib.hid (hWZ ▸ HZ.out.2)
            clear hTl
            cases hv : intO T.data.toList with
            | none =>
              have HT : Hid (oneR S.data.toList = none) := Lib.hid (by rw [HO2.out, hv])
              have HV := Lib.hid hv
              clear hv
              go_wp2_with fail
              refine (HI.out _).mono ?_
              rw [HV.out]
              rintro e w' ⟨rfl, rfl⟩
              unfold intV
              simp only [Option.getD, Option.isSome]
              obtain ⟨⟨ry0, ry1, ry2, ry3, ry4⟩, rl⟩ := five_cells zw
              have rf0 := five_frozen zw 0; have rf1 := five_frozen zw 1; have rf2 := five_frozen zw 2; have rf3 := five_frozen zw 3; have rf4 := five_frozen zw 4
              obtain ⟨⟨rr0, rr1, rr2, rr3, rr4⟩, -⟩ := five_cells (five_done zw (.int .i64 0) (.string ⟨#[]⟩) (.int .i64 0) (.float .f64 0) (.int .i64 0))
              have HBF := Lib.hid HBZ.out
              go_wp2_with fail
              refine bodyPost_ret (v := .tuple #[.agg #[.int .i64 0, .string ⟨#[]⟩, .int .i64 0, .float .f64 0, .int .i64 0], .int .i64 0]) (by simp [results, Tryd.results44, go_sem, rr0, rr1, rr2, rr3, rr4]) rfl ?_
              exact ⟨⟨0, ⟨#[]⟩, 0, 0, 0⟩, 0, rfl, by
                repeat (with_reducible first | exact HBF.out | refine Below.setCell ?_ (by simp <;> omega) _ | refine Below.drew ?_), .inr ⟨HT.out, rfl⟩⟩
            | some v =>
              have HT : Hid (oneR S.data.toList = some (⟨2, ⟨#[]⟩, v, 0, 0⟩, n)) := Lib.hid (by rw [HO2.out, hv])
              have HV := Lib.hid hv
              clear hv
              go_wp2_with fail
              refine (HI.out _).mono ?_
              rw [HV.out]
              rintro e w' ⟨rfl, rfl⟩
              unfold intV
              simp only [Option.getD, Option.isSome]
              obtain ⟨⟨ry0, ry1, ry2, ry3, ry4⟩, rl⟩ := five_cells zw
              have rf0 := five_frozen zw 0; have rf1 := five_frozen zw 1; have rf2 := five_frozen zw 2; have rf3 := five_frozen zw 3; have rf4 := five_frozen zw 4
              obtain ⟨⟨rr0, rr1, rr2, rr3, rr4⟩, -⟩ := five_cells (five_done zw (.int .i64 2) (.string ⟨#[]⟩) (.int .i64 v) (.float .f64 0) (.int .i64 0))
              have HBF := Lib.hid HBZ.out
              go_wp2_with fail
              refine bodyPost_ret (v := .tuple #[.agg #[.int .i64 2, .string ⟨#[]⟩, .int .i64 v, .float .f64 0, .int .i64 0], .int .i64 (n : Nat)]) (by simp [results, Tryd.results44, go_sem, rr0, rr1, rr2, rr3, rr4]) rfl ?_
              exact ⟨⟨2, ⟨#[]⟩, v, 0, 0⟩, n, rfl, by
                repeat (with_reducible first | exact HBF.out | refine Below.setCell ?_ (by simp <;> omega) _ | refine Below.drew ?_), .inl HT.out⟩
      · have hlt1 : decide ((n : Int) < (S.size : Int)) = false := by rw [decide_eq_false_iff_not]; omega
        have HR : Hid (runP digB S.data.toList 1 = n) := Lib.hid (by rw [Hn.out]; exact runP_end (by show S.size ≤ n; omega))
        obtain ⟨T, hT⟩ : ∃ T, S.extract 0 n = T := ⟨_, rfl⟩
        have hTl : T.data.toList = S.data.toList.take n := by rw [← hT, take_list]; rfl
        have HI := Lib.hid (fun W => rint_any T W (by rw [← hT, ByteArray.size_extract]; omega))
        have i0 : (0 : Int) ≤ (n : Int) := by omega
        have i1 : (n : Int) ≤ (S.size : Int) := by omega
        have HO2 : Hid (oneR S.data.toList = match intO T.data.toList with | none => none | some v => some (⟨2, ⟨#[]⟩, v, 0, 0⟩, n)) := Lib.hid (by rw [HO.out, intR, HR.out, hTl])
        have zw := HZ.out.1
        rw [hWZ] at zw
        have HBZ : Hid (Below w.heap.size w wr) := Lib.hid (hWZ ▸ HZ.out.2)
        clear hTl
        cases hv : intO T.data.toList with
        | none =>
          have HT : Hid (oneR S.data.toList = none) := Lib.hid (by rw [HO2.out, hv])
          have HV := Lib.hid hv
          clear hv
          go_wp2_with fail
          refine (HI.out _).mono ?_
          rw [HV.out]
          rintro e w' ⟨rfl, rfl⟩
          unfold intV
          simp only [Option.getD, Option.isSome]
          obtain ⟨⟨ry0, ry1, ry2, ry3, ry4⟩, rl⟩ := five_cells zw
          have rf0 := five_frozen zw 0; have rf1 := five_frozen zw 1; have rf2 := five_frozen zw 2; have rf3 := five_frozen zw 3; have rf4 := five_frozen zw 4
          obtain ⟨⟨rr0, rr1, rr2, rr3, rr4⟩, -⟩ := five_cells (five_done zw (.int .i64 0) (.string ⟨#[]⟩) (.int .i64 0) (.float .f64 0) (.int .i64 0))
          have HBF := Lib.hid HBZ.out
          go_wp2_with fail
          refine bodyPost_ret (v := .tuple #[.agg #[.int .i64 0, .string ⟨#[]⟩, .int .i64 0, .float .f64 0, .int .i64 0], .int .i64 0]) (by simp [results, Tryd.results44, go_sem, rr0, rr1, rr2, rr3, rr4]) rfl ?_
          exact ⟨⟨0, ⟨#[]⟩, 0, 0, 0⟩, 0, rfl, by
            repeat (with_reducible first | exact HBF.out | refine Below.setCell ?_ (by simp <;> omega) _ | refine Below.drew ?_), .inr ⟨HT.out, rfl⟩⟩
        | some v =>
          have HT : Hid (oneR S.data.toList = some (⟨2, ⟨#[]⟩, v, 0, 0⟩, n)) := Lib.hid (by rw [HO2.out, hv])
          have HV := Lib.hid hv
          clear hv
          go_wp2_with fail
          refine (HI.out _).mono ?_
          rw [HV.out]
          rintro e w' ⟨rfl, rfl⟩
          unfold intV
          simp only [Option.getD, Option.isSome]
          obtain ⟨⟨ry0, ry1, ry2, ry3, ry4⟩, rl⟩ := five_cells zw
          have rf0 := five_frozen zw 0; have rf1 := five_frozen zw 1; have rf2 := five_frozen zw 2; have rf3 := five_frozen zw 3; have rf4 := five_frozen zw 4
          obtain ⟨⟨rr0, rr1, rr2, rr3, rr4⟩, -⟩ := five_cells (five_done zw (.int .i64 2) (.string ⟨#[]⟩) (.int .i64 v) (.float .f64 0) (.int .i64 0))
          have HBF := Lib.hid HBZ.out
          go_wp2_with fail
          refine bodyPost_ret (v := .tuple #[.agg #[.int .i64 2, .string ⟨#[]⟩, .int .i64 v, .float .f64 0, .int .i64 0], .int .i64 (n : Nat)]) (by simp [results, Tryd.results44, go_sem, rr0, rr1, rr2, rr3, rr4]) rfl ?_
          exact ⟨⟨2, ⟨#[]⟩, v, 0, 0⟩, n, rfl, by
            repeat (with_reducible first | exact HBF.out | refine Below.setCell ?_ (by simp <;> omega) _ | refine Below.drew ?_), .inl HT.out⟩

set_option maxHeartbeats 4000000 in
set_option maxRecDepth 100000 in
theorem one_nam (S : ByteArray) (hs : S.size ≤ 3000) (h0 : 0 < S.size) (hf : ¬ ((S[0]'h0) = 102 ∧ (S.data.toList.drop 1).head? = some 39)) (hd : digB (S[0]'h0) = false) (hc : namB (S[0]'h0) = true) (w : World) : Calls Tryd.prog 44 #[.string S] w (OneQ (oneR S.data.toList) w) := by
  have HZ := Lib.hid (new_zero w)
  have hS1 := list_one S h0
  have hn39 : (S[0]'h0) ≠ 39 := by rintro h; rw [h] at hc; revert hc; decide
  have hn45 : (S[0]'h0) ≠ 45 := by rintro h; rw [h] at hc; revert hc; decide
  have e1 : (((S[0]'h0).toNat : Int) == 39) = false := by have := u8_ne (k := 39) hn39; rw [beq_eq_false_iff_ne]; omega
  have e2 : (((S[0]'h0).toNat : Int) == 45) = false := by have := u8_ne (k := 45) hn45; rw [beq_eq_false_iff_ne]; omega
  have hnd : ¬ (48 ≤ (S[0]'h0).toNat ∧ (S[0]'h0).toNat ≤ 57) := fun h => by have := (digB_iff _).2 h; rw [hd] at this; cases this
  have h57 : 57 < (S[0]'h0).toNat := by
    unfold namB letB at hc
    rw [hd] at hc
    simp only [Bool.or_eq_true, Bool.and_eq_true, decide_eq_true_eq] at hc
    rcases hc with (h | h) | h
    · rcases h with h | h <;> omega
    · cases h
    · omega
  have q1 : decide ((48 : Int) ≤ ((S[0]'h0).toNat : Int)) = true := by rw [decide_eq_true_eq]; omega
  have q2 : decide (((S[0]'h0).toNat : Int) ≤ 57) = false := by rw [decide_eq_false_iff_not]; omega
  have HL0 := Lib.hid (fun W => rlet_any (S[0]'h0) W)
  rw [hc] at HL0
  have h102 : (((S[0]'h0).toNat : Int) == 102) = false ∨ ((((S[0]'h0).toNat : Int) == 102) = true ∧ ¬ (1 : Int) < (S.size : Int)) ∨ ((((S[0]'h0).toNat : Int) == 102) = true ∧ ∃ h1 : 1 < S.size, (((S[1]'h1).toNat : Int) == 39) = false) := by
    by_cases h : (S[0]'h0) = 102
    · right
      by_cases h1 : 1 < S.size
      · right
        refine ⟨by rw [h]; rfl, h1, ?_⟩
        have hne : (S[1]'h1) ≠ 39 := fun h' => hf ⟨h, by rw [list_cut S 1 h1, List.head?_cons, h']⟩
        have := u8_ne (k := 39) hne
        rw [beq_eq_false_iff_ne]; omega
      · left
        exact ⟨by rw [h]; rfl, by omega⟩
    · left
      have := u8_ne (k := 102) h
      rw [beq_eq_false_iff_ne]; omega
  have HO : Hid (oneR S.data.toList = namR S.data.toList) := Lib.hid (by
    have hf' : ¬ ((S[0]'h0) = 102 ∧ (S.data.toList.drop 1).head? = some 39) := hf
    generalize hl : S.data.toList = l at hS1 hf' ⊢
    rw [hS1]
    show (if (S[0]'h0) = 102 ∧ (List.drop 1 l).head? = some 39 then _ else if (S[0]'h0) = 39 then _ else if (S[0]'h0) = 45 ∨ digB (S[0]'h0) = true then _ else if namB (S[0]'h0) = true then _ else _) = _
    rw [if_neg hf', if_neg hn39, if_neg (by rintro (h | h); exact hn45 h; rw [hd] at h; cases h), if_pos hc])
  clear hS1 hc hn39 hn45 hnd h57 hf hd
  obtain ⟨WZ, hWZ⟩ : ∃ W, w.alloc (.cells #[.int .i64 0, .string ⟨#[]⟩, .int .i64 0, .float .f64 0, .int .i64 0] 65) = W := ⟨_, rfl⟩
  rcases h102 with e0 | ⟨e0, e00⟩ | ⟨e0, h1, e00⟩
  rotate_left
  · -- one byte alone
    go_enter Tryd.func44, Tryd.ntmps44
    go_wp2_with fail
    (with_reducible refine (HL0.out _).mono ?_)
    rintro e w' ⟨rfl, rfl⟩
    go_wp2_with fail
    go_loopw [16] (fun vn wr => ∃ n : Nat, vn = .int .i64 n ∧ 1 ≤ n ∧ n ≤ S.size ∧ Hid (runP namB S.data.toList 1 = runP namB S.data.toList n) ∧ wr = WZ) (fun vn _ => S.size - (intOf vn).toNat)
    case atStart => exact ⟨1, rfl, Nat.le_refl _, h0, Lib.hid rfl, rfl⟩
    case round =>
      obtain ⟨n, rfl, hn1, hnS, Hn, rfl⟩ := hrel
      have hlt : ¬ n < S.size := by omega
      have hlt1 : decide ((n : Int) < (S.size : Int)) = false := by rw [decide_eq_false_iff_not]; omega
      have HR : Hid (runP namB S.data.toList 1 = n) := Lib.hid (by rw [Hn.out]; exact runP_end (by show S.size ≤ n; omega))
      obtain ⟨T, hT⟩ : ∃ T, S.extract 0 n = T := ⟨_, rfl⟩
      have hTl : T = ofL (S.data.toList.take n) := by rw [← hT]; exact take_list S n
      have i0 : (0 : Int) ≤ (n : Int) := by omega
      have i1 : (n : Int) ≤ (S.size : Int) := by omega
      have zw := HZ.out.1
      rw [hWZ] at zw
      have HBZ : Hid (Below w.heap.size w wr) := Lib.hid (hWZ ▸ HZ.out.2)
      by_cases h16 : 16 < n
      · have d16 : decide ((16 : Int) < (n : Int)) = true := by rw [decide_eq_true_eq]; omega
        have HT : Hid (oneR S.data.toList = none) := Lib.hid (by rw [HO.out, namR, HR.out]; exact if_pos h16)
        clear h16 hTl

        obtain ⟨⟨ry0, ry1, ry2, ry3, ry4⟩, rl⟩ := five_cells zw
        have rf0 := five_frozen zw 0; have rf1 := five_frozen zw 1; have rf2 := five_frozen zw 2; have rf3 := five_frozen zw 3; have rf4 := five_frozen zw 4
        obtain ⟨⟨rr0, rr1, rr2, rr3, rr4⟩, -⟩ := five_cells (five_done zw (.int .i64 0) (.string ⟨#[]⟩) (.int .i64 0) (.float .f64 0) (.int .i64 0))
        have HBF := Lib.hid HBZ.out
        go_wp2_with fail
        refine bodyPost_ret (v := .tuple #[.agg #[.int .i64 0, .string ⟨#[]⟩, .int .i64 0, .float .f64 0, .int .i64 0], .int .i64 0]) (by simp [results, Tryd.results44, go_sem, rr0, rr1, rr2, rr3, rr4]) rfl ?_
        exact ⟨⟨0, ⟨#[]⟩, 0, 0, 0⟩, 0, rfl, by
          repeat (with_reducible first | exact HBF.out | refine Below.setCell ?_ (by simp <;> omega) _ | refine Below.drew ?_), .inr ⟨HT.out, rfl⟩⟩
      · have d16 : decide ((16 : Int) < (n : Int)) = false := by rw [decide_eq_false_iff_not]; omega
        have HT : Hid (oneR S.data.toList = some (⟨1, T, 0, 0, 0⟩, n)) := Lib.hid (by rw [HO.out, namR, HR.out, hTl]; exact if_neg h16)
        clear h16 hTl

        obtain ⟨⟨ry0, ry1, ry2, ry3, ry4⟩, rl⟩ := five_cells zw
        have rf0 := five_frozen zw 0; have rf1 := five_frozen zw 1; have rf2 := five_frozen zw 2; have rf3 := five_frozen zw 3; have rf4 := five_frozen zw 4
        obtain ⟨⟨rr0, rr1, rr2, rr3, rr4⟩, -⟩ := five_cells (five_done zw (.int .i64 1) (.string T) (.int .i64 0) (.float .f64 0) (.int .i64 0))
        have HBF := Lib.hid HBZ.out
        go_wp2_with fail
        refine bodyPost_ret (v := .tuple #[.agg #[.int .i64 1, .string T, .int .i64 0, .float .f64 0, .int .i64 0], .int .i64 (n : Nat)]) (by simp [results, Tryd.results44, go_sem, rr0, rr1, rr2, rr3, rr4]) rfl ?_
        exact ⟨⟨1, T, 0, 0, 0⟩, n, rfl, by
          repeat (with_reducible first | exact HBF.out | refine Below.setCell ?_ (by simp <;> omega) _ | refine Below.drew ?_), .inl HT.out⟩
  all_goals
    go_enter Tryd.func44, Tryd.ntmps44
    go_wp2_with fail
    (with_reducible refine (HL0.out _).mono ?_)
    rintro e w' ⟨rfl, rfl⟩
    go_wp2_with fail
    go_loopw [16] (fun vn wr => ∃ n : Nat, vn = .int .i64 n ∧ 1 ≤ n ∧ n ≤ S.size ∧ Hid (runP namB S.data.toList 1 = runP namB S.data.toList n) ∧ wr = WZ) (fun vn _ => S.size - (intOf vn).toNat)
    case atStart => exact ⟨1, rfl, Nat.le_refl _, h0, Lib.hid rfl, rfl⟩
    case round =>
      obtain ⟨n, rfl, hn1, hnS, Hn, rfl⟩ := hrel
      by_cases hlt : n < S.size
      · have hlt1 : decide ((n : Int) < (S.size : Int)) = true := by rw [decide_eq_true_eq]; omega
        have hra := run_at (P := namB) S n hlt
        have HL := Lib.hid (fun W => rlet_any S[n] W)
        obtain ⟨z, hz⟩ : ∃ z, namB S[n] = z := ⟨_, rfl⟩
        rw [hz] at HL hra
        cases z
        · have HR : Hid (runP namB S.data.toList 1 = n) := Lib.hid (by rw [Hn.out, hra]; rfl)
          clear hz hra
          obtain ⟨T, hT⟩ : ∃ T, S.extract 0 n = T := ⟨_, rfl⟩
          have hTl : T = ofL (S.data.toList.take n) := by rw [← hT]; exact take_list S n
          have i0 : (0 : Int) ≤ (n : Int) := by omega
          have i1 : (n : Int) ≤ (S.size : Int) := by omega
          have zw := HZ.out.1
          rw [hWZ] at zw
          have HBZ : Hid (Below w.heap.size w wr) := Lib.hid (hWZ ▸ HZ.out.2)
          by_cases h16 : 16 < n
          · have d16 : decide ((16 : Int) < (n : Int)) = true := by rw [decide_eq_true_eq]; omega
            have HT : Hid (oneR S.data.toList = none) := Lib.hid (by rw [HO.out, namR, HR.out]; exact if_pos h16)
            clear h16 hTl
            go_wp2_with fail
            (with_reducible refine (HL.out _).mono ?_)
            rintro e w' ⟨rfl, rfl⟩
            obtain ⟨⟨ry0, ry1, ry2, ry3, ry4⟩, rl⟩ := five_cells zw
            have rf0 := five_frozen zw 0; have rf1 := five_frozen zw 1; have rf2 := five_frozen zw 2; have rf3 := five_frozen zw 3; have rf4 := five_frozen zw 4
            obtain ⟨⟨rr0, rr1, rr2, rr3, rr4⟩, -⟩ := five_cells (five_done zw (.int .i64 0) (.string ⟨#[]⟩) (.int .i64 0) (.float .f64 0) (.int .i64 0))
            have HBF := Lib.hid HBZ.out
            go_wp2_with fail
            refine bodyPost_ret (v := .tuple #[.agg #[.int .i64 0, .string ⟨#[]⟩, .int .i64 0, .float .f64 0, .int .i64 0], .int .i64 0]) (by simp [results, Tryd.results44, go_sem, rr0, rr1, rr2, rr3, rr4]) rfl ?_
            exact ⟨⟨0, ⟨#[]⟩, 0, 0, 0⟩, 0, rfl, by
              repeat (with_reducible first | exact HBF.out | refine Below.setCell ?_ (by simp <;> omega) _ | refine Below.drew ?_), .inr ⟨HT.out, rfl⟩⟩
          · have d16 : decide ((16 : Int) < (n : Int)) = false := by rw [decide_eq_false_iff_not]; omega
            have HT : Hid (oneR S.data.toList = some (⟨1, T, 0, 0, 0⟩, n)) := Lib.hid (by rw [HO.out, namR, HR.out, hTl]; exact if_neg h16)
            clear h16 hTl
            go_wp2_with fail
            (with_reducible refine (HL.out _).mono ?_)
            rintro e w' ⟨rfl, rfl⟩
            obtain ⟨⟨ry0, ry1, ry2, ry3, ry4⟩, rl⟩ := five_cells zw
            have rf0 := five_frozen zw 0; have rf1 := five_frozen zw 1; have rf2 := five_frozen zw 2; have rf3 := five_frozen zw 3; have rf4 := five_frozen zw 4
            obtain ⟨⟨rr0, rr1, rr2, rr3, rr4⟩, -⟩ := five_cells (five_done zw (.int .i64 1) (.string T) (.int .i64 0) (.float .f64 0) (.int .i64 0))
            have HBF := Lib.hid HBZ.out
            go_wp2_with fail
            refine bodyPost_ret (v := .tuple #[.agg #[.int .i64 1, .string T, .int .i64 0, .float .f64 0, .int .i64 0], .int .i64 (n : Nat)]) (by simp [results, Tryd.results44, go_sem, rr0, rr1, rr2, rr3, rr4]) rfl ?_
            exact ⟨⟨1, T, 0, 0, 0⟩, n, rfl, by
              repeat (with_reducible first | exact HBF.out | refine Below.setCell ?_ (by simp <;> omega) _ | refine Below.drew ?_), .inl HT.out⟩
        · have HN : Hid (runP namB S.data.toList 1 = runP namB S.data.toList (n + 1)) := Lib.hid (by rw [Hn.out, hra]; rfl)
          clear hz hra
          go_wp2_with fail
          (with_reducible refine (HL.out _).mono ?_)
          rintro e w' ⟨rfl, rfl⟩
          go_wp2_with fail
          refine ⟨⟨n + 1, (by first | rfl | go_num), by omega, hlt, HN, (by first | rfl | trivial)⟩, by simp [intOf]; omega⟩
      · have hlt1 : decide ((n : Int) < (S.size : Int)) = false := by rw [decide_eq_false_iff_not]; omega
        have HR : Hid (runP namB S.data.toList 1 = n) := Lib.hid (by rw [Hn.out]; exact runP_end (by show S.size ≤ n; omega))
        obtain ⟨T, hT⟩ : ∃ T, S.extract 0 n = T := ⟨_, rfl⟩
        have hTl : T = ofL (S.data.toList.take n) := by rw [← hT]; exact take_list S n
        have i0 : (0 : Int) ≤ (n : Int) := by omega
        have i1 : (n : Int) ≤ (S.size : Int) := by omega
        have zw := HZ.out.1
        rw [hWZ] at zw
        have HBZ : Hid (Below w.heap.size w wr) := Lib.hid (hWZ ▸ HZ.out.2)
        by_cases h16 : 16 < n
        · have d16 : decide ((16 : Int) < (n : Int)) = true := by rw [decide_eq_true_eq]; omega
          have HT : Hid (oneR S.data.toList = none) := Lib.hid (by rw [HO.out, namR, HR.out]; exact if_pos h16)
          clear h16 hTl

          obtain ⟨⟨ry0, ry1, ry2, ry3, ry4⟩, rl⟩ := five_cells zw
          have rf0 := five_frozen zw 0; have rf1 := five_frozen zw 1; have rf2 := five_frozen zw 2; have rf3 := five_frozen zw 3; have rf4 := five_frozen zw 4
          obtain ⟨⟨rr0, rr1, rr2, rr3, rr4⟩, -⟩ := five_cells (five_done zw (.int .i64 0) (.string ⟨#[]⟩) (.int .i64 0) (.float .f64 0) (.int .i64 0))
          have HBF := Lib.hid HBZ.out
          go_wp2_with fail
          refine bodyPost_ret (v := .tuple #[.agg #[.int .i64 0, .string ⟨#[]⟩, .int .i64 0, .float .f64 0, .int .i64 0], .int .i64 0]) (by simp [results, Tryd.results44, go_sem, rr0, rr1, rr2, rr3, rr4]) rfl ?_
          exact ⟨⟨0, ⟨#[]⟩, 0, 0, 0⟩, 0, rfl, by
            repeat (with_reducible first | exact HBF.out | refine Below.setCell ?_ (by simp <;> omega) _ | refine Below.drew ?_), .inr ⟨HT.out, rfl⟩⟩
        · have d16 : decide ((16 : Int) < (n : Int)) = false := by rw [decide_eq_false_iff_not]; omega
          have HT : Hid (oneR S.data.toList = some (⟨1, T, 0, 0, 0⟩, n)) := Lib.hid (by rw [HO.out, namR, HR.out, hTl]; exact if_neg h16)
          clear h16 hTl

          obtain ⟨⟨ry0, ry1, ry2, ry3, ry4⟩, rl⟩ := five_cells zw
          have rf0 := five_frozen zw 0; have rf1 := five_frozen zw 1; have rf2 := five_frozen zw 2; have rf3 := five_frozen zw 3; have rf4 := five_frozen zw 4
          obtain ⟨⟨rr0, rr1, rr2, rr3, rr4⟩, -⟩ := five_cells (five_done zw (.int .i64 1) (.string T) (.int .i64 0) (.float .f64 0) (.int .i64 0))
          have HBF := Lib.hid HBZ.out
          go_wp2_with fail
          refine bodyPost_ret (v := .tuple #[.agg #[.int .i64 1, .string T, .int .i64 0, .float .f64 0, .int .i64 0], .int .i64 (n : Nat)]) (by simp [results, Tryd.results44, go_sem, rr0, rr1, rr2, rr3, rr4]) rfl ?_
          exact ⟨⟨1, T, 0, 0, 0⟩, n, rfl, by
            repeat (with_reducible first | exact HBF.out | refine Below.setCell ?_ (by simp <;> omega) _ | refine Below.drew ?_), .inl HT.out⟩

set_option maxHeartbeats 4000000 in
set_option maxRecDepth 100000 in
theorem one_sgn46 (S : ByteArray) (h0 : 0 < S.size) (hc : (S[0]'h0) = 46) (w : World) : Calls Tryd.prog 44 #[.string S] w (OneQ (oneR S.data.toList) w) := by
  have HZ := Lib.hid (new_zero w)
  have hS1 := list_one S h0
  have i1 : (1 : Int) ≤ (S.size : Int) := by omega
  obtain ⟨T, hT⟩ : ∃ T, S.extract 0 1 = T := ⟨_, rfl⟩
  have hTl : T = ofL [(S[0]'h0)] := by rw [← hT, take_list, hS1]; rfl
  have HL0 := Lib.hid (fun W => rlet_any (S[0]'h0) W)
  have e0 : (((S[0]'h0).toNat : Int) == 102) = false := by rw [hc]; rfl
  have e1 : (((S[0]'h0).toNat : Int) == 39) = false := by rw [hc]; rfl
  have e2 : (((S[0]'h0).toNat : Int) == 45) = false := by rw [hc]; rfl
  have q1 : decide ((48 : Int) ≤ ((S[0]'h0).toNat : Int)) = false := by rw [hc]; rfl
  have c46 : (((S[0]'h0).toNat : Int) == 46) = true := by rw [hc]; rfl
  have HT : Hid (oneR S.data.toList = some (⟨5, T, 0, 0, 0⟩, 1)) := Lib.hid (by
    rw [hTl]
    generalize hl : S.data.toList = l at hS1 ⊢
    rw [hS1, hc]
    rfl)
  rw [hc] at HL0
  have hnb : namB 46 = false := by decide
  rw [hnb] at HL0
  have HC := Lib.hid hc
  clear hS1 hTl hnb
  rw [show ((46 : UInt8).toNat : Int) = ((S[0]'h0).toNat : Int) from by rw [hc]] at HL0
  clear hc
  go_enter Tryd.func44, Tryd.ntmps44
  go_wp2_with fail
  (with_reducible refine (HL0.out _).mono ?_)
  rintro e w' ⟨rfl, rfl⟩
  obtain ⟨rr, hb⟩ := HZ.out
  obtain ⟨⟨ry0, ry1, ry2, ry3, ry4⟩, rl⟩ := five_cells rr
  have HBF := Lib.hid hb
  clear rr hb
  go_wp2_with fail
  refine bodyPost_ret (v := .tuple #[.agg #[.int .i64 5, .string T, .int .i64 0, .float .f64 0, .int .i64 0], .int .i64 1]) (by simp [results, Tryd.results44, go_sem]) rfl ?_
  exact ⟨⟨5, T, 0, 0, 0⟩, 1, rfl, (by first | exact (Below.refl _ _).alloc (Nat.le_refl _) _ | repeat (with_reducible first | exact HBF.out | refine Below.setCell ?_ (by simp <;> omega) _ | refine Below.drew ?_)), .inl HT.out⟩

set_option maxHeartbeats 4000000 in
set_option maxRecDepth 100000 in
theorem one_sgn40 (S : ByteArray) (h0 : 0 < S.size) (hc : (S[0]'h0) = 40) (w : World) : Calls Tryd.prog 44 #[.string S] w (OneQ (oneR S.data.toList) w) := by
  have HZ := Lib.hid (new_zero w)
  have hS1 := list_one S h0
  have i1 : (1 : Int) ≤ (S.size : Int) := by omega
  obtain ⟨T, hT⟩ : ∃ T, S.extract 0 1 = T := ⟨_, rfl⟩
  have hTl : T = ofL [(S[0]'h0)] := by rw [← hT, take_list, hS1]; rfl
  have HL0 := Lib.hid (fun W => rlet_any (S[0]'h0) W)
  have e0 : (((S[0]'h0).toNat : Int) == 102) = false := by rw [hc]; rfl
  have e1 : (((S[0]'h0).toNat : Int) == 39) = false := by rw [hc]; rfl
  have e2 : (((S[0]'h0).toNat : Int) == 45) = false := by rw [hc]; rfl
  have q1 : decide ((48 : Int) ≤ ((S[0]'h0).toNat : Int)) = false := by rw [hc]; rfl
  have c46 : (((S[0]'h0).toNat : Int) == 46) = false := by rw [hc]; rfl
  have c40 : (((S[0]'h0).toNat : Int) == 40) = true := by rw [hc]; rfl
  have HT : Hid (oneR S.data.toList = some (⟨5, T, 0, 0, 0⟩, 1)) := Lib.hid (by
    rw [hTl]
    generalize hl : S.data.toList = l at hS1 ⊢
    rw [hS1, hc]
    rfl)
  rw [hc] at HL0
  have hnb : namB 40 = false := by decide
  rw [hnb] at HL0
  have HC := Lib.hid hc
  clear hS1 hTl hnb
  rw [show ((40 : UInt8).toNat : Int) = ((S[0]'h0).toNat : Int) from by rw [hc]] at HL0
  clear hc
  go_enter Tryd.func44, Tryd.ntmps44
  go_wp2_with fail
  (with_reducible refine (HL0.out _).mono ?_)
  rintro e w' ⟨rfl, rfl⟩
  obtain ⟨rr, hb⟩ := HZ.out
  obtain ⟨⟨ry0, ry1, ry2, ry3, ry4⟩, rl⟩ := five_cells rr
  have HBF := Lib.hid hb
  clear rr hb
  go_wp2_with fail
  refine bodyPost_ret (v := .tuple #[.agg #[.int .i64 5, .string T, .int .i64 0, .float .f64 0, .int .i64 0], .int .i64 1]) (by simp [results, Tryd.results44, go_sem]) rfl ?_
  exact ⟨⟨5, T, 0, 0, 0⟩, 1, rfl, (by first | exact (Below.refl _ _).alloc (Nat.le_refl _) _ | repeat (with_reducible first | exact HBF.out | refine Below.setCell ?_ (by simp <;> omega) _ | refine Below.drew ?_)), .inl HT.out⟩

set_option maxHeartbeats 4000000 in
set_option maxRecDepth 100000 in
theorem one_sgn41 (S : ByteArray) (h0 : 0 < S.size) (hc : (S[0]'h0) = 41) (w : World) : Calls Tryd.prog 44 #[.string S] w (OneQ (oneR S.data.toList) w) := by
  have HZ := Lib.hid (new_zero w)
  have hS1 := list_one S h0
  have i1 : (1 : Int) ≤ (S.size : Int) := by omega
  obtain ⟨T, hT⟩ : ∃ T, S.extract 0 1 = T := ⟨_, rfl⟩
  have hTl : T = ofL [(S[0]'h0)] := by rw [← hT, take_list, hS1]; rfl
  have HL0 := Lib.hid (fun W => rlet_any (S[0]'h0) W)
  have e0 : (((S[0]'h0).toNat : Int) == 102) = false := by rw [hc]; rfl
  have e1 : (((S[0]'h0).toNat : Int) == 39) = false := by rw [hc]; rfl
  have e2 : (((S[0]'h0).toNat : Int) == 45) = false := by rw [hc]; rfl
  have q1 : decide ((48 : Int) ≤ ((S[0]'h0).toNat : Int)) = false := by rw [hc]; rfl
  have c46 : (((S[0]'h0).toNat : Int) == 46) = false := by rw [hc]; rfl
  have c40 : (((S[0]'h0).toNat : Int) == 40) = false := by rw [hc]; rfl
  have c41 : (((S[0]'h0).toNat : Int) == 41) = true := by rw [hc]; rfl
  have HT : Hid (oneR S.data.toList = some (⟨5, T, 0, 0, 0⟩, 1)) := Lib.hid (by
    rw [hTl]
    generalize hl : S.data.toList = l at hS1 ⊢
    rw [hS1, hc]
    rfl)
  rw [hc] at HL0
  have hnb : namB 41 = false := by decide
  rw [hnb] at HL0
  have HC := Lib.hid hc
  clear hS1 hTl hnb
  rw [show ((41 : UInt8).toNat : Int) = ((S[0]'h0).toNat : Int) from by rw [hc]] at HL0
  clear hc
  go_enter Tryd.func44, Tryd.ntmps44
  go_wp2_with fail
  (with_reducible refine (HL0.out _).mono ?_)
  rintro e w' ⟨rfl, rfl⟩
  obtain ⟨rr, hb⟩ := HZ.out
  obtain ⟨⟨ry0, ry1, ry2, ry3, ry4⟩, rl⟩ := five_cells rr
  have HBF := Lib.hid hb
  clear rr hb
  go_wp2_with fail
  refine bodyPost_ret (v := .tuple #[.agg #[.int .i64 5, .string T, .int .i64 0, .float .f64 0, .int .i64 0], .int .i64 1]) (by simp [results, Tryd.results44, go_sem]) rfl ?_
  exact ⟨⟨5, T, 0, 0, 0⟩, 1, rfl, (by first | exact (Below.refl _ _).alloc (Nat.le_refl _) _ | repeat (with_reducible first | exact HBF.out | refine Below.setCell ?_ (by simp <;> omega) _ | refine Below.drew ?_)), .inl HT.out⟩

set_option maxHeartbeats 4000000 in
set_option maxRecDepth 100000 in
theorem one_sgn44 (S : ByteArray) (h0 : 0 < S.size) (hc : (S[0]'h0) = 44) (w : World) : Calls Tryd.prog 44 #[.string S] w (OneQ (oneR S.data.toList) w) := by
  have HZ := Lib.hid (new_zero w)
  have hS1 := list_one S h0
  have i1 : (1 : Int) ≤ (S.size : Int) := by omega
  obtain ⟨T, hT⟩ : ∃ T, S.extract 0 1 = T := ⟨_, rfl⟩
  have hTl : T = ofL [(S[0]'h0)] := by rw [← hT, take_list, hS1]; rfl
  have HL0 := Lib.hid (fun W => rlet_any (S[0]'h0) W)
  have e0 : (((S[0]'h0).toNat : Int) == 102) = false := by rw [hc]; rfl
  have e1 : (((S[0]'h0).toNat : Int) == 39) = false := by rw [hc]; rfl
  have e2 : (((S[0]'h0).toNat : Int) == 45) = false := by rw [hc]; rfl
  have q1 : decide ((48 : Int) ≤ ((S[0]'h0).toNat : Int)) = false := by rw [hc]; rfl
  have c46 : (((S[0]'h0).toNat : Int) == 46) = false := by rw [hc]; rfl
  have c40 : (((S[0]'h0).toNat : Int) == 40) = false := by rw [hc]; rfl
  have c41 : (((S[0]'h0).toNat : Int) == 41) = false := by rw [hc]; rfl
  have c44 : (((S[0]'h0).toNat : Int) == 44) = true := by rw [hc]; rfl
  have HT : Hid (oneR S.data.toList = some (⟨5, T, 0, 0, 0⟩, 1)) := Lib.hid (by
    rw [hTl]
    generalize hl : S.data.toList = l at hS1 ⊢
    rw [hS1, hc]
    rfl)
  rw [hc] at HL0
  have hnb : namB 44 = false := by decide
  rw [hnb] at HL0
  have HC := Lib.hid hc
  clear hS1 hTl hnb
  rw [show ((44 : UInt8).toNat : Int) = ((S[0]'h0).toNat : Int) from by rw [hc]] at HL0
  clear hc
  go_enter Tryd.func44, Tryd.ntmps44
  go_wp2_with fail
  (with_reducible refine (HL0.out _).mono ?_)
  rintro e w' ⟨rfl, rfl⟩
  obtain ⟨rr, hb⟩ := HZ.out
  obtain ⟨⟨ry0, ry1, ry2, ry3, ry4⟩, rl⟩ := five_cells rr
  have HBF := Lib.hid hb
  clear rr hb
  go_wp2_with fail
  refine bodyPost_ret (v := .tuple #[.agg #[.int .i64 5, .string T, .int .i64 0, .float .f64 0, .int .i64 0], .int .i64 1]) (by simp [results, Tryd.results44, go_sem]) rfl ?_
  exact ⟨⟨5, T, 0, 0, 0⟩, 1, rfl, (by first | exact (Below.refl _ _).alloc (Nat.le_refl _) _ | repeat (with_reducible first | exact HBF.out | refine Below.setCell ?_ (by simp <;> omega) _ | refine Below.drew ?_)), .inl HT.out⟩

set_option maxHeartbeats 4000000 in
set_option maxRecDepth 100000 in
theorem one_sgn91 (S : ByteArray) (h0 : 0 < S.size) (hc : (S[0]'h0) = 91) (w : World) : Calls Tryd.prog 44 #[.string S] w (OneQ (oneR S.data.toList) w) := by
  have HZ := Lib.hid (new_zero w)
  have hS1 := list_one S h0
  have i1 : (1 : Int) ≤ (S.size : Int) := by omega
  obtain ⟨T, hT⟩ : ∃ T, S.extract 0 1 = T := ⟨_, rfl⟩
  have hTl : T = ofL [(S[0]'h0)] := by rw [← hT, take_list, hS1]; rfl
  have HL0 := Lib.hid (fun W => rlet_any (S[0]'h0) W)
  have e0 : (((S[0]'h0).toNat : Int) == 102) = false := by rw [hc]; rfl
  have e1 : (((S[0]'h0).toNat : Int) == 39) = false := by rw [hc]; rfl
  have e2 : (((S[0]'h0).toNat : Int) == 45) = false := by rw [hc]; rfl
  have q1 : decide ((48 : Int) ≤ ((S[0]'h0).toNat : Int)) = true := by rw [hc]; rfl
  have q2 : decide (((S[0]'h0).toNat : Int) ≤ 57) = false := by rw [hc]; rfl
  have c46 : (((S[0]'h0).toNat : Int) == 46) = false := by rw [hc]; rfl
  have c40 : (((S[0]'h0).toNat : Int) == 40) = false := by rw [hc]; rfl
  have c41 : (((S[0]'h0).toNat : Int) == 41) = false := by rw [hc]; rfl
  have c44 : (((S[0]'h0).toNat : Int) == 44) = false := by rw [hc]; rfl
  have c91 : (((S[0]'h0).toNat : Int) == 91) = true := by rw [hc]; rfl
  have HT : Hid (oneR S.data.toList = some (⟨5, T, 0, 0, 0⟩, 1)) := Lib.hid (by
    rw [hTl]
    generalize hl : S.data.toList = l at hS1 ⊢
    rw [hS1, hc]
    rfl)
  rw [hc] at HL0
  have hnb : namB 91 = false := by decide
  rw [hnb] at HL0
  have HC := Lib.hid hc
  clear hS1 hTl hnb
  rw [show ((91 : UInt8).toNat : Int) = ((S[0]'h0).toNat : Int) from by rw [hc]] at HL0
  clear hc
  go_enter Tryd.func44, Tryd.ntmps44
  go_wp2_with fail
  (with_reducible refine (HL0.out _).mono ?_)
  rintro e w' ⟨rfl, rfl⟩
  obtain ⟨rr, hb⟩ := HZ.out
  obtain ⟨⟨ry0, ry1, ry2, ry3, ry4⟩, rl⟩ := five_cells rr
  have HBF := Lib.hid hb
  clear rr hb
  go_wp2_with fail
  refine bodyPost_ret (v := .tuple #[.agg #[.int .i64 5, .string T, .int .i64 0, .float .f64 0, .int .i64 0], .int .i64 1]) (by simp [results, Tryd.results44, go_sem]) rfl ?_
  exact ⟨⟨5, T, 0, 0, 0⟩, 1, rfl, (by first | exact (Below.refl _ _).alloc (Nat.le_refl _) _ | repeat (with_reducible first | exact HBF.out | refine Below.setCell ?_ (by simp <;> omega) _ | refine Below.drew ?_)), .inl HT.out⟩

set_option maxHeartbeats 4000000 in
set_option maxRecDepth 100000 in
theorem one_sgn93 (S : ByteArray) (h0 : 0 < S.size) (hc : (S[0]'h0) = 93) (w : World) : Calls Tryd.prog 44 #[.string S] w (OneQ (oneR S.data.toList) w) := by
  have HZ := Lib.hid (new_zero w)
  have hS1 := list_one S h0
  have i1 : (1 : Int) ≤ (S.size : Int) := by omega
  obtain ⟨T, hT⟩ : ∃ T, S.extract 0 1 = T := ⟨_, rfl⟩
  have hTl : T = ofL [(S[0]'h0)] := by rw [← hT, take_list, hS1]; rfl
  have HL0 := Lib.hid (fun W => rlet_any (S[0]'h0) W)
  have e0 : (((S[0]'h0).toNat : Int) == 102) = false := by rw [hc]; rfl
  have e1 : (((S[0]'h0).toNat : Int) == 39) = false := by rw [hc]; rfl
  have e2 : (((S[0]'h0).toNat : Int) == 45) = false := by rw [hc]; rfl
  have q1 : decide ((48 : Int) ≤ ((S[0]'h0).toNat : Int)) = true := by rw [hc]; rfl
  have q2 : decide (((S[0]'h0).toNat : Int) ≤ 57) = false := by rw [hc]; rfl
  have c46 : (((S[0]'h0).toNat : Int) == 46) = false := by rw [hc]; rfl
  have c40 : (((S[0]'h0).toNat : Int) == 40) = false := by rw [hc]; rfl
  have c41 : (((S[0]'h0).toNat : Int) == 41) = false := by rw [hc]; rfl
  have c44 : (((S[0]'h0).toNat : Int) == 44) = false := by rw [hc]; rfl
  have c91 : (((S[0]'h0).toNat : Int) == 91) = false := by rw [hc]; rfl
  have c93 : (((S[0]'h0).toNat : Int) == 93) = true := by rw [hc]; rfl
  have HT : Hid (oneR S.data.toList = some (⟨5, T, 0, 0, 0⟩, 1)) := Lib.hid (by
    rw [hTl]
    generalize hl : S.data.toList = l at hS1 ⊢
    rw [hS1, hc]
    rfl)
  rw [hc] at HL0
  have hnb : namB 93 = false := by decide
  rw [hnb] at HL0
  have HC := Lib.hid hc
  clear hS1 hTl hnb
  rw [show ((93 : UInt8).toNat : Int) = ((S[0]'h0).toNat : Int) from by rw [hc]] at HL0
  clear hc
  go_enter Tryd.func44, Tryd.ntmps44
  go_wp2_with fail
  (with_reducible refine (HL0.out _).mono ?_)
  rintro e w' ⟨rfl, rfl⟩
  obtain ⟨rr, hb⟩ := HZ.out
  obtain ⟨⟨ry0, ry1, ry2, ry3, ry4⟩, rl⟩ := five_cells rr
  have HBF := Lib.hid hb
  clear rr hb
  go_wp2_with fail
  refine bodyPost_ret (v := .tuple #[.agg #[.int .i64 5, .string T, .int .i64 0, .float .f64 0, .int .i64 0], .int .i64 1]) (by simp [results, Tryd.results44, go_sem]) rfl ?_
  exact ⟨⟨5, T, 0, 0, 0⟩, 1, rfl, (by first | exact (Below.refl _ _).alloc (Nat.le_refl _) _ | repeat (with_reducible first | exact HBF.out | refine Below.setCell ?_ (by simp <;> omega) _ | refine Below.drew ?_)), .inl HT.out⟩

set_option maxHeartbeats 4000000 in
set_option maxRecDepth 100000 in
theorem one_non (S : ByteArray) (h0 : 0 < S.size) (hq : (S[0]'h0) ≠ 39) (hd : ¬ ((S[0]'h0) = 45 ∨ digB (S[0]'h0) = true)) (hc : namB (S[0]'h0) = false) (hs2 : sgnW (S[0]'h0) = false) (w : World) : Calls Tryd.prog 44 #[.string S] w (OneQ (oneR S.data.toList) w) := by
  have HZ := Lib.hid (new_zero w)
  have hS1 := list_one S h0
  have hn : ∀ k : Nat, k < 256 → (S[0]'h0) ≠ UInt8.ofNat k → (((S[0]'h0).toNat : Int) == (k : Int)) = false := fun k hk h => by
    have := u8_ne (k := k) h
    rw [beq_eq_false_iff_ne]; omega
  have n102 : (S[0]'h0) ≠ 102 := fun h => by rw [h] at hc; revert hc; decide
  have n39 : (S[0]'h0) ≠ 39 := hq
  have n45 : (S[0]'h0) ≠ 45 := fun h => hd (.inl h)
  have e0 : (((S[0]'h0).toNat : Int) == 102) = false := hn 102 (by decide) n102
  have e1 : (((S[0]'h0).toNat : Int) == 39) = false := hn 39 (by decide) n39
  have e2 : (((S[0]'h0).toNat : Int) == 45) = false := hn 45 (by decide) n45
  have sg : ∀ k : UInt8, sgnW k = true → (S[0]'h0) ≠ k := fun k hk h => by rw [h] at hs2; rw [hk] at hs2; cases hs2
  have c46 : (((S[0]'h0).toNat : Int) == 46) = false := hn 46 (by decide) (sg 46 (by decide)); have c40 : (((S[0]'h0).toNat : Int) == 40) = false := hn 40 (by decide) (sg 40 (by decide)); have c41 : (((S[0]'h0).toNat : Int) == 41) = false := hn 41 (by decide) (sg 41 (by decide)); have c44 : (((S[0]'h0).toNat : Int) == 44) = false := hn 44 (by decide) (sg 44 (by decide)); have c91 : (((S[0]'h0).toNat : Int) == 91) = false := hn 91 (by decide) (sg 91 (by decide)); have c93 : (((S[0]'h0).toNat : Int) == 93) = false := hn 93 (by decide) (sg 93 (by decide))
  have HL0 := Lib.hid (fun W => rlet_any (S[0]'h0) W)
  rw [hc] at HL0
  have hdd : ¬ (48 ≤ (S[0]'h0).toNat ∧ (S[0]'h0).toNat ≤ 57) := fun h => hd (.inr ((digB_iff _).2 h))
  have HT : Hid (oneR S.data.toList = none) := Lib.hid (by
    generalize hl : S.data.toList = l at hS1 ⊢
    rw [hS1]
    show (if (S[0]'h0) = 102 ∧ (List.drop 1 l).head? = some 39 then _ else if (S[0]'h0) = 39 then _ else if (S[0]'h0) = 45 ∨ digB (S[0]'h0) = true then _ else if namB (S[0]'h0) = true then _ else if sgnW (S[0]'h0) = true then _ else none) = none
    rw [if_neg (fun h => n102 h.1), if_neg n39, if_neg hd, if_neg (by rw [hc]; decide), if_neg (by rw [hs2]; decide)])
  clear hS1 hc hn n102 n39 n45 sg hs2 hq hd
  by_cases hlow : (S[0]'h0).toNat < 48
  · have q1 : decide ((48 : Int) ≤ ((S[0]'h0).toNat : Int)) = false := by rw [decide_eq_false_iff_not]; omega
    clear hdd
    go_enter Tryd.func44, Tryd.ntmps44
    go_wp2_with fail
    (with_reducible refine (HL0.out _).mono ?_)
    rintro e w' ⟨rfl, rfl⟩
    obtain ⟨rr, hb⟩ := HZ.out
    obtain ⟨⟨ry0, ry1, ry2, ry3, ry4⟩, rl⟩ := five_cells rr
    have HBF := Lib.hid hb
    clear rr hb
    go_wp2_with fail
    refine bodyPost_ret (v := .tuple #[.agg #[.int .i64 0, .string ⟨#[]⟩, .int .i64 0, .float .f64 0, .int .i64 0], .int .i64 0]) (by simp [results, Tryd.results44, go_sem]) rfl ?_
    exact ⟨⟨0, ⟨#[]⟩, 0, 0, 0⟩, 0, rfl, (by first | exact HBF.out | exact (Below.refl _ _).alloc (Nat.le_refl _) _), .inr ⟨HT.out, rfl⟩⟩
  · have q1 : decide ((48 : Int) ≤ ((S[0]'h0).toNat : Int)) = true := by rw [decide_eq_true_eq]; omega
    have q2 : decide (((S[0]'h0).toNat : Int) ≤ 57) = false := by rw [decide_eq_false_iff_not]; omega
    clear hdd
    go_enter Tryd.func44, Tryd.ntmps44
    go_wp2_with fail
    (with_reducible refine (HL0.out _).mono ?_)
    rintro e w' ⟨rfl, rfl⟩
    obtain ⟨rr, hb⟩ := HZ.out
    obtain ⟨⟨ry0, ry1, ry2, ry3, ry4⟩, rl⟩ := five_cells rr
    have HBF := Lib.hid hb
    clear rr hb
    go_wp2_with fail
    refine bodyPost_ret (v := .tuple #[.agg #[.int .i64 0, .string ⟨#[]⟩, .int .i64 0, .float .f64 0, .int .i64 0], .int .i64 0]) (by simp [results, Tryd.results44, go_sem]) rfl ?_
    exact ⟨⟨0, ⟨#[]⟩, 0, 0, 0⟩, 0, rfl, (by first | exact HBF.out | exact (Below.refl _ _).alloc (Nat.le_refl _) _), .inr ⟨HT.out, rfl⟩⟩

theorem one_any (S : ByteArray) (hs : S.size ≤ 3000) (h0 : 0 < S.size) (w : World) : Calls Tryd.prog 44 #[.string S] w (OneQ (oneR S.data.toList) w) := by
  by_cases hf : (S[0]'h0) = 102 ∧ (S.data.toList.drop 1).head? = some 39
  · have h1 : 1 < S.size := by
      rcases Nat.lt_or_ge 1 S.size with h | h
      · exact h
      · rw [list_none S 1 h] at hf; cases hf.2
    have h2 := hf.2
    rw [list_cut S 1 h1, List.head?_cons] at h2
    injection h2 with h2
    exact one_flt S hs h0 h1 hf.1 h2 w
  by_cases hq : (S[0]'h0) = 39
  · exact one_txt S hs h0 hq w
  by_cases hi : (S[0]'h0) = 45 ∨ digB (S[0]'h0) = true
  · exact one_int S hs h0 hi w
  have hd : digB (S[0]'h0) = false := by
    cases h : digB (S[0]'h0)
    · rfl
    · exact absurd (.inr h) hi
  cases hc : namB (S[0]'h0)
  rotate_left
  · exact one_nam S hs h0 hf hd hc w
  cases hg : sgnW (S[0]'h0)
  · exact one_non S h0 hq hi hc hg w
  have hg' := hg
  unfold sgnW at hg'
  simp only [Bool.or_eq_true, decide_eq_true_eq] at hg'
  rcases hg' with ((((h | h) | h) | h) | h) | h
  · exact one_sgn46 S h0 (UInt8.toNat_inj.1 h) w
  · exact one_sgn40 S h0 (UInt8.toNat_inj.1 h) w
  · exact one_sgn41 S h0 (UInt8.toNat_inj.1 h) w
  · exact one_sgn44 S h0 (UInt8.toNat_inj.1 h) w
  · exact one_sgn91 S h0 (UInt8.toNat_inj.1 h) w
  · exact one_sgn93 S h0 (UInt8.toNat_inj.1 h) w

end Go.Proofs.YtgmjhoppjjjilaaDoor
