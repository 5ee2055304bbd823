/- the laws' own: awake, may; the walk of KeyNumbers -/
import Derived.Test.YtigepnhnccfpiaaDoorKeyT
import Derived.Deep.RegionHeld3
namespace Go.Proofs.YtigepnhnccfpiaaDoor
open Go.ChangeShapes Go.WideShapes Go.ChangeAt Go.RowKit Go.Fl

set_option maxRecDepth 100000 in
theorem awake_first : decide (mixN 1 4609434218613702656 < 0) = true := by decide +kernel

theorem begin_a (w : World) : Calls Tryd.prog 15 #[.string ⟨#[97]⟩] w fun e w' => e = .returned (.agg #[.string ⟨#[97]⟩, .string ⟨#[98]⟩]) ∧ Below w.heap.size w w' := begin_any ⟨#[97]⟩ w (by decide)

theorem in_ab (w : World) : Calls Tryd.prog 17 #[.agg #[.string ⟨#[97]⟩, .string ⟨#[98]⟩], .string ⟨#[97, 98]⟩] w fun e w' => e = .returned (.bool true) ∧ Below w.heap.size w w' := by
  have h := in_any ⟨#[97]⟩ ⟨#[98]⟩ ⟨#[97, 98]⟩ w
  simp only [Lib.toList_data] at h
  exact h

theorem in_b (w : World) : Calls Tryd.prog 17 #[.agg #[.string ⟨#[97]⟩, .string ⟨#[98]⟩], .string ⟨#[98]⟩] w fun e w' => e = .returned (.bool false) ∧ Below w.heap.size w w' := by
  have h := in_any ⟨#[97]⟩ ⟨#[98]⟩ ⟨#[98]⟩ w
  simp only [Lib.toList_data] at h
  exact h

set_option maxHeartbeats 1000000 in
set_option maxRecDepth 100000 in
theorem awake7_any (w : World) (hM : Mx w.heap.size w) : Calls Tryd.prog 8 #[] w fun e w' => e = .returned (.bool true) ∧ Below w.heap.size w w' := by
  obtain ⟨S1, hS1⟩ : ∃ S, bstr (kInt 1) = S := ⟨_, rfl⟩
  obtain ⟨S2, hS2⟩ : ∃ S, bstr (kFlo 4609434218613702656) = S := ⟨_, rfl⟩
  have hz1 : (((S1.size : Nat) : Int) == 12) = true := by rw [← hS1, bstr_size, kInt_len]; rfl
  have hlt : Op.bytesLess S1.toList S2.toList = true := by rw [← hS1, ← hS2, less_bs, cmp_if (by decide) (by decide)]; exact awake_first
  have c1 := fun W (h : Mx W.heap.size W) => kof_int 1 W (by decide) h
  have c2 := fun W (h : Mx W.heap.size W) => kof_float 4609434218613702656 W (by decide) h
  simp only [hS1] at c1
  simp only [hS2] at c2
  have HC1 := Lib.hid c1; have HC2 := Lib.hid c2; have HM := Lib.hid hM
  clear hS1 hS2 c1 c2 hM
  go_enter Tryd.func8, Tryd.ntmps8
  go_wp2_with fail
  refine (HC1.out _ HM.out).mono ?_
  rintro e w1 ⟨rfl, hb1⟩
  go_wp2_with fail
  refine (HC2.out _ (HM.out.on hb1)).mono ?_
  rintro e w2 ⟨rfl, hb2⟩
  have hB2 := hb1.trans (hb2.mono hb1.size)
  go_wp2_with fail
  refine (begin_a _).mono ?_
  rintro e w3 ⟨rfl, hb3⟩
  have hB3 := hB2.trans (hb3.mono hB2.size)
  go_wp2_with fail
  refine (in_ab _).mono ?_
  rintro e w4 ⟨rfl, hb4⟩
  have hB4 := hB3.trans (hb4.mono hB3.size)
  go_wp2_with fail
  refine (begin_a _).mono ?_
  rintro e w5 ⟨rfl, hb5⟩
  have hB5 := hB4.trans (hb5.mono hB4.size)
  go_wp2_with fail
  refine (in_b _).mono ?_
  rintro e w6 ⟨rfl, hb6⟩
  have hB6 := hB5.trans (hb6.mono hB5.size)
  go_wp2_with fail
  go_ret
  exact ⟨rfl, hB6⟩

/-- may a value be a key here? -/
def mayB (t : T) : Bool := decide (chkF t = 0) && decide (((bys t).length : Int) < 4000)

set_option maxRecDepth 100000 in
theorem may_any {t : T} {v : Value} {w : World} (h : Rd w w.heap.size t v) :
    Calls Tryd.prog 9 #[v] w fun e w' => e = .returned (.bool (mayB t)) ∧ Below w.heap.size w w' := by
  have HC := Lib.hid (fun W (hW : Rd W W.heap.size t v) => rCheck_any hW)
  have HP := Lib.hid (rput_at t)
  have H := Lib.hid h
  have hlt := chk_tot (t := t)
  have hbt := bys_tot t
  unfold mayB
  obtain ⟨k, b, z, f, s, l⟩ := t
  obtain ⟨A, cap, rfl, -⟩ := h.open
  have hbox := (Below.refl w.heap.size w).alloc (Nat.le_refl _) (.cells #[.int .i64 k, .bool b, .int .i64 z, .float .f64 f, .string s, .slice A l.length cap] 25)
  have HX := Lib.hid (Blk.new w 25 #[.int .i64 k, .bool b, .int .i64 z, .float .f64 f, .string s, .slice A l.length cap])
  clear h
  generalize T.mk k b z f s l = t at *
  by_cases hc : chkF t = 0
  · have hlen := hlt hc
    rw [decide_eq_true hc, Bool.true_and]
    have Hc := Lib.hid hc
    clear hc hlt
    obtain ⟨S, hS⟩ : ∃ S, bstr (bys t) = S := ⟨_, rfl⟩
    have hz : S.size = (bys t).length := by rw [← hS, bstr_size]
    rw [← hz]
    have hl2 : (bys t).length ≤ 140737488355328 := by omega
    have HS := Lib.hid hS
    clear hS hz hbt hlen
    go_enter Tryd.func9, Tryd.ntmps9
    go_wp2_with fail
    refine (HC.out _ (H.out.on hbox)).mono ?_
    rw [Hc.out]
    rintro e w1 ⟨rfl, hb1⟩
    have hb2 := hbox.trans (hb1.mono hbox.size)
    have X1 := HX.out.below hb1 HX.out.lt
    have x0 := X1.cell 0; have x1 := X1.cell 1; have x2 := X1.cell 2; have x3 := X1.cell 3; have x4 := X1.cell 4; have x5 := X1.cell 5
    simp at x0 x1 x2 x3 x4 x5
    clear X1
    go_wp2_with fail
    refine (HP.out _ _ (H.out.on hb2) hl2).mono ?_
    rw [HS.out]
    rintro e w2 ⟨rfl, hb3⟩
    clear x0 x1 x2 x3 x4 x5
    go_wp2_with fail
    go_ret
    exact ⟨rfl, hb2.trans (hb3.mono hb2.size)⟩
  · rw [decide_eq_false hc, Bool.false_and]
    have d1 : (chkF t == 0) = false := by simpa using hc
    have d2 : (chkF t != 0) = true := by simpa using hc
    clear hc hlt hbt
    go_enter Tryd.func9, Tryd.ntmps9
    go_wp2_with fail
    refine (HC.out _ (H.out.on hbox)).mono ?_
    rintro e w1 ⟨rfl, hb1⟩
    have hb2 := hbox.trans (hb1.mono hbox.size)
    go_wp2_with fail
    go_ret
    exact ⟨rfl, hb2⟩

set_option maxHeartbeats 1000000 in
set_option maxRecDepth 100000 in
theorem numbers_any (a b : Int) (f : Nat) (w : World) (ha : is64 a = true) (hb : is64 b = true) (hf : f < 18446744073709551616) (hM : Mx w.heap.size w) :
    Calls Tryd.prog 7 #[.int .i64 a, .int .i64 b, .float .f64 f] w fun e w' => e = .returned (.bool true) ∧ Below w.heap.size w w' := by
  have c1 := fun W (h : Mx W.heap.size W) => kof_int a W ha h
  have c2 := fun W (h : Mx W.heap.size W) => kof_int b W hb h
  have c3 := fun W (h : Mx W.heap.size W) => kof_float f W hf h
  have c4 := fun W => rmix_any a f W ha hf
  have e1 : cmpBs (kInt a) (kInt b) = cmpI a b := cmp_ii ha hb
  have e2 : cmpBs (kInt a) (kFlo f) = mixN a f := cmp_if ha hf
  obtain ⟨X, hX⟩ : ∃ S, bstr (kInt a) = S := ⟨_, rfl⟩
  obtain ⟨Y, hY⟩ : ∃ S, bstr (kInt b) = S := ⟨_, rfl⟩
  obtain ⟨Z, hZ⟩ : ∃ S, bstr (kFlo f) = S := ⟨_, rfl⟩
  obtain ⟨c, hc⟩ : ∃ c, mixN a f = c := ⟨_, rfl⟩
  have i1 := cmpI_iff a b
  have l1 : Op.bytesLess X.toList Y.toList = decide (a < b) := by rw [← hX, ← hY, less_bs, e1]; exact decide_eq_decide.2 i1.1
  have l2 : (X.toList == Y.toList) = (a == b) := by rw [← hX, ← hY, same_bs, e1]; exact (decide_eq_decide.2 i1.2.1).trans rfl
  have l3 : Op.bytesLess X.toList Z.toList = decide (c < 0) := by rw [← hX, ← hZ, less_bs, e2, hc]
  have l4 : (X.toList == Z.toList) = false := by
    rw [← hX, ← hZ, same_bs, e2]
    have := mix_not_zero a f
    rw [beq_eq_false_iff_ne] at this
    exact decide_eq_false this
  have l5 : (((X.size : Nat) : Int) == ((Z.size : Nat) : Int)) = true := by rw [← hX, ← hZ, bstr_size, bstr_size, kInt_len, kFlo_len]; rfl
  have l6 : (X.size == Z.size) = true := by rw [← hX, ← hZ, bstr_size, bstr_size, kInt_len, kFlo_len]; rfl
  simp only [hX] at c1
  simp only [hY] at c2
  simp only [hZ] at c3
  simp only [hc] at c4
  have HA := Lib.hid (fun W (h : Mx W.heap.size W) => awake7_any W h)
  have HC1 := Lib.hid c1; have HC2 := Lib.hid c2; have HC3 := Lib.hid c3; have HC4 := Lib.hid c4; have HM := Lib.hid hM
  clear c1 c2 c3 c4 hX hY hZ hc e1 e2 i1 hM
  have q1 : (Op.bytesLess X.toList Y.toList == decide (a < b)) = true := by rw [l1]; simp
  have q2 : ((X.toList == Y.toList) == (a == b)) = true := by rw [l2]; simp
  have q3 : (Op.bytesLess X.toList Z.toList == decide (c < 0)) = true := by rw [l3]; simp
  obtain ⟨p1, hp1⟩ : ∃ p, Op.bytesLess X.toList Y.toList = p := ⟨_, rfl⟩
  obtain ⟨p2, hp2⟩ : ∃ p, (X.toList == Y.toList) = p := ⟨_, rfl⟩
  obtain ⟨p3, hp3⟩ : ∃ p, Op.bytesLess X.toList Z.toList = p := ⟨_, rfl⟩
  rw [hp1] at l1; rw [hp2] at l2; rw [hp3] at l3
  have r1 : decide (a < b) = p1 := l1.symm
  have r2 : (a == b) = p2 := l2.symm
  have r3 : decide (c < 0) = p3 := l3.symm
  clear l1 l2 l3 q1 q2 q3
  cases p1 <;> cases p2 <;> cases p3
  all_goals
    go_enter Tryd.func7, Tryd.ntmps7
    go_wp2_with fail
    refine (HC1.out _ HM.out).mono ?_
    rintro e w1 ⟨rfl, hb1⟩
    have HM1 := Lib.hid (HM.out.on hb1)
    go_wp2_with fail
    refine (HC2.out _ HM1.out).mono ?_
    rintro e w2 ⟨rfl, hb2⟩
    have HM2 := Lib.hid (HM1.out.on hb2)
    have hB2 := hb1.trans (hb2.mono hb1.size)
    go_wp2_with fail
    refine (HC3.out _ HM2.out).mono ?_
    rintro e w3 ⟨rfl, hb3⟩
    have HM3 := Lib.hid (HM2.out.on hb3)
    have hB3 := hB2.trans (hb3.mono hB2.size)
    go_wp2_with fail
    refine (HC4.out _).mono ?_
    rintro e w4 ⟨rfl, rfl⟩
    go_wp2_with fail
    refine (HA.out _ HM3.out).mono ?_
    rintro e w5 ⟨rfl, hb5⟩
    have hB5 := hB3.trans (hb5.mono hB3.size)
    go_wp2_with fail
    go_ret
    exact ⟨rfl, hB5⟩

end Go.Proofs.YtigepnhnccfpiaaDoor
