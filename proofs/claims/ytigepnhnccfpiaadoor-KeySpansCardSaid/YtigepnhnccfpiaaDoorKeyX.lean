/- the walks of KeyOf and KeyOrder -/
import Derived.Test.YtigepnhnccfpiaaDoorKeyW
namespace Go.Proofs.YtigepnhnccfpiaaDoor
open Go.ChangeShapes Go.WideShapes Go.ChangeAt Go.RowKit Go.Fl

/-- a box's cells, in a world that has grown -/
theorem box_keep {W w w' : World} {g : Nat} {a0 a1 a2 a3 a4 a5 : Value} (hb : Below w.heap.size w w')
    (H : (w.cell? ⟨g, 0, none⟩ = some a0 ∧ w.cell? ⟨g, 1, none⟩ = some a1 ∧ w.cell? ⟨g, 2, none⟩ = some a2 ∧ w.cell? ⟨g, 3, none⟩ = some a3 ∧ w.cell? ⟨g, 4, none⟩ = some a4 ∧ w.cell? ⟨g, 5, none⟩ = some a5) ∧ Below W.heap.size W w) :
    (w'.cell? ⟨g, 0, none⟩ = some a0 ∧ w'.cell? ⟨g, 1, none⟩ = some a1 ∧ w'.cell? ⟨g, 2, none⟩ = some a2 ∧ w'.cell? ⟨g, 3, none⟩ = some a3 ∧ w'.cell? ⟨g, 4, none⟩ = some a4 ∧ w'.cell? ⟨g, 5, none⟩ = some a5) ∧ Below W.heap.size W w' := by
  have k : ∀ {p : Addr} {u : Value}, w.cell? p = some u → w'.cell? p = some u := fun h => (hb.cell (World.block_lt_of_cell? w _ h)).trans h
  obtain ⟨⟨h0, h1, h2, h3, h4, h5⟩, hB⟩ := H
  exact ⟨⟨k h0, k h1, k h2, k h3, k h4, k h5⟩, hB.trans (hb.mono hB.size)⟩

theorem may_parts {t : T} (h : mayB t = true) : chkF t = 0 ∧ chkT t 1 = 0 ∧ (keyT t).length ≤ 8000 := by
  unfold mayB at h
  rw [Bool.and_eq_true, decide_eq_true_eq, decide_eq_true_eq] at h
  have := keyT_bys t
  exact ⟨h.1, chkF_two h.1, by omega⟩

set_option maxHeartbeats 2000000 in
set_option maxRecDepth 100000 in
theorem keyof_law (t0 : T) (v0 : Value) (w : World) (rd0 : Rd w w.heap.size t0 v0) (hM : Mx w.heap.size w) :
    Calls Tryd.prog 3 #[v0] w fun e w' => e = .returned (.bool true) ∧ Below w.heap.size w w' := by
  have hmp := may_parts (t := t0)
  obtain ⟨m, hm⟩ : ∃ m, mayB t0 = m := ⟨_, rfl⟩
  rw [hm] at hmp
  have cm := fun W (hW : Rd W W.heap.size t0 v0) => may_any hW
  simp only [hm] at cm
  obtain ⟨S, hS⟩ : ∃ S, bstr (keyT t0) = S := ⟨_, rfl⟩
  have ck := fun (hc : chkT t0 1 = 0) (hl : (keyT t0).length ≤ 140737488355328) W (hW : Rd W W.heap.size t0 v0) (hx : Mx W.heap.size W) => kof_any hc hW hx hl
  have cr := fun (hc : chkT t0 1 = 0) (hl : (keyT t0).length ≤ 140737488355328) W (hW : Rd W W.heap.size t0 v0) => rof_at t0 1 v0 W hc hW hl
  simp only [hS] at ck cr
  have hss : (S.toList == S.toList) = true := by simp
  clear hm hS
  obtain ⟨k0, b0, n0, f0, s0, l0⟩ := t0
  obtain ⟨A0, c0, rfl, -⟩ := rd0.open
  obtain ⟨W, hWd⟩ : ∃ W, w.alloc (.cells #[.int .i64 k0, .bool b0, .int .i64 n0, .float .f64 f0, .string s0, .slice A0 l0.length c0] 25) = W := ⟨_, rfl⟩
  have hB0 : Below w.heap.size w W := by rw [← hWd]; exact (Below.refl w.heap.size w).alloc (Nat.le_refl _) _
  have HX0 : Blk W w.heap.size 25 #[.int .i64 k0, .bool b0, .int .i64 n0, .float .f64 f0, .string s0, .slice A0 l0.length c0] := by rw [← hWd]; exact Blk.new w _ _
  have H1 := Lib.hid (rd0.on hB0)
  have HM1 := Lib.hid (hM.on hB0)
  clear rd0 hM
  have HAw := Lib.hid (fun wn (h : Below W.heap.size W wn) => awake7_any wn (HM1.out.on h))
  have HMa := Lib.hid (fun wn (h : Below W.heap.size W wn) => cm wn (H1.out.on h))
  obtain ⟨x0, x1, x2, x3, x4, x5⟩ : W.cell? ⟨w.heap.size, 0, none⟩ = some (.int .i64 k0) ∧ W.cell? ⟨w.heap.size, 1, none⟩ = some (.bool b0) ∧ W.cell? ⟨w.heap.size, 2, none⟩ = some (.int .i64 n0) ∧ W.cell? ⟨w.heap.size, 3, none⟩ = some (.float .f64 f0) ∧ W.cell? ⟨w.heap.size, 4, none⟩ = some (.string s0) ∧ W.cell? ⟨w.heap.size, 5, none⟩ = some (.slice A0 l0.length c0) :=
    ⟨HX0.cell 0, HX0.cell 1, HX0.cell 2, HX0.cell 3, HX0.cell 4, HX0.cell 5⟩
  have hBW := Below.refl W.heap.size W
  have HB0 := Lib.hid hB0
  clear cm HX0 hB0
  cases m
  · clear ck cr hmp
    go_enter Tryd.func3, Tryd.ntmps3
    go_wp2_with fail
    clear hWd
    go_region_with (first
        | (go_at_call 8; refine (HAw.out _ hBW.drew).mono ?_; rintro e wn ⟨rfl, hbn⟩; have hB1 := hBW.drew.trans (hbn.mono (by simp)); have hy := box_keep hB1 ⟨⟨x0, x1, x2, x3, x4, x5⟩, hBW⟩; obtain ⟨⟨y0, y1, y2, y3, y4, y5⟩, -⟩ := hy)
        | (go_at_call 9; refine (HMa.out _ hB1).mono ?_; rintro e wm ⟨rfl, hbm⟩))
    all_goals
      go_wp2_with fail
      go_ret
      exact ⟨rfl, HB0.out.trans ((hB1.trans (hbm.mono hB1.size)).mono HB0.out.size)⟩
  · obtain ⟨h1, h2, h3⟩ := hmp rfl
    have HKo := Lib.hid (fun wn (h : Below W.heap.size W wn) => ck h2 (by omega) wn (H1.out.on h) (HM1.out.on h))
    have HRo := Lib.hid (fun wn (h : Below W.heap.size W wn) => cr h2 (by omega) wn (H1.out.on h))
    clear ck cr hmp h1 h2 h3
    go_enter Tryd.func3, Tryd.ntmps3
    go_wp2_with fail
    clear hWd
    go_region_held3 (fun w' => (w'.cell? ⟨w.heap.size, 0, none⟩ = some (.int .i64 k0) ∧ w'.cell? ⟨w.heap.size, 1, none⟩ = some (.bool b0) ∧ w'.cell? ⟨w.heap.size, 2, none⟩ = some (.int .i64 n0) ∧ w'.cell? ⟨w.heap.size, 3, none⟩ = some (.float .f64 f0) ∧ w'.cell? ⟨w.heap.size, 4, none⟩ = some (.string s0) ∧ w'.cell? ⟨w.heap.size, 5, none⟩ = some (.slice A0 l0.length c0)) ∧ Below W.heap.size W w')
      (first | (exact box_keep ((Below.refl W.heap.size W).drew) ⟨⟨x0, x1, x2, x3, x4, x5⟩, hBW⟩) | (exact box_keep (by assumption) (by assumption)))
      (first
        | (go_at_call 8; (with_reducible refine (HAw.out _ (by go_split_ands; assumption)).mono ?_); rintro e wn ⟨rfl, hbn⟩)
        | (go_at_call 9; (with_reducible refine (HMa.out _ (by go_split_ands; assumption)).mono ?_); rintro e wn ⟨rfl, hbn⟩)
        | (go_at_call 10; (with_reducible refine (HKo.out _ (by go_split_ands; assumption)).mono ?_); rintro e wn ⟨rfl, hbn⟩)
        | (go_at_call 11; (with_reducible refine (HRo.out _ (by go_split_ands; assumption)).mono ?_); rintro e wn ⟨rfl, hbn⟩))
    all_goals
      go_wp2_with fail
      go_ret
      exact ⟨rfl, HB0.out.trans ((And.right (by assumption) : Below W.heap.size W _).mono HB0.out.size)⟩

theorem six7 {w : World} {g : Nat} {t : TypeId} {c0 c1 c2 c3 c4 c5 : Value} (h : Blk w g t #[c0, c1, c2, c3, c4, c5]) :
    w.cell? ⟨g, 0, none⟩ = some c0 ∧ w.cell? ⟨g, 1, none⟩ = some c1 ∧ w.cell? ⟨g, 2, none⟩ = some c2 ∧ w.cell? ⟨g, 3, none⟩ = some c3 ∧ w.cell? ⟨g, 4, none⟩ = some c4 ∧ w.cell? ⟨g, 5, none⟩ = some c5 :=
  ⟨h.cell 0, h.cell 1, h.cell 2, h.cell 3, h.cell 4, h.cell 5⟩

theorem ext_bs (x : List UInt8) (n : Nat) : (bstr x).extract 0 n = bstr (x.take n) := by
  apply ByteArray.ext; apply Array.ext'
  simp [bstr, ByteArray.data_extract, List.extract_eq_take_drop]

theorem apart_bs {x y : List UInt8} (h : y.take x.length ≠ x) : (((bstr y).extract 0 (bstr x).size).toList == (bstr x).toList) = false := by
  rw [ext_bs, bstr_size, Lib.toList_data, Lib.toList_data]
  exact beq_eq_false_iff_ne.2 h

/-- two boxes' cells, in a world that has grown -/
theorem boxes7_keep {W w w' : World} {g h : Nat} {a0 a1 a2 a3 a4 a5 b0 b1 b2 b3 b4 b5 : Value} (hb : Below w.heap.size w w')
    (H : ((w.cell? ⟨g, 0, none⟩ = some a0 ∧ w.cell? ⟨g, 1, none⟩ = some a1 ∧ w.cell? ⟨g, 2, none⟩ = some a2 ∧ w.cell? ⟨g, 3, none⟩ = some a3 ∧ w.cell? ⟨g, 4, none⟩ = some a4 ∧ w.cell? ⟨g, 5, none⟩ = some a5) ∧ (w.cell? ⟨h, 0, none⟩ = some b0 ∧ w.cell? ⟨h, 1, none⟩ = some b1 ∧ w.cell? ⟨h, 2, none⟩ = some b2 ∧ w.cell? ⟨h, 3, none⟩ = some b3 ∧ w.cell? ⟨h, 4, none⟩ = some b4 ∧ w.cell? ⟨h, 5, none⟩ = some b5)) ∧ Below W.heap.size W w) :
    ((w'.cell? ⟨g, 0, none⟩ = some a0 ∧ w'.cell? ⟨g, 1, none⟩ = some a1 ∧ w'.cell? ⟨g, 2, none⟩ = some a2 ∧ w'.cell? ⟨g, 3, none⟩ = some a3 ∧ w'.cell? ⟨g, 4, none⟩ = some a4 ∧ w'.cell? ⟨g, 5, none⟩ = some a5) ∧ (w'.cell? ⟨h, 0, none⟩ = some b0 ∧ w'.cell? ⟨h, 1, none⟩ = some b1 ∧ w'.cell? ⟨h, 2, none⟩ = some b2 ∧ w'.cell? ⟨h, 3, none⟩ = some b3 ∧ w'.cell? ⟨h, 4, none⟩ = some b4 ∧ w'.cell? ⟨h, 5, none⟩ = some b5)) ∧ Below W.heap.size W w' := by
  have k : ∀ {p : Addr} {u : Value}, w.cell? p = some u → w'.cell? p = some u := fun h => (hb.cell (World.block_lt_of_cell? w _ h)).trans h
  obtain ⟨⟨⟨h0, h1, h2, h3, h4, h5⟩, ⟨g0, g1, g2, g3, g4, g5⟩⟩, hB⟩ := H
  exact ⟨⟨⟨k h0, k h1, k h2, k h3, k h4, k h5⟩, ⟨k g0, k g1, k g2, k g3, k g4, k g5⟩⟩, hB.trans (hb.mono hB.size)⟩

set_option maxHeartbeats 4000000 in
set_option maxRecDepth 100000 in
theorem keyorder_law (t0 t1 : T) (v0 v1 : Value) (w : World) (rd0 : Rd w w.heap.size t0 v0) (rd1 : Rd w w.heap.size t1 v1) (hM : Mx w.heap.size w) :
    Calls Tryd.prog 4 #[v0, v1] w fun e w' => e = .returned (.bool true) ∧ Below w.heap.size w w' := by
  have hmp0 := may_parts (t := t0)
  have hmp1 := may_parts (t := t1)
  have N0 : NumsT t0 := ⟨_, _, _, rd0⟩
  have N1 : NumsT t1 := ⟨_, _, _, rd1⟩
  have hkc := fun h h' => key_cmp (a := t0) (b := t1) h h' N0 N1
  have hka := fun h h' => key_apart (a := t0) (b := t1) h h' N0 N1
  obtain ⟨m0, hm0⟩ : ∃ m, mayB t0 = m := ⟨_, rfl⟩
  obtain ⟨m1, hm1⟩ : ∃ m, mayB t1 = m := ⟨_, rfl⟩
  rw [hm0] at hmp0
  rw [hm1] at hmp1
  have cm0 := fun W (hW : Rd W W.heap.size t0 v0) => may_any hW
  have cm1 := fun W (hW : Rd W W.heap.size t1 v1) => may_any hW
  simp only [hm0] at cm0
  simp only [hm1] at cm1
  obtain ⟨c, hc⟩ : ∃ c, cmpT t0 t1 = c := ⟨_, rfl⟩
  have cc := fun W (hW : Rd W W.heap.size t0 v0) (hW' : Rd W W.heap.size t1 v1) => rfcmp_any hW hW'
  simp only [hc] at cc hkc hka
  obtain ⟨X, hX⟩ : ∃ S, bstr (keyT t0) = S := ⟨_, rfl⟩
  obtain ⟨Y, hY⟩ : ∃ S, bstr (keyT t1) = S := ⟨_, rfl⟩
  have ck0 := fun (hc : chkT t0 1 = 0) (hl : (keyT t0).length ≤ 140737488355328) W (hW : Rd W W.heap.size t0 v0) (hx : Mx W.heap.size W) => kof_any hc hW hx hl
  have ck1 := fun (hc : chkT t1 1 = 0) (hl : (keyT t1).length ≤ 140737488355328) W (hW : Rd W W.heap.size t1 v1) (hx : Mx W.heap.size W) => kof_any hc hW hx hl
  simp only [hX] at ck0
  simp only [hY] at ck1
  have hz : X.size = (keyT t0).length := by rw [← hX, bstr_size]
  have l1 : chkF t0 = 0 → chkF t1 = 0 → Op.bytesLess X.toList Y.toList = decide (c < 0) := fun h h' => by rw [← hX, ← hY, less_bs, hkc h h']
  have l2 : chkF t0 = 0 → chkF t1 = 0 → (X.toList == Y.toList) = (c == 0) := fun h h' => by rw [← hX, ← hY, same_bs, hkc h h']; rfl
  have l3 : chkF t0 = 0 → chkF t1 = 0 → c ≠ 0 → ((Y.extract 0 X.size).toList == X.toList) = false := fun h h' h2 => by rw [← hX, ← hY]; exact apart_bs fun e => h2 (hka h h' e)
  clear hm0 hm1 hc hX hY hkc hka N0 N1
  obtain ⟨k0, b0, n0, f0, s0, q0⟩ := t0
  obtain ⟨A0, c0, rfl, -⟩ := rd0.open
  obtain ⟨k1, b1, n1, f1, s1, q1⟩ := t1
  obtain ⟨A1, c1, rfl, -⟩ := rd1.open
  obtain ⟨W, hWd⟩ : ∃ W, (w.alloc (.cells #[.int .i64 k0, .bool b0, .int .i64 n0, .float .f64 f0, .string s0, .slice A0 q0.length c0] 25)).alloc (.cells #[.int .i64 k1, .bool b1, .int .i64 n1, .float .f64 f1, .string s1, .slice A1 q1.length c1] 25) = W := ⟨_, rfl⟩
  have hB0 : Below w.heap.size w W := by rw [← hWd]; exact ((Below.refl w.heap.size w).alloc (Nat.le_refl _) _).alloc (by simp) _
  have HX0 : Blk W w.heap.size 25 #[.int .i64 k0, .bool b0, .int .i64 n0, .float .f64 f0, .string s0, .slice A0 q0.length c0] := by
    rw [← hWd]; exact (Blk.new w _ _).below ((Below.refl _ _).alloc (Nat.le_refl _) _) (by simp)
  have HX1 : Blk W (w.heap.size + 1) 25 #[.int .i64 k1, .bool b1, .int .i64 n1, .float .f64 f1, .string s1, .slice A1 q1.length c1] := by
    rw [← hWd]
    have := Blk.new (w.alloc (.cells #[.int .i64 k0, .bool b0, .int .i64 n0, .float .f64 f0, .string s0, .slice A0 q0.length c0] 25)) 25 #[.int .i64 k1, .bool b1, .int .i64 n1, .float .f64 f1, .string s1, .slice A1 q1.length c1]
    simpa using this
  have H0 := Lib.hid (rd0.on hB0)
  have H1 := Lib.hid (rd1.on hB0)
  have HM1 := Lib.hid (hM.on hB0)
  clear rd0 rd1 hM
  have HAw := Lib.hid (fun wn (h : Below W.heap.size W wn) => awake7_any wn (HM1.out.on h))
  have HMa0 := Lib.hid (fun wn (h : Below W.heap.size W wn) => cm0 wn (H0.out.on h))
  have HMa1 := Lib.hid (fun wn (h : Below W.heap.size W wn) => cm1 wn (H1.out.on h))
  have HCc := Lib.hid (fun wn (h : Below W.heap.size W wn) => cc wn (H0.out.on h) (H1.out.on h))
  have HK0 := Lib.hid (fun hc hl wn (h : Below W.heap.size W wn) => ck0 hc hl wn (H0.out.on h) (HM1.out.on h))
  have HK1 := Lib.hid (fun hc hl wn (h : Below W.heap.size W wn) => ck1 hc hl wn (H1.out.on h) (HM1.out.on h))
  clear cm0 cm1 cc ck0 ck1
  obtain ⟨x0, x1, x2, x3, x4, x5⟩ := six7 HX0
  have hBW := Below.refl W.heap.size W
  have HB0 := Lib.hid hB0
  have HY0 := Lib.hid HX0; have HY1 := Lib.hid HX1
  clear HX0 HX1 hB0
  cases m0
  · clear l1 l2 l3 hmp0 hmp1 hz
    go_enter Tryd.func4, Tryd.ntmps4
    go_wp2_with fail
    clear hWd
    refine (HMa0.out _ hBW).mono ?_
    rintro e wa ⟨rfl, hba⟩
    go_wp2_with fail
    refine (HAw.out _ hba).mono ?_
    rintro e wb ⟨rfl, hbb⟩
    go_wp2_with fail
    go_ret
    exact ⟨rfl, HB0.out.trans ((hba.trans (hbb.mono hba.size)).mono HB0.out.size)⟩
  obtain ⟨g1, g2, g3⟩ := hmp0 rfl
  clear hmp0
  cases m1
  · clear l1 l2 l3 hmp1 hz
    go_enter Tryd.func4, Tryd.ntmps4
    go_wp2_with fail
    clear hWd
    refine (HMa0.out _ hBW).mono ?_
    rintro e wa ⟨rfl, hba⟩
    obtain ⟨y0, y1, y2, y3, y4, y5⟩ := six7 (HY1.out.below hba HY1.out.lt)
    go_wp2_with fail
    refine (HMa1.out _ hba).mono ?_
    rintro e wb ⟨rfl, hbb⟩
    have hBb := hba.trans (hbb.mono hba.size)
    clear y0 y1 y2 y3 y4 y5
    go_wp2_with fail
    refine (HAw.out _ hBb).mono ?_
    rintro e wc ⟨rfl, hbc⟩
    go_wp2_with fail
    go_ret
    exact ⟨rfl, HB0.out.trans ((hBb.trans (hbc.mono hBb.size)).mono HB0.out.size)⟩
  obtain ⟨e1, e2, e3⟩ := hmp1 rfl
  clear hmp1
  have l1 := l1 g1 e1
  have l2 := l2 g1 e1
  have l3 := l3 g1 e1
  have HKa := Lib.hid (HK0.out g2 (by omega)); have HKb := Lib.hid (HK1.out e2 (by omega))
  have hz2 : X.size ≤ 8000 := by omega
  clear hz g1 g2 g3 e1 e2 e3
  obtain ⟨p1, hp1⟩ : ∃ p, Op.bytesLess X.toList Y.toList = p := ⟨_, rfl⟩
  obtain ⟨p2, hp2⟩ : ∃ p, (X.toList == Y.toList) = p := ⟨_, rfl⟩
  rw [hp1] at l1
  rw [hp2] at l2
  have r1 : decide (c < 0) = p1 := l1.symm
  have r2 : (c == 0) = p2 := l2.symm
  clear l1 l2
  cases p2
  · have l3 := l3 (beq_eq_false_iff_ne.1 r2)
    have r2' : (c != 0) = true := by unfold bne; rw [r2]; rfl
    have l3' : ((Y.extract 0 X.size).toList != X.toList) = true := by unfold bne; rw [l3]; rfl
    by_cases hgt : Y.size < X.size
    · have dgt : decide ((Y.size : Int) < (X.size : Int)) = true := by rw [decide_eq_true_eq]; omega
      clear hgt
      cases p1
      all_goals
        go_enter Tryd.func4, Tryd.ntmps4
        go_wp2_with fail
        clear hWd
        refine (HMa0.out _ hBW).mono ?_
        rintro e wa ⟨rfl, hba⟩
        clear x0 x1 x2 x3 x4 x5
        obtain ⟨y0, y1, y2, y3, y4, y5⟩ := six7 (HY1.out.below hba HY1.out.lt)
        go_wp2_with fail
        refine (HMa1.out _ hba).mono ?_
        rintro e wb ⟨rfl, hbb⟩
        have hBb := hba.trans (hbb.mono hba.size)
        clear y0 y1 y2 y3 y4 y5
        obtain ⟨y0, y1, y2, y3, y4, y5⟩ := six7 (HY1.out.below hBb HY1.out.lt)
        obtain ⟨z0, z1, z2, z3, z4, z5⟩ := six7 (HY0.out.below hBb HY0.out.lt)
        go_wp2_with fail
        refine (HCc.out _ hBb).mono ?_
        rintro e wc ⟨rfl, hbc⟩
        have hBc := hBb.trans (hbc.mono hBb.size)
        clear y0 y1 y2 y3 y4 y5 z0 z1 z2 z3 z4 z5
        obtain ⟨y0, y1, y2, y3, y4, y5⟩ := six7 (HY1.out.below hBc HY1.out.lt)
        obtain ⟨z0, z1, z2, z3, z4, z5⟩ := six7 (HY0.out.below hBc HY0.out.lt)
        go_wp2_with fail
        go_region_held3 (fun w' => ((w'.cell? ⟨w.heap.size, 0, none⟩ = some (.int .i64 k0) ∧ w'.cell? ⟨w.heap.size, 1, none⟩ = some (.bool b0) ∧ w'.cell? ⟨w.heap.size, 2, none⟩ = some (.int .i64 n0) ∧ w'.cell? ⟨w.heap.size, 3, none⟩ = some (.float .f64 f0) ∧ w'.cell? ⟨w.heap.size, 4, none⟩ = some (.string s0) ∧ w'.cell? ⟨w.heap.size, 5, none⟩ = some (.slice A0 q0.length c0)) ∧ (w'.cell? ⟨w.heap.size + 1, 0, none⟩ = some (.int .i64 k1) ∧ w'.cell? ⟨w.heap.size + 1, 1, none⟩ = some (.bool b1) ∧ w'.cell? ⟨w.heap.size + 1, 2, none⟩ = some (.int .i64 n1) ∧ w'.cell? ⟨w.heap.size + 1, 3, none⟩ = some (.float .f64 f1) ∧ w'.cell? ⟨w.heap.size + 1, 4, none⟩ = some (.string s1) ∧ w'.cell? ⟨w.heap.size + 1, 5, none⟩ = some (.slice A1 q1.length c1))) ∧ Below W.heap.size W w')
          (first | (exact boxes7_keep ((Below.refl wc.heap.size wc).drew) ⟨⟨⟨z0, z1, z2, z3, z4, z5⟩, ⟨y0, y1, y2, y3, y4, y5⟩⟩, hBc⟩) | (exact boxes7_keep (by assumption) (by assumption)))
          (first
            | (go_at_call 10; (first | (with_reducible refine (HKa.out _ (by go_split_ands; assumption)).mono ?_) | (with_reducible refine (HKb.out _ (by go_split_ands; assumption)).mono ?_)); rintro e wn ⟨rfl, hbn⟩))
        all_goals
          go_wp2_with fail
          refine (HAw.out _ (And.right (by assumption))).mono ?_
          rintro e wz ⟨rfl, hbz⟩
          go_wp2_with fail
          all_goals
            go_ret
            exact ⟨rfl, HB0.out.trans (((And.right (by assumption) : Below W.heap.size W _).trans (hbz.mono (Below.size (And.right (by assumption) : Below W.heap.size W _)))).mono HB0.out.size)⟩
    · have dgt : decide ((Y.size : Int) < (X.size : Int)) = false := by rw [decide_eq_false_iff_not]; omega
      have i1 : (0 : Int) ≤ (X.size : Int) := by omega
      have i2 : (X.size : Int) ≤ (Y.size : Int) := by omega
      clear hgt
      cases p1
      all_goals
        go_enter Tryd.func4, Tryd.ntmps4
        go_wp2_with fail
        clear hWd
        refine (HMa0.out _ hBW).mono ?_
        rintro e wa ⟨rfl, hba⟩
        clear x0 x1 x2 x3 x4 x5
        obtain ⟨y0, y1, y2, y3, y4, y5⟩ := six7 (HY1.out.below hba HY1.out.lt)
        go_wp2_with fail
        refine (HMa1.out _ hba).mono ?_
        rintro e wb ⟨rfl, hbb⟩
        have hBb := hba.trans (hbb.mono hba.size)
        clear y0 y1 y2 y3 y4 y5
        obtain ⟨y0, y1, y2, y3, y4, y5⟩ := six7 (HY1.out.below hBb HY1.out.lt)
        obtain ⟨z0, z1, z2, z3, z4, z5⟩ := six7 (HY0.out.below hBb HY0.out.lt)
        go_wp2_with fail
        refine (HCc.out _ hBb).mono ?_
        rintro e wc ⟨rfl, hbc⟩
        have hBc := hBb.trans (hbc.mono hBb.size)
        clear y0 y1 y2 y3 y4 y5 z0 z1 z2 z3 z4 z5
        obtain ⟨y0, y1, y2, y3, y4, y5⟩ := six7 (HY1.out.below hBc HY1.out.lt)
        obtain ⟨z0, z1, z2, z3, z4, z5⟩ := six7 (HY0.out.below hBc HY0.out.lt)
        go_wp2_with fail
        go_region_held3 (fun w' => ((w'.cell? ⟨w.heap.size, 0, none⟩ = some (.int .i64 k0) ∧ w'.cell? ⟨w.heap.size, 1, none⟩ = some (.bool b0) ∧ w'.cell? ⟨w.heap.size, 2, none⟩ = some (.int .i64 n0) ∧ w'.cell? ⟨w.heap.size, 3, none⟩ = some (.float .f64 f0) ∧ w'.cell? ⟨w.heap.size, 4, none⟩ = some (.string s0) ∧ w'.cell? ⟨w.heap.size, 5, none⟩ = some (.slice A0 q0.length c0)) ∧ (w'.cell? ⟨w.heap.size + 1, 0, none⟩ = some (.int .i64 k1) ∧ w'.cell? ⟨w.heap.size + 1, 1, none⟩ = some (.bool b1) ∧ w'.cell? ⟨w.heap.size + 1, 2, none⟩ = some (.int .i64 n1) ∧ w'.cell? ⟨w.heap.size + 1, 3, none⟩ = some (.float .f64 f1) ∧ w'.cell? ⟨w.heap.size + 1, 4, none⟩ = some (.string s1) ∧ w'.cell? ⟨w.heap.size + 1, 5, none⟩ = some (.slice A1 q1.length c1))) ∧ Below W.heap.size W w')
          (first | (exact boxes7_keep ((Below.refl wc.heap.size wc).drew) ⟨⟨⟨z0, z1, z2, z3, z4, z5⟩, ⟨y0, y1, y2, y3, y4, y5⟩⟩, hBc⟩) | (exact boxes7_keep (by assumption) (by assumption)))
          (first
            | (go_at_call 10; (first | (with_reducible refine (HKa.out _ (by go_split_ands; assumption)).mono ?_) | (with_reducible refine (HKb.out _ (by go_split_ands; assumption)).mono ?_)); rintro e wn ⟨rfl, hbn⟩))
        all_goals
          go_wp2_with fail
          refine (HAw.out _ (And.right (by assumption))).mono ?_
          rintro e wz ⟨rfl, hbz⟩
          go_wp2_with fail
          all_goals
            go_ret
            exact ⟨rfl, HB0.out.trans (((And.right (by assumption) : Below W.heap.size W _).trans (hbz.mono (Below.size (And.right (by assumption) : Below W.heap.size W _)))).mono HB0.out.size)⟩
  · have r2' : (c != 0) = false := by unfold bne; rw [r2]; rfl
    clear l3
    cases p1
    all_goals
      go_enter Tryd.func4, Tryd.ntmps4
      go_wp2_with fail
      clear hWd
      refine (HMa0.out _ hBW).mono ?_
      rintro e wa ⟨rfl, hba⟩
      clear x0 x1 x2 x3 x4 x5
      obtain ⟨y0, y1, y2, y3, y4, y5⟩ := six7 (HY1.out.below hba HY1.out.lt)
      go_wp2_with fail
      refine (HMa1.out _ hba).mono ?_
      rintro e wb ⟨rfl, hbb⟩
      have hBb := hba.trans (hbb.mono hba.size)
      clear y0 y1 y2 y3 y4 y5
      obtain ⟨y0, y1, y2, y3, y4, y5⟩ := six7 (HY1.out.below hBb HY1.out.lt)
      obtain ⟨z0, z1, z2, z3, z4, z5⟩ := six7 (HY0.out.below hBb HY0.out.lt)
      go_wp2_with fail
      refine (HCc.out _ hBb).mono ?_
      rintro e wc ⟨rfl, hbc⟩
      have hBc := hBb.trans (hbc.mono hBb.size)
      clear y0 y1 y2 y3 y4 y5 z0 z1 z2 z3 z4 z5
      obtain ⟨y0, y1, y2, y3, y4, y5⟩ := six7 (HY1.out.below hBc HY1.out.lt)
      obtain ⟨z0, z1, z2, z3, z4, z5⟩ := six7 (HY0.out.below hBc HY0.out.lt)
      go_wp2_with fail
      go_region_held3 (fun w' => ((w'.cell? ⟨w.heap.size, 0, none⟩ = some (.int .i64 k0) ∧ w'.cell? ⟨w.heap.size, 1, none⟩ = some (.bool b0) ∧ w'.cell? ⟨w.heap.size, 2, none⟩ = some (.int .i64 n0) ∧ w'.cell? ⟨w.heap.size, 3, none⟩ = some (.float .f64 f0) ∧ w'.cell? ⟨w.heap.size, 4, none⟩ = some (.string s0) ∧ w'.cell? ⟨w.heap.size, 5, none⟩ = some (.slice A0 q0.length c0)) ∧ (w'.cell? ⟨w.heap.size + 1, 0, none⟩ = some (.int .i64 k1) ∧ w'.cell? ⟨w.heap.size + 1, 1, none⟩ = some (.bool b1) ∧ w'.cell? ⟨w.heap.size + 1, 2, none⟩ = some (.int .i64 n1) ∧ w'.cell? ⟨w.heap.size + 1, 3, none⟩ = some (.float .f64 f1) ∧ w'.cell? ⟨w.heap.size + 1, 4, none⟩ = some (.string s1) ∧ w'.cell? ⟨w.heap.size + 1, 5, none⟩ = some (.slice A1 q1.length c1))) ∧ Below W.heap.size W w')
        (first | (exact boxes7_keep ((Below.refl wc.heap.size wc).drew) ⟨⟨⟨z0, z1, z2, z3, z4, z5⟩, ⟨y0, y1, y2, y3, y4, y5⟩⟩, hBc⟩) | (exact boxes7_keep (by assumption) (by assumption)))
        (first
          | (go_at_call 10; (first | (with_reducible refine (HKa.out _ (by go_split_ands; assumption)).mono ?_) | (with_reducible refine (HKb.out _ (by go_split_ands; assumption)).mono ?_)); rintro e wn ⟨rfl, hbn⟩))
      all_goals
        go_wp2_with fail
        refine (HAw.out _ (And.right (by assumption))).mono ?_
        rintro e wz ⟨rfl, hbz⟩
        go_wp2_with fail
        all_goals
          go_ret
          exact ⟨rfl, HB0.out.trans (((And.right (by assumption) : Below W.heap.size W _).trans (hbz.mono (Below.size (And.right (by assumption) : Below W.heap.size W _)))).mono HB0.out.size)⟩

end Go.Proofs.YtigepnhnccfpiaaDoor
