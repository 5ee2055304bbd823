/- the walks of ValOrder and ValGoesOn -/
import Derived.Test.YtjkoogplipeacaaAwk
import Derived.Test.YtjkoogplipeacaaCmpS
import Derived.Test.YtjkoogplipeacaaWeigh
import Derived.Test.YtjkoogplipeacaaOpen
namespace Go.Proofs.Ytjkoogplipeacaa
open Go.ChangeShapes Go.WideShapes Go.ChangeAt Go.RowKit Go.Fl

theorem six_of {w : World} {g : Nat} {t : TypeId} {c0 c1 c2 c3 c4 c5 : Value} (h : Blk w g t #[c0, c1, c2, c3, c4, c5]) :
    w.cell? ⟨g, 0, none⟩ = some c0 ∧ w.cell? ⟨g, 1, none⟩ = some c1 ∧ w.cell? ⟨g, 2, none⟩ = some c2 ∧ w.cell? ⟨g, 3, none⟩ = some c3 ∧ w.cell? ⟨g, 4, none⟩ = some c4 ∧ w.cell? ⟨g, 5, none⟩ = some c5 :=
  ⟨h.cell 0, h.cell 1, h.cell 2, h.cell 3, h.cell 4, h.cell 5⟩

set_option maxHeartbeats 1000000 in
set_option maxRecDepth 100000 in
theorem order2_any (t0 t1 : T) (v0 v1 : Value) (w : World) (rd0 : Rd w w.heap.size t0 v0) (rd1 : Rd w w.heap.size t1 v1) :
    Calls Try.prog 4 #[v0, v1] w fun e w' => e = .returned (.bool true) ∧ Below w.heap.size w w' := by
  have hw0 := wgh_le t0 3000 (by decide)
  have hw1 := wgh_le t1 3000 (by decide)
  have hn := cmpT_neg t0 t1
  obtain ⟨z, hz⟩ : ∃ z, cmpT t0 t1 = z := ⟨_, rfl⟩
  obtain ⟨y, hy⟩ : ∃ y, cmpT t1 t0 = y := ⟨_, rfl⟩
  obtain ⟨p, hp⟩ : ∃ p, wgh t0 3000 = p := ⟨_, rfl⟩
  obtain ⟨q, hq⟩ : ∃ q, wgh t1 3000 = q := ⟨_, rfl⟩
  rw [hz, hy] at hn
  rw [hp] at hw0; rw [hq] at hw1
  have Hz := Lib.hid hz; have Hy := Lib.hid hy; have Hp := Lib.hid hp; have Hq := Lib.hid hq
  clear hz hy hp hq
  obtain ⟨k0, b0, n0, f0, s0, l0⟩ := t0
  obtain ⟨A0, c0, rfl, -⟩ := rd0.open
  have H0 := Lib.hid rd0
  clear rd0
  obtain ⟨k1, b1, n1, f1, s1, l1⟩ := t1
  obtain ⟨A1, c1, rfl, -⟩ := rd1.open
  have H1 := Lib.hid rd1
  clear rd1
  have hB0 := ((Below.refl w.heap.size w).alloc (Nat.le_refl _) (.cells #[.int .i64 k0, .bool b0, .int .i64 n0, .float .f64 f0, .string s0, .slice A0 l0.length c0] 25)).alloc (by simp only [World.size_alloc]; omega) (.cells #[.int .i64 k1, .bool b1, .int .i64 n1, .float .f64 f1, .string s1, .slice A1 l1.length c1] 25)
  have hX0 : Blk (w.alloc (.cells #[.int .i64 k0, .bool b0, .int .i64 n0, .float .f64 f0, .string s0, .slice A0 l0.length c0] 25)) (w.heap.size) 25 #[.int .i64 k0, .bool b0, .int .i64 n0, .float .f64 f0, .string s0, .slice A0 l0.length c0] := by have h := Blk.new w 25 #[.int .i64 k0, .bool b0, .int .i64 n0, .float .f64 f0, .string s0, .slice A0 l0.length c0]; simpa only [World.size_alloc] using h
  have hX1 : Blk ((w.alloc (.cells #[.int .i64 k0, .bool b0, .int .i64 n0, .float .f64 f0, .string s0, .slice A0 l0.length c0] 25)).alloc (.cells #[.int .i64 k1, .bool b1, .int .i64 n1, .float .f64 f1, .string s1, .slice A1 l1.length c1] 25)) (w.heap.size + 1) 25 #[.int .i64 k1, .bool b1, .int .i64 n1, .float .f64 f1, .string s1, .slice A1 l1.length c1] := by have h := Blk.new (w.alloc (.cells #[.int .i64 k0, .bool b0, .int .i64 n0, .float .f64 f0, .string s0, .slice A0 l0.length c0] 25)) 25 #[.int .i64 k1, .bool b1, .int .i64 n1, .float .f64 f1, .string s1, .slice A1 l1.length c1]; simpa only [World.size_alloc] using h
  replace hX0 := hX0.below ((Below.refl _ _).alloc (Nat.le_refl _) (.cells #[.int .i64 k1, .bool b1, .int .i64 n1, .float .f64 f1, .string s1, .slice A1 l1.length c1] 25)) hX0.lt
  have HX0 := Lib.hid hX0; clear hX0
  have HX1 := Lib.hid hX1; clear hX1
  by_cases h0 : 3000 < p
  · have d0 : decide (3000 < p) = true := by simpa using h0
    clear h0 hn
    go_enter Try.func4, Try.ntmps4
    go_wp2_with fail
    refine (weigh_any _ _ 3000 _ (H0.out.on hB0) (by decide) (by decide)).mono ?_
    rw [Hp.out]
    rintro e w1 ⟨rfl, hb1⟩
    have hB1 := hB0.trans (hb1.mono hB0.size)
    have HY0 := Lib.hid (HX0.out.below hb1 HX0.out.lt); clear HX0; have HX0 := HY0; clear HY0
    have HY1 := Lib.hid (HX1.out.below hb1 HX1.out.lt); clear HX1; have HX1 := HY1; clear HY1
    clear hb1
    obtain ⟨x00, x01, x02, x03, x04, x05⟩ := six_of HX0.out
    obtain ⟨x10, x11, x12, x13, x14, x15⟩ := six_of HX1.out
    go_wp2_with fail
    refine (awake_any _).mono ?_
    rintro e w2 ⟨rfl, hb2⟩
    clear x00 x01 x02 x03 x04 x05 x10 x11 x12 x13 x14 x15
    have hB2 := hB1.trans (hb2.mono hB1.size)
    have HY0 := Lib.hid (HX0.out.below hb2 HX0.out.lt); clear HX0; have HX0 := HY0; clear HY0
    have HY1 := Lib.hid (HX1.out.below hb2 HX1.out.lt); clear HX1; have HX1 := HY1; clear HY1
    clear hb2
    obtain ⟨x00, x01, x02, x03, x04, x05⟩ := six_of HX0.out
    obtain ⟨x10, x11, x12, x13, x14, x15⟩ := six_of HX1.out
    go_wp2_with fail
    go_ret
    exact ⟨rfl, hB2⟩
  have d0 : decide (3000 < p) = false := by simpa using h0
  clear h0
  by_cases h1 : 3000 < q
  · have d1 : decide (3000 < q) = true := by simpa using h1
    clear h1 hn
    go_enter Try.func4, Try.ntmps4
    go_wp2_with fail
    refine (weigh_any _ _ 3000 _ (H0.out.on hB0) (by decide) (by decide)).mono ?_
    rw [Hp.out]
    rintro e w1 ⟨rfl, hb1⟩
    have hB1 := hB0.trans (hb1.mono hB0.size)
    have HY0 := Lib.hid (HX0.out.below hb1 HX0.out.lt); clear HX0; have HX0 := HY0; clear HY0
    have HY1 := Lib.hid (HX1.out.below hb1 HX1.out.lt); clear HX1; have HX1 := HY1; clear HY1
    clear hb1
    obtain ⟨x00, x01, x02, x03, x04, x05⟩ := six_of HX0.out
    obtain ⟨x10, x11, x12, x13, x14, x15⟩ := six_of HX1.out
    go_wp2_with fail
    refine (weigh_any _ _ 3000 _ (H1.out.on hB1) (by decide) (by decide)).mono ?_
    rw [Hq.out]
    rintro e w2 ⟨rfl, hb2⟩
    clear x00 x01 x02 x03 x04 x05 x10 x11 x12 x13 x14 x15
    have hB2 := hB1.trans (hb2.mono hB1.size)
    have HY0 := Lib.hid (HX0.out.below hb2 HX0.out.lt); clear HX0; have HX0 := HY0; clear HY0
    have HY1 := Lib.hid (HX1.out.below hb2 HX1.out.lt); clear HX1; have HX1 := HY1; clear HY1
    clear hb2
    obtain ⟨x00, x01, x02, x03, x04, x05⟩ := six_of HX0.out
    obtain ⟨x10, x11, x12, x13, x14, x15⟩ := six_of HX1.out
    go_wp2_with fail
    refine (awake_any _).mono ?_
    rintro e w3 ⟨rfl, hb3⟩
    clear x00 x01 x02 x03 x04 x05 x10 x11 x12 x13 x14 x15
    have hB3 := hB2.trans (hb3.mono hB2.size)
    have HY0 := Lib.hid (HX0.out.below hb3 HX0.out.lt); clear HX0; have HX0 := HY0; clear HY0
    have HY1 := Lib.hid (HX1.out.below hb3 HX1.out.lt); clear HX1; have HX1 := HY1; clear HY1
    clear hb3
    obtain ⟨x00, x01, x02, x03, x04, x05⟩ := six_of HX0.out
    obtain ⟨x10, x11, x12, x13, x14, x15⟩ := six_of HX1.out
    go_wp2_with fail
    go_ret
    exact ⟨rfl, hB3⟩
  have d1 : decide (3000 < q) = false := by simpa using h1
  clear h1
  obtain ⟨e0, e1, e2, e3, e4, e5, e6⟩ : ∃ u v o : Bool, decide (z < 0) = u ∧ decide (0 < z) = v ∧ decide (y < 0) = v ∧ (z == 0) = o := ⟨_, _, _, rfl, rfl, by rw [decide_eq_decide]; omega, rfl⟩
  clear hn
  go_enter Try.func4, Try.ntmps4
  go_wp2_with fail
  refine (weigh_any _ _ 3000 _ (H0.out.on hB0) (by decide) (by decide)).mono ?_
  rw [Hp.out]
  rintro e w1 ⟨rfl, hb1⟩
  have hB1 := hB0.trans (hb1.mono hB0.size)
  have HY0 := Lib.hid (HX0.out.below hb1 HX0.out.lt); clear HX0; have HX0 := HY0; clear HY0
  have HY1 := Lib.hid (HX1.out.below hb1 HX1.out.lt); clear HX1; have HX1 := HY1; clear HY1
  clear hb1
  obtain ⟨x00, x01, x02, x03, x04, x05⟩ := six_of HX0.out
  obtain ⟨x10, x11, x12, x13, x14, x15⟩ := six_of HX1.out
  go_wp2_with fail
  refine (weigh_any _ _ 3000 _ (H1.out.on hB1) (by decide) (by decide)).mono ?_
  rw [Hq.out]
  rintro e w2 ⟨rfl, hb2⟩
  clear x00 x01 x02 x03 x04 x05 x10 x11 x12 x13 x14 x15
  have hB2 := hB1.trans (hb2.mono hB1.size)
  have HY0 := Lib.hid (HX0.out.below hb2 HX0.out.lt); clear HX0; have HX0 := HY0; clear HY0
  have HY1 := Lib.hid (HX1.out.below hb2 HX1.out.lt); clear HX1; have HX1 := HY1; clear HY1
  clear hb2
  obtain ⟨x00, x01, x02, x03, x04, x05⟩ := six_of HX0.out
  obtain ⟨x10, x11, x12, x13, x14, x15⟩ := six_of HX1.out
  go_wp2_with fail
  refine (rfcmp_any (H0.out.on hB2) (H1.out.on hB2)).mono ?_
  rw [Hz.out]
  rintro e w3 ⟨rfl, hb3⟩
  clear x00 x01 x02 x03 x04 x05 x10 x11 x12 x13 x14 x15
  have hB3 := hB2.trans (hb3.mono hB2.size)
  have HY0 := Lib.hid (HX0.out.below hb3 HX0.out.lt); clear HX0; have HX0 := HY0; clear HY0
  have HY1 := Lib.hid (HX1.out.below hb3 HX1.out.lt); clear HX1; have HX1 := HY1; clear HY1
  clear hb3
  obtain ⟨x00, x01, x02, x03, x04, x05⟩ := six_of HX0.out
  obtain ⟨x10, x11, x12, x13, x14, x15⟩ := six_of HX1.out
  go_wp2_with fail
  refine (vcmp_any (H0.out.on hB3) (H1.out.on hB3)).mono ?_
  rw [Hz.out]
  rintro e w4 ⟨rfl, hb4⟩
  clear x00 x01 x02 x03 x04 x05 x10 x11 x12 x13 x14 x15
  have hB4 := hB3.trans (hb4.mono hB3.size)
  have HY0 := Lib.hid (HX0.out.below hb4 HX0.out.lt); clear HX0; have HX0 := HY0; clear HY0
  have HY1 := Lib.hid (HX1.out.below hb4 HX1.out.lt); clear HX1; have HX1 := HY1; clear HY1
  clear hb4
  obtain ⟨x00, x01, x02, x03, x04, x05⟩ := six_of HX0.out
  obtain ⟨x10, x11, x12, x13, x14, x15⟩ := six_of HX1.out
  go_wp2_with fail
  refine (awake_any _).mono ?_
  rintro e w5 ⟨rfl, hb5⟩
  clear x00 x01 x02 x03 x04 x05 x10 x11 x12 x13 x14 x15
  have hB5 := hB4.trans (hb5.mono hB4.size)
  have HY0 := Lib.hid (HX0.out.below hb5 HX0.out.lt); clear HX0; have HX0 := HY0; clear HY0
  have HY1 := Lib.hid (HX1.out.below hb5 HX1.out.lt); clear HX1; have HX1 := HY1; clear HY1
  clear hb5
  obtain ⟨x00, x01, x02, x03, x04, x05⟩ := six_of HX0.out
  obtain ⟨x10, x11, x12, x13, x14, x15⟩ := six_of HX1.out
  go_wp2_with fail
  refine (vcmp_any (H1.out.on hB5) (H0.out.on hB5)).mono ?_
  rw [Hy.out]
  rintro e w6 ⟨rfl, hb6⟩
  clear x00 x01 x02 x03 x04 x05 x10 x11 x12 x13 x14 x15
  have hB6 := hB5.trans (hb6.mono hB5.size)
  have HY0 := Lib.hid (HX0.out.below hb6 HX0.out.lt); clear HX0; have HX0 := HY0; clear HY0
  have HY1 := Lib.hid (HX1.out.below hb6 HX1.out.lt); clear HX1; have HX1 := HY1; clear HY1
  clear hb6
  obtain ⟨x00, x01, x02, x03, x04, x05⟩ := six_of HX0.out
  obtain ⟨x10, x11, x12, x13, x14, x15⟩ := six_of HX1.out
  go_wp2_with fail
  refine (vsame_any (H0.out.on hB6) (H1.out.on hB6)).mono ?_
  rw [Hz.out]
  rintro e w7 ⟨rfl, hb7⟩
  clear x00 x01 x02 x03 x04 x05 x10 x11 x12 x13 x14 x15
  have hB7 := hB6.trans (hb7.mono hB6.size)
  have HY0 := Lib.hid (HX0.out.below hb7 HX0.out.lt); clear HX0; have HX0 := HY0; clear HY0
  have HY1 := Lib.hid (HX1.out.below hb7 HX1.out.lt); clear HX1; have HX1 := HY1; clear HY1
  clear hb7
  obtain ⟨x00, x01, x02, x03, x04, x05⟩ := six_of HX0.out
  obtain ⟨x10, x11, x12, x13, x14, x15⟩ := six_of HX1.out
  go_wp2_with fail
  go_ret
  exact ⟨by simp, hB7⟩

set_option maxHeartbeats 1000000 in
set_option maxRecDepth 100000 in
theorem goeson_any (t0 t1 t2 : T) (v0 v1 v2 : Value) (w : World) (rd0 : Rd w w.heap.size t0 v0) (rd1 : Rd w w.heap.size t1 v1) (rd2 : Rd w w.heap.size t2 v2) :
    Calls Try.prog 5 #[v0, v1, v2] w fun e w' => e = .returned (.bool true) ∧ Below w.heap.size w w' := by
  have hw0 := wgh_le t0 1000 (by decide)
  have hw1 := wgh_le t1 1000 (by decide)
  have hw2 := wgh_le t2 1000 (by decide)
  have hn := (cmpT_tr t0 t1 t2).1
  obtain ⟨z, hz⟩ : ∃ z, cmpT t0 t1 = z := ⟨_, rfl⟩
  obtain ⟨y, hy⟩ : ∃ y, cmpT t1 t2 = y := ⟨_, rfl⟩
  obtain ⟨x, hx⟩ : ∃ x, cmpT t0 t2 = x := ⟨_, rfl⟩
  obtain ⟨p, hp⟩ : ∃ p, wgh t0 1000 = p := ⟨_, rfl⟩
  obtain ⟨q, hq⟩ : ∃ q, wgh t1 1000 = q := ⟨_, rfl⟩
  obtain ⟨r, hr⟩ : ∃ r, wgh t2 1000 = r := ⟨_, rfl⟩
  rw [hz, hy, hx] at hn
  rw [hp] at hw0; rw [hq] at hw1; rw [hr] at hw2
  have Hz := Lib.hid hz; have Hy := Lib.hid hy; have Hx := Lib.hid hx; have Hp := Lib.hid hp; have Hq := Lib.hid hq; have Hr := Lib.hid hr
  clear hz hy hx hp hq hr
  obtain ⟨k0, b0, n0, f0, s0, l0⟩ := t0
  obtain ⟨A0, c0, rfl, -⟩ := rd0.open
  have H0 := Lib.hid rd0
  clear rd0
  obtain ⟨k1, b1, n1, f1, s1, l1⟩ := t1
  obtain ⟨A1, c1, rfl, -⟩ := rd1.open
  have H1 := Lib.hid rd1
  clear rd1
  obtain ⟨k2, b2, n2, f2, s2, l2⟩ := t2
  obtain ⟨A2, c2, rfl, -⟩ := rd2.open
  have H2 := Lib.hid rd2
  clear rd2
  have hB0 := (((Below.refl w.heap.size w).alloc (Nat.le_refl _) (.cells #[.int .i64 k0, .bool b0, .int .i64 n0, .float .f64 f0, .string s0, .slice A0 l0.length c0] 25)).alloc (by simp only [World.size_alloc]; omega) (.cells #[.int .i64 k1, .bool b1, .int .i64 n1, .float .f64 f1, .string s1, .slice A1 l1.length c1] 25)).alloc (by simp only [World.size_alloc]; omega) (.cells #[.int .i64 k2, .bool b2, .int .i64 n2, .float .f64 f2, .string s2, .slice A2 l2.length c2] 25)
  have hX0 : Blk (w.alloc (.cells #[.int .i64 k0, .bool b0, .int .i64 n0, .float .f64 f0, .string s0, .slice A0 l0.length c0] 25)) (w.heap.size) 25 #[.int .i64 k0, .bool b0, .int .i64 n0, .float .f64 f0, .string s0, .slice A0 l0.length c0] := by have h := Blk.new w 25 #[.int .i64 k0, .bool b0, .int .i64 n0, .float .f64 f0, .string s0, .slice A0 l0.length c0]; simpa only [World.size_alloc] using h
  have hX1 : Blk ((w.alloc (.cells #[.int .i64 k0, .bool b0, .int .i64 n0, .float .f64 f0, .string s0, .slice A0 l0.length c0] 25)).alloc (.cells #[.int .i64 k1, .bool b1, .int .i64 n1, .float .f64 f1, .string s1, .slice A1 l1.length c1] 25)) (w.heap.size + 1) 25 #[.int .i64 k1, .bool b1, .int .i64 n1, .float .f64 f1, .string s1, .slice A1 l1.length c1] := by have h := Blk.new (w.alloc (.cells #[.int .i64 k0, .bool b0, .int .i64 n0, .float .f64 f0, .string s0, .slice A0 l0.length c0] 25)) 25 #[.int .i64 k1, .bool b1, .int .i64 n1, .float .f64 f1, .string s1, .slice A1 l1.length c1]; simpa only [World.size_alloc] using h
  have hX2 : Blk (((w.alloc (.cells #[.int .i64 k0, .bool b0, .int .i64 n0, .float .f64 f0, .string s0, .slice A0 l0.length c0] 25)).alloc (.cells #[.int .i64 k1, .bool b1, .int .i64 n1, .float .f64 f1, .string s1, .slice A1 l1.length c1] 25)).alloc (.cells #[.int .i64 k2, .bool b2, .int .i64 n2, .float .f64 f2, .string s2, .slice A2 l2.length c2] 25)) (w.heap.size + 2) 25 #[.int .i64 k2, .bool b2, .int .i64 n2, .float .f64 f2, .string s2, .slice A2 l2.length c2] := by have h := Blk.new ((w.alloc (.cells #[.int .i64 k0, .bool b0, .int .i64 n0, .float .f64 f0, .string s0, .slice A0 l0.length c0] 25)).alloc (.cells #[.int .i64 k1, .bool b1, .int .i64 n1, .float .f64 f1, .string s1, .slice A1 l1.length c1] 25)) 25 #[.int .i64 k2, .bool b2, .int .i64 n2, .float .f64 f2, .string s2, .slice A2 l2.length c2]; simpa only [World.size_alloc] using h
  replace hX0 := hX0.below ((Below.refl _ _).alloc (Nat.le_refl _) (.cells #[.int .i64 k1, .bool b1, .int .i64 n1, .float .f64 f1, .string s1, .slice A1 l1.length c1] 25)) hX0.lt
  replace hX0 := hX0.below ((Below.refl _ _).alloc (Nat.le_refl _) (.cells #[.int .i64 k2, .bool b2, .int .i64 n2, .float .f64 f2, .string s2, .slice A2 l2.length c2] 25)) hX0.lt
  replace hX1 := hX1.below ((Below.refl _ _).alloc (Nat.le_refl _) (.cells #[.int .i64 k2, .bool b2, .int .i64 n2, .float .f64 f2, .string s2, .slice A2 l2.length c2] 25)) hX1.lt
  have HX0 := Lib.hid hX0; clear hX0
  have HX1 := Lib.hid hX1; clear hX1
  have HX2 := Lib.hid hX2; clear hX2
  by_cases h0 : 1000 < p
  · have d0 : decide (1000 < p) = true := by simpa using h0
    clear h0 hn
    go_enter Try.func5, Try.ntmps5
    go_wp2_with fail
    refine (weigh_any _ _ 1000 _ (H0.out.on hB0) (by decide) (by decide)).mono ?_
    rw [Hp.out]
    rintro e w1 ⟨rfl, hb1⟩
    have hB1 := hB0.trans (hb1.mono hB0.size)
    have HY0 := Lib.hid (HX0.out.below hb1 HX0.out.lt); clear HX0; have HX0 := HY0; clear HY0
    have HY1 := Lib.hid (HX1.out.below hb1 HX1.out.lt); clear HX1; have HX1 := HY1; clear HY1
    have HY2 := Lib.hid (HX2.out.below hb1 HX2.out.lt); clear HX2; have HX2 := HY2; clear HY2
    clear hb1
    obtain ⟨x00, x01, x02, x03, x04, x05⟩ := six_of HX0.out
    obtain ⟨x10, x11, x12, x13, x14, x15⟩ := six_of HX1.out
    obtain ⟨x20, x21, x22, x23, x24, x25⟩ := six_of HX2.out
    go_wp2_with fail
    refine (awake_any _).mono ?_
    rintro e w2 ⟨rfl, hb2⟩
    clear x00 x01 x02 x03 x04 x05 x10 x11 x12 x13 x14 x15 x20 x21 x22 x23 x24 x25
    have hB2 := hB1.trans (hb2.mono hB1.size)
    have HY0 := Lib.hid (HX0.out.below hb2 HX0.out.lt); clear HX0; have HX0 := HY0; clear HY0
    have HY1 := Lib.hid (HX1.out.below hb2 HX1.out.lt); clear HX1; have HX1 := HY1; clear HY1
    have HY2 := Lib.hid (HX2.out.below hb2 HX2.out.lt); clear HX2; have HX2 := HY2; clear HY2
    clear hb2
    obtain ⟨x00, x01, x02, x03, x04, x05⟩ := six_of HX0.out
    obtain ⟨x10, x11, x12, x13, x14, x15⟩ := six_of HX1.out
    obtain ⟨x20, x21, x22, x23, x24, x25⟩ := six_of HX2.out
    go_wp2_with fail
    go_ret
    exact ⟨rfl, hB2⟩
  have d0 : decide (1000 < p) = false := by simpa using h0
  clear h0
  by_cases h1 : 1000 < q
  · have d1 : decide (1000 < q) = true := by simpa using h1
    clear h1 hn
    go_enter Try.func5, Try.ntmps5
    go_wp2_with fail
    refine (weigh_any _ _ 1000 _ (H0.out.on hB0) (by decide) (by decide)).mono ?_
    rw [Hp.out]
    rintro e w1 ⟨rfl, hb1⟩
    have hB1 := hB0.trans (hb1.mono hB0.size)
    have HY0 := Lib.hid (HX0.out.below hb1 HX0.out.lt); clear HX0; have HX0 := HY0; clear HY0
    have HY1 := Lib.hid (HX1.out.below hb1 HX1.out.lt); clear HX1; have HX1 := HY1; clear HY1
    have HY2 := Lib.hid (HX2.out.below hb1 HX2.out.lt); clear HX2; have HX2 := HY2; clear HY2
    clear hb1
    obtain ⟨x00, x01, x02, x03, x04, x05⟩ := six_of HX0.out
    obtain ⟨x10, x11, x12, x13, x14, x15⟩ := six_of HX1.out
    obtain ⟨x20, x21, x22, x23, x24, x25⟩ := six_of HX2.out
    go_wp2_with fail
    refine (weigh_any _ _ 1000 _ (H1.out.on hB1) (by decide) (by decide)).mono ?_
    rw [Hq.out]
    rintro e w2 ⟨rfl, hb2⟩
    clear x00 x01 x02 x03 x04 x05 x10 x11 x12 x13 x14 x15 x20 x21 x22 x23 x24 x25
    have hB2 := hB1.trans (hb2.mono hB1.size)
    have HY0 := Lib.hid (HX0.out.below hb2 HX0.out.lt); clear HX0; have HX0 := HY0; clear HY0
    have HY1 := Lib.hid (HX1.out.below hb2 HX1.out.lt); clear HX1; have HX1 := HY1; clear HY1
    have HY2 := Lib.hid (HX2.out.below hb2 HX2.out.lt); clear HX2; have HX2 := HY2; clear HY2
    clear hb2
    obtain ⟨x00, x01, x02, x03, x04, x05⟩ := six_of HX0.out
    obtain ⟨x10, x11, x12, x13, x14, x15⟩ := six_of HX1.out
    obtain ⟨x20, x21, x22, x23, x24, x25⟩ := six_of HX2.out
    go_wp2_with fail
    refine (awake_any _).mono ?_
    rintro e w3 ⟨rfl, hb3⟩
    clear x00 x01 x02 x03 x04 x05 x10 x11 x12 x13 x14 x15 x20 x21 x22 x23 x24 x25
    have hB3 := hB2.trans (hb3.mono hB2.size)
    have HY0 := Lib.hid (HX0.out.below hb3 HX0.out.lt); clear HX0; have HX0 := HY0; clear HY0
    have HY1 := Lib.hid (HX1.out.below hb3 HX1.out.lt); clear HX1; have HX1 := HY1; clear HY1
    have HY2 := Lib.hid (HX2.out.below hb3 HX2.out.lt); clear HX2; have HX2 := HY2; clear HY2
    clear hb3
    obtain ⟨x00, x01, x02, x03, x04, x05⟩ := six_of HX0.out
    obtain ⟨x10, x11, x12, x13, x14, x15⟩ := six_of HX1.out
    obtain ⟨x20, x21, x22, x23, x24, x25⟩ := six_of HX2.out
    go_wp2_with fail
    go_ret
    exact ⟨rfl, hB3⟩
  have d1 : decide (1000 < q) = false := by simpa using h1
  clear h1
  by_cases h2 : 1000 < r
  · have d2 : decide (1000 < r) = true := by simpa using h2
    clear h2 hn
    go_enter Try.func5, Try.ntmps5
    go_wp2_with fail
    refine (weigh_any _ _ 1000 _ (H0.out.on hB0) (by decide) (by decide)).mono ?_
    rw [Hp.out]
    rintro e w1 ⟨rfl, hb1⟩
    have hB1 := hB0.trans (hb1.mono hB0.size)
    have HY0 := Lib.hid (HX0.out.below hb1 HX0.out.lt); clear HX0; have HX0 := HY0; clear HY0
    have HY1 := Lib.hid (HX1.out.below hb1 HX1.out.lt); clear HX1; have HX1 := HY1; clear HY1
    have HY2 := Lib.hid (HX2.out.below hb1 HX2.out.lt); clear HX2; have HX2 := HY2; clear HY2
    clear hb1
    obtain ⟨x00, x01, x02, x03, x04, x05⟩ := six_of HX0.out
    obtain ⟨x10, x11, x12, x13, x14, x15⟩ := six_of HX1.out
    obtain ⟨x20, x21, x22, x23, x24, x25⟩ := six_of HX2.out
    go_wp2_with fail
    refine (weigh_any _ _ 1000 _ (H1.out.on hB1) (by decide) (by decide)).mono ?_
    rw [Hq.out]
    rintro e w2 ⟨rfl, hb2⟩
    clear x00 x01 x02 x03 x04 x05 x10 x11 x12 x13 x14 x15 x20 x21 x22 x23 x24 x25
    have hB2 := hB1.trans (hb2.mono hB1.size)
    have HY0 := Lib.hid (HX0.out.below hb2 HX0.out.lt); clear HX0; have HX0 := HY0; clear HY0
    have HY1 := Lib.hid (HX1.out.below hb2 HX1.out.lt); clear HX1; have HX1 := HY1; clear HY1
    have HY2 := Lib.hid (HX2.out.below hb2 HX2.out.lt); clear HX2; have HX2 := HY2; clear HY2
    clear hb2
    obtain ⟨x00, x01, x02, x03, x04, x05⟩ := six_of HX0.out
    obtain ⟨x10, x11, x12, x13, x14, x15⟩ := six_of HX1.out
    obtain ⟨x20, x21, x22, x23, x24, x25⟩ := six_of HX2.out
    go_wp2_with fail
    refine (weigh_any _ _ 1000 _ (H2.out.on hB2) (by decide) (by decide)).mono ?_
    rw [Hr.out]
    rintro e w3 ⟨rfl, hb3⟩
    clear x00 x01 x02 x03 x04 x05 x10 x11 x12 x13 x14 x15 x20 x21 x22 x23 x24 x25
    have hB3 := hB2.trans (hb3.mono hB2.size)
    have HY0 := Lib.hid (HX0.out.below hb3 HX0.out.lt); clear HX0; have HX0 := HY0; clear HY0
    have HY1 := Lib.hid (HX1.out.below hb3 HX1.out.lt); clear HX1; have HX1 := HY1; clear HY1
    have HY2 := Lib.hid (HX2.out.below hb3 HX2.out.lt); clear HX2; have HX2 := HY2; clear HY2
    clear hb3
    obtain ⟨x00, x01, x02, x03, x04, x05⟩ := six_of HX0.out
    obtain ⟨x10, x11, x12, x13, x14, x15⟩ := six_of HX1.out
    obtain ⟨x20, x21, x22, x23, x24, x25⟩ := six_of HX2.out
    go_wp2_with fail
    refine (awake_any _).mono ?_
    rintro e w4 ⟨rfl, hb4⟩
    clear x00 x01 x02 x03 x04 x05 x10 x11 x12 x13 x14 x15 x20 x21 x22 x23 x24 x25
    have hB4 := hB3.trans (hb4.mono hB3.size)
    have HY0 := Lib.hid (HX0.out.below hb4 HX0.out.lt); clear HX0; have HX0 := HY0; clear HY0
    have HY1 := Lib.hid (HX1.out.below hb4 HX1.out.lt); clear HX1; have HX1 := HY1; clear HY1
    have HY2 := Lib.hid (HX2.out.below hb4 HX2.out.lt); clear HX2; have HX2 := HY2; clear HY2
    clear hb4
    obtain ⟨x00, x01, x02, x03, x04, x05⟩ := six_of HX0.out
    obtain ⟨x10, x11, x12, x13, x14, x15⟩ := six_of HX1.out
    obtain ⟨x20, x21, x22, x23, x24, x25⟩ := six_of HX2.out
    go_wp2_with fail
    go_ret
    exact ⟨rfl, hB4⟩
  have d2 : decide (1000 < r) = false := by simpa using h2
  clear h2
  by_cases hz0 : 0 < z
  · have e0 : decide (0 < z) = true := by simpa using hz0
    clear hz0 hn
    go_enter Try.func5, Try.ntmps5
    go_wp2_with fail
    refine (weigh_any _ _ 1000 _ (H0.out.on hB0) (by decide) (by decide)).mono ?_
    rw [Hp.out]
    rintro e w1 ⟨rfl, hb1⟩
    have hB1 := hB0.trans (hb1.mono hB0.size)
    have HY0 := Lib.hid (HX0.out.below hb1 HX0.out.lt); clear HX0; have HX0 := HY0; clear HY0
    have HY1 := Lib.hid (HX1.out.below hb1 HX1.out.lt); clear HX1; have HX1 := HY1; clear HY1
    have HY2 := Lib.hid (HX2.out.below hb1 HX2.out.lt); clear HX2; have HX2 := HY2; clear HY2
    clear hb1
    obtain ⟨x00, x01, x02, x03, x04, x05⟩ := six_of HX0.out
    obtain ⟨x10, x11, x12, x13, x14, x15⟩ := six_of HX1.out
    obtain ⟨x20, x21, x22, x23, x24, x25⟩ := six_of HX2.out
    go_wp2_with fail
    refine (weigh_any _ _ 1000 _ (H1.out.on hB1) (by decide) (by decide)).mono ?_
    rw [Hq.out]
    rintro e w2 ⟨rfl, hb2⟩
    clear x00 x01 x02 x03 x04 x05 x10 x11 x12 x13 x14 x15 x20 x21 x22 x23 x24 x25
    have hB2 := hB1.trans (hb2.mono hB1.size)
    have HY0 := Lib.hid (HX0.out.below hb2 HX0.out.lt); clear HX0; have HX0 := HY0; clear HY0
    have HY1 := Lib.hid (HX1.out.below hb2 HX1.out.lt); clear HX1; have HX1 := HY1; clear HY1
    have HY2 := Lib.hid (HX2.out.below hb2 HX2.out.lt); clear HX2; have HX2 := HY2; clear HY2
    clear hb2
    obtain ⟨x00, x01, x02, x03, x04, x05⟩ := six_of HX0.out
    obtain ⟨x10, x11, x12, x13, x14, x15⟩ := six_of HX1.out
    obtain ⟨x20, x21, x22, x23, x24, x25⟩ := six_of HX2.out
    go_wp2_with fail
    refine (weigh_any _ _ 1000 _ (H2.out.on hB2) (by decide) (by decide)).mono ?_
    rw [Hr.out]
    rintro e w3 ⟨rfl, hb3⟩
    clear x00 x01 x02 x03 x04 x05 x10 x11 x12 x13 x14 x15 x20 x21 x22 x23 x24 x25
    have hB3 := hB2.trans (hb3.mono hB2.size)
    have HY0 := Lib.hid (HX0.out.below hb3 HX0.out.lt); clear HX0; have HX0 := HY0; clear HY0
    have HY1 := Lib.hid (HX1.out.below hb3 HX1.out.lt); clear HX1; have HX1 := HY1; clear HY1
    have HY2 := Lib.hid (HX2.out.below hb3 HX2.out.lt); clear HX2; have HX2 := HY2; clear HY2
    clear hb3
    obtain ⟨x00, x01, x02, x03, x04, x05⟩ := six_of HX0.out
    obtain ⟨x10, x11, x12, x13, x14, x15⟩ := six_of HX1.out
    obtain ⟨x20, x21, x22, x23, x24, x25⟩ := six_of HX2.out
    go_wp2_with fail
    refine (awake_any _).mono ?_
    rintro e w4 ⟨rfl, hb4⟩
    clear x00 x01 x02 x03 x04 x05 x10 x11 x12 x13 x14 x15 x20 x21 x22 x23 x24 x25
    have hB4 := hB3.trans (hb4.mono hB3.size)
    have HY0 := Lib.hid (HX0.out.below hb4 HX0.out.lt); clear HX0; have HX0 := HY0; clear HY0
    have HY1 := Lib.hid (HX1.out.below hb4 HX1.out.lt); clear HX1; have HX1 := HY1; clear HY1
    have HY2 := Lib.hid (HX2.out.below hb4 HX2.out.lt); clear HX2; have HX2 := HY2; clear HY2
    clear hb4
    obtain ⟨x00, x01, x02, x03, x04, x05⟩ := six_of HX0.out
    obtain ⟨x10, x11, x12, x13, x14, x15⟩ := six_of HX1.out
    obtain ⟨x20, x21, x22, x23, x24, x25⟩ := six_of HX2.out
    go_wp2_with fail
    refine (vcmp_any (H0.out.on hB4) (H1.out.on hB4)).mono ?_
    rw [Hz.out]
    rintro e w5 ⟨rfl, hb5⟩
    clear x00 x01 x02 x03 x04 x05 x10 x11 x12 x13 x14 x15 x20 x21 x22 x23 x24 x25
    have hB5 := hB4.trans (hb5.mono hB4.size)
    have HY0 := Lib.hid (HX0.out.below hb5 HX0.out.lt); clear HX0; have HX0 := HY0; clear HY0
    have HY1 := Lib.hid (HX1.out.below hb5 HX1.out.lt); clear HX1; have HX1 := HY1; clear HY1
    have HY2 := Lib.hid (HX2.out.below hb5 HX2.out.lt); clear HX2; have HX2 := HY2; clear HY2
    clear hb5
    obtain ⟨x00, x01, x02, x03, x04, x05⟩ := six_of HX0.out
    obtain ⟨x10, x11, x12, x13, x14, x15⟩ := six_of HX1.out
    obtain ⟨x20, x21, x22, x23, x24, x25⟩ := six_of HX2.out
    go_wp2_with fail
    go_ret
    exact ⟨rfl, hB5⟩
  have e0 : decide (0 < z) = false := by simpa using hz0
  by_cases hy0 : 0 < y
  · have e1 : decide (0 < y) = true := by simpa using hy0
    clear hz0 hy0 hn
    go_enter Try.func5, Try.ntmps5
    go_wp2_with fail
    refine (weigh_any _ _ 1000 _ (H0.out.on hB0) (by decide) (by decide)).mono ?_
    rw [Hp.out]
    rintro e w1 ⟨rfl, hb1⟩
    have hB1 := hB0.trans (hb1.mono hB0.size)
    have HY0 := Lib.hid (HX0.out.below hb1 HX0.out.lt); clear HX0; have HX0 := HY0; clear HY0
    have HY1 := Lib.hid (HX1.out.below hb1 HX1.out.lt); clear HX1; have HX1 := HY1; clear HY1
    have HY2 := Lib.hid (HX2.out.below hb1 HX2.out.lt); clear HX2; have HX2 := HY2; clear HY2
    clear hb1
    obtain ⟨x00, x01, x02, x03, x04, x05⟩ := six_of HX0.out
    obtain ⟨x10, x11, x12, x13, x14, x15⟩ := six_of HX1.out
    obtain ⟨x20, x21, x22, x23, x24, x25⟩ := six_of HX2.out
    go_wp2_with fail
    refine (weigh_any _ _ 1000 _ (H1.out.on hB1) (by decide) (by decide)).mono ?_
    rw [Hq.out]
    rintro e w2 ⟨rfl, hb2⟩
    clear x00 x01 x02 x03 x04 x05 x10 x11 x12 x13 x14 x15 x20 x21 x22 x23 x24 x25
    have hB2 := hB1.trans (hb2.mono hB1.size)
    have HY0 := Lib.hid (HX0.out.below hb2 HX0.out.lt); clear HX0; have HX0 := HY0; clear HY0
    have HY1 := Lib.hid (HX1.out.below hb2 HX1.out.lt); clear HX1; have HX1 := HY1; clear HY1
    have HY2 := Lib.hid (HX2.out.below hb2 HX2.out.lt); clear HX2; have HX2 := HY2; clear HY2
    clear hb2
    obtain ⟨x00, x01, x02, x03, x04, x05⟩ := six_of HX0.out
    obtain ⟨x10, x11, x12, x13, x14, x15⟩ := six_of HX1.out
    obtain ⟨x20, x21, x22, x23, x24, x25⟩ := six_of HX2.out
    go_wp2_with fail
    refine (weigh_any _ _ 1000 _ (H2.out.on hB2) (by decide) (by decide)).mono ?_
    rw [Hr.out]
    rintro e w3 ⟨rfl, hb3⟩
    clear x00 x01 x02 x03 x04 x05 x10 x11 x12 x13 x14 x15 x20 x21 x22 x23 x24 x25
    have hB3 := hB2.trans (hb3.mono hB2.size)
    have HY0 := Lib.hid (HX0.out.below hb3 HX0.out.lt); clear HX0; have HX0 := HY0; clear HY0
    have HY1 := Lib.hid (HX1.out.below hb3 HX1.out.lt); clear HX1; have HX1 := HY1; clear HY1
    have HY2 := Lib.hid (HX2.out.below hb3 HX2.out.lt); clear HX2; have HX2 := HY2; clear HY2
    clear hb3
    obtain ⟨x00, x01, x02, x03, x04, x05⟩ := six_of HX0.out
    obtain ⟨x10, x11, x12, x13, x14, x15⟩ := six_of HX1.out
    obtain ⟨x20, x21, x22, x23, x24, x25⟩ := six_of HX2.out
    go_wp2_with fail
    refine (awake_any _).mono ?_
    rintro e w4 ⟨rfl, hb4⟩
    clear x00 x01 x02 x03 x04 x05 x10 x11 x12 x13 x14 x15 x20 x21 x22 x23 x24 x25
    have hB4 := hB3.trans (hb4.mono hB3.size)
    have HY0 := Lib.hid (HX0.out.below hb4 HX0.out.lt); clear HX0; have HX0 := HY0; clear HY0
    have HY1 := Lib.hid (HX1.out.below hb4 HX1.out.lt); clear HX1; have HX1 := HY1; clear HY1
    have HY2 := Lib.hid (HX2.out.below hb4 HX2.out.lt); clear HX2; have HX2 := HY2; clear HY2
    clear hb4
    obtain ⟨x00, x01, x02, x03, x04, x05⟩ := six_of HX0.out
    obtain ⟨x10, x11, x12, x13, x14, x15⟩ := six_of HX1.out
    obtain ⟨x20, x21, x22, x23, x24, x25⟩ := six_of HX2.out
    go_wp2_with fail
    refine (vcmp_any (H0.out.on hB4) (H1.out.on hB4)).mono ?_
    rw [Hz.out]
    rintro e w5 ⟨rfl, hb5⟩
    clear x00 x01 x02 x03 x04 x05 x10 x11 x12 x13 x14 x15 x20 x21 x22 x23 x24 x25
    have hB5 := hB4.trans (hb5.mono hB4.size)
    have HY0 := Lib.hid (HX0.out.below hb5 HX0.out.lt); clear HX0; have HX0 := HY0; clear HY0
    have HY1 := Lib.hid (HX1.out.below hb5 HX1.out.lt); clear HX1; have HX1 := HY1; clear HY1
    have HY2 := Lib.hid (HX2.out.below hb5 HX2.out.lt); clear HX2; have HX2 := HY2; clear HY2
    clear hb5
    obtain ⟨x00, x01, x02, x03, x04, x05⟩ := six_of HX0.out
    obtain ⟨x10, x11, x12, x13, x14, x15⟩ := six_of HX1.out
    obtain ⟨x20, x21, x22, x23, x24, x25⟩ := six_of HX2.out
    go_wp2_with fail
    refine (vcmp_any (H1.out.on hB5) (H2.out.on hB5)).mono ?_
    rw [Hy.out]
    rintro e w6 ⟨rfl, hb6⟩
    clear x00 x01 x02 x03 x04 x05 x10 x11 x12 x13 x14 x15 x20 x21 x22 x23 x24 x25
    have hB6 := hB5.trans (hb6.mono hB5.size)
    have HY0 := Lib.hid (HX0.out.below hb6 HX0.out.lt); clear HX0; have HX0 := HY0; clear HY0
    have HY1 := Lib.hid (HX1.out.below hb6 HX1.out.lt); clear HX1; have HX1 := HY1; clear HY1
    have HY2 := Lib.hid (HX2.out.below hb6 HX2.out.lt); clear HX2; have HX2 := HY2; clear HY2
    clear hb6
    obtain ⟨x00, x01, x02, x03, x04, x05⟩ := six_of HX0.out
    obtain ⟨x10, x11, x12, x13, x14, x15⟩ := six_of HX1.out
    obtain ⟨x20, x21, x22, x23, x24, x25⟩ := six_of HX2.out
    go_wp2_with fail
    go_ret
    exact ⟨rfl, hB6⟩
  · have e1 : decide (0 < y) = false := by simpa using hy0
    have e2 : decide (x ≤ 0) = true := by have := (hn (by omega) (by omega)).1; simpa using this
    clear hz0 hy0 hn
    go_enter Try.func5, Try.ntmps5
    go_wp2_with fail
    refine (weigh_any _ _ 1000 _ (H0.out.on hB0) (by decide) (by decide)).mono ?_
    rw [Hp.out]
    rintro e w1 ⟨rfl, hb1⟩
    have hB1 := hB0.trans (hb1.mono hB0.size)
    have HY0 := Lib.hid (HX0.out.below hb1 HX0.out.lt); clear HX0; have HX0 := HY0; clear HY0
    have HY1 := Lib.hid (HX1.out.below hb1 HX1.out.lt); clear HX1; have HX1 := HY1; clear HY1
    have HY2 := Lib.hid (HX2.out.below hb1 HX2.out.lt); clear HX2; have HX2 := HY2; clear HY2
    clear hb1
    obtain ⟨x00, x01, x02, x03, x04, x05⟩ := six_of HX0.out
    obtain ⟨x10, x11, x12, x13, x14, x15⟩ := six_of HX1.out
    obtain ⟨x20, x21, x22, x23, x24, x25⟩ := six_of HX2.out
    go_wp2_with fail
    refine (weigh_any _ _ 1000 _ (H1.out.on hB1) (by decide) (by decide)).mono ?_
    rw [Hq.out]
    rintro e w2 ⟨rfl, hb2⟩
    clear x00 x01 x02 x03 x04 x05 x10 x11 x12 x13 x14 x15 x20 x21 x22 x23 x24 x25
    have hB2 := hB1.trans (hb2.mono hB1.size)
    have HY0 := Lib.hid (HX0.out.below hb2 HX0.out.lt); clear HX0; have HX0 := HY0; clear HY0
    have HY1 := Lib.hid (HX1.out.below hb2 HX1.out.lt); clear HX1; have HX1 := HY1; clear HY1
    have HY2 := Lib.hid (HX2.out.below hb2 HX2.out.lt); clear HX2; have HX2 := HY2; clear HY2
    clear hb2
    obtain ⟨x00, x01, x02, x03, x04, x05⟩ := six_of HX0.out
    obtain ⟨x10, x11, x12, x13, x14, x15⟩ := six_of HX1.out
    obtain ⟨x20, x21, x22, x23, x24, x25⟩ := six_of HX2.out
    go_wp2_with fail
    refine (weigh_any _ _ 1000 _ (H2.out.on hB2) (by decide) (by decide)).mono ?_
    rw [Hr.out]
    rintro e w3 ⟨rfl, hb3⟩
    clear x00 x01 x02 x03 x04 x05 x10 x11 x12 x13 x14 x15 x20 x21 x22 x23 x24 x25
    have hB3 := hB2.trans (hb3.mono hB2.size)
    have HY0 := Lib.hid (HX0.out.below hb3 HX0.out.lt); clear HX0; have HX0 := HY0; clear HY0
    have HY1 := Lib.hid (HX1.out.below hb3 HX1.out.lt); clear HX1; have HX1 := HY1; clear HY1
    have HY2 := Lib.hid (HX2.out.below hb3 HX2.out.lt); clear HX2; have HX2 := HY2; clear HY2
    clear hb3
    obtain ⟨x00, x01, x02, x03, x04, x05⟩ := six_of HX0.out
    obtain ⟨x10, x11, x12, x13, x14, x15⟩ := six_of HX1.out
    obtain ⟨x20, x21, x22, x23, x24, x25⟩ := six_of HX2.out
    go_wp2_with fail
    refine (awake_any _).mono ?_
    rintro e w4 ⟨rfl, hb4⟩
    clear x00 x01 x02 x03 x04 x05 x10 x11 x12 x13 x14 x15 x20 x21 x22 x23 x24 x25
    have hB4 := hB3.trans (hb4.mono hB3.size)
    have HY0 := Lib.hid (HX0.out.below hb4 HX0.out.lt); clear HX0; have HX0 := HY0; clear HY0
    have HY1 := Lib.hid (HX1.out.below hb4 HX1.out.lt); clear HX1; have HX1 := HY1; clear HY1
    have HY2 := Lib.hid (HX2.out.below hb4 HX2.out.lt); clear HX2; have HX2 := HY2; clear HY2
    clear hb4
    obtain ⟨x00, x01, x02, x03, x04, x05⟩ := six_of HX0.out
    obtain ⟨x10, x11, x12, x13, x14, x15⟩ := six_of HX1.out
    obtain ⟨x20, x21, x22, x23, x24, x25⟩ := six_of HX2.out
    go_wp2_with fail
    refine (vcmp_any (H0.out.on hB4) (H1.out.on hB4)).mono ?_
    rw [Hz.out]
    rintro e w5 ⟨rfl, hb5⟩
    clear x00 x01 x02 x03 x04 x05 x10 x11 x12 x13 x14 x15 x20 x21 x22 x23 x24 x25
    have hB5 := hB4.trans (hb5.mono hB4.size)
    have HY0 := Lib.hid (HX0.out.below hb5 HX0.out.lt); clear HX0; have HX0 := HY0; clear HY0
    have HY1 := Lib.hid (HX1.out.below hb5 HX1.out.lt); clear HX1; have HX1 := HY1; clear HY1
    have HY2 := Lib.hid (HX2.out.below hb5 HX2.out.lt); clear HX2; have HX2 := HY2; clear HY2
    clear hb5
    obtain ⟨x00, x01, x02, x03, x04, x05⟩ := six_of HX0.out
    obtain ⟨x10, x11, x12, x13, x14, x15⟩ := six_of HX1.out
    obtain ⟨x20, x21, x22, x23, x24, x25⟩ := six_of HX2.out
    go_wp2_with fail
    refine (vcmp_any (H1.out.on hB5) (H2.out.on hB5)).mono ?_
    rw [Hy.out]
    rintro e w6 ⟨rfl, hb6⟩
    clear x00 x01 x02 x03 x04 x05 x10 x11 x12 x13 x14 x15 x20 x21 x22 x23 x24 x25
    have hB6 := hB5.trans (hb6.mono hB5.size)
    have HY0 := Lib.hid (HX0.out.below hb6 HX0.out.lt); clear HX0; have HX0 := HY0; clear HY0
    have HY1 := Lib.hid (HX1.out.below hb6 HX1.out.lt); clear HX1; have HX1 := HY1; clear HY1
    have HY2 := Lib.hid (HX2.out.below hb6 HX2.out.lt); clear HX2; have HX2 := HY2; clear HY2
    clear hb6
    obtain ⟨x00, x01, x02, x03, x04, x05⟩ := six_of HX0.out
    obtain ⟨x10, x11, x12, x13, x14, x15⟩ := six_of HX1.out
    obtain ⟨x20, x21, x22, x23, x24, x25⟩ := six_of HX2.out
    go_wp2_with fail
    refine (vcmp_any (H0.out.on hB6) (H2.out.on hB6)).mono ?_
    rw [Hx.out]
    rintro e w7 ⟨rfl, hb7⟩
    clear x00 x01 x02 x03 x04 x05 x10 x11 x12 x13 x14 x15 x20 x21 x22 x23 x24 x25
    have hB7 := hB6.trans (hb7.mono hB6.size)
    have HY0 := Lib.hid (HX0.out.below hb7 HX0.out.lt); clear HX0; have HX0 := HY0; clear HY0
    have HY1 := Lib.hid (HX1.out.below hb7 HX1.out.lt); clear HX1; have HX1 := HY1; clear HY1
    have HY2 := Lib.hid (HX2.out.below hb7 HX2.out.lt); clear HX2; have HX2 := HY2; clear HY2
    clear hb7
    obtain ⟨x00, x01, x02, x03, x04, x05⟩ := six_of HX0.out
    obtain ⟨x10, x11, x12, x13, x14, x15⟩ := six_of HX1.out
    obtain ⟨x20, x21, x22, x23, x24, x25⟩ := six_of HX2.out
    go_wp2_with fail
    go_ret
    exact ⟨rfl, hB7⟩

end Go.Proofs.Ytjkoogplipeacaa
