/- the walk of ValApart -/
import Derived.Test.YtjkoogplipeacaaLawO
import Derived.Test.YtjkoogplipeacaaApart
import Derived.Test.YtjkoogplipeacaaPutR
namespace Go.Proofs.Ytjkoogplipeacaa
open Go.ChangeShapes Go.WideShapes Go.ChangeAt Go.RowKit Go.Fl

/-- what Put answers, its parts named -/
theorem putV_parts (t : T) : ∃ (S : ByteArray) (e : Int), putV t = .tuple #[.string S, .int .i64 e] ∧ (e = 0 ↔ chkF t = 0) ∧ (chkF t = 0 → S = bst (bys t)) := by
  by_cases h : chkF t = 0
  · exact ⟨bst (bys t), 0, by unfold putV; rw [if_pos h]; rfl, ⟨fun _ => h, fun _ => rfl⟩, fun _ => rfl⟩
  · exact ⟨⟨#[]⟩, chkF t, by unfold putV; rw [if_neg h], Iff.rfl, fun h' => absurd h' h⟩

theorem bst_inj {x y : List UInt8} : bst x = bst y ↔ x = y := by
  constructor
  · intro h; have := congrArg (fun b : ByteArray => b.data.toList) h; simpa [bst] using this
  · intro h; rw [h]

theorem bst_list (x : List UInt8) : (bst x).toList = x := by rw [Lib.toList_data]; rfl

theorem bst_take (x : List UInt8) (n : Nat) : (bst x).extract 0 n = bst (x.take n) := by rw [bst_extract, List.drop_zero]

theorem toList_ne {a b : ByteArray} (h : a ≠ b) : a.toList ≠ b.toList := fun e => h (data_of_toList e)

set_option maxHeartbeats 1000000 in
set_option maxRecDepth 100000 in
theorem apart_any (t0 t1 : T) (v0 v1 : Value) (w : World) (rd0 : Rd w w.heap.size t0 v0) (rd1 : Rd w w.heap.size t1 v1) :
    Calls Try.prog 9 #[v0, v1] w fun e w' => e = .returned (.bool true) ∧ Below w.heap.size w w' := by
  have hw0 := wgh_le t0 1000 (by decide)
  have hw1 := wgh_le t1 1000 (by decide)
  obtain ⟨S0, e0, hp0, hi0, hs0⟩ := putV_parts t0
  obtain ⟨S1, e1, hp1, hi1, hs1⟩ := putV_parts t1
  have hN0 : NumsT t0 := ⟨_, _, _, rd0⟩
  have hN1 : NumsT t1 := ⟨_, _, _, rd1⟩
  have hsb : e0 = 0 → e1 = 0 → (smT t0 t1 = true ↔ S0 = S1) := fun h0 h1 => by
    rw [hs0 (hi0.1 h0), hs1 (hi1.1 h1), bst_inj]; exact same_bytes (hi0.1 h0) (hi1.1 h1) hN0 hN1
  have hpre : e0 = 0 → e1 = 0 → S1.extract 0 S0.size = S0 → S0 = S1 := fun h0 h1 h => by
    rw [hs0 (hi0.1 h0), hs1 (hi1.1 h1), bst_inj]
    rw [hs0 (hi0.1 h0), hs1 (hi1.1 h1), bst_take, bst_inj, bst_size] at h
    exact begins_bytes (hi0.1 h0) (hi1.1 h1) hN0 hN1 h
  have hl : ∀ (t : T) (S : ByteArray) (e : Int), (e = 0 ↔ chkF t = 0) → (chkF t = 0 → S = bst (bys t)) → e = 0 → S.size ≤ 60000 := fun t S e hi hs h => by
    have h1 := chk_tot (hi.1 h); have h2 := bys_tot t
    rw [hs (hi.1 h), bst_size]; omega
  have hl0 := hl t0 S0 e0 hi0 hs0
  have hl1 := hl t1 S1 e1 hi1 hs1
  obtain ⟨o, ho⟩ : ∃ o, smT t0 t1 = o := ⟨_, rfl⟩
  rw [ho] at hsb
  obtain ⟨p, hp⟩ : ∃ p, wgh t0 1000 = p := ⟨_, rfl⟩
  obtain ⟨q, hq⟩ : ∃ q, wgh t1 1000 = q := ⟨_, rfl⟩
  rw [hp] at hw0; rw [hq] at hw1
  have Hp0 := Lib.hid hp0; have Hp1 := Lib.hid hp1; have Hp := Lib.hid hp; have Hq := Lib.hid hq; have Ho := Lib.hid ho
  clear hp0 hp1 hp hq ho hi0 hi1 hs0 hs1 hl hN0 hN1
  obtain ⟨k0, b0, n0, f0, s0, l0⟩ := t0
  obtain ⟨A0, c0, rfl, -⟩ := rd0.open
  have H0 := Lib.hid rd0
  clear rd0
  obtain ⟨k1, b1, n1, f1, s1, l1⟩ := t1
  obtain ⟨A1, c1, rfl, -⟩ := rd1.open
  have H1 := Lib.hid rd1
  clear rd1
  have hB0 := ((Below.refl w.heap.size w).alloc (Nat.le_refl _) (.cells #[.int .i64 k0, .bool b0, .int .i64 n0, .float .f64 f0, .string s0, .slice A0 l0.length c0] 25)).alloc (by simp only [World.size_alloc]; omega) (.cells #[.int .i64 k1, .bool b1, .int .i64 n1, .float .f64 f1, .string s1, .slice A1 l1.length c1] 25)
  have hX0 : Blk (w.alloc (.cells #[.int .i64 k0, .bool b0, .int .i64 n0, .float .f64 f0, .string s0, .slice A0 l0.length c0] 25)) (w.heap.size) 25 #[.int .i64 k0, .bool b0, .int .i64 n0, .float .f64 f0, .string s0, .slice A0 l0.length c0] := by have h := Blk.new w 25 #[.int .i64 k0, .bool b0, .int .i64 n0, .float .f64 f0, .string s0, .slice A0 l0.length c0]; simpa only [World.size_alloc] using h
  have hX1 : Blk ((w.alloc (.cells #[.int .i64 k0, .bool b0, .int .i64 n0, .float .f64 f0, .string s0, .slice A0 l0.length c0] 25)).alloc (.cells #[.int .i64 k1, .bool b1, .int .i64 n1, .float .f64 f1, .string s1, .slice A1 l1.length c1] 25)) (w.heap.size + 1) 25 #[.int .i64 k1, .bool b1, .int .i64 n1, .float .f64 f1, .string s1, .slice A1 l1.length c1] := by have h := Blk.new (w.alloc (.cells #[.int .i64 k0, .bool b0, .int .i64 n0, .float .f64 f0, .string s0, .slice A0 l0.length c0] 25)) 25 #[.int .i64 k1, .bool b1, .int .i64 n1, .float .f64 f1, .string s1, .slice A1 l1.length c1]; simpa only [World.size_alloc] using h
  replace hX0 := hX0.below ((Below.refl _ _).alloc (Nat.le_refl _) (.cells #[.int .i64 k1, .bool b1, .int .i64 n1, .float .f64 f1, .string s1, .slice A1 l1.length c1] 25)) hX0.lt
  have HX0 := Lib.hid hX0; clear hX0
  have HX1 := Lib.hid hX1; clear hX1
  by_cases h0 : 1000 < p
  · have d0 : decide (1000 < p) = true := by simpa using h0
    clear h0 hsb hpre hl0 hl1
    go_enter Try.func9, Try.ntmps9
    go_wp2_with fail
    refine (weigh_any _ _ 1000 _ (H0.out.on hB0) (by decide) (by decide)).mono ?_
    rw [Hp.out]
    rintro e w1 ⟨rfl, hb1⟩
    have hB1 := hB0.trans (hb1.mono hB0.size)
    have HY0 := Lib.hid (HX0.out.below hb1 HX0.out.lt); clear HX0; have HX0 := HY0; clear HY0
    have HY1 := Lib.hid (HX1.out.below hb1 HX1.out.lt); clear HX1; have HX1 := HY1; clear HY1
    clear hb1
    obtain ⟨x00, x01, x02, x03, x04, x05⟩ := six_of HX0.out
    obtain ⟨x10, x11, x12, x13, x14, x15⟩ := six_of HX1.out
    go_wp2_with fail
    refine (awake_any _).mono ?_
    rintro e w2 ⟨rfl, hb2⟩
    clear x00 x01 x02 x03 x04 x05 x10 x11 x12 x13 x14 x15
    have hB2 := hB1.trans (hb2.mono hB1.size)
    have HY0 := Lib.hid (HX0.out.below hb2 HX0.out.lt); clear HX0; have HX0 := HY0; clear HY0
    have HY1 := Lib.hid (HX1.out.below hb2 HX1.out.lt); clear HX1; have HX1 := HY1; clear HY1
    clear hb2
    obtain ⟨x00, x01, x02, x03, x04, x05⟩ := six_of HX0.out
    obtain ⟨x10, x11, x12, x13, x14, x15⟩ := six_of HX1.out
    go_wp2_with fail
    go_ret
    exact ⟨rfl, hB2⟩
  have d0 : decide (1000 < p) = false := by simpa using h0
  clear h0
  by_cases h1 : 1000 < q
  · have d1 : decide (1000 < q) = true := by simpa using h1
    clear h1 hsb hpre hl0 hl1
    go_enter Try.func9, Try.ntmps9
    go_wp2_with fail
    refine (weigh_any _ _ 1000 _ (H0.out.on hB0) (by decide) (by decide)).mono ?_
    rw [Hp.out]
    rintro e w1 ⟨rfl, hb1⟩
    have hB1 := hB0.trans (hb1.mono hB0.size)
    have HY0 := Lib.hid (HX0.out.below hb1 HX0.out.lt); clear HX0; have HX0 := HY0; clear HY0
    have HY1 := Lib.hid (HX1.out.below hb1 HX1.out.lt); clear HX1; have HX1 := HY1; clear HY1
    clear hb1
    obtain ⟨x00, x01, x02, x03, x04, x05⟩ := six_of HX0.out
    obtain ⟨x10, x11, x12, x13, x14, x15⟩ := six_of HX1.out
    go_wp2_with fail
    refine (weigh_any _ _ 1000 _ (H1.out.on hB1) (by decide) (by decide)).mono ?_
    rw [Hq.out]
    rintro e w2 ⟨rfl, hb2⟩
    clear x00 x01 x02 x03 x04 x05 x10 x11 x12 x13 x14 x15
    have hB2 := hB1.trans (hb2.mono hB1.size)
    have HY0 := Lib.hid (HX0.out.below hb2 HX0.out.lt); clear HX0; have HX0 := HY0; clear HY0
    have HY1 := Lib.hid (HX1.out.below hb2 HX1.out.lt); clear HX1; have HX1 := HY1; clear HY1
    clear hb2
    obtain ⟨x00, x01, x02, x03, x04, x05⟩ := six_of HX0.out
    obtain ⟨x10, x11, x12, x13, x14, x15⟩ := six_of HX1.out
    go_wp2_with fail
    refine (awake_any _).mono ?_
    rintro e w3 ⟨rfl, hb3⟩
    clear x00 x01 x02 x03 x04 x05 x10 x11 x12 x13 x14 x15
    have hB3 := hB2.trans (hb3.mono hB2.size)
    have HY0 := Lib.hid (HX0.out.below hb3 HX0.out.lt); clear HX0; have HX0 := HY0; clear HY0
    have HY1 := Lib.hid (HX1.out.below hb3 HX1.out.lt); clear HX1; have HX1 := HY1; clear HY1
    clear hb3
    obtain ⟨x00, x01, x02, x03, x04, x05⟩ := six_of HX0.out
    obtain ⟨x10, x11, x12, x13, x14, x15⟩ := six_of HX1.out
    go_wp2_with fail
    go_ret
    exact ⟨rfl, hB3⟩
  have d1 : decide (1000 < q) = false := by simpa using h1
  clear h1
  by_cases g0 : e0 = 0
  rotate_left
  · have n0 : (e0 != 0) = true := by simpa using g0
    have m0 : (e0 == 0) = false := by simpa using g0
    clear g0 hsb hpre hl0 hl1
    go_enter Try.func9, Try.ntmps9
    go_wp2_with fail
    refine (weigh_any _ _ 1000 _ (H0.out.on hB0) (by decide) (by decide)).mono ?_
    rw [Hp.out]
    rintro e w1 ⟨rfl, hb1⟩
    have hB1 := hB0.trans (hb1.mono hB0.size)
    have HY0 := Lib.hid (HX0.out.below hb1 HX0.out.lt); clear HX0; have HX0 := HY0; clear HY0
    have HY1 := Lib.hid (HX1.out.below hb1 HX1.out.lt); clear HX1; have HX1 := HY1; clear HY1
    clear hb1
    obtain ⟨x00, x01, x02, x03, x04, x05⟩ := six_of HX0.out
    obtain ⟨x10, x11, x12, x13, x14, x15⟩ := six_of HX1.out
    go_wp2_with fail
    refine (weigh_any _ _ 1000 _ (H1.out.on hB1) (by decide) (by decide)).mono ?_
    rw [Hq.out]
    rintro e w2 ⟨rfl, hb2⟩
    clear x00 x01 x02 x03 x04 x05 x10 x11 x12 x13 x14 x15
    have hB2 := hB1.trans (hb2.mono hB1.size)
    have HY0 := Lib.hid (HX0.out.below hb2 HX0.out.lt); clear HX0; have HX0 := HY0; clear HY0
    have HY1 := Lib.hid (HX1.out.below hb2 HX1.out.lt); clear HX1; have HX1 := HY1; clear HY1
    clear hb2
    obtain ⟨x00, x01, x02, x03, x04, x05⟩ := six_of HX0.out
    obtain ⟨x10, x11, x12, x13, x14, x15⟩ := six_of HX1.out
    go_wp2_with fail
    refine (vput_any (H0.out.on hB2)).mono ?_
    rw [Hp0.out]
    rintro e w3 ⟨rfl, hb3⟩
    clear x00 x01 x02 x03 x04 x05 x10 x11 x12 x13 x14 x15
    have hB3 := hB2.trans (hb3.mono hB2.size)
    have HY0 := Lib.hid (HX0.out.below hb3 HX0.out.lt); clear HX0; have HX0 := HY0; clear HY0
    have HY1 := Lib.hid (HX1.out.below hb3 HX1.out.lt); clear HX1; have HX1 := HY1; clear HY1
    clear hb3
    obtain ⟨x00, x01, x02, x03, x04, x05⟩ := six_of HX0.out
    obtain ⟨x10, x11, x12, x13, x14, x15⟩ := six_of HX1.out
    go_wp2_with fail
    refine (vput_any (H1.out.on hB3)).mono ?_
    rw [Hp1.out]
    rintro e w4 ⟨rfl, hb4⟩
    clear x00 x01 x02 x03 x04 x05 x10 x11 x12 x13 x14 x15
    have hB4 := hB3.trans (hb4.mono hB3.size)
    have HY0 := Lib.hid (HX0.out.below hb4 HX0.out.lt); clear HX0; have HX0 := HY0; clear HY0
    have HY1 := Lib.hid (HX1.out.below hb4 HX1.out.lt); clear HX1; have HX1 := HY1; clear HY1
    clear hb4
    obtain ⟨x00, x01, x02, x03, x04, x05⟩ := six_of HX0.out
    obtain ⟨x10, x11, x12, x13, x14, x15⟩ := six_of HX1.out
    go_wp2_with fail
    refine (awake_any _).mono ?_
    rintro e w5 ⟨rfl, hb5⟩
    clear x00 x01 x02 x03 x04 x05 x10 x11 x12 x13 x14 x15
    have hB5 := hB4.trans (hb5.mono hB4.size)
    have HY0 := Lib.hid (HX0.out.below hb5 HX0.out.lt); clear HX0; have HX0 := HY0; clear HY0
    have HY1 := Lib.hid (HX1.out.below hb5 HX1.out.lt); clear HX1; have HX1 := HY1; clear HY1
    clear hb5
    obtain ⟨x00, x01, x02, x03, x04, x05⟩ := six_of HX0.out
    obtain ⟨x10, x11, x12, x13, x14, x15⟩ := six_of HX1.out
    go_wp2_with fail
    refine (awake_any _).mono ?_
    rintro e w6 ⟨rfl, hb6⟩
    clear x00 x01 x02 x03 x04 x05 x10 x11 x12 x13 x14 x15
    have hB6 := hB5.trans (hb6.mono hB5.size)
    have HY0 := Lib.hid (HX0.out.below hb6 HX0.out.lt); clear HX0; have HX0 := HY0; clear HY0
    have HY1 := Lib.hid (HX1.out.below hb6 HX1.out.lt); clear HX1; have HX1 := HY1; clear HY1
    clear hb6
    obtain ⟨x00, x01, x02, x03, x04, x05⟩ := six_of HX0.out
    obtain ⟨x10, x11, x12, x13, x14, x15⟩ := six_of HX1.out
    go_wp2_with fail
    go_ret
    exact ⟨rfl, hB6⟩
  subst g0
  by_cases g1 : e1 = 0
  rotate_left
  · have n1 : (e1 != 0) = true := by simpa using g1
    have m1 : (e1 == 0) = false := by simpa using g1
    clear g1 hsb hpre hl0 hl1
    go_enter Try.func9, Try.ntmps9
    go_wp2_with fail
    refine (weigh_any _ _ 1000 _ (H0.out.on hB0) (by decide) (by decide)).mono ?_
    rw [Hp.out]
    rintro e w1 ⟨rfl, hb1⟩
    have hB1 := hB0.trans (hb1.mono hB0.size)
    have HY0 := Lib.hid (HX0.out.below hb1 HX0.out.lt); clear HX0; have HX0 := HY0; clear HY0
    have HY1 := Lib.hid (HX1.out.below hb1 HX1.out.lt); clear HX1; have HX1 := HY1; clear HY1
    clear hb1
    obtain ⟨x00, x01, x02, x03, x04, x05⟩ := six_of HX0.out
    obtain ⟨x10, x11, x12, x13, x14, x15⟩ := six_of HX1.out
    go_wp2_with fail
    refine (weigh_any _ _ 1000 _ (H1.out.on hB1) (by decide) (by decide)).mono ?_
    rw [Hq.out]
    rintro e w2 ⟨rfl, hb2⟩
    clear x00 x01 x02 x03 x04 x05 x10 x11 x12 x13 x14 x15
    have hB2 := hB1.trans (hb2.mono hB1.size)
    have HY0 := Lib.hid (HX0.out.below hb2 HX0.out.lt); clear HX0; have HX0 := HY0; clear HY0
    have HY1 := Lib.hid (HX1.out.below hb2 HX1.out.lt); clear HX1; have HX1 := HY1; clear HY1
    clear hb2
    obtain ⟨x00, x01, x02, x03, x04, x05⟩ := six_of HX0.out
    obtain ⟨x10, x11, x12, x13, x14, x15⟩ := six_of HX1.out
    go_wp2_with fail
    refine (vput_any (H0.out.on hB2)).mono ?_
    rw [Hp0.out]
    rintro e w3 ⟨rfl, hb3⟩
    clear x00 x01 x02 x03 x04 x05 x10 x11 x12 x13 x14 x15
    have hB3 := hB2.trans (hb3.mono hB2.size)
    have HY0 := Lib.hid (HX0.out.below hb3 HX0.out.lt); clear HX0; have HX0 := HY0; clear HY0
    have HY1 := Lib.hid (HX1.out.below hb3 HX1.out.lt); clear HX1; have HX1 := HY1; clear HY1
    clear hb3
    obtain ⟨x00, x01, x02, x03, x04, x05⟩ := six_of HX0.out
    obtain ⟨x10, x11, x12, x13, x14, x15⟩ := six_of HX1.out
    go_wp2_with fail
    refine (vput_any (H1.out.on hB3)).mono ?_
    rw [Hp1.out]
    rintro e w4 ⟨rfl, hb4⟩
    clear x00 x01 x02 x03 x04 x05 x10 x11 x12 x13 x14 x15
    have hB4 := hB3.trans (hb4.mono hB3.size)
    have HY0 := Lib.hid (HX0.out.below hb4 HX0.out.lt); clear HX0; have HX0 := HY0; clear HY0
    have HY1 := Lib.hid (HX1.out.below hb4 HX1.out.lt); clear HX1; have HX1 := HY1; clear HY1
    clear hb4
    obtain ⟨x00, x01, x02, x03, x04, x05⟩ := six_of HX0.out
    obtain ⟨x10, x11, x12, x13, x14, x15⟩ := six_of HX1.out
    go_wp2_with fail
    refine (awake_any _).mono ?_
    rintro e w5 ⟨rfl, hb5⟩
    clear x00 x01 x02 x03 x04 x05 x10 x11 x12 x13 x14 x15
    have hB5 := hB4.trans (hb5.mono hB4.size)
    have HY0 := Lib.hid (HX0.out.below hb5 HX0.out.lt); clear HX0; have HX0 := HY0; clear HY0
    have HY1 := Lib.hid (HX1.out.below hb5 HX1.out.lt); clear HX1; have HX1 := HY1; clear HY1
    clear hb5
    obtain ⟨x00, x01, x02, x03, x04, x05⟩ := six_of HX0.out
    obtain ⟨x10, x11, x12, x13, x14, x15⟩ := six_of HX1.out
    go_wp2_with fail
    refine (awake_any _).mono ?_
    rintro e w6 ⟨rfl, hb6⟩
    clear x00 x01 x02 x03 x04 x05 x10 x11 x12 x13 x14 x15
    have hB6 := hB5.trans (hb6.mono hB5.size)
    have HY0 := Lib.hid (HX0.out.below hb6 HX0.out.lt); clear HX0; have HX0 := HY0; clear HY0
    have HY1 := Lib.hid (HX1.out.below hb6 HX1.out.lt); clear HX1; have HX1 := HY1; clear HY1
    clear hb6
    obtain ⟨x00, x01, x02, x03, x04, x05⟩ := six_of HX0.out
    obtain ⟨x10, x11, x12, x13, x14, x15⟩ := six_of HX1.out
    go_wp2_with fail
    go_ret
    exact ⟨rfl, hB6⟩
  subst g1
  have hsb := hsb rfl rfl
  have hpre := hpre rfl rfl
  have hl0 := hl0 rfl
  have hl1 := hl1 rfl
  by_cases hsame : S0 = S1
  · obtain rfl : o = true := hsb.2 hsame
    subst hsame
    clear hsb hpre hl1
    go_enter Try.func9, Try.ntmps9
    go_wp2_with fail
    refine (weigh_any _ _ 1000 _ (H0.out.on hB0) (by decide) (by decide)).mono ?_
    rw [Hp.out]
    rintro e w1 ⟨rfl, hb1⟩
    have hB1 := hB0.trans (hb1.mono hB0.size)
    have HY0 := Lib.hid (HX0.out.below hb1 HX0.out.lt); clear HX0; have HX0 := HY0; clear HY0
    have HY1 := Lib.hid (HX1.out.below hb1 HX1.out.lt); clear HX1; have HX1 := HY1; clear HY1
    clear hb1
    obtain ⟨x00, x01, x02, x03, x04, x05⟩ := six_of HX0.out
    obtain ⟨x10, x11, x12, x13, x14, x15⟩ := six_of HX1.out
    go_wp2_with fail
    refine (weigh_any _ _ 1000 _ (H1.out.on hB1) (by decide) (by decide)).mono ?_
    rw [Hq.out]
    rintro e w2 ⟨rfl, hb2⟩
    clear x00 x01 x02 x03 x04 x05 x10 x11 x12 x13 x14 x15
    have hB2 := hB1.trans (hb2.mono hB1.size)
    have HY0 := Lib.hid (HX0.out.below hb2 HX0.out.lt); clear HX0; have HX0 := HY0; clear HY0
    have HY1 := Lib.hid (HX1.out.below hb2 HX1.out.lt); clear HX1; have HX1 := HY1; clear HY1
    clear hb2
    obtain ⟨x00, x01, x02, x03, x04, x05⟩ := six_of HX0.out
    obtain ⟨x10, x11, x12, x13, x14, x15⟩ := six_of HX1.out
    go_wp2_with fail
    refine (vput_any (H0.out.on hB2)).mono ?_
    rw [Hp0.out]
    rintro e w3 ⟨rfl, hb3⟩
    clear x00 x01 x02 x03 x04 x05 x10 x11 x12 x13 x14 x15
    have hB3 := hB2.trans (hb3.mono hB2.size)
    have HY0 := Lib.hid (HX0.out.below hb3 HX0.out.lt); clear HX0; have HX0 := HY0; clear HY0
    have HY1 := Lib.hid (HX1.out.below hb3 HX1.out.lt); clear HX1; have HX1 := HY1; clear HY1
    clear hb3
    obtain ⟨x00, x01, x02, x03, x04, x05⟩ := six_of HX0.out
    obtain ⟨x10, x11, x12, x13, x14, x15⟩ := six_of HX1.out
    go_wp2_with fail
    refine (vput_any (H1.out.on hB3)).mono ?_
    rw [Hp1.out]
    rintro e w4 ⟨rfl, hb4⟩
    clear x00 x01 x02 x03 x04 x05 x10 x11 x12 x13 x14 x15
    have hB4 := hB3.trans (hb4.mono hB3.size)
    have HY0 := Lib.hid (HX0.out.below hb4 HX0.out.lt); clear HX0; have HX0 := HY0; clear HY0
    have HY1 := Lib.hid (HX1.out.below hb4 HX1.out.lt); clear HX1; have HX1 := HY1; clear HY1
    clear hb4
    obtain ⟨x00, x01, x02, x03, x04, x05⟩ := six_of HX0.out
    obtain ⟨x10, x11, x12, x13, x14, x15⟩ := six_of HX1.out
    go_wp2_with fail
    refine (awake_any _).mono ?_
    rintro e w5 ⟨rfl, hb5⟩
    clear x00 x01 x02 x03 x04 x05 x10 x11 x12 x13 x14 x15
    have hB5 := hB4.trans (hb5.mono hB4.size)
    have HY0 := Lib.hid (HX0.out.below hb5 HX0.out.lt); clear HX0; have HX0 := HY0; clear HY0
    have HY1 := Lib.hid (HX1.out.below hb5 HX1.out.lt); clear HX1; have HX1 := HY1; clear HY1
    clear hb5
    obtain ⟨x00, x01, x02, x03, x04, x05⟩ := six_of HX0.out
    obtain ⟨x10, x11, x12, x13, x14, x15⟩ := six_of HX1.out
    go_wp2_with fail
    refine (rsame_any (H0.out.on hB5) (H1.out.on hB5)).mono ?_
    rw [Ho.out]
    rintro e w6 ⟨rfl, hb6⟩
    clear x00 x01 x02 x03 x04 x05 x10 x11 x12 x13 x14 x15
    have hB6 := hB5.trans (hb6.mono hB5.size)
    have HY0 := Lib.hid (HX0.out.below hb6 HX0.out.lt); clear HX0; have HX0 := HY0; clear HY0
    have HY1 := Lib.hid (HX1.out.below hb6 HX1.out.lt); clear HX1; have HX1 := HY1; clear HY1
    clear hb6
    obtain ⟨x00, x01, x02, x03, x04, x05⟩ := six_of HX0.out
    obtain ⟨x10, x11, x12, x13, x14, x15⟩ := six_of HX1.out
    go_wp2_with fail
    go_ret
    exact ⟨rfl, hB6⟩
  obtain rfl : o = false := by cases o; rfl; exact absurd (hsb.1 rfl) hsame
  have q1 : (S0.toList == S1.toList) = false := by simpa using toList_ne hsame
  by_cases hlong : S1.size < S0.size
  · have q2 : decide (S1.size < S0.size) = true := by simpa using hlong
    clear hsb hpre hsame hlong
    go_enter Try.func9, Try.ntmps9
    go_wp2_with fail
    refine (weigh_any _ _ 1000 _ (H0.out.on hB0) (by decide) (by decide)).mono ?_
    rw [Hp.out]
    rintro e w1 ⟨rfl, hb1⟩
    have hB1 := hB0.trans (hb1.mono hB0.size)
    have HY0 := Lib.hid (HX0.out.below hb1 HX0.out.lt); clear HX0; have HX0 := HY0; clear HY0
    have HY1 := Lib.hid (HX1.out.below hb1 HX1.out.lt); clear HX1; have HX1 := HY1; clear HY1
    clear hb1
    obtain ⟨x00, x01, x02, x03, x04, x05⟩ := six_of HX0.out
    obtain ⟨x10, x11, x12, x13, x14, x15⟩ := six_of HX1.out
    go_wp2_with fail
    refine (weigh_any _ _ 1000 _ (H1.out.on hB1) (by decide) (by decide)).mono ?_
    rw [Hq.out]
    rintro e w2 ⟨rfl, hb2⟩
    clear x00 x01 x02 x03 x04 x05 x10 x11 x12 x13 x14 x15
    have hB2 := hB1.trans (hb2.mono hB1.size)
    have HY0 := Lib.hid (HX0.out.below hb2 HX0.out.lt); clear HX0; have HX0 := HY0; clear HY0
    have HY1 := Lib.hid (HX1.out.below hb2 HX1.out.lt); clear HX1; have HX1 := HY1; clear HY1
    clear hb2
    obtain ⟨x00, x01, x02, x03, x04, x05⟩ := six_of HX0.out
    obtain ⟨x10, x11, x12, x13, x14, x15⟩ := six_of HX1.out
    go_wp2_with fail
    refine (vput_any (H0.out.on hB2)).mono ?_
    rw [Hp0.out]
    rintro e w3 ⟨rfl, hb3⟩
    clear x00 x01 x02 x03 x04 x05 x10 x11 x12 x13 x14 x15
    have hB3 := hB2.trans (hb3.mono hB2.size)
    have HY0 := Lib.hid (HX0.out.below hb3 HX0.out.lt); clear HX0; have HX0 := HY0; clear HY0
    have HY1 := Lib.hid (HX1.out.below hb3 HX1.out.lt); clear HX1; have HX1 := HY1; clear HY1
    clear hb3
    obtain ⟨x00, x01, x02, x03, x04, x05⟩ := six_of HX0.out
    obtain ⟨x10, x11, x12, x13, x14, x15⟩ := six_of HX1.out
    go_wp2_with fail
    refine (vput_any (H1.out.on hB3)).mono ?_
    rw [Hp1.out]
    rintro e w4 ⟨rfl, hb4⟩
    clear x00 x01 x02 x03 x04 x05 x10 x11 x12 x13 x14 x15
    have hB4 := hB3.trans (hb4.mono hB3.size)
    have HY0 := Lib.hid (HX0.out.below hb4 HX0.out.lt); clear HX0; have HX0 := HY0; clear HY0
    have HY1 := Lib.hid (HX1.out.below hb4 HX1.out.lt); clear HX1; have HX1 := HY1; clear HY1
    clear hb4
    obtain ⟨x00, x01, x02, x03, x04, x05⟩ := six_of HX0.out
    obtain ⟨x10, x11, x12, x13, x14, x15⟩ := six_of HX1.out
    go_wp2_with fail
    refine (awake_any _).mono ?_
    rintro e w5 ⟨rfl, hb5⟩
    clear x00 x01 x02 x03 x04 x05 x10 x11 x12 x13 x14 x15
    have hB5 := hB4.trans (hb5.mono hB4.size)
    have HY0 := Lib.hid (HX0.out.below hb5 HX0.out.lt); clear HX0; have HX0 := HY0; clear HY0
    have HY1 := Lib.hid (HX1.out.below hb5 HX1.out.lt); clear HX1; have HX1 := HY1; clear HY1
    clear hb5
    obtain ⟨x00, x01, x02, x03, x04, x05⟩ := six_of HX0.out
    obtain ⟨x10, x11, x12, x13, x14, x15⟩ := six_of HX1.out
    go_wp2_with fail
    refine (rsame_any (H0.out.on hB5) (H1.out.on hB5)).mono ?_
    rw [Ho.out]
    rintro e w6 ⟨rfl, hb6⟩
    clear x00 x01 x02 x03 x04 x05 x10 x11 x12 x13 x14 x15
    have hB6 := hB5.trans (hb6.mono hB5.size)
    have HY0 := Lib.hid (HX0.out.below hb6 HX0.out.lt); clear HX0; have HX0 := HY0; clear HY0
    have HY1 := Lib.hid (HX1.out.below hb6 HX1.out.lt); clear HX1; have HX1 := HY1; clear HY1
    clear hb6
    obtain ⟨x00, x01, x02, x03, x04, x05⟩ := six_of HX0.out
    obtain ⟨x10, x11, x12, x13, x14, x15⟩ := six_of HX1.out
    go_wp2_with fail
    go_ret
    exact ⟨rfl, hB6⟩
  · have q2 : decide (S1.size < S0.size) = false := by simpa using hlong
    have q3 : ((S1.extract 0 S0.size).toList == S0.toList) = false := by simpa using toList_ne (fun h => hsame (hpre h))
    have q4 : ((S1.extract 0 S0.size).toList != S0.toList) = true := by simpa using toList_ne (fun h => hsame (hpre h))
    have q5 : S0.size ≤ S1.size := by omega
    clear hsb hpre hsame hlong
    go_enter Try.func9, Try.ntmps9
    go_wp2_with fail
    refine (weigh_any _ _ 1000 _ (H0.out.on hB0) (by decide) (by decide)).mono ?_
    rw [Hp.out]
    rintro e w1 ⟨rfl, hb1⟩
    have hB1 := hB0.trans (hb1.mono hB0.size)
    have HY0 := Lib.hid (HX0.out.below hb1 HX0.out.lt); clear HX0; have HX0 := HY0; clear HY0
    have HY1 := Lib.hid (HX1.out.below hb1 HX1.out.lt); clear HX1; have HX1 := HY1; clear HY1
    clear hb1
    obtain ⟨x00, x01, x02, x03, x04, x05⟩ := six_of HX0.out
    obtain ⟨x10, x11, x12, x13, x14, x15⟩ := six_of HX1.out
    go_wp2_with fail
    refine (weigh_any _ _ 1000 _ (H1.out.on hB1) (by decide) (by decide)).mono ?_
    rw [Hq.out]
    rintro e w2 ⟨rfl, hb2⟩
    clear x00 x01 x02 x03 x04 x05 x10 x11 x12 x13 x14 x15
    have hB2 := hB1.trans (hb2.mono hB1.size)
    have HY0 := Lib.hid (HX0.out.below hb2 HX0.out.lt); clear HX0; have HX0 := HY0; clear HY0
    have HY1 := Lib.hid (HX1.out.below hb2 HX1.out.lt); clear HX1; have HX1 := HY1; clear HY1
    clear hb2
    obtain ⟨x00, x01, x02, x03, x04, x05⟩ := six_of HX0.out
    obtain ⟨x10, x11, x12, x13, x14, x15⟩ := six_of HX1.out
    go_wp2_with fail
    refine (vput_any (H0.out.on hB2)).mono ?_
    rw [Hp0.out]
    rintro e w3 ⟨rfl, hb3⟩
    clear x00 x01 x02 x03 x04 x05 x10 x11 x12 x13 x14 x15
    have hB3 := hB2.trans (hb3.mono hB2.size)
    have HY0 := Lib.hid (HX0.out.below hb3 HX0.out.lt); clear HX0; have HX0 := HY0; clear HY0
    have HY1 := Lib.hid (HX1.out.below hb3 HX1.out.lt); clear HX1; have HX1 := HY1; clear HY1
    clear hb3
    obtain ⟨x00, x01, x02, x03, x04, x05⟩ := six_of HX0.out
    obtain ⟨x10, x11, x12, x13, x14, x15⟩ := six_of HX1.out
    go_wp2_with fail
    refine (vput_any (H1.out.on hB3)).mono ?_
    rw [Hp1.out]
    rintro e w4 ⟨rfl, hb4⟩
    clear x00 x01 x02 x03 x04 x05 x10 x11 x12 x13 x14 x15
    have hB4 := hB3.trans (hb4.mono hB3.size)
    have HY0 := Lib.hid (HX0.out.below hb4 HX0.out.lt); clear HX0; have HX0 := HY0; clear HY0
    have HY1 := Lib.hid (HX1.out.below hb4 HX1.out.lt); clear HX1; have HX1 := HY1; clear HY1
    clear hb4
    obtain ⟨x00, x01, x02, x03, x04, x05⟩ := six_of HX0.out
    obtain ⟨x10, x11, x12, x13, x14, x15⟩ := six_of HX1.out
    go_wp2_with fail
    refine (awake_any _).mono ?_
    rintro e w5 ⟨rfl, hb5⟩
    clear x00 x01 x02 x03 x04 x05 x10 x11 x12 x13 x14 x15
    have hB5 := hB4.trans (hb5.mono hB4.size)
    have HY0 := Lib.hid (HX0.out.below hb5 HX0.out.lt); clear HX0; have HX0 := HY0; clear HY0
    have HY1 := Lib.hid (HX1.out.below hb5 HX1.out.lt); clear HX1; have HX1 := HY1; clear HY1
    clear hb5
    obtain ⟨x00, x01, x02, x03, x04, x05⟩ := six_of HX0.out
    obtain ⟨x10, x11, x12, x13, x14, x15⟩ := six_of HX1.out
    go_wp2_with fail
    refine (rsame_any (H0.out.on hB5) (H1.out.on hB5)).mono ?_
    rw [Ho.out]
    rintro e w6 ⟨rfl, hb6⟩
    clear x00 x01 x02 x03 x04 x05 x10 x11 x12 x13 x14 x15
    have hB6 := hB5.trans (hb6.mono hB5.size)
    have HY0 := Lib.hid (HX0.out.below hb6 HX0.out.lt); clear HX0; have HX0 := HY0; clear HY0
    have HY1 := Lib.hid (HX1.out.below hb6 HX1.out.lt); clear HX1; have HX1 := HY1; clear HY1
    clear hb6
    obtain ⟨x00, x01, x02, x03, x04, x05⟩ := six_of HX0.out
    obtain ⟨x10, x11, x12, x13, x14, x15⟩ := six_of HX1.out
    go_wp2_with fail
    go_ret
    exact ⟨rfl, hB6⟩

end Go.Proofs.Ytjkoogplipeacaa
