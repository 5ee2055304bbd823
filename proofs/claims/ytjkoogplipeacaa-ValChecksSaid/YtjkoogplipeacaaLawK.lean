/- the walk of ValChecks -/
import Derived.Test.YtjkoogplipeacaaLawO
import Derived.Test.YtjkoogplipeacaaChkR
import Derived.Test.YtjkoogplipeacaaSame
import Derived.Test.YtjkoogplipeacaaPutR
namespace Go.Proofs.Ytjkoogplipeacaa
open Go.ChangeShapes Go.WideShapes Go.ChangeAt Go.RowKit Go.Fl

mutual
theorem smT_cn : ∀ t : T, smT (cnT t) t = true
  | .mk k b n f s l => by rw [cnT, smT, cnL_map, smL_cn l]; unfold hdB; simp [canonN_canonN]
theorem smL_cn : ∀ l : List T, smL (l.map cnT) l = true
  | [] => rfl
  | t :: r => by rw [List.map_cons, smL, smT_cn t, smL_cn r]; rfl
end

theorem bst_more (x : List UInt8) : bst x ++ ⟨#[109, 111, 114, 101]⟩ = bst (x ++ [109, 111, 114, 101]) := bstr_add x [109, 111, 114, 101]

set_option maxHeartbeats 1000000 in
set_option maxRecDepth 100000 in
theorem checks_any (t0 : T) (v0 : Value) (w : World) (rd0 : Rd w w.heap.size t0 v0) :
    Calls Try.prog 3 #[v0] w fun e w' => e = .returned (.bool true) ∧ Below w.heap.size w w' := by
  have hw0 := wgh_le t0 3000 (by decide)
  have hN : ∃ w B v, Rd w B t0 v := ⟨_, _, _, rd0⟩
  obtain ⟨p, hp⟩ : ∃ p, wgh t0 3000 = p := ⟨_, rfl⟩
  rw [hp] at hw0
  have Hp := Lib.hid hp
  clear hp
  have hck := fun W (hW : Rd W W.heap.size t0 v0) => rCheck_any hW
  have hvk := fun W (hW : Rd W W.heap.size t0 v0) => vcheck_any hW
  obtain ⟨c, hc⟩ : ∃ c, chkF t0 = c := ⟨_, rfl⟩
  have Hc := Lib.hid hc
  clear hck hvk
  have hsm := smT_cn t0
  have hput : c ≠ 0 → putV t0 = .tuple #[.string ⟨#[]⟩, .int .i64 c] := fun h => by unfold putV; rw [hc, if_neg h]
  have hput0 : c = 0 → putV t0 = .tuple #[.string (bst (bys t0)), .int .i64 0] := fun h => by unfold putV; rw [hc, if_pos h]; rfl
  have hlen : c = 0 → (bys t0).length ≤ 60000 := fun h => by have h1 := chk_tot (hc.trans h); have h2 := bys_tot t0; omega
  have hrp := rput_at t0
  have hget := fun (h : c = 0) (S : ByteArray) W (hS : bst (bys t0 ++ [109, 111, 114, 101]) = S) hl => vget_any hN (hc.trans h) [109, 111, 114, 101] S W hS hl
  clear hc hN
  have hcc : (c != c) = false := by simp
  obtain ⟨k0, b0, n0, f0, s0, l0⟩ := t0
  obtain ⟨A0, c0, rfl, -⟩ := rd0.open
  have H0 := Lib.hid rd0
  clear rd0
  have hB0 := (Below.refl w.heap.size w).alloc (Nat.le_refl _) (.cells #[.int .i64 k0, .bool b0, .int .i64 n0, .float .f64 f0, .string s0, .slice A0 l0.length c0] 25)
  have hX0 : Blk (w.alloc (.cells #[.int .i64 k0, .bool b0, .int .i64 n0, .float .f64 f0, .string s0, .slice A0 l0.length c0] 25)) (w.heap.size) 25 #[.int .i64 k0, .bool b0, .int .i64 n0, .float .f64 f0, .string s0, .slice A0 l0.length c0] := by have h := Blk.new w 25 #[.int .i64 k0, .bool b0, .int .i64 n0, .float .f64 f0, .string s0, .slice A0 l0.length c0]; simpa only [World.size_alloc] using h
  have HX0 := Lib.hid hX0; clear hX0
  by_cases h0 : 3000 < p
  · have d0 : decide (3000 < p) = true := by simpa using h0
    clear h0 hput hput0 hlen hrp hget hsm hcc
    go_enter Try.func3, Try.ntmps3
    go_wp2_with fail
    refine (weigh_any _ _ 3000 _ (H0.out.on hB0) (by decide) (by decide)).mono ?_
    rw [Hp.out]
    rintro e w1 ⟨rfl, hb1⟩
    have hB1 := hB0.trans (hb1.mono hB0.size)
    have HY0 := Lib.hid (HX0.out.below hb1 HX0.out.lt); clear HX0; have HX0 := HY0; clear HY0
    clear hb1
    obtain ⟨x00, x01, x02, x03, x04, x05⟩ := six_of HX0.out
    go_wp2_with fail
    refine (awake_any _).mono ?_
    rintro e w2 ⟨rfl, hb2⟩
    clear x00 x01 x02 x03 x04 x05
    have hB2 := hB1.trans (hb2.mono hB1.size)
    have HY0 := Lib.hid (HX0.out.below hb2 HX0.out.lt); clear HX0; have HX0 := HY0; clear HY0
    clear hb2
    obtain ⟨x00, x01, x02, x03, x04, x05⟩ := six_of HX0.out
    go_wp2_with fail
    go_ret
    exact ⟨rfl, hB2⟩
  have d0 : decide (3000 < p) = false := by simpa using h0
  clear h0
  by_cases hz : c = 0
  rotate_left
  · have Hput := Lib.hid (hput hz)
    have g0 : (c != 0) = true := by simpa using hz
    have g1 : (c == 0) = false := by simpa using hz
    clear hput hput0 hlen hrp hget hsm hz
    go_enter Try.func3, Try.ntmps3
    go_wp2_with fail
    refine (weigh_any _ _ 3000 _ (H0.out.on hB0) (by decide) (by decide)).mono ?_
    rw [Hp.out]
    rintro e w1 ⟨rfl, hb1⟩
    have hB1 := hB0.trans (hb1.mono hB0.size)
    have HY0 := Lib.hid (HX0.out.below hb1 HX0.out.lt); clear HX0; have HX0 := HY0; clear HY0
    clear hb1
    obtain ⟨x00, x01, x02, x03, x04, x05⟩ := six_of HX0.out
    go_wp2_with fail
    refine (rCheck_any (H0.out.on hB1)).mono ?_
    rw [Hc.out]
    rintro e w2 ⟨rfl, hb2⟩
    clear x00 x01 x02 x03 x04 x05
    have hB2 := hB1.trans (hb2.mono hB1.size)
    have HY0 := Lib.hid (HX0.out.below hb2 HX0.out.lt); clear HX0; have HX0 := HY0; clear HY0
    clear hb2
    obtain ⟨x00, x01, x02, x03, x04, x05⟩ := six_of HX0.out
    go_wp2_with fail
    refine (vput_any (H0.out.on hB2)).mono ?_
    rw [Hput.out]
    rintro e w3 ⟨rfl, hb3⟩
    clear x00 x01 x02 x03 x04 x05
    have hB3 := hB2.trans (hb3.mono hB2.size)
    have HY0 := Lib.hid (HX0.out.below hb3 HX0.out.lt); clear HX0; have HX0 := HY0; clear HY0
    clear hb3
    obtain ⟨x00, x01, x02, x03, x04, x05⟩ := six_of HX0.out
    go_wp2_with fail
    refine (awake_any _).mono ?_
    rintro e w4 ⟨rfl, hb4⟩
    clear x00 x01 x02 x03 x04 x05
    have hB4 := hB3.trans (hb4.mono hB3.size)
    have HY0 := Lib.hid (HX0.out.below hb4 HX0.out.lt); clear HX0; have HX0 := HY0; clear HY0
    clear hb4
    obtain ⟨x00, x01, x02, x03, x04, x05⟩ := six_of HX0.out
    go_wp2_with fail
    refine (vcheck_any (H0.out.on hB4)).mono ?_
    rw [Hc.out]
    rintro e w5 ⟨rfl, hb5⟩
    clear x00 x01 x02 x03 x04 x05
    have hB5 := hB4.trans (hb5.mono hB4.size)
    have HY0 := Lib.hid (HX0.out.below hb5 HX0.out.lt); clear HX0; have HX0 := HY0; clear HY0
    clear hb5
    obtain ⟨x00, x01, x02, x03, x04, x05⟩ := six_of HX0.out
    go_wp2_with fail
    go_ret
    exact ⟨rfl, hB5⟩
  subst hz
  have Hput := Lib.hid (hput0 rfl)
  have hlen := hlen rfl
  have hget := hget rfl
  obtain ⟨S, hS⟩ : ∃ S, bst (bys (.mk k0 b0 n0 f0 s0 l0)) = S := ⟨_, rfl⟩
  have hSz : S.size = (bys (.mk k0 b0 n0 f0 s0 l0)).length := by rw [← hS, bst_size]
  have hS4 : S ++ ⟨#[109, 111, 114, 101]⟩ = bst (bys (.mk k0 b0 n0 f0 s0 l0) ++ [109, 111, 114, 101]) := by rw [← hS]; exact bst_more _
  obtain ⟨S4, hS5⟩ : ∃ S4, bst (bys (.mk k0 b0 n0 f0 s0 l0) ++ [109, 111, 114, 101]) = S4 := ⟨_, rfl⟩
  rw [hS5] at hS4
  have hS4z : S4.size ≤ 140737488351000 := by rw [← hS5, bst_size, List.length_append]; simp only [List.length_cons, List.length_nil]; omega
  have hget2 := fun W => hget S4 W hS5 hS4z
  have hput2 := Hput.out
  rw [hS] at hput2
  have Hput := Lib.hid hput2
  have hrp2 : ∀ (v : Value) (w : World), Rd w w.heap.size (.mk k0 b0 n0 f0 s0 l0) v → Calls Try.prog 17 #[v] w fun e w' => e = .returned (.string S) ∧ Below w.heap.size w w' := fun v w h => by
    have := hrp v w h (by omega)
    rwa [show bstr (bys (.mk k0 b0 n0 f0 s0 l0)) = S from hS] at this
  have hss : S.size ≤ 60000 := by omega
  obtain ⟨m, hm⟩ : ∃ m, (bys (.mk k0 b0 n0 f0 s0 l0)).length = m := ⟨_, rfl⟩
  rw [hm] at hSz
  simp only [hm] at hget2
  obtain rfl : S.size = m := hSz
  obtain ⟨k1, b1, n1, f1, s1, l1, hcn⟩ : ∃ k b n f s q, cnT (.mk k0 b0 n0 f0 s0 l0) = .mk k b n f s q := ⟨_, _, _, _, _, _, by rw [cnT]⟩
  simp only [hcn] at hget2 hsm
  have Hget := Lib.hid hget2; have Hrp := Lib.hid hrp2; have Hsm := Lib.hid hsm; have HS4 := Lib.hid hS4
  clear hput hput0 hlen hrp hget hsm hput2 hget2 hrp2 hS hS4 hS5 hS4z hm hcn
  go_enter Try.func3, Try.ntmps3
  go_wp2_with fail
  refine (weigh_any _ _ 3000 _ (H0.out.on hB0) (by decide) (by decide)).mono ?_
  rw [Hp.out]
  rintro e w1 ⟨rfl, hb1⟩
  have hB1 := hB0.trans (hb1.mono hB0.size)
  have HY0 := Lib.hid (HX0.out.below hb1 HX0.out.lt); clear HX0; have HX0 := HY0; clear HY0
  clear hb1
  obtain ⟨x00, x01, x02, x03, x04, x05⟩ := six_of HX0.out
  go_wp2_with fail
  refine (rCheck_any (H0.out.on hB1)).mono ?_
  rw [Hc.out]
  rintro e w2 ⟨rfl, hb2⟩
  clear x00 x01 x02 x03 x04 x05
  have hB2 := hB1.trans (hb2.mono hB1.size)
  have HY0 := Lib.hid (HX0.out.below hb2 HX0.out.lt); clear HX0; have HX0 := HY0; clear HY0
  clear hb2
  obtain ⟨x00, x01, x02, x03, x04, x05⟩ := six_of HX0.out
  go_wp2_with fail
  refine (vput_any (H0.out.on hB2)).mono ?_
  rw [Hput.out]
  rintro e w3 ⟨rfl, hb3⟩
  clear x00 x01 x02 x03 x04 x05
  have hB3 := hB2.trans (hb3.mono hB2.size)
  have HY0 := Lib.hid (HX0.out.below hb3 HX0.out.lt); clear HX0; have HX0 := HY0; clear HY0
  clear hb3
  obtain ⟨x00, x01, x02, x03, x04, x05⟩ := six_of HX0.out
  go_wp2_with fail
  refine (awake_any _).mono ?_
  rintro e w4 ⟨rfl, hb4⟩
  clear x00 x01 x02 x03 x04 x05
  have hB4 := hB3.trans (hb4.mono hB3.size)
  have HY0 := Lib.hid (HX0.out.below hb4 HX0.out.lt); clear HX0; have HX0 := HY0; clear HY0
  clear hb4
  obtain ⟨x00, x01, x02, x03, x04, x05⟩ := six_of HX0.out
  go_wp2_with fail
  refine (vcheck_any (H0.out.on hB4)).mono ?_
  rw [Hc.out]
  rintro e w5 ⟨rfl, hb5⟩
  clear x00 x01 x02 x03 x04 x05
  have hB5 := hB4.trans (hb5.mono hB4.size)
  have HY0 := Lib.hid (HX0.out.below hb5 HX0.out.lt); clear HX0; have HX0 := HY0; clear HY0
  clear hb5
  obtain ⟨x00, x01, x02, x03, x04, x05⟩ := six_of HX0.out
  go_wp2_with fail
  rw [HS4.out]
  refine (Hget.out _).mono ?_
  rintro e w6 ⟨v6, rfl, hv6, hb6⟩
  clear x00 x01 x02 x03 x04 x05
  have hB6 := hB5.trans (hb6.mono hB5.size)
  have HY0 := Lib.hid (HX0.out.below hb6 HX0.out.lt)
  obtain ⟨A6, c6, rfl, -⟩ := hv6.open
  have HV6 := Lib.hid (RdS.up hv6 (Nat.zero_le _) (Nat.le_refl _))
  have hbn := (Below.refl w6.heap.size w6).alloc (Nat.le_refl _) (.cells #[.int .i64 k1, .bool b1, .int .i64 n1, .float .f64 f1, .string s1, .slice A6 l1.length c6] 25)
  have hB7 := hB6.alloc hB6.size (.cells #[.int .i64 k1, .bool b1, .int .i64 n1, .float .f64 f1, .string s1, .slice A6 l1.length c6] 25)
  have HY1 := Lib.hid (HY0.out.below hbn HY0.out.lt)
  have HG1 := Lib.hid (Blk.new w6 25 #[.int .i64 k1, .bool b1, .int .i64 n1, .float .f64 f1, .string s1, .slice A6 l1.length c6])
  obtain ⟨x00, x01, x02, x03, x04, x05⟩ := six_of HY1.out
  clear hv6 hb6 HX0 HY0
  go_wp2_with fail
  refine (Hrp.out _ _ (H0.out.on hB7)).mono ?_
  rintro e w8 ⟨rfl, hb8⟩
  clear x00 x01 x02 x03 x04 x05
  have hB8 := hB7.trans (hb8.mono hB7.size)
  obtain ⟨x00, x01, x02, x03, x04, x05⟩ := six_of (HY1.out.below hb8 HY1.out.lt)
  obtain ⟨y00, y01, y02, y03, y04, y05⟩ := six_of (HG1.out.below hb8 HG1.out.lt)
  have HV8 := Lib.hid ((HV6.out.on hbn).on hb8)
  clear hb8 hbn HV6
  go_wp2_with fail
  refine (rsame_any HV8.out (H0.out.on hB8)).mono ?_
  rw [Hsm.out]
  rintro e w9 ⟨rfl, hb9⟩
  go_wp2_with fail
  go_ret
  exact ⟨rfl, hB8.trans (hb9.mono hB8.size)⟩

end Go.Proofs.Ytjkoogplipeacaa
