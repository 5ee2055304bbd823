/- parse: ParseSame -/
import Derived.Test.YtnehbpfgdeilhaaGreatDoorPbA
namespace Go.Proofs.YtnehbpfgdeilhaaGreatDoor
open Go.ChangeShapes Go.WideShapes Go.ChangeAt Go.RowKit Go.Fl
open Go.Shelf

theorem rdTr_al {k : Nat} {w w' : World} {B : Nat} {l : List Sp} {v : Value} (h : RdTr k w (fun b => B ≤ b ∧ b < w.heap.size) l v) (hb : Below w.heap.size w w') : RdTr k w' (Al w') l v :=
  keepS_Tr k _ _ _ _ _ _ (fun _ hp => hb.cell hp.2) (fun _ hp => ⟨Nat.zero_le _, Nat.lt_of_lt_of_le hp.2 hb.size⟩) h

set_option maxHeartbeats 4000000 in
set_option maxRecDepth 100000 in
theorem same_small (S : ByteArray) (W : World) (hS : S.size ≤ 1000) (he : Env W) :
    Calls Tryz.prog 4 #[.string S] W fun e w' => e = .returned (.bool true) ∧ Below W.heap.size W w' := by
  have d1 : decide (1000 < (S.size : Int)) = false := by rw [decide_eq_false_iff_not]; omega
  have hX : (⟨#[32]⟩ ++ S ++ ⟨#[32]⟩ : ByteArray).data.toList = 32 :: (S.data.toList ++ [32]) := by simp
  have hXs : (⟨#[32]⟩ ++ S ++ ⟨#[32]⟩ : ByteArray).size ≤ maxLen := by
    have h1 : (⟨#[32]⟩ : ByteArray).size = 1 := rfl
    rw [ByteArray.size_append, ByteArray.size_append, h1]
    unfold maxLen
    omega
  have HP := Lib.hid (fun w (hb : Below W.heap.size W w) => parse_any S w (by unfold maxLen; omega) (he.on hb))
  have HPX := Lib.hid (fun w (hb : Below W.heap.size W w) => parse_any (⟨#[32]⟩ ++ S ++ ⟨#[32]⟩) w hXs (he.on hb))
  have HA := Lib.hid (fun w (hb : Below W.heap.size W w) => pawake_any w (he.on hb))
  rw [hX] at HPX
  have hsp := parse_sp (l := S.data.toList) (by rw [len_list]; exact hS)
  clear hX hXs he
  rcases hsp with ⟨st, h1, h2⟩ | ⟨a, a', c, h1, h2⟩
  all_goals
    rw [h1] at HP
    rw [h2] at HPX
    clear h1 h2
    go_enter Tryz.func4, Tryz.ntmps4
    go_wp2_with fail
  · refine (HP.out _ (Below.refl _ _)).mono ?_
    rintro e w1 ⟨hb1, v1, rfl, hv1⟩
    have H1 := Lib.hid (And.intro hb1 hv1)
    clear hb1 hv1
    go_wp2_with fail
    refine (HP.out _ H1.out.1).mono ?_
    rintro e w2 ⟨hb2, v2, rfl, hv2⟩
    have H2 := Lib.hid (And.intro hb2 hv2)
    have HW2 := Lib.hid (H1.out.1.trans (hb2.mono H1.out.1.size))
    clear hb2 hv2
    go_wp2_with fail
    refine (HPX.out _ HW2.out).mono ?_
    rintro e w3 ⟨hb3, v3, rfl, hv3⟩
    have H3 := Lib.hid (And.intro hb3 hv3)
    have HW3 := Lib.hid (HW2.out.trans (hb3.mono HW2.out.size))
    clear hb3 hv3
    go_wp2_with fail
    refine (HA.out _ HW3.out).mono ?_
    rintro e w4 ⟨rfl, hb4⟩
    have HW4 := Lib.hid (HW3.out.trans (hb4.mono HW3.out.size))
    have q3 := H3.out.1.trans (hb4.mono H3.out.1.size)
    have q2 := H2.out.1.trans (q3.mono H2.out.1.size)
    have HS := Lib.hid (fun w5 (hb : Below w4.heap.size w4 w5) => And.intro (rdTr_al H1.out.2 (q2.trans (hb.mono q2.size))) (And.intro (rdTr_al H2.out.2 (q3.trans (hb.mono q3.size))) (rdTr_al H3.out.2 (hb4.trans (hb.mono hb4.size)))))
    clear hb4 q2 q3
    go_wp2_with fail
    refine (ss_at 13 st v1 v2 _ (HS.out _ (Below.refl _ _)).1 (HS.out _ (Below.refl _ _)).2.1).mono ?_
    rintro e w5 ⟨rfl, hb5⟩
    have HB5 := Lib.hid hb5
    clear hb5
    go_wp2_with fail
    refine (ss_at 13 st v3 v1 _ (HS.out _ HB5.out).2.2 (HS.out _ HB5.out).1).mono ?_
    rintro e w6 ⟨rfl, hb6⟩
    go_wp2_with fail
    go_ret
    exact ⟨rfl, (HW4.out.trans (HB5.out.mono HW4.out.size)).trans (hb6.mono (HW4.out.trans (HB5.out.mono HW4.out.size)).size)⟩
  · refine (HP.out _ (Below.refl _ _)).mono ?_
    rintro e w1 ⟨hb1, rfl⟩
    have HW1 := Lib.hid hb1
    clear hb1
    go_wp2_with fail
    refine (HP.out _ HW1.out).mono ?_
    rintro e w2 ⟨hb2, rfl⟩
    have HW2 := Lib.hid (HW1.out.trans (hb2.mono HW1.out.size))
    clear hb2
    go_wp2_with fail
    refine (HPX.out _ HW2.out).mono ?_
    rintro e w3 ⟨hb3, rfl⟩
    have HW3 := Lib.hid (HW2.out.trans (hb3.mono HW2.out.size))
    clear hb3
    go_wp2_with fail
    refine (HA.out _ HW3.out).mono ?_
    rintro e w4 ⟨rfl, hb4⟩
    have HW4 := Lib.hid (HW3.out.trans (hb4.mono HW3.out.size))
    clear hb4
    go_wp2_with fail
    refine (ss_zero _).mono ?_
    rintro e w5 ⟨rfl, hb5⟩
    have HW5 := Lib.hid (HW4.out.trans (hb5.mono HW4.out.size))
    clear hb5
    go_wp2_with fail
    refine (ss_zero _).mono ?_
    rintro e w6 ⟨rfl, hb6⟩
    go_wp2_with fail
    go_ret
    exact ⟨rfl, HW5.out.trans (hb6.mono HW5.out.size)⟩

set_option maxHeartbeats 4000000 in
set_option maxRecDepth 100000 in
theorem same_big (S R : ByteArray) (W : World) (hS : S.size ≤ 1000) (hR : 1000 < R.size) (hsl : ∀ W, (Instr.slice 9 (.string R) none (some (.int .i64 1000)) none).run Tryz.prog W = .ok (.string S) W) (he : Env W) :
    Calls Tryz.prog 4 #[.string R] W fun e w' => e = .returned (.bool true) ∧ Below W.heap.size W w' := by
  have d1 : decide (1000 < (R.size : Int)) = true := by rw [decide_eq_true_eq]; omega
  have hX : (⟨#[32]⟩ ++ S ++ ⟨#[32]⟩ : ByteArray).data.toList = 32 :: (S.data.toList ++ [32]) := by simp
  have hXs : (⟨#[32]⟩ ++ S ++ ⟨#[32]⟩ : ByteArray).size ≤ maxLen := by
    have h1 : (⟨#[32]⟩ : ByteArray).size = 1 := rfl
    rw [ByteArray.size_append, ByteArray.size_append, h1]
    unfold maxLen
    omega
  have HP := Lib.hid (fun w (hb : Below W.heap.size W w) => parse_any S w (by unfold maxLen; omega) (he.on hb))
  have HPX := Lib.hid (fun w (hb : Below W.heap.size W w) => parse_any (⟨#[32]⟩ ++ S ++ ⟨#[32]⟩) w hXs (he.on hb))
  have HA := Lib.hid (fun w (hb : Below W.heap.size W w) => pawake_any w (he.on hb))
  rw [hX] at HPX
  have hsp := parse_sp (l := S.data.toList) (by rw [len_list]; exact hS)
  clear hX hXs he
  rcases hsp with ⟨st, h1, h2⟩ | ⟨a, a', c, h1, h2⟩
  all_goals
    rw [h1] at HP
    rw [h2] at HPX
    clear h1 h2
    go_enter Tryz.func4, Tryz.ntmps4
    go_wp2_with fail
  · refine (HP.out _ (Below.refl _ _)).mono ?_
    rintro e w1 ⟨hb1, v1, rfl, hv1⟩
    have H1 := Lib.hid (And.intro hb1 hv1)
    clear hb1 hv1
    go_wp2_with fail
    refine (HP.out _ H1.out.1).mono ?_
    rintro e w2 ⟨hb2, v2, rfl, hv2⟩
    have H2 := Lib.hid (And.intro hb2 hv2)
    have HW2 := Lib.hid (H1.out.1.trans (hb2.mono H1.out.1.size))
    clear hb2 hv2
    go_wp2_with fail
    refine (HPX.out _ HW2.out).mono ?_
    rintro e w3 ⟨hb3, v3, rfl, hv3⟩
    have H3 := Lib.hid (And.intro hb3 hv3)
    have HW3 := Lib.hid (HW2.out.trans (hb3.mono HW2.out.size))
    clear hb3 hv3
    go_wp2_with fail
    refine (HA.out _ HW3.out).mono ?_
    rintro e w4 ⟨rfl, hb4⟩
    have HW4 := Lib.hid (HW3.out.trans (hb4.mono HW3.out.size))
    have q3 := H3.out.1.trans (hb4.mono H3.out.1.size)
    have q2 := H2.out.1.trans (q3.mono H2.out.1.size)
    have HS := Lib.hid (fun w5 (hb : Below w4.heap.size w4 w5) => And.intro (rdTr_al H1.out.2 (q2.trans (hb.mono q2.size))) (And.intro (rdTr_al H2.out.2 (q3.trans (hb.mono q3.size))) (rdTr_al H3.out.2 (hb4.trans (hb.mono hb4.size)))))
    clear hb4 q2 q3
    go_wp2_with fail
    refine (ss_at 13 st v1 v2 _ (HS.out _ (Below.refl _ _)).1 (HS.out _ (Below.refl _ _)).2.1).mono ?_
    rintro e w5 ⟨rfl, hb5⟩
    have HB5 := Lib.hid hb5
    clear hb5
    go_wp2_with fail
    refine (ss_at 13 st v3 v1 _ (HS.out _ HB5.out).2.2 (HS.out _ HB5.out).1).mono ?_
    rintro e w6 ⟨rfl, hb6⟩
    go_wp2_with fail
    go_ret
    exact ⟨rfl, (HW4.out.trans (HB5.out.mono HW4.out.size)).trans (hb6.mono (HW4.out.trans (HB5.out.mono HW4.out.size)).size)⟩
  · refine (HP.out _ (Below.refl _ _)).mono ?_
    rintro e w1 ⟨hb1, rfl⟩
    have HW1 := Lib.hid hb1
    clear hb1
    go_wp2_with fail
    refine (HP.out _ HW1.out).mono ?_
    rintro e w2 ⟨hb2, rfl⟩
    have HW2 := Lib.hid (HW1.out.trans (hb2.mono HW1.out.size))
    clear hb2
    go_wp2_with fail
    refine (HPX.out _ HW2.out).mono ?_
    rintro e w3 ⟨hb3, rfl⟩
    have HW3 := Lib.hid (HW2.out.trans (hb3.mono HW2.out.size))
    clear hb3
    go_wp2_with fail
    refine (HA.out _ HW3.out).mono ?_
    rintro e w4 ⟨rfl, hb4⟩
    have HW4 := Lib.hid (HW3.out.trans (hb4.mono HW3.out.size))
    clear hb4
    go_wp2_with fail
    refine (ss_zero _).mono ?_
    rintro e w5 ⟨rfl, hb5⟩
    have HW5 := Lib.hid (HW4.out.trans (hb5.mono HW4.out.size))
    clear hb5
    go_wp2_with fail
    refine (ss_zero _).mono ?_
    rintro e w6 ⟨rfl, hb6⟩
    go_wp2_with fail
    go_ret
    exact ⟨rfl, HW5.out.trans (hb6.mono HW5.out.size)⟩

theorem same_walk (S : ByteArray) (W : World) (he : Env W) :
    Calls Tryz.prog 4 #[.string S] W fun e w' => e = .returned (.bool true) ∧ Below W.heap.size W w' := by
  by_cases h : S.size ≤ 1000
  · exact same_small S W h he
  · have e : (⟨S.data.toList.toArray⟩ : ByteArray) = S := ofL_list S
    refine same_big ⟨(S.data.toList.take 1000).toArray⟩ S W ?_ (by omega) (fun W' => ?_) he
    · rw [str_size, List.length_take]; omega
    · have := sl_head (s := S.data.toList) (n := 1000) (N := 1000) rfl (by rw [len_list]; omega) W'
      rw [e] at this
      exact this

end Go.Proofs.YtnehbpfgdeilhaaGreatDoor
