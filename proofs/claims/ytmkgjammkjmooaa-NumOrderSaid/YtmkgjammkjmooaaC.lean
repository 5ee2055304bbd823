/- contracts of the float functions, continued -/
import Derived.Test.YtmkgjammkjmooaaB
namespace Go.Proofs.Ytmkgjammkjmooaa
open Go.ChangeShapes Go.WideShapes Go.ChangeAt Go.RowKit Go.Fl
def cmpN (a b : Nat) : Int := if keyN a < keyN b then -1 else if keyN b < keyN a then 1 else 0
theorem cmp_lt {a b : Nat} (h : keyN a < keyN b) : cmpN a b = -1 := by unfold cmpN; rw [if_pos h]
theorem cmp_gt {a b : Nat} (h : keyN b < keyN a) : cmpN a b = 1 := by unfold cmpN; rw [if_neg (by omega), if_pos h]
theorem cmp_eq {a b : Nat} (h : keyN a = keyN b) : cmpN a b = 0 := by unfold cmpN; rw [if_neg (by omega), if_neg (by omega)]
theorem cmp_any (a b : Nat) (w : World) (ha : a < 18446744073709551616) (hb : b < 18446744073709551616) :
    Calls Try.prog 26 #[.float .f64 a, .float .f64 b] w fun e w' => e = .returned (.int .i64 (cmpN a b)) ∧ w = w' := by
  have Ha := Lib.hid ha; have Hb := Lib.hid hb; clear ha hb
  rcases Nat.lt_trichotomy (keyN a) (keyN b) with h | h | h
  · rw [cmp_lt h]
    have ht : decide (keyN a < keyN b) = true := by simpa using h
    clear h
    go_enter Try.func26, Try.ntmps26
    go_wp2_with fail
    refine (key_any _ _ Ha.out).mono ?_
    rintro e w' ⟨rfl, rfl⟩
    go_wp2_with fail
    refine (key_any _ _ Hb.out).mono ?_
    rintro e w' ⟨rfl, rfl⟩
    go_wp2
    go_ret
    exact ⟨rfl, rfl⟩
  · rw [cmp_eq h]
    have ht : decide (keyN a < keyN b) = false := by simp; omega
    have ht' : decide (keyN b < keyN a) = false := by simp; omega
    clear h
    go_enter Try.func26, Try.ntmps26
    go_wp2_with fail
    refine (key_any _ _ Ha.out).mono ?_
    rintro e w' ⟨rfl, rfl⟩
    go_wp2_with fail
    refine (key_any _ _ Hb.out).mono ?_
    rintro e w' ⟨rfl, rfl⟩
    go_wp2
    go_ret
    exact ⟨rfl, rfl⟩
  · rw [cmp_gt h]
    have ht : decide (keyN a < keyN b) = false := by simp; omega
    have ht' : decide (keyN b < keyN a) = true := by simpa using h
    clear h
    go_enter Try.func26, Try.ntmps26
    go_wp2_with fail
    refine (key_any _ _ Ha.out).mono ?_
    rintro e w' ⟨rfl, rfl⟩
    go_wp2_with fail
    refine (key_any _ _ Hb.out).mono ?_
    rintro e w' ⟨rfl, rfl⟩
    go_wp2
    go_ret
    exact ⟨rfl, rfl⟩
theorem cmp_consts : cmpN 13830554455654793216 4607182418800017408 = -1 := by decide +kernel
theorem key_const : keyN 4607182418800017408 = 13830554455654793216 := by decide +kernel
def Done (w : World) (e : Ending) (w' : World) : Prop := e = .returned (.bool true) ∧ ∃ n, w' = w.drewN n
theorem awake_any (w : World) : Calls Try.prog 15 #[] w fun e w' => e = .returned (.bool true) ∧ w = w' := by
  go_enter Try.func15, Try.ntmps15
  go_wp2_with fail
  refine (add_any 2 3 _ (by decide) (by decide)).mono ?_
  rintro e w' ⟨rfl, rfl⟩
  have e1 : cut64 (2 + 3) = 5 := by decide
  have e2 : is64 (2 + 3) = true := by decide
  rw [e1, e2]
  clear e1 e2
  go_wp2_with fail
  refine (add_any 9223372036854775807 1 _ (by decide) (by decide)).mono ?_
  rintro e w' ⟨rfl, rfl⟩
  have e1 : cut64 (9223372036854775807 + 1) = 0 := by decide
  have e2 : is64 (9223372036854775807 + 1) = false := by decide
  rw [e1, e2]
  clear e1 e2
  go_wp2_with fail
  refine (cmp_any _ _ _ (by decide) (by decide)).mono ?_
  rintro e w' ⟨rfl, rfl⟩
  rw [cmp_consts]
  go_wp2_with fail
  refine (key_any _ _ (by decide)).mono ?_
  rintro e w' ⟨rfl, rfl⟩
  rw [key_const]
  go_wp2
  go_ret
  exact ⟨rfl, rfl⟩

theorem back_any (a b : Int) (w : World) (ha : is64 a = true) (hb : is64 b = true) :
    Calls Try.prog 11 #[.int .i64 a, .int .i64 b] w fun e w' => e = .returned (.bool true) ∧ w = w' := by
  have hc : is64 (cut64 (a + b)) = true := by unfold cut64; split; assumption; decide
  have Ha := Lib.hid ha; have Hb := Lib.hid hb; have Hc := Lib.hid hc
  clear ha hb hc
  rcases h : is64 (a + b) with _ | _
  · have H := Lib.hid h; clear h
    go_enter Try.func11, Try.ntmps11
    go_wp2_with fail
    refine (add_any _ _ _ Ha.out Hb.out).mono ?_
    rintro e w' ⟨rfl, rfl⟩
    rw [H.out]
    go_wp2_with fail
    refine (sub_any _ _ _ Hc.out Hb.out).mono ?_
    rintro e w' ⟨rfl, rfl⟩
    go_wp2_with fail
    refine (awake_any _).mono ?_
    rintro e w' ⟨rfl, rfl⟩
    go_wp2
    go_ret
    exact ⟨rfl, rfl⟩
  · have e1 : cut64 (a + b) = a + b := by unfold cut64; rw [h]; rfl
    have e2 : cut64 (a + b - b) = a := by rw [show a + b - b = a from by omega]; unfold cut64; rw [Ha.out]; rfl
    have e3 : is64 (a + b - b) = true := by rw [show a + b - b = a from by omega]; exact Ha.out
    have H := Lib.hid h; clear h
    have E1 := Lib.hid e1; have E2 := Lib.hid e2; have E3 := Lib.hid e3; clear e1 e2 e3
    go_enter Try.func11, Try.ntmps11
    go_wp2_with fail
    refine (add_any _ _ _ Ha.out Hb.out).mono ?_
    rintro e w' ⟨rfl, rfl⟩
    rw [H.out]
    go_wp2_with fail
    refine (sub_any _ _ _ Hc.out Hb.out).mono ?_
    rintro e w' ⟨rfl, rfl⟩
    rw [E1.out, E2.out, E3.out]
    go_wp2_with fail
    refine (awake_any _).mono ?_
    rintro e w' ⟨rfl, rfl⟩
    go_wp2
    go_ret
    exact ⟨rfl, rfl⟩

theorem adds_any (a b : Int) (w : World) (ha : is64 a = true) (hb : is64 b = true) :
    Calls Try.prog 3 #[.int .i64 a, .int .i64 b] w fun e w' => e = .returned (.bool true) ∧ w = w' := by
  obtain ⟨ha1, ha2⟩ := is64_iff.1 ha; obtain ⟨hb1, hb2⟩ := is64_iff.1 hb
  have Ha := Lib.hid ha; have Hb := Lib.hid hb
  clear ha hb
  have k1 : is64 (a + b) = true → wrap64 (a + b) = cut64 (a + b) := by
    intro h; obtain ⟨x, y⟩ := is64_iff.1 h
    unfold cut64; rw [h]; unfold wrap64; simp; omega
  have k2 : is64 (a - b) = true → wrap64 (a - b) = cut64 (a - b) := by
    intro h; obtain ⟨x, y⟩ := is64_iff.1 h
    unfold cut64; rw [h]; unfold wrap64; simp; omega
  have z1 : is64 (a + b) = false → cut64 (a + b) = 0 := by intro h; unfold cut64; rw [h]; rfl
  have z2 : is64 (a - b) = false → cut64 (a - b) = 0 := by intro h; unfold cut64; rw [h]; rfl
  have K1 := Lib.hid k1; have K2 := Lib.hid k2; have Z1 := Lib.hid z1; have Z2 := Lib.hid z2
  clear k1 k2 z1 z2 ha1 ha2 hb1 hb2
  go_enter Try.func3, Try.ntmps3
  go_wp2_with fail
  refine (add_any _ _ _ Ha.out Hb.out).mono ?_
  rintro e w' ⟨rfl, rfl⟩
  go_wp2_with fail
  refine (sub_any _ _ _ Ha.out Hb.out).mono ?_
  rintro e w' ⟨rfl, rfl⟩
  go_wp2_with fail
  refine (awake_any _).mono ?_
  rintro e w' ⟨rfl, rfl⟩
  go_wp2_with fail
  refine (fits_add _ _ _ Ha.out Hb.out).mono ?_
  rintro e w' ⟨rfl, rfl⟩
  go_wp2_with fail
  refine (fits_sub _ _ _ Ha.out Hb.out).mono ?_
  rintro e w' ⟨rfl, rfl⟩
  rcases h1 : is64 (a + b) with _ | _ <;> rcases h2 : is64 (a - b) with _ | _
  · have e1 := Z1.out h1; have e2 := Z2.out h2
    rw [e1, e2]; clear h1 h2 e1 e2
    go_wp2
    go_ret
    exact ⟨rfl, rfl⟩
  · have e1 := Z1.out h1; have t2 : (cut64 (a - b) == wrap64 (a - b)) = true := by rw [K2.out h2]; simp
    rw [e1]; clear h1 h2 e1
    go_wp2
    go_ret
    exact ⟨rfl, rfl⟩
  · have e2 := Z2.out h2; have t1 : (cut64 (a + b) == wrap64 (a + b)) = true := by rw [K1.out h1]; simp
    rw [e2]; clear h1 h2 e2
    go_wp2
    go_ret
    exact ⟨rfl, rfl⟩
  · have t2 : (cut64 (a - b) == wrap64 (a - b)) = true := by rw [K2.out h2]; simp
    have t1 : (cut64 (a + b) == wrap64 (a + b)) = true := by rw [K1.out h1]; simp
    clear h1 h2
    go_wp2
    go_ret
    exact ⟨rfl, rfl⟩
end Go.Proofs.Ytmkgjammkjmooaa
