/- contracts: num.Mul and the reference's Mul -/
import Derived.Test.YtmkgjammkjmooaaC
namespace Go.Proofs.Ytmkgjammkjmooaa
open Go.ChangeShapes Go.WideShapes Go.ChangeAt Go.RowKit

theorem cut_yes {n : Int} (h : is64 n = true) : cut64 n = n := by unfold cut64; rw [h]; rfl
theorem cut_no {n : Int} (h : is64 n = false) : cut64 n = 0 := by unfold cut64; rw [h]; rfl

/-- dividing back tells whether a product wrapped -/
theorem back_yes {a b : Int} (hb : b ≠ 0) (h : is64 (a * b) = true) : (wrap64 (a * b)).tdiv b = a := by
  rw [wrap64_id h]; exact Int.mul_tdiv_cancel a hb
theorem back_no {a b : Int} (hb : is64 b = true) (hb0 : b ≠ 0) (h : is64 (a * b) = false) : (wrap64 (a * b)).tdiv b ≠ a := by
  intro e
  obtain ⟨b1, b2⟩ := is64_iff.1 hb
  have h' := is64_no.1 h
  have hd := Int.mul_tdiv_add_tmod (wrap64 (a * b)) b
  rw [e, Int.mul_comm] at hd
  have hr : -(b.natAbs : Int) < (wrap64 (a * b)).tmod b ∧ (wrap64 (a * b)).tmod b < (b.natAbs : Int) := by
    have h2 := Int.natAbs_tmod (wrap64 (a * b)) b
    have h3 : (wrap64 (a * b)).natAbs % b.natAbs < b.natAbs := Nat.mod_lt _ (by omega)
    omega
  generalize (wrap64 (a * b)).tmod b = r at *
  have hw : wrap64 (a * b) = (a * b + 9223372036854775808) % 18446744073709551616 - 9223372036854775808 := by unfold wrap64; rfl
  generalize a * b = p at *
  omega

theorem mul_any (a b : Int) (w : World) (ha : is64 a = true) (hb : is64 b = true) :
    Calls Try.prog 17 #[.int .i64 a, .int .i64 b] w fun e w' => e = .returned (.tuple #[.int .i64 (cut64 (a * b)), .bool (is64 (a * b))]) ∧ w = w' := by
  by_cases hb0 : b = 0
  · subst hb0
    have e1 : cut64 (a * 0) = 0 := by rw [Int.mul_zero]; rfl
    have e2 : is64 (a * 0) = true := by rw [Int.mul_zero]; rfl
    rw [e1, e2]; clear e1 e2 ha hb
    go_enter Try.func17, Try.ntmps17
    go_wp2
    go_ret2
    exact ⟨rfl, rfl⟩
  · have hz : (b == 0) = false := by simpa using hb0
    rcases h : is64 (a * b) with _ | _
    · have hc := cut_no h
      have hn := back_no hb hb0 h
      obtain ⟨b1, b2⟩ := is64_iff.1 hb
      by_cases hm : a = -9223372036854775808 ∧ b = -1
      · obtain ⟨rfl, rfl⟩ := hm
        rw [hc]; clear hc hn h ha hb
        have e1 : (wrap64 (-wrap64 9223372036854775808) != -9223372036854775808) = false := by unfold wrap64; decide
        go_enter Try.func17, Try.ntmps17
        go_wp2
        go_ret2
        exact ⟨rfl, rfl⟩
      · have ht : (wrap64 ((wrap64 (a * b)).tdiv b) != a) = true := by
          have hq : is64 ((wrap64 (a * b)).tdiv b) = true := by
            have hw := is64_iff.1 (wrap64_is (a * b))
            by_cases hb1 : b = -1
            · subst hb1
              have : a ≠ -9223372036854775808 := fun e => hm ⟨e, rfl⟩
              have ha' := is64_iff.1 ha
              have h' := is64_no.1 h
              omega
            · have h1 : ((wrap64 (a * b)).tdiv b).natAbs = (wrap64 (a * b)).natAbs / b.natAbs := Int.natAbs_tdiv _ _
              by_cases hb2 : b = 1
              · subst hb2; rw [Int.tdiv_one]; exact wrap64_is _
              · have h2 : 2 ≤ b.natAbs := by omega
                have h3 : (wrap64 (a * b)).natAbs / b.natAbs ≤ (wrap64 (a * b)).natAbs / 2 := Nat.div_le_div_left h2 (by decide)
                refine is64_iff.2 ?_
                omega
          rw [wrap64_id hq]; simpa using hn
        rw [hc]; clear hc hn h ha hb b1 b2 hm
        go_enter Try.func17, Try.ntmps17
        go_wp2
        go_ret2
        exact ⟨rfl, rfl⟩
    · have hc := cut_yes h
      have hy := back_yes hb0 h
      have hm : ¬ (a = -9223372036854775808 ∧ b = -1) := by
        rintro ⟨rfl, rfl⟩; revert h; decide
      have ht : (wrap64 ((wrap64 (a * b)).tdiv b) != a) = false := by rw [hy, wrap64_id ha]; simp
      have hw := wrap64_id h
      have Hw := Lib.hid hw
      rw [hc]
      clear hw hc hy h hb
      by_cases hm1 : a = -9223372036854775808
      · have hm2 : (b == -1) = false := by simpa using fun e => hm ⟨hm1, e⟩
        have hm1' : (a == -9223372036854775808) = true := by simpa using hm1
        clear hm hm1 ha
        go_enter Try.func17, Try.ntmps17
        go_wp2
        go_ret2
        exact ⟨ret2 Hw.out rfl, rfl⟩
      · have hm1' : (a == -9223372036854775808) = false := by simpa using hm1
        clear hm hm1 ha
        go_enter Try.func17, Try.ntmps17
        go_wp2
        go_ret2
        exact ⟨ret2 Hw.out rfl, rfl⟩

/-! ### The reference's product: doubling -/
/-- where the loop stands: n + a b is the product, n and a of one sign, all int64; or it is known that the product is none -/
def MR (A B n a b : Int) (i : Nat) (ok : Bool) : Prop :=
  i ≤ 63 ∧ 0 ≤ b ∧ b * (2 ^ i : Nat) < 9223372036854775808 ∧ is64 n = true ∧ is64 a = true ∧
    (if ok then n + a * b = A * B ∧ ((0 ≤ n ∧ 0 ≤ a) ∨ (n ≤ 0 ∧ a ≤ 0)) else is64 (A * B) = false)
theorem mr_start {A B : Int} (hA : is64 A = true) (hB : 0 ≤ B) (hB' : B ≤ 9223372036854775807) : MR A B 0 A B 0 true :=
  ⟨by decide, hB, by simp; omega, by decide, hA, by simp; omega⟩
theorem mr_b {A B n a b : Int} {i : Nat} {ok : Bool} (h : MR A B n a b i ok) : 0 ≤ b ∧ b ≤ 9223372036854775807 := by
  obtain ⟨h1, h2, h3, -⟩ := h
  have hp := Nat.two_pow_pos i
  have : b * 1 ≤ b * (2 ^ i : Nat) := Int.mul_le_mul_of_nonneg_left (by omega) h2
  omega
theorem mr_i {A B n a b : Int} {i : Nat} {ok : Bool} (h : MR A B n a b i ok) (hb : 0 < b) : i < 63 := by
  obtain ⟨h1, h2, h3, -⟩ := h
  apply Nat.lt_of_not_le; intro hc
  have e : i = 63 := by omega
  subst e
  have : (2 ^ 63 : Nat) = 9223372036854775808 := by decide
  rw [this] at h3
  omega
theorem mr_half {b : Int} {i : Nat} (h3 : b * (2 ^ i : Nat) < 9223372036854775808) : b / 2 * (2 ^ (i + 1) : Nat) < 9223372036854775808 := by
  rw [Nat.pow_succ]
  have hp := Nat.two_pow_pos i
  generalize 2 ^ i = p at *
  have h4 : b / 2 * 2 ≤ b := by omega
  have h5 : (b / 2 * 2) * (p : Int) ≤ b * p := Int.mul_le_mul_of_nonneg_right h4 (by omega)
  have h6 : b / 2 * ((p * 2 : Nat) : Int) = b / 2 * 2 * (p : Int) := by rw [Int.natCast_mul, Int.mul_comm (p : Int), ← Int.mul_assoc]; rfl
  rw [h6]; omega
theorem odd_split {a b : Int} (h : b % 2 = 1) : a * b = a + (a + a) * (b / 2) := by
  have : b = 1 + 2 * (b / 2) := by omega
  conv => lhs; rw [this]
  rw [Int.mul_add, Int.mul_one, ← Int.mul_assoc, Int.mul_comm a 2, Int.two_mul]
theorem even_split {a b : Int} (h : b % 2 = 0) : a * b = (a + a) * (b / 2) := by
  have : b = 2 * (b / 2) := by omega
  conv => lhs; rw [this]
  rw [← Int.mul_assoc, Int.mul_comm a 2, Int.two_mul]
theorem same_sign {n a c : Int} (h : (0 ≤ n ∧ 0 ≤ a) ∨ (n ≤ 0 ∧ a ≤ 0)) (hc : 0 ≤ c) : (0 ≤ n ∧ 0 ≤ a ∧ 0 ≤ a * c) ∨ (n ≤ 0 ∧ a ≤ 0 ∧ a * c ≤ 0) := by
  rcases h with ⟨x, y⟩ | ⟨x, y⟩
  · exact Or.inl ⟨x, y, Int.mul_nonneg y hc⟩
  · exact Or.inr ⟨x, y, Int.mul_nonpos_of_nonpos_of_nonneg y hc⟩
theorem mr_odd_no {A B n a b : Int} {i : Nat} (h : MR A B n a b i true) (hb : 0 < b) (ho : b % 2 = 1) (hf : is64 (n + a) = false) : MR A B (wrap64 (n + a)) a (b / 2) (i + 1) false := by
  have hi := mr_i h hb
  obtain ⟨h1, h2, h3, h4, h5, h6, h7⟩ := h
  refine ⟨by omega, by omega, mr_half h3, wrap64_is _, h5, ?_⟩
  rw [if_neg (by simp), ← h6, odd_split ho]
  have hs := same_sign (n := n) (a := a + a) (c := b / 2) (by omega) (by omega)
  have := is64_no.1 hf
  generalize (a + a) * (b / 2) = t at *
  exact is64_no.2 (by omega)
theorem mr_odd_last {A B n a b : Int} {i : Nat} (h : MR A B n a b i true) (hb : 0 < b) (ho : b % 2 = 1) (hf : is64 (n + a) = true) (hz : b / 2 = 0) : MR A B (n + a) a (b / 2) (i + 1) true := by
  have hi := mr_i h hb
  obtain ⟨h1, h2, h3, h4, h5, h6, h7⟩ := h
  refine ⟨by omega, by omega, mr_half h3, hf, h5, ?_⟩
  rw [if_pos rfl, ← h6, odd_split ho, hz]
  simp; omega
theorem mr_odd_yes {A B n a b : Int} {i : Nat} (h : MR A B n a b i true) (hb : 0 < b) (ho : b % 2 = 1) (hf : is64 (n + a) = true) (hg : is64 (a + a) = true) : MR A B (n + a) (a + a) (b / 2) (i + 1) true := by
  have hi := mr_i h hb
  obtain ⟨h1, h2, h3, h4, h5, h6, h7⟩ := h
  refine ⟨by omega, by omega, mr_half h3, hf, hg, ?_⟩
  rw [if_pos rfl, ← h6, odd_split ho]
  generalize (a + a) * (b / 2) = t at *
  omega
theorem mr_odd_over {A B n a b : Int} {i : Nat} (h : MR A B n a b i true) (hb : 0 < b) (ho : b % 2 = 1) (hf : is64 (n + a) = true) (hz : 0 < b / 2) (hg : is64 (a + a) = false) : MR A B (n + a) (wrap64 (a + a)) (b / 2) (i + 1) false := by
  have hi := mr_i h hb
  obtain ⟨h1, h2, h3, h4, h5, h6, h7⟩ := h
  refine ⟨by omega, by omega, mr_half h3, hf, wrap64_is _, ?_⟩
  rw [if_neg (by simp), ← h6, odd_split ho]
  have hs := same_sign (n := n) (a := a + a) (c := b / 2 - 1) (by omega) (by omega)
  have := is64_no.1 hg
  have e : (a + a) * (b / 2) = (a + a) + (a + a) * (b / 2 - 1) := by rw [Int.mul_sub]; omega
  rw [e]
  generalize (a + a) * (b / 2 - 1) = t at *
  exact is64_no.2 (by omega)
theorem mr_even_yes {A B n a b : Int} {i : Nat} (h : MR A B n a b i true) (hb : 0 < b) (ho : b % 2 = 0) (hg : is64 (a + a) = true) : MR A B n (a + a) (b / 2) (i + 1) true := by
  have hi := mr_i h hb
  obtain ⟨h1, h2, h3, h4, h5, h6, h7⟩ := h
  refine ⟨by omega, by omega, mr_half h3, h4, hg, ?_⟩
  rw [if_pos rfl, ← h6, even_split ho]
  generalize (a + a) * (b / 2) = t at *
  omega
theorem mr_even_over {A B n a b : Int} {i : Nat} (h : MR A B n a b i true) (hb : 0 < b) (ho : b % 2 = 0) (hg : is64 (a + a) = false) : MR A B n (wrap64 (a + a)) (b / 2) (i + 1) false := by
  have hi := mr_i h hb
  obtain ⟨h1, h2, h3, h4, h5, h6, h7⟩ := h
  refine ⟨by omega, by omega, mr_half h3, h4, wrap64_is _, ?_⟩
  rw [if_neg (by simp), ← h6, even_split ho]
  have hs := same_sign (n := n) (a := a + a) (c := b / 2 - 1) (by omega) (by omega)
  have := is64_no.1 hg
  have e : (a + a) * (b / 2) = (a + a) + (a + a) * (b / 2 - 1) := by rw [Int.mul_sub]; omega
  rw [e]
  generalize (a + a) * (b / 2 - 1) = t at *
  exact is64_no.2 (by omega)
theorem mr_end_no {A B n a b : Int} {i : Nat} (h : MR A B n a b i false) : is64 (A * B) = false := h.2.2.2.2.2
theorem mr_end_yes {A B n a b : Int} {i : Nat} (h : MR A B n a b i true) (hb : ¬ 0 < b) : is64 (A * B) = true ∧ n = A * B := by
  obtain ⟨h1, h2, h3, h4, h5, h6, h7⟩ := h
  have : b = 0 := by omega
  subst this
  rw [Int.mul_zero, Int.add_zero] at h6
  subst h6
  exact ⟨h4, rfl⟩


set_option maxHeartbeats 2000000 in
theorem rmul_any (a b : Int) (w : World) (ha : is64 a = true) (hb : is64 b = true) :
    Calls Try.prog 18 #[.int .i64 a, .int .i64 b] w fun e w' => e = .returned (.tuple #[.int .i64 (cut64 (a * b)), .bool (is64 (a * b))]) ∧ w = w' := by
  by_cases hbm : b = -9223372036854775808
  · have tb : (b == -9223372036854775808) = true := by simpa using hbm
    subst hbm
    by_cases h0 : a = 0
    · subst h0
      have e1 : cut64 (0 * -9223372036854775808) = 0 := by decide
      have e2 : is64 (0 * -9223372036854775808) = true := by decide
      rw [e1, e2]; clear e1 e2 ha hb tb
      go_enter Try.func18, Try.ntmps18
      go_wp2
      go_ret2
      exact ⟨rfl, rfl⟩
    · by_cases h1 : a = 1
      · subst h1
        have e1 : cut64 (1 * -9223372036854775808) = -9223372036854775808 := by decide
        have e2 : is64 (1 * -9223372036854775808) = true := by decide
        rw [e1, e2]; clear e1 e2 ha hb tb h0
        go_enter Try.func18, Try.ntmps18
        go_wp2
        go_ret2
        exact ⟨rfl, rfl⟩
      · have e2 : is64 (a * -9223372036854775808) = false := is64_no.2 (by omega)
        have t0 : (a == 0) = false := by simpa using h0
        have t1 : (a == 1) = false := by simpa using h1
        rw [cut_no e2, e2]; clear e2 ha hb tb h0 h1
        go_enter Try.func18, Try.ntmps18
        go_wp2
        go_ret2
        exact ⟨rfl, rfl⟩
  · have tb : (b == -9223372036854775808) = false := by simpa using hbm
    by_cases ham : a = -9223372036854775808
    · have ta : (a == -9223372036854775808) = true := by simpa using ham
      subst ham
      by_cases h0 : b = 0
      · subst h0
        have e1 : cut64 (-9223372036854775808 * 0) = 0 := by decide
        have e2 : is64 (-9223372036854775808 * 0) = true := by decide
        rw [e1, e2]; clear e1 e2 ha hb tb ta hbm
        go_enter Try.func18, Try.ntmps18
        go_wp2
        go_ret2
        exact ⟨rfl, rfl⟩
      · by_cases h1 : b = 1
        · subst h1
          have e1 : cut64 (-9223372036854775808 * 1) = -9223372036854775808 := by decide
          have e2 : is64 (-9223372036854775808 * 1) = true := by decide
          rw [e1, e2]; clear e1 e2 ha hb tb ta h0 hbm
          go_enter Try.func18, Try.ntmps18
          go_wp2
          go_ret2
          exact ⟨rfl, rfl⟩
        · have e2 : is64 (-9223372036854775808 * b) = false := is64_no.2 (by omega)
          have t0 : (b == 0) = false := by simpa using h0
          have t1 : (b == 1) = false := by simpa using h1
          rw [cut_no e2, e2]; clear e2 ha hb ta h0 h1 hbm
          go_enter Try.func18, Try.ntmps18
          go_wp2
          go_ret2
          exact ⟨rfl, rfl⟩
    · have ta : (a == -9223372036854775808) = false := by simpa using ham
      obtain ⟨a1, a2⟩ := is64_iff.1 ha
      obtain ⟨b1, b2⟩ := is64_iff.1 hb
      by_cases hs : b < 0
      · have st : MR (-a) (-b) 0 (-a) (-b) 0 true := mr_start (is64_iff.2 (by omega)) (by omega) (by omega)
        have ep : (-a) * (-b) = a * b := Int.neg_mul_neg a b
        have St := Lib.hid st; have Ep := Lib.hid ep
        have ht : decide (b < 0) = true := by simpa using hs
        have a1' : -9223372036854775807 ≤ a := by omega
        have b1' : -9223372036854775807 ≤ b := by omega
        clear st ep ha hb hs hbm ham a1 b1
        go_enter Try.func18, Try.ntmps18
        go_wp2
        clear ht ta tb a1' b1' a2 b2
        go_loop [0, 1, 6, 7, 8] (fun va vb vn vo vi => ∃ (x y n : Int) (i : Nat) (ok : Bool), MR (-a) (-b) n x y i ok ∧ va = .int .i64 x ∧ vb = .int .i64 y ∧ vn = .int .i64 n ∧ vo = .bool ok ∧ vi = .int .i64 i) (fun _ vb _ _ _ => (intOf vb).toNat)
        case atStart => exact ⟨_, _, _, 0, _, St.out, rfl, rfl, rfl, rfl, rfl⟩
        case round =>
          obtain ⟨x, y, n, i, ok, hm, rfl, rfl, rfl, rfl, rfl⟩ := hrel
          obtain ⟨y1, y2⟩ := mr_b hm
          obtain ⟨x1, x2⟩ := is64_iff.1 hm.2.2.2.2.1
          obtain ⟨n1, n2⟩ := is64_iff.1 hm.2.2.2.1
          have Hx := Lib.hid hm.2.2.2.2.1; have Hn := Lib.hid hm.2.2.2.1
          by_cases hy : 0 < y
          · have hi := mr_i hm hy
            rcases ok with _ | _
            · have hz := mr_end_no hm
              rw [Ep.out] at hz
              have Hz := Lib.hid hz
              clear hm hz
              go_wp2
              go_ret2
              exact ⟨ret2 (cut_no Hz.out).symm Hz.out.symm, rfl⟩
            · have hlt : y / 2 < y := by omega
              have Hlt := Lib.hid hlt; clear hlt
              rcases Int.emod_two_eq y with ho | ho
              · have to : (y % 2 == 1) = false := by rw [ho]; rfl
                have hz : 0 < y / 2 := by omega
                rcases hg : is64 (x + x) with _ | _
                · have hr := Lib.hid (mr_even_over hm hy ho hg)
                  have Hg := Lib.hid hg
                  clear hm ho hg
                  go_wp2_with (go_at_call 16; refine (fits_add _ _ _ Hx.out Hx.out).mono ?_; rw [Hg.out]; rintro e w' ⟨rfl, rfl⟩)
                  go_round
                  case rel => exact ⟨_, _, _, i + 1, _, hr.out, rfl, rfl, rfl, rfl, by go_num⟩
                  case measure => have := Hlt.out; simp [intOf]; omega
                · have hr := Lib.hid (mr_even_yes hm hy ho hg)
                  have Hg := Lib.hid hg
                  obtain ⟨g1, g2⟩ := is64_iff.1 hg
                  clear hm ho hg
                  go_wp2_with (go_at_call 16; refine (fits_add _ _ _ Hx.out Hx.out).mono ?_; rw [Hg.out]; rintro e w' ⟨rfl, rfl⟩)
                  go_round
                  case rel => exact ⟨_, _, _, i + 1, _, hr.out, rfl, rfl, rfl, rfl, by go_num⟩
                  case measure => have := Hlt.out; simp [intOf]; omega
              · have to : (y % 2 == 1) = true := by rw [ho]; rfl
                rcases hf : is64 (n + x) with _ | _
                · have hr := Lib.hid (mr_odd_no hm hy ho hf)
                  have Hf := Lib.hid hf
                  clear hm ho hf
                  by_cases hz : 0 < y / 2
                  all_goals
                    go_wp2_with (go_at_call 16; refine (fits_add _ _ _ Hn.out Hx.out).mono ?_; rw [Hf.out]; rintro e w' ⟨rfl, rfl⟩)
                    go_round
                    case rel => exact ⟨_, _, _, i + 1, _, hr.out, rfl, rfl, rfl, rfl, by go_num⟩
                    case measure => have := Hlt.out; simp [intOf]; omega
                · obtain ⟨f1, f2⟩ := is64_iff.1 hf
                  by_cases hz : 0 < y / 2
                  · rcases hg : is64 (x + x) with _ | _
                    · have hr := Lib.hid (mr_odd_over hm hy ho hf hz hg)
                      have Hg := Lib.hid hg
                      have Hf := Lib.hid hf
                      clear hm ho hg hf
                      go_wp2_with fail
                      refine (fits_add _ _ _ Hn.out Hx.out).mono ?_
                      rw [Hf.out]
                      rintro e w' ⟨rfl, rfl⟩
                      go_wp2_with fail
                      refine (fits_add _ _ _ Hx.out Hx.out).mono ?_
                      rw [Hg.out]
                      rintro e w' ⟨rfl, rfl⟩
                      go_wp2
                      go_round
                      case rel => exact ⟨_, _, _, i + 1, _, hr.out, rfl, rfl, rfl, rfl, by go_num⟩
                      case measure => have := Hlt.out; simp [intOf]; omega
                    · have hr := Lib.hid (mr_odd_yes hm hy ho hf hg)
                      obtain ⟨g1, g2⟩ := is64_iff.1 hg
                      have Hg := Lib.hid hg
                      have Hf := Lib.hid hf
                      clear hm ho hg hf
                      go_wp2_with fail
                      refine (fits_add _ _ _ Hn.out Hx.out).mono ?_
                      rw [Hf.out]
                      rintro e w' ⟨rfl, rfl⟩
                      go_wp2_with fail
                      refine (fits_add _ _ _ Hx.out Hx.out).mono ?_
                      rw [Hg.out]
                      rintro e w' ⟨rfl, rfl⟩
                      go_wp2
                      go_round
                      case rel => exact ⟨_, _, _, i + 1, _, hr.out, rfl, rfl, rfl, rfl, by go_num⟩
                      case measure => have := Hlt.out; simp [intOf]; omega
                  · have hr := Lib.hid (mr_odd_last hm hy ho hf (by omega))
                    have Hf := Lib.hid hf
                    clear hm ho hf
                    go_wp2_with (go_at_call 16; refine (fits_add _ _ _ Hn.out Hx.out).mono ?_; rw [Hf.out]; rintro e w' ⟨rfl, rfl⟩)
                    go_round
                    case rel => exact ⟨_, _, _, i + 1, _, hr.out, rfl, rfl, rfl, rfl, by go_num⟩
                    case measure => have := Hlt.out; simp [intOf]; omega
          · have hi : i ≤ 63 := hm.1
            rcases ok with _ | _
            · have hz := mr_end_no hm
              rw [Ep.out] at hz
              have Hz := Lib.hid hz
              clear hm hz
              go_wp2
              go_ret2
              exact ⟨ret2 (cut_no Hz.out).symm Hz.out.symm, rfl⟩
            · obtain ⟨hz, hn⟩ := mr_end_yes hm hy
              rw [Ep.out] at hz hn
              have Hz := Lib.hid hz; have HN := Lib.hid hn
              clear hm hz hn
              go_wp2
              go_ret2
              exact ⟨ret2 (HN.out.trans (cut_yes Hz.out).symm) Hz.out.symm, rfl⟩
      · have st : MR a b 0 a b 0 true := mr_start ha (by omega) (by omega)
        have St := Lib.hid st
        have ht : decide (b < 0) = false := by simpa using hs
        clear st ha hb hs hbm ham a1 a2 b1 b2
        go_enter Try.func18, Try.ntmps18
        go_wp2
        clear ht ta tb
        go_loop [0, 1, 6, 7, 8] (fun va vb vn vo vi => ∃ (x y n : Int) (i : Nat) (ok : Bool), MR (a) (b) n x y i ok ∧ va = .int .i64 x ∧ vb = .int .i64 y ∧ vn = .int .i64 n ∧ vo = .bool ok ∧ vi = .int .i64 i) (fun _ vb _ _ _ => (intOf vb).toNat)
        case atStart => exact ⟨_, _, _, 0, _, St.out, rfl, rfl, rfl, rfl, rfl⟩
        case round =>
          obtain ⟨x, y, n, i, ok, hm, rfl, rfl, rfl, rfl, rfl⟩ := hrel
          obtain ⟨y1, y2⟩ := mr_b hm
          obtain ⟨x1, x2⟩ := is64_iff.1 hm.2.2.2.2.1
          obtain ⟨n1, n2⟩ := is64_iff.1 hm.2.2.2.1
          have Hx := Lib.hid hm.2.2.2.2.1; have Hn := Lib.hid hm.2.2.2.1
          by_cases hy : 0 < y
          · have hi := mr_i hm hy
            rcases ok with _ | _
            · have hz := mr_end_no hm
              have Hz := Lib.hid hz
              clear hm hz
              go_wp2
              go_ret2
              exact ⟨ret2 (cut_no Hz.out).symm Hz.out.symm, rfl⟩
            · have hlt : y / 2 < y := by omega
              have Hlt := Lib.hid hlt; clear hlt
              rcases Int.emod_two_eq y with ho | ho
              · have to : (y % 2 == 1) = false := by rw [ho]; rfl
                have hz : 0 < y / 2 := by omega
                rcases hg : is64 (x + x) with _ | _
                · have hr := Lib.hid (mr_even_over hm hy ho hg)
                  have Hg := Lib.hid hg
                  clear hm ho hg
                  go_wp2_with (go_at_call 16; refine (fits_add _ _ _ Hx.out Hx.out).mono ?_; rw [Hg.out]; rintro e w' ⟨rfl, rfl⟩)
                  go_round
                  case rel => exact ⟨_, _, _, i + 1, _, hr.out, rfl, rfl, rfl, rfl, by go_num⟩
                  case measure => have := Hlt.out; simp [intOf]; omega
                · have hr := Lib.hid (mr_even_yes hm hy ho hg)
                  have Hg := Lib.hid hg
                  obtain ⟨g1, g2⟩ := is64_iff.1 hg
                  clear hm ho hg
                  go_wp2_with (go_at_call 16; refine (fits_add _ _ _ Hx.out Hx.out).mono ?_; rw [Hg.out]; rintro e w' ⟨rfl, rfl⟩)
                  go_round
                  case rel => exact ⟨_, _, _, i + 1, _, hr.out, rfl, rfl, rfl, rfl, by go_num⟩
                  case measure => have := Hlt.out; simp [intOf]; omega
              · have to : (y % 2 == 1) = true := by rw [ho]; rfl
                rcases hf : is64 (n + x) with _ | _
                · have hr := Lib.hid (mr_odd_no hm hy ho hf)
                  have Hf := Lib.hid hf
                  clear hm ho hf
                  by_cases hz : 0 < y / 2
                  all_goals
                    go_wp2_with (go_at_call 16; refine (fits_add _ _ _ Hn.out Hx.out).mono ?_; rw [Hf.out]; rintro e w' ⟨rfl, rfl⟩)
                    go_round
                    case rel => exact ⟨_, _, _, i + 1, _, hr.out, rfl, rfl, rfl, rfl, by go_num⟩
                    case measure => have := Hlt.out; simp [intOf]; omega
                · obtain ⟨f1, f2⟩ := is64_iff.1 hf
                  by_cases hz : 0 < y / 2
                  · rcases hg : is64 (x + x) with _ | _
                    · have hr := Lib.hid (mr_odd_over hm hy ho hf hz hg)
                      have Hg := Lib.hid hg
                      have Hf := Lib.hid hf
                      clear hm ho hg hf
                      go_wp2_with fail
                      refine (fits_add _ _ _ Hn.out Hx.out).mono ?_
                      rw [Hf.out]
                      rintro e w' ⟨rfl, rfl⟩
                      go_wp2_with fail
                      refine (fits_add _ _ _ Hx.out Hx.out).mono ?_
                      rw [Hg.out]
                      rintro e w' ⟨rfl, rfl⟩
                      go_wp2
                      go_round
                      case rel => exact ⟨_, _, _, i + 1, _, hr.out, rfl, rfl, rfl, rfl, by go_num⟩
                      case measure => have := Hlt.out; simp [intOf]; omega
                    · have hr := Lib.hid (mr_odd_yes hm hy ho hf hg)
                      obtain ⟨g1, g2⟩ := is64_iff.1 hg
                      have Hg := Lib.hid hg
                      have Hf := Lib.hid hf
                      clear hm ho hg hf
                      go_wp2_with fail
                      refine (fits_add _ _ _ Hn.out Hx.out).mono ?_
                      rw [Hf.out]
                      rintro e w' ⟨rfl, rfl⟩
                      go_wp2_with fail
                      refine (fits_add _ _ _ Hx.out Hx.out).mono ?_
                      rw [Hg.out]
                      rintro e w' ⟨rfl, rfl⟩
                      go_wp2
                      go_round
                      case rel => exact ⟨_, _, _, i + 1, _, hr.out, rfl, rfl, rfl, rfl, by go_num⟩
                      case measure => have := Hlt.out; simp [intOf]; omega
                  · have hr := Lib.hid (mr_odd_last hm hy ho hf (by omega))
                    have Hf := Lib.hid hf
                    clear hm ho hf
                    go_wp2_with (go_at_call 16; refine (fits_add _ _ _ Hn.out Hx.out).mono ?_; rw [Hf.out]; rintro e w' ⟨rfl, rfl⟩)
                    go_round
                    case rel => exact ⟨_, _, _, i + 1, _, hr.out, rfl, rfl, rfl, rfl, by go_num⟩
                    case measure => have := Hlt.out; simp [intOf]; omega
          · have hi : i ≤ 63 := hm.1
            rcases ok with _ | _
            · have hz := mr_end_no hm
              have Hz := Lib.hid hz
              clear hm hz
              go_wp2
              go_ret2
              exact ⟨ret2 (cut_no Hz.out).symm Hz.out.symm, rfl⟩
            · obtain ⟨hz, hn⟩ := mr_end_yes hm hy
              have Hz := Lib.hid hz; have HN := Lib.hid hn
              clear hm hz hn
              go_wp2
              go_ret2
              exact ⟨ret2 (HN.out.trans (cut_yes Hz.out).symm) Hz.out.symm, rfl⟩


theorem muls_any (a b : Int) (w : World) (ha : is64 a = true) (hb : is64 b = true) :
    Calls Try.prog 4 #[.int .i64 a, .int .i64 b] w fun e w' => e = .returned (.bool true) ∧ w = w' := by
  have e := Int.mul_comm b a
  have Ha := Lib.hid ha; have Hb := Lib.hid hb; have E := Lib.hid e
  clear ha hb e
  go_enter Try.func4, Try.ntmps4
  go_wp2_with fail
  refine (mul_any _ _ _ Ha.out Hb.out).mono ?_
  rintro e w' ⟨rfl, rfl⟩
  go_wp2_with fail
  refine (mul_any _ _ _ Hb.out Ha.out).mono ?_
  rw [E.out]
  rintro e w' ⟨rfl, rfl⟩
  go_wp2_with fail
  refine (rmul_any _ _ _ Ha.out Hb.out).mono ?_
  rintro e w' ⟨rfl, rfl⟩
  go_wp2_with fail
  refine (awake_any _).mono ?_
  rintro e w' ⟨rfl, rfl⟩
  go_wp2
  go_ret
  exact ⟨rfl, rfl⟩
end Go.Proofs.Ytmkgjammkjmooaa
