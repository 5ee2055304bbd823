/- contracts of the reference's Split and Mix -/
import Derived.Test.YtnehbpfgdeilhaaGreatDoorNumS
import Derived.Test.YtnehbpfgdeilhaaGreatDoorRefB
namespace Go.Proofs.YtnehbpfgdeilhaaGreatDoor
open Go.ChangeShapes Go.WideShapes Go.ChangeAt Go.RowKit Go.Fl

/-- n halved k times, downwards -/
def hv (n : Int) (k : Nat) : Int := n / ((2 ^ k : Nat) : Int)

theorem hv_zero (n : Int) : hv n 0 = n := by unfold hv; simp

theorem hv_succ (n : Int) (k : Nat) : hv n k / 2 = hv n (k + 1) := by
  unfold hv
  rw [Int.ediv_ediv_of_nonneg (Int.le_of_lt (two_pos k)), Nat.pow_succ]; rfl

theorem hv_end {n : Int} {k : Nat} (hk : k ≤ sh n) (h : (hv n k).natAbs ≤ 9007199254740992) : hv n k * ((2 ^ k : Nat) : Int) = flo n := flo_halved hk h

theorem hv_top (n : Int) : (hv n (sh n)).natAbs ≤ 9007199254740992 := quo_le n

theorem split_facts {n : Int} {k : Nat} (n1 : -9223372036854775808 ≤ n) (n2 : n ≤ 9223372036854775807) (hk : k ≤ sh n) (h : (hv n k).natAbs ≤ 9007199254740992) :
    floatBits .mul .f64 (floatOfInt .f64 (hv n k)) (floatOfInt .f64 (wrap64 ((2 : Int) ^ k))) = some (fw (flo n)) ∧ wrap64 (n - wrap64 (hv n k * (2 : Int) ^ k)) = n - flo n := by
  have he := hv_end hk h
  have hm : Fit (hv n k) := fit_small _ h
  have hk11 : k ≤ 11 := Nat.le_trans hk (sh_le n1 n2)
  have hpw : (2 : Int) ^ k = ((2 ^ k : Nat) : Int) := by simp
  have hp1 := two_pos k
  have hp2 : 2 ^ k ≤ 2 ^ 11 := Nat.pow_le_pow_right (by decide) hk11
  have hp3 : (2 : Nat) ^ 11 = 2048 := by decide
  rw [hp3] at hp2
  have hfl := flo_range n1 n2
  have hov := over_range n1 n2
  have hfit := flo_fit n1 n2
  rw [hpw]
  generalize 2 ^ k = p at *
  have hw2 : wrap64 (p : Int) = (p : Int) := wrap64_id (is64_iff.2 (by omega))
  rw [hw2, he, wrap64_id (is64_iff.2 hfl), wrap64_id (is64_iff.2 (by omega))]
  refine ⟨?_, rfl⟩
  have hq := floatBits_mul hm (fit_small (p : Int) (by omega)) (by rw [he]; exact hfit) hp1
  rw [he] at hq
  exact hq

end Go.Proofs.YtnehbpfgdeilhaaGreatDoor
