/- is a key in a span; the key above one -/
import Derived.Test.YtmhpgbhmhbldfaaTrS2
namespace Go.Proofs.Ytmhpgbhmhbldfaa
open Go.ChangeShapes Go.WideShapes Go.ChangeAt Go.RowKit Go.Shelf

theorem size_list (s : ByteArray) : s.toList.length = s.size := by rw [Lib.toList_data]; simp

theorem in_c (lo hi k : ByteArray) (w : World) : Calls Try.prog 10 #[.agg #[.string lo, .string hi], .string k] w fun e w' => e = .returned (.bool (inS lo hi k)) ∧ Below w.heap.size w w' := by
  have hb : Below w.heap.size w (w.alloc (.cells #[.string lo, .string hi] 34)) := (Below.refl _ _).alloc (Nat.le_refl _) _
  have hs := size_list hi
  have HB := Lib.hid hb
  by_cases hE : hi.toList = []
  · have h2 : (hi.size == 0) = true := by rw [← hs, hE]; rfl
    obtain ⟨z1, h1⟩ : ∃ z, ltS k lo = z := ⟨_, rfl⟩
    have HR : Hid (inS lo hi k = !z1) := Lib.hid (by unfold inS; rw [h1, h2]; simp)
    rw [HR.out]
    unfold ltS at h1
    clear hb h2 hs
    go_enter Try.func10, Try.ntmps10
    cases z1 <;> (go_wp2_with fail)
    all_goals
      go_ret
      exact ⟨rfl, HB.out⟩
  · have h2 : (hi.size == 0) = false := by
      have : hi.toList.length ≠ 0 := fun e => hE (List.length_eq_zero_iff.1 e)
      rw [hs] at this
      simpa using this
    have hE2 : hi.toList.isEmpty = false := by simpa using hE
    obtain ⟨z1, h1⟩ : ∃ z, ltS k lo = z := ⟨_, rfl⟩
    obtain ⟨z3, h3⟩ : ∃ z, ltS k hi = z := ⟨_, rfl⟩
    have HR : Hid (inS lo hi k = (!z1 && z3)) := Lib.hid (by unfold inS; rw [h1, h2, h3]; simp)
    rw [HR.out]
    unfold ltS at h1 h3
    clear hb h2 hs
    go_enter Try.func10, Try.ntmps10
    cases z1 <;> cases z3 <;> (go_wp2_with fail)
    all_goals
      go_ret
      exact ⟨rfl, HB.out⟩

theorem above_c (k : ByteArray) (w : World) (hk : k.size ≤ 1000000) : Calls Try.prog 38 #[.string k] w fun e w' => e = .returned (.string (aboveS k)) ∧ Below w.heap.size w w' := by
  go_enter Try.func38, Try.ntmps38
  go_wp2_with fail
  go_ret
  exact ⟨rfl, Below.refl _ _⟩

end Go.Proofs.Ytmhpgbhmhbldfaa
