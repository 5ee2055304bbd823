/- The int64 part of layer 1: contracts of num.Add, num.Sub, num.Mul and of the reference's Fits. -/
import Derived.Test.YtmkgjammkjmooaaRows
import Derived.WalkKit
import Derived.WalkLawsBesides
import Derived.ProofKit
import Derived.OpenShut
import Derived.Outline
import Derived.Lib.Hide
namespace Go.Proofs.Ytmkgjammkjmooaa
open Go.ChangeShapes Go.WideShapes Go.ChangeAt Go.RowKit

/-- an int64 -/
def is64 (n : Int) : Bool := decide (-9223372036854775808 ≤ n) && decide (n ≤ 9223372036854775807)
/-- it, or 0 -/
def cut64 (n : Int) : Int := if is64 n then n else 0
theorem is64_yes {n : Int} (h1 : -9223372036854775808 ≤ n) (h2 : n ≤ 9223372036854775807) : is64 n = true := by simp [is64, h1, h2]
theorem is64_iff {n : Int} : is64 n = true ↔ -9223372036854775808 ≤ n ∧ n ≤ 9223372036854775807 := by simp [is64]
theorem is64_no {n : Int} : is64 n = false ↔ ¬ (-9223372036854775808 ≤ n ∧ n ≤ 9223372036854775807) := by
  rw [← is64_iff]; simp
theorem wrap64_is (n : Int) : is64 (wrap64 n) = true := by unfold is64 wrap64; simp; omega
theorem wrap64_id {n : Int} (h : is64 n = true) : wrap64 n = n := by obtain ⟨x, y⟩ := is64_iff.1 h; unfold wrap64; omega
theorem is64_wf {a : Int} (h : (Lit.int .i64 a).wf = true) : is64 a = true := by
  have e1 : IntKind.i64.min = -9223372036854775808 := by decide
  have e2 : IntKind.i64.max = 9223372036854775807 := by decide
  simpa [Lit.wf, is64, e1, e2] using h
theorem f64_wf {b : Nat} (h : (Lit.float .f64 b).wf = true) : b < 18446744073709551616 := by simpa [Lit.wf] using h
theorem still {P : Program} {f : FuncId} {args : Array Value} {w : World} (h : Calls P f args w fun e w' => e = .returned (.bool true) ∧ w = w') :
    Calls P f args w fun e w' => e = .returned (.bool true) ∧ Grown w w' := h.mono fun _ _ ⟨x, y⟩ => ⟨x, y ▸ Grown.refl _⟩
theorem ret2 {a b : Int} {c d : Bool} (h : a = b) (h' : c = d) : Ending.returned (.tuple #[.int .i64 a, .bool c]) = .returned (.tuple #[.int .i64 b, .bool d]) := by rw [h, h']
theorem ret1b {c d : Bool} (h : c = d) : Ending.returned (.bool c) = .returned (.bool d) := by rw [h]


theorem add_any (a b : Int) (w : World) (ha : is64 a = true) (hb : is64 b = true) :
    Calls Try.prog 13 #[.int .i64 a, .int .i64 b] w fun e w' => e = .returned (.tuple #[.int .i64 (cut64 (a + b)), .bool (is64 (a + b))]) ∧ w = w' := by
  obtain ⟨ha1, ha2⟩ := is64_iff.1 ha; obtain ⟨hb1, hb2⟩ := is64_iff.1 hb
  clear ha hb
  rcases h : is64 (a + b) with _ | _
  · have hc : cut64 (a + b) = 0 := by simp [cut64, h]
    have h' := is64_no.1 h
    rw [hc]; clear hc h
    by_cases hb0 : b < 0
    · have ht : decide (wrap64 (a + b) < a) = false := by simp; unfold wrap64; omega
      have hb' : decide (b < 0) = true := by simpa using hb0
      go_enter Try.func13, Try.ntmps13
      go_wp2
      go_ret2
      exact ⟨rfl, rfl⟩
    · have ht : decide (wrap64 (a + b) < a) = true := by simp; unfold wrap64; omega
      have hb' : decide (b < 0) = false := by simpa using hb0
      go_enter Try.func13, Try.ntmps13
      go_wp2
      go_ret2
      exact ⟨rfl, rfl⟩
  · obtain ⟨h1, h2⟩ := is64_iff.1 h
    have hc : cut64 (a + b) = a + b := by simp [cut64, h]
    rw [hc]; clear hc h
    by_cases hb0 : b < 0
    · have ht : decide (a + b < a) = true := by simp; omega
      have hb' : decide (b < 0) = true := by simpa using hb0
      go_enter Try.func13, Try.ntmps13
      go_wp2
      go_ret2
      exact ⟨rfl, rfl⟩
    · have ht : decide (a + b < a) = false := by simp; omega
      have hb' : decide (b < 0) = false := by simpa using hb0
      go_enter Try.func13, Try.ntmps13
      go_wp2
      go_ret2
      exact ⟨rfl, rfl⟩

theorem sub_any (a b : Int) (w : World) (ha : is64 a = true) (hb : is64 b = true) :
    Calls Try.prog 14 #[.int .i64 a, .int .i64 b] w fun e w' => e = .returned (.tuple #[.int .i64 (cut64 (a - b)), .bool (is64 (a - b))]) ∧ w = w' := by
  obtain ⟨ha1, ha2⟩ := is64_iff.1 ha; obtain ⟨hb1, hb2⟩ := is64_iff.1 hb
  clear ha hb
  rcases h : is64 (a - b) with _ | _
  · have hc : cut64 (a - b) = 0 := by simp [cut64, h]
    have h' := is64_no.1 h
    rw [hc]; clear hc h
    by_cases hb0 : b < 0
    · have ht : decide (a < wrap64 (a - b)) = false := by simp; unfold wrap64; omega
      have hb' : decide (b < 0) = true := by simpa using hb0
      go_enter Try.func14, Try.ntmps14
      go_wp2
      go_ret2
      exact ⟨rfl, rfl⟩
    · have ht : decide (a < wrap64 (a - b)) = true := by simp; unfold wrap64; omega
      have hb' : decide (b < 0) = false := by simpa using hb0
      go_enter Try.func14, Try.ntmps14
      go_wp2
      go_ret2
      exact ⟨rfl, rfl⟩
  · obtain ⟨h1, h2⟩ := is64_iff.1 h
    have hc : cut64 (a - b) = a - b := by simp [cut64, h]
    rw [hc]; clear hc h
    by_cases hb0 : b < 0
    · have ht : decide (a < a - b) = true := by simp; omega
      have hb' : decide (b < 0) = true := by simpa using hb0
      go_enter Try.func14, Try.ntmps14
      go_wp2
      go_ret2
      exact ⟨rfl, rfl⟩
    · have ht : decide (a < a - b) = false := by simp; omega
      have hb' : decide (b < 0) = false := by simpa using hb0
      go_enter Try.func14, Try.ntmps14
      go_wp2
      go_ret2
      exact ⟨rfl, rfl⟩

theorem fits_add (a b : Int) (w : World) (ha : is64 a = true) (hb : is64 b = true) :
    Calls Try.prog 16 #[.int .i64 a, .int .i64 b, .bool false] w fun e w' => e = .returned (.bool (is64 (a + b))) ∧ w = w' := by
  obtain ⟨ha1, ha2⟩ := is64_iff.1 ha; obtain ⟨hb1, hb2⟩ := is64_iff.1 hb
  clear ha hb
  by_cases hb0 : 0 ≤ b
  · have e : is64 (a + b) = decide (a ≤ 9223372036854775807 - b) := by rw [Bool.eq_iff_iff, is64_iff]; simp; omega
    rw [e]; clear e
    go_enter Try.func16, Try.ntmps16
    go_wp2
    go_ret
    exact ⟨rfl, rfl⟩
  · have e : is64 (a + b) = decide (-9223372036854775808 - b ≤ a) := by rw [Bool.eq_iff_iff, is64_iff]; simp; omega
    rw [e]; clear e
    go_enter Try.func16, Try.ntmps16
    go_wp2
    go_ret
    exact ⟨rfl, rfl⟩

theorem fits_sub (a b : Int) (w : World) (ha : is64 a = true) (hb : is64 b = true) :
    Calls Try.prog 16 #[.int .i64 a, .int .i64 b, .bool true] w fun e w' => e = .returned (.bool (is64 (a - b))) ∧ w = w' := by
  obtain ⟨ha1, ha2⟩ := is64_iff.1 ha; obtain ⟨hb1, hb2⟩ := is64_iff.1 hb
  clear ha hb
  by_cases hb0 : 0 ≤ b
  · have e : is64 (a - b) = decide (-9223372036854775808 + b ≤ a) := by rw [Bool.eq_iff_iff, is64_iff]; simp; omega
    rw [e]; clear e
    go_enter Try.func16, Try.ntmps16
    go_wp2
    go_ret
    exact ⟨rfl, rfl⟩
  · have e : is64 (a - b) = decide (a ≤ 9223372036854775807 + b) := by rw [Bool.eq_iff_iff, is64_iff]; simp; omega
    rw [e]; clear e
    go_enter Try.func16, Try.ntmps16
    go_wp2
    go_ret
    exact ⟨rfl, rfl⟩
end Go.Proofs.Ytmkgjammkjmooaa
