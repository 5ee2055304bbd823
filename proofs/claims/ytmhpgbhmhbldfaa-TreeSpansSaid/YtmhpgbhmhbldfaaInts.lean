/- int64 and uint64: what every seat needs; the imports of all walks -/
import Derived.Test.YtmhpgbhmhbldfaaRows
import Derived.WalkKit
import Derived.WalkLawsBesides
import Derived.ProofKit
import Derived.OpenShut
import Derived.Outline
import Derived.Lib.Hide
import Derived.Laws.FloatArith
import Derived.Laws.BitsAllLaws
import Derived.Laws.Bits64b
import Derived.Laws.StructEq
import Derived.Deep.Slices
import Derived.Deep.Draws
import Derived.Deep.QuietTactic
import Derived.BigQuiet
import Derived.Below
import Derived.Test.YtmhpgbhmhbldfaaFlJ
namespace Go.Proofs.Ytmhpgbhmhbldfaa
open Go.ChangeShapes Go.WideShapes Go.ChangeAt Go.RowKit Go.Fl

/-- an int64 -/
def is64 (n : Int) : Bool := decide (-9223372036854775808 ≤ n) && decide (n ≤ 9223372036854775807)

/-- it, or 0 -/
def cut64 (n : Int) : Int := if is64 n then n else 0

theorem is64_yes {n : Int} (h1 : -9223372036854775808 ≤ n) (h2 : n ≤ 9223372036854775807) : is64 n = true := by simp [is64, h1, h2]

theorem is64_iff {n : Int} : is64 n = true ↔ -9223372036854775808 ≤ n ∧ n ≤ 9223372036854775807 := by simp [is64]

theorem is64_no {n : Int} : is64 n = false ↔ ¬ (-9223372036854775808 ≤ n ∧ n ≤ 9223372036854775807) := by
  rw [← is64_iff]; simp

theorem wrap64_is (n : Int) : is64 (wrap64 n) = true := by unfold is64 wrap64; simp; omega

theorem wrap64_id {n : Int} (h : is64 n = true) : wrap64 n = n := by obtain ⟨x, y⟩ := is64_iff.1 h; unfold wrap64; omega

theorem is64_wf {a : Int} (h : (Lit.int .i64 a).wf = true) : is64 a = true := by
  have e1 : IntKind.i64.min = -9223372036854775808 := by decide
  have e2 : IntKind.i64.max = 9223372036854775807 := by decide
  simpa [Lit.wf, is64, e1, e2] using h

theorem f64_wf {b : Nat} (h : (Lit.float .f64 b).wf = true) : b < 18446744073709551616 := by simpa [Lit.wf] using h

theorem stillB {P : Program} {f : FuncId} {args : Array Value} {w : World} {q : Ending → Prop} (h : Calls P f args w fun e w' => q e ∧ w = w') : Calls P f args w fun e w' => q e ∧ Below w.heap.size w w' := h.mono fun _ _ ⟨x, y⟩ => ⟨x, y ▸ Below.refl _ _⟩
theorem still {P : Program} {f : FuncId} {args : Array Value} {w : World} (h : Calls P f args w fun e w' => e = .returned (.bool true) ∧ w = w') :
    Calls P f args w fun e w' => e = .returned (.bool true) ∧ Grown w w' := h.mono fun _ _ ⟨x, y⟩ => ⟨x, y ▸ Grown.refl _⟩

theorem ret2 {a b : Int} {c d : Bool} (h : a = b) (h' : c = d) : Ending.returned (.tuple #[.int .i64 a, .bool c]) = .returned (.tuple #[.int .i64 b, .bool d]) := by rw [h, h']

theorem ret1b {c d : Bool} (h : c = d) : Ending.returned (.bool c) = .returned (.bool d) := by rw [h]

theorem cut_yes {n : Int} (h : is64 n = true) : cut64 n = n := by unfold cut64; rw [h]; rfl

theorem cut_no {n : Int} (h : is64 n = false) : cut64 n = 0 := by unfold cut64; rw [h]; rfl

theorem nat_and_hi (c : Nat) (h : c < 18446744073709551616) : c &&& 9223372036854775808 = if 9223372036854775808 ≤ c then 9223372036854775808 else 0 := by
  have := nat_bit 63 c
  rw [show (9223372036854775808 : Nat) = 2 ^ 63 from by decide, this]
  split <;> rename_i hc
  · have e : c / 2 ^ 63 = 1 := by simp at hc ⊢; omega
    rw [e]
  · have e : c / 2 ^ 63 = 0 := by simp at hc ⊢; omega
    rw [e]

theorem and_hi (c : Nat) (h : c < 18446744073709551616) : bits .and .u64 (c : Int) 9223372036854775808 = if 9223372036854775808 ≤ c then 9223372036854775808 else 0 := by
  have := u64_and_nat c 9223372036854775808 h (by decide)
  rw [nat_and_hi c h] at this
  refine Eq.trans this ?_
  split <;> rfl

theorem or_hi (c : Nat) (h : c < 9223372036854775808) : bits .or .u64 (c : Int) 9223372036854775808 = ((c + 9223372036854775808 : Nat) : Int) := by
  have := u64_or_nat c 9223372036854775808 (by omega) (by decide)
  rw [Nat.or_comm, nat_join 63 9223372036854775808 c (by decide) (by simpa using h), Nat.add_comm] at this
  exact this

theorem xor_hi (c : Nat) (h : c < 18446744073709551616) (h' : 9223372036854775808 ≤ c) : bits .xor .u64 (c : Int) 9223372036854775808 = ((c - 9223372036854775808 : Nat) : Int) := by
  have := u64_xor_nat c 9223372036854775808 (by omega) (by decide)
  obtain ⟨d, rfl⟩ : ∃ d, c = d + 9223372036854775808 := ⟨c - 9223372036854775808, by omega⟩
  refine this.trans ?_
  have e : d + 9223372036854775808 = 9223372036854775808 ^^^ d := by
    have hd : d < 2 ^ 63 := by simp; omega
    have e1 := nat_join 63 9223372036854775808 d (by decide) hd
    rw [Nat.add_comm, ← e1]
    apply Nat.eq_of_testBit_eq; intro i
    rw [Nat.testBit_or, Nat.testBit_xor]
    by_cases hi : i < 63
    · have : Nat.testBit 9223372036854775808 i = false := by
        rw [show (9223372036854775808 : Nat) = 2 ^ 63 from by decide, Nat.testBit_two_pow]; simp; omega
      simp [this]
    · have : d.testBit i = false := Nat.testBit_lt_two_pow (Nat.lt_of_lt_of_le hd (Nat.pow_le_pow_right (by decide) (by omega)))
      simp [this]
  rw [e, Nat.xor_comm 9223372036854775808 d, Nat.xor_assoc, Nat.xor_self, Nat.xor_zero, Nat.xor_comm d, ← e]; simp

theorem not_u64 (c : Nat) (h : c < 18446744073709551616) : bits .xor .u64 IntKind.u64.max (c : Int) = ((18446744073709551615 - c : Nat) : Int) := by
  have e0 : IntKind.u64.max = ((18446744073709551615 : Nat) : Int) := by decide
  rw [e0, u64_xor_nat _ c (by decide) h]
  congr 1
  have e1 : (18446744073709551615 : Nat) = 2 ^ 64 - 1 := by decide
  rw [e1]
  apply Nat.eq_of_testBit_eq; intro i
  rw [Nat.testBit_xor, Nat.testBit_two_pow_sub_one, show 2 ^ 64 - 1 - c = 2 ^ 64 - (c + 1) from by omega, Nat.testBit_two_pow_sub_succ (by simpa using h)]
  by_cases hi : i < 64
  · simp [hi]
  · have : c.testBit i = false := Nat.testBit_lt_two_pow (Nat.lt_of_lt_of_le (by simpa using h) (Nat.pow_le_pow_right (by decide) (Nat.le_of_not_lt hi)))
    simp [hi, this]

theorem ret_int {k : IntKind} {a b : Int} (h : a = b) : Ending.returned (.int k a) = .returned (.int k b) := by rw [h]

theorem ret_flt {a b : Nat} (h : a = b) : Ending.returned (.float .f64 a) = .returned (.float .f64 b) := by rw [h]

theorem nat_beq (f c : Nat) (d : Int) (h : (c : Int) = d) : (f == c) = ((f : Int) == d) := by
  subst h; rw [Bool.eq_iff_iff]; simp only [beq_iff_eq]; omega

theorem big_no : ((9221120237041090561 : Nat) : Int) = 9221120237041090561 := by decide

theorem ret_fi {f : Nat} {a b : Int} (h : a = b) : Ending.returned (.tuple #[.float .f64 f, .int .i64 a]) = .returned (.tuple #[.float .f64 f, .int .i64 b]) := by rw [h]

@[go_sem] theorem run_store_float (P : Program) (w : World) (a : Addr) (m : Mode) (k : FloatKind) (b : Nat) : (store a (.float k b) m).run P w = stored P w a (.float k b) m := run_store P w a _ m rfl

theorem run_equalIn_float {P : Program} (w : World) (d : Nat) (t : TypeId) (k : FloatKind) (a b : Nat) (h : P.underlying t = some (.float k)) : (Op.equalIn (d + 1) t (.float k a) (.float k b)).run P w = .ok (k.format.order a b == some .eq) w := by
  simp [Op.equalIn, run_underlying h]; rfl

end Go.Proofs.Ytmhpgbhmhbldfaa
