/- val.Check: head, shaped -/
import Derived.Test.YtaonlbmicjoclaaOrd
import Derived.Deep.DeepCutAuto
namespace Go.Proofs.Ytaonlbmicjoclaa
open Go.ChangeShapes Go.WideShapes Go.ChangeAt Go.RowKit Go.Fl

/-- bytes of a value without those of its parts -/
def hdT (k : Int) (s : ByteArray) : Int := if k = 0 then 1 else if k = 1 then 2 else if k = 4 then 3 + s.size else if k = 5 ∨ k = 6 then 3 else 9

theorem hdT_le (k : Int) (s : ByteArray) (hs : s.size ≤ 140737488351232) : 1 ≤ hdT k s ∧ hdT k s ≤ 140737488351235 := by
  unfold hdT; split
  · omega
  · split
    · omega
    · split
      · omega
      · split <;> omega

theorem head_any (k n : Int) (b : Bool) (f : Nat) (s : ByteArray) (sl : Value) (w : World) (hs : s.size ≤ 140737488351232) :
    Calls Try.prog 65 #[.agg #[.int .i64 k, .bool b, .int .i64 n, .float .f64 f, .string s, sl]] w fun e w' => e = .returned (.int .i64 (hdT k s)) ∧ Below w.heap.size w w' := by
  unfold hdT
  by_cases k0 : k = 0
  · subst k0
    rw [if_pos rfl]
    go_enter Try.func65, Try.ntmps65
    go_wp2
    go_ret
    exact ⟨rfl, (Below.refl _ _).alloc (Nat.le_refl _) _⟩
  by_cases k1 : k = 1
  · subst k1
    rw [if_neg (by decide), if_pos rfl]
    go_enter Try.func65, Try.ntmps65
    go_wp2
    go_ret
    exact ⟨rfl, (Below.refl _ _).alloc (Nat.le_refl _) _⟩
  by_cases k4 : k = 4
  · subst k4
    rw [if_neg (by decide), if_neg (by decide), if_pos rfl]
    go_enter Try.func65, Try.ntmps65
    go_wp2
    go_ret
    exact ⟨rfl, (Below.refl _ _).alloc (Nat.le_refl _) _⟩
  by_cases k5 : k = 5
  · subst k5
    rw [if_neg (by decide), if_neg (by decide), if_neg (by decide), if_pos (.inl rfl)]
    go_enter Try.func65, Try.ntmps65
    go_wp2
    go_ret
    exact ⟨rfl, (Below.refl _ _).alloc (Nat.le_refl _) _⟩
  by_cases k6 : k = 6
  · subst k6
    rw [if_neg (by decide), if_neg (by decide), if_neg (by decide), if_pos (.inr rfl)]
    go_enter Try.func65, Try.ntmps65
    go_wp2
    go_ret
    exact ⟨rfl, (Below.refl _ _).alloc (Nat.le_refl _) _⟩
  rw [if_neg k0, if_neg k1, if_neg k4, if_neg (by omega)]
  have d0 : (k == 0) = false := by simpa using k0
  have d1 : (k == 1) = false := by simpa using k1
  have d4 : (k == 4) = false := by simpa using k4
  have d5 : (k == 5) = false := by simpa using k5
  have d6 : (k == 6) = false := by simpa using k6
  clear k0 k1 k4 k5 k6
  go_enter Try.func65, Try.ntmps65
  go_wp2
  go_ret
  exact ⟨rfl, (Below.refl _ _).alloc (Nat.le_refl _) _⟩

/-- is a value of a kind, with nothing but what that has? -/
def shpT (k : Int) (b : Bool) (n : Int) (f : Nat) (s : ByteArray) (m : Nat) : Bool :=
  decide (0 ≤ k ∧ k ≤ 8 ∧ (b = true → k = 1) ∧ (n ≠ 0 → k = 2 ∨ k = 7 ∨ k = 8) ∧ (k = 7 ∨ k = 8 → 1 ≤ n) ∧ (f ≠ 0 → k = 3) ∧ (s.toList ≠ [] → k = 4) ∧ (m ≠ 0 → k = 5 ∨ k = 6))

theorem ret_b {a c : Bool} (h : a = c) : Ending.returned (.bool a) = .returned (.bool c) := by rw [h]

end Go.Proofs.Ytaonlbmicjoclaa
