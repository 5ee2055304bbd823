/- small functions of package val and its reference that only reckon -/
import Derived.Test.YtaoaidjbpfdgmaaVal
import Derived.Test.YtaoaidjbpfdgmaaNumS
import Derived.Test.YtaoaidjbpfdgmaaRefS
namespace Go.Proofs.Ytaoaidjbpfdgmaa
open Go.ChangeShapes Go.WideShapes Go.ChangeAt Go.RowKit Go.Fl

/-- a quiet callee behind draws, the world on the left -/
theorem quiet_left {P : Program} {f : FuncId} {args : Array Value} {w : World} {n : Nat} {v : Value}
    (h : Calls P f args (w.drewN n) fun e w' => e = .returned v ∧ w.drewN n = w') : Calls P f args (w.drewN n) fun e w'' => e = .returned v ∧ ∃ m, w'' = w.drewN m :=
  h.mono fun _ _ ⟨he, hm⟩ => ⟨he, n, hm.symm⟩

theorem quiet_add_left {P : Program} {f : FuncId} {args : Array Value} {w : World} {a n : Nat} {v : Value}
    (h : Calls P f args (w.drewN (a + n)) fun e w' => e = .returned v ∧ w.drewN (a + n) = w') :
    Calls P f args (w.drewN (a + n)) fun e w'' => e = .returned v ∧ ∃ m, w'' = w.drewN (a + m) :=
  h.mono fun _ _ ⟨he, hm⟩ => ⟨he, n, hm.symm⟩

theorem below_drewN {B : Nat} {a w : World} (h : Below B a w) (n : Nat) : Below B a (w.drewN n) := ⟨h.os, h.tape, h.output, h.size, h.block⟩

/-- how two int64 are ordered -/
def cmpI (x y : Int) : Int := if x < y then -1 else if y < x then 1 else 0

/-- a kind's class -/
def rk (k : Int) : Int := if k = 3 then 2 else k

/-- what 'sign' answers -/
def sgnB (a b : Bool) : Int := if a then -1 else if b then 1 else 0

/-- how two bools are ordered -/
def cmpBo (a b : Bool) : Int := if a = b then 0 else if b then -1 else 1

theorem sgn_bools (a b : Bool) : sgnB (!a && b) (a && !b) = cmpBo a b := by cases a <;> cases b <;> rfl

theorem sgn_ints (a b : Int) : sgnB (decide (a < b)) (decide (b < a)) = cmpI a b := by
  unfold sgnB cmpI; simp

theorem nan_int_any (k : Int) (w : World) : Calls Try.prog 67 #[.int .i64 k] w fun e w' => e = .returned (.bool false) ∧ w = w' := by
  go_enter Try.func67, Try.ntmps67
  go_wp2
  go_ret
  exact ⟨by simp, rfl⟩

theorem cmp_int_any (a b : Int) (w : World) : Calls Try.prog 51 #[.int .i64 a, .int .i64 b] w fun e w' => e = .returned (.int .i64 (cmpI a b)) ∧ w = w' := by
  unfold cmpI
  rcases Int.lt_trichotomy a b with h | h | h
  · rw [if_pos h]
    go_enter Try.func51, Try.ntmps51
    go_wp2_with (go_at_call 67; refine (nan_int_any _ _).mono ?_; rintro e w' ⟨rfl, rfl⟩)
    go_ret
    exact ⟨rfl, rfl⟩
  · subst h
    simp only [Int.lt_irrefl, if_false]
    go_enter Try.func51, Try.ntmps51
    go_wp2_with (go_at_call 67; refine (nan_int_any _ _).mono ?_; rintro e w' ⟨rfl, rfl⟩)
    go_ret
    exact ⟨rfl, rfl⟩
  · rw [if_neg (by omega), if_pos h]
    go_enter Try.func51, Try.ntmps51
    go_wp2_with (go_at_call 67; refine (nan_int_any _ _).mono ?_; rintro e w' ⟨rfl, rfl⟩)
    go_ret
    exact ⟨rfl, rfl⟩

/-- how two texts are ordered -/
def cmpS (a b : ByteArray) : Int := if Op.bytesLess a.toList b.toList = true then -1 else if (a.toList == b.toList) = true then 0 else 1

/-- a value without parts -/
def valV (k : Int) (b : Bool) (n : Int) (f : Nat) (s : ByteArray) : Value := .agg #[.int .i64 k, .bool b, .int .i64 n, .float .f64 f, .string s, .slice none 0 0]

theorem RdX.leaf (w : World) (L B : Nat) (k : Int) (b : Bool) (n : Int) (f : Nat) (s : ByteArray) (hk : is64 k = true) (hn : is64 n = true) (hf : f < 18446744073709551616) (hs : s.size ≤ 140737488351232) : RdX w L B (.mk k b n f s []) (valV k b n f s) :=
  RdX.of (l := []) none 0 hk hn hf hs (Nat.zero_le _) (by simp) (fun _ => rfl) (fun i hi => absurd hi (Nat.not_lt_zero _))

end Go.Proofs.Ytaoaidjbpfdgmaa
