/- small functions of package val and its reference that only reckon -/
import Derived.Test.YtnehbpfgdeilhaaGreatDoorVal
import Derived.Test.YtnehbpfgdeilhaaGreatDoorNumS
import Derived.Test.YtnehbpfgdeilhaaGreatDoorRefS
namespace Go.Proofs.YtnehbpfgdeilhaaGreatDoor
open Go.ChangeShapes Go.WideShapes Go.ChangeAt Go.RowKit Go.Fl

/-- a quiet callee behind draws, the world on the left -/
theorem quiet_left {P : Program} {f : FuncId} {args : Array Value} {w : World} {n : Nat} {v : Value}
    (h : Calls P f args (w.drewN n) fun e w' => e = .returned v ∧ w.drewN n = w') : Calls P f args (w.drewN n) fun e w'' => e = .returned v ∧ ∃ m, w'' = w.drewN m :=
  h.mono fun _ _ ⟨he, hm⟩ => ⟨he, n, hm.symm⟩

theorem quiet_add_left {P : Program} {f : FuncId} {args : Array Value} {w : World} {a n : Nat} {v : Value}
    (h : Calls P f args (w.drewN (a + n)) fun e w' => e = .returned v ∧ w.drewN (a + n) = w') :
    Calls P f args (w.drewN (a + n)) fun e w'' => e = .returned v ∧ ∃ m, w'' = w.drewN (a + m) :=
  h.mono fun _ _ ⟨he, hm⟩ => ⟨he, n, hm.symm⟩

theorem below_drewN {B : Nat} {a w : World} (h : Below B a w) (n : Nat) : Below B a (w.drewN n) := ⟨h.os, h.tape, h.output, h.size, h.block⟩

/-- how two int64 are ordered -/
def cmpI (x y : Int) : Int := if x < y then -1 else if y < x then 1 else 0

/-- a kind's class -/
def rk (k : Int) : Int := if k = 3 then 2 else k

/-- what 'sign' answers -/
def sgnB (a b : Bool) : Int := if a then -1 else if b then 1 else 0

/-- how two bools are ordered -/
def cmpBo (a b : Bool) : Int := if a = b then 0 else if b then -1 else 1

theorem sgn_bools (a b : Bool) : sgnB (!a && b) (a && !b) = cmpBo a b := by cases a <;> cases b <;> rfl

theorem sgn_ints (a b : Int) : sgnB (decide (a < b)) (decide (b < a)) = cmpI a b := by
  unfold sgnB cmpI; simp

/-- how two texts are ordered -/
def cmpS (a b : ByteArray) : Int := if Op.bytesLess a.toList b.toList = true then -1 else if (a.toList == b.toList) = true then 0 else 1

/-- a value without parts -/
def valV (k : Int) (b : Bool) (n : Int) (f : Nat) (s : ByteArray) : Value := .agg #[.int .i64 k, .bool b, .int .i64 n, .float .f64 f, .string s, .slice none 0 0]

theorem RdX.leaf (w : World) (L B : Nat) (k : Int) (b : Bool) (n : Int) (f : Nat) (s : ByteArray) (hk : is64 k = true) (hn : is64 n = true) (hf : f < 18446744073709551616) (hs : s.size ≤ 140737488351232) : RdX w L B (.mk k b n f s []) (valV k b n f s) :=
  RdX.of (l := []) none 0 hk hn hf hs (Nat.zero_le _) (by simp) (fun _ => rfl) (fun i hi => absurd hi (Nat.not_lt_zero _))

theorem vnone_any (w : World) : Calls Tryz.prog 81 #[] w fun e w' => e = .returned (valV 0 false 0 0 ⟨#[]⟩) ∧ Below w.heap.size w w' := by
  go_enter Tryz.func81, Tryz.ntmps81
  go_wp2
  exact bodyPost_ret (v := valV 0 false 0 0 ⟨#[]⟩) (by simp [results, Tryz.results81, go_sem, valV]) rfl ⟨rfl, (Below.refl _ _).alloc (Nat.le_refl _) _⟩

theorem vyes_any (b : Bool) (w : World) : Calls Tryz.prog 82 #[.bool b] w fun e w' => e = .returned (valV 1 b 0 0 ⟨#[]⟩) ∧ Below w.heap.size w w' := by
  go_enter Tryz.func82, Tryz.ntmps82
  go_wp2
  exact bodyPost_ret (v := valV 1 b 0 0 ⟨#[]⟩) (by simp [results, Tryz.results82, go_sem, valV]) rfl ⟨rfl, (Below.refl _ _).alloc (Nat.le_refl _) _⟩

theorem vint_any (n : Int) (w : World) : Calls Tryz.prog 79 #[.int .i64 n] w fun e w' => e = .returned (valV 2 false n 0 ⟨#[]⟩) ∧ Below w.heap.size w w' := by
  go_enter Tryz.func79, Tryz.ntmps79
  go_wp2
  exact bodyPost_ret (v := valV 2 false n 0 ⟨#[]⟩) (by simp [results, Tryz.results79, go_sem, valV]) rfl ⟨rfl, (Below.refl _ _).alloc (Nat.le_refl _) _⟩

theorem vtext_any (s : ByteArray) (w : World) : Calls Tryz.prog 63 #[.string s] w fun e w' => e = .returned (valV 4 false 0 0 s) ∧ Below w.heap.size w w' := by
  go_enter Tryz.func63, Tryz.ntmps63
  go_wp2
  exact bodyPost_ret (v := valV 4 false 0 0 s) (by simp [results, Tryz.results63, go_sem, valV]) rfl ⟨rfl, (Below.refl _ _).alloc (Nat.le_refl _) _⟩

theorem vfloat_any (f : Nat) (w : World) : Calls Tryz.prog 80 #[.float .f64 f] w fun e w' => e = .returned (valV 3 false 0 (canonN f) ⟨#[]⟩) ∧ Below w.heap.size w w' := by
  go_enter Tryz.func80, Tryz.ntmps80
  go_wp2_with (go_at_call 51; refine (canon_any _ _).mono ?_; rintro e w' ⟨rfl, rfl⟩)
  exact bodyPost_ret (v := valV 3 false 0 (canonN f) ⟨#[]⟩) (by simp [results, Tryz.results80, go_sem, valV]) rfl ⟨rfl, (Below.refl _ _).alloc (Nat.le_refl _) _⟩

end Go.Proofs.YtnehbpfgdeilhaaGreatDoor
