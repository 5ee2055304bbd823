/- small functions of package val and its reference that only reckon -/
import Derived.Test.YtaonlbmicjoclaaVal
import Derived.Test.YtaonlbmicjoclaaNumS
import Derived.Test.YtaonlbmicjoclaaRefS
namespace Go.Proofs.Ytaonlbmicjoclaa
open Go.ChangeShapes Go.WideShapes Go.ChangeAt Go.RowKit Go.Fl

/-- a quiet callee behind draws, the world on the left -/
theorem quiet_left {P : Program} {f : FuncId} {args : Array Value} {w : World} {n : Nat} {v : Value}
    (h : Calls P f args (w.drewN n) fun e w' => e = .returned v ∧ w.drewN n = w') : Calls P f args (w.drewN n) fun e w'' => e = .returned v ∧ ∃ m, w'' = w.drewN m :=
  h.mono fun _ _ ⟨he, hm⟩ => ⟨he, n, hm.symm⟩

theorem quiet_add_left {P : Program} {f : FuncId} {args : Array Value} {w : World} {a n : Nat} {v : Value}
    (h : Calls P f args (w.drewN (a + n)) fun e w' => e = .returned v ∧ w.drewN (a + n) = w') :
    Calls P f args (w.drewN (a + n)) fun e w'' => e = .returned v ∧ ∃ m, w'' = w.drewN (a + m) :=
  h.mono fun _ _ ⟨he, hm⟩ => ⟨he, n, hm.symm⟩

theorem below_drewN {B : Nat} {a w : World} (h : Below B a w) (n : Nat) : Below B a (w.drewN n) := ⟨h.os, h.tape, h.output, h.size, h.block⟩

/-- how two int64 are ordered -/
def cmpI (x y : Int) : Int := if x < y then -1 else if y < x then 1 else 0

/-- a kind's class -/
def rk (k : Int) : Int := if k = 3 then 2 else k

theorem rank_any (k : Int) (w : World) : Calls Try.prog 33 #[.int .i64 k] w fun e w' => e = .returned (.int .i64 (rk k)) ∧ w = w' := by
  unfold rk
  by_cases h : k = 3
  · subst h
    go_enter Try.func33, Try.ntmps33
    go_wp2
    go_ret
    exact ⟨rfl, rfl⟩
  · rw [if_neg h]
    have hd : (k == 3) = false := by simpa using h
    clear h
    go_enter Try.func33, Try.ntmps33
    go_wp2
    go_ret
    exact ⟨rfl, rfl⟩

theorem class_any (k : Int) (w : World) : Calls Try.prog 22 #[.int .i64 k] w fun e w' => e = .returned (.int .i64 (rk k)) ∧ w = w' := by
  unfold rk
  by_cases h : k = 3
  · subst h
    go_enter Try.func22, Try.ntmps22
    go_wp2
    go_ret
    exact ⟨rfl, rfl⟩
  · rw [if_neg h]
    have hd : (k == 3) = false := by simpa using h
    clear h
    go_enter Try.func22, Try.ntmps22
    go_wp2
    go_ret
    exact ⟨rfl, rfl⟩

/-- what 'sign' answers -/
def sgnB (a b : Bool) : Int := if a then -1 else if b then 1 else 0

theorem sign_any (a b : Bool) (w : World) : Calls Try.prog 23 #[.bool a, .bool b] w fun e w' => e = .returned (.int .i64 (sgnB a b)) ∧ w = w' := by
  cases a <;> cases b
  all_goals
    go_enter Try.func23, Try.ntmps23
    go_wp2
    go_ret
    exact ⟨rfl, rfl⟩

/-- how two bools are ordered -/
def cmpBo (a b : Bool) : Int := if a = b then 0 else if b then -1 else 1

theorem cmpBools_any (a b : Bool) (w : World) : Calls Try.prog 34 #[.bool a, .bool b] w fun e w' => e = .returned (.int .i64 (cmpBo a b)) ∧ w = w' := by
  cases a <;> cases b
  all_goals
    go_enter Try.func34, Try.ntmps34
    go_wp2
    go_ret
    exact ⟨rfl, rfl⟩

theorem sgn_bools (a b : Bool) : sgnB (!a && b) (a && !b) = cmpBo a b := by cases a <;> cases b <;> rfl

theorem sgn_ints (a b : Int) : sgnB (decide (a < b)) (decide (b < a)) = cmpI a b := by
  unfold sgnB cmpI; simp

theorem nan_int_any (k : Int) (w : World) : Calls Try.prog 55 #[.int .i64 k] w fun e w' => e = .returned (.bool false) ∧ w = w' := by
  go_enter Try.func55, Try.ntmps55
  go_wp2
  go_ret
  exact ⟨by simp, rfl⟩

theorem nan_int64_any (k : Int) (w : World) : Calls Try.prog 59 #[.int .i64 k] w fun e w' => e = .returned (.bool false) ∧ w = w' := by
  go_enter Try.func59, Try.ntmps59
  go_wp2
  go_ret
  exact ⟨by simp, rfl⟩

theorem nan_string_any (s : ByteArray) (w : World) : Calls Try.prog 58 #[.string s] w fun e w' => e = .returned (.bool false) ∧ w = w' := by
  go_enter Try.func58, Try.ntmps58
  go_wp2
  go_ret
  exact ⟨by simp, rfl⟩

theorem cmp_int_any (a b : Int) (w : World) : Calls Try.prog 32 #[.int .i64 a, .int .i64 b] w fun e w' => e = .returned (.int .i64 (cmpI a b)) ∧ w = w' := by
  unfold cmpI
  rcases Int.lt_trichotomy a b with h | h | h
  · rw [if_pos h]
    go_enter Try.func32, Try.ntmps32
    go_wp2_with (go_at_call 55; refine (nan_int_any _ _).mono ?_; rintro e w' ⟨rfl, rfl⟩)
    go_ret
    exact ⟨rfl, rfl⟩
  · subst h
    simp only [Int.lt_irrefl, if_false]
    go_enter Try.func32, Try.ntmps32
    go_wp2_with (go_at_call 55; refine (nan_int_any _ _).mono ?_; rintro e w' ⟨rfl, rfl⟩)
    go_ret
    exact ⟨rfl, rfl⟩
  · rw [if_neg (by omega), if_pos h]
    go_enter Try.func32, Try.ntmps32
    go_wp2_with (go_at_call 55; refine (nan_int_any _ _).mono ?_; rintro e w' ⟨rfl, rfl⟩)
    go_ret
    exact ⟨rfl, rfl⟩

theorem cmp_int64_any (a b : Int) (w : World) : Calls Try.prog 38 #[.int .i64 a, .int .i64 b] w fun e w' => e = .returned (.int .i64 (cmpI a b)) ∧ w = w' := by
  unfold cmpI
  rcases Int.lt_trichotomy a b with h | h | h
  · rw [if_pos h]
    go_enter Try.func38, Try.ntmps38
    go_wp2_with (go_at_call 59; refine (nan_int64_any _ _).mono ?_; rintro e w' ⟨rfl, rfl⟩)
    go_ret
    exact ⟨rfl, rfl⟩
  · subst h
    simp only [Int.lt_irrefl, if_false]
    go_enter Try.func38, Try.ntmps38
    go_wp2_with (go_at_call 59; refine (nan_int64_any _ _).mono ?_; rintro e w' ⟨rfl, rfl⟩)
    go_ret
    exact ⟨rfl, rfl⟩
  · rw [if_neg (by omega), if_pos h]
    go_enter Try.func38, Try.ntmps38
    go_wp2_with (go_at_call 59; refine (nan_int64_any _ _).mono ?_; rintro e w' ⟨rfl, rfl⟩)
    go_ret
    exact ⟨rfl, rfl⟩

/-- how two texts are ordered -/
def cmpS (a b : ByteArray) : Int := if Op.bytesLess a.toList b.toList = true then -1 else if (a.toList == b.toList) = true then 0 else 1

theorem cmp_string_any (a b : ByteArray) (w : World) : Calls Try.prog 36 #[.string a, .string b] w fun e w' => e = .returned (.int .i64 (cmpS a b)) ∧ w = w' := by
  unfold cmpS
  rcases h1 : Op.bytesLess a.toList b.toList with _ | _
  · rcases h2 : (a.toList == b.toList) with _ | _
    · rw [if_neg (by decide), if_neg (by decide)]
      have h3 : (!a.toList == b.toList) = true := by rw [h2]; rfl
      go_enter Try.func36, Try.ntmps36
      go_wp2_with (go_at_call 58; refine (nan_string_any _ _).mono ?_; rintro e w' ⟨rfl, rfl⟩)
      go_ret
      exact ⟨rfl, rfl⟩
    · rw [if_neg (by decide), if_pos rfl]
      have h3 : (!a.toList == b.toList) = false := by rw [h2]; rfl
      go_enter Try.func36, Try.ntmps36
      go_wp2_with (go_at_call 58; refine (nan_string_any _ _).mono ?_; rintro e w' ⟨rfl, rfl⟩)
      go_ret
      exact ⟨rfl, rfl⟩
  · rw [if_pos rfl]
    go_enter Try.func36, Try.ntmps36
    go_wp2_with (go_at_call 58; refine (nan_string_any _ _).mono ?_; rintro e w' ⟨rfl, rfl⟩)
    go_ret
    exact ⟨rfl, rfl⟩

/-- a value without parts -/
def valV (k : Int) (b : Bool) (n : Int) (f : Nat) (s : ByteArray) : Value := .agg #[.int .i64 k, .bool b, .int .i64 n, .float .f64 f, .string s, .slice none 0 0]

theorem RdX.leaf (w : World) (L B : Nat) (k : Int) (b : Bool) (n : Int) (f : Nat) (s : ByteArray) (hk : is64 k = true) (hn : is64 n = true) (hf : f < 18446744073709551616) (hs : s.size ≤ 140737488351232) : RdX w L B (.mk k b n f s []) (valV k b n f s) :=
  RdX.of (l := []) none 0 hk hn hf hs (Nat.zero_le _) (by simp) (fun _ => rfl) (fun i hi => absurd hi (Nat.not_lt_zero _))

theorem vnone_any (w : World) : Calls Try.prog 50 #[] w fun e w' => e = .returned (valV 0 false 0 0 ⟨#[]⟩) ∧ Below w.heap.size w w' := by
  go_enter Try.func50, Try.ntmps50
  go_wp2
  exact bodyPost_ret (v := valV 0 false 0 0 ⟨#[]⟩) (by simp [results, Try.results50, go_sem, valV]) rfl ⟨rfl, (Below.refl _ _).alloc (Nat.le_refl _) _⟩

theorem vyes_any (b : Bool) (w : World) : Calls Try.prog 69 #[.bool b] w fun e w' => e = .returned (valV 1 b 0 0 ⟨#[]⟩) ∧ Below w.heap.size w w' := by
  go_enter Try.func69, Try.ntmps69
  go_wp2
  exact bodyPost_ret (v := valV 1 b 0 0 ⟨#[]⟩) (by simp [results, Try.results69, go_sem, valV]) rfl ⟨rfl, (Below.refl _ _).alloc (Nat.le_refl _) _⟩

theorem vint_any (n : Int) (w : World) : Calls Try.prog 12 #[.int .i64 n] w fun e w' => e = .returned (valV 2 false n 0 ⟨#[]⟩) ∧ Below w.heap.size w w' := by
  go_enter Try.func12, Try.ntmps12
  go_wp2
  exact bodyPost_ret (v := valV 2 false n 0 ⟨#[]⟩) (by simp [results, Try.results12, go_sem, valV]) rfl ⟨rfl, (Below.refl _ _).alloc (Nat.le_refl _) _⟩

theorem vtext_any (s : ByteArray) (w : World) : Calls Try.prog 13 #[.string s] w fun e w' => e = .returned (valV 4 false 0 0 s) ∧ Below w.heap.size w w' := by
  go_enter Try.func13, Try.ntmps13
  go_wp2
  exact bodyPost_ret (v := valV 4 false 0 0 s) (by simp [results, Try.results13, go_sem, valV]) rfl ⟨rfl, (Below.refl _ _).alloc (Nat.le_refl _) _⟩

theorem vfloat_any (f : Nat) (w : World) : Calls Try.prog 16 #[.float .f64 f] w fun e w' => e = .returned (valV 3 false 0 (canonN f) ⟨#[]⟩) ∧ Below w.heap.size w w' := by
  go_enter Try.func16, Try.ntmps16
  go_wp2_with (go_at_call 39; refine (canon_any _ _).mono ?_; rintro e w' ⟨rfl, rfl⟩)
  exact bodyPost_ret (v := valV 3 false 0 (canonN f) ⟨#[]⟩) (by simp [results, Try.results16, go_sem, valV]) rfl ⟨rfl, (Below.refl _ _).alloc (Nat.le_refl _) _⟩

end Go.Proofs.Ytaonlbmicjoclaa
