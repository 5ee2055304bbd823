/- val.Check: shaped, kinds 3 to 5 -/
import Derived.Test.YtaonlbmicjoclaaChkA
namespace Go.Proofs.Ytaonlbmicjoclaa
open Go.ChangeShapes Go.WideShapes Go.ChangeAt Go.RowKit Go.Fl

theorem shaped_3 (n : Int) (b : Bool) (f : Nat) (s : ByteArray) (m : Nat) (A : Option Addr) (cap : Nat) (w : World) :
    Calls Try.prog 66 #[.agg #[.int .i64 3, .bool b, .int .i64 n, .float .f64 f, .string s, .slice A m cap]] w fun e w' => e = .returned (.bool (shpT 3 b n f s m)) ∧ Below w.heap.size w w' := by
  have hbits := call_bits
  rcases b with _ | _
  rotate_left
  · have HR := Lib.hid (show shpT 3 true n f s m = false by unfold shpT; simp)
    go_enter Try.func66, Try.ntmps66
    go_wp2_with fail
    go_quiet (fail)
    go_wp2_with fail
    go_ret
    exact ⟨ret_b (by rw [HR.out]), (below_drewN ((Below.refl _ _).alloc (Nat.le_refl _) _) _).setCell (Nat.le_refl _) _⟩
  by_cases hn : n = 0
  rotate_left
  · have HR := Lib.hid (show shpT 3 false n f s m = false by unfold shpT; simp [hn])
    have dn : (n == 0) = false := by simpa using hn
    clear hn
    go_enter Try.func66, Try.ntmps66
    go_wp2_with fail
    go_quiet (fail)
    go_wp2_with fail
    go_ret
    exact ⟨ret_b (by rw [HR.out]), (below_drewN ((Below.refl _ _).alloc (Nat.le_refl _) _) _).setCell (Nat.le_refl _) _⟩
  subst hn
  by_cases hs0 : s.toList = []
  rotate_left
  · have HR := Lib.hid (show shpT 3 false 0 f s m = false by unfold shpT; simp [hs0])
    have ds : (s.toList == []) = false := by simpa using hs0
    have ds' : s.toList.isEmpty = false := by simpa using hs0
    clear hs0
    go_enter Try.func66, Try.ntmps66
    go_wp2_with fail
    go_quiet (fail)
    go_wp2_with fail
    go_ret
    exact ⟨ret_b (by rw [HR.out]), (below_drewN ((Below.refl _ _).alloc (Nat.le_refl _) _) _).setCell (Nat.le_refl _) _⟩
  by_cases hm0 : m = 0
  rotate_left
  · have HR := Lib.hid (show shpT 3 false 0 f s m = false by unfold shpT; simp [hm0])
    have dm : ((m : Int) == 0) = false := by simpa using hm0
    have dm' : (m == 0) = false := by simpa using hm0
    clear hm0
    go_enter Try.func66, Try.ntmps66
    go_wp2_with fail
    go_quiet (fail)
    go_wp2_with fail
    go_ret
    exact ⟨ret_b (by rw [HR.out]), (below_drewN ((Below.refl _ _).alloc (Nat.le_refl _) _) _).setCell (Nat.le_refl _) _⟩
  subst hm0
  have HR := Lib.hid (show shpT 3 false 0 f s 0 = true by unfold shpT; simp [*])
  go_enter Try.func66, Try.ntmps66
  go_wp2_with fail
  go_quiet (fail)
  go_wp2_with fail
  go_ret
  exact ⟨ret_b (by rw [HR.out]), (below_drewN ((Below.refl _ _).alloc (Nat.le_refl _) _) _).setCell (Nat.le_refl _) _⟩

theorem shaped_4 (n : Int) (b : Bool) (f : Nat) (s : ByteArray) (m : Nat) (A : Option Addr) (cap : Nat) (w : World) :
    Calls Try.prog 66 #[.agg #[.int .i64 4, .bool b, .int .i64 n, .float .f64 f, .string s, .slice A m cap]] w fun e w' => e = .returned (.bool (shpT 4 b n f s m)) ∧ Below w.heap.size w w' := by
  have hbits := call_bits
  rcases b with _ | _
  rotate_left
  · have HR := Lib.hid (show shpT 4 true n f s m = false by unfold shpT; simp)
    go_enter Try.func66, Try.ntmps66
    go_wp2_with fail
    go_quiet (fail)
    go_wp2_with fail
    go_ret
    exact ⟨ret_b (by rw [HR.out]), (below_drewN ((Below.refl _ _).alloc (Nat.le_refl _) _) _).setCell (Nat.le_refl _) _⟩
  by_cases hn : n = 0
  rotate_left
  · have HR := Lib.hid (show shpT 4 false n f s m = false by unfold shpT; simp [hn])
    have dn : (n == 0) = false := by simpa using hn
    clear hn
    go_enter Try.func66, Try.ntmps66
    go_wp2_with fail
    go_quiet (fail)
    go_wp2_with fail
    go_ret
    exact ⟨ret_b (by rw [HR.out]), (below_drewN ((Below.refl _ _).alloc (Nat.le_refl _) _) _).setCell (Nat.le_refl _) _⟩
  subst hn
  by_cases hf0 : f = 0
  rotate_left
  · have HR := Lib.hid (show shpT 4 false 0 f s m = false by unfold shpT; simp [hf0])
    have df : ((f : Int) == 0) = false := by simpa using hf0
    clear hf0
    go_enter Try.func66, Try.ntmps66
    go_wp2_with fail
    go_quiet (fail)
    go_wp2_with fail
    go_ret
    exact ⟨ret_b (by rw [HR.out]), (below_drewN ((Below.refl _ _).alloc (Nat.le_refl _) _) _).setCell (Nat.le_refl _) _⟩
  subst hf0
  by_cases hm0 : m = 0
  rotate_left
  · have HR := Lib.hid (show shpT 4 false 0 0 s m = false by unfold shpT; simp [hm0])
    have dm : ((m : Int) == 0) = false := by simpa using hm0
    have dm' : (m == 0) = false := by simpa using hm0
    clear hm0
    go_enter Try.func66, Try.ntmps66
    go_wp2_with fail
    go_quiet (fail)
    go_wp2_with fail
    go_ret
    exact ⟨ret_b (by rw [HR.out]), (below_drewN ((Below.refl _ _).alloc (Nat.le_refl _) _) _).setCell (Nat.le_refl _) _⟩
  subst hm0
  have HR := Lib.hid (show shpT 4 false 0 0 s 0 = true by unfold shpT; simp [*])
  go_enter Try.func66, Try.ntmps66
  go_wp2_with fail
  go_quiet (fail)
  go_wp2_with fail
  go_ret
  exact ⟨ret_b (by rw [HR.out]), (below_drewN ((Below.refl _ _).alloc (Nat.le_refl _) _) _).setCell (Nat.le_refl _) _⟩

theorem shaped_5 (n : Int) (b : Bool) (f : Nat) (s : ByteArray) (m : Nat) (A : Option Addr) (cap : Nat) (w : World) :
    Calls Try.prog 66 #[.agg #[.int .i64 5, .bool b, .int .i64 n, .float .f64 f, .string s, .slice A m cap]] w fun e w' => e = .returned (.bool (shpT 5 b n f s m)) ∧ Below w.heap.size w w' := by
  have hbits := call_bits
  rcases b with _ | _
  rotate_left
  · have HR := Lib.hid (show shpT 5 true n f s m = false by unfold shpT; simp)
    go_enter Try.func66, Try.ntmps66
    go_wp2_with fail
    go_quiet (fail)
    go_wp2_with fail
    go_ret
    exact ⟨ret_b (by rw [HR.out]), (below_drewN ((Below.refl _ _).alloc (Nat.le_refl _) _) _).setCell (Nat.le_refl _) _⟩
  by_cases hn : n = 0
  rotate_left
  · have HR := Lib.hid (show shpT 5 false n f s m = false by unfold shpT; simp [hn])
    have dn : (n == 0) = false := by simpa using hn
    clear hn
    go_enter Try.func66, Try.ntmps66
    go_wp2_with fail
    go_quiet (fail)
    go_wp2_with fail
    go_ret
    exact ⟨ret_b (by rw [HR.out]), (below_drewN ((Below.refl _ _).alloc (Nat.le_refl _) _) _).setCell (Nat.le_refl _) _⟩
  subst hn
  by_cases hf0 : f = 0
  rotate_left
  · have HR := Lib.hid (show shpT 5 false 0 f s m = false by unfold shpT; simp [hf0])
    have df : ((f : Int) == 0) = false := by simpa using hf0
    clear hf0
    go_enter Try.func66, Try.ntmps66
    go_wp2_with fail
    go_quiet (fail)
    go_wp2_with fail
    go_ret
    exact ⟨ret_b (by rw [HR.out]), (below_drewN ((Below.refl _ _).alloc (Nat.le_refl _) _) _).setCell (Nat.le_refl _) _⟩
  subst hf0
  by_cases hs0 : s.toList = []
  rotate_left
  · have HR := Lib.hid (show shpT 5 false 0 0 s m = false by unfold shpT; simp [hs0])
    have ds : (s.toList == []) = false := by simpa using hs0
    have ds' : s.toList.isEmpty = false := by simpa using hs0
    clear hs0
    go_enter Try.func66, Try.ntmps66
    go_wp2_with fail
    go_quiet (fail)
    go_wp2_with fail
    go_ret
    exact ⟨ret_b (by rw [HR.out]), (below_drewN ((Below.refl _ _).alloc (Nat.le_refl _) _) _).setCell (Nat.le_refl _) _⟩
  have HR := Lib.hid (show shpT 5 false 0 0 s m = true by unfold shpT; simp [*])
  go_enter Try.func66, Try.ntmps66
  go_wp2_with fail
  go_quiet (fail)
  go_wp2_with fail
  go_ret
  exact ⟨ret_b (by rw [HR.out]), (below_drewN ((Below.refl _ _).alloc (Nat.le_refl _) _) _).setCell (Nat.le_refl _) _⟩

end Go.Proofs.Ytaonlbmicjoclaa
