/- the reference of val.Cmp -/
import Derived.Test.YtaonlbmicjoclaaCmpB
import Derived.StillTailTactics
namespace Go.Proofs.Ytaonlbmicjoclaa
open Go.ChangeShapes Go.WideShapes Go.ChangeAt Go.RowKit Go.Fl

theorem sgn_strings (s s' : ByteArray) : cmpS s s' = sgnB (Op.bytesLess s.toList s'.toList) (!Op.bytesLess s.toList s'.toList && !s.toList == s'.toList) := by
  unfold cmpS sgnB
  cases Op.bytesLess s.toList s'.toList <;> cases (s.toList == s'.toList) <;> rfl

theorem rsign_any (a b : Bool) (w : World) (x : Int) (hx : x = sgnB a b) : Calls Try.prog 23 #[.bool a, .bool b] w fun e w' => e = .returned (.int .i64 x) ∧ w = w' := by
  subst hx; exact sign_any a b w

theorem rcmp_bool (n n' : Int) (b b' : Bool) (f f' : Nat) (s s' : ByteArray) (l l' : List T) (v v' : Value) (w : World) (h : Rd w w.heap.size (.mk 1 b n f s l) v) (h' : Rd w w.heap.size (.mk 1 b' n' f' s' l') v') :
    Calls Try.prog 9 #[v, v'] w fun e w' => e = .returned (.int .i64 (cmpBo b b')) ∧ Below w.heap.size w w' := by
  obtain ⟨A, cap, rfl, hk, hn, hf, hs, hc, hm, hA, hl⟩ := h.open
  obtain ⟨A', cap', rfl, hk', hn', hf', hs', hc', hm', hA', hl'⟩ := h'.open
  have Hn := Lib.hid hn; have Hn' := Lib.hid hn'; have Hf := Lib.hid hf; have Hf' := Lib.hid hf'
  clear hk hn hA h hk' hn' hA' h' hs hs' hf hf'
  cases b <;> cases b'
  all_goals
    go_enter Try.func9, Try.ntmps9
    go_wp2_with fail
    go_quiet ((go_at_call 22; exact quiet_left (class_any _ _)))
    go_wp2_with (go_at_call 23; refine (sign_any _ _ _).mono ?_; rintro e w1 ⟨rfl, rfl⟩)
    go_ret
    exact ⟨rfl, below_drewN (((Below.refl _ _).alloc (Nat.le_refl _) _).alloc (by simp) _) _⟩

theorem rcmp_23 (n n' : Int) (b b' : Bool) (f f' : Nat) (s s' : ByteArray) (l l' : List T) (v v' : Value) (w : World) (h : Rd w w.heap.size (.mk 2 b n f s l) v) (h' : Rd w w.heap.size (.mk 3 b' n' f' s' l') v') :
    Calls Try.prog 9 #[v, v'] w fun e w' => e = .returned (.int .i64 (mixN n f')) ∧ Below w.heap.size w w' := by
  obtain ⟨A, cap, rfl, hk, hn, hf, hs, hc, hm, hA, hl⟩ := h.open
  obtain ⟨A', cap', rfl, hk', hn', hf', hs', hc', hm', hA', hl'⟩ := h'.open
  have Hn := Lib.hid hn; have Hn' := Lib.hid hn'; have Hf := Lib.hid hf; have Hf' := Lib.hid hf'
  clear hk hn hA h hk' hn' hA' h' hs hs' hf hf'
  go_enter Try.func9, Try.ntmps9
  go_wp2_with fail
  go_quiet ((go_at_call 22; exact quiet_left (class_any _ _)))
  go_wp2_with (go_at_call 24; refine (rmix_any _ _ _ Hn.out Hf'.out).mono ?_; rintro e w1 ⟨rfl, rfl⟩)
  go_ret
  exact ⟨rfl, below_drewN (((Below.refl _ _).alloc (Nat.le_refl _) _).alloc (by simp) _) _⟩

theorem rcmp_32 (n n' : Int) (b b' : Bool) (f f' : Nat) (s s' : ByteArray) (l l' : List T) (v v' : Value) (w : World) (h : Rd w w.heap.size (.mk 3 b n f s l) v) (h' : Rd w w.heap.size (.mk 2 b' n' f' s' l') v') :
    Calls Try.prog 9 #[v, v'] w fun e w' => e = .returned (.int .i64 (-mixN n' f)) ∧ Below w.heap.size w w' := by
  obtain ⟨A, cap, rfl, hk, hn, hf, hs, hc, hm, hA, hl⟩ := h.open
  obtain ⟨A', cap', rfl, hk', hn', hf', hs', hc', hm', hA', hl'⟩ := h'.open
  have Hn := Lib.hid hn; have Hn' := Lib.hid hn'; have Hf := Lib.hid hf; have Hf' := Lib.hid hf'
  clear hk hn hA h hk' hn' hA' h' hs hs' hf hf'
  obtain ⟨x1, x2⟩ := mix_cases n' f
  go_enter Try.func9, Try.ntmps9
  go_wp2_with fail
  go_quiet ((go_at_call 22; exact quiet_left (class_any _ _)))
  go_wp2_with (go_at_call 24; refine (rmix_any _ _ _ Hn'.out Hf.out).mono ?_; rintro e w1 ⟨rfl, rfl⟩)
  go_ret
  exact ⟨rfl, below_drewN (((Below.refl _ _).alloc (Nat.le_refl _) _).alloc (by simp) _) _⟩

theorem rcmp_33 (n n' : Int) (b b' : Bool) (f f' : Nat) (s s' : ByteArray) (l l' : List T) (v v' : Value) (w : World) (h : Rd w w.heap.size (.mk 3 b n f s l) v) (h' : Rd w w.heap.size (.mk 3 b' n' f' s' l') v') :
    Calls Try.prog 9 #[v, v'] w fun e w' => e = .returned (.int .i64 (cmpN f f')) ∧ Below w.heap.size w w' := by
  obtain ⟨A, cap, rfl, hk, hn, hf, hs, hc, hm, hA, hl⟩ := h.open
  obtain ⟨A', cap', rfl, hk', hn', hf', hs', hc', hm', hA', hl'⟩ := h'.open
  have Hn := Lib.hid hn; have Hn' := Lib.hid hn'; have Hf := Lib.hid hf; have Hf' := Lib.hid hf'
  clear hk hn hA h hk' hn' hA' h' hs hs' hf hf'
  go_enter Try.func9, Try.ntmps9
  go_wp2_with fail
  go_quiet ((go_at_call 22; exact quiet_left (class_any _ _)))
  go_wp2_with (go_at_call 25; refine (rcmp_any _ _ _ Hf.out Hf'.out).mono ?_; rintro e w1 ⟨rfl, rfl⟩)
  go_ret
  exact ⟨rfl, below_drewN (((Below.refl _ _).alloc (Nat.le_refl _) _).alloc (by simp) _) _⟩

theorem rcmp_22 (n n' : Int) (b b' : Bool) (f f' : Nat) (s s' : ByteArray) (l l' : List T) (v v' : Value) (w : World) (h : Rd w w.heap.size (.mk 2 b n f s l) v) (h' : Rd w w.heap.size (.mk 2 b' n' f' s' l') v') :
    Calls Try.prog 9 #[v, v'] w fun e w' => e = .returned (.int .i64 (cmpI n n')) ∧ Below w.heap.size w w' := by
  obtain ⟨A, cap, rfl, hk, hn, hf, hs, hc, hm, hA, hl⟩ := h.open
  obtain ⟨A', cap', rfl, hk', hn', hf', hs', hc', hm', hA', hl'⟩ := h'.open
  have Hn := Lib.hid hn; have Hn' := Lib.hid hn'; have Hf := Lib.hid hf; have Hf' := Lib.hid hf'
  clear hk hn hA h hk' hn' hA' h' hs hs' hf hf'
  go_enter Try.func9, Try.ntmps9
  go_wp2_with fail
  go_quiet ((go_at_call 22; exact quiet_left (class_any _ _)))
  go_wp2_with (go_at_call 23; refine (sign_any _ _ _).mono ?_; rintro e w1 ⟨rfl, rfl⟩)
  go_ret
  exact ⟨ret_int (sgn_ints n n'), below_drewN (((Below.refl _ _).alloc (Nat.le_refl _) _).alloc (by simp) _) _⟩

theorem rcmp_text (n n' : Int) (b b' : Bool) (f f' : Nat) (s s' : ByteArray) (l l' : List T) (v v' : Value) (w : World) (h : Rd w w.heap.size (.mk 4 b n f s l) v) (h' : Rd w w.heap.size (.mk 4 b' n' f' s' l') v') :
    Calls Try.prog 9 #[v, v'] w fun e w' => e = .returned (.int .i64 (cmpS s s')) ∧ Below w.heap.size w w' := by
  obtain ⟨A, cap, rfl, hk, hn, hf, hs, hc, hm, hA, hl⟩ := h.open
  obtain ⟨A', cap', rfl, hk', hn', hf', hs', hc', hm', hA', hl'⟩ := h'.open
  have Hn := Lib.hid hn; have Hn' := Lib.hid hn'; have Hf := Lib.hid hf; have Hf' := Lib.hid hf'
  clear hk hn hA h hk' hn' hA' h' hs hs' hf hf'
  rw [sgn_strings]
  go_enter Try.func9, Try.ntmps9
  go_wp2_with fail
  go_quiet ((go_at_call 22; exact quiet_left (class_any _ _)))
  go_wp2_with (go_at_call 23; refine (sign_any _ _ _).mono ?_; rintro e w1 ⟨rfl, rfl⟩)
  go_ret
  exact ⟨rfl, below_drewN (((Below.refl _ _).alloc (Nat.le_refl _) _).alloc (by simp) _) _⟩

theorem rcmp_other (k n n' : Int) (b b' : Bool) (f f' : Nat) (s s' : ByteArray) (l l' : List T) (v v' : Value) (w : World) (k1 : k ≠ 1) (k2 : k ≠ 2) (k3 : k ≠ 3) (k4 : k ≠ 4) (k5 : k ≠ 5) (k6 : k ≠ 6) (h : Rd w w.heap.size (.mk k b n f s l) v) (h' : Rd w w.heap.size (.mk k b' n' f' s' l') v') :
    Calls Try.prog 9 #[v, v'] w fun e w' => e = .returned (.int .i64 (cmpI n n')) ∧ Below w.heap.size w w' := by
  obtain ⟨A, cap, rfl, hk, hn, hf, hs, hc, hm, hA, hl⟩ := h.open
  obtain ⟨A', cap', rfl, hk', hn', hf', hs', hc', hm', hA', hl'⟩ := h'.open
  have Hn := Lib.hid hn; have Hn' := Lib.hid hn'; have Hf := Lib.hid hf; have Hf' := Lib.hid hf'
  clear hk hn hA h hk' hn' hA' h' hs hs' hf hf'
  have d1 : (k == 1) = false := by simpa using k1
  have d2 : (k == 2) = false := by simpa using k2
  have d3 : (k == 3) = false := by simpa using k3
  have d4 : (k == 4) = false := by simpa using k4
  have d5 : (k == 5) = false := by simpa using k5
  have d6 : (k == 6) = false := by simpa using k6
  clear k1 k2 k3 k4 k5 k6
  go_enter Try.func9, Try.ntmps9
  go_wp2_with fail
  go_quiet ((go_at_call 22; exact quiet_left (class_any _ _)))
  go_wp2_with (go_at_call 23; refine (sign_any _ _ _).mono ?_; rintro e w1 ⟨rfl, rfl⟩)
  go_ret
  exact ⟨ret_int (sgn_ints n n'), below_drewN (((Below.refl _ _).alloc (Nat.le_refl _) _).alloc (by simp) _) _⟩

theorem rcmp_apart (k k' n n' : Int) (b b' : Bool) (f f' : Nat) (s s' : ByteArray) (l l' : List T) (v v' : Value) (w : World) (hne : rk k ≠ rk k') (h : Rd w w.heap.size (.mk k b n f s l) v) (h' : Rd w w.heap.size (.mk k' b' n' f' s' l') v') :
    Calls Try.prog 9 #[v, v'] w fun e w' => e = .returned (.int .i64 (cmpI (rk k) (rk k'))) ∧ Below w.heap.size w w' := by
  obtain ⟨A, cap, rfl, hk, hn, hf, hs, hc, hm, hA, hl⟩ := h.open
  obtain ⟨A', cap', rfl, hk', hn', hf', hs', hc', hm', hA', hl'⟩ := h'.open
  have Hn := Lib.hid hn; have Hn' := Lib.hid hn'; have Hf := Lib.hid hf; have Hf' := Lib.hid hf'
  clear hk hn hA h hk' hn' hA' h' hs hs' hf hf'
  have d1 : (rk k != rk k') = true := by simpa using hne
  have d2 : (rk k == rk k') = false := by simpa using hne
  have e0 : cmpI (rk k) (rk k') = sgnB (decide (rk k < rk k')) true := by
    unfold cmpI sgnB
    by_cases h : rk k < rk k'
    · simp [h]
    · simp [h]; omega
  rw [e0]
  clear hne e0
  go_enter Try.func9, Try.ntmps9
  go_wp2_with fail
  go_quiet ((go_at_call 22; exact quiet_left (class_any _ _)))
  go_wp2_with fail
  go_quiet (first | (go_at_call 22; exact quiet_left (class_any _ _)) | (go_at_call 23; exact quiet_add_left (sign_any _ _ _)) | (go_at_call 22; exact quiet_add_left (class_any _ _)))
  go_wp2_with fail
  go_ret
  exact ⟨rfl, below_drewN (below_drewN (((Below.refl _ _).alloc (Nat.le_refl _) _).alloc (by simp) _) _) _⟩

end Go.Proofs.Ytaonlbmicjoclaa
