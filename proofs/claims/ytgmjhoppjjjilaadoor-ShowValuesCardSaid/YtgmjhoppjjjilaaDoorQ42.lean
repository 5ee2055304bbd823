/- CmpB, CmpR, CmpS -/
import Derived.Test.YtgmjhoppjjjilaaDoorQ36
import Derived.StillTailTactics
import Derived.Deep.RegionWith

/- val.Cmp and its reference -/
namespace Go.Proofs.YtgmjhoppjjjilaaDoor
open Go.ChangeShapes Go.WideShapes Go.ChangeAt Go.RowKit Go.Fl

theorem mix_cases (n : Int) (b : Nat) : -1 ≤ mixN n b ∧ mixN n b ≤ 1 := by
  have := cmp_cases (fw (flo n)) b
  unfold mixN; split
  · split <;> omega
  · exact this

end Go.Proofs.YtgmjhoppjjjilaaDoor

/- the reference of val.Cmp -/
namespace Go.Proofs.YtgmjhoppjjjilaaDoor
open Go.ChangeShapes Go.WideShapes Go.ChangeAt Go.RowKit Go.Fl

theorem sgn_strings (s s' : ByteArray) : cmpS s s' = sgnB (Op.bytesLess s.toList s'.toList) (!Op.bytesLess s.toList s'.toList && !s.toList == s'.toList) := by
  unfold cmpS sgnB
  cases Op.bytesLess s.toList s'.toList <;> cases (s.toList == s'.toList) <;> rfl

theorem rsign_any (a b : Bool) (w : World) (x : Int) (hx : x = sgnB a b) : Calls Tryd.prog 70 #[.bool a, .bool b] w fun e w' => e = .returned (.int .i64 x) ∧ w = w' := by
  subst hx; exact sign_any a b w

theorem rcmp_bool (n n' : Int) (b b' : Bool) (f f' : Nat) (s s' : ByteArray) (l l' : List T) (v v' : Value) (w : World) (h : Rd w w.heap.size (.mk 1 b n f s l) v) (h' : Rd w w.heap.size (.mk 1 b' n' f' s' l') v') :
    Calls Tryd.prog 48 #[v, v'] w fun e w' => e = .returned (.int .i64 (cmpBo b b')) ∧ Below w.heap.size w w' := by
  obtain ⟨A, cap, rfl, hk, hn, hf, hs, hc, hm, hA, hl⟩ := h.open
  obtain ⟨A', cap', rfl, hk', hn', hf', hs', hc', hm', hA', hl'⟩ := h'.open
  have Hn := Lib.hid hn; have Hn' := Lib.hid hn'; have Hf := Lib.hid hf; have Hf' := Lib.hid hf'
  clear hk hn hA h hk' hn' hA' h' hs hs' hf hf'
  cases b <;> cases b'
  all_goals
    go_enter Tryd.func48, Tryd.ntmps48
    go_wp2_with fail
    go_quiet ((go_at_call 69; exact quiet_left (class_any _ _)))
    go_wp2_with (go_at_call 70; refine (sign_any _ _ _).mono ?_; rintro e w1 ⟨rfl, rfl⟩)
    go_ret
    exact ⟨rfl, below_drewN (((Below.refl _ _).alloc (Nat.le_refl _) _).alloc (by simp) _) _⟩

theorem rcmp_23 (n n' : Int) (b b' : Bool) (f f' : Nat) (s s' : ByteArray) (l l' : List T) (v v' : Value) (w : World) (h : Rd w w.heap.size (.mk 2 b n f s l) v) (h' : Rd w w.heap.size (.mk 3 b' n' f' s' l') v') :
    Calls Tryd.prog 48 #[v, v'] w fun e w' => e = .returned (.int .i64 (mixN n f')) ∧ Below w.heap.size w w' := by
  obtain ⟨A, cap, rfl, hk, hn, hf, hs, hc, hm, hA, hl⟩ := h.open
  obtain ⟨A', cap', rfl, hk', hn', hf', hs', hc', hm', hA', hl'⟩ := h'.open
  have Hn := Lib.hid hn; have Hn' := Lib.hid hn'; have Hf := Lib.hid hf; have Hf' := Lib.hid hf'
  clear hk hn hA h hk' hn' hA' h' hs hs' hf hf'
  go_enter Tryd.func48, Tryd.ntmps48
  go_wp2_with fail
  go_quiet ((go_at_call 69; exact quiet_left (class_any _ _)))
  go_wp2_with (go_at_call 71; refine (rmix_any _ _ _ Hn.out Hf'.out).mono ?_; rintro e w1 ⟨rfl, rfl⟩)
  go_ret
  exact ⟨rfl, below_drewN (((Below.refl _ _).alloc (Nat.le_refl _) _).alloc (by simp) _) _⟩

theorem rcmp_32 (n n' : Int) (b b' : Bool) (f f' : Nat) (s s' : ByteArray) (l l' : List T) (v v' : Value) (w : World) (h : Rd w w.heap.size (.mk 3 b n f s l) v) (h' : Rd w w.heap.size (.mk 2 b' n' f' s' l') v') :
    Calls Tryd.prog 48 #[v, v'] w fun e w' => e = .returned (.int .i64 (-mixN n' f)) ∧ Below w.heap.size w w' := by
  obtain ⟨A, cap, rfl, hk, hn, hf, hs, hc, hm, hA, hl⟩ := h.open
  obtain ⟨A', cap', rfl, hk', hn', hf', hs', hc', hm', hA', hl'⟩ := h'.open
  have Hn := Lib.hid hn; have Hn' := Lib.hid hn'; have Hf := Lib.hid hf; have Hf' := Lib.hid hf'
  clear hk hn hA h hk' hn' hA' h' hs hs' hf hf'
  obtain ⟨x1, x2⟩ := mix_cases n' f
  go_enter Tryd.func48, Tryd.ntmps48
  go_wp2_with fail
  go_quiet ((go_at_call 69; exact quiet_left (class_any _ _)))
  go_wp2_with (go_at_call 71; refine (rmix_any _ _ _ Hn'.out Hf.out).mono ?_; rintro e w1 ⟨rfl, rfl⟩)
  go_ret
  exact ⟨rfl, below_drewN (((Below.refl _ _).alloc (Nat.le_refl _) _).alloc (by simp) _) _⟩

theorem rcmp_33 (n n' : Int) (b b' : Bool) (f f' : Nat) (s s' : ByteArray) (l l' : List T) (v v' : Value) (w : World) (h : Rd w w.heap.size (.mk 3 b n f s l) v) (h' : Rd w w.heap.size (.mk 3 b' n' f' s' l') v') :
    Calls Tryd.prog 48 #[v, v'] w fun e w' => e = .returned (.int .i64 (cmpN f f')) ∧ Below w.heap.size w w' := by
  obtain ⟨A, cap, rfl, hk, hn, hf, hs, hc, hm, hA, hl⟩ := h.open
  obtain ⟨A', cap', rfl, hk', hn', hf', hs', hc', hm', hA', hl'⟩ := h'.open
  have Hn := Lib.hid hn; have Hn' := Lib.hid hn'; have Hf := Lib.hid hf; have Hf' := Lib.hid hf'
  clear hk hn hA h hk' hn' hA' h' hs hs' hf hf'
  go_enter Tryd.func48, Tryd.ntmps48
  go_wp2_with fail
  go_quiet ((go_at_call 69; exact quiet_left (class_any _ _)))
  go_wp2_with (go_at_call 72; refine (rcmp_any _ _ _ Hf.out Hf'.out).mono ?_; rintro e w1 ⟨rfl, rfl⟩)
  go_ret
  exact ⟨rfl, below_drewN (((Below.refl _ _).alloc (Nat.le_refl _) _).alloc (by simp) _) _⟩

theorem rcmp_22 (n n' : Int) (b b' : Bool) (f f' : Nat) (s s' : ByteArray) (l l' : List T) (v v' : Value) (w : World) (h : Rd w w.heap.size (.mk 2 b n f s l) v) (h' : Rd w w.heap.size (.mk 2 b' n' f' s' l') v') :
    Calls Tryd.prog 48 #[v, v'] w fun e w' => e = .returned (.int .i64 (cmpI n n')) ∧ Below w.heap.size w w' := by
  obtain ⟨A, cap, rfl, hk, hn, hf, hs, hc, hm, hA, hl⟩ := h.open
  obtain ⟨A', cap', rfl, hk', hn', hf', hs', hc', hm', hA', hl'⟩ := h'.open
  have Hn := Lib.hid hn; have Hn' := Lib.hid hn'; have Hf := Lib.hid hf; have Hf' := Lib.hid hf'
  clear hk hn hA h hk' hn' hA' h' hs hs' hf hf'
  go_enter Tryd.func48, Tryd.ntmps48
  go_wp2_with fail
  go_quiet ((go_at_call 69; exact quiet_left (class_any _ _)))
  go_wp2_with (go_at_call 70; refine (sign_any _ _ _).mono ?_; rintro e w1 ⟨rfl, rfl⟩)
  go_ret
  exact ⟨ret_int (sgn_ints n n'), below_drewN (((Below.refl _ _).alloc (Nat.le_refl _) _).alloc (by simp) _) _⟩

theorem rcmp_text (n n' : Int) (b b' : Bool) (f f' : Nat) (s s' : ByteArray) (l l' : List T) (v v' : Value) (w : World) (h : Rd w w.heap.size (.mk 4 b n f s l) v) (h' : Rd w w.heap.size (.mk 4 b' n' f' s' l') v') :
    Calls Tryd.prog 48 #[v, v'] w fun e w' => e = .returned (.int .i64 (cmpS s s')) ∧ Below w.heap.size w w' := by
  obtain ⟨A, cap, rfl, hk, hn, hf, hs, hc, hm, hA, hl⟩ := h.open
  obtain ⟨A', cap', rfl, hk', hn', hf', hs', hc', hm', hA', hl'⟩ := h'.open
  have Hn := Lib.hid hn; have Hn' := Lib.hid hn'; have Hf := Lib.hid hf; have Hf' := Lib.hid hf'
  clear hk hn hA h hk' hn' hA' h' hs hs' hf hf'
  rw [sgn_strings]
  go_enter Tryd.func48, Tryd.ntmps48
  go_wp2_with fail
  go_quiet ((go_at_call 69; exact quiet_left (class_any _ _)))
  go_wp2_with (go_at_call 70; refine (sign_any _ _ _).mono ?_; rintro e w1 ⟨rfl, rfl⟩)
  go_ret
  exact ⟨rfl, below_drewN (((Below.refl _ _).alloc (Nat.le_refl _) _).alloc (by simp) _) _⟩

theorem rcmp_other (k n n' : Int) (b b' : Bool) (f f' : Nat) (s s' : ByteArray) (l l' : List T) (v v' : Value) (w : World) (k1 : k ≠ 1) (k2 : k ≠ 2) (k3 : k ≠ 3) (k4 : k ≠ 4) (k5 : k ≠ 5) (k6 : k ≠ 6) (h : Rd w w.heap.size (.mk k b n f s l) v) (h' : Rd w w.heap.size (.mk k b' n' f' s' l') v') :
    Calls Tryd.prog 48 #[v, v'] w fun e w' => e = .returned (.int .i64 (cmpI n n')) ∧ Below w.heap.size w w' := by
  obtain ⟨A, cap, rfl, hk, hn, hf, hs, hc, hm, hA, hl⟩ := h.open
  obtain ⟨A', cap', rfl, hk', hn', hf', hs', hc', hm', hA', hl'⟩ := h'.open
  have Hn := Lib.hid hn; have Hn' := Lib.hid hn'; have Hf := Lib.hid hf; have Hf' := Lib.hid hf'
  clear hk hn hA h hk' hn' hA' h' hs hs' hf hf'
  have d1 : (k == 1) = false := by simpa using k1
  have d2 : (k == 2) = false := by simpa using k2
  have d3 : (k == 3) = false := by simpa using k3
  have d4 : (k == 4) = false := by simpa using k4
  have d5 : (k == 5) = false := by simpa using k5
  have d6 : (k == 6) = false := by simpa using k6
  clear k1 k2 k3 k4 k5 k6
  go_enter Tryd.func48, Tryd.ntmps48
  go_wp2_with fail
  go_quiet ((go_at_call 69; exact quiet_left (class_any _ _)))
  go_wp2_with (go_at_call 70; refine (sign_any _ _ _).mono ?_; rintro e w1 ⟨rfl, rfl⟩)
  go_ret
  exact ⟨ret_int (sgn_ints n n'), below_drewN (((Below.refl _ _).alloc (Nat.le_refl _) _).alloc (by simp) _) _⟩

theorem rcmp_apart (k k' n n' : Int) (b b' : Bool) (f f' : Nat) (s s' : ByteArray) (l l' : List T) (v v' : Value) (w : World) (hne : rk k ≠ rk k') (h : Rd w w.heap.size (.mk k b n f s l) v) (h' : Rd w w.heap.size (.mk k' b' n' f' s' l') v') :
    Calls Tryd.prog 48 #[v, v'] w fun e w' => e = .returned (.int .i64 (cmpI (rk k) (rk k'))) ∧ Below w.heap.size w w' := by
  obtain ⟨A, cap, rfl, hk, hn, hf, hs, hc, hm, hA, hl⟩ := h.open
  obtain ⟨A', cap', rfl, hk', hn', hf', hs', hc', hm', hA', hl'⟩ := h'.open
  have Hn := Lib.hid hn; have Hn' := Lib.hid hn'; have Hf := Lib.hid hf; have Hf' := Lib.hid hf'
  clear hk hn hA h hk' hn' hA' h' hs hs' hf hf'
  have d1 : (rk k != rk k') = true := by simpa using hne
  have d2 : (rk k == rk k') = false := by simpa using hne
  have e0 : cmpI (rk k) (rk k') = sgnB (decide (rk k < rk k')) true := by
    unfold cmpI sgnB
    by_cases h : rk k < rk k'
    · simp [h]
    · simp [h]; omega
  rw [e0]
  clear hne e0
  go_enter Tryd.func48, Tryd.ntmps48
  go_wp2_with fail
  go_quiet ((go_at_call 69; exact quiet_left (class_any _ _)))
  go_wp2_with fail
  go_quiet (first | (go_at_call 69; exact quiet_left (class_any _ _)) | (go_at_call 70; exact quiet_add_left (sign_any _ _ _)) | (go_at_call 69; exact quiet_add_left (class_any _ _)))
  go_wp2_with fail
  go_ret
  exact ⟨rfl, below_drewN (below_drewN (((Below.refl _ _).alloc (Nat.le_refl _) _).alloc (by simp) _) _) _⟩

end Go.Proofs.YtgmjhoppjjjilaaDoor

/- the reference of val.Cmp: lists, and all -/
namespace Go.Proofs.YtgmjhoppjjjilaaDoor
open Go.ChangeShapes Go.WideShapes Go.ChangeAt Go.RowKit Go.Fl

theorem sgn_nats (a b : Nat) : sgnB (decide (a < b)) (decide (b < a)) = cmpI a b := by
  rw [← sgn_ints]; simp

theorem cmpNum_22 (n n' : Int) (f f' : Nat) : cmpNum 2 n f 2 n' f' = cmpI n n' := by unfold cmpNum; rw [if_pos rfl, if_pos rfl]

theorem cmpNum_23 (n n' : Int) (f f' : Nat) : cmpNum 2 n f 3 n' f' = mixN n f' := by unfold cmpNum; rw [if_pos rfl, if_neg (by decide)]

theorem cmpNum_32 (n n' : Int) (f f' : Nat) : cmpNum 3 n f 2 n' f' = -mixN n' f := by unfold cmpNum; rw [if_neg (by decide), if_pos rfl]

theorem cmpNum_33 (n n' : Int) (f f' : Nat) : cmpNum 3 n f 3 n' f' = cmpN f f' := by unfold cmpNum; rw [if_neg (by decide), if_neg (by decide)]

/-- the contract of the reference's Cmp at one left side, whatever the right one -/
def RCmpAt (a : T) : Prop := ∀ (b : T) (v v' : Value) (w : World), Rd w w.heap.size a v → Rd w w.heap.size b v' →
  Calls Tryd.prog 48 #[v, v'] w fun e w' => e = .returned (.int .i64 (cmpT a b)) ∧ Below w.heap.size w w'

set_option maxRecDepth 100000 in
theorem rcmp_list5 (n n' : Int) (b b' : Bool) (f f' : Nat) (s s' : ByteArray) (l l' : List T) (v v' : Value) (w : World) (ih : ∀ i (hi : i < l.length), RCmpAt l[i]) (h : Rd w w.heap.size (.mk 5 b n f s l) v) (h' : Rd w w.heap.size (.mk 5 b' n' f' s' l') v') :
    Calls Tryd.prog 48 #[v, v'] w fun e w' => e = .returned (.int .i64 (cmpL l l')) ∧ Below w.heap.size w w' := by
  obtain ⟨A, cap, rfl, hk, hn, hf, hs, hc, hm, hA, hl⟩ := h.open
  obtain ⟨A', cap', rfl, hk', hn', hf', hs', hc', hm', hA', hl'⟩ := h'.open
  have Hn := Lib.hid hn; have Hn' := Lib.hid hn'; have Hf := Lib.hid hf; have Hf' := Lib.hid hf'
  clear hk hn hA h hk' hn' hA' h' hs hs' hf hf'
  have IH := Lib.hid ih; clear ih
  have HE := Lib.hid (show cmpL l l' = cmpL (l.drop 0) (l'.drop 0) by rfl)
  go_enter Tryd.func48, Tryd.ntmps48
  go_wp2_with fail
  go_quiet ((go_at_call 69; exact quiet_left (class_any _ _)))
  go_wp2_with fail
  have hb2 := below_drewN (((Below.refl w.heap.size w).alloc (Nat.le_refl _) (.cells #[.int .i64 5, .bool b, .int .i64 n, .float .f64 f, .string s, .slice A l.length cap] 25)).alloc (by simp) (.cells #[.int .i64 5, .bool b', .int .i64 n', .float .f64 f', .string s', .slice A' l'.length cap'] 25)) nq
  go_loopw [5, 6] (fun si _ wr => ∃ i : Nat, i ≤ l.length ∧ i ≤ l'.length ∧ si = .int .i64 i ∧ Hid (cmpL l l' = cmpL (l.drop i) (l'.drop i)) ∧
      Below (w.heap.size + 2) (((w.alloc (.cells #[.int .i64 5, .bool b, .int .i64 n, .float .f64 f, .string s, .slice A l.length cap] 25)).alloc (.cells #[.int .i64 5, .bool b', .int .i64 n', .float .f64 f', .string s', .slice A' l'.length cap'] 25)).drewN nq) wr) (fun si _ _ => l.length - (intOf si).toNat)
  case atStart => exact ⟨0, by omega, by omega, rfl, HE, Below.refl _ _⟩
  case round =>
    obtain ⟨i, hi, hi', rfl, HI, hbr⟩ := hrel
    have hb := hb2.trans (hbr.mono (Nat.le_add_right _ _))
    have hz : w.heap.size + 2 ≤ wr.heap.size := by have := hbr.size; simpa using this
    have hcell := hbr.cell (p := ⟨w.heap.size, 5, none⟩) (by simp)
    have hcell' := hbr.cell (p := ⟨w.heap.size + 1, 5, none⟩) (by simp)
    by_cases hlt : i < l.length
    · obtain ⟨a, k, b, n, f, s, q, D, capi, rfl, hab, -, hrd, e0, e1, e2, e3, e4, e5⟩ := (hl.on hb).item hlt
      by_cases hlt' : i < l'.length
      · obtain ⟨a', k', b', n', f', s', q', D', capi', rfl, hab', -, hrd', e0', e1', e2', e3', e4', e5'⟩ := (hl'.on hb).item hlt'
        have IHi := Lib.hid (IH.out i hlt)
        have HS : Hid (cmpL l l' = lex (cmpT l[i] l'[i]) (cmpL (l.drop (i + 1)) (l'.drop (i + 1)))) := by rw [HI.out, List.drop_eq_getElem_cons hlt, List.drop_eq_getElem_cons hlt', cmpL]; rfl
        go_wp2_with fail
        go_still_tail 10, (by kernel_rfl)
        go_wp2_with fail
        refine (IHi.out _ _ _ _ (hrd.on ((Below.refl _ _).drew)) (hrd'.on ((Below.refl _ _).drew))).mono ?_
        rintro e w1 ⟨rfl, hb1⟩
        have hb3 := hbr.trans (((Below.refl wr.heap.size wr).drew.trans hb1).mono hz)
        have hb4 := hb2.trans (hb3.mono (Nat.le_add_right _ _))
        by_cases hc0 : cmpT l[i] l'[i] = 0
        · have HS' : Hid (cmpL l l' = cmpL (l.drop (i + 1)) (l'.drop (i + 1))) := by rw [HS.out]; unfold lex; rw [if_pos hc0]; rfl
          go_wp2_with fail
          go_roundw
          case rel => exact ⟨i + 1, by omega, by omega, by go_num, HS', hb3⟩
          case measure => simp [intOf]; omega
        · have d1 : (cmpT l[i] l'[i] != 0) = true := by simpa using hc0
          have d2 : (cmpT l[i] l'[i] == 0) = false := by simpa using hc0
          have HS' : Hid (cmpL l l' = cmpT l[i] l'[i]) := by rw [HS.out]; unfold lex; rw [if_neg hc0]; rfl
          clear hc0
          go_wp2_with fail
          go_ret
          exact ⟨ret_int HS'.out.symm, hb4⟩
      · go_wp2_with fail
        refine (sign_any _ _ _).mono ?_
        rintro e w1 ⟨rfl, rfl⟩
        go_wp2_with fail
        go_ret
        exact ⟨ret_int (by rw [sgn_nats, HI.out, List.drop_eq_getElem_cons hlt, List.drop_eq_nil_of_le (by omega : l'.length ≤ i), cmpL]; unfold cmpI; rw [if_neg (by omega), if_pos (by omega)]), hb⟩
    · go_wp2_with fail
      refine (sign_any _ _ _).mono ?_
      rintro e w1 ⟨rfl, rfl⟩
      go_wp2_with fail
      go_ret
      refine ⟨ret_int ?_, hb⟩
      rw [sgn_nats, HI.out, List.drop_eq_nil_of_le (by omega : l.length ≤ i)]
      by_cases hlt' : i < l'.length
      · rw [List.drop_eq_getElem_cons hlt', cmpL]; unfold cmpI; rw [if_pos (by omega)]
      · rw [List.drop_eq_nil_of_le (by omega : l'.length ≤ i), cmpL]; unfold cmpI; rw [if_neg (by omega), if_neg (by omega)]

set_option maxRecDepth 100000 in
theorem rcmp_list6 (n n' : Int) (b b' : Bool) (f f' : Nat) (s s' : ByteArray) (l l' : List T) (v v' : Value) (w : World) (ih : ∀ i (hi : i < l.length), RCmpAt l[i]) (h : Rd w w.heap.size (.mk 6 b n f s l) v) (h' : Rd w w.heap.size (.mk 6 b' n' f' s' l') v') :
    Calls Tryd.prog 48 #[v, v'] w fun e w' => e = .returned (.int .i64 (cmpL l l')) ∧ Below w.heap.size w w' := by
  obtain ⟨A, cap, rfl, hk, hn, hf, hs, hc, hm, hA, hl⟩ := h.open
  obtain ⟨A', cap', rfl, hk', hn', hf', hs', hc', hm', hA', hl'⟩ := h'.open
  have Hn := Lib.hid hn; have Hn' := Lib.hid hn'; have Hf := Lib.hid hf; have Hf' := Lib.hid hf'
  clear hk hn hA h hk' hn' hA' h' hs hs' hf hf'
  have IH := Lib.hid ih; clear ih
  have HE := Lib.hid (show cmpL l l' = cmpL (l.drop 0) (l'.drop 0) by rfl)
  go_enter Tryd.func48, Tryd.ntmps48
  go_wp2_with fail
  go_quiet ((go_at_call 69; exact quiet_left (class_any _ _)))
  go_wp2_with fail
  have hb2 := below_drewN (((Below.refl w.heap.size w).alloc (Nat.le_refl _) (.cells #[.int .i64 6, .bool b, .int .i64 n, .float .f64 f, .string s, .slice A l.length cap] 25)).alloc (by simp) (.cells #[.int .i64 6, .bool b', .int .i64 n', .float .f64 f', .string s', .slice A' l'.length cap'] 25)) nq
  go_loopw [5, 6] (fun si _ wr => ∃ i : Nat, i ≤ l.length ∧ i ≤ l'.length ∧ si = .int .i64 i ∧ Hid (cmpL l l' = cmpL (l.drop i) (l'.drop i)) ∧
      Below (w.heap.size + 2) (((w.alloc (.cells #[.int .i64 6, .bool b, .int .i64 n, .float .f64 f, .string s, .slice A l.length cap] 25)).alloc (.cells #[.int .i64 6, .bool b', .int .i64 n', .float .f64 f', .string s', .slice A' l'.length cap'] 25)).drewN nq) wr) (fun si _ _ => l.length - (intOf si).toNat)
  case atStart => exact ⟨0, by omega, by omega, rfl, HE, Below.refl _ _⟩
  case round =>
    obtain ⟨i, hi, hi', rfl, HI, hbr⟩ := hrel
    have hb := hb2.trans (hbr.mono (Nat.le_add_right _ _))
    have hz : w.heap.size + 2 ≤ wr.heap.size := by have := hbr.size; simpa using this
    have hcell := hbr.cell (p := ⟨w.heap.size, 5, none⟩) (by simp)
    have hcell' := hbr.cell (p := ⟨w.heap.size + 1, 5, none⟩) (by simp)
    by_cases hlt : i < l.length
    · obtain ⟨a, k, b, n, f, s, q, D, capi, rfl, hab, -, hrd, e0, e1, e2, e3, e4, e5⟩ := (hl.on hb).item hlt
      by_cases hlt' : i < l'.length
      · obtain ⟨a', k', b', n', f', s', q', D', capi', rfl, hab', -, hrd', e0', e1', e2', e3', e4', e5'⟩ := (hl'.on hb).item hlt'
        have IHi := Lib.hid (IH.out i hlt)
        have HS : Hid (cmpL l l' = lex (cmpT l[i] l'[i]) (cmpL (l.drop (i + 1)) (l'.drop (i + 1)))) := by rw [HI.out, List.drop_eq_getElem_cons hlt, List.drop_eq_getElem_cons hlt', cmpL]; rfl
        go_wp2_with fail
        go_still_tail 10, (by kernel_rfl)
        go_wp2_with fail
        refine (IHi.out _ _ _ _ (hrd.on ((Below.refl _ _).drew)) (hrd'.on ((Below.refl _ _).drew))).mono ?_
        rintro e w1 ⟨rfl, hb1⟩
        have hb3 := hbr.trans (((Below.refl wr.heap.size wr).drew.trans hb1).mono hz)
        have hb4 := hb2.trans (hb3.mono (Nat.le_add_right _ _))
        by_cases hc0 : cmpT l[i] l'[i] = 0
        · have HS' : Hid (cmpL l l' = cmpL (l.drop (i + 1)) (l'.drop (i + 1))) := by rw [HS.out]; unfold lex; rw [if_pos hc0]; rfl
          go_wp2_with fail
          go_roundw
          case rel => exact ⟨i + 1, by omega, by omega, by go_num, HS', hb3⟩
          case measure => simp [intOf]; omega
        · have d1 : (cmpT l[i] l'[i] != 0) = true := by simpa using hc0
          have d2 : (cmpT l[i] l'[i] == 0) = false := by simpa using hc0
          have HS' : Hid (cmpL l l' = cmpT l[i] l'[i]) := by rw [HS.out]; unfold lex; rw [if_neg hc0]; rfl
          clear hc0
          go_wp2_with fail
          go_ret
          exact ⟨ret_int HS'.out.symm, hb4⟩
      · go_wp2_with fail
        refine (sign_any _ _ _).mono ?_
        rintro e w1 ⟨rfl, rfl⟩
        go_wp2_with fail
        go_ret
        exact ⟨ret_int (by rw [sgn_nats, HI.out, List.drop_eq_getElem_cons hlt, List.drop_eq_nil_of_le (by omega : l'.length ≤ i), cmpL]; unfold cmpI; rw [if_neg (by omega), if_pos (by omega)]), hb⟩
    · go_wp2_with fail
      refine (sign_any _ _ _).mono ?_
      rintro e w1 ⟨rfl, rfl⟩
      go_wp2_with fail
      go_ret
      refine ⟨ret_int ?_, hb⟩
      rw [sgn_nats, HI.out, List.drop_eq_nil_of_le (by omega : l.length ≤ i)]
      by_cases hlt' : i < l'.length
      · rw [List.drop_eq_getElem_cons hlt', cmpL]; unfold cmpI; rw [if_pos (by omega)]
      · rw [List.drop_eq_nil_of_le (by omega : l'.length ≤ i), cmpL]; unfold cmpI; rw [if_neg (by omega), if_neg (by omega)]

theorem rcmp_at (a : T) : RCmpAt a := by
  induction a using T.ind with | h k b n f s l ih => _
  rintro ⟨k', b', n', f', s', l'⟩ v v' w h h'
  rw [cmpT]
  obtain ⟨A, cap, -, hk, hn, hf, hs, -⟩ := h.open
  obtain ⟨A', cap', -, hk', hn', hf', hs', -⟩ := h'.open
  by_cases hr : cmpI (rk k) (rk k') = 0
  · obtain ⟨q1, q2, q3, q4⟩ := rk_same hr
    rw [show ∀ x, lex (cmpI (rk k) (rk k')) x = x from fun x => by unfold lex; rw [if_pos hr]]
    by_cases k1 : k = 1
    · have e := q1.1 k1; subst k1 e
      exact rcmp_bool n n' b b' f f' s s' l l' v v' w h h'
    by_cases k23 : k = 2 ∨ k = 3
    · have e0 : (if k = 1 then cmpBo b b' else if k = 2 ∨ k = 3 then cmpP (posK k n f) (posK k' n' f') else if k = 4 then cmpS s s' else if k = 5 ∨ k = 6 then cmpL l l' else cmpI n n') = cmpNum k n f k' n' f' := by rw [cmpNum_eq hn hn', if_neg k1, if_pos k23]
      rw [e0]
      rcases k23 with rfl | rfl <;> rcases q2.1 (by decide) with rfl | rfl
      · rw [cmpNum_22]; exact rcmp_22 n n' b b' f f' s s' l l' v v' w h h'
      · rw [cmpNum_23]; exact rcmp_23 n n' b b' f f' s s' l l' v v' w h h'
      · rw [cmpNum_32]; exact rcmp_32 n n' b b' f f' s s' l l' v v' w h h'
      · rw [cmpNum_33]; exact rcmp_33 n n' b b' f f' s s' l l' v v' w h h'
    rw [if_neg k1, if_neg k23]
    by_cases k4 : k = 4
    · have e := q3.1 k4; subst k4 e
      exact rcmp_text n n' b b' f f' s s' l l' v v' w h h'
    rw [if_neg k4]
    have hkk : k' = k := by
      have := (cmpI_iff _ _).2.1.1 hr
      unfold rk at this
      split at this <;> split at this <;> omega
    subst hkk
    by_cases k56 : k' = 5 ∨ k' = 6
    · rw [if_pos k56]
      rcases k56 with rfl | rfl
      · exact rcmp_list5 n n' b b' f f' s s' l l' v v' w ih h h'
      · exact rcmp_list6 n n' b b' f f' s s' l l' v v' w ih h h'
    · rw [if_neg k56]
      exact rcmp_other k' n n' b b' f f' s s' l l' v v' w k1 (by omega) (by omega) k4 (by omega) (by omega) h h'
  · rw [show ∀ x, lex (cmpI (rk k) (rk k')) x = cmpI (rk k) (rk k') from fun x => by unfold lex; rw [if_neg hr]]
    exact rcmp_apart k k' n n' b b' f f' s s' l l' v v' w (fun e => hr ((cmpI_iff _ _).2.1.2 e)) h h'

theorem rfcmp_any {a b : T} {v v' : Value} {w : World} (h : Rd w w.heap.size a v) (h' : Rd w w.heap.size b v') :
    Calls Tryd.prog 48 #[v, v'] w fun e w' => e = .returned (.int .i64 (cmpT a b)) ∧ Below w.heap.size w w' := rcmp_at a b v v' w h h'

end Go.Proofs.YtgmjhoppjjjilaaDoor
