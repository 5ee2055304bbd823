/- val.Cmp and its reference -/
import Derived.Test.YtaonlbmicjoclaaOrd
namespace Go.Proofs.Ytaonlbmicjoclaa
open Go.ChangeShapes Go.WideShapes Go.ChangeAt Go.RowKit Go.Fl

theorem mix_cases (n : Int) (b : Nat) : -1 ≤ mixN n b ∧ mixN n b ≤ 1 := by
  have := cmp_cases (fw (flo n)) b
  unfold mixN; split
  · split <;> omega
  · exact this

theorem cmpNumbers_any (k n k' n' : Int) (b b' : Bool) (f f' : Nat) (s s' : ByteArray) (sl sl' : Value) (w : World) (hn : is64 n = true) (hn' : is64 n' = true) (hf : f < 18446744073709551616) (hf' : f' < 18446744073709551616) :
    Calls Try.prog 35 #[.agg #[.int .i64 k, .bool b, .int .i64 n, .float .f64 f, .string s, sl], .agg #[.int .i64 k', .bool b', .int .i64 n', .float .f64 f', .string s', sl']] w
      fun e w' => e = .returned (.int .i64 (cmpNum k n f k' n' f')) ∧ Below w.heap.size w w' := by
  have Hn := Lib.hid hn; have Hn' := Lib.hid hn'; have Hf := Lib.hid hf; have Hf' := Lib.hid hf'
  clear hn hn' hf hf'
  unfold cmpNum
  by_cases hk : k = 2
  · subst hk
    rw [if_pos rfl]
    by_cases hk' : k' = 2
    · subst hk'
      rw [if_pos rfl]
      go_enter Try.func35, Try.ntmps35
      go_wp2_with (go_at_call 38; refine (cmp_int64_any _ _ _).mono ?_; rintro e w' ⟨rfl, rfl⟩)
      go_ret
      exact ⟨rfl, ((Below.refl _ _).alloc (Nat.le_refl _) _).alloc (by simp) _⟩
    · rw [if_neg hk']
      have hd : (k' == 2) = false := by simpa using hk'
      clear hk'
      go_enter Try.func35, Try.ntmps35
      go_wp2_with (go_at_call 56; refine (mix_any _ _ _ Hn.out Hf'.out).mono ?_; rintro e w1 ⟨rfl, hb1⟩)
      go_ret
      exact ⟨rfl, (((Below.refl _ _).alloc (Nat.le_refl _) _).alloc (by simp) _).trans (hb1.mono (by simp; omega))⟩
  · rw [if_neg hk]
    have hd : (k == 2) = false := by simpa using hk
    clear hk
    by_cases hk' : k' = 2
    · subst hk'
      rw [if_pos rfl]
      obtain ⟨x1, x2⟩ := mix_cases n' f
      go_enter Try.func35, Try.ntmps35
      go_wp2_with (go_at_call 56; refine (mix_any _ _ _ Hn'.out Hf.out).mono ?_; rintro e w1 ⟨rfl, hb1⟩)
      go_ret
      exact ⟨rfl, (((Below.refl _ _).alloc (Nat.le_refl _) _).alloc (by simp) _).trans (hb1.mono (by simp; omega))⟩
    · rw [if_neg hk']
      have hd' : (k' == 2) = false := by simpa using hk'
      clear hk'
      go_enter Try.func35, Try.ntmps35
      go_wp2_with (go_at_call 57; refine (cmp_any _ _ _ Hf.out Hf'.out).mono ?_; rintro e w' ⟨rfl, rfl⟩)
      go_ret
      exact ⟨rfl, ((Below.refl _ _).alloc (Nat.le_refl _) _).alloc (by simp) _⟩

/-- the contract of val.Cmp at one left side, whatever the right one -/
def CmpAt (a : T) : Prop := ∀ (b : T) (v v' : Value) (w : World), Rd w w.heap.size a v → Rd w w.heap.size b v' →
  Calls Try.prog 15 #[v, v'] w fun e w' => e = .returned (.int .i64 (cmpT a b)) ∧ Below w.heap.size w w'

theorem cmpf_any (l : List T) (ih : ∀ i (hi : i < l.length), CmpAt l[i]) (l' : List T) (A A' : Option Addr) (cap cap' : Nat) (w : World) (h : RdL w w.heap.size l A) (h' : RdL w w.heap.size l' A')
    (hm : l.length ≤ 1954687338211) (hm' : l'.length ≤ 1954687338211) :
    Calls Try.prog 37 #[.slice A l.length cap, .slice A' l'.length cap', .func (.func 15) #[] #[]] w
      fun e w' => e = .returned (.int .i64 (cmpL l l')) ∧ Below w.heap.size w w' := by
  have IH := Lib.hid ih; clear ih
  have HE := Lib.hid (show cmpL l l' = cmpL (l.drop 0) (l'.drop 0) by rfl)
  go_enter Try.func37, Try.ntmps37
  go_wp2_with fail
  go_loopw [13] (fun si wr => ∃ i : Nat, i ≤ l.length ∧ i ≤ l'.length ∧ si = .int .i64 i ∧ Hid (cmpL l l' = cmpL (l.drop i) (l'.drop i)) ∧ Below w.heap.size w wr) (fun si _ => l.length - (intOf si).toNat)
  case atStart => exact ⟨0, by omega, by omega, rfl, HE, Below.refl _ _⟩
  case round =>
    obtain ⟨i, hi, hi', rfl, HI, hb⟩ := hrel
    have hz := hb.size
    by_cases hlt : i < l.length
    · obtain ⟨a, k, b, n, f, s, q, D, capi, rfl, hab, -, hrd, e0, e1, e2, e3, e4, e5⟩ := (h.on hb).item hlt
      by_cases hlt' : i < l'.length
      · obtain ⟨a', k', b', n', f', s', q', D', capi', rfl, hab', -, hrd', S'⟩ := (h'.on hb).item hlt'
        have IHi := Lib.hid (IH.out i hlt)
        have hd : decide (l'.length ≤ i) = false := by simp; omega
        have HS : Hid (cmpL l l' = lex (cmpT l[i] l'[i]) (cmpL (l.drop (i + 1)) (l'.drop (i + 1)))) := by rw [HI.out, List.drop_eq_getElem_cons hlt, List.drop_eq_getElem_cons hlt', cmpL]; rfl
        obtain ⟨e0', e1', e2', e3', e4', e5'⟩ := S'.alloc (.cells #[.int .i64 k, .bool b, .int .i64 n, .float .f64 f, .string s, .slice D q.length capi] 26)
        have hb2 := ((Below.refl wr.heap.size wr).alloc (Nat.le_refl _) (.cells #[.int .i64 k, .bool b, .int .i64 n, .float .f64 f, .string s, .slice D q.length capi] 26)).alloc (by simp) (.cells #[.int .i64 k', .bool b', .int .i64 n', .float .f64 f', .string s', .slice D' q'.length capi'] 26)
        go_wp2_with fail
        refine (IHi.out _ _ _ _ (hrd.on hb2) (hrd'.on hb2)).mono ?_
        rintro e w1 ⟨rfl, hb1⟩
        have hb3 := hb.trans ((hb2.trans (hb1.mono hb2.size)).mono hz)
        by_cases hc0 : cmpT l[i] l'[i] = 0
        · have HS' : Hid (cmpL l l' = cmpL (l.drop (i + 1)) (l'.drop (i + 1))) := by rw [HS.out]; unfold lex; rw [if_pos hc0]; rfl
          go_wp2_with fail
          go_roundw
          case rel => exact ⟨i + 1, by omega, by omega, by go_num, HS', hb3⟩
          case measure => simp [intOf]; omega
        · have d1 : (cmpT l[i] l'[i] != 0) = true := by simpa using hc0
          have d2 : (cmpT l[i] l'[i] == 0) = false := by simpa using hc0
          have HS' : Hid (cmpL l l' = cmpT l[i] l'[i]) := by rw [HS.out]; unfold lex; rw [if_neg hc0]; rfl
          clear hc0
          go_wp2_with fail
          go_ret
          exact ⟨ret_int HS'.out.symm, hb3⟩
      · go_wp2_with fail
        go_ret
        exact ⟨ret_int (by rw [HI.out, List.drop_eq_getElem_cons hlt, List.drop_eq_nil_of_le (by omega : l'.length ≤ i), cmpL]), hb.alloc hz _⟩
    · by_cases hlt' : l.length < l'.length
      · go_wp2_with fail
        go_ret
        exact ⟨ret_int (by rw [HI.out, List.drop_eq_nil_of_le (by omega : l.length ≤ i), List.drop_eq_getElem_cons (by omega : i < l'.length), cmpL]), hb⟩
      · go_wp2_with fail
        go_ret
        exact ⟨ret_int (by rw [HI.out, List.drop_eq_nil_of_le (by omega : l.length ≤ i), List.drop_eq_nil_of_le (by omega : l'.length ≤ i), cmpL]), hb⟩

theorem cmp_at (a : T) : CmpAt a := by
  induction a using T.ind with | h k b n f s l ih => _
  rintro ⟨k', b', n', f', s', l'⟩ v v' w h h'
  obtain ⟨A, cap, rfl, hk, hn, hf, hs, hc, hm, hA, hl⟩ := h.open
  obtain ⟨A', cap', rfl, hk', hn', hf', hs', hc', hm', hA', hl'⟩ := h'.open
  rw [cmpT]
  have Hk := Lib.hid hk; have Hn := Lib.hid hn; have HA := Lib.hid hA
  have Hk' := Lib.hid hk'; have Hn' := Lib.hid hn'; have HA' := Lib.hid hA'; have Hs := Lib.hid hs; have Hs' := Lib.hid hs'; have Hf := Lib.hid hf; have Hf' := Lib.hid hf'
  have IH := Lib.hid ih; clear ih
  clear hk hn hA h hk' hn' hA' h' hs hs' hf hf'
  by_cases hr : cmpI (rk k) (rk k') = 0
  · have hg : lex (cmpI (rk k) (rk k')) (if k = 1 then cmpBo b b' else if k = 2 ∨ k = 3 then cmpP (posK k n f) (posK k' n' f') else if k = 4 then cmpS s s' else if k = 5 ∨ k = 6 then cmpL l l' else cmpI n n') = (if k = 1 then cmpBo b b' else if k = 2 ∨ k = 3 then cmpP (posK k n f) (posK k' n' f') else if k = 4 then cmpS s s' else if k = 5 ∨ k = 6 then cmpL l l' else cmpI n n') := by unfold lex; rw [if_pos hr]
    rw [hg]; clear hg
    by_cases k1 : k = 1
    · subst k1
      rw [if_pos rfl]
      go_enter Try.func15, Try.ntmps15
      go_wp2_with fail
      go_quiet (first | (go_at_call 33; exact quiet_left (rank_any _ _)) | (go_at_call 32; exact quiet_left (cmp_int_any _ _ _)))
      go_wp2_with (go_at_call 34; refine (cmpBools_any _ _ _).mono ?_; rintro e w1 ⟨rfl, rfl⟩)
      go_ret
      exact ⟨rfl, below_drewN (((Below.refl _ _).alloc (Nat.le_refl _) _).alloc (by simp) _) _⟩
    by_cases k2 : k = 2
    · subst k2
      have e0 : (if (2 : Int) = 1 then cmpBo b b' else if (2 : Int) = 2 ∨ (2 : Int) = 3 then cmpP (posK 2 n f) (posK k' n' f') else if (2 : Int) = 4 then cmpS s s' else if (2 : Int) = 5 ∨ (2 : Int) = 6 then cmpL l l' else cmpI n n') = cmpNum 2 n f k' n' f' := by rw [cmpNum_eq Hn.out Hn'.out]; simp
      rw [e0]; clear e0
      go_enter Try.func15, Try.ntmps15
      go_wp2_with fail
      go_quiet (first | (go_at_call 33; exact quiet_left (rank_any _ _)) | (go_at_call 32; exact quiet_left (cmp_int_any _ _ _)))
      go_wp2_with (go_at_call 35; refine (cmpNumbers_any _ _ _ _ _ _ _ _ _ _ _ _ _ Hn.out Hn'.out Hf.out Hf'.out).mono ?_; rintro e w1 ⟨rfl, hb1⟩)
      go_ret
      exact ⟨rfl, (below_drewN (((Below.refl _ _).alloc (Nat.le_refl _) _).alloc (by simp) _) _).trans (hb1.mono (by simp; omega))⟩
    by_cases k3 : k = 3
    · subst k3
      have e0 : (if (3 : Int) = 1 then cmpBo b b' else if (3 : Int) = 2 ∨ (3 : Int) = 3 then cmpP (posK 3 n f) (posK k' n' f') else if (3 : Int) = 4 then cmpS s s' else if (3 : Int) = 5 ∨ (3 : Int) = 6 then cmpL l l' else cmpI n n') = cmpNum 3 n f k' n' f' := by rw [cmpNum_eq Hn.out Hn'.out]; simp
      rw [e0]; clear e0
      go_enter Try.func15, Try.ntmps15
      go_wp2_with fail
      go_quiet (first | (go_at_call 33; exact quiet_left (rank_any _ _)) | (go_at_call 32; exact quiet_left (cmp_int_any _ _ _)))
      go_wp2_with (go_at_call 35; refine (cmpNumbers_any _ _ _ _ _ _ _ _ _ _ _ _ _ Hn.out Hn'.out Hf.out Hf'.out).mono ?_; rintro e w1 ⟨rfl, hb1⟩)
      go_ret
      exact ⟨rfl, (below_drewN (((Below.refl _ _).alloc (Nat.le_refl _) _).alloc (by simp) _) _).trans (hb1.mono (by simp; omega))⟩
    by_cases k4 : k = 4
    · subst k4
      have e0 : (if (4 : Int) = 1 then cmpBo b b' else if (4 : Int) = 2 ∨ (4 : Int) = 3 then cmpP (posK 4 n f) (posK k' n' f') else if (4 : Int) = 4 then cmpS s s' else if (4 : Int) = 5 ∨ (4 : Int) = 6 then cmpL l l' else cmpI n n') = cmpS s s' := by simp
      rw [e0]; clear e0
      go_enter Try.func15, Try.ntmps15
      go_wp2_with fail
      go_quiet (first | (go_at_call 33; exact quiet_left (rank_any _ _)) | (go_at_call 32; exact quiet_left (cmp_int_any _ _ _)))
      go_wp2_with (go_at_call 36; refine (cmp_string_any _ _ _).mono ?_; rintro e w1 ⟨rfl, rfl⟩)
      go_ret
      exact ⟨rfl, below_drewN (((Below.refl _ _).alloc (Nat.le_refl _) _).alloc (by simp) _) _⟩
    by_cases k5 : k = 5
    · subst k5
      have e0 : (if (5 : Int) = 1 then cmpBo b b' else if (5 : Int) = 2 ∨ (5 : Int) = 3 then cmpP (posK 5 n f) (posK k' n' f') else if (5 : Int) = 4 then cmpS s s' else if (5 : Int) = 5 ∨ (5 : Int) = 6 then cmpL l l' else cmpI n n') = cmpL l l' := by simp
      rw [e0]; clear e0
      go_enter Try.func15, Try.ntmps15
      go_wp2_with fail
      go_quiet (first | (go_at_call 33; exact quiet_left (rank_any _ _)) | (go_at_call 32; exact quiet_left (cmp_int_any _ _ _)))
      go_wp2_with (go_at_call 37; refine (cmpf_any l IH.out l' A A' cap cap' _ (hl.on (below_drewN (((Below.refl _ _).alloc (Nat.le_refl _) _).alloc (by simp) _) _)) (hl'.on (below_drewN (((Below.refl _ _).alloc (Nat.le_refl _) _).alloc (by simp) _) _)) hm.2 hm'.2).mono ?_; rintro e w1 ⟨rfl, hb1⟩)
      go_ret
      exact ⟨rfl, (below_drewN (((Below.refl _ _).alloc (Nat.le_refl _) _).alloc (by simp) _) _).trans (hb1.mono (by simp; omega))⟩
    by_cases k6 : k = 6
    · subst k6
      have e0 : (if (6 : Int) = 1 then cmpBo b b' else if (6 : Int) = 2 ∨ (6 : Int) = 3 then cmpP (posK 6 n f) (posK k' n' f') else if (6 : Int) = 4 then cmpS s s' else if (6 : Int) = 5 ∨ (6 : Int) = 6 then cmpL l l' else cmpI n n') = cmpL l l' := by simp
      rw [e0]; clear e0
      go_enter Try.func15, Try.ntmps15
      go_wp2_with fail
      go_quiet (first | (go_at_call 33; exact quiet_left (rank_any _ _)) | (go_at_call 32; exact quiet_left (cmp_int_any _ _ _)))
      go_wp2_with (go_at_call 37; refine (cmpf_any l IH.out l' A A' cap cap' _ (hl.on (below_drewN (((Below.refl _ _).alloc (Nat.le_refl _) _).alloc (by simp) _) _)) (hl'.on (below_drewN (((Below.refl _ _).alloc (Nat.le_refl _) _).alloc (by simp) _) _)) hm.2 hm'.2).mono ?_; rintro e w1 ⟨rfl, hb1⟩)
      go_ret
      exact ⟨rfl, (below_drewN (((Below.refl _ _).alloc (Nat.le_refl _) _).alloc (by simp) _) _).trans (hb1.mono (by simp; omega))⟩
    · have e0 : (if k = 1 then cmpBo b b' else if k = 2 ∨ k = 3 then cmpP (posK k n f) (posK k' n' f') else if k = 4 then cmpS s s' else if k = 5 ∨ k = 6 then cmpL l l' else cmpI n n') = cmpI n n' := by simp [k1, k2, k3, k4, k5, k6]
      rw [e0]; clear e0
      have d1 : (k == 1) = false := by simpa using k1
      have d2 : (k == 2) = false := by simpa using k2
      have d3 : (k == 3) = false := by simpa using k3
      have d4 : (k == 4) = false := by simpa using k4
      have d5 : (k == 5) = false := by simpa using k5
      have d6 : (k == 6) = false := by simpa using k6
      clear k1 k2 k3 k4 k5 k6
      go_enter Try.func15, Try.ntmps15
      go_wp2_with fail
      go_quiet (first | (go_at_call 33; exact quiet_left (rank_any _ _)) | (go_at_call 32; exact quiet_left (cmp_int_any _ _ _)))
      go_wp2_with (go_at_call 38; refine (cmp_int64_any _ _ _).mono ?_; rintro e w1 ⟨rfl, rfl⟩)
      go_ret
      exact ⟨rfl, below_drewN (((Below.refl _ _).alloc (Nat.le_refl _) _).alloc (by simp) _) _⟩
  · have hg : ∀ x, lex (cmpI (rk k) (rk k')) x = cmpI (rk k) (rk k') := by intro x; unfold lex; rw [if_neg hr]
    rw [hg]; clear hg
    have d1 : (cmpI (rk k) (rk k') != 0) = true := by simpa using hr
    have d2 : (cmpI (rk k) (rk k') == 0) = false := by simpa using hr
    clear hr
    go_enter Try.func15, Try.ntmps15
    go_wp2_with fail
    go_quiet (first | (go_at_call 33; exact quiet_left (rank_any _ _)) | (go_at_call 32; exact quiet_left (cmp_int_any _ _ _)))
    go_wp2_with fail
    go_ret
    exact ⟨rfl, below_drewN (((Below.refl _ _).alloc (Nat.le_refl _) _).alloc (by simp) _) _⟩

theorem vcmp_any {a b : T} {v v' : Value} {w : World} (h : Rd w w.heap.size a v) (h' : Rd w w.heap.size b v') :
    Calls Try.prog 15 #[v, v'] w fun e w' => e = .returned (.int .i64 (cmpT a b)) ∧ Below w.heap.size w w' := cmp_at a b v v' w h h'

theorem vsame_any {a b : T} {v v' : Value} {w : World} (h : Rd w w.heap.size a v) (h' : Rd w w.heap.size b v') :
    Calls Try.prog 19 #[v, v'] w fun e w' => e = .returned (.bool (cmpT a b == 0)) ∧ Below w.heap.size w w' := by
  rcases a with ⟨k, c, n, f, s, l⟩
  rcases b with ⟨k', c', n', f', s', l'⟩
  have h0 := h; have h0' := h'
  obtain ⟨A, cap, rfl, -⟩ := h0.open
  obtain ⟨A', cap', rfl, -⟩ := h0'.open
  have hb2 := ((Below.refl w.heap.size w).alloc (Nat.le_refl _) (.cells #[.int .i64 k, .bool c, .int .i64 n, .float .f64 f, .string s, .slice A l.length cap] 26)).alloc (by simp) (.cells #[.int .i64 k', .bool c', .int .i64 n', .float .f64 f', .string s', .slice A' l'.length cap'] 26)
  have H := Lib.hid h; have H' := Lib.hid h'; clear h h' h0 h0'
  go_enter Try.func19, Try.ntmps19
  go_wp2_with fail
  refine (vcmp_any (H.out.on hb2) (H'.out.on hb2)).mono ?_
  rintro e w1 ⟨rfl, hb1⟩
  go_wp2_with fail
  go_ret
  exact ⟨rfl, hb2.trans (hb1.mono hb2.size)⟩

end Go.Proofs.Ytaonlbmicjoclaa
