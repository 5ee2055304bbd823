/- ChkA, Same -/
import Derived.Test.YtgmjhoppjjjilaaDoorQ36
import Derived.Deep.DeepCutAuto
import Derived.Test.YtgmjhoppjjjilaaDoorQ18
import Derived.StillTailTactics

/- val.Check: head, shaped -/
namespace Go.Proofs.YtgmjhoppjjjilaaDoor
open Go.ChangeShapes Go.WideShapes Go.ChangeAt Go.RowKit Go.Fl

/-- bytes of a value without those of its parts -/
def hdT (k : Int) (s : ByteArray) : Int := if k = 0 then 1 else if k = 1 then 2 else if k = 4 then 3 + s.size else if k = 5 ∨ k = 6 then 3 else 9

theorem hdT_le (k : Int) (s : ByteArray) (hs : s.size ≤ 140737488351232) : 1 ≤ hdT k s ∧ hdT k s ≤ 140737488351235 := by
  unfold hdT; split
  · omega
  · split
    · omega
    · split
      · omega
      · split <;> omega

/-- is a value of a kind, with nothing but what that has? -/
def shpT (k : Int) (b : Bool) (n : Int) (f : Nat) (s : ByteArray) (m : Nat) : Bool :=
  decide (0 ≤ k ∧ k ≤ 8 ∧ (b = true → k = 1) ∧ (n ≠ 0 → k = 2 ∨ k = 7 ∨ k = 8) ∧ (k = 7 ∨ k = 8 → 1 ≤ n) ∧ (f ≠ 0 → k = 3) ∧ (s.toList ≠ [] → k = 4) ∧ (m ≠ 0 → k = 5 ∨ k = 6))

theorem ret_b {a c : Bool} (h : a = c) : Ending.returned (.bool a) = .returned (.bool c) := by rw [h]

end Go.Proofs.YtgmjhoppjjjilaaDoor

/- the reference's Same -/
namespace Go.Proofs.YtgmjhoppjjjilaaDoor
open Go.ChangeShapes Go.WideShapes Go.ChangeAt Go.RowKit Go.Fl

/-- the same but for their parts -/
def hdB (k : Int) (b : Bool) (n : Int) (f : Nat) (s : ByteArray) (m : Nat) (k' : Int) (b' : Bool) (n' : Int) (f' : Nat) (s' : ByteArray) (m' : Nat) : Bool :=
  k == k' && b == b' && n == n' && canonN f == canonN f' && s.toList == s'.toList && m == m'

mutual
/-- the same, bits and all -/
def smT : T → T → Bool
  | .mk k b n f s l, .mk k' b' n' f' s' l' => hdB k b n f s l.length k' b' n' f' s' l'.length && smL l l'
def smL : List T → List T → Bool
  | [], [] => true
  | [], _ :: _ => false
  | _ :: _, [] => false
  | x :: r, y :: q => smT x y && smL r q
end

/-- Same at one left side -/
def SmAt (a : T) : Prop := ∀ (b : T) (v v' : Value) (w : World), Rd w w.heap.size a v → Rd w w.heap.size b v' →
  Calls Tryd.prog 11 #[v, v'] w fun e w' => e = .returned (.bool (smT a b)) ∧ Below w.heap.size w w'

set_option maxRecDepth 100000 in
theorem sm_k (k k' n n' : Int) (b b' : Bool) (f f' : Nat) (s s' : ByteArray) (m m' : Nat) (A A' : Option Addr) (cap cap' : Nat) (w : World) (h : k ≠ k') :
    Calls Tryd.prog 11 #[.agg #[.int .i64 k, .bool b, .int .i64 n, .float .f64 f, .string s, .slice A m cap], .agg #[.int .i64 k', .bool b', .int .i64 n', .float .f64 f', .string s', .slice A' m' cap']] w fun e w' => e = .returned (.bool false) ∧ Below w.heap.size w w' := by
  have d0 : (k != k') = true := by simpa using h
  have d0' : (k == k') = false := by simpa using h
  clear h
  go_enter Tryd.func11, Tryd.ntmps11
  go_wp2_with fail
  go_quiet ((go_at_call 17; (first | exact quiet_left (rcanon_any _ _) | exact quiet_add_left (rcanon_any _ _))))
  go_wp2_with fail
  go_ret
  exact ⟨rfl, below_drewN (((Below.refl _ _).alloc (Nat.le_refl _) _).alloc (by simp) _) _⟩

set_option maxRecDepth 100000 in
theorem sm_bt (k k' n n' : Int) (f f' : Nat) (s s' : ByteArray) (m m' : Nat) (A A' : Option Addr) (cap cap' : Nat) (w : World) (hk : k = k') :
    Calls Tryd.prog 11 #[.agg #[.int .i64 k, .bool true, .int .i64 n, .float .f64 f, .string s, .slice A m cap], .agg #[.int .i64 k', .bool false, .int .i64 n', .float .f64 f', .string s', .slice A' m' cap']] w fun e w' => e = .returned (.bool false) ∧ Below w.heap.size w w' := by
  subst hk
  go_enter Tryd.func11, Tryd.ntmps11
  go_wp2_with fail
  go_quiet ((go_at_call 17; (first | exact quiet_left (rcanon_any _ _) | exact quiet_add_left (rcanon_any _ _))))
  go_wp2_with fail
  go_ret
  exact ⟨rfl, below_drewN (((Below.refl _ _).alloc (Nat.le_refl _) _).alloc (by simp) _) _⟩

set_option maxRecDepth 100000 in
theorem sm_bf (k k' n n' : Int) (f f' : Nat) (s s' : ByteArray) (m m' : Nat) (A A' : Option Addr) (cap cap' : Nat) (w : World) (hk : k = k') :
    Calls Tryd.prog 11 #[.agg #[.int .i64 k, .bool false, .int .i64 n, .float .f64 f, .string s, .slice A m cap], .agg #[.int .i64 k', .bool true, .int .i64 n', .float .f64 f', .string s', .slice A' m' cap']] w fun e w' => e = .returned (.bool false) ∧ Below w.heap.size w w' := by
  subst hk
  go_enter Tryd.func11, Tryd.ntmps11
  go_wp2_with fail
  go_quiet ((go_at_call 17; (first | exact quiet_left (rcanon_any _ _) | exact quiet_add_left (rcanon_any _ _))))
  go_wp2_with fail
  go_ret
  exact ⟨rfl, below_drewN (((Below.refl _ _).alloc (Nat.le_refl _) _).alloc (by simp) _) _⟩

set_option maxRecDepth 100000 in
theorem sm_n (k k' n n' : Int) (b b' : Bool) (f f' : Nat) (s s' : ByteArray) (m m' : Nat) (A A' : Option Addr) (cap cap' : Nat) (w : World) (hk : k = k') (hb : b = b') (h : n ≠ n') :
    Calls Tryd.prog 11 #[.agg #[.int .i64 k, .bool b, .int .i64 n, .float .f64 f, .string s, .slice A m cap], .agg #[.int .i64 k', .bool b', .int .i64 n', .float .f64 f', .string s', .slice A' m' cap']] w fun e w' => e = .returned (.bool false) ∧ Below w.heap.size w w' := by
  subst hk hb
  have d0 : (n != n') = true := by simpa using h
  have d0' : (n == n') = false := by simpa using h
  clear h
  go_enter Tryd.func11, Tryd.ntmps11
  go_wp2_with fail
  go_quiet ((go_at_call 17; (first | exact quiet_left (rcanon_any _ _) | exact quiet_add_left (rcanon_any _ _))))
  go_wp2_with fail
  go_ret
  exact ⟨rfl, below_drewN (((Below.refl _ _).alloc (Nat.le_refl _) _).alloc (by simp) _) _⟩

set_option maxRecDepth 100000 in
theorem sm_f (k k' n n' : Int) (b b' : Bool) (f f' : Nat) (s s' : ByteArray) (m m' : Nat) (A A' : Option Addr) (cap cap' : Nat) (w : World) (hk : k = k') (hb : b = b') (hn : n = n') (h : canonN f ≠ canonN f') :
    Calls Tryd.prog 11 #[.agg #[.int .i64 k, .bool b, .int .i64 n, .float .f64 f, .string s, .slice A m cap], .agg #[.int .i64 k', .bool b', .int .i64 n', .float .f64 f', .string s', .slice A' m' cap']] w fun e w' => e = .returned (.bool false) ∧ Below w.heap.size w w' := by
  subst hk hb hn
  have d0 : ((canonN f : Int) != (canonN f' : Int)) = true := by simp; omega
  have d0' : ((canonN f : Int) == (canonN f' : Int)) = false := by simp; omega
  clear h
  go_enter Tryd.func11, Tryd.ntmps11
  go_wp2_with fail
  go_quiet ((go_at_call 17; (first | exact quiet_left (rcanon_any _ _) | exact quiet_add_left (rcanon_any _ _))))
  go_wp2_with fail
  go_ret
  exact ⟨rfl, below_drewN (((Below.refl _ _).alloc (Nat.le_refl _) _).alloc (by simp) _) _⟩

set_option maxRecDepth 100000 in
theorem sm_s (k k' n n' : Int) (b b' : Bool) (f f' : Nat) (s s' : ByteArray) (m m' : Nat) (A A' : Option Addr) (cap cap' : Nat) (w : World) (hk : k = k') (hb : b = b') (hn : n = n') (hf : canonN f = canonN f') (h : s.toList ≠ s'.toList) :
    Calls Tryd.prog 11 #[.agg #[.int .i64 k, .bool b, .int .i64 n, .float .f64 f, .string s, .slice A m cap], .agg #[.int .i64 k', .bool b', .int .i64 n', .float .f64 f', .string s', .slice A' m' cap']] w fun e w' => e = .returned (.bool false) ∧ Below w.heap.size w w' := by
  subst hk hb hn
  have e0 : ((canonN f : Int) != (canonN f' : Int)) = false := by simp; omega
  have e0' : ((canonN f : Int) == (canonN f' : Int)) = true := by simp; omega
  clear hf
  have d0 : (s.toList == s'.toList) = false := by simpa using h
  have d1 : (s.toList != s'.toList) = true := by simpa using h
  clear h
  go_enter Tryd.func11, Tryd.ntmps11
  go_wp2_with fail
  go_quiet ((go_at_call 17; (first | exact quiet_left (rcanon_any _ _) | exact quiet_add_left (rcanon_any _ _))))
  go_wp2_with fail
  go_ret
  exact ⟨rfl, below_drewN (((Below.refl _ _).alloc (Nat.le_refl _) _).alloc (by simp) _) _⟩

set_option maxRecDepth 100000 in
theorem sm_m (k k' n n' : Int) (b b' : Bool) (f f' : Nat) (s s' : ByteArray) (m m' : Nat) (A A' : Option Addr) (cap cap' : Nat) (w : World) (hk : k = k') (hb : b = b') (hn : n = n') (hf : canonN f = canonN f') (hs : s.toList = s'.toList) (h : m ≠ m') :
    Calls Tryd.prog 11 #[.agg #[.int .i64 k, .bool b, .int .i64 n, .float .f64 f, .string s, .slice A m cap], .agg #[.int .i64 k', .bool b', .int .i64 n', .float .f64 f', .string s', .slice A' m' cap']] w fun e w' => e = .returned (.bool false) ∧ Below w.heap.size w w' := by
  subst hk hb hn
  have e0 : ((canonN f : Int) != (canonN f' : Int)) = false := by simp; omega
  have e0' : ((canonN f : Int) == (canonN f' : Int)) = true := by simp; omega
  clear hf
  have e1 : (s.toList == s'.toList) = true := by simpa using hs
  have e1' : (s.toList != s'.toList) = false := by simpa using hs
  clear hs
  have d0 : ((m : Int) != (m' : Int)) = true := by simp; omega
  have d0' : ((m : Int) == (m' : Int)) = false := by simp; omega
  have d1 : (m != m') = true := by simpa using h
  have d1' : (m == m') = false := by simpa using h
  clear h
  go_enter Tryd.func11, Tryd.ntmps11
  go_wp2_with fail
  go_quiet ((go_at_call 17; (first | exact quiet_left (rcanon_any _ _) | exact quiet_add_left (rcanon_any _ _))))
  go_wp2_with fail
  go_ret
  exact ⟨rfl, below_drewN (((Below.refl _ _).alloc (Nat.le_refl _) _).alloc (by simp) _) _⟩

set_option maxRecDepth 100000 in
theorem sm_yes (k n : Int) (b : Bool) (f f' : Nat) (s s' : ByteArray) (l l' : List T) (A A' : Option Addr) (cap cap' : Nat) (w : World) (ih : ∀ i (hi : i < l.length), SmAt l[i]) (hf : canonN f = canonN f') (hs : s.toList = s'.toList) (hm : l.length = l'.length)
    (hl : RdL w w.heap.size l A) (hl' : RdL w w.heap.size l' A') (hq : l.length ≤ 1954687338211) :
    Calls Tryd.prog 11 #[.agg #[.int .i64 k, .bool b, .int .i64 n, .float .f64 f, .string s, .slice A l.length cap], .agg #[.int .i64 k, .bool b, .int .i64 n, .float .f64 f', .string s', .slice A' l'.length cap']] w fun e w' => e = .returned (.bool (smL l l')) ∧ Below w.heap.size w w' := by
  have IH := Lib.hid ih; clear ih
  have e0 : ((canonN f : Int) != (canonN f' : Int)) = false := by simp; omega
  have e0' : ((canonN f : Int) == (canonN f' : Int)) = true := by simp; omega
  clear hf
  have e1 : (s.toList == s'.toList) = true := by simpa using hs
  have e1' : (s.toList != s'.toList) = false := by simpa using hs
  clear hs
  have e2 : ((l.length : Int) != (l'.length : Int)) = false := by simp; omega
  have e2' : ((l.length : Int) == (l'.length : Int)) = true := by simp; omega
  have e3 : (l.length != l'.length) = false := by simpa using hm
  have e3' : (l.length == l'.length) = true := by simpa using hm
  have Hm := Lib.hid hm; clear hm
  have HE := Lib.hid (show smL l l' = smL (l.drop 0) (l'.drop 0) by rfl)
  go_enter Tryd.func11, Tryd.ntmps11
  go_wp2_with fail
  go_quiet ((go_at_call 17; (first | exact quiet_left (rcanon_any _ _) | exact quiet_add_left (rcanon_any _ _))))
  go_wp2_with fail
  clear e0 e0' e1 e1' e2 e2' e3 e3'
  have hb2 := below_drewN (((Below.refl w.heap.size w).alloc (Nat.le_refl _) (.cells #[.int .i64 k, .bool b, .int .i64 n, .float .f64 f, .string s, .slice A l.length cap] 25)).alloc (by simp) (.cells #[.int .i64 k, .bool b, .int .i64 n, .float .f64 f', .string s', .slice A' l'.length cap'] 25)) nq
  go_loopw [5] (fun si wr => ∃ i : Nat, i ≤ l.length ∧ si = .int .i64 i ∧ Hid (smL l l' = smL (l.drop i) (l'.drop i)) ∧
      Below (w.heap.size + 2) (((w.alloc (.cells #[.int .i64 k, .bool b, .int .i64 n, .float .f64 f, .string s, .slice A l.length cap] 25)).alloc (.cells #[.int .i64 k, .bool b, .int .i64 n, .float .f64 f', .string s', .slice A' l'.length cap'] 25)).drewN nq) wr) (fun si _ => l.length - (intOf si).toNat)
  case atStart => exact ⟨0, by omega, rfl, HE, Below.refl _ _⟩
  case round =>
    obtain ⟨i, hi, rfl, HI, hbr⟩ := hrel
    have hb := hb2.trans (hbr.mono (Nat.le_add_right _ _))
    have hz : w.heap.size + 2 ≤ wr.heap.size := by have := hbr.size; simpa using this
    have hcell := hbr.cell (p := ⟨w.heap.size, 5, none⟩) (by simp)
    have hcell' := hbr.cell (p := ⟨w.heap.size + 1, 5, none⟩) (by simp)
    by_cases hlt : i < l.length
    · have hlt' : i < l'.length := by have := Hm.out; omega
      obtain ⟨a, k, b, n, f, s, q, D, capi, rfl, hab, -, hrd, e0, e1, e2, e3, e4, e5⟩ := (hl.on hb).item hlt
      obtain ⟨a', k', b', n', f', s', q', D', capi', rfl, hab', -, hrd', e0', e1', e2', e3', e4', e5'⟩ := (hl'.on hb).item hlt'
      have IHi := Lib.hid (IH.out i hlt)
      have HS : Hid (smL l l' = (smT l[i] l'[i] && smL (l.drop (i + 1)) (l'.drop (i + 1)))) := by rw [HI.out, List.drop_eq_getElem_cons hlt, List.drop_eq_getElem_cons hlt', smL]; rfl
      go_wp2_with fail
      go_still_tail 10, (by kernel_rfl)
      go_wp2_with fail
      refine (IHi.out _ _ _ _ (hrd.on ((Below.refl _ _).drew)) (hrd'.on ((Below.refl _ _).drew))).mono ?_
      rintro e w1 ⟨rfl, hb1⟩
      have hb3 := hbr.trans (((Below.refl wr.heap.size wr).drew.trans hb1).mono hz)
      have hb4 := hb2.trans (hb3.mono (Nat.le_add_right _ _))
      rcases hc0 : smT l[i] l'[i] with _ | _
      · have HS' : Hid (smL l l' = false) := by rw [HS.out, hc0]; rfl
        have Hc0 := Lib.hid hc0; clear hc0
        go_wp2_with fail
        go_ret
        exact ⟨ret_b HS'.out.symm, hb4⟩
      · have HS' : Hid (smL l l' = smL (l.drop (i + 1)) (l'.drop (i + 1))) := by rw [HS.out, hc0]; rfl
        have Hc0 := Lib.hid hc0; clear hc0
        go_wp2_with fail
        go_roundw
        case rel => exact ⟨i + 1, by omega, by go_num, HS', hb3⟩
        case measure => simp [intOf]; omega
    · have HS' : Hid (smL l l' = true) := by
        rw [HI.out, List.drop_eq_nil_of_le (by omega), List.drop_eq_nil_of_le (by have := Hm.out; omega)]; rfl
      go_wp2_with fail
      go_ret
      exact ⟨ret_b HS'.out.symm, hb⟩

theorem sm_at (a : T) : SmAt a := by
  induction a using T.ind with | h k b n f s l ih => _
  rintro ⟨k', b', n', f', s', l'⟩ v v' w h h'
  obtain ⟨A, cap, rfl, hk, hn, hf, hs, hc, hm, hA, hl⟩ := h.open
  obtain ⟨A', cap', rfl, hk', hn', hf', hs', hc', hm', hA', hl'⟩ := h'.open
  rw [smT]
  by_cases e0 : k = k'
  rotate_left
  · rw [show hdB k b n f s l.length k' b' n' f' s' l'.length = false by unfold hdB; simp [e0]]
    exact sm_k k k' n n' b b' f f' s s' _ _ A A' cap cap' w e0
  subst e0
  by_cases e1 : b = b'
  rotate_left
  · rw [show hdB k b n f s l.length k b' n' f' s' l'.length = false by unfold hdB; simp [e1]]
    cases b <;> cases b'
    · exact absurd rfl e1
    · exact sm_bf k k n n' f f' s s' _ _ A A' cap cap' w rfl
    · exact sm_bt k k n n' f f' s s' _ _ A A' cap cap' w rfl
    · exact absurd rfl e1
  subst e1
  by_cases e2 : n = n'
  rotate_left
  · rw [show hdB k b n f s l.length k b n' f' s' l'.length = false by unfold hdB; simp [e2]]
    exact sm_n k k n n' b b f f' s s' _ _ A A' cap cap' w rfl rfl e2
  subst e2
  by_cases e3 : canonN f = canonN f'
  rotate_left
  · rw [show hdB k b n f s l.length k b n f' s' l'.length = false by unfold hdB; simp [e3]]
    exact sm_f k k n n b b f f' s s' _ _ A A' cap cap' w rfl rfl rfl e3
  by_cases e4 : s.toList = s'.toList
  rotate_left
  · rw [show hdB k b n f s l.length k b n f' s' l'.length = false by unfold hdB; simp [e4]]
    exact sm_s k k n n b b f f' s s' _ _ A A' cap cap' w rfl rfl rfl e3 e4
  by_cases e5 : l.length = l'.length
  rotate_left
  · rw [show hdB k b n f s l.length k b n f' s' l'.length = false by unfold hdB; simp [e5]]
    exact sm_m k k n n b b f f' s s' _ _ A A' cap cap' w rfl rfl rfl e3 e4 e5
  rw [show hdB k b n f s l.length k b n f' s' l'.length = true by unfold hdB; simp [e3, e4, e5], Bool.true_and]
  exact sm_yes k n b f f' s s' l l' A A' cap cap' w ih e3 e4 e5 hl hl' hm.2

theorem rsame_any {a b : T} {v v' : Value} {w : World} (h : Rd w w.heap.size a v) (h' : Rd w w.heap.size b v') :
    Calls Tryd.prog 11 #[v, v'] w fun e w' => e = .returned (.bool (smT a b)) ∧ Below w.heap.size w w' := sm_at a b v v' w h h'

end Go.Proofs.YtgmjhoppjjjilaaDoor
