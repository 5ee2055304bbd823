/- SrC, ChkR -/
import Derived.Test.YtgmjhoppjjjilaaDoorQ34
import Derived.Test.YtgmjhoppjjjilaaDoorQ44
import Derived.Test.YtgmjhoppjjjilaaDoorQ43
import Derived.Test.YtgmjhoppjjjilaaDoorQ17
import Derived.Deep.DeepCutAuto
import Derived.Deep.CutRange

/- ShowValues: lengths -/
namespace Go.Proofs.YtgmjhoppjjjilaaDoor
open Go.ChangeShapes Go.WideShapes Go.ChangeAt Go.RowKit Go.Fl

theorem itoa_l20 {n : Int} (h : is64 n = true) : (Lib.itoa n).length ≤ 20 := by
  obtain ⟨h1, h2⟩ := is64_iff.1 h
  exact itoa_len n h1 (by omega)

theorem flt_l19 (n : Nat) : (fltL n).length = 19 := by unfold fltL; simp [hex16_len]

theorem text_len4 (l : List UInt8) : (textL l).length ≤ 4 * l.length + 2 := by
  have := sayL_len l
  unfold textL
  rw [List.length_cons, List.length_append, List.length_singleton]
  omega

mutual
/-- a told value is not too long -/
theorem sh_tot : ∀ x : T, NumsT x → ((shT x).length : Int) + 2 ≤ 32 * tot x
  | .mk k b n f s l, h => by
    obtain ⟨hn, -, hsub⟩ := h.parts
    have hi := itoa_l20 hn
    have hL := sh_totL l (fun x hx => by obtain ⟨i, hi, rfl⟩ := List.getElem_of_mem hx; exact hsub i hi)
    have h1 := text_len4 s.data.toList
    rw [len_list] at h1
    rw [shT, tot]
    unfold hdT
    by_cases k0 : k = 0
    · subst k0; simp [txNull]
    rw [if_neg k0, if_neg k0]
    by_cases k1 : k = 1
    · subst k1; cases b <;> simp [txTrue, txFalse]
    rw [if_neg k1, if_neg k1]
    by_cases k2 : k = 2
    · subst k2; simp; omega
    rw [if_neg k2]
    by_cases k3 : k = 3
    · subst k3; simp [flt_l19]
    rw [if_neg k3]
    by_cases k4 : k = 4
    · subst k4; simp; omega
    rw [if_neg k4, if_neg k4]
    by_cases k5 : k = 5
    · subst k5; simp; omega
    rw [if_neg k5]
    by_cases k6 : k = 6
    · subst k6; simp; omega
    have h56 : ¬ (k = 5 ∨ k = 6) := by omega
    rw [if_neg k6, if_neg h56, if_neg h56]
    clear hL
    by_cases k7 : k = 7
    · rw [if_pos k7]; simp; omega
    rw [if_neg k7]
    by_cases k8 : k = 8
    · rw [if_pos k8]; simp; omega
    rw [if_neg k8]
    simp [txQ]
theorem sh_totL : ∀ l : List T, (∀ x ∈ l, NumsT x) → ((shTs l).length : Int) ≤ 32 * totL l
  | [], _ => by rw [shTs, totL]; decide
  | x :: r, h => by
    have h1 := sh_tot x (h x (List.mem_cons_self ..))
    have h2 := sh_totT r (fun y hy => h y (List.mem_cons_of_mem _ hy))
    rw [shTs, totL, List.length_append]
    omega
theorem sh_totT : ∀ l : List T, (∀ x ∈ l, NumsT x) → ((shTt l).length : Int) ≤ 32 * totL l
  | [], _ => by rw [shTt, totL]; decide
  | x :: r, h => by
    have h1 := sh_tot x (h x (List.mem_cons_self ..))
    have h2 := sh_totT r (fun y hy => h y (List.mem_cons_of_mem _ hy))
    rw [shTt, totL, List.length_append, List.length_append]
    simp only [List.length_cons, List.length_nil]
    omega
end

theorem sm_chk (x : T) : ∀ d, chkT x d = 0 → smT' x := by
  induction x using T.ind with | h k b n f s l ih => _
  intro d hc
  obtain ⟨-, -, hs, -, hL, -⟩ := chk_parts hc
  rw [smT']
  refine ⟨by omega, ?_⟩
  have hall := chkL_all hL
  clear hc hL
  have key : ∀ r : List T, (∀ y ∈ r, smT' y) → smTs' r := fun r => by
    induction r with
    | nil => intro _; rw [smTs']; trivial
    | cons y q ihq =>
      intro h
      rw [smTs']
      exact ⟨h y (List.mem_cons_self ..), ihq fun z hz => h z (List.mem_cons_of_mem _ hz)⟩
  exact key l fun y hy => by
    obtain ⟨i, hi, rfl⟩ := List.getElem_of_mem hy
    exact ih i hi (d + 1) (hall i hi)

end Go.Proofs.YtgmjhoppjjjilaaDoor

/- the reference's size, check, Check -/
namespace Go.Proofs.YtgmjhoppjjjilaaDoor
open Go.ChangeShapes Go.WideShapes Go.ChangeAt Go.RowKit Go.Fl

theorem zero_eq {f : Nat} (hf : f < 18446744073709551616) : (FloatKind.f64.format.order f 0 == some .eq) = (f == 0 || f == 9223372036854775808) := by
  rcases hn : nanB f with _ | _
  · rw [order_sval hf (by decide) hn (by decide +kernel)]
    have e0 : sval 0 = 0 := by decide +kernel
    rw [e0]
    by_cases h0 : rung f = 0
    · have hs : sval f = 0 := by
        unfold sval; rw [h0]
        have : ladder 0 = 0 := by decide +kernel
        rw [this]; cases neg f <;> rfl
      rw [hs, compare_self]
      have : f = 0 ∨ f = 9223372036854775808 := by unfold rung at h0; omega
      rcases this with rfl | rfl <;> decide
    · have hl := ladder_pos.2 (by omega : 0 < rung f)
      have hne : ¬ (f = 0 ∨ f = 9223372036854775808) := by
        rintro (rfl | rfl) <;> exact h0 (by decide +kernel)
      have hb : (f == 0 || f == 9223372036854775808) = false := by simp; omega
      rw [hb]
      unfold sval sgn
      cases neg f
      · simp only [Bool.false_eq_true, if_false]; rw [compare_gt (by omega)]; rfl
      · simp only [if_true]; rw [compare_lt (by omega)]; rfl
  · rw [nan_order hf hn 0]
    have hne : ¬ (f = 0 ∨ f = 9223372036854775808) := by
      rintro (rfl | rfl) <;> exact absurd hn (by decide +kernel)
    simp; omega

theorem neg_iff (f : Nat) : neg f = decide (9223372036854775808 ≤ f) := rfl

/-- the reference's check at one tree -/
def RChkAt (t : T) : Prop := ∀ (v : Value) (d : Nat) (w : World), Rd w w.heap.size t v → d ≤ 14 →
    Calls Tryd.prog 15 #[v, .int .i64 d] w fun e w' => e = .returned (.int .i64 (chkT t d)) ∧ Below w.heap.size w w'

set_option maxRecDepth 100000 in
set_option maxHeartbeats 4000000 in
theorem rcheck_in (k n : Int) (b : Bool) (f : Nat) (s : ByteArray) (l : List T) (m : Nat) (A : Option Addr) (cap : Nat) (d : Nat) (w : World) (ih : ∀ i (hi : i < l.length), RChkAt l[i])
    (hml : m = l.length) (hd : d ≤ 13) (hf : f < 18446744073709551616) (hl : RdL w w.heap.size l A) (hm : l.length ≤ 1954687338211) :
    Calls Tryd.prog 15 #[.agg #[.int .i64 k, .bool b, .int .i64 n, .float .f64 f, .string s, .slice A m cap], .int .i64 d] w fun e w' => e = .returned (.int .i64 (chkT (.mk k b n f s l) d)) ∧ Below w.heap.size w w' := by
  have IH := Lib.hid ih; clear ih
  have Hf := Lib.hid hf; clear hf
  have Hml := Lib.hid hml
  have hm2 : m ≤ 1954687338211 := by rw [hml]; exact hm
  clear hml
  have h13 : decide ((13 : Int) < (d : Int)) = false := by simp; omega
  have HE : Hid (chkT (.mk k b n f s l) d = if shpT k b n f s m = false then 6 else if 500 < s.size ∨ 1000 < m then 3 else lex (chkL l (d + 1)) (if k = 6 ∧ risesB l = false then 6 else 0)) := by
    have := Hml.out; subst this
    show chkT (.mk k b n f s l) d = _
    rw [chkT, if_neg (by omega)]
  have hbox := (Below.refl w.heap.size w).alloc (Nat.le_refl _) (.cells #[.int .i64 k, .bool b, .int .i64 n, .float .f64 f, .string s, .slice A m cap] 25)
  have Hbox := Lib.hid hbox; clear hbox
  go_enter Tryd.func15, Tryd.ntmps15
  obtain ⟨zf, Hz⟩ : ∃ zf, Hid ((f == 0) = zf) := ⟨_, rfl⟩
  obtain ⟨idb, Hi⟩ : ∃ idb, Hid ((k == 7 || k == 8) = idb) := ⟨_, rfl⟩
  go_upto_region 4 with fail
  go_cut [6] from 14 to 22 (fun z wx => z = .bool zf ∧ wx = w.alloc (.cells #[.int .i64 k, .bool b, .int .i64 n, .float .f64 f, .string s, .slice A m cap] 25))
  case first =>
    have hz := zero_eq Hf.out
    by_cases h0 : f = 0
    · subst h0
      have hq : (FloatKind.f64.format.order 0 0 == some .eq) = true := by rw [hz]; rfl
      have hneg : neg 0 = false := by decide +kernel
      clear hz
      go_wp2_with (go_at_call 32; refine (signbit_any _ _ (by decide)).mono ?_; rw [hneg]; rintro e w' ⟨rfl, rfl⟩)
      go_meet
      exact ⟨congrArg Value.bool Hz.out, rfl⟩
    by_cases h1 : f = 9223372036854775808
    · subst h1
      have hq : (FloatKind.f64.format.order 9223372036854775808 0 == some .eq) = true := by rw [hz]; rfl
      have hneg : neg 9223372036854775808 = true := by decide +kernel
      clear hz
      generalize hg : 9223372036854775808 = g at *
      have Hg := Lib.hid hg; clear hg h0
      go_wp2_with (go_at_call 32; refine (signbit_any _ _ Hf.out).mono ?_; rw [hneg]; rintro e w' ⟨rfl, rfl⟩)
      go_meet
      exact ⟨congrArg Value.bool (by rw [← Hz.out, ← Hg.out]; rfl), rfl⟩
    · have hq : (FloatKind.f64.format.order f 0 == some .eq) = false := by rw [hz]; simp [h0, h1]
      have h2 : (f == 0) = false := by simpa using h0
      clear hz h1 h0
      go_wp2_with fail
      go_meet
      exact ⟨congrArg Value.bool (by rw [← Hz.out, h2]), rfl⟩
  case rest =>
    obtain ⟨rfl, rfl⟩ := hcut
    go_upto_region 5 with fail
    go_cut [7] from 23 to 28 (fun z wx => z = .bool idb ∧ wx = w.alloc (.cells #[.int .i64 k, .bool b, .int .i64 n, .float .f64 f, .string s, .slice A m cap] 25))
    case first =>
      by_cases h7 : k = 7
      · subst h7
        go_wp2_with fail
        go_meet
        exact ⟨congrArg Value.bool Hi.out, rfl⟩
      · have d7 : (k == 7) = false := by simpa using h7
        clear h7
        go_wp2_with fail
        go_meet
        exact ⟨congrArg Value.bool (by rw [← Hi.out, d7]; rfl), rfl⟩
    case rest =>
      obtain ⟨rfl, rfl⟩ := hcut
      go_upto_region 6 with fail
      go_cut [94] from 29 to 94 (fun z wx => z = .bool (!shpT k b n f s m) ∧ wx = w.alloc (.cells #[.int .i64 k, .bool b, .int .i64 n, .float .f64 f, .string s, .slice A m cap] 25))
      case first =>
        simp only [List.append_eq, List.cons_append, List.nil_append]
        by_cases kn : k < 0
        · have HR := Lib.hid (show shpT k b n f s m = false by unfold shpT; simp; omega)
          have dk : decide (k < 0) = true := by simpa using kn
          clear kn
          go_wp2_with fail
          go_meet
          exact ⟨congrArg Value.bool (by rw [HR.out]; rfl), rfl⟩
        by_cases kb : 8 < k
        · have HR := Lib.hid (show shpT k b n f s m = false by unfold shpT; simp; omega)
          have dk : decide (k < 0) = false := by simp; omega
          have dk' : decide (8 < k) = true := by simpa using kb
          clear kb kn
          go_wp2_with fail
          go_meet
          exact ⟨congrArg Value.bool (by rw [HR.out]; rfl), rfl⟩
        have hc : k = 0 ∨ k = 1 ∨ k = 2 ∨ k = 3 ∨ k = 4 ∨ k = 5 ∨ k = 6 ∨ k = 7 ∨ k = 8 := by omega
        clear kn kb
        rcases hc with rfl | rfl | rfl | rfl | rfl | rfl | rfl | rfl | rfl
        · obtain rfl : idb = false := by rw [← Hi.out]; rfl
          rcases b with _ | _
          rotate_left
          · have HR := Lib.hid (show shpT 0 true n f s m = false by unfold shpT; simp)
            go_wp2_with fail
            go_meet
            exact ⟨congrArg Value.bool (by rw [HR.out]; rfl), rfl⟩
          by_cases hn : n = 0
          rotate_left
          · have HR := Lib.hid (show shpT 0 false n f s m = false by unfold shpT; simp [hn])
            have dn : (n != 0) = true := by simpa using hn
            have dn' : (n == 0) = false := by simpa using hn
            clear hn
            go_wp2_with fail
            go_meet
            exact ⟨congrArg Value.bool (by rw [HR.out]; rfl), rfl⟩
          subst hn
          by_cases hf0 : f = 0
          rotate_left
          · have HR := Lib.hid (show shpT 0 false 0 f s m = false by unfold shpT; simp [hf0])
            obtain rfl : zf = false := by rw [← Hz.out]; simpa using hf0
            clear hf0
            go_wp2_with fail
            go_meet
            exact ⟨congrArg Value.bool (by rw [HR.out]; rfl), rfl⟩
          subst hf0
          obtain rfl : zf = true := by rw [← Hz.out]; rfl
          by_cases hs0 : s.toList = []
          rotate_left
          · have HR := Lib.hid (show shpT 0 false 0 0 s m = false by unfold shpT; simp [hs0])
            have ds : (s.toList == []) = false := by simpa using hs0
            have ds' : s.toList.isEmpty = false := by simpa using hs0
            clear hs0
            go_wp2_with fail
            go_meet
            exact ⟨congrArg Value.bool (by rw [HR.out]; rfl), rfl⟩
          by_cases hm0 : m = 0
          rotate_left
          · have HR := Lib.hid (show shpT 0 false 0 0 s m = false by unfold shpT; simp [hm0])
            have dm : decide (0 < m) = true := by simp; omega
            clear hm0
            go_wp2_with fail
            go_meet
            exact ⟨congrArg Value.bool (by rw [HR.out]; rfl), rfl⟩
          subst hm0
          have HR := Lib.hid (show shpT 0 false 0 0 s 0 = true by unfold shpT; simp [*])
          go_wp2_with fail
          go_meet
          exact ⟨congrArg Value.bool (by rw [HR.out]; rfl), rfl⟩
        · obtain rfl : idb = false := by rw [← Hi.out]; rfl
          rcases b with _ | _
          · by_cases hn : n = 0
            rotate_left
            · have HR := Lib.hid (show shpT 1 false n f s m = false by unfold shpT; simp [hn])
              have dn : (n != 0) = true := by simpa using hn
              have dn' : (n == 0) = false := by simpa using hn
              clear hn
              go_wp2_with fail
              go_meet
              exact ⟨congrArg Value.bool (by rw [HR.out]; rfl), rfl⟩
            subst hn
            by_cases hf0 : f = 0
            rotate_left
            · have HR := Lib.hid (show shpT 1 false 0 f s m = false by unfold shpT; simp [hf0])
              obtain rfl : zf = false := by rw [← Hz.out]; simpa using hf0
              clear hf0
              go_wp2_with fail
              go_meet
              exact ⟨congrArg Value.bool (by rw [HR.out]; rfl), rfl⟩
            subst hf0
            obtain rfl : zf = true := by rw [← Hz.out]; rfl
            by_cases hs0 : s.toList = []
            rotate_left
            · have HR := Lib.hid (show shpT 1 false 0 0 s m = false by unfold shpT; simp [hs0])
              have ds : (s.toList == []) = false := by simpa using hs0
              have ds' : s.toList.isEmpty = false := by simpa using hs0
              clear hs0
              go_wp2_with fail
              go_meet
              exact ⟨congrArg Value.bool (by rw [HR.out]; rfl), rfl⟩
            by_cases hm0 : m = 0
            rotate_left
            · have HR := Lib.hid (show shpT 1 false 0 0 s m = false by unfold shpT; simp [hm0])
              have dm : decide (0 < m) = true := by simp; omega
              clear hm0
              go_wp2_with fail
              go_meet
              exact ⟨congrArg Value.bool (by rw [HR.out]; rfl), rfl⟩
            subst hm0
            have HR := Lib.hid (show shpT 1 false 0 0 s 0 = true by unfold shpT; simp [*])
            go_wp2_with fail
            go_meet
            exact ⟨congrArg Value.bool (by rw [HR.out]; rfl), rfl⟩
          · by_cases hn : n = 0
            rotate_left
            · have HR := Lib.hid (show shpT 1 true n f s m = false by unfold shpT; simp [hn])
              have dn : (n != 0) = true := by simpa using hn
              have dn' : (n == 0) = false := by simpa using hn
              clear hn
              go_wp2_with fail
              go_meet
              exact ⟨congrArg Value.bool (by rw [HR.out]; rfl), rfl⟩
            subst hn
            by_cases hf0 : f = 0
            rotate_left
            · have HR := Lib.hid (show shpT 1 true 0 f s m = false by unfold shpT; simp [hf0])
              obtain rfl : zf = false := by rw [← Hz.out]; simpa using hf0
              clear hf0
              go_wp2_with fail
              go_meet
              exact ⟨congrArg Value.bool (by rw [HR.out]; rfl), rfl⟩
            subst hf0
            obtain rfl : zf = true := by rw [← Hz.out]; rfl
            by_cases hs0 : s.toList = []
            rotate_left
            · have HR := Lib.hid (show shpT 1 true 0 0 s m = false by unfold shpT; simp [hs0])
              have ds : (s.toList == []) = false := by simpa using hs0
              have ds' : s.toList.isEmpty = false := by simpa using hs0
              clear hs0
              go_wp2_with fail
              go_meet
              exact ⟨congrArg Value.bool (by rw [HR.out]; rfl), rfl⟩
            by_cases hm0 : m = 0
            rotate_left
            · have HR := Lib.hid (show shpT 1 true 0 0 s m = false by unfold shpT; simp [hm0])
              have dm : decide (0 < m) = true := by simp; omega
              clear hm0
              go_wp2_with fail
              go_meet
              exact ⟨congrArg Value.bool (by rw [HR.out]; rfl), rfl⟩
            subst hm0
            have HR := Lib.hid (show shpT 1 true 0 0 s 0 = true by unfold shpT; simp [*])
            go_wp2_with fail
            go_meet
            exact ⟨congrArg Value.bool (by rw [HR.out]; rfl), rfl⟩
        · obtain rfl : idb = false := by rw [← Hi.out]; rfl
          by_cases hn : n = 0
          · subst hn
            rcases b with _ | _
            rotate_left
            · have HR := Lib.hid (show shpT 2 true 0 f s m = false by unfold shpT; simp)
              go_wp2_with fail
              go_meet
              exact ⟨congrArg Value.bool (by rw [HR.out]; rfl), rfl⟩
            by_cases hf0 : f = 0
            rotate_left
            · have HR := Lib.hid (show shpT 2 false 0 f s m = false by unfold shpT; simp [hf0])
              obtain rfl : zf = false := by rw [← Hz.out]; simpa using hf0
              clear hf0
              go_wp2_with fail
              go_meet
              exact ⟨congrArg Value.bool (by rw [HR.out]; rfl), rfl⟩
            subst hf0
            obtain rfl : zf = true := by rw [← Hz.out]; rfl
            by_cases hs0 : s.toList = []
            rotate_left
            · have HR := Lib.hid (show shpT 2 false 0 0 s m = false by unfold shpT; simp [hs0])
              have ds : (s.toList == []) = false := by simpa using hs0
              have ds' : s.toList.isEmpty = false := by simpa using hs0
              clear hs0
              go_wp2_with fail
              go_meet
              exact ⟨congrArg Value.bool (by rw [HR.out]; rfl), rfl⟩
            by_cases hm0 : m = 0
            rotate_left
            · have HR := Lib.hid (show shpT 2 false 0 0 s m = false by unfold shpT; simp [hm0])
              have dm : decide (0 < m) = true := by simp; omega
              clear hm0
              go_wp2_with fail
              go_meet
              exact ⟨congrArg Value.bool (by rw [HR.out]; rfl), rfl⟩
            subst hm0
            have HR := Lib.hid (show shpT 2 false 0 0 s 0 = true by unfold shpT; simp [*])
            go_wp2_with fail
            go_meet
            exact ⟨congrArg Value.bool (by rw [HR.out]; rfl), rfl⟩
          · have dn : (n != 0) = true := by simpa using hn
            have dn' : (n == 0) = false := by simpa using hn
            rcases b with _ | _
            rotate_left
            · have HR := Lib.hid (show shpT 2 true n f s m = false by unfold shpT; simp)
              go_wp2_with fail
              go_meet
              exact ⟨congrArg Value.bool (by rw [HR.out]; rfl), rfl⟩
            by_cases hf0 : f = 0
            rotate_left
            · have HR := Lib.hid (show shpT 2 false n f s m = false by unfold shpT; simp [hf0])
              obtain rfl : zf = false := by rw [← Hz.out]; simpa using hf0
              clear hf0
              go_wp2_with fail
              go_meet
              exact ⟨congrArg Value.bool (by rw [HR.out]; rfl), rfl⟩
            subst hf0
            obtain rfl : zf = true := by rw [← Hz.out]; rfl
            by_cases hs0 : s.toList = []
            rotate_left
            · have HR := Lib.hid (show shpT 2 false n 0 s m = false by unfold shpT; simp [hs0])
              have ds : (s.toList == []) = false := by simpa using hs0
              have ds' : s.toList.isEmpty = false := by simpa using hs0
              clear hs0
              go_wp2_with fail
              go_meet
              exact ⟨congrArg Value.bool (by rw [HR.out]; rfl), rfl⟩
            by_cases hm0 : m = 0
            rotate_left
            · have HR := Lib.hid (show shpT 2 false n 0 s m = false by unfold shpT; simp [hm0])
              have dm : decide (0 < m) = true := by simp; omega
              clear hm0
              go_wp2_with fail
              go_meet
              exact ⟨congrArg Value.bool (by rw [HR.out]; rfl), rfl⟩
            subst hm0
            have HR := Lib.hid (show shpT 2 false n 0 s 0 = true by unfold shpT; simp [*])
            go_wp2_with fail
            go_meet
            exact ⟨congrArg Value.bool (by rw [HR.out]; rfl), rfl⟩
        · obtain rfl : idb = false := by rw [← Hi.out]; rfl
          rcases zf with _ | _
          · rcases b with _ | _
            rotate_left
            · have HR := Lib.hid (show shpT 3 true n f s m = false by unfold shpT; simp)
              go_wp2_with fail
              go_meet
              exact ⟨congrArg Value.bool (by rw [HR.out]; rfl), rfl⟩
            by_cases hn : n = 0
            rotate_left
            · have HR := Lib.hid (show shpT 3 false n f s m = false by unfold shpT; simp [hn])
              have dn : (n != 0) = true := by simpa using hn
              have dn' : (n == 0) = false := by simpa using hn
              clear hn
              go_wp2_with fail
              go_meet
              exact ⟨congrArg Value.bool (by rw [HR.out]; rfl), rfl⟩
            subst hn
            by_cases hs0 : s.toList = []
            rotate_left
            · have HR := Lib.hid (show shpT 3 false 0 f s m = false by unfold shpT; simp [hs0])
              have ds : (s.toList == []) = false := by simpa using hs0
              have ds' : s.toList.isEmpty = false := by simpa using hs0
              clear hs0
              go_wp2_with fail
              go_meet
              exact ⟨congrArg Value.bool (by rw [HR.out]; rfl), rfl⟩
            by_cases hm0 : m = 0
            rotate_left
            · have HR := Lib.hid (show shpT 3 false 0 f s m = false by unfold shpT; simp [hm0])
              have dm : decide (0 < m) = true := by simp; omega
              clear hm0
              go_wp2_with fail
              go_meet
              exact ⟨congrArg Value.bool (by rw [HR.out]; rfl), rfl⟩
            subst hm0
            have HR := Lib.hid (show shpT 3 false 0 f s 0 = true by unfold shpT; simp [*])
            go_wp2_with fail
            go_meet
            exact ⟨congrArg Value.bool (by rw [HR.out]; rfl), rfl⟩
          · rcases b with _ | _
            rotate_left
            · have HR := Lib.hid (show shpT 3 true n f s m = false by unfold shpT; simp)
              go_wp2_with fail
              go_meet
              exact ⟨congrArg Value.bool (by rw [HR.out]; rfl), rfl⟩
            by_cases hn : n = 0
            rotate_left
            · have HR := Lib.hid (show shpT 3 false n f s m = false by unfold shpT; simp [hn])
              have dn : (n != 0) = true := by simpa using hn
              have dn' : (n == 0) = false := by simpa using hn
              clear hn
              go_wp2_with fail
              go_meet
              exact ⟨congrArg Value.bool (by rw [HR.out]; rfl), rfl⟩
            subst hn
            by_cases hs0 : s.toList = []
            rotate_left
            · have HR := Lib.hid (show shpT 3 false 0 f s m = false by unfold shpT; simp [hs0])
              have ds : (s.toList == []) = false := by simpa using hs0
              have ds' : s.toList.isEmpty = false := by simpa using hs0
              clear hs0
              go_wp2_with fail
              go_meet
              exact ⟨congrArg Value.bool (by rw [HR.out]; rfl), rfl⟩
            by_cases hm0 : m = 0
            rotate_left
            · have HR := Lib.hid (show shpT 3 false 0 f s m = false by unfold shpT; simp [hm0])
              have dm : decide (0 < m) = true := by simp; omega
              clear hm0
              go_wp2_with fail
              go_meet
              exact ⟨congrArg Value.bool (by rw [HR.out]; rfl), rfl⟩
            subst hm0
            have HR := Lib.hid (show shpT 3 false 0 f s 0 = true by unfold shpT; simp [*])
            go_wp2_with fail
            go_meet
            exact ⟨congrArg Value.bool (by rw [HR.out]; rfl), rfl⟩
        · obtain rfl : idb = false := by rw [← Hi.out]; rfl
          by_cases hs0 : s.toList = []
          · rcases b with _ | _
            rotate_left
            · have HR := Lib.hid (show shpT 4 true n f s m = false by unfold shpT; simp)
              go_wp2_with fail
              go_meet
              exact ⟨congrArg Value.bool (by rw [HR.out]; rfl), rfl⟩
            by_cases hn : n = 0
            rotate_left
            · have HR := Lib.hid (show shpT 4 false n f s m = false by unfold shpT; simp [hn])
              have dn : (n != 0) = true := by simpa using hn
              have dn' : (n == 0) = false := by simpa using hn
              clear hn
              go_wp2_with fail
              go_meet
              exact ⟨congrArg Value.bool (by rw [HR.out]; rfl), rfl⟩
            subst hn
            by_cases hf0 : f = 0
            rotate_left
            · have HR := Lib.hid (show shpT 4 false 0 f s m = false by unfold shpT; simp [hf0])
              obtain rfl : zf = false := by rw [← Hz.out]; simpa using hf0
              clear hf0
              go_wp2_with fail
              go_meet
              exact ⟨congrArg Value.bool (by rw [HR.out]; rfl), rfl⟩
            subst hf0
            obtain rfl : zf = true := by rw [← Hz.out]; rfl
            by_cases hm0 : m = 0
            rotate_left
            · have HR := Lib.hid (show shpT 4 false 0 0 s m = false by unfold shpT; simp [hm0])
              have dm : decide (0 < m) = true := by simp; omega
              clear hm0
              go_wp2_with fail
              go_meet
              exact ⟨congrArg Value.bool (by rw [HR.out]; rfl), rfl⟩
            subst hm0
            have HR := Lib.hid (show shpT 4 false 0 0 s 0 = true by unfold shpT; simp [*])
            go_wp2_with fail
            go_meet
            exact ⟨congrArg Value.bool (by rw [HR.out]; rfl), rfl⟩
          · have ds : (s.toList == []) = false := by simpa using hs0
            have ds' : s.toList.isEmpty = false := by simpa using hs0
            rcases b with _ | _
            rotate_left
            · have HR := Lib.hid (show shpT 4 true n f s m = false by unfold shpT; simp)
              go_wp2_with fail
              go_meet
              exact ⟨congrArg Value.bool (by rw [HR.out]; rfl), rfl⟩
            by_cases hn : n = 0
            rotate_left
            · have HR := Lib.hid (show shpT 4 false n f s m = false by unfold shpT; simp [hn])
              have dn : (n != 0) = true := by simpa using hn
              have dn' : (n == 0) = false := by simpa using hn
              clear hn
              go_wp2_with fail
              go_meet
              exact ⟨congrArg Value.bool (by rw [HR.out]; rfl), rfl⟩
            subst hn
            by_cases hf0 : f = 0
            rotate_left
            · have HR := Lib.hid (show shpT 4 false 0 f s m = false by unfold shpT; simp [hf0])
              obtain rfl : zf = false := by rw [← Hz.out]; simpa using hf0
              clear hf0
              go_wp2_with fail
              go_meet
              exact ⟨congrArg Value.bool (by rw [HR.out]; rfl), rfl⟩
            subst hf0
            obtain rfl : zf = true := by rw [← Hz.out]; rfl
            by_cases hm0 : m = 0
            rotate_left
            · have HR := Lib.hid (show shpT 4 false 0 0 s m = false by unfold shpT; simp [hm0])
              have dm : decide (0 < m) = true := by simp; omega
              clear hm0
              go_wp2_with fail
              go_meet
              exact ⟨congrArg Value.bool (by rw [HR.out]; rfl), rfl⟩
            subst hm0
            have HR := Lib.hid (show shpT 4 false 0 0 s 0 = true by unfold shpT; simp [*])
            go_wp2_with fail
            go_meet
            exact ⟨congrArg Value.bool (by rw [HR.out]; rfl), rfl⟩
        · obtain rfl : idb = false := by rw [← Hi.out]; rfl
          by_cases hm0 : m = 0
          · subst hm0
            rcases b with _ | _
            rotate_left
            · have HR := Lib.hid (show shpT 5 true n f s 0 = false by unfold shpT; simp)
              go_wp2_with fail
              go_meet
              exact ⟨congrArg Value.bool (by rw [HR.out]; rfl), rfl⟩
            by_cases hn : n = 0
            rotate_left
            · have HR := Lib.hid (show shpT 5 false n f s 0 = false by unfold shpT; simp [hn])
              have dn : (n != 0) = true := by simpa using hn
              have dn' : (n == 0) = false := by simpa using hn
              clear hn
              go_wp2_with fail
              go_meet
              exact ⟨congrArg Value.bool (by rw [HR.out]; rfl), rfl⟩
            subst hn
            by_cases hf0 : f = 0
            rotate_left
            · have HR := Lib.hid (show shpT 5 false 0 f s 0 = false by unfold shpT; simp [hf0])
              obtain rfl : zf = false := by rw [← Hz.out]; simpa using hf0
              clear hf0
              go_wp2_with fail
              go_meet
              exact ⟨congrArg Value.bool (by rw [HR.out]; rfl), rfl⟩
            subst hf0
            obtain rfl : zf = true := by rw [← Hz.out]; rfl
            by_cases hs0 : s.toList = []
            rotate_left
            · have HR := Lib.hid (show shpT 5 false 0 0 s 0 = false by unfold shpT; simp [hs0])
              have ds : (s.toList == []) = false := by simpa using hs0
              have ds' : s.toList.isEmpty = false := by simpa using hs0
              clear hs0
              go_wp2_with fail
              go_meet
              exact ⟨congrArg Value.bool (by rw [HR.out]; rfl), rfl⟩
            have HR := Lib.hid (show shpT 5 false 0 0 s 0 = true by unfold shpT; simp [*])
            go_wp2_with fail
            go_meet
            exact ⟨congrArg Value.bool (by rw [HR.out]; rfl), rfl⟩
          · have dm : decide (0 < m) = true := by simp; omega
            rcases b with _ | _
            rotate_left
            · have HR := Lib.hid (show shpT 5 true n f s m = false by unfold shpT; simp)
              go_wp2_with fail
              go_meet
              exact ⟨congrArg Value.bool (by rw [HR.out]; rfl), rfl⟩
            by_cases hn : n = 0
            rotate_left
            · have HR := Lib.hid (show shpT 5 false n f s m = false by unfold shpT; simp [hn])
              have dn : (n != 0) = true := by simpa using hn
              have dn' : (n == 0) = false := by simpa using hn
              clear hn
              go_wp2_with fail
              go_meet
              exact ⟨congrArg Value.bool (by rw [HR.out]; rfl), rfl⟩
            subst hn
            by_cases hf0 : f = 0
            rotate_left
            · have HR := Lib.hid (show shpT 5 false 0 f s m = false by unfold shpT; simp [hf0])
              obtain rfl : zf = false := by rw [← Hz.out]; simpa using hf0
              clear hf0
              go_wp2_with fail
              go_meet
              exact ⟨congrArg Value.bool (by rw [HR.out]; rfl), rfl⟩
            subst hf0
            obtain rfl : zf = true := by rw [← Hz.out]; rfl
            by_cases hs0 : s.toList = []
            rotate_left
            · have HR := Lib.hid (show shpT 5 false 0 0 s m = false by unfold shpT; simp [hs0])
              have ds : (s.toList == []) = false := by simpa using hs0
              have ds' : s.toList.isEmpty = false := by simpa using hs0
              clear hs0
              go_wp2_with fail
              go_meet
              exact ⟨congrArg Value.bool (by rw [HR.out]; rfl), rfl⟩
            have HR := Lib.hid (show shpT 5 false 0 0 s m = true by unfold shpT; simp [*])
            go_wp2_with fail
            go_meet
            exact ⟨congrArg Value.bool (by rw [HR.out]; rfl), rfl⟩
        · obtain rfl : idb = false := by rw [← Hi.out]; rfl
          by_cases hm0 : m = 0
          · subst hm0
            rcases b with _ | _
            rotate_left
            · have HR := Lib.hid (show shpT 6 true n f s 0 = false by unfold shpT; simp)
              go_wp2_with fail
              go_meet
              exact ⟨congrArg Value.bool (by rw [HR.out]; rfl), rfl⟩
            by_cases hn : n = 0
            rotate_left
            · have HR := Lib.hid (show shpT 6 false n f s 0 = false by unfold shpT; simp [hn])
              have dn : (n != 0) = true := by simpa using hn
              have dn' : (n == 0) = false := by simpa using hn
              clear hn
              go_wp2_with fail
              go_meet
              exact ⟨congrArg Value.bool (by rw [HR.out]; rfl), rfl⟩
            subst hn
            by_cases hf0 : f = 0
            rotate_left
            · have HR := Lib.hid (show shpT 6 false 0 f s 0 = false by unfold shpT; simp [hf0])
              obtain rfl : zf = false := by rw [← Hz.out]; simpa using hf0
              clear hf0
              go_wp2_with fail
              go_meet
              exact ⟨congrArg Value.bool (by rw [HR.out]; rfl), rfl⟩
            subst hf0
            obtain rfl : zf = true := by rw [← Hz.out]; rfl
            by_cases hs0 : s.toList = []
            rotate_left
            · have HR := Lib.hid (show shpT 6 false 0 0 s 0 = false by unfold shpT; simp [hs0])
              have ds : (s.toList == []) = false := by simpa using hs0
              have ds' : s.toList.isEmpty = false := by simpa using hs0
              clear hs0
              go_wp2_with fail
              go_meet
              exact ⟨congrArg Value.bool (by rw [HR.out]; rfl), rfl⟩
            have HR := Lib.hid (show shpT 6 false 0 0 s 0 = true by unfold shpT; simp [*])
            go_wp2_with fail
            go_meet
            exact ⟨congrArg Value.bool (by rw [HR.out]; rfl), rfl⟩
          · have dm : decide (0 < m) = true := by simp; omega
            rcases b with _ | _
            rotate_left
            · have HR := Lib.hid (show shpT 6 true n f s m = false by unfold shpT; simp)
              go_wp2_with fail
              go_meet
              exact ⟨congrArg Value.bool (by rw [HR.out]; rfl), rfl⟩
            by_cases hn : n = 0
            rotate_left
            · have HR := Lib.hid (show shpT 6 false n f s m = false by unfold shpT; simp [hn])
              have dn : (n != 0) = true := by simpa using hn
              have dn' : (n == 0) = false := by simpa using hn
              clear hn
              go_wp2_with fail
              go_meet
              exact ⟨congrArg Value.bool (by rw [HR.out]; rfl), rfl⟩
            subst hn
            by_cases hf0 : f = 0
            rotate_left
            · have HR := Lib.hid (show shpT 6 false 0 f s m = false by unfold shpT; simp [hf0])
              obtain rfl : zf = false := by rw [← Hz.out]; simpa using hf0
              clear hf0
              go_wp2_with fail
              go_meet
              exact ⟨congrArg Value.bool (by rw [HR.out]; rfl), rfl⟩
            subst hf0
            obtain rfl : zf = true := by rw [← Hz.out]; rfl
            by_cases hs0 : s.toList = []
            rotate_left
            · have HR := Lib.hid (show shpT 6 false 0 0 s m = false by unfold shpT; simp [hs0])
              have ds : (s.toList == []) = false := by simpa using hs0
              have ds' : s.toList.isEmpty = false := by simpa using hs0
              clear hs0
              go_wp2_with fail
              go_meet
              exact ⟨congrArg Value.bool (by rw [HR.out]; rfl), rfl⟩
            have HR := Lib.hid (show shpT 6 false 0 0 s m = true by unfold shpT; simp [*])
            go_wp2_with fail
            go_meet
            exact ⟨congrArg Value.bool (by rw [HR.out]; rfl), rfl⟩
        · obtain rfl : idb = true := by rw [← Hi.out]; rfl
          rcases b with _ | _
          rotate_left
          · have HR := Lib.hid (show shpT 7 true n f s m = false by unfold shpT; simp)
            go_wp2_with fail
            go_meet
            exact ⟨congrArg Value.bool (by rw [HR.out]; rfl), rfl⟩
          by_cases hn1 : n < 1
          · have HR := Lib.hid (show shpT 7 false n f s m = false by unfold shpT; simp; omega)
            by_cases hn0 : n = 0
            · subst hn0
              clear hn1
              go_wp2_with fail
              go_meet
              exact ⟨congrArg Value.bool (by rw [HR.out]; rfl), rfl⟩
            have dn : decide (n < 1) = true := by simpa using hn1
            have dn2 : (n != 0) = true := by simpa using hn0
            clear hn1 hn0
            go_wp2_with fail
            go_meet
            exact ⟨congrArg Value.bool (by rw [HR.out]; rfl), rfl⟩
          have dn : decide (n < 1) = false := by simpa using hn1
          have hge : 1 ≤ n := by omega
          have dn2 : (n != 0) = true := by simp; omega
          by_cases hf0 : f = 0
          rotate_left
          · have HR := Lib.hid (show shpT 7 false n f s m = false by unfold shpT; simp [hf0])
            obtain rfl : zf = false := by rw [← Hz.out]; simpa using hf0
            clear hf0
            go_wp2_with fail
            go_meet
            exact ⟨congrArg Value.bool (by rw [HR.out]; rfl), rfl⟩
          subst hf0
          obtain rfl : zf = true := by rw [← Hz.out]; rfl
          by_cases hs0 : s.toList = []
          rotate_left
          · have HR := Lib.hid (show shpT 7 false n 0 s m = false by unfold shpT; simp [hs0])
            have ds : (s.toList == []) = false := by simpa using hs0
            have ds' : s.toList.isEmpty = false := by simpa using hs0
            clear hs0
            go_wp2_with fail
            go_meet
            exact ⟨congrArg Value.bool (by rw [HR.out]; rfl), rfl⟩
          by_cases hm0 : m = 0
          rotate_left
          · have HR := Lib.hid (show shpT 7 false n 0 s m = false by unfold shpT; simp [hm0])
            have dm : decide (0 < m) = true := by simp; omega
            clear hm0
            go_wp2_with fail
            go_meet
            exact ⟨congrArg Value.bool (by rw [HR.out]; rfl), rfl⟩
          subst hm0
          have HR := Lib.hid (show shpT 7 false n 0 s 0 = true by unfold shpT; simp [*])
          go_wp2_with fail
          go_meet
          exact ⟨congrArg Value.bool (by rw [HR.out]; rfl), rfl⟩
        · obtain rfl : idb = true := by rw [← Hi.out]; rfl
          rcases b with _ | _
          rotate_left
          · have HR := Lib.hid (show shpT 8 true n f s m = false by unfold shpT; simp)
            go_wp2_with fail
            go_meet
            exact ⟨congrArg Value.bool (by rw [HR.out]; rfl), rfl⟩
          by_cases hn1 : n < 1
          · have HR := Lib.hid (show shpT 8 false n f s m = false by unfold shpT; simp; omega)
            by_cases hn0 : n = 0
            · subst hn0
              clear hn1
              go_wp2_with fail
              go_meet
              exact ⟨congrArg Value.bool (by rw [HR.out]; rfl), rfl⟩
            have dn : decide (n < 1) = true := by simpa using hn1
            have dn2 : (n != 0) = true := by simpa using hn0
            clear hn1 hn0
            go_wp2_with fail
            go_meet
            exact ⟨congrArg Value.bool (by rw [HR.out]; rfl), rfl⟩
          have dn : decide (n < 1) = false := by simpa using hn1
          have hge : 1 ≤ n := by omega
          have dn2 : (n != 0) = true := by simp; omega
          by_cases hf0 : f = 0
          rotate_left
          · have HR := Lib.hid (show shpT 8 false n f s m = false by unfold shpT; simp [hf0])
            obtain rfl : zf = false := by rw [← Hz.out]; simpa using hf0
            clear hf0
            go_wp2_with fail
            go_meet
            exact ⟨congrArg Value.bool (by rw [HR.out]; rfl), rfl⟩
          subst hf0
          obtain rfl : zf = true := by rw [← Hz.out]; rfl
          by_cases hs0 : s.toList = []
          rotate_left
          · have HR := Lib.hid (show shpT 8 false n 0 s m = false by unfold shpT; simp [hs0])
            have ds : (s.toList == []) = false := by simpa using hs0
            have ds' : s.toList.isEmpty = false := by simpa using hs0
            clear hs0
            go_wp2_with fail
            go_meet
            exact ⟨congrArg Value.bool (by rw [HR.out]; rfl), rfl⟩
          by_cases hm0 : m = 0
          rotate_left
          · have HR := Lib.hid (show shpT 8 false n 0 s m = false by unfold shpT; simp [hm0])
            have dm : decide (0 < m) = true := by simp; omega
            clear hm0
            go_wp2_with fail
            go_meet
            exact ⟨congrArg Value.bool (by rw [HR.out]; rfl), rfl⟩
          subst hm0
          have HR := Lib.hid (show shpT 8 false n 0 s 0 = true by unfold shpT; simp [*])
          go_wp2_with fail
          go_meet
          exact ⟨congrArg Value.bool (by rw [HR.out]; rfl), rfl⟩
      case rest =>
        obtain ⟨rfl, rfl⟩ := hcut
        rcases hsh : shpT k b n f s m with _ | _
        · have HE2 : Hid (chkT (.mk k b n f s l) d = 6) := by have := HE.out; rw [if_pos hsh] at this; exact this
          have hsh' : (!shpT k b n f s m) = true := by rw [hsh]; rfl
          clear hsh
          go_wp2_with fail
          go_ret
          exact ⟨ret_int HE2.out.symm, Hbox.out⟩
        have hsh' : (!shpT k b n f s m) = false := by rw [hsh]; rfl
        have HE1 : Hid (chkT (.mk k b n f s l) d = if 500 < s.size ∨ 1000 < m then 3 else lex (chkL l (d + 1)) (if k = 6 ∧ risesB l = false then 6 else 0)) := by
          have := HE.out; rw [if_neg (by rw [hsh]; decide)] at this; exact this
        clear hsh
        by_cases h5 : 500 < s.size
        · have HE2 : Hid (chkT (.mk k b n f s l) d = 3) := by have := HE1.out; rw [if_pos (.inl h5)] at this; exact this
          go_wp2_with fail
          go_ret
          exact ⟨ret_int HE2.out.symm, Hbox.out⟩
        by_cases h6 : 1000 < m
        · have HE2 : Hid (chkT (.mk k b n f s l) d = 3) := by have := HE1.out; rw [if_pos (.inr h6)] at this; exact this
          go_wp2_with fail
          go_ret
          exact ⟨ret_int HE2.out.symm, Hbox.out⟩
        have HE2 : Hid (chkT (.mk k b n f s l) d = lex (chkL (l.drop 0) (d + 1)) (if k = 6 ∧ risesB l = false then 6 else 0)) := by have := HE1.out; rw [if_neg (by omega)] at this; exact this
        go_wp2_with fail
        go_loopw [8] (fun si wr => ∃ i : Nat, i ≤ m ∧ si = .int .i64 i ∧ Hid (chkL (l.drop 0) (d + 1) = chkL (l.drop i) (d + 1)) ∧ Below (w.heap.size + 1) (w.alloc (.cells #[.int .i64 k, .bool b, .int .i64 n, .float .f64 f, .string s, .slice A m cap] 25)) wr) (fun si _ => m - (intOf si).toNat)
        case atStart => exact ⟨0, by omega, rfl, rfl, Below.refl _ _⟩
        case round =>
          obtain ⟨i, hi, rfl, HI, hbr⟩ := hrel
          have hb := bel1 hbr
          have hz1 : w.heap.size + 1 ≤ wr.heap.size := by have := hbr.size; simpa using this
          have hcell0 := hbr.cell (p := ⟨w.heap.size, 0, none⟩) (by simp)
          have hcell5 := hbr.cell (p := ⟨w.heap.size, 5, none⟩) (by simp)
          by_cases hlt : i < m
          · have hlt' : i < l.length := by have := Hml.out; omega
            obtain ⟨a, k', b', q0, f', s', q, D, capi, rfl, hab, hx, hrd, e0, e1, e2, e3, e4, e5⟩ := (hl.on hb).item hlt'
            have Hx := Lib.hid hx; clear hx
            have IHi := Lib.hid (IH.out i hlt')
            have HS := Lib.hid (chkL_step hlt' (d + 1))
            have hdd : ((d : Int) + 1) = ((d + 1 : Nat) : Int) := by omega
            have Hdd := Lib.hid hdd; clear hdd
            go_wp2_with fail
            rw [Hdd.out]
            refine (IHi.out _ (d + 1) _ hrd (by omega)).mono ?_
            rintro e w2 ⟨rfl, hb2⟩
            have hb3 := hbr.trans (hb2.mono hz1)
            by_cases hc0 : chkT l[i] (d + 1) = 0
            · have HS' : Hid (chkL (l.drop 0) (d + 1) = chkL (l.drop (i + 1)) (d + 1)) := by
                have := HS.out; unfold lex at this; rw [if_pos hc0] at this; exact HI.out.trans this
              clear hcell0 hcell5
              go_wp2_with fail
              go_roundw
              case rel => exact ⟨i + 1, by omega, by go_num, HS', hb3⟩
              case measure => simp [intOf]; omega
            · have d1 : (chkT l[i] (d + 1) != 0) = true := by simpa using hc0
              have d2 : (chkT l[i] (d + 1) == 0) = false := by simpa using hc0
              have HS' : Hid (chkT (.mk k b n f s l) d = chkT l[i] (d + 1)) := by
                have h1 := HS.out; unfold lex at h1; rw [if_neg hc0] at h1
                have h2 := HE2.out; rw [HI.out, h1] at h2; unfold lex at h2; rw [if_neg hc0] at h2; exact h2
              clear hc0
              go_wp2_with fail
              go_ret
              exact ⟨ret_int HS'.out.symm, bel1 hb3⟩
          · have h0 : chkL (l.drop 0) (d + 1) = 0 := by rw [HI.out, chkL_end (by have := Hml.out; omega)]
            have HE3 : Hid (chkT (.mk k b n f s l) d = if k = 6 ∧ risesB l = false then 6 else 0) := by
              have := HE2.out; unfold lex at this; rw [if_pos h0] at this; exact this
            clear h0
            by_cases k6 : k = 6
            · have d6 : (k == 6) = true := by simpa using k6
              have HR := Lib.hid (rrises_any l A cap _ (hl.on hb) hm)
              rcases hr : risesB l with _ | _
              · have HE4 : Hid (chkT (.mk k b n f s l) d = 6) := by have := HE3.out; rw [if_pos ⟨k6, hr⟩] at this; exact this
                have Hr := Lib.hid hr
                clear k6 hr
                go_wp2_with fail
                have HR' := HR.out
                rw [← Hml.out, Hr.out] at HR'
                refine HR'.mono ?_
                rintro e w2 ⟨rfl, hb2⟩
                clear HR'
                go_wp2_with fail
                go_ret
                exact ⟨ret_int HE4.out.symm, hb.trans (hb2.mono hb.size)⟩
              · have HE4 : Hid (chkT (.mk k b n f s l) d = 0) := by have := HE3.out; rw [if_neg (by rw [hr]; simp)] at this; exact this
                have Hr := Lib.hid hr
                clear k6 hr
                go_wp2_with fail
                have HR' := HR.out
                rw [← Hml.out, Hr.out] at HR'
                refine HR'.mono ?_
                rintro e w2 ⟨rfl, hb2⟩
                clear HR'
                go_wp2_with fail
                go_ret
                exact ⟨ret_int HE4.out.symm, hb.trans (hb2.mono hb.size)⟩
            · have d6 : (k == 6) = false := by simpa using k6
              have HE4 : Hid (chkT (.mk k b n f s l) d = 0) := by have := HE3.out; rw [if_neg (by simp [k6])] at this; exact this
              clear k6
              go_wp2_with fail
              go_ret
              exact ⟨ret_int HE4.out.symm, hb⟩

theorem rcheck_any (t : T) : RChkAt t := by
  induction t using T.ind with | h k b n f s l ih => _
  intro v d w h hd
  obtain ⟨A, cap, rfl, hk, hn, hf, hs, hc, hm, hA, hl⟩ := h.open
  by_cases h13 : d ≤ 13
  · exact rcheck_in k n b f s l l.length A cap d w ih rfl h13 hf hl hm.2
  · have HE := Lib.hid (show chkT (.mk k b n f s l) d = 3 by rw [chkT, if_pos (by omega)])
    have hd' : decide ((13 : Int) < (d : Int)) = true := by simp; omega
    clear h13 hd ih hf hs hk hn
    go_enter Tryd.func15, Tryd.ntmps15
    go_wp2_with fail
    go_ret
    exact ⟨ret_int HE.out.symm, (Below.refl w.heap.size w).alloc (Nat.le_refl _) _⟩

theorem rsize_any (t : T) : ∀ (v : Value) (most : Int) (w : World), Rd w w.heap.size t v → 0 ≤ most → most ≤ 60000 →
    Calls Tryd.prog 14 #[v, .int .i64 most] w fun e w' => e = .returned (.int .i64 (sizT t most)) ∧ Below w.heap.size w w' := by
  induction t using T.ind with | h k b z f s l ih => _
  intro v most w h h0 h1
  obtain ⟨A, cap, rfl, hk, hn, hf, hs, hc, hm, hA, hl⟩ := h.open
  have IH := Lib.hid ih
  have hbox := (Below.refl w.heap.size w).alloc (Nat.le_refl _) (.cells #[.int .i64 k, .bool b, .int .i64 z, .float .f64 f, .string s, .slice A l.length cap] 25)
  clear hk hn hf hA ih h
  by_cases h56 : k = 5 ∨ k = 6
  · have HE := Lib.hid (show sizT (.mk k b z f s l) most = sizL (l.drop 0) 3 most by rw [sizT, if_pos h56]; rfl)
    have hd : ((k == 5) = true ∧ (k == 0) = false ∧ (k == 1) = false ∧ (k == 4) = false) ∨ ((k == 5) = false ∧ (k == 6) = true ∧ (k == 0) = false ∧ (k == 1) = false ∧ (k == 4) = false) := by
      rcases h56 with rfl | rfl <;> simp
    clear h56 hs
    rcases hd with ⟨d5, d0, d1, d4⟩ | ⟨d5, d6, d0, d1, d4⟩
    · go_enter Tryd.func14, Tryd.ntmps14
      go_wp2_with fail
      go_loopw [5, 6] (fun sn si wr => ∃ (i : Nat) (m : Int), i ≤ l.length ∧ 1 ≤ m ∧ m ≤ most + 140737488351235 ∧ sn = .int .i64 m ∧ si = .int .i64 i ∧ Hid (sizT (.mk k b z f s l) most = sizL (l.drop i) m most) ∧
        Below (w.heap.size + 1) (w.alloc (.cells #[.int .i64 k, .bool b, .int .i64 z, .float .f64 f, .string s, .slice A l.length cap] 25)) wr) (fun _ si _ => l.length - (intOf si).toNat)
      case atStart => exact ⟨0, 3, by omega, by omega, by omega, rfl, rfl, HE, Below.refl _ _⟩
      case round =>
        obtain ⟨i, m, hi, hm1, hm2, rfl, rfl, HI, hbr⟩ := hrel
        have hb := bel1 hbr
        have hz1 : w.heap.size + 1 ≤ wr.heap.size := by have := hbr.size; simpa using this
        have hcell := hbr.cell (p := ⟨w.heap.size, 5, none⟩) (by simp)
        by_cases hlt : i < l.length
        · obtain ⟨a, k', b', q0, f', s', q, D, capi, rfl, hab, hx, hrd, e0, e1, e2, e3, e4, e5⟩ := (hl.on hb).item hlt
          have Hx := Lib.hid hx; clear hx
          have IHi := Lib.hid (IH.out i hlt)
          have HS := Lib.hid (sizL_step hlt m most)
          by_cases hmm : m ≤ most
          · have hg := sizT_le l[i] ⟨_, _, _, hrd⟩ (most - m) (by omega)
            have HS' : Hid (sizL (l.drop i) m most = sizL (l.drop (i + 1)) (m + sizT l[i] (most - m)) most) := by have := HS.out; rw [if_pos hmm] at this; exact this
            clear HS
            go_wp2_with fail
            refine (IHi.out _ _ _ hrd (by omega) (by omega)).mono ?_
            rintro e w2 ⟨rfl, hb2⟩
            have hb3 := hbr.trans (hb2.mono hz1)
            generalize hgg : sizT l[i] (most - m) = g at *
            clear hgg
            obtain ⟨g1, g2⟩ := hg
            clear hcell
            go_wp2
            go_roundw
            case rel => exact ⟨i + 1, m + g, by omega, by omega, by omega, rfl, by go_num, HI.out.trans HS'.out, hb3⟩
            case measure => simp [intOf]; omega
          · have hdd : decide (m ≤ most) = false := by simpa using hmm
            have HS' : Hid (sizL (l.drop i) m most = m) := by have := HS.out; rw [if_neg hmm] at this; exact this
            clear HS
            go_wp2_with fail
            go_ret
            exact ⟨ret_int (HI.out.trans HS'.out).symm, hb⟩
        · go_wp2_with fail
          go_ret
          exact ⟨ret_int (by rw [HI.out, sizL_end (by omega)]), hb⟩
    · go_enter Tryd.func14, Tryd.ntmps14
      go_wp2_with fail
      go_loopw [5, 6] (fun sn si wr => ∃ (i : Nat) (m : Int), i ≤ l.length ∧ 1 ≤ m ∧ m ≤ most + 140737488351235 ∧ sn = .int .i64 m ∧ si = .int .i64 i ∧ Hid (sizT (.mk k b z f s l) most = sizL (l.drop i) m most) ∧
        Below (w.heap.size + 1) (w.alloc (.cells #[.int .i64 k, .bool b, .int .i64 z, .float .f64 f, .string s, .slice A l.length cap] 25)) wr) (fun _ si _ => l.length - (intOf si).toNat)
      case atStart => exact ⟨0, 3, by omega, by omega, by omega, rfl, rfl, HE, Below.refl _ _⟩
      case round =>
        obtain ⟨i, m, hi, hm1, hm2, rfl, rfl, HI, hbr⟩ := hrel
        have hb := bel1 hbr
        have hz1 : w.heap.size + 1 ≤ wr.heap.size := by have := hbr.size; simpa using this
        have hcell := hbr.cell (p := ⟨w.heap.size, 5, none⟩) (by simp)
        by_cases hlt : i < l.length
        · obtain ⟨a, k', b', q0, f', s', q, D, capi, rfl, hab, hx, hrd, e0, e1, e2, e3, e4, e5⟩ := (hl.on hb).item hlt
          have Hx := Lib.hid hx; clear hx
          have IHi := Lib.hid (IH.out i hlt)
          have HS := Lib.hid (sizL_step hlt m most)
          by_cases hmm : m ≤ most
          · have hg := sizT_le l[i] ⟨_, _, _, hrd⟩ (most - m) (by omega)
            have HS' : Hid (sizL (l.drop i) m most = sizL (l.drop (i + 1)) (m + sizT l[i] (most - m)) most) := by have := HS.out; rw [if_pos hmm] at this; exact this
            clear HS
            go_wp2_with fail
            refine (IHi.out _ _ _ hrd (by omega) (by omega)).mono ?_
            rintro e w2 ⟨rfl, hb2⟩
            have hb3 := hbr.trans (hb2.mono hz1)
            generalize hgg : sizT l[i] (most - m) = g at *
            clear hgg
            obtain ⟨g1, g2⟩ := hg
            clear hcell
            go_wp2
            go_roundw
            case rel => exact ⟨i + 1, m + g, by omega, by omega, by omega, rfl, by go_num, HI.out.trans HS'.out, hb3⟩
            case measure => simp [intOf]; omega
          · have hdd : decide (m ≤ most) = false := by simpa using hmm
            have HS' : Hid (sizL (l.drop i) m most = m) := by have := HS.out; rw [if_neg hmm] at this; exact this
            clear HS
            go_wp2_with fail
            go_ret
            exact ⟨ret_int (HI.out.trans HS'.out).symm, hb⟩
        · go_wp2_with fail
          go_ret
          exact ⟨ret_int (by rw [HI.out, sizL_end (by omega)]), hb⟩
  · have HE := Lib.hid (show sizT (.mk k b z f s l) most = hdT k s by rw [sizT, if_neg h56])
    have hh := hdT_le k s hs
    have hs' := hs
    by_cases k0 : k = 0
    · subst k0
      have HV : Hid (hdT 0 s = 1) := by unfold hdT; rfl
      go_enter Tryd.func14, Tryd.ntmps14
      go_wp2_with fail
      go_ret
      exact ⟨ret_int (by rw [HE.out, HV.out]), hbox⟩
    by_cases k1 : k = 1
    · subst k1
      have HV : Hid (hdT 1 s = 2) := by unfold hdT; rfl
      go_enter Tryd.func14, Tryd.ntmps14
      go_wp2_with fail
      go_ret
      exact ⟨ret_int (by rw [HE.out, HV.out]), hbox⟩
    by_cases k4 : k = 4
    · subst k4
      have HV : Hid (hdT 4 s = 3 + s.size) := by unfold hdT; rfl
      go_enter Tryd.func14, Tryd.ntmps14
      go_wp2_with fail
      go_ret
      exact ⟨ret_int (by rw [HE.out, HV.out]), hbox⟩
    · have HV : Hid (hdT k s = 9) := by unfold hdT; rw [if_neg k0, if_neg k1, if_neg k4, if_neg h56]; rfl
      have d0 : (k == 0) = false := by simpa using k0
      have d1 : (k == 1) = false := by simpa using k1
      have d4 : (k == 4) = false := by simpa using k4
      have d5 : (k == 5) = false := by simp; omega
      have d6 : (k == 6) = false := by simp; omega
      clear k0 k1 k4 h56
      go_enter Tryd.func14, Tryd.ntmps14
      go_wp2_with fail
      go_ret
      exact ⟨ret_int (by rw [HE.out, HV.out]), hbox⟩

theorem rCheck_any {t : T} {v : Value} {w : World} (h : Rd w w.heap.size t v) :
    Calls Tryd.prog 5 #[v] w fun e w' => e = .returned (.int .i64 (chkF t)) ∧ Below w.heap.size w w' := by
  have ht := sizT_tot t 60000
  have HL := fun W (hW : Rd W W.heap.size t v) => rsize_any t v 60000 W hW (by decide) (by decide)
  have HC := fun W (hW : Rd W W.heap.size t v) => rcheck_any t v 1 W hW (by decide)
  have HL := Lib.hid HL; have HC := Lib.hid HC
  have H := Lib.hid h
  obtain ⟨k, b, z, f, s, l⟩ := t
  obtain ⟨A, cap, rfl, -⟩ := h.open
  have hbox := (Below.refl w.heap.size w).alloc (Nat.le_refl _) (.cells #[.int .i64 k, .bool b, .int .i64 z, .float .f64 f, .string s, .slice A l.length cap] 25)
  clear h
  generalize T.mk k b z f s l = t at *
  by_cases hc : 60000 < tot t
  · have HE := Lib.hid (show chkF t = 3 by unfold chkF; rw [if_pos hc])
    have hn : 60000 < sizT t 60000 := by omega
    clear ht hc
    generalize sizT t 60000 = q at *
    go_enter Tryd.func5, Tryd.ntmps5
    go_wp2_with fail
    refine (HL.out _ (H.out.on hbox)).mono ?_
    rintro e w1 ⟨rfl, hb1⟩
    go_wp2_with fail
    go_ret
    exact ⟨ret_int HE.out.symm, hbox.trans (hb1.mono hbox.size)⟩
  · have HE := Lib.hid (show chkF t = chkT t 1 by unfold chkF; rw [if_neg hc])
    have hn : ¬ 60000 < sizT t 60000 := by omega
    clear ht hc
    generalize sizT t 60000 = q at *
    go_enter Tryd.func5, Tryd.ntmps5
    go_wp2_with fail
    refine (HL.out _ (H.out.on hbox)).mono ?_
    rintro e w1 ⟨rfl, hb1⟩
    have hb2 := hbox.trans (hb1.mono hbox.size)
    have hb1' : Below (w.heap.size + 1) (w.alloc (.cells #[.int .i64 k, .bool b, .int .i64 z, .float .f64 f, .string s, .slice A l.length cap] 25)) w1 := by simpa using hb1
    have hc0 := hb1'.cell (p := ⟨w.heap.size, 0, none⟩) (by simp)
    have hc1 := hb1'.cell (p := ⟨w.heap.size, 1, none⟩) (by simp)
    have hc2 := hb1'.cell (p := ⟨w.heap.size, 2, none⟩) (by simp)
    have hc3 := hb1'.cell (p := ⟨w.heap.size, 3, none⟩) (by simp)
    have hc4 := hb1'.cell (p := ⟨w.heap.size, 4, none⟩) (by simp)
    have hc5 := hb1'.cell (p := ⟨w.heap.size, 5, none⟩) (by simp)
    clear hb1 hb1'
    go_wp2_with fail
    refine (HC.out _ (H.out.on hb2)).mono ?_
    rintro e w2 ⟨rfl, hb3⟩
    go_wp2_with fail
    go_ret
    exact ⟨ret_int HE.out.symm, hb2.trans (hb3.mono hb2.size)⟩

end Go.Proofs.YtgmjhoppjjjilaaDoor
