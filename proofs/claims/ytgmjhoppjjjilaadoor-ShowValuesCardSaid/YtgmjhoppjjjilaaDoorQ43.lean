/- Ris, ChkS0, ChkS1, ChkS2, ChkS, ChkL, Chk, Size -/
import Derived.Test.YtgmjhoppjjjilaaDoorQ42
import Derived.Test.YtgmjhoppjjjilaaDoorQ37
import Derived.StillTailTactics

/- rises, of val and of its reference -/
namespace Go.Proofs.YtgmjhoppjjjilaaDoor
open Go.ChangeShapes Go.WideShapes Go.ChangeAt Go.RowKit Go.Fl

/-- nothing -/
def t0 : T := .mk 0 false 0 0 ⟨#[]⟩ []

/-- do a map's keys rise, each with a value? -/
def risesB (l : List T) : Bool := l.length % 2 == 0 && (List.range l.length).all fun j => decide (j < 2) || j % 2 != 0 || decide (cmpT (l.getD (j - 2) t0) (l.getD j t0) < 0)

theorem getD_in {l : List T} {j : Nat} (hj : j < l.length) : l.getD j t0 = l[j] := by
  rw [List.getD_eq_getElem?_getD, List.getElem?_eq_getElem hj]; rfl

theorem rises_yes {l : List T} (he : l.length % 2 = 0) (h : ∀ j, 2 ≤ j → j < l.length → j % 2 = 0 → cmpT (l.getD (j - 2) t0) (l.getD j t0) < 0) : risesB l = true := by
  unfold risesB
  rw [Bool.and_eq_true, List.all_eq_true]
  refine ⟨by simpa using he, fun j hj => ?_⟩
  have hj' := List.mem_range.1 hj
  by_cases h2 : j < 2
  · simp [h2]
  · by_cases hp : j % 2 = 0
    · have := h j (by omega) hj' hp
      simp only [decide_eq_true this, Bool.or_true]
    · have hq : (j % 2 != 0) = true := by simpa using hp
      rw [hq]; simp

theorem rises_no {l : List T} {j : Nat} (h2 : 2 ≤ j) (hj : j < l.length) (hp : j % 2 = 0) (h : ¬ cmpT (l.getD (j - 2) t0) (l.getD j t0) < 0) : risesB l = false := by
  unfold risesB
  rw [Bool.and_eq_false_iff, List.all_eq_false]
  refine .inr ⟨j, List.mem_range.2 hj, ?_⟩
  simp only [decide_eq_false h, Bool.or_false, Bool.not_eq_true, Bool.or_eq_false_iff, decide_eq_false_iff_not, bne_eq_false_iff_eq]
  omega

theorem rises_odd {l : List T} (h : ¬ l.length % 2 = 0) : risesB l = false := by
  unfold risesB; simp [h]

theorem rises_of {l : List T} (h : risesB l = true) : l.length % 2 = 0 ∧ ∀ j, 2 ≤ j → j < l.length → j % 2 = 0 → cmpT (l.getD (j - 2) t0) (l.getD j t0) < 0 := by
  unfold risesB at h
  rw [Bool.and_eq_true, List.all_eq_true] at h
  refine ⟨by simpa using h.1, fun j h2 hj hp => ?_⟩
  have := h.2 j (List.mem_range.2 hj)
  simp only [Bool.or_eq_true, decide_eq_true_eq, bne_iff_ne] at this
  rcases this with (h' | h') | h'
  · omega
  · exact absurd hp h'
  · exact h'

set_option maxRecDepth 100000 in
theorem rrises_any (l : List T) (A : Option Addr) (cap : Nat) (w : World) (h : RdL w w.heap.size l A) (hm : l.length ≤ 1954687338211) :
    Calls Tryd.prog 33 #[.slice A l.length cap] w fun e w' => e = .returned (.bool (risesB l)) ∧ Below w.heap.size w w' := by
  go_enter Tryd.func33, Tryd.ntmps33
  go_wp2_with fail
  go_loopw [3] (fun si wr => ∃ i : Nat, 2 ≤ i ∧ i ≤ l.length + 2 ∧ i % 2 = 0 ∧ si = .int .i64 i ∧ Hid (∀ j, 2 ≤ j → j < i → j < l.length → j % 2 = 0 → cmpT (l.getD (j - 2) t0) (l.getD j t0) < 0) ∧ Below w.heap.size w wr) (fun si _ => l.length + 2 - (intOf si).toNat)
  case atStart => exact ⟨2, by omega, by omega, by omega, rfl, (fun j h2 h3 => by omega), Below.refl _ _⟩
  case round =>
    obtain ⟨i, hi2, hi, hip, rfl, HI, hb⟩ := hrel
    have Hip := Lib.hid hip; clear hip
    have hz := hb.size
    by_cases hlt : i < l.length
    · obtain ⟨a, k, b, n, f, s, q, D, capi, rfl, hab, -, hrd, e0, e1, e2, e3, e4, e5⟩ := (h.on hb).item (i := i - 2) (by omega)
      obtain ⟨a', k', b', n', f', s', q', D', capi', ha', hab', -, hrd', e0', e1', e2', e3', e4', e5'⟩ := (h.on hb).item hlt
      obtain rfl : a = a' := by simpa using ha'
      clear ha'
      have hs2 : IntKind.i64.wrap ((i : Int) - 2) = (i : Int) - 2 := IntWalk.i64_in _ (by omega)
      have hs3 : ((i : Int) - 2).toNat = i - 2 := by omega
      have hs4 : (0 : Int) ≤ (i : Int) - 2 := by omega
      have hs5 : (i : Int) - 2 < (l.length : Int) := by omega
      have hs6 : (2 : Int) ≤ (i : Int) := by omega
      have hs7 : (i : Int) < (l.length : Int) + 2 := by omega
      have hs8 : i - 2 < l.length := by omega
      go_wp2_with fail
      go_still_tail 9, (by kernel_rfl)
      clear hs2 hs3 hs4 hs5 hs6 hs7 hs8
      go_wp2_with fail
      refine (rfcmp_any (hrd.on ((Below.refl _ _).drew)) (hrd'.on ((Below.refl _ _).drew))).mono ?_
      rintro e w1 ⟨rfl, hb1⟩
      have hb3 := hb.trans (((Below.refl wr.heap.size wr).drew.trans hb1).mono hz)
      have hg1 := getD_in (l := l) (j := i - 2) (by omega)
      have hg2 := getD_in (l := l) (j := i) hlt
      have Hg1 := Lib.hid hg1; have Hg2 := Lib.hid hg2
      clear hg1 hg2
      by_cases hc : cmpT l[i - 2] l[i] < 0
      · have dd : decide (0 ≤ cmpT l[i - 2] l[i]) = false := by simp; omega
        go_wp2_with fail
        go_roundw
        case rel =>
          refine ⟨i + 2, by omega, by omega, by have := Hip.out; omega, by go_num, ?_, hb3⟩
          intro j h2 h3 h4 h5
          by_cases hj : j < i
          · exact HI.out j h2 hj h4 h5
          · obtain rfl : j = i := by have := Hip.out; omega
            rw [Hg1.out, Hg2.out]; exact hc
        case measure => simp [intOf]; omega
      · have dd : decide (0 ≤ cmpT l[i - 2] l[i]) = true := by simp; omega
        have HR := Lib.hid (rises_no hi2 hlt Hip.out (by rw [Hg1.out, Hg2.out]; exact hc))
        clear hc
        go_wp2_with fail
        go_ret
        exact ⟨ret_b HR.out.symm, hb3⟩
    · by_cases he : l.length % 2 = 0
      · have HR := Lib.hid (rises_yes he fun j h2 hj hp => HI.out j h2 (by omega) hj hp)
        have d0 : (((l.length : Int) % 2) == 0) = true := by simp; omega
        clear he
        go_wp2_with fail
        go_ret
        exact ⟨ret_b HR.out.symm, hb⟩
      · have HR := Lib.hid (rises_odd he)
        have d0 : (((l.length : Int) % 2) == 0) = false := by simp; omega
        clear he
        go_wp2_with fail
        go_ret
        exact ⟨ret_b HR.out.symm, hb⟩

end Go.Proofs.YtgmjhoppjjjilaaDoor

/- val.Check: shaped, kinds 0 to 2 -/
namespace Go.Proofs.YtgmjhoppjjjilaaDoor
open Go.ChangeShapes Go.WideShapes Go.ChangeAt Go.RowKit Go.Fl

end Go.Proofs.YtgmjhoppjjjilaaDoor

/- val.Check: shaped, kinds 3 to 5 -/
namespace Go.Proofs.YtgmjhoppjjjilaaDoor
open Go.ChangeShapes Go.WideShapes Go.ChangeAt Go.RowKit Go.Fl

end Go.Proofs.YtgmjhoppjjjilaaDoor

/- val.Check: shaped, kinds 6 to 8 -/
namespace Go.Proofs.YtgmjhoppjjjilaaDoor
open Go.ChangeShapes Go.WideShapes Go.ChangeAt Go.RowKit Go.Fl

end Go.Proofs.YtgmjhoppjjjilaaDoor

/- val.Check: shaped -/
namespace Go.Proofs.YtgmjhoppjjjilaaDoor
open Go.ChangeShapes Go.WideShapes Go.ChangeAt Go.RowKit Go.Fl

end Go.Proofs.YtgmjhoppjjjilaaDoor

/- val.Check -/
namespace Go.Proofs.YtgmjhoppjjjilaaDoor
open Go.ChangeShapes Go.WideShapes Go.ChangeAt Go.RowKit Go.Fl

mutual
/-- how many of n bytes are left behind those of a value -/
def lfT : T → Int → Int
  | .mk k _ _ _ s l, n => if k = 5 ∨ k = 6 then lfL l (n - hdT k s) else n - hdT k s
def lfL : List T → Int → Int
  | [], m => m
  | t :: r, m => if m < 0 then m else lfL r (lfT t m)
end

theorem lfT_le (t : T) (ht : ∃ w B v, Rd w B t v) : ∀ n : Int, lfT t n ≤ n ∧ (0 ≤ n → -140737488351235 ≤ lfT t n) := by
  obtain ⟨w, B, v, h⟩ := ht
  induction t using T.ind generalizing v with | h k b n f s l ih => _
  intro n
  obtain ⟨A, cap, rfl, hk, hn, hf, hs, hc, hm, hA, hl⟩ := h.open
  have hh := hdT_le k s hs
  rw [lfT]
  split
  · suffices hs : ∀ (r : List T) (m : Int), (∀ i (hi : i < r.length), ∀ n : Int, lfT r[i] n ≤ n ∧ (0 ≤ n → -140737488351235 ≤ lfT r[i] n)) → lfL r m ≤ m ∧ (-140737488351235 ≤ m → -140737488351235 ≤ lfL r m) by
      have := hs l (n - hdT k s) (fun i hi => by obtain ⟨a, u, -, -, -, hu⟩ := hl i hi; exact ih i hi u hu)
      exact ⟨by omega, fun h0 => this.2 (by omega)⟩
    intro r
    induction r with
    | nil => intro m _; rw [lfL]; exact ⟨Int.le_refl _, id⟩
    | cons t r ihr =>
      intro m hr
      rw [lfL]
      split
      · exact ⟨Int.le_refl _, id⟩
      · have h0 := hr 0 (by simp) m
        have h1 := ihr (lfT t m) (fun i hi => by have := hr (i + 1) (by simpa using hi); simpa using this)
        simp only [List.getElem_cons_zero] at h0
        exact ⟨by omega, fun hm => h1.2 (h0.2 (by omega))⟩
  · omega

theorem lfL_step {l : List T} {i : Nat} (hi : i < l.length) (m : Int) : lfL (l.drop i) m = if m < 0 then m else lfL (l.drop (i + 1)) (lfT l[i] m) := by
  rw [List.drop_eq_getElem_cons hi, lfL]

theorem lfL_end {l : List T} {i : Nat} (hi : l.length ≤ i) (m : Int) : lfL (l.drop i) m = m := by
  rw [List.drop_eq_nil_of_le hi, lfL]

end Go.Proofs.YtgmjhoppjjjilaaDoor

/- val.check, val.Check -/
namespace Go.Proofs.YtgmjhoppjjjilaaDoor
open Go.ChangeShapes Go.WideShapes Go.ChangeAt Go.RowKit Go.Fl

mutual
/-- why a value that stands so deep may not be -/
def chkT : T → Nat → Int
  | .mk k b n f s l, d => if 13 < d then 3 else if shpT k b n f s l.length = false then 6 else if 500 < s.size ∨ 1000 < l.length then 3 else lex (chkL l (d + 1)) (if k = 6 ∧ risesB l = false then 6 else 0)
def chkL : List T → Nat → Int
  | [], _ => 0
  | t :: r, d => lex (chkT t d) (chkL r d)
end

theorem chkL_step {l : List T} {i : Nat} (hi : i < l.length) (d : Nat) : chkL (l.drop i) d = lex (chkT l[i] d) (chkL (l.drop (i + 1)) d) := by
  rw [List.drop_eq_getElem_cons hi, chkL]

theorem chkL_end {l : List T} {i : Nat} (hi : l.length ≤ i) (d : Nat) : chkL (l.drop i) d = 0 := by
  rw [List.drop_eq_nil_of_le hi, chkL]

end Go.Proofs.YtgmjhoppjjjilaaDoor

/- sizes; val.Check; the reference's size -/
namespace Go.Proofs.YtgmjhoppjjjilaaDoor
open Go.ChangeShapes Go.WideShapes Go.ChangeAt Go.RowKit Go.Fl

mutual
/-- how many bytes a value has -/
def tot : T → Int
  | .mk k _ _ _ s l => hdT k s + if k = 5 ∨ k = 6 then totL l else 0
def totL : List T → Int
  | [] => 0
  | t :: r => tot t + totL r
end

theorem hdT_pos (k : Int) (s : ByteArray) : 1 ≤ hdT k s := by
  unfold hdT; split
  · omega
  · split
    · omega
    · split
      · omega
      · split <;> omega

theorem totL_pos (l : List T) (ih : ∀ i (hi : i < l.length), 1 ≤ tot l[i]) : 0 ≤ totL l := by
  induction l with
  | nil => rw [totL]; omega
  | cons t r ihr =>
    have h0 := ih 0 (by simp)
    have h1 := ihr fun i hi => by have := ih (i + 1) (by simpa using hi); simpa using this
    simp only [List.getElem_cons_zero] at h0
    rw [totL]; omega

theorem tot_pos (t : T) : 1 ≤ tot t := by
  induction t using T.ind with | h k b n f s l ih => _
  have h1 := hdT_pos k s
  have h2 := totL_pos l ih
  rw [tot]; split <;> omega

theorem lfT_tot (t : T) : ∀ n : Int, (0 ≤ lfT t n → lfT t n = n - tot t) ∧ (lfT t n < 0 → n < tot t) := by
  induction t using T.ind with | h k b z f s l ih => _
  intro n
  rw [lfT, tot]
  split
  · suffices hs : ∀ (r : List T) (m : Int), (∀ i (hi : i < r.length), ∀ n : Int, (0 ≤ lfT r[i] n → lfT r[i] n = n - tot r[i]) ∧ (lfT r[i] n < 0 → n < tot r[i])) → (0 ≤ lfL r m → lfL r m = m - totL r) ∧ (lfL r m < 0 → m < totL r) by
      have := hs l (n - hdT k s) ih
      omega
    intro r
    induction r with
    | nil => intro m _; rw [lfL, totL]; omega
    | cons t r ihr =>
      intro m hr
      have hp := tot_pos t
      have hq := totL_pos r fun i _ => tot_pos _
      rw [lfL, totL]
      split
      · omega
      · have h0 := hr 0 (by simp) m
        have h1 := ihr (lfT t m) (fun i hi => by have := hr (i + 1) (by simpa using hi); simpa using this)
        simp only [List.getElem_cons_zero] at h0
        omega
  · omega

mutual
/-- a value's bytes, counted up to so many -/
def sizT : T → Int → Int
  | .mk k _ _ _ s l, most => if k = 5 ∨ k = 6 then sizL l 3 most else hdT k s
def sizL : List T → Int → Int → Int
  | [], n, _ => n
  | t :: r, n, most => if n ≤ most then sizL r (n + sizT t (most - n)) most else n
end

theorem sizT_tot (t : T) : ∀ most : Int, (sizT t most ≤ most → sizT t most = tot t) ∧ (most < sizT t most → most < tot t) := by
  induction t using T.ind with | h k b z f s l ih => _
  intro most
  rw [sizT, tot]
  by_cases h56 : k = 5 ∨ k = 6
  · rw [if_pos h56, if_pos h56]
    have h3 : hdT k s = 3 := by unfold hdT; rcases h56 with rfl | rfl <;> simp
    suffices hs : ∀ (r : List T) (n : Int), (∀ i (hi : i < r.length), ∀ n : Int, (sizT r[i] n ≤ n → sizT r[i] n = tot r[i]) ∧ (n < sizT r[i] n → n < tot r[i])) → (sizL r n most ≤ most → sizL r n most = n + totL r) ∧ (most < sizL r n most → most < n + totL r) by
      have := hs l 3 ih
      omega
    intro r
    induction r with
    | nil => intro n _; rw [sizL, totL]; omega
    | cons t r ihr =>
      intro n hr
      have hp := tot_pos t
      have hq := totL_pos r fun i _ => tot_pos _
      rw [sizL, totL]
      split
      · have h0 := hr 0 (by simp) (most - n)
        have h1 := ihr (n + sizT t (most - n)) (fun i hi => by have := hr (i + 1) (by simpa using hi); simpa using this)
        simp only [List.getElem_cons_zero] at h0
        by_cases hc : sizT t (most - n) ≤ most - n
        · have := h0.1 hc; omega
        · have h2 := h0.2 (by omega)
          have h3 : most < n + sizT t (most - n) := by omega
          have h4 : sizL r (n + sizT t (most - n)) most = n + sizT t (most - n) := by
            cases r with
            | nil => rw [sizL]
            | cons u r => rw [sizL, if_neg (by omega)]
          omega
      · omega
  · rw [if_neg h56, if_neg h56]; omega

theorem sizL_step {l : List T} {i : Nat} (hi : i < l.length) (n most : Int) : sizL (l.drop i) n most = if n ≤ most then sizL (l.drop (i + 1)) (n + sizT l[i] (most - n)) most else n := by
  rw [List.drop_eq_getElem_cons hi, sizL]

theorem sizL_end {l : List T} {i : Nat} (hi : l.length ≤ i) (n most : Int) : sizL (l.drop i) n most = n := by
  rw [List.drop_eq_nil_of_le hi, sizL]

theorem sizT_le (t : T) (ht : ∃ w B v, Rd w B t v) : ∀ most : Int, 0 ≤ most → 1 ≤ sizT t most ∧ sizT t most ≤ most + 140737488351235 := by
  obtain ⟨w, B, v, h⟩ := ht
  induction t using T.ind generalizing v with | h k b n f s l ih => _
  intro most h0
  obtain ⟨A, cap, rfl, hk, hn, hf, hs, hc, hm, hA, hl⟩ := h.open
  have hh := hdT_le k s hs
  rw [sizT]
  split
  · suffices hs : ∀ (r : List T) (n : Int), (∀ i (hi : i < r.length), ∀ m : Int, 0 ≤ m → 1 ≤ sizT r[i] m ∧ sizT r[i] m ≤ m + 140737488351235) → 1 ≤ n → n ≤ most + 140737488351235 → 1 ≤ sizL r n most ∧ sizL r n most ≤ most + 140737488351235 from
      hs l 3 (fun i hi => by obtain ⟨a, u, -, -, -, hu⟩ := hl i hi; exact ih i hi u hu) (by omega) (by omega)
    intro r
    induction r with
    | nil => intro n _ h1 h2; rw [sizL]; exact ⟨h1, h2⟩
    | cons t r ihr =>
      intro n hr h1 h2
      rw [sizL]
      split
      · have h0 := hr 0 (by simp) (most - n) (by omega)
        simp only [List.getElem_cons_zero] at h0
        exact ihr _ (fun i hi => by have := hr (i + 1) (by simpa using hi); simpa using this) (by omega) (by omega)
      · exact ⟨h1, h2⟩
  · omega

/-- what Check answers -/
def chkF (t : T) : Int := if 60000 < tot t then 3 else chkT t 1

end Go.Proofs.YtgmjhoppjjjilaaDoor
