/- rises, of val and of its reference -/
import Derived.Test.YtaonlbmicjoclaaCmpS
import Derived.Test.YtaonlbmicjoclaaChkA
import Derived.StillTailTactics
namespace Go.Proofs.Ytaonlbmicjoclaa
open Go.ChangeShapes Go.WideShapes Go.ChangeAt Go.RowKit Go.Fl

/-- nothing -/
def t0 : T := .mk 0 false 0 0 ⟨#[]⟩ []

/-- do a map's keys rise, each with a value? -/
def risesB (l : List T) : Bool := l.length % 2 == 0 && (List.range l.length).all fun j => decide (j < 2) || j % 2 != 0 || decide (cmpT (l.getD (j - 2) t0) (l.getD j t0) < 0)

theorem getD_in {l : List T} {j : Nat} (hj : j < l.length) : l.getD j t0 = l[j] := by
  rw [List.getD_eq_getElem?_getD, List.getElem?_eq_getElem hj]; rfl

theorem rises_yes {l : List T} (he : l.length % 2 = 0) (h : ∀ j, 2 ≤ j → j < l.length → j % 2 = 0 → cmpT (l.getD (j - 2) t0) (l.getD j t0) < 0) : risesB l = true := by
  unfold risesB
  rw [Bool.and_eq_true, List.all_eq_true]
  refine ⟨by simpa using he, fun j hj => ?_⟩
  have hj' := List.mem_range.1 hj
  by_cases h2 : j < 2
  · simp [h2]
  · by_cases hp : j % 2 = 0
    · have := h j (by omega) hj' hp
      simp only [decide_eq_true this, Bool.or_true]
    · have hq : (j % 2 != 0) = true := by simpa using hp
      rw [hq]; simp

theorem rises_no {l : List T} {j : Nat} (h2 : 2 ≤ j) (hj : j < l.length) (hp : j % 2 = 0) (h : ¬ cmpT (l.getD (j - 2) t0) (l.getD j t0) < 0) : risesB l = false := by
  unfold risesB
  rw [Bool.and_eq_false_iff, List.all_eq_false]
  refine .inr ⟨j, List.mem_range.2 hj, ?_⟩
  simp only [decide_eq_false h, Bool.or_false, Bool.not_eq_true, Bool.or_eq_false_iff, decide_eq_false_iff_not, bne_eq_false_iff_eq]
  omega

theorem rises_odd {l : List T} (h : ¬ l.length % 2 = 0) : risesB l = false := by
  unfold risesB; simp [h]

theorem rises_of {l : List T} (h : risesB l = true) : l.length % 2 = 0 ∧ ∀ j, 2 ≤ j → j < l.length → j % 2 = 0 → cmpT (l.getD (j - 2) t0) (l.getD j t0) < 0 := by
  unfold risesB at h
  rw [Bool.and_eq_true, List.all_eq_true] at h
  refine ⟨by simpa using h.1, fun j h2 hj hp => ?_⟩
  have := h.2 j (List.mem_range.2 hj)
  simp only [Bool.or_eq_true, decide_eq_true_eq, bne_iff_ne] at this
  rcases this with (h' | h') | h'
  · omega
  · exact absurd hp h'
  · exact h'

set_option maxRecDepth 100000 in
theorem rises_any (l : List T) (A : Option Addr) (cap : Nat) (w : World) (h : RdL w w.heap.size l A) (hm : l.length ≤ 1954687338211) :
    Calls Try.prog 67 #[.slice A l.length cap] w fun e w' => e = .returned (.bool (risesB l)) ∧ Below w.heap.size w w' := by
  by_cases he : l.length % 2 = 0
  rotate_left
  · have HR := Lib.hid (rises_odd he)
    have d0 : (((l.length : Int) % 2) == 0) = false := by simp; omega
    have d1 : (((l.length : Int) % 2) != 0) = true := by simp; omega
    clear he
    go_enter Try.func67, Try.ntmps67
    go_wp2_with fail
    go_ret
    exact ⟨ret_b HR.out.symm, Below.refl _ _⟩
  have d0 : (((l.length : Int) % 2) == 0) = true := by simp; omega
  have d1 : (((l.length : Int) % 2) != 0) = false := by simp; omega
  have HEv := Lib.hid he; clear he
  go_enter Try.func67, Try.ntmps67
  go_wp2_with fail
  go_loopw [3] (fun si wr => ∃ i : Nat, 2 ≤ i ∧ i ≤ l.length + 2 ∧ i % 2 = 0 ∧ si = .int .i64 i ∧ Hid (∀ j, 2 ≤ j → j < i → j < l.length → j % 2 = 0 → cmpT (l.getD (j - 2) t0) (l.getD j t0) < 0) ∧ Below w.heap.size w wr) (fun si _ => l.length + 2 - (intOf si).toNat)
  case atStart => exact ⟨2, by omega, by omega, by omega, rfl, (fun j h2 h3 => by omega), Below.refl _ _⟩
  case round =>
    obtain ⟨i, hi2, hi, hip, rfl, HI, hb⟩ := hrel
    have Hip := Lib.hid hip; clear hip
    have hz := hb.size
    by_cases hlt : i < l.length
    · obtain ⟨a, k, b, n, f, s, q, D, capi, rfl, hab, -, hrd, e0, e1, e2, e3, e4, e5⟩ := (h.on hb).item (i := i - 2) (by omega)
      obtain ⟨a', k', b', n', f', s', q', D', capi', ha', hab', -, hrd', e0', e1', e2', e3', e4', e5'⟩ := (h.on hb).item hlt
      obtain rfl : a = a' := by simpa using ha'
      clear ha'
      have hs2 : IntKind.i64.wrap ((i : Int) - 2) = (i : Int) - 2 := IntWalk.i64_in _ (by omega)
      have hs3 : ((i : Int) - 2).toNat = i - 2 := by omega
      have hs4 : (0 : Int) ≤ (i : Int) - 2 := by omega
      have hs5 : (i : Int) - 2 < (l.length : Int) := by omega
      have hs6 : (2 : Int) ≤ (i : Int) := by omega
      have hs7 : (i : Int) < (l.length : Int) + 2 := by omega
      have hs8 : i - 2 < l.length := by omega
      go_wp2_with fail
      go_still_tail 9, (by kernel_rfl)
      clear hs2 hs3 hs4 hs5 hs6 hs7 hs8
      go_wp2_with fail
      refine (vcmp_any (hrd.on ((Below.refl _ _).drew)) (hrd'.on ((Below.refl _ _).drew))).mono ?_
      rintro e w1 ⟨rfl, hb1⟩
      have hb3 := hb.trans (((Below.refl wr.heap.size wr).drew.trans hb1).mono hz)
      have hg1 := getD_in (l := l) (j := i - 2) (by omega)
      have hg2 := getD_in (l := l) (j := i) hlt
      have Hg1 := Lib.hid hg1; have Hg2 := Lib.hid hg2
      clear hg1 hg2
      by_cases hc : cmpT l[i - 2] l[i] < 0
      · have dd : decide (0 ≤ cmpT l[i - 2] l[i]) = false := by simp; omega
        go_wp2_with fail
        go_roundw
        case rel =>
          refine ⟨i + 2, by omega, by omega, by have := Hip.out; omega, by go_num, ?_, hb3⟩
          intro j h2 h3 h4 h5
          by_cases hj : j < i
          · exact HI.out j h2 hj h4 h5
          · obtain rfl : j = i := by have := Hip.out; omega
            rw [Hg1.out, Hg2.out]; exact hc
        case measure => simp [intOf]; omega
      · have dd : decide (0 ≤ cmpT l[i - 2] l[i]) = true := by simp; omega
        have HR := Lib.hid (rises_no hi2 hlt Hip.out (by rw [Hg1.out, Hg2.out]; exact hc))
        clear hc
        go_wp2_with fail
        go_ret
        exact ⟨ret_b HR.out.symm, hb3⟩
    · have HR := Lib.hid (rises_yes HEv.out fun j h2 hj hp => HI.out j h2 (by omega) hj hp)
      go_wp2_with fail
      go_ret
      exact ⟨ret_b HR.out.symm, hb⟩

end Go.Proofs.Ytaonlbmicjoclaa
