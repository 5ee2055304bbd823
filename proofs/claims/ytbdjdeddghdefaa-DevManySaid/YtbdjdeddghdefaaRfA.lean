/- the document's device: what it reads as; Read -/
import Derived.Test.YtbdjdeddghdefaaTxtR
import Derived.Test.YtbdjdeddghdefaaDevX
import Derived.Test.YtbdjdeddghdefaaDevQ
import Derived.Deep.QuietTactic
import Derived.BigQuiet
namespace Go.Proofs.Ytbdjdeddghdefaa
open Go.ChangeShapes Go.WideShapes Go.ChangeAt Go.RowKit

/-- a slice of loose sectors -/
structure SeenL (w : World) (v : Value) (l : List (Nat × Sec)) : Prop where
  form : ∃ A cap, v = .slice A l.length cap ∧ l.length ≤ cap ∧ ∀ (i : Nat) p, l[i]? = some p → ∃ g o, A = some ⟨g, o, none⟩ ∧ w.cell? ⟨g, o + i * 2, none⟩ = some (.int .i64 (p.1 : Int)) ∧ w.cell? ⟨g, o + i * 2 + 1, none⟩ = some (.string ⟨p.2.toArray⟩)

theorem SeenL.on {w w' : World} {v : Value} {l : List (Nat × Sec)} (h : SeenL w v l) (hb : Below w.heap.size w w') : SeenL w' v l := by
  obtain ⟨A, cap, hv, hc, hx⟩ := h.form
  refine ⟨A, cap, hv, hc, fun i p hp => ?_⟩
  obtain ⟨g, o, hA, h0, h1⟩ := hx i p hp
  exact ⟨g, o, hA, (hb.cell (World.cell_lt h0)).trans h0, (hb.cell (World.cell_lt h1)).trans h1⟩

theorem InF.on {w w' : World} {v : Value} {l : List Fal} (h : InF w v l) (hb : Below w.heap.size w w') : InF w' v l := by
  obtain ⟨A, cap, hv, hx⟩ := h.form
  refine ⟨A, cap, hv, fun i f hf => ?_⟩
  obtain ⟨b, o, hA, hk, h0, h1, h2⟩ := hx i f hf
  exact ⟨b, o, hA, hk, (hb.cell (World.cell_lt h0)).trans h0, (hb.cell (World.cell_lt h1)).trans h1, (hb.cell (World.cell_lt h2)).trans h2⟩

/-- the document's device, its falls aside -/
structure RfAt (w : World) (v : Value) (d : Dv) (F : List Fal) : Prop where
  form : ∃ v0 v1 v3, v = .agg #[v0, v1, .int .i64 d.steps, v3, .bool d.off] ∧ SeenT w v0 d.sure ∧ SeenL w v1 d.loose ∧ InF w v3 F

theorem RfAt.on {w w' : World} {v : Value} {d : Dv} {F : List Fal} (h : RfAt w v d F) (hb : Below w.heap.size w w') : RfAt w' v d F := by
  obtain ⟨v0, v1, v3, hv, h0, h1, h3⟩ := h.form
  exact ⟨v0, v1, v3, hv, h0.on hb, h1.on hb, h3.on hb⟩

theorem getL_drop {a : Nat} {l : List (Nat × Sec)} {i : Nat} (hi : i < l.length) (h : l[i].1 ≠ a) : getL a (l.drop i) = getL a (l.drop (i + 1)) := by
  rw [List.drop_eq_getElem_cons hi]
  rcases hl : l[i] with ⟨b, t⟩
  rw [hl] at h
  rw [getL, if_neg (fun e => h e.symm)]

theorem getL_hit {a : Nat} {l : List (Nat × Sec)} {i : Nat} (hi : i < l.length) (h : l[i].1 = a) : getL a (l.drop i) = some l[i].2 := by
  rw [List.drop_eq_getElem_cons hi]
  rcases hl : l[i] with ⟨b, t⟩
  rw [hl] at h
  rw [getL, if_pos h.symm]

theorem read_meas (n i : Nat) (h : i < n) : n - ((i : Int) + 1).toNat < n - (i : Int).toNat := by omega

set_option maxHeartbeats 1000000 in
set_option maxRecDepth 100000 in
theorem rfread_any {w : World} {v : Value} {d : Dv} {F : List Fal} (h : RfAt w v d F) (a : Int) (hl : d.loose.length ≤ 100000) :
    Calls Try.prog 41 #[v, .int .i64 a] w fun e w' => e = .returned (.tuple #[.string ⟨(readD d a).1.toArray⟩, .int .i64 (readD d a).2]) ∧ Below w.heap.size w w' := by
  obtain ⟨v0, v1, v3, rfl, h0, h1, -⟩ := h.form
  obtain ⟨A, c, rfl, -, hA⟩ := h0.form
  obtain ⟨L, e, rfl, -, hL⟩ := h1.form
  have hB := (Below.refl w.heap.size w).alloc (Nat.le_refl _) (.cells #[.slice A d.sure.length c, .slice L d.loose.length e, .int .i64 d.steps, v3, .bool d.off] 31)
  have HA := Lib.hid hA; have HL := Lib.hid hL
  obtain ⟨W, hWd⟩ : ∃ W, w.alloc (.cells #[.slice A d.sure.length c, .slice L d.loose.length e, .int .i64 d.steps, v3, .bool d.off] 31) = W := ⟨_, rfl⟩
  have hrow := heap_alloc_new w (.cells #[.slice A d.sure.length c, .slice L d.loose.length e, .int .i64 d.steps, v3, .bool d.off] 31)
  rw [hWd] at hrow hB
  have c0 : W.cell? ⟨w.heap.size, 0, none⟩ = some (.slice A d.sure.length c) := by rw [cell_of_row _ _ _ _ _ _ hrow]; rfl
  have c1 : W.cell? ⟨w.heap.size, 1, none⟩ = some (.slice L d.loose.length e) := by rw [cell_of_row _ _ _ _ _ _ hrow]; rfl
  have c4 : W.cell? ⟨w.heap.size, 4, none⟩ = some (.bool d.off) := by rw [cell_of_row _ _ _ _ _ _ hrow]; rfl
  have HB := Lib.hid hB
  clear hA hL h h0 h1 hrow hB
  by_cases hoff : d.off = true
  · have e0 : readD d a = ([], 7) := by simp only [readD, hoff]; rfl
    rw [e0]
    rw [hoff] at c4 hWd ⊢
    clear e0
    go_enter Try.func41, Try.ntmps41
    go_wp2_with fail
    go_ret2
    exact ⟨rfl, HB.out⟩
  have ho : d.off = false := by simpa using hoff
  clear hoff
  rw [ho] at c4 hWd ⊢
  by_cases hh : 0 ≤ a ∧ a < d.sure.length
  · obtain ⟨n, rfl⟩ : ∃ n : Nat, a = n := ⟨a.toNat, by omega⟩
    have hn : n < d.sure.length := by omega
    have e0 : readD d (n : Int) = ((getL n d.loose).getD (d.sure.getD n []), 0) := by simp only [readD, ho, if_pos hh, Int.toNat_natCast]; rfl
    obtain ⟨R, hR⟩ : ∃ R, (getL n d.loose).getD (d.sure.getD n []) = R := ⟨_, rfl⟩
    rw [e0, hR]
    have HR := Lib.hid hR
    clear hR
    have d1 : decide ((n : Int) < 0) = false := by rw [decide_eq_false_iff_not]; omega
    have d2 : decide ((d.sure.length : Int) ≤ (n : Int)) = false := by rw [decide_eq_false_iff_not]; omega
    have d3 : ¬ d.sure.length ≤ n := by omega
    have z1 : (n : Int) < (d.sure.length : Int) := by omega
    clear e0 hh
    go_enter Try.func41, Try.ntmps41
    go_wp2_with fail
    go_loop [6] (fun si => ∃ i : Nat, i ≤ d.loose.length ∧ si = .int .i64 (i : Int) ∧ Hid (getL n d.loose = getL n (d.loose.drop i))) (fun si => d.loose.length - (intOf si).toNat)
    case atStart => exact ⟨0, Nat.zero_le _, rfl, by show _ = _; rfl⟩
    case round =>
      obtain ⟨i, hi, rfl, HG⟩ := hrel
      by_cases hlt : i < d.loose.length
      · obtain ⟨g, o, rfl, k0, k1⟩ := HL.out i d.loose[i] (List.getElem?_eq_getElem hlt)
        have k0' := cell_below HB.out k0
        have k1' := cell_below HB.out k1
        have z2 : (i : Int) < (d.loose.length : Int) := by omega
        by_cases heq : d.loose[i].1 = n
        · have HF := Lib.hid (show R = d.loose[i].2 by rw [← HR.out, HG.out.trans (getL_hit hlt heq)]; rfl)
          have b1 : ((d.loose[i].1 : Int) == (n : Int)) = true := by rw [heq]; simp
          generalize d.loose[i] = q at k0' k1' b1 HF heq
          clear k0 k1
          obtain ⟨q1, q2⟩ := q
          have heq' : q1 = n := heq
          subst heq'
          go_wp2_with fail
          go_ret2
          exact ⟨(by rw [HF.out]; first | done | rfl), HB.out⟩
        · have HF : Hid (getL n d.loose = getL n (d.loose.drop (i + 1))) := Lib.hid (HG.out.trans (getL_drop hlt heq))
          have b1 : ((d.loose[i].1 : Int) == (n : Int)) = false := beq_eq_false_iff_ne.2 (by omega)
          have b2 : (d.loose[i].1 == n) = false := beq_eq_false_iff_ne.2 heq
          have HM := Lib.hid (read_meas d.loose.length i hlt)
          generalize d.loose[i] = q at k0' k1' b1 b2 heq
          clear k0 k1
          obtain ⟨q1, q2⟩ := q
          go_wp2_with fail
          go_round
          case rel => exact ⟨i + 1, hlt, by go_num, HF⟩
          case measure => exact HM.out
      · have hnone : getL n d.loose = none := by rw [HG.out, List.drop_of_length_le (by omega)]; rfl
        obtain ⟨g, o, rfl, k0⟩ := HA.out n d.sure[n] (List.getElem?_eq_getElem hn)
        have k0' := cell_below HB.out k0
        have HF := Lib.hid (show R = d.sure[n] by rw [← HR.out, hnone, List.getD_eq_getElem?_getD, List.getElem?_eq_getElem hn]; rfl)
        generalize d.sure[n] = x at k0' HF
        clear k0 hnone
        go_wp2_with fail
        go_ret2
        exact ⟨(by rw [HF.out]; first | done | rfl), HB.out⟩
  · have e0 : readD d a = ([], 1) := by simp only [readD, ho, if_neg hh]; rfl
    rw [e0]
    clear e0
    by_cases hneg : a < 0
    · have d1 : decide (a < 0) = true := by simpa using hneg
      go_enter Try.func41, Try.ntmps41
      go_wp2_with fail
      go_ret2
      exact ⟨rfl, HB.out⟩
    · have d1 : decide (a < 0) = false := by simpa using hneg
      have d2 : decide ((d.sure.length : Int) ≤ a) = true := by rw [decide_eq_true_eq]; omega
      go_enter Try.func41, Try.ntmps41
      go_wp2_with fail
      go_ret2
      exact ⟨rfl, HB.out⟩

end Go.Proofs.Ytbdjdeddghdefaa
