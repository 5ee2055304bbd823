/- a tree gets maps of its own -/
import Derived.Test.YtmhpgbhmhbldfaaTrU
namespace Go.Proofs.Ytmhpgbhmhbldfaa
open Go.ChangeShapes Go.WideShapes Go.ChangeAt Go.RowKit

theorem eql_mapN (p : Option Nat) (W : World) : (binOp .eql 45 (.map p) (.map none)).run Try.prog W = .ok (.bool p.isNone) W := by
  have hq : ∀ d, (Op.equalIn (d + 1) 45 (.map p) (.map none)).run Try.prog W = .ok p.isNone W := fun d => by
    cases p <;> simp [Op.equalIn, run_underlying Try.underlying45]
  simp only [binOp]
  simp [show Op.equal 45 (.map p) (.map none) = Op.equalIn (9999 + 1) 45 (.map p) (.map none) from rfl, hq 9999]

set_option maxHeartbeats 2000000 in
set_option maxRecDepth 100000 in
/-- .. which it has already -/
theorem own_c {w : World} {t M : Nat} {G : Option Nat} {root next : Nat} (h : IsT w t (some M) G root next false) :
    Calls Try.prog 19 #[.pointer (some ⟨t, 0, none⟩)] w fun e w' => e = .returned (.tuple #[]) ∧ Below w.heap.size w w' := by
  obtain ⟨⟨x0, x1, x2, x3, x4, x5⟩, -, -⟩ := h.cells
  have he := fun W => eql_mapN (some M) W
  clear h
  go_enter Try.func19, Try.ntmps19
  go_wp2_with fail
  go_end0
  exact ⟨rfl, Below.refl _ _⟩

set_option maxHeartbeats 2000000 in
set_option maxRecDepth 100000 in
/-- .. for the first time -/
theorem own_first {w : World} {t : Nat} {root next : Nat} (h : IsT w t none none root next false) :
    Calls Try.prog 19 #[.pointer (some ⟨t, 0, none⟩)] w fun e w' => e = .returned (.tuple #[]) ∧ ∃ M G, IsT w' t (some M) (some G) root next false ∧ OwnU w' M VNo [] ∧ OwnU w' G VGo [] ∧ M ≠ G ∧ w.heap.size ≤ M ∧ w.heap.size ≤ G ∧ Only (fun k => k = t) w w' := by
  obtain ⟨⟨x0, x1, x2, x3, x4, x5⟩, -, xl⟩ := h.cells
  have he := fun W => eql_mapN none W
  have H := Lib.hid h
  clear h
  go_enter Try.func19, Try.ntmps19
  go_wp2_with fail
  refine (copy_c w).mono ?_
  rintro e w1 ⟨M, G, rfl, hM, hG, hne, hM0, hG0, hb⟩
  have h1 := H.out.on hb xl
  obtain ⟨⟨y0, y1, y2, y3, y4, y5⟩, yf, yl⟩ := h1.cells
  have yf0 := yf 0; have yf1 := yf 1; have yf2 := yf 2; have yf5 := yf 5
  have HM := Lib.hid hM; have HG := Lib.hid hG; have HNE := Lib.hid hne; have HB := Lib.hid hb; have H1 := Lib.hid h1; have HM0 := Lib.hid hM0; have HG0 := Lib.hid hG0; have HXL := Lib.hid xl
  clear x0 x1 x2 x3 x4 x5 yf hM hG hne hb h1 hM0 hG0 xl
  go_wp2_with fail
  have hF : IsT ((((w1.setCell ⟨t, 0, none⟩ .nilFunc).setCell ⟨t, 1, none⟩ (.map (some M))).setCell ⟨t, 2, none⟩ (.map (some G))).setCell ⟨t, 5, none⟩ (.bool false)) t (some M) (some G) root next false := by
    have := H1.out
    unfold IsT at this ⊢
    simp [World.setCell, Array.getElem?_modify, this]
  have hfar : ∀ b, b ≠ t → ((((w1.setCell ⟨t, 0, none⟩ .nilFunc).setCell ⟨t, 1, none⟩ (.map (some M))).setCell ⟨t, 2, none⟩ (.map (some G))).setCell ⟨t, 5, none⟩ (.bool false)).heap[b]? = w1.heap[b]? := fun b hb =>
    (Below.heap_setCell _ _ _ b hb).trans ((Below.heap_setCell _ _ _ b hb).trans ((Below.heap_setCell _ _ _ b hb).trans (Below.heap_setCell _ _ _ b hb)))
  have ho : Only (fun k => k = t) w ((((w1.setCell ⟨t, 0, none⟩ .nilFunc).setCell ⟨t, 1, none⟩ (.map (some M))).setCell ⟨t, 2, none⟩ (.map (some G))).setCell ⟨t, 5, none⟩ (.bool false)) :=
    ((((Only.of_below (ok := fun k => k = t) HB.out).setCell (p := ⟨t, 0, none⟩) (.inl rfl) _).setCell (p := ⟨t, 1, none⟩) (.inl rfl) _).setCell (p := ⟨t, 2, none⟩) (.inl rfl) _).setCell (p := ⟨t, 5, none⟩) (.inl rfl) _
  have htl := HXL.out
  have hm := HM0.out
  have hg := HG0.out
  go_end0
  exact ⟨rfl, M, G, hF, HM.out.keep (hfar _ (by omega)), HG.out.keep (hfar _ (by omega)), HNE.out, hm, hg, ho⟩

end Go.Proofs.Ytmhpgbhmhbldfaa
