/- a node taken away -/
import Derived.Test.YtmhpgbhmhbldfaaTrR
namespace Go.Proofs.Ytmhpgbhmhbldfaa
open Go.ChangeShapes Go.WideShapes Go.ChangeAt Go.RowKit

set_option maxHeartbeats 2000000 in
set_option maxRecDepth 100000 in
theorem leave_c {w : World} {t M G : Nat} {root next : Nat} {lent : Bool} {laid : List (Nat × Value)} {gone : List (Nat × Unit)} (h : IsT w t (some M) (some G) root next lent) (hM : OwnU w M VNo laid) (hG : OwnU w G VGo gone) (hne : M ≠ G) (hl : gone.length ≤ 1000) {id : Nat} (hid : id < 18446744073709551616) :
    Calls Try.prog 41 #[.pointer (some ⟨t, 0, none⟩), .int .u64 (id : Int)] w fun e w' =>
      e = .returned (.tuple #[]) ∧ IsT w' t (some M) (some G) root next lent ∧ OwnU w' M VNo (delU id laid) ∧ OwnU w' G VGo (putU id () gone) ∧ Only (fun k => k = M ∨ k = G) w w' := by
  have hlt : M < w.heap.size ∧ G < w.heap.size ∧ t < w.heap.size := ⟨hM.lt, hG.lt, h.cells.2.2⟩
  have htM : t ≠ M := fun e => by subst e; exact hM.no_cells h
  have htG : t ≠ G := fun e => by subst e; exact hG.no_cells h
  obtain ⟨W1, hr1, hM1, hg1⟩ := del_u hM Try.underlying45 hid 0
  have hG1 : OwnU W1 G VGo gone := hG.keep (hg1.block G hlt.2.1 (by simp; exact fun e => hne e.symm))
  have h1 : IsT W1 t (some M) (some G) root next lent := (hg1.block t hlt.2.2 (by simp; exact htM)).trans h
  obtain ⟨W2, hr2, hG2, hg2⟩ := put_u (V := VGo) hG1 Try.underlying46 (by simp [maxLen]; omega) hG1.ris hid ()
  have h2 : IsT W2 t (some M) (some G) root next lent := (hg2.block t (by have := hg1.size; omega) (by simp; exact htG)).trans h1
  have hM2 : OwnU W2 M VNo (delU id laid) := hM1.keep (hg2.block M (by have := hg1.size; omega) (by simp; exact hne))
  have ho : Only (fun k => k = M ∨ k = G) w W2 := ((Only.refl (fun k => k = M ∨ k = G) w).grown hg1 (.inl (.inl rfl))).grown hg2 (.inl (.inr rfl))
  obtain ⟨⟨-, p1, -, -, -, -⟩, -, -⟩ := h.cells
  obtain ⟨⟨-, -, q2, -, -, -⟩, -, -⟩ := h1.cells
  have H2 := Lib.hid h2; have HM2 := Lib.hid hM2; have HG2 := Lib.hid hG2; have HO := Lib.hid ho
  clear h h1 h2 hM hM1 hM2 hG hG1 hG2 ho hg1 hg2 hlt htM htG hne hl hid
  go_enter Try.func41, Try.ntmps41
  go_wp2_with fail
  go_end0
  exact ⟨rfl, H2.out, HM2.out, HG2.out, HO.out⟩

end Go.Proofs.Ytmhpgbhmhbldfaa
