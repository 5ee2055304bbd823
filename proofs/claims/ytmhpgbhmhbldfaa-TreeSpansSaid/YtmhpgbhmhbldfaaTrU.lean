/- the first maps of a tree -/
import Derived.Test.YtmhpgbhmhbldfaaTrT
import Derived.Carry
import Derived.Laws.EntriesVeiled
namespace Go.Proofs.Ytmhpgbhmhbldfaa
open Go.ChangeShapes Go.WideShapes Go.ChangeAt Go.RowKit

set_option maxHeartbeats 2000000 in
set_option maxRecDepth 100000 in
theorem copy_c (w : World) : Calls Try.prog 29 #[.agg #[.nilFunc, .map none, .map none]] w fun e w' => ∃ M G, e = .returned (.agg #[.nilFunc, .map (some M), .map (some G)]) ∧ OwnU w' M VNo [] ∧ OwnU w' G VGo [] ∧ M ≠ G ∧ w.heap.size ≤ M ∧ w.heap.size ≤ G ∧ Below w.heap.size w w' := by
  obtain ⟨W0, hW0⟩ : ∃ W0, w.alloc (.cells #[.nilFunc, .map none, .map none] 48) = W0 := ⟨_, rfl⟩
  obtain ⟨W1, hW1⟩ : ∃ W1, W0.alloc (.cells #[.nilFunc, .map none, .map none] 48) = W1 := ⟨_, rfl⟩
  obtain ⟨W2, hW2⟩ : ∃ W2, W1.alloc (.map #[] 0) = W2 := ⟨_, rfl⟩
  obtain ⟨W3, hW3⟩ : ∃ W3, W2.alloc (.map #[] 0) = W3 := ⟨_, rfl⟩
  have hb0 : Below w.heap.size w W0 := hW0 ▸ (Below.refl _ _).alloc (Nat.le_refl _) _
  have hz0 : W0.heap.size = w.heap.size + 1 := by rw [← hW0]; simp
  have hz1 : W1.heap.size = w.heap.size + 2 := by rw [← hW1, World.size_alloc, hz0]
  have hz2 : W2.heap.size = w.heap.size + 3 := by rw [← hW2, World.size_alloc, hz1]
  have hb01 : Below W0.heap.size W0 W1 := hW1 ▸ (Below.refl _ _).alloc (Nat.le_refl _) _
  have hb12 : Below W1.heap.size W1 W2 := hW2 ▸ (Below.refl _ _).alloc (Nat.le_refl _) _
  have hb23 : Below W2.heap.size W2 W3 := hW3 ▸ (Below.refl _ _).alloc (Nat.le_refl _) _
  have hb13 : Below W1.heap.size W1 W3 := hb12.trans (hb23.mono hb12.size)
  have hb3 : Below w.heap.size w W3 := (hb0.trans (hb01.mono hb0.size)).trans (hb13.mono (by omega))
  have hM : OwnU W2 W1.heap.size VNo [] := hW2 ▸ OwnU.made W1
  have hM3 : OwnU W3 W1.heap.size VNo [] := hM.keep (hb23.block _ hM.lt)
  have hG3 : OwnU W3 W2.heap.size VGo [] := hW3 ▸ OwnU.made W2
  have hx : W3.heap[w.heap.size]? = some (.cells #[.nilFunc, .map none, .map none] 48 (0, 0)) := (hb13.block _ (by omega)).trans ((hb01.block _ (by omega)).trans (hW0 ▸ heap_alloc_new w _))
  have hy : W3.heap[W0.heap.size]? = some (.cells #[.nilFunc, .map none, .map none] 48 (0, 0)) := (hb13.block _ (by omega)).trans (hW1 ▸ heap_alloc_new W0 _)
  have HX := Lib.hid hx; have HY := Lib.hid hy; have HM := Lib.hid hM3; have HG := Lib.hid hG3; have HB := Lib.hid hb3
  have HZ : Hid (W0.heap.size = w.heap.size + 1 ∧ W1.heap.size = w.heap.size + 2 ∧ W2.heap.size = w.heap.size + 3 ∧ w.heap.size + 3 ≤ W3.heap.size) := Lib.hid ⟨hz0, hz1, hz2, by have := hb23.size; omega⟩
  have x0 : W3.cell? ⟨w.heap.size, 0, none⟩ = some .nilFunc := by rw [cell_of_row _ _ _ _ _ _ hx]; rfl
  have x1 : W3.cell? ⟨w.heap.size, 1, none⟩ = some (.map none) := by rw [cell_of_row _ _ _ _ _ _ hx]; rfl
  have x2 : W3.cell? ⟨w.heap.size, 2, none⟩ = some (.map none) := by rw [cell_of_row _ _ _ _ _ _ hx]; rfl
  clear hb0 hb01 hb12 hb23 hb13 hb3 hM hM3 hG3 hx hy hz0 hz1 hz2
  have hmk1 := fun W => run_makeMap (P := Try.prog) 45 W
  have hmk2 := fun W => run_makeMap (P := Try.prog) 46 W
  go_enter Try.func29, Try.ntmps29
  go_wp2_with fail
  refine (copy0_c _ W3).mono ?_
  rintro e W4 ⟨rfl, hb4⟩
  have HB4 := Lib.hid hb4
  have hx4 := (hb4.block _ (by have := HZ.out; omega)).trans HX.out
  have x0 : W4.cell? ⟨w.heap.size, 0, none⟩ = some .nilFunc := by rw [cell_of_row _ _ _ _ _ _ hx4]; rfl
  have x2 : W4.cell? ⟨w.heap.size, 2, none⟩ = some (.map none) := by rw [cell_of_row _ _ _ _ _ _ hx4]; rfl
  clear hb4 hx4
  go_wp2_with fail
  refine (copy0_g _ W4).mono ?_
  rintro e W5 ⟨rfl, hb5⟩
  have hb35 : Below W3.heap.size W3 W5 := HB4.out.trans (hb5.mono HB4.out.size)
  have hx5 := (hb35.block _ (by have := HZ.out; omega)).trans HX.out
  have hy5 := (hb35.block _ (by have := HZ.out; omega)).trans HY.out
  have x0 : W5.cell? ⟨w.heap.size, 0, none⟩ = some .nilFunc := by rw [cell_of_row _ _ _ _ _ _ hx5]; rfl
  have y0 : W5.cell? ⟨W0.heap.size, 0, none⟩ = some .nilFunc := by rw [cell_of_row _ _ _ _ _ _ hy5]; rfl
  have y1 : W5.cell? ⟨W0.heap.size, 1, none⟩ = some (.map none) := by rw [cell_of_row _ _ _ _ _ _ hy5]; rfl
  have y2 : W5.cell? ⟨W0.heap.size, 2, none⟩ = some (.map none) := by rw [cell_of_row _ _ _ _ _ _ hy5]; rfl
  have yf : ∀ i, W5.frozen? ⟨W0.heap.size, i, none⟩ = false := fun i => by simp [World.frozen?, hy5]
  have yf0 := yf 0; have yf1 := yf 1; have yf2 := yf 2
  have HY5 := Lib.hid hy5; have HB35 := Lib.hid hb35
  clear hb5 hb35 hx5 hy5 yf
  go_wp2_with fail
  have hz := HZ.out
  have hF : (((W5.setCell ⟨W0.heap.size, 0, none⟩ .nilFunc).setCell ⟨W0.heap.size, 1, none⟩ (.map (some W1.heap.size))).setCell ⟨W0.heap.size, 2, none⟩ (.map (some W2.heap.size))).heap[W0.heap.size]? = some (.cells #[.nilFunc, .map (some W1.heap.size), .map (some W2.heap.size)] 48 (0, 0)) := by
    have := HY5.out
    simp [World.setCell, Array.getElem?_modify, this]
  have s0 : (((W5.setCell ⟨W0.heap.size, 0, none⟩ .nilFunc).setCell ⟨W0.heap.size, 1, none⟩ (.map (some W1.heap.size))).setCell ⟨W0.heap.size, 2, none⟩ (.map (some W2.heap.size))).cell? ⟨W0.heap.size, 0, none⟩ = some .nilFunc := by rw [cell_of_row _ _ _ _ _ _ hF]; rfl
  have s1 : (((W5.setCell ⟨W0.heap.size, 0, none⟩ .nilFunc).setCell ⟨W0.heap.size, 1, none⟩ (.map (some W1.heap.size))).setCell ⟨W0.heap.size, 2, none⟩ (.map (some W2.heap.size))).cell? ⟨W0.heap.size, 1, none⟩ = some (.map (some W1.heap.size)) := by rw [cell_of_row _ _ _ _ _ _ hF]; rfl
  have s2 : (((W5.setCell ⟨W0.heap.size, 0, none⟩ .nilFunc).setCell ⟨W0.heap.size, 1, none⟩ (.map (some W1.heap.size))).setCell ⟨W0.heap.size, 2, none⟩ (.map (some W2.heap.size))).cell? ⟨W0.heap.size, 2, none⟩ = some (.map (some W2.heap.size)) := by rw [cell_of_row _ _ _ _ _ _ hF]; rfl
  have hfin : Below w.heap.size w (((W5.setCell ⟨W0.heap.size, 0, none⟩ .nilFunc).setCell ⟨W0.heap.size, 1, none⟩ (.map (some W1.heap.size))).setCell ⟨W0.heap.size, 2, none⟩ (.map (some W2.heap.size))) :=
    (((HB.out.trans (HB35.out.mono HB.out.size)).setCell (by simp [hz.1]) _).setCell (by simp [hz.1]) _).setCell (by simp [hz.1]) _
  have hfar : ∀ b, b ≠ W0.heap.size → (((W5.setCell ⟨W0.heap.size, 0, none⟩ .nilFunc).setCell ⟨W0.heap.size, 1, none⟩ (.map (some W1.heap.size))).setCell ⟨W0.heap.size, 2, none⟩ (.map (some W2.heap.size))).heap[b]? = W5.heap[b]? := fun b hb =>
    (Below.heap_setCell _ _ _ b hb).trans ((Below.heap_setCell _ _ _ b hb).trans (Below.heap_setCell _ _ _ b hb))
  refine bodyPost_ret (v := .agg #[.nilFunc, .map (some W1.heap.size), .map (some W2.heap.size)]) (by simp [results, Try.results29, go_sem, s0, s1, s2]) rfl ?_
  exact ⟨W1.heap.size, W2.heap.size, rfl, HM.out.keep ((hfar _ (by omega)).trans (HB35.out.block _ (by omega))), HG.out.keep ((hfar _ (by omega)).trans (HB35.out.block _ (by have := HG.out.lt; omega))), by omega, by omega, by omega, hfin⟩

end Go.Proofs.Ytmhpgbhmhbldfaa
