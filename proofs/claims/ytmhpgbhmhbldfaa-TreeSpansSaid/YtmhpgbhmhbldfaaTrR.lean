/- the node of a number -/
import Derived.Test.YtmhpgbhmhbldfaaTrQ
namespace Go.Proofs.Ytmhpgbhmhbldfaa
open Go.ChangeShapes Go.WideShapes Go.ChangeAt Go.RowKit

set_option maxHeartbeats 2000000 in
set_option maxRecDepth 100000 in
theorem node_c {w : World} {M : Nat} {l : List (Nat × Value)} (hM : OwnU w M VNo l) {id : Nat} (hid : id < 18446744073709551616) {A A' : Option Addr} {n c n' c' : Nat} (hg : getU id l = some (.agg #[.slice A n c, .slice A' n' c'])) (f : Value) (G : Option Nat) :
    Calls Try.prog 26 #[.agg #[f, .map (some M), .map G], .int .u64 (id : Int)] w fun e w' => e = .returned (.agg #[.slice A n c, .slice A' n' c']) ∧ Below w.heap.size w w' := by
  obtain ⟨W0, hW0⟩ : ∃ W0, w.alloc (.cells #[f, .map (some M), .map G] 48) = W0 := ⟨_, rfl⟩
  obtain ⟨W1, hW1⟩ : ∃ W1, W0.alloc (.cells #[.slice none 0 0, .slice none 0 0] 60) = W1 := ⟨_, rfl⟩
  have hb0 : Below w.heap.size w W0 := hW0 ▸ (Below.refl _ _).alloc (Nat.le_refl _) _
  have hz0 : W0.heap.size = w.heap.size + 1 := by rw [← hW0]; simp
  have hz1 : W1.heap.size = w.heap.size + 2 := by rw [← hW1, World.size_alloc, hz0]
  have hb01 : Below W0.heap.size W0 W1 := hW1 ▸ (Below.refl _ _).alloc (Nat.le_refl _) _
  have hb1 : Below w.heap.size w W1 := hb0.trans (hb01.mono hb0.size)
  have hx0 : W0.heap[w.heap.size]? = some (.cells #[f, .map (some M), .map G] 48 (0, 0)) := hW0 ▸ heap_alloc_new w _
  have hx1 : W1.heap[w.heap.size]? = some (.cells #[f, .map (some M), .map G] 48 (0, 0)) := (hb01.block _ (by omega)).trans hx0
  have x1 : W1.cell? ⟨w.heap.size, 1, none⟩ = some (.map (some M)) := by rw [cell_of_row _ _ _ _ _ _ hx1]; rfl
  have hM1 : OwnU W1 M VNo l := hM.keep (hb1.block M hM.lt)
  have hlk := look_u hM1 Try.underlying45 (z := .agg #[.slice none 0 0, .slice none 0 0]) (by kernel_rfl) hid true
  rw [hg] at hlk
  simp only [Option.map_some, Option.getD_some, if_true, Option.isSome_some] at hlk
  have hr1 : Two W1 W0.heap.size (.slice none 0 0) (.slice none 0 0) := hW1 ▸ heap_alloc_new W0 _
  obtain ⟨W2, hW2⟩ : ∃ W2, W1.alloc (.cells #[.slice A n c, .slice A' n' c'] 60) = W2 := ⟨_, rfl⟩
  have hb12 : Below W1.heap.size W1 W2 := hW2 ▸ (Below.refl _ _).alloc (Nat.le_refl _) _
  have ht2 : Two W2 (w.heap.size + 2) (.slice A n c) (.slice A' n' c') := by have := heap_alloc_new W1 (.cells #[.slice A n c, .slice A' n' c'] 60); rw [hz1] at this; exact hW2 ▸ this
  have HR := Lib.hid (hr1.on hb12 (by omega)); have HB := Lib.hid (hb1.trans (hb12.mono hb1.size))
  have HT := Lib.hid ht2; have HW2 := Lib.hid hW2; have HZ1 := Lib.hid hz1
  have HZ0 := Lib.hid hz0
  clear hb0 hb01 hb1 hb12 hx0 hx1 hM hM1 hg hid hr1 ht2 hW2 hz0 hz1
  obtain ⟨⟨z0, z1⟩, zf, -⟩ := HR.out.cells
  have zf0 := zf 0; have zf1 := zf 1
  rw [← HW2.out] at z0 z1 zf0 zf1
  clear zf
  go_enter Try.func26, Try.ntmps26
  go_wp2_with fail
  rw [HW2.out]
  obtain ⟨⟨s0, s1⟩, -, -⟩ := (HR.out.set (.slice A n c) (.slice A' n' c')).cells
  refine bodyPost_ret (v := .agg #[.slice A n c, .slice A' n' c']) (by simp [results, Try.results26, go_sem, s0, s1]) rfl ?_
  exact ⟨rfl, (HB.out.setCell (by simp [HZ0.out]) _).setCell (by simp [HZ0.out]) _⟩

end Go.Proofs.Ytmhpgbhmhbldfaa
