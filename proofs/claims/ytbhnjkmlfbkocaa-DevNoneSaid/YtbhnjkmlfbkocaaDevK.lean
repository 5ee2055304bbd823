/- copies; a device that is not there -/
import Derived.Test.YtbhnjkmlfbkocaaDevT
import Derived.Test.YtbhnjkmlfbkocaaLay2
namespace Go.Proofs.Ytbhnjkmlfbkocaa
open Go.ChangeShapes Go.WideShapes Go.ChangeAt Go.RowKit
open Go.Maps (Keyed)
open Go.Shelf

theorem flat_split {u : List Sec} (h : ∀ s ∈ u, s.length = 128) : (flatS u).length = u.length * 128 := flat_len h

/-- a new slice that is the same -/
theorem clone_secs {w : World} {S : Nat} {u : List Sec} {sp : List Value} (hw : w.heap[S]? = some (.cells (cellsOf u sp) 92 (0, 0))) (h : ∀ s ∈ u, s.length = 128) (hm : u.length ≤ 65536) (c : Nat) :
    Calls Try.prog 53 #[.slice (some ⟨S, 0, none⟩) u.length c] w fun e w' => ∃ v', e = .returned v' ∧ w'.ownsRow w.heap.size 92 128 v' u.length (flatS u) ∧ v' ≠ .slice none 0 0 ∧ Below w.heap.size w w' := by
  obtain ⟨i0, hi0, hz0, hz1, hz2⟩ := info_parts info_secb
  have hc : (secV zer).cells.size = 128 := by simp only [secV, Value.cells]; rw [secA_size, zer_len]
  have hsz : ∀ w, (Go.sizeOf 92).run Try.prog w = .ok 128 w := fun w => by
    have := size_sec
    cases hq : Try.prog.info? 92 with
    | none => simp [hq] at this
    | some i =>
      have e : i.size = 128 := by simpa [hq] using this
      simp [sizeOf, typeInfo, hq, e]
  refine AnyE.slices_Clone cloneSec i0 (secV zer) 128 128 hi0 hz0 hz1 hz2 hc (by decide) hsz S 0 u.length c (flatS u) w (flat_len h) (by unfold maxLen; omega) (by omega) (fun j x hj => ?_) (cells_one u)
  rw [Nat.zero_add, cell_of_row w S _ _ _ _ hw]
  have hj' := (List.getElem?_eq_some_iff.1 hj).1
  simp only [cellsOf, List.getElem?_toArray]
  rw [List.getElem?_append_left hj']
  exact hj

/-! a device that is not there -/

theorem nil_off {w : World} : Calls Try.prog 25 #[.pointer none] w fun e w' => e = .returned (.bool true) ∧ w = w' := by
  go_enter Try.func25, Try.ntmps25
  go_wp2_with fail
  go_ret
  exact ⟨rfl, rfl⟩

theorem nil_crash {w : World} {keep torn : Int} : Calls Try.prog 18 #[.pointer none, .int .u64 keep, .int .i64 torn] w fun e w' => e = .returned (.tuple #[]) ∧ Below w.heap.size w w' := by
  go_enter Try.func18, Try.ntmps18
  go_wp2_with (first
    | (go_at_call 25; refine (nil_off (w := w)).mono ?_; rintro e w' ⟨rfl, rfl⟩)
    | fail)
  refine bodyPost_ret (results_none rfl _ _ _) rfl ?_
  exact ⟨rfl, Below.refl _ _⟩

theorem nil_plan {w : World} {v : Value} : Calls Try.prog 19 #[.pointer none, v] w fun e w' => e = .returned (.tuple #[]) ∧ Below w.heap.size w w' := by
  go_enter Try.func19, Try.ntmps19
  go_wp2_with (first
    | (go_at_call 25; refine (nil_off (w := w)).mono ?_; rintro e w' ⟨rfl, rfl⟩)
    | fail)
  refine bodyPost_ret (results_none rfl _ _ _) rfl ?_
  exact ⟨rfl, Below.refl _ _⟩

theorem nil_read {w : World} {a : Int} : Calls Try.prog 20 #[.pointer none, .int .i64 a] w fun e w' => e = .returned (.tuple #[.string ⟨#[]⟩, .int .i64 7]) ∧ Below w.heap.size w w' := by
  go_enter Try.func20, Try.ntmps20
  go_wp2_with (first
    | (go_at_call 25; refine (nil_off (w := w)).mono ?_; rintro e w' ⟨rfl, rfl⟩)
    | fail)
  go_ret2
  exact ⟨rfl, Below.refl _ _⟩

theorem nil_write {w : World} {a : Int} {s : ByteArray} : Calls Try.prog 22 #[.pointer none, .int .i64 a, .string s] w fun e w' => e = .returned (.int .i64 7) ∧ Below w.heap.size w w' := by
  go_enter Try.func22, Try.ntmps22
  go_wp2_with (first
    | (go_at_call 25; refine (nil_off (w := w)).mono ?_; rintro e w' ⟨rfl, rfl⟩)
    | fail)
  go_ret
  exact ⟨rfl, Below.refl _ _⟩

theorem nil_flush {w : World} : Calls Try.prog 24 #[.pointer none] w fun e w' => e = .returned (.int .i64 7) ∧ Below w.heap.size w w' := by
  go_enter Try.func24, Try.ntmps24
  go_wp2_with (first
    | (go_at_call 25; refine (nil_off (w := w)).mono ?_; rintro e w' ⟨rfl, rfl⟩)
    | fail)
  go_ret
  exact ⟨rfl, Below.refl _ _⟩

theorem nil_up {w : World} : Calls Try.prog 26 #[.pointer none] w fun e w' => e = .returned (.bool false) ∧ Below w.heap.size w w' := by
  go_enter Try.func26, Try.ntmps26
  go_wp2_with (first
    | (go_at_call 25; refine (nil_off (w := w)).mono ?_; rintro e w' ⟨rfl, rfl⟩)
    | fail)
  go_ret
  exact ⟨rfl, Below.refl _ _⟩

theorem nil_len {w : World} : Calls Try.prog 27 #[.pointer none] w fun e w' => e = .returned (.int .i64 0) ∧ Below w.heap.size w w' := by
  go_enter Try.func27, Try.ntmps27
  go_wp2_with (first
    | (go_at_call 25; refine (nil_off (w := w)).mono ?_; rintro e w' ⟨rfl, rfl⟩)
    | fail)
  go_ret
  exact ⟨rfl, Below.refl _ _⟩

theorem nil_steps {w : World} : Calls Try.prog 28 #[.pointer none] w fun e w' => e = .returned (.int .i64 0) ∧ Below w.heap.size w w' := by
  go_enter Try.func28, Try.ntmps28
  go_wp2_with (first
    | (go_at_call 25; refine (nil_off (w := w)).mono ?_; rintro e w' ⟨rfl, rfl⟩)
    | fail)
  go_ret
  exact ⟨rfl, Below.refl _ _⟩

theorem nil_loose {w : World} : Calls Try.prog 29 #[.pointer none] w fun e w' => e = .returned (.int .i64 0) ∧ Below w.heap.size w w' := by
  go_enter Try.func29, Try.ntmps29
  go_wp2_with (first
    | (go_at_call 25; refine (nil_off (w := w)).mono ?_; rintro e w' ⟨rfl, rfl⟩)
    | fail)
  go_ret
  exact ⟨rfl, Below.refl _ _⟩

theorem nil_copy {w : World} : Calls Try.prog 21 #[.pointer none] w fun e w' => e = .returned (.pointer none) ∧ Below w.heap.size w w' := by
  go_enter Try.func21, Try.ntmps21
  go_wp2_with (first
    | (go_at_call 25; refine (nil_off (w := w)).mono ?_; rintro e w' ⟨rfl, rfl⟩)
    | fail)
  go_ret
  exact ⟨rfl, Below.refl _ _⟩

/-! a copy -/

theorem plan_nil (w : World) : Calls Try.prog 48 #[.slice none 0 0] w fun e w' => e = .returned (.slice none 0 0) ∧ w' = w := AnyE.slices_Clone_nil cloneFall 0 0 w

set_option maxRecDepth 100000 in
theorem copy_any {w : World} {B S M : Nat} {sp : List Value} {c : Nat} {d : Dv} (h : IsDev w B S M ⟨.slice none 0 0, sp, c⟩ d) (hp : d.plan = []) :
    Calls Try.prog 21 #[.pointer (some ⟨B, 0, none⟩)] w fun e w' => ∃ S' M' pv', e = .returned (.pointer (some ⟨w.heap.size, 0, none⟩)) ∧ IsDev w' w.heap.size S' M' pv' d ∧ w.heap.size ≤ S' ∧ w.heap.size ≤ M' ∧ Below w.heap.size w w' := by
  obtain ⟨c0, c1, c2, c3, c4⟩ := h.cells
  have H := Lib.hid h
  have hbl := h.ltB
  clear h
  go_enter Try.func21, Try.ntmps21
  go_wp2_with fail
  have hb0 : Below w.heap.size w (w.alloc (.cells #[.slice (some ⟨S, 0, none⟩) d.sure.length c, .map (some M), .slice none 0 0, .int .i64 d.steps, .bool d.off] 78)) := (Below.refl w.heap.size w).alloc (Nat.le_refl _) _
  have h0 := H.out.on hb0
  refine (clone_secs h0.sure h0.bytes h0.most c).mono ?_
  rintro e w1 ⟨v1, rfl, hrow, hne, hb1⟩
  obtain ⟨hfl, ⟨rfl, -⟩ | ⟨g, cap, cur, rfl, hg1, hg2, hg3, hg4, hg5, hg6⟩⟩ := hrow
  · exact absurd rfl hne
  have hbox1 : w1.heap[w.heap.size]? = some (.cells #[.slice (some ⟨S, 0, none⟩) d.sure.length c, .map (some M), .slice none 0 0, .int .i64 d.steps, .bool d.off] 78 (0, 0)) := (hb1.block _ (by simp)).trans (heap_alloc_last w _)
  have hb1' : Below w.heap.size w w1 := hb0.trans (hb1.mono (by simp))
  have y0 : w1.cell? ⟨w.heap.size, 0, none⟩ = some (.slice (some ⟨S, 0, none⟩) d.sure.length c) := by rw [cell_of_row _ _ _ _ _ _ hbox1]; rfl
  have f0 : w1.frozen? ⟨w.heap.size, 0, none⟩ = false := by simp [World.frozen?, hbox1]
  have hb2 : Below w.heap.size w (w1.setCell ⟨w.heap.size, 0, none⟩ (.slice (some ⟨g, 0, none⟩) d.sure.length cap)) := hb1'.setCell (Nat.le_refl _) _
  have h2 := H.out.on hb2
  obtain ⟨-, k1, k2, -, -⟩ := h2.cells
  have HB1 := Lib.hid hb1; have HBX := Lib.hid hbox1; have HG := Lib.hid hg2; have HG3 := Lib.hid hg5; have HG6 := Lib.hid hg6; have HB2 := Lib.hid hb2; have H2 := Lib.hid h2
  clear h0 hb0 hb1 hb1' hbox1 hg2 hg3 hg4 hg5 hg6 hne hfl hb2 h2
  go_wp2_with fail
  refine (AnyW.maps_Clone_owns cloneMap 3 RSec M _ _ _ H2.out.map).mono ?_
  rintro e w3 ⟨rfl, hm1, hm2, hb3⟩
  have hz2 : (w1.setCell ⟨w.heap.size, 0, none⟩ (.slice (some ⟨g, 0, none⟩) d.sure.length cap)).heap.size = w1.heap.size := by simp [World.setCell]
  have hbx2 : (w1.setCell ⟨w.heap.size, 0, none⟩ (.slice (some ⟨g, 0, none⟩) d.sure.length cap)).heap[w.heap.size]? = some (.cells #[.slice (some ⟨g, 0, none⟩) d.sure.length cap, .map (some M), .slice none 0 0, .int .i64 d.steps, .bool d.off] 78 (0, 0)) := (heap_setCell_same w1 w.heap.size 0 _ _ _ HBX.out).trans rfl
  have hg1' : w.heap.size + 1 ≤ g := by simpa using hg1
  have hgz : g < w1.heap.size := (Array.getElem?_eq_some_iff.1 HG.out).1
  have hrow2 : (w1.setCell ⟨w.heap.size, 0, none⟩ (.slice (some ⟨g, 0, none⟩) d.sure.length cap)).heap[g]? = some (.cells cur 92 (0, 0)) := (heap_setCell_other w1 _ g _ (by simp; omega)).trans HG.out
  have HB2' := HB2.out
  clear hm2
  rw [hz2] at hm1 hb3
  rw [hz2]
  generalize w1.setCell ⟨w.heap.size, 0, none⟩ (.slice (some ⟨g, 0, none⟩) d.sure.length cap) = W2 at hz2 hbx2 hrow2 HB2' hm1 hb3 k1 k2 HB2 H2 ⊢
  have hwz : w.heap.size < w1.heap.size := by omega
  have hbx3 : w3.heap[w.heap.size]? = some (.cells #[.slice (some ⟨g, 0, none⟩) d.sure.length cap, .map (some M), .slice none 0 0, .int .i64 d.steps, .bool d.off] 78 (0, 0)) := (hb3.block _ hwz).trans hbx2
  have hrow3 : w3.heap[g]? = some (.cells cur 92 (0, 0)) := (hb3.block _ hgz).trans hrow2
  have hbw3 : Below w.heap.size w w3 := HB2'.trans (hb3.mono (Nat.le_of_lt hwz))
  have y1 : w3.cell? ⟨w.heap.size, 1, none⟩ = some (.map (some M)) := by rw [cell_of_row _ _ _ _ _ _ hbx3]; rfl
  have f1 : w3.frozen? ⟨w.heap.size, 1, none⟩ = false := by simp [World.frozen?, hbx3]
  have hb4 : Below w.heap.size w (w3.setCell ⟨w.heap.size, 1, none⟩ (.map (some w1.heap.size))) := hbw3.setCell (Nat.le_refl _) _
  have hbx4 : (w3.setCell ⟨w.heap.size, 1, none⟩ (.map (some w1.heap.size))).heap[w.heap.size]? = some (.cells #[.slice (some ⟨g, 0, none⟩) d.sure.length cap, .map (some w1.heap.size), .slice none 0 0, .int .i64 d.steps, .bool d.off] 78 (0, 0)) := (heap_setCell_same w3 w.heap.size 1 _ _ _ hbx3).trans rfl
  have h4 := H.out.on hb4
  obtain ⟨-, -, m2, -, -⟩ := h4.cells
  have y2 : (w3.setCell ⟨w.heap.size, 1, none⟩ (.map (some w1.heap.size))).cell? ⟨w.heap.size, 2, none⟩ = some (.slice none 0 0) := by rw [cell_of_row _ _ _ _ _ _ hbx4]; rfl
  have f2 : (w3.setCell ⟨w.heap.size, 1, none⟩ (.map (some w1.heap.size))).frozen? ⟨w.heap.size, 2, none⟩ = false := by simp [World.frozen?, hbx4]
  have HM := Lib.hid hm1; have HX4 := Lib.hid hbx4; have HR3 := Lib.hid hrow3; have HB4 := Lib.hid hb4
  clear hm1 hb3 hbx2 hrow2 HB2' hz2 hbx3 hrow3 hbw3 hb4 hbx4 h4
  go_wp2_with fail
  refine (plan_nil _).mono ?_
  rintro e w5 ⟨rfl, rfl⟩
  go_wp2_with fail
  go_ret
  have ho5 : Only (fun k => k = w.heap.size) w3 ((w3.setCell ⟨w.heap.size, 1, none⟩ (.map (some w1.heap.size))).setCell ⟨w.heap.size, 2, none⟩ (.slice none 0 0)) :=
    ((Only.refl (fun k => k = w.heap.size) w3).setCell (p := ⟨w.heap.size, 1, none⟩) (.inl rfl) _).setCell (p := ⟨w.heap.size, 2, none⟩) (.inl rfl) _
  have hgz3 : g < w3.heap.size := (Array.getElem?_eq_some_iff.1 HR3.out).1
  obtain ⟨es, clock, hM, rM⟩ := HM.out
  have hmz3 : w1.heap.size < w3.heap.size := (Array.getElem?_eq_some_iff.1 hM).1
  have hsp : cur = cellsOf d.sure (cur.toList.drop (d.sure.length * 128)) := by
    apply Array.toList_inj.1
    simp only [cellsOf]
    conv => lhs; rw [← List.take_append_drop (d.sure.length * 128) cur.toList, HG6.out]
  refine ⟨g, w1.heap.size, ⟨.slice none 0 0, cur.toList.drop (d.sure.length * 128), cap⟩, rfl, ⟨(heap_setCell_same _ w.heap.size 2 _ _ _ HX4.out).trans rfl, ?_, ⟨es, clock, (ho5.block _ hmz3 (by omega)).trans hM, rM⟩, H.out.bytes, H.out.lbytes, H.out.ris, H.out.most, ?_⟩, by omega, by omega, HB4.out.setCell (Nat.le_refl _) _⟩
  · rw [← hsp]; exact (ho5.block _ hgz3 (by omega)).trans HR3.out
  · exact ⟨none, 0, by rw [hp]; rfl, by rw [hp]; exact Nat.le_refl _, by decide, .inl hp⟩

end Go.Proofs.Ytbhnjkmlfbkocaa
