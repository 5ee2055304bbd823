/- the document's device: a step -/
import Derived.Test.YtbdjdeddghdefaaRfC
namespace Go.Proofs.Ytbdjdeddghdefaa
open Go.ChangeShapes Go.WideShapes Go.ChangeAt Go.RowKit

/-- a device laid into a box of five cells -/
def resW (w : World) (b : Nat) (v0 v1 v2 v3 v4 : Value) : World :=
  ((((w.setCell ⟨b, 0, none⟩ v0).setCell ⟨b, 1, none⟩ v1).setCell ⟨b, 2, none⟩ v2).setCell ⟨b, 3, none⟩ v3).setCell ⟨b, 4, none⟩ v4

theorem resW_heap {w : World} {b : Nat} {T : TypeId} {a0 a1 a2 a3 a4 : Value} (hq : w.heap[b]? = some (.cells #[a0, a1, a2, a3, a4] T (0, 0))) (v0 v1 v2 v3 v4 : Value) :
    (resW w b v0 v1 v2 v3 v4).heap[b]? = some (.cells #[v0, v1, v2, v3, v4] T (0, 0)) :=
  Go.heap_setCell_same _ b 4 _ T v4 (Go.heap_setCell_same _ b 3 _ T v3 (Go.heap_setCell_same _ b 2 _ T v2 (Go.heap_setCell_same _ b 1 _ T v1 (Go.heap_setCell_same _ b 0 _ T v0 hq))))

theorem resW_below {w w' : World} {n : Nat} (h : Below n w w') {b : Nat} (hb : n ≤ b) (v0 v1 v2 v3 v4 : Value) : Below n w (resW w' b v0 v1 v2 v3 v4) := by
  unfold resW
  exact ((((h.setCell (p := ⟨b, 0, none⟩) hb _).setCell (p := ⟨b, 1, none⟩) hb _).setCell (p := ⟨b, 2, none⟩) hb _).setCell (p := ⟨b, 3, none⟩) hb _).setCell (p := ⟨b, 4, none⟩) hb _

theorem resW_far (w : World) {b g : Nat} (hg : g ≠ b) (o : Nat) (v0 v1 v2 v3 v4 : Value) : (resW w b v0 v1 v2 v3 v4).cell? ⟨g, o, none⟩ = w.cell? ⟨g, o, none⟩ :=
  (World.cell?_setCell_far _ ⟨b, 4, none⟩ ⟨g, o, none⟩ _ (Ne.symm hg)).trans ((World.cell?_setCell_far _ ⟨b, 3, none⟩ ⟨g, o, none⟩ _ (Ne.symm hg)).trans ((World.cell?_setCell_far _ ⟨b, 2, none⟩ ⟨g, o, none⟩ _ (Ne.symm hg)).trans
    ((World.cell?_setCell_far _ ⟨b, 1, none⟩ ⟨g, o, none⟩ _ (Ne.symm hg)).trans (World.cell?_setCell_far _ ⟨b, 0, none⟩ ⟨g, o, none⟩ _ (Ne.symm hg)))))

/-- what a box of five holds -/
theorem u64_row {w : World} {b : Nat} {T : TypeId} {A L C : Option Addr} {n c m e k f : Nat} {s : Int} {o : Bool} (hp : w.heap[b]? = some (.cells #[.slice A n c, .slice L m e, .int .i64 s, .slice C k f, .bool o] T (0, 0))) (j : Nat) (x : Int) : w.cell? ⟨b, j, none⟩ ≠ some (.int .u64 x) := by
  rw [cell_of_row _ _ _ _ _ _ hp]
  rcases j with _ | _ | _ | _ | _ | j <;> simp

/-- a device is none of a box's own cells -/
theorem RfAt.res {w : World} {v : Value} {d : Dv} {F : List Fal} (h : RfAt w v d F) {b : Nat} {T : TypeId} {A L C : Option Addr} {n c m e k f : Nat} {s : Int} {o : Bool} (hp : w.heap[b]? = some (.cells #[.slice A n c, .slice L m e, .int .i64 s, .slice C k f, .bool o] T (0, 0))) (x0 x1 x2 x3 x4 : Value) :
    RfAt (resW w b x0 x1 x2 x3 x4) v d F := by
  obtain ⟨v0, v1, v3, hv, h0, h1, h3⟩ := h.form
  refine ⟨v0, v1, v3, hv, ?_, ?_, ?_⟩
  · obtain ⟨A, cap, e1, e2, hx⟩ := h0.form
    refine ⟨A, cap, e1, e2, fun i s hs => ?_⟩
    obtain ⟨g, o, hA, hy⟩ := hx i s hs
    exact ⟨g, o, hA, (resW_far w (by rintro rfl; exact bool_row hp _ _ hy) _ _ _ _ _ _).trans hy⟩
  · obtain ⟨A, cap, e1, e2, hx⟩ := h1.form
    refine ⟨A, cap, e1, e2, fun i s hs => ?_⟩
    obtain ⟨g, o, hA, hy, hz⟩ := hx i s hs
    have hg : g ≠ b := by rintro rfl; exact bool_row hp _ _ hz
    exact ⟨g, o, hA, (resW_far w hg _ _ _ _ _ _).trans hy, (resW_far w hg _ _ _ _ _ _).trans hz⟩
  · obtain ⟨A, cap, e1, hx⟩ := h3.form
    refine ⟨A, cap, e1, fun i s hs => ?_⟩
    obtain ⟨g, o, hA, hk, hx0, hx1, hx2⟩ := hx i s hs
    have hg : g ≠ b := by rintro rfl; exact u64_row hp _ _ hx1
    exact ⟨g, o, hA, hk, (resW_far w hg _ _ _ _ _ _).trans hx0, (resW_far w hg _ _ _ _ _ _).trans hx1, (resW_far w hg _ _ _ _ _ _).trans hx2⟩

/-- a step, of at most one fall -/
def rstepX (d : Dv) : List Fal → Dv × List Fal × Int
  | [] => ({ d with steps := wrap64 (d.steps + 1) }, [], 0)
  | f :: r => if f.at_ = d.steps then (crashD d f.keep f.torn, r, 7) else ({ d with steps := wrap64 (d.steps + 1) }, f :: r, 0)

theorem ref_h (b o n c : Nat) (W : World) :
    (Instr.sliceAt 29 (.slice (some ⟨b, o, none⟩) n c) none (some (.int .i64 0)) none).run Try.prog W = .ok (.slice (some ⟨b, o, none⟩) 0 c) W := by
  have e2 : Try.prog.elem 29 = 78 := by kernel_rfl
  have hu : Try.prog.underlying 29 = some (.slice (Try.prog.elem 29)) := by rw [e2]; exact Try.underlying29
  have hs : (sizeOf (Try.prog.elem 29)).run Try.prog W = .ok 3 W := by rw [e2]; exact Try.sizeOf78 W
  rw [run_sliceAt_slice W 29 _ _ _ _ hu, run_slice_h W 29 (some ⟨b, o, none⟩) n c hu .i64 0 (by omega) (by omega), hs]
  simp [sliced, cell_add]

theorem ref_l (b o c : Nat) :
    ∃ A, ∀ W, (Instr.sliceAt 29 (.slice (some ⟨b, o, none⟩) 1 c) (some (.int .i64 1)) none none).run Try.prog W = .ok (.slice (some A) 0 (c - 1)) W := by
  have e2 : Try.prog.elem 29 = 78 := by kernel_rfl
  have hu : Try.prog.underlying 29 = some (.slice (Try.prog.elem 29)) := by rw [e2]; exact Try.underlying29
  have hs : ∀ W, (sizeOf (Try.prog.elem 29)).run Try.prog W = .ok 3 W := fun W => by rw [e2]; exact Try.sizeOf78 W
  refine ⟨if c = 1 then ⟨b, o, none⟩ else ⟨b, o + 3, none⟩, fun W => ?_⟩
  rw [run_sliceAt_slice W 29 _ _ _ _ hu, run_slice_l W 29 (some ⟨b, o, none⟩) 1 c hu .i64 1 (by decide) (by decide), hs]
  by_cases hc : c = 1
  · subst hc; simp [sliced]
  · simp [sliced, hc, cell_add]

theorem info_rfall : ∃ i, Try.prog.info? 78 = some i := by
  have h : (Try.prog.info? 78).isSome = true := by kernel_rfl
  exact Option.isSome_iff_exists.1 h

/-- nothing appended to nothing -/
theorem ref_none (g : Nat) (A : Addr) (c : Nat) (W : World) :
    (Builtin.append_ #[29, 29] 29 #[.slice (some ⟨g, 0, none⟩) 0 0, .slice (some A) 0 c]).run Try.prog W = .ok (.slice (some ⟨g, 0, none⟩) 0 0) W := by
  obtain ⟨i, hi⟩ := info_rfall
  exact run_append_room_cells (P := Try.prog) (w := W) 29 29 78 i Try.underlying29 hi g 0 0 0 A 0 c [] (by simp) (by simp) (by simp) (by omega) (by simp) (by simp)

set_option maxHeartbeats 4000000 in
set_option maxRecDepth 100000 in
theorem rfstep_any {w : World} {v : Value} {d : Dv} {F : List Fal} (h : RfAt w v d F) (hF : F.length ≤ 1) (hl : d.loose.length ≤ 100000) (hs : d.sure.length ≤ 65536)
    (hin : ∀ p ∈ d.loose, p.1 < d.sure.length ∧ p.2.length = 128) (hb : ∀ s ∈ d.sure, s.length = 128) :
    Calls Try.prog 56 #[v] w fun e w' => ∃ v', e = .returned (.tuple #[v', .int .i64 (rstepX d F).2.2]) ∧ RfAt w' v' (rstepX d F).1 (rstepX d F).2.1 ∧ Below w.heap.size w w' := by
  obtain ⟨v0, v1, v3, rfl, h0, h1, h3⟩ := h.form
  have H0 := Lib.hid h0; have H1 := Lib.hid h1; have H3 := Lib.hid h3
  obtain ⟨A, c, rfl, -, -⟩ := h0.form
  obtain ⟨L, e, rfl, -, -⟩ := h1.form
  obtain ⟨C, f, rfl, hC⟩ := h3.form
  have HC := Lib.hid hC; have HIN := Lib.hid hin; have HBY := Lib.hid hb
  clear hC h h0 h1 h3 hin hb
  have hB := (((Below.refl w.heap.size w).alloc (Nat.le_refl _) (.cells #[.slice A d.sure.length c, .slice L d.loose.length e, .int .i64 d.steps, .slice C F.length f, .bool d.off] 31)).alloc (((Below.refl w.heap.size w).alloc (Nat.le_refl _) (.cells #[.slice A d.sure.length c, .slice L d.loose.length e, .int .i64 d.steps, .slice C F.length f, .bool d.off] 31)).size) (.cells #[.slice none 0 0, .slice none 0 0, .int .i64 0, .slice none 0 0, .bool false] 31))
  have HB := Lib.hid hB
  have hbx := heap_alloc_last (w.alloc (.cells #[.slice A d.sure.length c, .slice L d.loose.length e, .int .i64 d.steps, .slice C F.length f, .bool d.off] 31)) (.cells #[.slice none 0 0, .slice none 0 0, .int .i64 0, .slice none 0 0, .bool false] 31)
  have hb0 := (((Below.refl _ _).alloc (Nat.le_refl _) (.cells #[.slice none 0 0, .slice none 0 0, .int .i64 0, .slice none 0 0, .bool false] 31)).block w.heap.size (by simp)).trans (heap_alloc_last w (.cells #[.slice A d.sure.length c, .slice L d.loose.length e, .int .i64 d.steps, .slice C F.length f, .bool d.off] 31))
  rw [World.size_alloc] at hbx
  have HX0 := Lib.hid hb0; have HX1 := Lib.hid hbx
  clear hB hbx hb0
  obtain ⟨m, hm⟩ : ∃ m, F.length = m := ⟨_, rfl⟩
  have HM := Lib.hid hm
  rw [hm] at HX0 HX1 HB ⊢
  go_enter Try.func56, Try.ntmps56
  go_wp2_with fail
  go_loopw [4] (fun s4 wr => ∃ i : Nat, i ≤ m ∧ s4 = .int .i64 (i : Int) ∧ Hid (i = m → rstepX d F = ({ d with steps := wrap64 (d.steps + 1) }, F, 0)) ∧
      Hid (wr.heap[w.heap.size]? = some (.cells #[.slice A d.sure.length c, .slice L d.loose.length e, .int .i64 d.steps, .slice C m f, .bool d.off] 31 (0, 0))) ∧ Hid (wr.heap[w.heap.size + 1]? = some (.cells #[.slice none 0 0, .slice none 0 0, .int .i64 0, .slice none 0 0, .bool false] 31 (0, 0))) ∧ Hid (Below w.heap.size w wr)) (fun s4 _ => m - (intOf s4).toNat)
  case atStart => exact ⟨0, Nat.zero_le _, rfl, Lib.hid (fun e0 => by
      have hz : F = [] := List.eq_nil_of_length_eq_zero (by rw [HM.out]; omega)
      rw [hz]; rfl), HX0, HX1, HB⟩
  case round =>
    obtain ⟨i, hi, rfl, HST, HP, HQ, HBW⟩ := hrel
    have hp := HP.out
    have p0 : wr.cell? ⟨w.heap.size, 0, none⟩ = some (.slice A d.sure.length c) := by rw [cell_of_row _ _ _ _ _ _ hp]; rfl
    have p1 : wr.cell? ⟨w.heap.size, 1, none⟩ = some (.slice L d.loose.length e) := by rw [cell_of_row _ _ _ _ _ _ hp]; rfl
    have p2 : wr.cell? ⟨w.heap.size, 2, none⟩ = some (.int .i64 d.steps) := by rw [cell_of_row _ _ _ _ _ _ hp]; rfl
    have p3 : wr.cell? ⟨w.heap.size, 3, none⟩ = some (.slice C m f) := by rw [cell_of_row _ _ _ _ _ _ hp]; rfl
    have p4 : wr.cell? ⟨w.heap.size, 4, none⟩ = some (.bool d.off) := by rw [cell_of_row _ _ _ _ _ _ hp]; rfl
    have pf2 : wr.frozen? ⟨w.heap.size, 2, none⟩ = false := by simp [World.frozen?, hp]
    have pf3 : wr.frozen? ⟨w.heap.size, 3, none⟩ = false := by simp [World.frozen?, hp]
    clear hp
    by_cases hlt : i < m
    · have hm1 : m = 1 := by have := HM.out; omega
      have hi0 : i = 0 := by omega
      obtain ⟨x, hx⟩ : ∃ x, F = [x] := List.length_eq_one_iff.1 (by rw [HM.out]; exact hm1)
      obtain ⟨b0, o0, hA0, hk, k0, k1, k2⟩ := HC.out i x (by rw [hx, hi0]; rfl)
      subst hA0
      have k0' := cell_below HBW.out k0
      have k1' := cell_below HBW.out k1
      have k2' := cell_below HBW.out k2
      have hsl0 : ∀ W, (Instr.sliceAt 29 (.slice (some ⟨b0, o0, none⟩) m f) none (some (.int .i64 (i : Int))) none).run Try.prog W = .ok (.slice (some ⟨b0, o0, none⟩) 0 f) W := fun W => by rw [hi0]; exact ref_h b0 o0 m f W
      obtain ⟨A1, hA1⟩ := ref_l b0 o0 f
      have hsl1 : ∀ W, (Instr.sliceAt 29 (.slice (some ⟨b0, o0, none⟩) m f) (some (.int .i64 ((i : Int) + 1))) none none).run Try.prog W = .ok (.slice (some A1) 0 (f - 1)) W := fun W => by rw [hi0, hm1]; exact hA1 W
      have hw1 : IntKind.i64.wrap ((i : Int) + 1) = (i : Int) + 1 := by rw [hi0]; rfl
      have z2 : (i : Int) < (m : Int) := by omega
      have hap0 : ∀ W, (Builtin.append_ #[29, 29] 29 #[.slice (some ⟨wr.heap.size + 1, 0, none⟩) 0 0, .slice (some ⟨b0, o0, none⟩) 0 f]).run Try.prog W = .ok (.slice (some ⟨wr.heap.size + 1, 0, none⟩) 0 0) W := ref_none _ _ _
      have hap1 : ∀ W, (Builtin.append_ #[29, 29] 29 #[.slice (some ⟨wr.heap.size + 1, 0, none⟩) 0 0, .slice (some A1) 0 (f - 1)]).run Try.prog W = .ok (.slice (some ⟨wr.heap.size + 1, 0, none⟩) 0 0) W := ref_none _ _ _
      have HFX := Lib.hid hx; have HI0 := Lib.hid hi0; have HM1 := Lib.hid hm1
      clear hx hi0 hm1 k0 k1 k2 hA1
      have hbx1 := heap_alloc_last wr (.cells #[.int .i64 x.at_, .int .u64 (x.keep : Int), .int .i64 x.torn] 78)
      have y0 : (wr.alloc (.cells #[.int .i64 x.at_, .int .u64 (x.keep : Int), .int .i64 x.torn] 78)).cell? ⟨wr.heap.size, 0, none⟩ = some (.int .i64 x.at_) := by rw [cell_of_row _ _ _ _ _ _ hbx1]; rfl
      have y1 : (wr.alloc (.cells #[.int .i64 x.at_, .int .u64 (x.keep : Int), .int .i64 x.torn] 78)).cell? ⟨wr.heap.size, 1, none⟩ = some (.int .u64 (x.keep : Int)) := by rw [cell_of_row _ _ _ _ _ _ hbx1]; rfl
      have y2 : (wr.alloc (.cells #[.int .i64 x.at_, .int .u64 (x.keep : Int), .int .i64 x.torn] 78)).cell? ⟨wr.heap.size, 2, none⟩ = some (.int .i64 x.torn) := by rw [cell_of_row _ _ _ _ _ _ hbx1]; rfl
      have hbw1 := HBW.out.alloc HBW.out.size (.cells #[.int .i64 x.at_, .int .u64 (x.keep : Int), .int .i64 x.torn] 78)
      have hP1 := ((Below.refl wr.heap.size wr).alloc (Nat.le_refl _) (.cells #[.int .i64 x.at_, .int .u64 (x.keep : Int), .int .i64 x.torn] 78))
      have hp1 := (hP1.block w.heap.size (heap_lt HP.out)).trans HP.out
      have hq1 := (hP1.block (w.heap.size + 1) (heap_lt HQ.out)).trans HQ.out
      have g2 : (wr.alloc (.cells #[.int .i64 x.at_, .int .u64 (x.keep : Int), .int .i64 x.torn] 78)).cell? ⟨w.heap.size, 2, none⟩ = some (.int .i64 d.steps) := by rw [cell_of_row _ _ _ _ _ _ hp1]; rfl
      have g3 : (wr.alloc (.cells #[.int .i64 x.at_, .int .u64 (x.keep : Int), .int .i64 x.torn] 78)).cell? ⟨w.heap.size, 3, none⟩ = some (.slice (some ⟨b0, o0, none⟩) m f) := by rw [cell_of_row _ _ _ _ _ _ hp1]; rfl
      have gf3 : (wr.alloc (.cells #[.int .i64 x.at_, .int .u64 (x.keep : Int), .int .i64 x.torn] 78)).frozen? ⟨w.heap.size, 3, none⟩ = false := by simp [World.frozen?, hp1]
      have HP1 := Lib.hid hp1; have HQ1 := Lib.hid hq1; have HBW1 := Lib.hid hbw1
      clear hP1 hp1 hq1 hbw1 hbx1
      by_cases heq : x.at_ = d.steps
      · have deq : (x.at_ == d.steps) = true := by simpa using heq
        have HEQ := Lib.hid heq
        clear heq
        have hb2 := Below.heap_alloc (wr.alloc (.cells #[.int .i64 x.at_, .int .u64 (x.keep : Int), .int .i64 x.torn] 78)) (.cells #[] 78)
        have hp2 := (hb2 w.heap.size (heap_lt HP1.out)).trans HP1.out
        have hq2 := (hb2 (w.heap.size + 1) (heap_lt HQ1.out)).trans HQ1.out
        have e2 : ((wr.alloc (.cells #[.int .i64 x.at_, .int .u64 (x.keep : Int), .int .i64 x.torn] 78)).alloc (.cells #[] 78)).cell? ⟨w.heap.size, 3, none⟩ = some (.slice (some ⟨b0, o0, none⟩) m f) := by rw [cell_of_row _ _ _ _ _ _ hp2]; rfl
        have ef2 : ((wr.alloc (.cells #[.int .i64 x.at_, .int .u64 (x.keep : Int), .int .i64 x.torn] 78)).alloc (.cells #[] 78)).frozen? ⟨w.heap.size, 3, none⟩ = false := by simp [World.frozen?, hp2]
        have HP2 := Lib.hid hp2; have HQ2 := Lib.hid hq2
        clear hp2 hq2 hb2
        go_upto_region 6 with fail
        go_region
        have hb3 : Below w.heap.size w ((((wr.alloc (.cells #[.int .i64 x.at_, .int .u64 (x.keep : Int), .int .i64 x.torn] 78)).alloc (.cells #[] 78)).setCell ⟨w.heap.size, 3, none⟩ (.slice (some ⟨wr.heap.size + 1, 0, none⟩) 0 0)).drew) := ((HBW1.out.alloc HBW1.out.size (.cells #[] 78)).setCell (p := ⟨w.heap.size, 3, none⟩) (Nat.le_refl _) (.slice (some ⟨wr.heap.size + 1, 0, none⟩) 0 0)).drew
        have hp3 : ((((wr.alloc (.cells #[.int .i64 x.at_, .int .u64 (x.keep : Int), .int .i64 x.torn] 78)).alloc (.cells #[] 78)).setCell ⟨w.heap.size, 3, none⟩ (.slice (some ⟨wr.heap.size + 1, 0, none⟩) 0 0)).drew).heap[w.heap.size]? = some (.cells #[.slice A d.sure.length c, .slice L d.loose.length e, .int .i64 d.steps, (.slice (some ⟨wr.heap.size + 1, 0, none⟩) 0 0), .bool d.off] 31 (0, 0)) := Go.heap_setCell_same ((wr.alloc (.cells #[.int .i64 x.at_, .int .u64 (x.keep : Int), .int .i64 x.torn] 78)).alloc (.cells #[] 78)) w.heap.size 3 _ _ (.slice (some ⟨wr.heap.size + 1, 0, none⟩) 0 0) HP2.out
        have hq3 : ((((wr.alloc (.cells #[.int .i64 x.at_, .int .u64 (x.keep : Int), .int .i64 x.torn] 78)).alloc (.cells #[] 78)).setCell ⟨w.heap.size, 3, none⟩ (.slice (some ⟨wr.heap.size + 1, 0, none⟩) 0 0)).drew).heap[w.heap.size + 1]? = some (.cells #[.slice none 0 0, .slice none 0 0, .int .i64 0, .slice none 0 0, .bool false] 31 (0, 0)) := (Below.heap_setCell ((wr.alloc (.cells #[.int .i64 x.at_, .int .u64 (x.keep : Int), .int .i64 x.torn] 78)).alloc (.cells #[] 78)) ⟨w.heap.size, 3, none⟩ (.slice (some ⟨wr.heap.size + 1, 0, none⟩) 0 0) (w.heap.size + 1) (by simp)).trans HQ2.out
        have hx3 : ((((wr.alloc (.cells #[.int .i64 x.at_, .int .u64 (x.keep : Int), .int .i64 x.torn] 78)).alloc (.cells #[] 78)).setCell ⟨w.heap.size, 3, none⟩ (.slice (some ⟨wr.heap.size + 1, 0, none⟩) 0 0)).drew).heap[wr.heap.size]? = some (.cells #[.int .i64 x.at_, .int .u64 (x.keep : Int), .int .i64 x.torn] 78 (0, 0)) := (Below.heap_setCell ((wr.alloc (.cells #[.int .i64 x.at_, .int .u64 (x.keep : Int), .int .i64 x.torn] 78)).alloc (.cells #[] 78)) ⟨w.heap.size, 3, none⟩ (.slice (some ⟨wr.heap.size + 1, 0, none⟩) 0 0) wr.heap.size (by have := heap_lt HP.out; show wr.heap.size ≠ w.heap.size; omega)).trans ((Below.heap_alloc (wr.alloc (.cells #[.int .i64 x.at_, .int .u64 (x.keep : Int), .int .i64 x.torn] 78)) (.cells #[] 78) wr.heap.size (by simp)).trans (heap_alloc_last wr _))
        generalize (((wr.alloc (.cells #[.int .i64 x.at_, .int .u64 (x.keep : Int), .int .i64 x.torn] 78)).alloc (.cells #[] 78)).setCell ⟨w.heap.size, 3, none⟩ (.slice (some ⟨wr.heap.size + 1, 0, none⟩) 0 0)).drew = W3 at hb3 hp3 hq3 hx3 ⊢
        have s0 : W3.cell? ⟨w.heap.size, 0, none⟩ = some (.slice A d.sure.length c) := by rw [cell_of_row _ _ _ _ _ _ hp3]; rfl
        have s1 : W3.cell? ⟨w.heap.size, 1, none⟩ = some (.slice L d.loose.length e) := by rw [cell_of_row _ _ _ _ _ _ hp3]; rfl
        have s2 : W3.cell? ⟨w.heap.size, 2, none⟩ = some (.int .i64 d.steps) := by rw [cell_of_row _ _ _ _ _ _ hp3]; rfl
        have s3 : W3.cell? ⟨w.heap.size, 3, none⟩ = some (.slice (some ⟨wr.heap.size + 1, 0, none⟩) 0 0) := by rw [cell_of_row _ _ _ _ _ _ hp3]; rfl
        have s4 : W3.cell? ⟨w.heap.size, 4, none⟩ = some (.bool d.off) := by rw [cell_of_row _ _ _ _ _ _ hp3]; rfl
        have t1 : W3.cell? ⟨wr.heap.size, 1, none⟩ = some (.int .u64 (x.keep : Int)) := by rw [cell_of_row _ _ _ _ _ _ hx3]; rfl
        have t2 : W3.cell? ⟨wr.heap.size, 2, none⟩ = some (.int .i64 x.torn) := by rw [cell_of_row _ _ _ _ _ _ hx3]; rfl
        have HB3 := Lib.hid hb3; have HQ3 := Lib.hid hq3
        clear hb3 hp3 hq3 hx3
        go_wp2_with fail
        refine (rfcrash_any (d := d) (F := []) ⟨_, _, _, rfl, H0.out.on HB3.out, H1.out.on HB3.out, ⟨_, _, rfl, fun i f hf => by simp at hf⟩⟩ hk x.torn hl hs HIN.out HBY.out).mono ?_
        rintro e4 w4 ⟨v4, rfl, hr4, hb4⟩
        have HR4 := Lib.hid hr4
        obtain ⟨u0, u1, u3, rfl, m0, m1, m3⟩ := hr4.form
        obtain ⟨A4, c4, rfl, -⟩ := m0.form
        obtain ⟨L4, e4, rfl, -⟩ := m1.form
        obtain ⟨C4, f4, rfl, -⟩ := m3.form
        have hq := (hb4.block (w.heap.size + 1) (heap_lt HQ3.out)).trans HQ3.out
        have HQ4 := Lib.hid hq
        have q0 : w4.cell? ⟨w.heap.size + 1, 0, none⟩ = some (.slice none 0 0) := by rw [cell_of_row _ _ _ _ _ _ hq]; rfl
        have q1 : w4.cell? ⟨w.heap.size + 1, 1, none⟩ = some (.slice none 0 0) := by rw [cell_of_row _ _ _ _ _ _ hq]; rfl
        have q2 : w4.cell? ⟨w.heap.size + 1, 2, none⟩ = some (.int .i64 0) := by rw [cell_of_row _ _ _ _ _ _ hq]; rfl
        have q3 : w4.cell? ⟨w.heap.size + 1, 3, none⟩ = some (.slice none 0 0) := by rw [cell_of_row _ _ _ _ _ _ hq]; rfl
        have q4 : w4.cell? ⟨w.heap.size + 1, 4, none⟩ = some (.bool false) := by rw [cell_of_row _ _ _ _ _ _ hq]; rfl
        have qf0 : w4.frozen? ⟨w.heap.size + 1, 0, none⟩ = false := by simp [World.frozen?, hq]
        have qf1 : w4.frozen? ⟨w.heap.size + 1, 1, none⟩ = false := by simp [World.frozen?, hq]
        have qf2 : w4.frozen? ⟨w.heap.size + 1, 2, none⟩ = false := by simp [World.frozen?, hq]
        have qf3 : w4.frozen? ⟨w.heap.size + 1, 3, none⟩ = false := by simp [World.frozen?, hq]
        have qf4 : w4.frozen? ⟨w.heap.size + 1, 4, none⟩ = false := by simp [World.frozen?, hq]
        have HB4 := Lib.hid (HB3.out.trans (hb4.mono HB3.out.size))
        have HST7 := Lib.hid (show rstepX d F = (crashD d x.keep x.torn, [], 7) by rw [HFX.out]; exact if_pos HEQ.out)
        clear hq hb4 hr4 m0 m1 m3
        generalize (crashD d x.keep x.torn) = dc at q0 HR4 HST7 ⊢
        obtain ⟨sl, hsl⟩ : ∃ n, dc.sure.length = n := ⟨_, rfl⟩
        obtain ⟨ll, hll⟩ : ∃ n, dc.loose.length = n := ⟨_, rfl⟩
        have HSL := Lib.hid hsl; have HLL := Lib.hid hll
        rw [hsl, hll] at HR4 ⊢
        clear hsl hll
        go_wp2_with fail
        have hres := resW_heap HQ4.out (.slice A4 sl c4) (.slice L4 ll e4) (.int .i64 dc.steps) (.slice C4 0 f4) (.bool dc.off)
        have HEND := Lib.hid (resW_below HB4.out (Nat.le_succ _) (.slice A4 sl c4) (.slice L4 ll e4) (.int .i64 dc.steps) (.slice C4 0 f4) (.bool dc.off))
        have r0 := cell_of_row _ _ 0 _ _ _ hres
        have r1 := cell_of_row _ _ 1 _ _ _ hres
        have r2 := cell_of_row _ _ 2 _ _ _ hres
        have r3 := cell_of_row _ _ 3 _ _ _ hres
        have r4 := cell_of_row _ _ 4 _ _ _ hres
        simp only [List.getElem?_toArray, List.getElem?_cons_zero, List.getElem?_cons_succ] at r0 r1 r2 r3 r4
        change bodyPost _ _ _ _ _ (resW w4 (w.heap.size + 1) (.slice A4 sl c4) (.slice L4 ll e4) (.int .i64 dc.steps) (.slice C4 0 f4) (.bool dc.off))
        refine bodyPost_ret (v := .tuple #[.agg #[.slice A4 sl c4, .slice L4 ll e4, .int .i64 dc.steps, .slice C4 0 f4, .bool dc.off], .int .i64 7]) (by simp [results, Try.results56, go_sem, r0, r1, r2, r3, r4]) rfl ?_
        rw [HST7.out]
        exact ⟨_, rfl, HR4.out.res HQ4.out _ _ _ _ _, HEND.out⟩
      · have deq : (x.at_ == d.steps) = false := by simpa using heq
        have HNE := Lib.hid heq
        clear heq
        go_wp2_with fail
        go_roundw
        case rel => exact ⟨1, by have := HM1.out; omega, by have := HI0.out; subst this; rfl, Lib.hid (fun _ => by rw [HFX.out]; exact if_neg HNE.out), HP1, HQ1, HBW1⟩
        case measure => have := HM1.out; have := HI0.out; subst_vars; decide
    · have him : i = m := by omega
      have hst := HST.out him
      have HFIN := Lib.hid hst
      have z4 : ¬ i < m := hlt
      have hq := HQ.out
      have q0 : wr.cell? ⟨w.heap.size + 1, 0, none⟩ = some (.slice none 0 0) := by rw [cell_of_row _ _ _ _ _ _ hq]; rfl
      have q1 : wr.cell? ⟨w.heap.size + 1, 1, none⟩ = some (.slice none 0 0) := by rw [cell_of_row _ _ _ _ _ _ hq]; rfl
      have q2 : wr.cell? ⟨w.heap.size + 1, 2, none⟩ = some (.int .i64 0) := by rw [cell_of_row _ _ _ _ _ _ hq]; rfl
      have q3 : wr.cell? ⟨w.heap.size + 1, 3, none⟩ = some (.slice none 0 0) := by rw [cell_of_row _ _ _ _ _ _ hq]; rfl
      have q4 : wr.cell? ⟨w.heap.size + 1, 4, none⟩ = some (.bool false) := by rw [cell_of_row _ _ _ _ _ _ hq]; rfl
      have qf0 : wr.frozen? ⟨w.heap.size + 1, 0, none⟩ = false := by simp [World.frozen?, hq]
      have qf1 : wr.frozen? ⟨w.heap.size + 1, 1, none⟩ = false := by simp [World.frozen?, hq]
      have qf2 : wr.frozen? ⟨w.heap.size + 1, 2, none⟩ = false := by simp [World.frozen?, hq]
      have qf3 : wr.frozen? ⟨w.heap.size + 1, 3, none⟩ = false := by simp [World.frozen?, hq]
      have qf4 : wr.frozen? ⟨w.heap.size + 1, 4, none⟩ = false := by simp [World.frozen?, hq]
      clear hq hst him
      go_wp2_with fail
      have hset := HBW.out.setCell (p := ⟨w.heap.size, 2, none⟩) (Nat.le_refl _) (.int .i64 (wrap64 (d.steps + 1)))
      have hres := resW_heap ((Below.heap_setCell wr ⟨w.heap.size, 2, none⟩ (.int .i64 (wrap64 (d.steps + 1))) (w.heap.size + 1) (by simp)).trans HQ.out) (.slice A d.sure.length c) (.slice L d.loose.length e) (.int .i64 (wrap64 (d.steps + 1))) (.slice C m f) (.bool d.off)
      have HEND := Lib.hid (resW_below hset (Nat.le_succ _) (.slice A d.sure.length c) (.slice L d.loose.length e) (.int .i64 (wrap64 (d.steps + 1))) (.slice C m f) (.bool d.off))
      have r0 := cell_of_row _ _ 0 _ _ _ hres
      have r1 := cell_of_row _ _ 1 _ _ _ hres
      have r2 := cell_of_row _ _ 2 _ _ _ hres
      have r3 := cell_of_row _ _ 3 _ _ _ hres
      have r4 := cell_of_row _ _ 4 _ _ _ hres
      simp only [List.getElem?_toArray, List.getElem?_cons_zero, List.getElem?_cons_succ] at r0 r1 r2 r3 r4
      change bodyPost _ _ _ _ _ (resW (wr.setCell ⟨w.heap.size, 2, none⟩ (.int .i64 (wrap64 (d.steps + 1)))) (w.heap.size + 1) (.slice A d.sure.length c) (.slice L d.loose.length e) (.int .i64 (wrap64 (d.steps + 1))) (.slice C m f) (.bool d.off))
      refine bodyPost_ret (v := .tuple #[.agg #[.slice A d.sure.length c, .slice L d.loose.length e, .int .i64 (wrap64 (d.steps + 1)), .slice C m f, .bool d.off], .int .i64 0]) (by simp [results, Try.results56, go_sem, r0, r1, r2, r3, r4]) rfl ?_
      rw [HFIN.out]
      have hH3 := H3.out
      rw [HM.out] at hH3
      exact ⟨_, rfl, ⟨_, _, _, rfl, H0.out.on HEND.out, H1.out.on HEND.out, hH3.on HEND.out⟩, HEND.out⟩

end Go.Proofs.Ytbdjdeddghdefaa
