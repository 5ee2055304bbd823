/- the document's device: Flush -/
import Derived.Test.YtbdjdeddghdefaaRfD
namespace Go.Proofs.Ytbdjdeddghdefaa
open Go.ChangeShapes Go.WideShapes Go.ChangeAt Go.RowKit

/-- all that is loose, laid one behind the other -/
def setL (l : List (Nat × Sec)) (u : List Sec) : List Sec := l.foldl (fun u p => u.set p.1 p.2) u

theorem setL_len : ∀ (l : List (Nat × Sec)) (u : List Sec), (setL l u).length = u.length
  | [], _ => rfl
  | p :: r, u => by show (setL r (u.set p.1 p.2)).length = _; rw [setL_len r, List.length_set]

theorem setL_flush : ∀ {l : List (Nat × Sec)} (_ : RisL l) (u : List Sec), setL l u = flushP (fun _ => false) l u
  | [], _, u => by show u = _; exact (flushP_start (l := []) (left := fun _ => false) (fun i => rfl) u).symm
  | (a, s) :: r, h, u => by
    have hr : RisL r := (List.pairwise_cons.1 h).2
    have hn : getL a r = none := getL_none fun p hp e => by have := (List.pairwise_cons.1 h).1 p hp; simp only at this; omega
    show setL r (u.set a s) = _
    rw [setL_flush hr]
    apply List.ext_getElem?
    intro i
    simp only [flushP, List.getElem?_mapIdx, List.getElem?_set]
    by_cases hi : a = i
    · subst hi
      rw [if_pos rfl, hn]
      by_cases hl : a < u.length
      · simp [hl, getL]
      · simp [hl]
    · rw [if_neg hi]
      have : getL i ((a, s) :: r) = getL i r := by simp [getL, Ne.symm hi]
      rw [this]

theorem rstep_cases (d : Dv) (F : List Fal) : (∃ F1, rstepX d F = ({ d with steps := wrap64 (d.steps + 1) }, F1, 0)) ∨ (∃ d1 F1, rstepX d F = (d1, F1, 7)) := by
  cases F with
  | nil => exact .inl ⟨[], rfl⟩
  | cons f r =>
    by_cases h : f.at_ = d.steps
    · exact .inr ⟨_, _, if_pos h⟩
    · exact .inl ⟨f :: r, if_neg h⟩

/-- a flush -/
def rflushX (d : Dv) (F : List Fal) : Dv × List Fal × Int :=
  if d.off then (d, F, 7) else if (rstepX d F).2.2 = 0 then ({ (rstepX d F).1 with sure := setL (rstepX d F).1.loose (rstepX d F).1.sure, loose := [] }, (rstepX d F).2.1, 0) else rstepX d F

theorem RfAt.parts {w : World} {v0 v1 v3 x y : Value} {d : Dv} {F : List Fal} (h : RfAt w (.agg #[v0, v1, x, v3, y]) d F) : SeenT w v0 d.sure ∧ SeenL w v1 d.loose ∧ InF w v3 F := by
  obtain ⟨a0, a1, a3, e, h0, h1, h3⟩ := h.form
  simp only [Value.agg.injEq, Array.mk.injEq, List.cons.injEq, and_true] at e
  obtain ⟨rfl, rfl, -, rfl, -⟩ := e
  exact ⟨h0, h1, h3⟩

/-- one cell of a box -/
theorem RfAt.setb {w : World} {v : Value} {d : Dv} {F : List Fal} (h : RfAt w v d F) {b : Nat} {T : TypeId} {A L C : Option Addr} {n c m e k f : Nat} {s : Int} {o : Bool} (hp : w.heap[b]? = some (.cells #[.slice A n c, .slice L m e, .int .i64 s, .slice C k f, .bool o] T (0, 0))) (j : Nat) (x : Value) :
    RfAt (w.setCell ⟨b, j, none⟩ x) v d F := by
  obtain ⟨v0, v1, v3, hv, h0, h1, h3⟩ := h.form
  have far : ∀ {g o : Nat}, g ≠ b → (w.setCell ⟨b, j, none⟩ x).cell? ⟨g, o, none⟩ = w.cell? ⟨g, o, none⟩ := fun {g o} hg => World.cell?_setCell_far w ⟨b, j, none⟩ ⟨g, o, none⟩ x (Ne.symm hg)
  refine ⟨v0, v1, v3, hv, ?_, ?_, ?_⟩
  · obtain ⟨A, cap, e1, e2, hx⟩ := h0.form
    refine ⟨A, cap, e1, e2, fun i s hs => ?_⟩
    obtain ⟨g, o, hA, hy⟩ := hx i s hs
    exact ⟨g, o, hA, (far (by rintro rfl; exact bool_row hp _ _ hy)).trans hy⟩
  · obtain ⟨A, cap, e1, e2, hx⟩ := h1.form
    refine ⟨A, cap, e1, e2, fun i s hs => ?_⟩
    obtain ⟨g, o, hA, hy, hz⟩ := hx i s hs
    have hg : g ≠ b := by rintro rfl; exact bool_row hp _ _ hz
    exact ⟨g, o, hA, (far hg).trans hy, (far hg).trans hz⟩
  · obtain ⟨A, cap, e1, hx⟩ := h3.form
    refine ⟨A, cap, e1, fun i s hs => ?_⟩
    obtain ⟨g, o, hA, hk, hx0, hx1, hx2⟩ := hx i s hs
    have hg : g ≠ b := by rintro rfl; exact u64_row hp _ _ hx1
    exact ⟨g, o, hA, hk, (far hg).trans hx0, (far hg).trans hx1, (far hg).trans hx2⟩

/-- a device whose three slices are seen as slices -/
theorem RfAt.open_ {w : World} {v : Value} {d : Dv} {F : List Fal} (h : RfAt w v d F) : ∃ A c L e C f, v = .agg #[.slice A d.sure.length c, .slice L d.loose.length e, .int .i64 d.steps, .slice C F.length f, .bool d.off] := by
  obtain ⟨v0, v1, v3, rfl, h0, h1, h3⟩ := h.form
  obtain ⟨A, c, rfl, -⟩ := h0.form
  obtain ⟨L, e, rfl, -⟩ := h1.form
  obtain ⟨C, f, rfl, -⟩ := h3.form
  exact ⟨A, c, L, e, C, f, rfl⟩

theorem resW_other (w : World) {b g : Nat} (hg : g ≠ b) (v0 v1 v2 v3 v4 : Value) : (resW w b v0 v1 v2 v3 v4).heap[g]? = w.heap[g]? :=
  (Below.heap_setCell _ ⟨b, 4, none⟩ v4 g hg).trans ((Below.heap_setCell _ ⟨b, 3, none⟩ v3 g hg).trans ((Below.heap_setCell _ ⟨b, 2, none⟩ v2 g hg).trans ((Below.heap_setCell _ ⟨b, 1, none⟩ v1 g hg).trans (Below.heap_setCell _ ⟨b, 0, none⟩ v0 g hg))))

theorem rf_drew (w : World) : Below w.heap.size w w.drew := (Below.refl w.heap.size w).drew

set_option maxHeartbeats 4000000 in
set_option maxRecDepth 100000 in
theorem rfflush_any {w : World} {v : Value} {d : Dv} {F : List Fal} (h : RfAt w v d F) (hF : F.length ≤ 1) (hl : d.loose.length ≤ 100000) (hs : d.sure.length ≤ 65536)
    (hin : ∀ p ∈ d.loose, p.1 < d.sure.length ∧ p.2.length = 128) (hb : ∀ s ∈ d.sure, s.length = 128) :
    Calls Try.prog 35 #[v] w fun e w' => ∃ v', e = .returned (.tuple #[v', .int .i64 (rflushX d F).2.2]) ∧ RfAt w' v' (rflushX d F).1 (rflushX d F).2.1 ∧ Below w.heap.size w w' := by
  obtain ⟨A, c, L, e, C, f, rfl⟩ := h.open_
  have H := Lib.hid h
  have HIN := Lib.hid hin; have HBY := Lib.hid hb
  clear h hin hb
  have hB := (((Below.refl w.heap.size w).alloc (Nat.le_refl _) (.cells #[.slice A d.sure.length c, .slice L d.loose.length e, .int .i64 d.steps, .slice C F.length f, .bool d.off] 31)).alloc (((Below.refl w.heap.size w).alloc (Nat.le_refl _) (.cells #[.slice A d.sure.length c, .slice L d.loose.length e, .int .i64 d.steps, .slice C F.length f, .bool d.off] 31)).size) (.cells #[.slice none 0 0, .slice none 0 0, .int .i64 0, .slice none 0 0, .bool false] 31))
  have HB := Lib.hid hB
  have hbx := heap_alloc_last (w.alloc (.cells #[.slice A d.sure.length c, .slice L d.loose.length e, .int .i64 d.steps, .slice C F.length f, .bool d.off] 31)) (.cells #[.slice none 0 0, .slice none 0 0, .int .i64 0, .slice none 0 0, .bool false] 31)
  have hb0 := (((Below.refl _ _).alloc (Nat.le_refl _) (.cells #[.slice none 0 0, .slice none 0 0, .int .i64 0, .slice none 0 0, .bool false] 31)).block w.heap.size (by simp)).trans (heap_alloc_last w (.cells #[.slice A d.sure.length c, .slice L d.loose.length e, .int .i64 d.steps, .slice C F.length f, .bool d.off] 31))
  rw [World.size_alloc] at hbx
  have HX0 := Lib.hid hb0; have HX1 := Lib.hid hbx
  clear hB hbx hb0
  cases ho : d.off
  · rw [ho] at HB HX0 HX1 H
    have h0 : RfAt w _ d F := ho ▸ H.out
    have hst1 := rfstep_any (d := d) (F := F) (h0.on HB.out) hF hl hs HIN.out HBY.out
    rw [ho] at hst1
    rcases rstep_cases d F with ⟨F1, hst⟩ | ⟨d1, F1, hst⟩
    · generalize hsv : wrap64 (d.steps + 1) = st at hst
      have hd : ({ d with steps := st } : Dv) = { d with steps := st, off := false } := by rw [← ho]
      rw [hd] at hst
      have HFLU := Lib.hid (show rflushX d F = ({ d with sure := setL d.loose d.sure, loose := [], steps := st, off := false }, F1, 0) by unfold rflushX; rw [if_neg (by rw [ho]; simp), hst]; rfl)
      rw [hst] at hst1
      go_enter Try.func35, Try.ntmps35
      go_wp2_with fail
      refine hst1.mono ?_
      rintro e0 w1 ⟨v1, rfl, hr1, hb1⟩
      obtain ⟨A1, c1, L1, e1, C1, f1, rfl⟩ : ∃ A1 c1 L1 e1 C1 f1, v1 = .agg #[.slice A1 d.sure.length c1, .slice L1 d.loose.length e1, .int .i64 st, .slice C1 F1.length f1, .bool false] := hr1.open_
      have hp := (hb1.block (w.heap.size) (heap_lt HX0.out)).trans HX0.out
      have hq := (hb1.block (w.heap.size + 1) (heap_lt HX1.out)).trans HX1.out
      have HP1 := Lib.hid hp; have HQ1 := Lib.hid hq; have HR1 := Lib.hid hr1; have HB1 := Lib.hid (HB.out.trans (hb1.mono HB.out.size))
      have p0 : w1.cell? ⟨w.heap.size, 0, none⟩ = some (.slice A d.sure.length c) := by rw [cell_of_row _ _ _ _ _ _ hp]; rfl
      have p1 : w1.cell? ⟨w.heap.size, 1, none⟩ = some (.slice L d.loose.length e) := by rw [cell_of_row _ _ _ _ _ _ hp]; rfl
      have p2 : w1.cell? ⟨w.heap.size, 2, none⟩ = some (.int .i64 d.steps) := by rw [cell_of_row _ _ _ _ _ _ hp]; rfl
      have p3 : w1.cell? ⟨w.heap.size, 3, none⟩ = some (.slice C F.length f) := by rw [cell_of_row _ _ _ _ _ _ hp]; rfl
      have p4 : w1.cell? ⟨w.heap.size, 4, none⟩ = some (.bool false) := by rw [cell_of_row _ _ _ _ _ _ hp]; rfl
      have pf0 : w1.frozen? ⟨w.heap.size, 0, none⟩ = false := by simp [World.frozen?, hp]
      have pf1 : w1.frozen? ⟨w.heap.size, 1, none⟩ = false := by simp [World.frozen?, hp]
      have pf2 : w1.frozen? ⟨w.heap.size, 2, none⟩ = false := by simp [World.frozen?, hp]
      have pf3 : w1.frozen? ⟨w.heap.size, 3, none⟩ = false := by simp [World.frozen?, hp]
      have pf4 : w1.frozen? ⟨w.heap.size, 4, none⟩ = false := by simp [World.frozen?, hp]
      clear hp hq hr1 hb1 hst1 hd hst h0 hsv
      go_wp2_with fail
      go_loopw [5] (fun s5 wr => ∃ (i : Nat) (u : List Sec) (A2 : Option Addr) (c2 : Nat), i ≤ d.loose.length ∧ s5 = .int .i64 (i : Int) ∧ Hid (setL (d.loose.drop i) u = setL d.loose d.sure) ∧ Hid (u.length = d.sure.length) ∧ Hid (RfAt wr (.agg #[.slice A2 u.length c2, .slice L1 d.loose.length e1, .int .i64 st, .slice C1 F1.length f1, .bool false]) { d with sure := u, steps := st, off := false } F1) ∧
          Hid (wr.heap[w.heap.size]? = some (.cells #[.slice A2 u.length c2, .slice L1 d.loose.length e1, .int .i64 st, .slice C1 F1.length f1, .bool false] 31 (0, 0))) ∧ Hid (wr.heap[w.heap.size + 1]? = some (.cells #[.slice none 0 0, .slice none 0 0, .int .i64 0, .slice none 0 0, .bool false] 31 (0, 0))) ∧ Hid (Below w.heap.size w wr)) (fun s5 _ => d.loose.length - (intOf s5).toNat)
      case atStart => exact ⟨0, d.sure, A1, c1, Nat.zero_le _, rfl, Lib.hid rfl, Lib.hid rfl, Lib.hid (HR1.out.res HP1.out (.slice A1 d.sure.length c1) (.slice L1 d.loose.length e1) (.int .i64 st) (.slice C1 F1.length f1) (.bool false)), Lib.hid (resW_heap HP1.out (.slice A1 d.sure.length c1) (.slice L1 d.loose.length e1) (.int .i64 st) (.slice C1 F1.length f1) (.bool false)), Lib.hid ((resW_other w1 (by omega) (.slice A1 d.sure.length c1) (.slice L1 d.loose.length e1) (.int .i64 st) (.slice C1 F1.length f1) (.bool false)).trans HQ1.out), Lib.hid (resW_below HB1.out (Nat.le_refl _) (.slice A1 d.sure.length c1) (.slice L1 d.loose.length e1) (.int .i64 st) (.slice C1 F1.length f1) (.bool false))⟩
      case round =>
        clear p0 p1 p2 p3 p4 pf0 pf1 pf2 pf3 pf4
        obtain ⟨i, u, A2, c2, hi, rfl, HST, HUL, HR, HP, HQ, HBW⟩ := hrel
        have hp := HP.out
        have p0 : wr.cell? ⟨w.heap.size, 0, none⟩ = some (.slice A2 u.length c2) := by rw [cell_of_row _ _ _ _ _ _ hp]; rfl
        have p1 : wr.cell? ⟨w.heap.size, 1, none⟩ = some (.slice L1 d.loose.length e1) := by rw [cell_of_row _ _ _ _ _ _ hp]; rfl
        have p2 : wr.cell? ⟨w.heap.size, 2, none⟩ = some (.int .i64 st) := by rw [cell_of_row _ _ _ _ _ _ hp]; rfl
        have p3 : wr.cell? ⟨w.heap.size, 3, none⟩ = some (.slice C1 F1.length f1) := by rw [cell_of_row _ _ _ _ _ _ hp]; rfl
        have p4 : wr.cell? ⟨w.heap.size, 4, none⟩ = some (.bool false) := by rw [cell_of_row _ _ _ _ _ _ hp]; rfl
        have pf0 : wr.frozen? ⟨w.heap.size, 0, none⟩ = false := by simp [World.frozen?, hp]
        have pf1 : wr.frozen? ⟨w.heap.size, 1, none⟩ = false := by simp [World.frozen?, hp]
        clear hp
        by_cases hlt : i < d.loose.length
        · obtain ⟨sT, sL, sF⟩ := HR.out.parts
          obtain ⟨L', e', hv, -, hx⟩ := sL.form
          simp only [Value.slice.injEq, true_and] at hv
          obtain ⟨rfl, rfl⟩ := hv
          obtain ⟨g, o, rfl, k0, k1⟩ := hx i d.loose[i] (List.getElem?_eq_getElem hlt)
          have HST1 := HST.out
          have hdr : d.loose.drop i = d.loose[i] :: d.loose.drop (i + 1) := List.drop_eq_getElem_cons hlt
          rw [hdr] at HST1
          have z2 : (i : Int) < (d.loose.length : Int) := by omega
          obtain ⟨ha, hs8⟩ := HIN.out _ (List.getElem_mem hlt)
          have HM := Lib.hid (read_meas d.loose.length i hlt)
          generalize d.loose[i] = q at k0 k1 ha hs8 HST1
          obtain ⟨a, s⟩ := q
          simp only at k0 k1 ha hs8
          have HST2 := Lib.hid (show setL (d.loose.drop (i + 1)) (u.set a s) = setL d.loose d.sure from HST1)
          have hau : a < u.length := by rw [HUL.out]; exact ha
          have HSN := Lib.hid sT
          clear hx hdr sT sL sF HST1
          go_upto_region 9 with fail
          refine region_tail 14 (by kernel_rfl) (by kernel_rfl) ?_
          simp only [List.take_succ_cons, List.take_zero, List.drop_succ_cons, List.drop_zero]
          repeat still_step
          refine wpStill_nil ?_
          go_wp2_with fail
          refine (rflaid_any (HSN.out.on (rf_drew _)) (by rw [HUL.out]; exact hs) a hau s).mono ?_
          rintro e2 w2 ⟨v2, rfl, htb⟩
          obtain ⟨A3, c3, rfl, -, -⟩ := htb.texts.form
          have hbw2 := (rf_drew wr).trans (htb.below.mono (rf_drew wr).size)
          have hp2 := (hbw2.block w.heap.size (heap_lt HP.out)).trans HP.out
          have hq2 := (hbw2.block (w.heap.size + 1) (heap_lt HQ.out)).trans HQ.out
          have c20 : w2.cell? ⟨w.heap.size, 0, none⟩ = some (.slice A2 u.length c2) := by rw [cell_of_row _ _ _ _ _ _ hp2]; rfl
          have f20 : w2.frozen? ⟨w.heap.size, 0, none⟩ = false := by simp [World.frozen?, hp2]
          have HP2 := Lib.hid hp2; have HQ2 := Lib.hid hq2; have HB2 := Lib.hid hbw2; have HTB := Lib.hid htb; have HLT := Lib.hid (heap_lt HP.out)
          clear hp2 hq2 hbw2 htb
          go_wp2_with fail
          go_roundw
          case rel =>
            have hk := ((HR.out.on HB2.out).setb HP2.out 0 (.slice A3 u.length c3)).parts
            have hnew : SeenT (w2.setCell ⟨w.heap.size, 0, none⟩ (.slice A3 u.length c3)) (.slice A3 (u.set a s).length c3) (u.set a s) := HTB.out.seen_far (by have := HLT.out; exact this) _
            rw [List.length_set] at hnew
            refine ⟨i + 1, u.set a s, A3, c3, hlt, by go_num, HST2, Lib.hid (by rw [List.length_set]; exact HUL.out), Lib.hid ⟨_, _, _, rfl, by rw [List.length_set]; exact hnew, hk.2.1, hk.2.2⟩, Lib.hid (by rw [List.length_set]; exact Go.heap_setCell_same w2 w.heap.size 0 _ _ (.slice A3 u.length c3) HP2.out), Lib.hid ((Below.heap_setCell _ _ _ _ (by simp)).trans HQ2.out), Lib.hid ((HBW.out.trans (HB2.out.mono HBW.out.size)).setCell (p := ⟨w.heap.size, 0, none⟩) (Nat.le_refl _) _)⟩
          case measure => exact HM.out
        · have hend : i = d.loose.length := by omega
          have HFIN := Lib.hid (show u = setL d.loose d.sure by rw [← HST.out, hend, List.drop_length]; rfl)
          have z4 : ¬ i < d.loose.length := hlt
          have hq := HQ.out
          have q0 : wr.cell? ⟨w.heap.size + 1, 0, none⟩ = some (.slice none 0 0) := by rw [cell_of_row _ _ _ _ _ _ hq]; rfl
          have q1 : wr.cell? ⟨w.heap.size + 1, 1, none⟩ = some (.slice none 0 0) := by rw [cell_of_row _ _ _ _ _ _ hq]; rfl
          have q2 : wr.cell? ⟨w.heap.size + 1, 2, none⟩ = some (.int .i64 0) := by rw [cell_of_row _ _ _ _ _ _ hq]; rfl
          have q3 : wr.cell? ⟨w.heap.size + 1, 3, none⟩ = some (.slice none 0 0) := by rw [cell_of_row _ _ _ _ _ _ hq]; rfl
          have q4 : wr.cell? ⟨w.heap.size + 1, 4, none⟩ = some (.bool false) := by rw [cell_of_row _ _ _ _ _ _ hq]; rfl
          have qf0 : wr.frozen? ⟨w.heap.size + 1, 0, none⟩ = false := by simp [World.frozen?, hq]
          have qf1 : wr.frozen? ⟨w.heap.size + 1, 1, none⟩ = false := by simp [World.frozen?, hq]
          have qf2 : wr.frozen? ⟨w.heap.size + 1, 2, none⟩ = false := by simp [World.frozen?, hq]
          have qf3 : wr.frozen? ⟨w.heap.size + 1, 3, none⟩ = false := by simp [World.frozen?, hq]
          have qf4 : wr.frozen? ⟨w.heap.size + 1, 4, none⟩ = false := by simp [World.frozen?, hq]
          clear hq hend
          go_wp2_with fail
          have hres := resW_heap ((Below.heap_setCell wr ⟨w.heap.size, 1, none⟩ (.slice none 0 0) (w.heap.size + 1) (by simp)).trans HQ.out) (.slice A2 u.length c2) (.slice none 0 0) (.int .i64 st) (.slice C1 F1.length f1) (.bool false)
          have HEND := Lib.hid (resW_below (HBW.out.setCell (p := ⟨w.heap.size, 1, none⟩) (Nat.le_refl _) (.slice none 0 0)) (Nat.le_succ _) (.slice A2 u.length c2) (.slice none 0 0) (.int .i64 st) (.slice C1 F1.length f1) (.bool false))
          have r0 := cell_of_row _ _ 0 _ _ _ hres
          have r1 := cell_of_row _ _ 1 _ _ _ hres
          have r2 := cell_of_row _ _ 2 _ _ _ hres
          have r3 := cell_of_row _ _ 3 _ _ _ hres
          have r4 := cell_of_row _ _ 4 _ _ _ hres
          simp only [List.getElem?_toArray, List.getElem?_cons_zero, List.getElem?_cons_succ] at r0 r1 r2 r3 r4
          change bodyPost _ _ _ _ _ (resW (wr.setCell ⟨w.heap.size, 1, none⟩ (.slice none 0 0)) (w.heap.size + 1) (.slice A2 u.length c2) (.slice none 0 0) (.int .i64 st) (.slice C1 F1.length f1) (.bool false))
          refine bodyPost_ret (v := .tuple #[.agg #[.slice A2 u.length c2, .slice none 0 0, .int .i64 st, .slice C1 F1.length f1, .bool false], .int .i64 0]) (by simp [results, Try.results35, go_sem, r0, r1, r2, r3, r4]) rfl ?_
          have hk := ((HR.out.setb HP.out 1 (.slice none 0 0)).res ((Below.heap_setCell wr ⟨w.heap.size, 1, none⟩ (.slice none 0 0) (w.heap.size + 1) (by simp)).trans HQ.out) (.slice A2 u.length c2) (.slice none 0 0) (.int .i64 st) (.slice C1 F1.length f1) (.bool false)).parts
          rw [HFLU.out]
          exact ⟨_, rfl, ⟨_, _, _, rfl, HFIN.out ▸ hk.1, SeenL.nil _, hk.2.2⟩, HEND.out⟩
    · have HFLU := Lib.hid (show rflushX d F = (d1, F1, 7) by unfold rflushX; rw [if_neg (by rw [ho]; simp), hst]; rfl)
      rw [hst] at hst1
      go_enter Try.func35, Try.ntmps35
      go_wp2_with fail
      refine hst1.mono ?_
      rintro e0 w1 ⟨v1, rfl, hr1, hb1⟩
      obtain ⟨A1, c1, L1, e1, C1, f1, rfl⟩ := hr1.open_
      have hp := (hb1.block (w.heap.size) (heap_lt HX0.out)).trans HX0.out
      have hq := (hb1.block (w.heap.size + 1) (heap_lt HX1.out)).trans HX1.out
      have HP1 := Lib.hid hp; have HQ1 := Lib.hid hq; have HR1 := Lib.hid hr1; have HB1 := Lib.hid (HB.out.trans (hb1.mono HB.out.size))
      have p0 : w1.cell? ⟨w.heap.size, 0, none⟩ = some (.slice A d.sure.length c) := by rw [cell_of_row _ _ _ _ _ _ hp]; rfl
      have p1 : w1.cell? ⟨w.heap.size, 1, none⟩ = some (.slice L d.loose.length e) := by rw [cell_of_row _ _ _ _ _ _ hp]; rfl
      have p2 : w1.cell? ⟨w.heap.size, 2, none⟩ = some (.int .i64 d.steps) := by rw [cell_of_row _ _ _ _ _ _ hp]; rfl
      have p3 : w1.cell? ⟨w.heap.size, 3, none⟩ = some (.slice C F.length f) := by rw [cell_of_row _ _ _ _ _ _ hp]; rfl
      have p4 : w1.cell? ⟨w.heap.size, 4, none⟩ = some (.bool false) := by rw [cell_of_row _ _ _ _ _ _ hp]; rfl
      have pf0 : w1.frozen? ⟨w.heap.size, 0, none⟩ = false := by simp [World.frozen?, hp]
      have pf1 : w1.frozen? ⟨w.heap.size, 1, none⟩ = false := by simp [World.frozen?, hp]
      have pf2 : w1.frozen? ⟨w.heap.size, 2, none⟩ = false := by simp [World.frozen?, hp]
      have pf3 : w1.frozen? ⟨w.heap.size, 3, none⟩ = false := by simp [World.frozen?, hp]
      have pf4 : w1.frozen? ⟨w.heap.size, 4, none⟩ = false := by simp [World.frozen?, hp]
      have q0 : w1.cell? ⟨w.heap.size + 1, 0, none⟩ = some (.slice none 0 0) := by rw [cell_of_row _ _ _ _ _ _ hq]; rfl
      have q1 : w1.cell? ⟨w.heap.size + 1, 1, none⟩ = some (.slice none 0 0) := by rw [cell_of_row _ _ _ _ _ _ hq]; rfl
      have q2 : w1.cell? ⟨w.heap.size + 1, 2, none⟩ = some (.int .i64 0) := by rw [cell_of_row _ _ _ _ _ _ hq]; rfl
      have q3 : w1.cell? ⟨w.heap.size + 1, 3, none⟩ = some (.slice none 0 0) := by rw [cell_of_row _ _ _ _ _ _ hq]; rfl
      have q4 : w1.cell? ⟨w.heap.size + 1, 4, none⟩ = some (.bool false) := by rw [cell_of_row _ _ _ _ _ _ hq]; rfl
      have qf0 : w1.frozen? ⟨w.heap.size + 1, 0, none⟩ = false := by simp [World.frozen?, hq]
      have qf1 : w1.frozen? ⟨w.heap.size + 1, 1, none⟩ = false := by simp [World.frozen?, hq]
      have qf2 : w1.frozen? ⟨w.heap.size + 1, 2, none⟩ = false := by simp [World.frozen?, hq]
      have qf3 : w1.frozen? ⟨w.heap.size + 1, 3, none⟩ = false := by simp [World.frozen?, hq]
      have qf4 : w1.frozen? ⟨w.heap.size + 1, 4, none⟩ = false := by simp [World.frozen?, hq]
      clear hp hq hr1 hb1 hst1 hst h0
      simp only at HR1 HFLU ⊢
      generalize d1.sure.length = n1 at HR1 ⊢
      generalize d1.loose.length = m1 at HR1 ⊢
      generalize F1.length = k1 at HR1 ⊢
      go_wp2_with fail
      have hres := resW_heap ((resW_other w1 (show w.heap.size + 1 ≠ w.heap.size by omega) (.slice A1 n1 c1) (.slice L1 m1 e1) (.int .i64 d1.steps) (.slice C1 k1 f1) (.bool d1.off)).trans HQ1.out) (.slice A1 n1 c1) (.slice L1 m1 e1) (.int .i64 d1.steps) (.slice C1 k1 f1) (.bool d1.off)
      have HEND := Lib.hid (resW_below (resW_below HB1.out (Nat.le_refl _) (.slice A1 n1 c1) (.slice L1 m1 e1) (.int .i64 d1.steps) (.slice C1 k1 f1) (.bool d1.off)) (Nat.le_succ _) (.slice A1 n1 c1) (.slice L1 m1 e1) (.int .i64 d1.steps) (.slice C1 k1 f1) (.bool d1.off))
      have r0 := cell_of_row _ _ 0 _ _ _ hres
      have r1 := cell_of_row _ _ 1 _ _ _ hres
      have r2 := cell_of_row _ _ 2 _ _ _ hres
      have r3 := cell_of_row _ _ 3 _ _ _ hres
      have r4 := cell_of_row _ _ 4 _ _ _ hres
      simp only [List.getElem?_toArray, List.getElem?_cons_zero, List.getElem?_cons_succ] at r0 r1 r2 r3 r4
      change bodyPost _ _ _ _ _ (resW (resW w1 w.heap.size (.slice A1 n1 c1) (.slice L1 m1 e1) (.int .i64 d1.steps) (.slice C1 k1 f1) (.bool d1.off)) (w.heap.size + 1) (.slice A1 n1 c1) (.slice L1 m1 e1) (.int .i64 d1.steps) (.slice C1 k1 f1) (.bool d1.off))
      refine bodyPost_ret (v := .tuple #[.agg #[.slice A1 n1 c1, .slice L1 m1 e1, .int .i64 d1.steps, .slice C1 k1 f1, .bool d1.off], .int .i64 7]) (by simp [results, Try.results35, go_sem, r0, r1, r2, r3, r4]) rfl ?_
      rw [HFLU.out]
      exact ⟨_, rfl, (HR1.out.res HP1.out (.slice A1 n1 c1) (.slice L1 m1 e1) (.int .i64 d1.steps) (.slice C1 k1 f1) (.bool d1.off)).res ((resW_other w1 (show w.heap.size + 1 ≠ w.heap.size by omega) (.slice A1 n1 c1) (.slice L1 m1 e1) (.int .i64 d1.steps) (.slice C1 k1 f1) (.bool d1.off)).trans HQ1.out) _ _ _ _ _, HEND.out⟩
  · rw [ho] at H
    clear HB HX0 HX1
    have HB := Lib.hid ((((Below.refl w.heap.size w).alloc (Nat.le_refl _) (.cells #[.slice A d.sure.length c, .slice L d.loose.length e, .int .i64 d.steps, .slice C F.length f, .bool true] 31)).alloc (((Below.refl w.heap.size w).alloc (Nat.le_refl _) (.cells #[.slice A d.sure.length c, .slice L d.loose.length e, .int .i64 d.steps, .slice C F.length f, .bool true] 31)).size) (.cells #[.slice A d.sure.length c, .slice L d.loose.length e, .int .i64 d.steps, .slice C F.length f, .bool true] 31)))
    go_enter Try.func35, Try.ntmps35
    go_wp2_with fail
    have hflu : rflushX d F = (d, F, 7) := if_pos ho
    refine bodyPost_ret (v := .tuple #[.agg #[.slice A d.sure.length c, .slice L d.loose.length e, .int .i64 d.steps, .slice C F.length f, .bool true], .int .i64 7]) (by simp [results, Try.results35, go_sem]) rfl ?_
    rw [hflu]
    exact ⟨_, rfl, H.out.on HB.out, HB.out⟩

end Go.Proofs.Ytbdjdeddghdefaa
