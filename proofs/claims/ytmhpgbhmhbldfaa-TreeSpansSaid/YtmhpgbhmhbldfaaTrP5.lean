/- the first key -/
import Derived.Test.YtmhpgbhmhbldfaaTrP3
namespace Go.Proofs.Ytmhpgbhmhbldfaa
open Go.ChangeShapes Go.WideShapes Go.ChangeAt Go.RowKit Go.Shelf

attribute [local go_sem] Oper.semAt_some

set_option maxHeartbeats 4000000 in
set_option maxRecDepth 100000 in
theorem put_first {w : World} {t M G next : Nat} {lent : Bool} {k : ByteArray} (h : IsT w t (some M) (some G) 0 next lent) (hM : OwnU w M VNo []) (hG : OwnU w G VGo ([] : List (Nat × Unit))) (hne : M ≠ G) (h1 : 1 ≤ next) (hn : next < 500000) :
    Calls Try.prog 20 #[.pointer (some ⟨t, 0, none⟩), .slice none 0 0, .string k] w (PutEnd w t M G lent (.mk next [k] [], next + 1)) := by
  obtain ⟨W0, hW0⟩ : ∃ W0, w.alloc (.cells #[.pointer (some ⟨t, 0, none⟩)] 24) = W0 := ⟨_, rfl⟩
  obtain ⟨W1, hW1⟩ : ∃ W1, W0.alloc (.cells #[.string k] 9) = W1 := ⟨_, rfl⟩
  obtain ⟨W2, hW2⟩ : ∃ W2, W1.alloc (.cells #[.int .u64 0] 26) = W2 := ⟨_, rfl⟩
  have hb0 : Below w.heap.size w W0 := hW0 ▸ (Below.refl _ _).alloc (Nat.le_refl _) _
  have hb01 : Below W0.heap.size W0 W1 := hW1 ▸ (Below.refl _ _).alloc (Nat.le_refl _) _
  have hb12 : Below W1.heap.size W1 W2 := hW2 ▸ (Below.refl _ _).alloc (Nat.le_refl _) _
  have hz0 : W0.heap.size = w.heap.size + 1 := by rw [← hW0]; simp
  have hz1 : W1.heap.size = w.heap.size + 2 := by rw [← hW1, World.size_alloc, hz0]
  have hz2 : W2.heap.size = w.heap.size + 3 := by rw [← hW2, World.size_alloc, hz1]
  have hb02 := hb01.trans (hb12.mono hb01.size)
  have hb2 : Below w.heap.size w W2 := hb0.trans (hb02.mono hb0.size)
  have hx3 : W2.heap[w.heap.size]? = some (.cells #[.pointer (some ⟨t, 0, none⟩)] 24 (0, 0)) := (hb02.block _ (by omega)).trans (hW0 ▸ heap_alloc_new w _)
  have hx5 : W2.heap[W0.heap.size]? = some (.cells #[.string k] 9 (0, 0)) := (hb12.block _ (by omega)).trans (hW1 ▸ heap_alloc_new W0 _)
  have hx6 : W2.heap[W1.heap.size]? = some (.cells #[.int .u64 ((0 : Nat) : Int)] 26 (0, 0)) := hW2 ▸ heap_alloc_new W1 _
  have hwk : Wk w W2 t M G w.heap.size W0.heap.size W1.heap.size 0 lent [] next k 0 :=
    ⟨h.on hb2 h.cells.2.2, hM.keep (hb2.block _ hM.lt), hG.keep (hb2.block _ hG.lt), hx3, hx5, hx6, (fun p hp => by cases hp), Only.of_below hb2, h1, by decide⟩
  have HI0 : Hid (M < w.heap.size ∧ G < w.heap.size ∧ t < w.heap.size) := Lib.hid ⟨hM.lt, hG.lt, h.cells.2.2⟩
  have HWK := Lib.hid hwk; have HB2 := Lib.hid hb2
  have HZ := Lib.hid (And.intro hz0 (And.intro hz1 hz2))
  clear hwk hb2 hz0 hz1 hz2 h hM hG hb0 hb01 hb12 hb02 hx3 hx5 hx6
  refine (callsIn_wide (n := 5)).1 ?_
  refine callsIn_of_wp_marks Try.func20 rfl trivial ?_ rfl
  simp only [Try.ntmps20, List.size_toArray, List.length_cons, List.length_nil, Nat.reduceAdd, Nat.reduceSub, Array.replicate_succ, Array.replicate_zero, List.push_toArray, List.append_toArray, List.nil_append, List.cons_append]
  obtain ⟨W5, hW5⟩ : ∃ W5, W2.alloc (.cells #[.slice none 0 0] 51) = W5 := ⟨_, rfl⟩
  have HW5 := Lib.hid hW5
  clear hW5
  gi_wp2
  rename_i hKK
  refine ⟨trivial, hKK _ _ ?_⟩
  gi_wp2
  refine ⟨trivial, ((callsIn_wide (n := 4)).2 (backward_c none 0 0 W2)).mono ?_⟩
  rintro e W5' ⟨rfl, e5⟩
  rw [HW5.out] at e5
  subst e5
  gi_wp2
  have hw5 : W2.alloc (.cells #[.slice none 0 0] 51) = W5' := HW5.out
  have hb25 : Below W2.heap.size W2 W5' := hw5 ▸ (Below.refl _ _).alloc (Nat.le_refl _) _
  have hbox : W5'.heap[W2.heap.size]? = some (.cells #[.slice none 0 0] 51 (0, 0)) := hw5 ▸ heap_alloc_new W2 _
  have hbx : W5'.cell? ⟨W2.heap.size, 0, none⟩ = some (.slice none 0 0) := by rw [cell_of_row _ _ _ _ _ _ hbox]; rfl
  have hbl : W2.heap.size < W5'.heap.size := (Array.getElem?_eq_some_iff.1 hbox).1
  have hwk5 : Wk w W5' t M G w.heap.size W0.heap.size W1.heap.size 0 lent [] next k 0 := by
    have q := HWK.out
    have hq := q.tree.cells.2.2
    have q3 := (Array.getElem?_eq_some_iff.1 q.b3).1; have q5 := (Array.getElem?_eq_some_iff.1 q.b5).1; have q6 := (Array.getElem?_eq_some_iff.1 q.b6).1
    exact ⟨q.tree.on hb25 hq, q.map.keep (hb25.block _ q.map.lt), q.gone.keep (hb25.block _ q.gone.lt), (hb25.block _ q3).trans q.b3, (hb25.block _ q5).trans q.b5, (hb25.block _ q6).trans q.b6, q.low, q.only.trans (Only.of_below hb25), q.one, q.rlt⟩
  have hMl : M < w.heap.size := HI0.out.1
  have hGl : G < w.heap.size := HI0.out.2.1
  have htl : t < w.heap.size := HI0.out.2.2
  have hws : w.heap.size ≤ W5'.heap.size := by have := HB2.out.size; have := hb25.size; omega
  refine wpIn_rangeFunc_ownG rfl (by decide) (gf := 51) (lb := #[.pointer (some ⟨W2.heap.size, 0, none⟩)]) rfl trivial (enters_of Try.func51 (by kernel_rfl) rfl)
    (backward_stops (r := []) (m := 0) (fun i => i.elim0) (fun i => i.elim0) W2.heap.size 0 0 none W5' hbl hbx (fun h => absurd h (by decide)) (by omega))
    (fun h k => h.trans k) ?keep (Below.refl _ _) (fun _ => rfl)
    (fun _ W => Wk w W t M G w.heap.size W0.heap.size W1.heap.size 0 lent [] next k 0) (fun _ _ _ => False) (fun pre W W' row hs hg hr => hs.kept hws (by omega) (by omega) hg hr) (fun _ _ _ _ _ hs _ _ => hs) hwk5
    (fun i => i.elim0) (fun la x => x.elim0) (fun la pre x => x.elim0) ?done (fun D c pre W _ _ h _ => h.elim)
  case keep =>
    intro W la ob ob' hla hob hc _
    refine ⟨by simp, fun b hb hlt => World.putObj_heap_other ?_⟩
    rcases hb with rfl | rfl
    · omega
    · omega
  case done =>
    rintro D xs W hD - hwk hK
    have lt' : ∀ {b : Nat} {o : Obj}, W.heap[b]? = some o → b < W.heap.size := fun h => (Array.getElem?_eq_some_iff.1 h).1
    have hDl := lt' hK
    obtain ⟨Wa, hWa⟩ : ∃ Wa, W.alloc (.cells #[.string k] 9) = Wa := ⟨_, rfl⟩
    obtain ⟨Wb, hWb⟩ : ∃ Wb, Wa.alloc (.cells #[.slice (some ⟨W.heap.size, 0, none⟩) 1 1, .slice none 0 0] 60) = Wb := ⟨_, rfl⟩
    have hba : Below W.heap.size W Wa := hWa ▸ (Below.refl _ _).alloc (Nat.le_refl _) _
    have hbab : Below Wa.heap.size Wa Wb := hWb ▸ (Below.refl _ _).alloc (Nat.le_refl _) _
    have hbb := hba.trans (hbab.mono hba.size)
    have hza : Wa.heap.size = W.heap.size + 1 := by rw [← hWa]; simp
    have hrow : Wb.heap[W.heap.size]? = some (.cells #[.string k] 9 (0, 0)) := (hbab.block _ (by omega)).trans (hWa ▸ heap_alloc_new W _)
    have htw : Two Wb Wa.heap.size (.slice (some ⟨W.heap.size, 0, none⟩) 1 1) (.slice none 0 0) := hWb ▸ heap_alloc_new Wa _
    have hwb : Wk w Wb t M G w.heap.size W0.heap.size W1.heap.size 0 lent [] next k 0 := ⟨hwk.tree.on hbb hwk.tree.cells.2.2, hwk.map.keep (hbb.block _ hwk.map.lt), hwk.gone.keep (hbb.block _ hwk.gone.lt), (hbb.block _ (lt' hwk.b3)).trans hwk.b3, (hbb.block _ (lt' hwk.b5)).trans hwk.b5, (hbb.block _ (lt' hwk.b6)).trans hwk.b6, hwk.low, hwk.only.trans (Only.of_below hbb), hwk.one, hwk.rlt⟩
    have hDb : Wb.heap[D]? = some (.deferred (some [])) := (hbb.block D hDl).trans hK
    have x5 : W.cell? ⟨W0.heap.size, 0, none⟩ = some (.string k) := by rw [cell_of_row _ _ _ _ _ _ hwk.b5]; rfl
    have v3 : Wb.cell? ⟨w.heap.size, 0, none⟩ = some (.pointer (some ⟨t, 0, none⟩)) := by rw [cell_of_row _ _ _ _ _ _ hwb.b3]; rfl
    obtain ⟨⟨-, -, -, t3, -, -⟩, -, -⟩ := hwb.tree.cells
    obtain ⟨⟨z0, z1⟩, -, -⟩ := htw.cells
    have hlW : W.heap.size < Wb.heap.size := (Array.getElem?_eq_some_iff.1 hrow).1
    have hwW : w.heap.size ≤ W.heap.size := hwk.only.size
    have hnode : NodeAt Wb (badT t M G) (some ⟨W.heap.size, 0, none⟩) 1 1 none 0 0 [k] [] := by
      refine ⟨fun i s hi => ?_, fun i s hi => by simp at hi, rfl, rfl, (fun e => by cases e), (fun _ => rfl), Nat.le_refl _, Nat.le_refl _, fun _ => ⟨_, _, rfl, ?_⟩, fun e => absurd rfl e⟩
      · have : i = 0 := by have := (List.getElem?_eq_some_iff.1 hi).1; simp at this; exact this
        subst this
        simp at hi; subst hi
        exact ⟨_, _, rfl, hlW, by rw [cell_of_row _ _ _ _ _ _ hrow]; rfl⟩
      · rintro (e | e | e) <;> omega
    have HC := Lib.hid (take_c (w := Wb.drew) (show IsT Wb.drew t (some M) (some G) 0 next lent from hwb.tree) h1 (by omega))
    have HWB := Lib.hid hwb; have HTW := Lib.hid htw; have HBB := Lib.hid hbb; have HDb := Lib.hid hDb; have HNode := Lib.hid hnode; have HZA := Lib.hid hza; have HWW := Lib.hid hwW
    have HLT3 : Hid (w.heap.size < Wb.drew.heap.size) := Lib.hid (Array.getElem?_eq_some_iff.1 hwb.b3).1
    have HNE3 : Hid (¬ (w.heap.size = t)) := Lib.hid (by omega)
    have HDt : Hid (t < D ∧ M < D ∧ G < D ∧ w.heap.size ≤ D ∧ D < W.heap.size) := Lib.hid (by omega)
    rw [← hWb] at v3 t3 z0 z1
    have HWb := Lib.hid hWb
    clear lt' hDl hwk hK hba hbab hbb hza hrow htw hwb hDb hlW hwW hnode hWb
    gi_wp2
    rw [HWb.out] at v3 t3 z0 z1 ⊢
    refine wpIn_wide.2 (then_false ?_)
    go_cut [14] from 84 to 88 (fun x wx => x = .pointer (some ⟨Wa.heap.size, 0, none⟩) ∧ Rooted t M G lent next Wb wx)
    case first =>
      go_region_with (first
        | (go_at_call 31; (with_reducible refine HC.out.mono ?_); rintro e w9 ⟨rfl, hT9, hO9⟩; obtain ⟨⟨a0, a1, a2, a3, a4, a5⟩, af, -⟩ := hT9.cells; have af3 := af 3; have v39 := (hO9.cell (p := ⟨w.heap.size, 0, none⟩) HLT3.out HNE3.out).trans v3)
        | fail)
      all_goals
        go_wp2_with fail
        go_meet
        exact ⟨rfl, hT9.setRoot next, (((Only.refl (fun b => b = t) Wb).drew).trans hO9).setCell (p := ⟨t, 3, none⟩) (.inl rfl) _⟩
    case rest =>
      obtain ⟨rfl, hT9, hO9⟩ := hcut
      rename World => wx
      have hwb := HWB.out
      have hM9 : OwnU wx M VNo [] := hwb.map.keep (hO9.block M hwb.map.lt fun e => by subst e; exact hwb.map.no_cells hwb.tree)
      have hG9 : OwnU wx G VGo ([] : List (Nat × Unit)) := hwb.gone.keep (hO9.block G hwb.gone.lt fun e => by subst e; exact hwb.gone.no_cells hwb.tree)
      have h39 := (hO9.block _ HLT3.out HNE3.out).trans hwb.b3
      have hza := HZA.out
      have hww := HWW.out
      have hT9b : Two wx Wa.heap.size _ _ := HTW.out.only hO9 (fun e => by have e : Wa.heap.size = t := e; omega)
      have hN9 := HNode.out.only hO9 (fun b e => .inl e)
      have hdt := HDt.out
      have hD9 : wx.heap[D]? = some (.deferred (some [])) := (hO9.block D (Array.getElem?_eq_some_iff.1 HDb.out).1 (fun e => by have e : D = t := e; omega)).trans HDb.out
      have v3 : wx.cell? ⟨w.heap.size, 0, none⟩ = some (.pointer (some ⟨t, 0, none⟩)) := by rw [cell_of_row _ _ _ _ _ _ h39]; rfl
      obtain ⟨⟨-, -, -, t3, -, -⟩, -, -⟩ := hT9.cells
      obtain ⟨⟨z0, z1⟩, -, -⟩ := hT9b.cells
      have HC2 := Lib.hid (lay_c (w := wx.drew) (show IsT wx.drew t (some M) (some G) next (next + 1) lent from hT9) (show OwnU wx.drew M VNo [] from hM9.keep rfl) (show OwnU wx.drew G VGo ([] : List (Nat × Unit)) from hG9.keep rfl) hne (by simp) (id := next) (by omega) (some ⟨W.heap.size, 0, none⟩) none 1 1 0 0)
      have HO9 := Lib.hid hO9; have HN9' := Lib.hid hN9; have HD9 := Lib.hid hD9
      clear hwb hT9 hO9 hM9 hG9 h39 hza hww hT9b hN9 hdt hD9
      gi_wp2
      refine wpIn_wide.2 (last_false ?_)
      have mixed2 : Try.prog.follows Departure.mixedOrders = true := by kernel_rfl
      refine region_tail 6 mixed2 (by kernel_rfl) ?_
      simp only [List.take_succ_cons, List.take_zero, List.drop_succ_cons, List.drop_zero]
      repeat still_step
      refine wpStill_nil ?_
      go_wp2_with fail
      refine HC2.out.mono ?_
      rintro e w7 ⟨rfl, k1, k2, k3, kO⟩
      go_wp2_with fail
      have hdt := HDt.out
      have hd7 : w7.heap[D]? = some (.deferred (some [])) := (kO.block D (Array.getElem?_eq_some_iff.1 HD9.out).1 (fun e => by rcases e with e | e <;> omega)).trans HD9.out
      have ho7 : Only (badT t M G) w w7 := (HWB.out.only.trans (HO9.out.mono fun b _ e => .inl e)).trans (((Only.refl _ wx).drew).trans (kO.mono fun b _ e => .inr e))
      refine ⟨by simp, .inl ⟨_, _, rfl, run_takeDeferred hd7, ?_⟩⟩
      refine ⟨_, results_none rfl _ _ _, rfl, putU next (.agg #[.slice (some ⟨W.heap.size, 0, none⟩) 1 1, .slice none 0 0]) [], ?_⟩
      have hg7 : w7.grownBy (w7.putObj D (.deferred none)) (some D) := grownBy_putObj' w7 D _
      have hn7 : NoCells w7 (some D) := fun r e => by cases e; exact ⟨_, hd7, rfl⟩
      have hnode7 := ((HN9'.out.only ((Only.refl (fun b => b = M ∨ b = G) wx).drew.trans kO) (fun b e => .inr e))).kept hg7 hn7
      have hnd : (B.mk next [k] []).nodes = [(next, [k], [])] := by rw [nodes_mk, nodesL_nil]; rfl
      refine ⟨⟨cells_stay k1 hg7 hn7, k2.keep (hg7.block M k2.lt (by simp; omega)), k3.keep (hg7.block G k3.lt (by simp; omega)), fun p hp => ?_, only_kept ho7 hg7 (fun r e => by cases e; omega)⟩, ?_⟩
      · rcases mem_putU hp with rfl | hp
        · exact Nat.lt_succ_self _
        · cases hp
      · show Whole _ _ (B.mk next [k] []).nodes
        rw [hnd]
        refine ⟨fun x hx => ?_, by simp, fun i hi => ?_⟩
        · rw [List.mem_singleton.1 hx]
          exact ⟨⟨by simp, by simp, .inl rfl⟩, _, _, _, _, _, _, by rw [get_putU, if_pos rfl], hnode7⟩
        · have hi : i = next := by simpa using hi
          show 1 ≤ i ∧ i < next + 1
          omega

end Go.Proofs.Ytmhpgbhmhbldfaa
