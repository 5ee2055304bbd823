/- layer 9: the document's Do -/
import Derived.Test.YtkhhmmblkfogcaaTxF
import Derived.BigRegion
import Derived.Deep.LoopGhost
import Derived.Deep.RegionHeld3
namespace Go.Proofs.Ytkhhmmblkfogcaa
open Go.ChangeShapes Go.WideShapes Go.ChangeAt Go.RowKit

def doL (l : List (Nat × ByteArray)) (cs : List (Nat × Ch)) : List (Nat × ByteArray) := cs.foldl doOne l

theorem doOne_ris {l : List (Nat × ByteArray)} (hr : RisU l) (c : Nat × Ch) : RisU (doOne l c) := by
  rw [doOne_eq hr]; split
  · exact ris_delU hr
  · exact ris_putU hr

theorem doOne_len {l : List (Nat × ByteArray)} (hr : RisU l) (c : Nat × Ch) : (doOne l c).length ≤ l.length + 1 := by
  rw [doOne_eq hr]; split
  · exact Nat.le_succ_of_le delU_len
  · exact putU_len

theorem doL_ris : ∀ (cs : List (Nat × Ch)) {l : List (Nat × ByteArray)}, RisU l → RisU (doL l cs)
  | [], _, h => h
  | c :: t, _, h => doL_ris t (doOne_ris h c)

theorem doL_len : ∀ (cs : List (Nat × Ch)) {l : List (Nat × ByteArray)}, RisU l → (doL l cs).length ≤ l.length + cs.length
  | [], _, _ => by simp [doL]
  | c :: t, l, h => by
    have h1 := doL_len t (doOne_ris h c)
    have h2 := doOne_len h c
    show (doL (doOne l c) t).length ≤ _
    simp only [List.length_cons]; omega

theorem doL_take {l : List (Nat × ByteArray)} {cs : List (Nat × Ch)} {i : Nat} (hi : i < cs.length) {x : Nat × Ch} (hx : cs[i] = x) : doL l (cs.take (i + 1)) = doOne (doL l (cs.take i)) x := by
  unfold doL
  rw [List.take_succ_eq_append_getElem hi, List.foldl_append, hx]
  rfl

theorem info_body : (Try.prog.info? 50).map (fun i => (i.zero, i.size, i.bytes)) = some (some (.agg #[.int .u64 0, .string noB]), 2, 24) := by kernel_rfl

theorem cells2' {W : World} {g : Nat} {a b : Value} (t : TypeId) (hg : g = W.heap.size) : ∀ j u, [a, b][j]? = some u → (W.alloc (.cells #[a, b] t)).cell? ((⟨g, 0, none⟩ : Addr).add j) = some u := by
  subst hg
  intro j u hu
  rw [adr_add, cell_of_row _ _ _ _ _ _ (heap_alloc_last W _), Nat.zero_add, ← hu]
  simp

/-- one record appended to a row of the call's own -/
theorem app_recR {n : Nat} {wn : World} {A : Option Addr} {c i : Nat} {o : List (Nat × ByteArray)} (h1 : wn.ownsRow n 50 2 (.slice A i c) i (cellsR o)) (h2 : n ≤ wn.heap.size) (hi : i ≤ 100000) (a : Nat) (s : ByteArray) :
    ∃ A' c' w2, (∀ ty, (Builtin.append_ #[34, 34] ty #[.slice A i c, .slice (some ⟨wn.heap.size, 0, none⟩) 1 1]).run Try.prog (wn.alloc (.cells #[.int .u64 (a : Int), .string s] 50)) = .ok (.slice A' (i + 1) c') w2) ∧
      w2.ownsRow n 50 2 (.slice A' (i + 1) c') (i + 1) (cellsR (o ++ [(a, s)])) ∧ Below n wn w2 := by
  obtain ⟨i0, hi0, hz0, hz1, hz2⟩ := info_parts info_body
  have hb1 : Below wn.heap.size wn (wn.alloc (.cells #[.int .u64 (a : Int), .string s] 50)) := (Below.refl _ wn).alloc (Nat.le_refl _) _
  have hown := owns_keep h1 hb1
  have key := fun ty => run_append_own (P := Try.prog) (wn.alloc (.cells #[.int .u64 (a : Int), .string s] 50)) n 34 ty 50 i0 _ 2 24 Try.underlying34 hi0 hz0 hz1 hz2 rfl (by decide) _ i (cellsR o) hown ⟨wn.heap.size, 0, none⟩ 1 1 (cellsR [(a, s)]) rfl
    (fun j u hj => cells2' 50 rfl j u hj) (cellsR_one [(a, s)]) (by unfold maxLen; omega) (by omega) (by have := hb1.size; omega)
  obtain ⟨v', w2, hr, hown', hgr, -⟩ := key 0
  have hlt := hown.lt
  rcases hown'.2 with ⟨-, h0⟩ | ⟨g, cap, cur, rfl, -⟩
  · omega
  · refine ⟨some ⟨g, 0, none⟩, cap, w2, fun ty => hr, by rw [cellsR_app]; exact hown', ?_⟩
    exact (hb1.mono h2).grown hgr (by have := hb1.size; omega) fun g hg => (hlt g hg).1

theorem made_emptyR (w : World) : (w.alloc (.cells #[] 50)).ownsRow w.heap.size 50 2 (.slice (some ⟨w.heap.size, 0, none⟩) 0 0) 0 (cellsR []) := World.ownsRow_made w #[] 0 (Nat.le_refl _) (Nat.zero_le _) (by simp)

theorem owns_recs {w : World} {n : Nat} {A : Option Addr} {k c : Nat} {l : List (Nat × ByteArray)} (h : w.ownsRow n 50 2 (.slice A k c) k (cellsR l)) (hk : l.length = k) (hl : k ≤ 1000000) : IsRecs w (.slice A k c) l := by
  refine ⟨A, c, by rw [hk], by omega, ?_⟩
  rcases h.2 with ⟨e, h0⟩ | ⟨g, cap, cur, e, hbg, hg, hnc, hcm, hcs, ht⟩
  · cases e
    exact .inl (List.eq_nil_of_length_eq_zero hk)
  · cases e
    refine .inr ⟨g, cur, rfl, hg, fun j u hu => ?_⟩
    rw [← Array.getElem?_toList]
    rw [← ht, List.getElem?_take] at hu
    split at hu
    · exact hu
    · cases hu

theorem IsRecs.at {w : World} {A : Option Addr} {n c : Nat} {l : List (Nat × ByteArray)} (h : IsRecs w (.slice A n c) l) {i : Nat} (hi : i < l.length) {x : Nat × ByteArray} (hx : l[i] = x) : ∃ b, A = some ⟨b, 0, none⟩ ∧ b < w.heap.size ∧ w.cell? ⟨b, i * 2, none⟩ = some (.int .u64 (x.1 : Int)) ∧ w.cell? ⟨b, i * 2 + 1, none⟩ = some (.string x.2) := by
  obtain ⟨A', cap, e, -, h3⟩ := h
  cases e
  rcases h3 with rfl | ⟨b, cs, rfl, hb, hcs⟩
  · simp at hi
  · obtain ⟨k0, k1⟩ := cellsR_at l i hi
    rw [hx] at k0 k1
    exact ⟨b, rfl, (Array.getElem?_eq_some_iff.1 hb).1, by rw [cell_of_row _ _ _ _ _ _ hb]; exact hcs _ _ k0, by rw [cell_of_row _ _ _ _ _ _ hb]; exact hcs _ _ k1⟩

/-- append whose run is known, as one step of a region that draws -/
theorem step_append_runU {P : Program} {ops : Array Oper} {o : Oper} {a : Act} {w : World} {K : Act → World → Prop} {Q : Exit → Act → World → Prop} {E : Prop}
    (hg : o.guard = none) (d x : Operand) (dT sT : TypeId) (hop : o.op = Op.call { callee := Callee.builtin Builtin.append, args := #[d, x], argTypes := #[dT, sT] })
    (v u : Value) (hd : a.eval d = v) (hx : a.eval x = u) {v' : Value} {w' : World} (hr : (Builtin.append_ #[dT, sT] o.type #[v, u]).run P w = .ok v' w') (hK : K (a.put o.dst v') w') :
    if Region.wanted o (yielded ops a.tmps) = true then Oper.wp P o a w K Q else E := by
  have hw : Region.wanted o (yielded ops a.tmps) = true := by simp [Region.wanted, hg]
  rw [if_pos hw]
  unfold Oper.wp
  simp [execOp, hop, resolve, invoke, builtin, hd, hx, hr, Result.andThen]
  exact hK

set_option maxRecDepth 100000 in
set_option maxHeartbeats 4000000 in
theorem do_any {w : World} {A0 : Option Addr} {n0 c0 : Nat} {l : List (Nat × ByteArray)} (h : IsRecs w (.slice A0 n0 c0) l) (hr : RisU l) {A : Option Addr} {cap m : Nat} {cs : List (Nat × Ch)} (hc : IsChs w A cs) (hm : cs.length = m) (hl : l.length ≤ 100) (hcl : m ≤ 100) :
    Calls Try.prog 15 #[.slice A0 n0 c0, .slice A m cap] w fun e w' => ∃ A' n' c', e = .returned (.slice A' n' c') ∧ IsRecs w' (.slice A' n' c') (doL l cs) ∧ (doL l cs).length = n' ∧ Below w.heap.size w w' := by
  have hn0 : l.length = n0 := by obtain ⟨_, _, e, -⟩ := h; cases e; rfl
  have HR := Lib.hid h; have HC := Lib.hid hc; have HM := Lib.hid hm; have HN0 := Lib.hid hn0; have HRI := Lib.hid hr
  have HLN : Hid (∀ i, (doL l (cs.take i)).length ≤ 200) := Lib.hid fun i => by
    have h1 := doL_len (cs.take i) hr
    have h2 := List.length_take_le i cs
    have h3 : (cs.take i).length ≤ cs.length := by rw [List.length_take]; omega
    omega
  clear h hc hm hn0 hr hl
  go_enter Try.func15, Try.ntmps15
  go_wp2_with fail
  go_loopg [0, 5] m (fun g lv iv wr => ∃ (i : Nat) (A1 : Option Addr) (n1 c1 : Nat), iv = .int .i64 i ∧ lv = .slice A1 n1 c1 ∧ i ≤ m ∧ m - i ≤ g ∧ Hid ((doL l (cs.take i)).length = n1 ∧ IsRecs wr (.slice A1 n1 c1) (doL l (cs.take i)) ∧ Below w.heap.size w wr))
  case atStart => exact ⟨0, A0, n0, c0, rfl, rfl, Nat.zero_le _, by omega, HN0.out, HR.out, Below.refl _ _⟩
  case round =>
    obtain ⟨i, A1, n1, c1, rfl, rfl, hi, hg, HL⟩ := hrel
    by_cases hlt : i < m
    · have hil : i < cs.length := by rw [HM.out]; exact hlt
      obtain ⟨⟨id, ⟨s, gn⟩⟩, hx⟩ : ∃ x, cs[i] = x := ⟨_, rfl⟩
      obtain ⟨b, o, rfl, hbl, k0, k1, k2⟩ := (HC.out.on rfl HL.out.2.2).at hil hx
      simp only at k0 k1 k2
      have HK0 := Lib.hid k0; have HK1 := Lib.hid k1
      have HBL := Lib.hid hbl
      have HTK : Hid (doL l (cs.take (i + 1)) = doOne (doL l (cs.take i)) (id, ⟨s, gn⟩)) := Lib.hid (doL_take hil hx)
      have hn200 : n1 ≤ 200 := by have := HLN.out i; have := HL.out.1; omega
      obtain ⟨L, hL⟩ : ∃ L, doL l (cs.take i) = L := ⟨_, rfl⟩
      rw [hL] at HL HTK
      clear hx hL hil
      go_wp2_with fail
      go_region
      rename World => W0
      have HM1 : Hid ((W0.alloc (.cells #[] 50)).drew.ownsRow W0.heap.size 50 2 (.slice (some ⟨W0.heap.size, 0, none⟩) 0 0) 0 (cellsR [])) := Lib.hid (made_emptyR W0)
      have HBM1 : Hid (Below W0.heap.size W0 (W0.alloc (.cells #[] 50)).drew) := Lib.hid (((Below.refl _ W0).alloc (Nat.le_refl _) _).drew)
      clear k0 k1 k2 hbl
      go_wp2_with fail
      go_loopg [6, 7, 8] n1 (fun g2 ov nv kv wr => ∃ (k : Nat) (Ao : Option Addr) (co no : Nat) (inn : Bool) (out : List (Nat × ByteArray)), kv = .int .i64 k ∧ nv = .bool inn ∧ ov = .slice Ao no co ∧ k ≤ n1 ∧ n1 - k ≤ g2 ∧ no ≤ 2 * k ∧ Hid ((L.take k).foldl (doStep id s) ([], gn) = (out, inn) ∧ out.length = no) ∧ Hid (wr.ownsRow W0.heap.size 50 2 (.slice Ao no co) no (cellsR out)) ∧ Hid (Below W0.heap.size W0 wr))
      case atStart => exact ⟨0, _, _, _, gn, [], rfl, rfl, rfl, Nat.zero_le _, by omega, by omega, ⟨rfl, rfl⟩, HM1.out, HBM1.out⟩
      case round =>
        obtain ⟨k, Ao, co, no, inn, out, rfl, rfl, rfl, hk, hg2, hno, HF, HO, HB⟩ := hrel
        by_cases hkt : k < n1
        · have hkl : k < L.length := by rw [HL.out.1]; exact hkt
          obtain ⟨⟨rb, rs⟩, hx⟩ : ∃ x, L[k] = x := ⟨_, rfl⟩
          obtain ⟨b1, rfl, hb1, j0, j1⟩ := HL.out.2.1.at hkl hx
          simp only at j0 j1
          have HJ : Hid (∀ X, Below W0.heap.size W0 X → X.cell? ⟨b1, k * 2, none⟩ = some (.int .u64 (rb : Int)) ∧ X.cell? ⟨b1, k * 2 + 1, none⟩ = some (.string rs) ∧ X.cell? ⟨b, o + i * 3, none⟩ = some (.int .u64 (id : Int)) ∧ X.cell? ⟨b, o + i * 3 + 1, none⟩ = some (.string s)) := Lib.hid fun X hX =>
            ⟨(hX.cell (p := ⟨b1, k * 2, none⟩) hb1).trans j0, (hX.cell (p := ⟨b1, k * 2 + 1, none⟩) hb1).trans j1, (hX.cell (p := ⟨b, o + i * 3, none⟩) HBL.out).trans HK0.out, (hX.cell (p := ⟨b, o + i * 3 + 1, none⟩) HBL.out).trans HK1.out⟩
          have HST : Hid ((L.take (k + 1)).foldl (doStep id s) ([], gn) = doStep id s (out, inn) (rb, rs)) := Lib.hid (by
            rw [List.take_succ_eq_append_getElem hkl, List.foldl_append, HF.out.1, hx]; rfl)
          clear hx hkl hb1 j0 j1
          obtain ⟨j0, j1, q0, q1⟩ := HJ.out _ HB.out
          cases inn with
          | true =>
            have d0 : (!true) = false := rfl
            by_cases he : rb = id
            · have e1 : ((rb : Int) != (id : Int)) = false := by simp; omega
              have HS2 : Hid (doStep id s (out, true) (rb, rs) = (out, true)) := Lib.hid (by simp [doStep, he])
              clear he
              go_wp2_with fail
              go_quiet (fail)
              go_wp2_with fail
              go_quiet (fail)
              go_wp2_with fail
              go_roundg (n1 - (k + 1))
              case measure => omega
              case rel => exact ⟨k + 1, _, co, no, true, out, by go_num, rfl, rfl, by omega, Nat.le_refl _, by omega, Lib.hid ⟨by rw [HST.out, HS2.out], HF.out.2⟩, HO, Lib.hid (HB.out.trans (below_drewN (Below.refl _ _) _))⟩
            · have e1 : ((rb : Int) != (id : Int)) = true := by simp; omega
              have HS2 : Hid (doStep id s (out, true) (rb, rs) = (out ++ [(rb, rs)], true)) := Lib.hid (by simp [doStep, he])
              clear he
              go_wp2_with fail
              go_quiet (fail)
              go_wp2_with fail
              rename Nat => nqa
              go_quiet (fail)
              rename Nat => nqb
              obtain ⟨A2, c2, w2, hr, hown, hbel⟩ := app_recR (wn := wr.drewN (nqa + nqb)) (o := out) HO.out HB.out.size (by omega) rb rs
              have HO2 := Lib.hid hown; have HB2 := Lib.hid ((below_drewN HB.out _).trans hbel)
              clear hown hbel
              go_wp2_with (first
                | (at_builtin; refine Lib.wpList_append_run _ rfl _ _ _ _ rfl _ _ rfl rfl _ _ (hr _) ?_)
                | fail)
              go_roundg (n1 - (k + 1))
              case measure => omega
              case rel => exact ⟨k + 1, A2, c2, no + 1, true, out ++ [(rb, rs)], by go_num, rfl, rfl, by omega, Nat.le_refl _, by omega, Lib.hid ⟨by rw [HST.out, HS2.out], by rw [List.length_append, HF.out.2]; rfl⟩, HO2, HB2⟩
          | false =>
            by_cases hge : id ≤ rb
            · by_cases he : rb = id
              · have e1 : ((rb : Int) != (id : Int)) = false := by simp; omega
                have HS2 : Hid (doStep id s (out, false) (rb, rs) = (out ++ [(id, s)], true)) := Lib.hid (by simp [doStep, he])
                have HLE : Hid (out.length + 1 = no + 1) := Lib.hid (by rw [HF.out.2])
                clear he
                have g1 : (id : Int) ≤ (rb : Int) := by omega
                go_wp2_with fail
                go_quiet (fail)
                rename Nat => nqa
                obtain ⟨A2, c2, w2, hr, hown, hbel⟩ := app_recR (wn := wr.drewN (nqa + 1)) (o := out) HO.out HB.out.size (by omega) id s
                have HO2 := Lib.hid hown; have HB2 := Lib.hid ((below_drewN HB.out _).trans hbel)
                clear hown hbel
                go_wp2_with fail
                have mixed : Try.prog.follows Departure.mixedOrders = true := by kernel_rfl
                go_region_law_o (first
                  | (refine step_append_runU rfl _ _ 34 34 rfl _ _ (by simp [Act.eval]) (by simp [Act.eval]) (hr _) ?_)
                  | fail)
                all_goals
                  clear hr j0 j1 q0 q1
                  obtain ⟨j0, j1, q0, q1⟩ := HJ.out _ HB2.out
                  go_wp2_with fail
                  go_quiet (fail)
                  go_wp2_with fail
                  go_roundg (n1 - (k + 1))
                  case measure => omega
                  case rel => exact ⟨k + 1, A2, c2, no + 1, true, out ++ [(id, s)], by go_num, rfl, rfl, by omega, Nat.le_refl _, by omega, Lib.hid ⟨by rw [HST.out, HS2.out], by rw [List.length_append, HF.out.2]; rfl⟩, HO2, Lib.hid (below_drewN HB2.out _)⟩
              · have e1 : ((rb : Int) != (id : Int)) = true := by simp; omega
                have HS2 : Hid (doStep id s (out, false) (rb, rs) = (out ++ [(id, s)] ++ [(rb, rs)], true)) := Lib.hid (by simp [doStep, he, hge])
                clear he
                have g1 : (id : Int) ≤ (rb : Int) := by omega
                go_wp2_with fail
                go_quiet (fail)
                rename Nat => nqa
                obtain ⟨A2, c2, w2, hr, hown, hbel⟩ := app_recR (wn := wr.drewN (nqa + 1)) (o := out) HO.out HB.out.size (by omega) id s
                have HO2 := Lib.hid hown; have HB2 := Lib.hid ((below_drewN HB.out _).trans hbel)
                clear hown hbel
                go_wp2_with fail
                have mixed : Try.prog.follows Departure.mixedOrders = true := by kernel_rfl
                go_region_law_o (first
                  | (refine step_append_runU rfl _ _ 34 34 rfl _ _ (by simp [Act.eval]) (by simp [Act.eval]) (hr _) ?_)
                  | fail)
                all_goals
                  clear hr j0 j1 q0 q1
                  obtain ⟨j0, j1, q0, q1⟩ := HJ.out _ HB2.out
                  go_wp2_with fail
                  go_quiet (fail)
                  rename Nat => nqb
                  obtain ⟨A3, c3, w3, hr3, hown3, hbel3⟩ := app_recR (wn := w2.drewN nqb) (o := out ++ [(id, s)]) HO2.out HB2.out.size (by omega) rb rs
                  have HO3 := Lib.hid hown3; have HB3 := Lib.hid ((below_drewN HB2.out _).trans hbel3)
                  clear hown3 hbel3
                  go_wp2_with (first
                    | (at_builtin; refine Lib.wpList_append_run _ rfl _ _ _ _ rfl _ _ rfl rfl _ _ (hr3 _) ?_)
                    | fail)
                  go_roundg (n1 - (k + 1))
                  case measure => omega
                  case rel => exact ⟨k + 1, A3, c3, no + 1 + 1, true, out ++ [(id, s)] ++ [(rb, rs)], by go_num, rfl, rfl, by omega, Nat.le_refl _, by omega, Lib.hid ⟨by rw [HST.out, HS2.out], by rw [List.length_append, List.length_append, HF.out.2]; rfl⟩, HO3, HB3⟩
            · have e1 : ((rb : Int) != (id : Int)) = true := by simp; omega
              have g1 : ¬ (id : Int) ≤ (rb : Int) := by omega
              have HS2 : Hid (doStep id s (out, false) (rb, rs) = (out ++ [(rb, rs)], false)) := Lib.hid (by simp [doStep, hge]; omega)
              go_wp2_with fail
              go_quiet (fail)
              rename Nat => nqa
              go_wp2_with fail
              go_quiet (fail)
              rename Nat => nqb
              obtain ⟨A2, c2, w2, hr, hown, hbel⟩ := app_recR (wn := wr.drewN (nqa + nqb)) (o := out) HO.out HB.out.size (by omega) rb rs
              have HO2 := Lib.hid hown; have HB2 := Lib.hid ((below_drewN HB.out _).trans hbel)
              clear hown hbel
              go_wp2_with (first
                | (at_builtin; refine Lib.wpList_append_run _ rfl _ _ _ _ rfl _ _ rfl rfl _ _ (hr _) ?_)
                | fail)
              go_roundg (n1 - (k + 1))
              case measure => omega
              case rel => exact ⟨k + 1, A2, c2, no + 1, false, out ++ [(rb, rs)], by go_num, rfl, rfl, by omega, Nat.le_refl _, by omega, Lib.hid ⟨by rw [HST.out, HS2.out], by rw [List.length_append, HF.out.2]; rfl⟩, HO2, HB2⟩
        · obtain rfl : k = n1 := by omega
          have eL : L.take k = L := List.take_of_length_le (by rw [HL.out.1]; omega)
          have HFL : Hid (L.foldl (doStep id s) ([], gn) = (out, inn) ∧ out.length = no) := Lib.hid (by have := HF.out; rwa [eL] at this)
          obtain ⟨q0, q1⟩ : wr.cell? ⟨b, o + i * 3, none⟩ = some (.int .u64 (id : Int)) ∧ wr.cell? ⟨b, o + i * 3 + 1, none⟩ = some (.string s) := ⟨(HB.out.cell (p := ⟨b, o + i * 3, none⟩) HBL.out).trans HK0.out, (HB.out.cell (p := ⟨b, o + i * 3 + 1, none⟩) HBL.out).trans HK1.out⟩
          clear eL
          cases inn with
          | true =>
            have HD1 : Hid (doOne L (id, ⟨s, gn⟩) = out) := Lib.hid (by simp only [doOne, HFL.out.1]; rfl)
            go_wp2_with fail
            go_roundg (m - (i + 1))
            case measure => omega
            case rel => exact ⟨i + 1, Ao, no, co, by go_num, rfl, by omega, Nat.le_refl _, by rw [HTK.out, HD1.out]; exact HFL.out.2, by rw [HTK.out, HD1.out]; exact owns_recs HO.out HFL.out.2 (by omega), HL.out.2.2.trans (HB.out.mono HL.out.2.2.size)⟩
          | false =>
            have HD1 : Hid (doOne L (id, ⟨s, gn⟩) = out ++ [(id, s)]) := Lib.hid (by simp only [doOne, HFL.out.1]; rfl)
            obtain ⟨A2, c2, w2, hr, hown, hbel⟩ := app_recR (wn := wr.drew) (o := out) HO.out HB.out.size (by omega) id s
            have HO2 := Lib.hid hown; have HB2 := Lib.hid ((HB.out.drew).trans hbel)
            clear hown hbel
            go_wp2_with fail
            have mixed : Try.prog.follows Departure.mixedOrders = true := by kernel_rfl
            go_region_law_o (first
              | (refine step_append_runU rfl _ _ 34 34 rfl _ _ (by simp [Act.eval]) (by simp [Act.eval]) (hr _) ?_)
              | fail)
            all_goals
              go_wp2_with fail
              go_roundg (m - (i + 1))
              case measure => omega
              case rel => exact ⟨i + 1, A2, no + 1, c2, by go_num, rfl, by omega, Nat.le_refl _, by rw [HTK.out, HD1.out, List.length_append, HFL.out.2]; rfl, by rw [HTK.out, HD1.out]; exact owns_recs HO2.out (by rw [List.length_append, HFL.out.2]; rfl) (by omega), HL.out.2.2.trans (HB2.out.mono HL.out.2.2.size)⟩
    · obtain rfl : i = m := by omega
      go_wp2_with fail
      go_ret
      have e : cs.take i = cs := List.take_of_length_le (by rw [HM.out]; omega)
      obtain ⟨h1, h2, h3⟩ := HL.out
      rw [e] at h1 h2
      exact ⟨_, _, _, rfl, h2, h1, h3⟩

end Go.Proofs.Ytkhhmmblkfogcaa
