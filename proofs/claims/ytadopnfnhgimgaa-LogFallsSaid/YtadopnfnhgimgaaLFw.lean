/- LogFalls: the walk -/
import Derived.Test.YtadopnfnhgimgaaLFo
namespace Go.Proofs.Ytadopnfnhgimgaa
open Go.ChangeShapes Go.WideShapes Go.ChangeAt Go.RowKit

theorem falls_meas (i : Nat) (h : i < 14) : 14 - ((i : Int) + 1).toNat < 14 - (i : Int).toNat := by omega

theorem plan_heap (W : World) (Y : Nat) (v : Value) (cs : Array Value) (t : TypeId) : (((W.setCell ⟨Y, 0, none⟩ v).alloc (.cells cs t)).drew).heap[W.heap.size]? = some (.cells cs t (0, 0)) := by
  have h := heap_alloc_last (W.setCell ⟨Y, 0, none⟩ v) (.cells cs t)
  have e : (W.setCell ⟨Y, 0, none⟩ v).heap.size = W.heap.size := by simp [World.setCell]
  rw [e] at h
  exact h

theorem plan_below {X W : World} (h : Below X.heap.size X W) {Y : Nat} (hY : X.heap.size ≤ Y) (v : Value) (o : Obj) : Below X.heap.size X (((W.setCell ⟨Y, 0, none⟩ v).alloc o).drew) := by
  have h1 := h.setCell (p := ⟨Y, 0, none⟩) hY v
  exact (h1.alloc h1.size o).drew

set_option maxRecDepth 100000 in
set_option maxHeartbeats 20000000 in
theorem lfalls_walk (v0 v1 v2 : Value) (L : List Sec) (fs : List Fal) (rs : List Bool) (w : World) (hL : InT w v0 L) (hF : InF w v1 fs) (hB : InB w v2 rs) :
    Calls Try.prog 6 #[v0, v1, v2] w fun e w' => e = .returned (.bool true) ∧ Below w.heap.size w w' := by
  obtain ⟨A0, cap0, rfl, -, hx0⟩ := hL.seen.form
  obtain ⟨A1, cap1, rfl, hx1⟩ := hF.form
  obtain ⟨A2, cap2, rfl, hx2⟩ := hB.form
  have HX0 := Lib.hid hx0; have HX1 := Lib.hid hx1; have HX2 := Lib.hid hx2
  have hN := nk_new (n := fun k => w.heap.size ≤ k) (a := w) w 14 (by omega) (Only.refl _ _) (fun k hk => hk)
  rw [show ((14 : Nat) : Int) = 14 from rfl] at hN
  have HAW := Lib.hid awake4
  clear hL hF hB hx0 hx1 hx2
  go_enter Try.func6, Try.ntmps6
  go_wp2_with fail
  refine hN.mono ?_
  rintro e w0 ⟨rfl, h⟩
  clear hN
  go_wp2_with fail
  have hc := open_any h rfl 0 14 (by omega) (by rw [new_len]; omega) 1 (by decide) (by decide) h.below.size
  rw [open_new (by show 14 ≤ 14; omega)] at hc
  refine hc.mono ?_
  clear hc; rintro e w1 ⟨vv, rfl, h1⟩
  generalize w0.heap.size = G0 at h1 ⊢
  have H1 := Lib.hid h1
  clear h h1
  go_wp2_with (first
    | (go_at_call 16; (with_reducible refine (HAW.out _).mono ?_); rintro e w2 ⟨rfl, hb2⟩; have h2 := (H1.out.on hb2).none; clear hb2)
    | fail)
  go_loopw [9, 12, 13, 14] (fun sx sh sf si wr => ∃ (i : Nat) (acc : List Sec) (d : Dv) (g : Lg) (first G : Nat), Hid (FallsI d g acc first i ∧ i ≤ 14) ∧ i ≤ L.length ∧ sx = .pointer (some ⟨G, 0, none⟩) ∧ sf = .int .u64 (first : Int) ∧ si = .int .i64 (i : Int) ∧ Hid (LT (fun k => w.heap.size ≤ k) w wr G (w.heap.size + 2) w.heap.size (w.heap.size + 1) d g sh acc)) (fun _ _ _ si _ => 14 - (intOf si).toNat)
  case atStart => exact ⟨0, [], newD 14, ⟨0, 14, 0, 1⟩, 1, G0, Lib.hid ⟨falls_start, by decide⟩, Nat.zero_le _, rfl, rfl, rfl, Lib.hid h2⟩
  case round =>
    obtain ⟨i, acc, d, g, first, G, HP, hiL, rfl, rfl, rfl, HT⟩ := hrel
    clear h2 H1
    have HBW : Hid (Below w.heap.size w wr) := Lib.hid (HT.out.ld.now.below.below (Nat.le_refl _) (fun k hk => hk))
    by_cases hgo : i < L.length ∧ i < 14
    · obtain ⟨hg1, hg2⟩ := hgo
      have z1 : (i : Int) < (L.length : Int) := by omega
      obtain ⟨b, o, eA, c0⟩ := HX0.out i L[i] (List.getElem?_eq_getElem hg1)
      subst eA
      have C0 := Lib.hid c0
      clear c0
      have hs5 : (L[i].take 500).length ≤ 500 := by rw [List.length_take]; omega
      have HFW := Lib.hid (fun W => few_any L[i] W)
      generalize L[i] = s0 at C0 HFW hs5
      generalize s0.take 500 = s at HFW hs5
      have HS5 := Lib.hid hs5
      have hinc : wrap64 ((i : Int) + 1) = (i : Int) + 1 := w64 (by omega) (by omega)
      have HINC := Lib.hid hinc
      have HM := Lib.hid (falls_meas i hg2)
      clear hs5 hinc
      obtain ⟨cR, hcR⟩ : ∃ c : Bool, c = rs.getD i false := ⟨_, rfl⟩
      have HCR := Lib.hid hcR
      clear hcR
      go_upto_region 9 with fail
      go_cut [62] from 53 to 62 (fun x wx => x = .bool cR ∧ wr = wx)
      case first =>
        by_cases hR : i < rs.length
        · have zR : (i : Int) < (rs.length : Int) := by omega
          obtain ⟨b2, o2, eA2, k1⟩ := HX2.out i rs[i] (List.getElem?_eq_getElem hR)
          subst eA2
          have k2 := cell_below HBW.out k1
          have e := HCR.out
          rw [List.getD_eq_getElem?_getD, List.getElem?_eq_getElem hR] at e
          simp only [Option.getD_some] at e
          rw [← e] at k2
          clear k1 e HCR
          cases cR
          all_goals
            go_wp2_with fail
            go_meet
            exact ⟨rfl, rfl⟩
        · have e : cR = false := by rw [HCR.out, List.getD_eq_getElem?_getD, List.getElem?_eq_none (by omega)]; rfl
          clear HCR
          subst e
          have zR : ¬ i < rs.length := hR
          go_wp2_with fail
          go_meet
          exact ⟨rfl, rfl⟩
      case rest =>
        obtain ⟨rfl, rfl⟩ := hcut
        clear HCR
        cases cR
        · have HT1 := HT
          have HQ1 : Hid (FallsI d g acc first i) := Lib.hid HP.out.1
          go_upto_region 12 with fail
          have HBX : Hid (Below w.heap.size w _) := Lib.hid (HT1.out.ld.now.below.below (Nat.le_refl _) (fun k hk => hk))
          by_cases hF : i < fs.length
          · have z3 : (i : Int) < (fs.length : Int) := by omega
            obtain ⟨b1, o1, eA1, hkeep, q0, q1, q2⟩ := HX1.out i fs[i] (List.getElem?_eq_getElem hF)
            subst eA1
            have y0 := cell_below HBX.out q0
            have y1 := cell_below HBX.out q1
            have y2 := cell_below HBX.out q2
            clear q0 q1 q2
            generalize fs[i] = f at hkeep y0 y1 y2
            have HKE := Lib.hid hkeep
            clear hkeep
            have hrow := heap_alloc_last wr (.cells #[.int .i64 f.at_, .int .u64 (f.keep : Int), .int .i64 f.torn] 40)
            have hblW : Below wr.heap.size wr (wr.alloc (.cells #[.int .i64 f.at_, .int .u64 (f.keep : Int), .int .i64 f.torn] 40)) := (Below.refl _ _).alloc (Nat.le_refl _) _
            by_cases hneg : f.at_ < 0
            · have n1 : decide (f.at_ < 0) = true := by simp [hneg]
              go_upto_region 14 with fail
              generalize hY : wr.heap.size = Y at hrow hblW ⊢
              have hYX : wr.heap.size ≤ Y := Nat.le_of_eq hY
              generalize wr.alloc (.cells #[.int .i64 f.at_, .int .u64 (f.keep : Int), .int .i64 f.torn] 40) = W0 at hrow hblW ⊢
              have zf0 : W0.frozen? ⟨Y, 0, none⟩ = false := by simp [World.frozen?, hrow]
              have k00 : W0.cell? ⟨Y, 0, none⟩ = some (.int .i64 f.at_) := by rw [cell_of_row _ _ _ _ _ _ hrow]; rfl
              have hblX : Below wr.heap.size wr W0 := by rw [hY]; exact hblW
              have hrow2 := (heap_setCell_same W0 Y 0 _ _ (.int .i64 0) hrow)
              have hblW2 : Below wr.heap.size wr (W0.setCell ⟨Y, 0, none⟩ (.int .i64 0)) := hblX.setCell (by rw [hY]; exact Nat.le_refl _) _
              clear hrow hblW
              go_upto_region 16 with fail
              have hrow : (W0.setCell ⟨Y, 0, none⟩ (.int .i64 0)).heap[Y]? = some (.cells #[.int .i64 0, .int .u64 (f.keep : Int), .int .i64 f.torn] 40 (0, 0)) := hrow2.trans rfl
              clear hrow2 k00 zf0 hblX
              generalize W0.setCell ⟨Y, 0, none⟩ (.int .i64 0) = W at hrow hblW2 ⊢
              have hblW := hblW2
              clear hblW2 n1 hneg
              obtain ⟨k0, k1', k2'⟩ : W.cell? ⟨Y, 0, none⟩ = some (.int .i64 (0)) ∧ W.cell? ⟨Y, 1, none⟩ = some (.int .u64 (f.keep : Int)) ∧ W.cell? ⟨Y, 2, none⟩ = some (.int .i64 f.torn) := by
                simp only [cell_of_row _ _ _ _ _ _ hrow]
                exact ⟨rfl, rfl, rfl⟩
              have zf : W.frozen? ⟨Y, 0, none⟩ = false := by simp [World.frozen?, hrow]
              have hTW := HT1.out.on hblW
              obtain ⟨pv, hd⟩ := hTW.ld.now.dev
              have HST := Lib.hid (steps_any hd.drew)
              have HTW := Lib.hid hTW
              have HYY := Lib.hid hYX
              have HBLW := Lib.hid hblW
              clear hd hTW hrow hblW hYX
              refine region_tail 7 (by kernel_rfl) (by kernel_rfl) ?_
              simp only [List.take_succ_cons, List.take_zero, List.drop_succ_cons, List.drop_zero]
              repeat still_step
              still_call (HST.out.mono (fun e w1 p => ⟨p.1, p.2.symm⟩))
              repeat still_step
              refine wpStill_nil ?_
              have HPL : Hid (∀ (E : Int) (wp : World) (bb : Nat), wp.heap[bb]? = some (.cells #[.int .i64 E, .int .u64 (f.keep : Int), .int .i64 f.torn] 40 (0, 0)) → Below wr.heap.size wr wp →
                  Calls Try.prog 28 #[.pointer (some ⟨w.heap.size + 2, 0, none⟩), .slice (some ⟨bb, 0, none⟩) 1 1] wp fun e w' => e = .returned (.tuple #[]) ∧ ∃ d1, Hid (FallsI d1 g acc first i) ∧ LT (fun k => w.heap.size ≤ k) w w' G (w.heap.size + 2) w.heap.size (w.heap.size + 1) d1 g _ acc) := Lib.hid fun E wp bb hbb hbe =>
                (lt_plan_one (f := ⟨E, f.keep, f.torn⟩) (HT1.out.on hbe) hbb HKE.out 1).mono fun e w' p => ⟨p.1, _, Lib.hid (falls_plan HQ1.out _), p.2⟩
              go_upto_region 18 with (first
                | (go_at_call 28; refine (HPL.out _ _ _ (plan_heap W Y _ _ _) (plan_below HBLW.out HYY.out _ _)).mono ?_; rintro e w5 ⟨rfl, d1, HQ2, hl5⟩)
                | fail)
              have HT2 := Lib.hid hl5
              clear hl5 k0 k1' k2' zf
              have hT2 := HT2.out
              have c0 := ((hT2.ld.now.below.below (Nat.le_refl _) (fun k hk => hk)).cell (p := ⟨b, o + i, none⟩) (World.cell_lt C0.out)).trans C0.out
              have HLE : Hid ((acc).length ≤ 65536) := Lib.hid (by have h1 := HQ2.out.next; have h2 := HQ2.out.nx; have h3 := HQ2.out.f1; omega)
              have HLE2 : Hid ((acc ++ [s]).length ≤ 65536) := Lib.hid (by have h1 := HQ2.out.next; have h2 := HQ2.out.nx; have h3 := HQ2.out.f1; rw [List.length_append, List.length_singleton]; omega)
              have HNE : Hid (decide (acc ++ [s] = acc) = false) := Lib.hid (by
                rw [decide_eq_false_iff_not]
                intro h
                have := congrArg List.length h
                rw [List.length_append, List.length_singleton] at this
                omega)
              have had := lt_add hT2 s (by have := HS5.out; omega)
              rcases falls_add HQ2.out (by omega) (lt_bytes hT2) HS5.out with ⟨d2, g2, eadd, HP2⟩ | eadd | ⟨d2, eadd, -, HP2⟩
              · rw [eadd] at had
                have HAD := Lib.hid had
                clear had eadd
                go_wp2_with (first
                  | (go_at_call 18; (with_reducible refine (HFW.out _).mono ?_); rintro e w5 ⟨rfl, rfl⟩)
                  | (go_at_call 20; (with_reducible refine HAD.out.mono ?_); rintro e w6 ⟨rfl, hl6⟩; obtain ⟨v7, w7, hr7, hb7⟩ := run_copy_text hl6.texts HLE.out 27; obtain ⟨v8, w8, hr8, hb8⟩ := tb_append hb7 s HLE.out 27; have hl8 := hl6.other hb8)
                  | (at_builtin; refine Lib.wpList_append_run _ rfl _ _ _ _ rfl _ _ rfl rfl _ _ hr7 ?_)
                  | (at_builtin; refine Lib.wpList_append_run _ rfl _ _ _ _ rfl _ _ rfl rfl _ _ hr8 ?_)
                  | fail)
                have hinc := HINC.out
                go_roundw
                case rel => exact ⟨i + 1, acc ++ [s], d2, g2, first, G, Lib.hid ⟨HP2, hg2⟩, hg1, rfl, rfl, rfl, Lib.hid hl8⟩
                case measure =>
                  (try rw [hinc])
                  exact HM.out
              · rw [eadd] at had
                have HAD := Lib.hid had
                clear had eadd
                go_wp2_with (first
                  | (go_at_call 18; (with_reducible refine (HFW.out _).mono ?_); rintro e w5 ⟨rfl, rfl⟩)
                  | (go_at_call 20; (with_reducible refine HAD.out.mono ?_); rintro e w6 ⟨rfl, hl6⟩)
                  | fail)
                have hinc := HINC.out
                go_roundw
                case rel => exact ⟨i + 1, acc, d1, g, first, G, Lib.hid ⟨falls_more HQ2.out, hg2⟩, hg1, rfl, rfl, rfl, Lib.hid hl6⟩
                case measure =>
                  (try rw [hinc])
                  exact HM.out
              · rw [eadd] at had
                have HAD := Lib.hid had
                clear had eadd
                rcases HP2 with HP2 | ⟨g3, HP2⟩
                · have hO := falls_open HP2 (by omega)
                  have hnf := HP2.next; have hnx := HP2.nx; have hf1 := HP2.f1; have hlen := HP2.len
                  have hop := fun wn v (hb : LT (fun k => w.heap.size ≤ k) w wn G (w.heap.size + 2) w.heap.size (w.heap.size + 1) ({ d2 with plan := [], off := false } : Dv) g v acc) => lt_open hb (fun k hk => Nat.le_trans hb.ld.now.below.size hk) rfl 0 14 (by omega) (by rw [hlen]; omega) first (by omega) (by omega)
                  rw [hO] at hop
                  have HOP := Lib.hid hop
                  have HPN := Lib.hid (fun wn v (hb : LT (fun k => w.heap.size ≤ k) w wn G (w.heap.size + 2) w.heap.size (w.heap.size + 1) d2 g v acc) => lt_plan_none hb)
                  have HUP := Lib.hid (fun wn v (hb : LT (fun k => w.heap.size ≤ k) w wn G (w.heap.size + 2) w.heap.size (w.heap.size + 1) ({ d2 with plan := [] } : Dv) g v acc) => lt_up hb)
                  clear hO hop hnf hnx hf1 hlen
                  go_wp2_with (first
                    | (go_at_call 18; (with_reducible refine (HFW.out _).mono ?_); rintro e w5 ⟨rfl, rfl⟩)
                    | (go_at_call 20; (with_reducible refine HAD.out.mono ?_); rintro e w6 ⟨rfl, hl6⟩)
                    | (go_at_call 28; (with_reducible refine (HPN.out _ _ hl6).mono ?_); rintro e w7 ⟨rfl, hl7⟩)
                    | (go_at_call 29; (with_reducible refine (HUP.out _ _ hl7).mono ?_); rintro e w8 ⟨rfl, hl8⟩)
                    | (go_at_call 15; refine (HOP.out _ _ hl8).mono ?_; rintro e w9 ⟨v9, rfl, hl9, ht9⟩; obtain ⟨v10, w10, hr10, hb10⟩ := run_copy_text ht9 HLE.out 27; obtain ⟨v11, w11, hr11, hb11⟩ := tb_append hb10 s HLE.out 27; have hl11 := hl9.on hb11.below; have hs1 := sameT_any acc acc _ _ w11 hl11.texts.seen (ht9.on hb11.below).seen HLE.out; rw [decide_eq_true rfl] at hs1)
                    | (at_builtin; refine Lib.wpList_append_run _ rfl _ _ _ _ rfl _ _ rfl rfl _ _ hr10 ?_)
                    | (at_builtin; refine Lib.wpList_append_run _ rfl _ _ _ _ rfl _ _ rfl rfl _ _ hr11 ?_)
                    | (go_at_call 23; (with_reducible refine hs1.mono ?_); rintro e w12 ⟨rfl, hb12⟩; have hl12 := hl11.on hb12)
                    | fail)
                  have hinc := HINC.out
                  go_roundw
                  case rel => exact ⟨i + 1, acc, ({ d2 with plan := [], off := false } : Dv), g, first, w8.heap.size, Lib.hid ⟨HP2, hg2⟩, hg1, rfl, rfl, rfl, Lib.hid hl12⟩
                  case measure =>
                    (try rw [hinc])
                    exact HM.out
                · have hO := falls_open HP2 (by omega)
                  have hnf := HP2.next; have hnx := HP2.nx; have hf1 := HP2.f1; have hlen := HP2.len
                  have hop := fun wn v (hb : LT (fun k => w.heap.size ≤ k) w wn G (w.heap.size + 2) w.heap.size (w.heap.size + 1) ({ d2 with plan := [], off := false } : Dv) g v acc) => lt_open hb (fun k hk => Nat.le_trans hb.ld.now.below.size hk) rfl 0 14 (by omega) (by rw [hlen]; omega) first (by omega) (by omega)
                  rw [hO] at hop
                  have HOP := Lib.hid hop
                  have HPN := Lib.hid (fun wn v (hb : LT (fun k => w.heap.size ≤ k) w wn G (w.heap.size + 2) w.heap.size (w.heap.size + 1) d2 g v acc) => lt_plan_none hb)
                  have HUP := Lib.hid (fun wn v (hb : LT (fun k => w.heap.size ≤ k) w wn G (w.heap.size + 2) w.heap.size (w.heap.size + 1) ({ d2 with plan := [] } : Dv) g v acc) => lt_up hb)
                  clear hO hop hnf hnx hf1 hlen
                  go_wp2_with (first
                    | (go_at_call 18; (with_reducible refine (HFW.out _).mono ?_); rintro e w5 ⟨rfl, rfl⟩)
                    | (go_at_call 20; (with_reducible refine HAD.out.mono ?_); rintro e w6 ⟨rfl, hl6⟩)
                    | (go_at_call 28; (with_reducible refine (HPN.out _ _ hl6).mono ?_); rintro e w7 ⟨rfl, hl7⟩)
                    | (go_at_call 29; (with_reducible refine (HUP.out _ _ hl7).mono ?_); rintro e w8 ⟨rfl, hl8⟩)
                    | (go_at_call 15; refine (HOP.out _ _ hl8).mono ?_; rintro e w9 ⟨v9, rfl, hl9, ht9⟩; obtain ⟨v10, w10, hr10, hb10⟩ := run_copy_text ht9 HLE.out 27; obtain ⟨v11, w11, hr11, hb11⟩ := tb_append hb10 s HLE.out 27; have hl11 := hl9.on hb11.below; have hs1 := sameT_any (acc ++ [s]) acc _ _ w11 hl11.texts.seen (ht9.on hb11.below).seen HLE2.out; rw [HNE.out] at hs1)
                    | (at_builtin; refine Lib.wpList_append_run _ rfl _ _ _ _ rfl _ _ rfl rfl _ _ hr10 ?_)
                    | (at_builtin; refine Lib.wpList_append_run _ rfl _ _ _ _ rfl _ _ rfl rfl _ _ hr11 ?_)
                    | (go_at_call 23; (with_reducible refine hs1.mono ?_); rintro e w12 ⟨rfl, hb12⟩; have hl12 := hl11.on hb12; have hs2 := sameT_any (acc ++ [s]) (acc ++ [s]) _ _ w12 hl12.texts.seen (hb11.on hb12).texts.seen HLE2.out; rw [decide_eq_true rfl] at hs2)
                    | (go_at_call 23; (with_reducible refine hs2.mono ?_); rintro e w13 ⟨rfl, hb13⟩; have hl13 := hl12.on hb13)
                    | fail)
                  have hinc := HINC.out
                  go_roundw
                  case rel => exact ⟨i + 1, acc ++ [s], ({ d2 with plan := [], off := false } : Dv), g3, first, w8.heap.size, Lib.hid ⟨HP2, hg2⟩, hg1, rfl, rfl, rfl, Lib.hid hl13⟩
                  case measure =>
                    (try rw [hinc])
                    exact HM.out

            · have n1 : decide (f.at_ < 0) = false := by simp; omega
              go_upto_region 14 with fail
              generalize hY : wr.heap.size = Y at hrow hblW ⊢
              have hYX : wr.heap.size ≤ Y := Nat.le_of_eq hY
              have hblX : Below wr.heap.size wr (wr.alloc (.cells #[.int .i64 f.at_, .int .u64 (f.keep : Int), .int .i64 f.torn] 40)) := by rw [hY]; exact hblW
              generalize wr.alloc (.cells #[.int .i64 f.at_, .int .u64 (f.keep : Int), .int .i64 f.torn] 40) = W at hrow hblW hblX ⊢
              have k00 : W.cell? ⟨Y, 0, none⟩ = some (.int .i64 f.at_) := by rw [cell_of_row _ _ _ _ _ _ hrow]; rfl
              go_upto_region 16 with fail
              clear k00 n1 hneg hblW
              have hblW := hblX
              clear hblX
              obtain ⟨k0, k1', k2'⟩ : W.cell? ⟨Y, 0, none⟩ = some (.int .i64 (f.at_)) ∧ W.cell? ⟨Y, 1, none⟩ = some (.int .u64 (f.keep : Int)) ∧ W.cell? ⟨Y, 2, none⟩ = some (.int .i64 f.torn) := by
                simp only [cell_of_row _ _ _ _ _ _ hrow]
                exact ⟨rfl, rfl, rfl⟩
              have zf : W.frozen? ⟨Y, 0, none⟩ = false := by simp [World.frozen?, hrow]
              have hTW := HT1.out.on hblW
              obtain ⟨pv, hd⟩ := hTW.ld.now.dev
              have HST := Lib.hid (steps_any hd.drew)
              have HTW := Lib.hid hTW
              have HYY := Lib.hid hYX
              have HBLW := Lib.hid hblW
              clear hd hTW hrow hblW hYX
              refine region_tail 7 (by kernel_rfl) (by kernel_rfl) ?_
              simp only [List.take_succ_cons, List.take_zero, List.drop_succ_cons, List.drop_zero]
              repeat still_step
              still_call (HST.out.mono (fun e w1 p => ⟨p.1, p.2.symm⟩))
              repeat still_step
              refine wpStill_nil ?_
              have HPL : Hid (∀ (E : Int) (wp : World) (bb : Nat), wp.heap[bb]? = some (.cells #[.int .i64 E, .int .u64 (f.keep : Int), .int .i64 f.torn] 40 (0, 0)) → Below wr.heap.size wr wp →
                  Calls Try.prog 28 #[.pointer (some ⟨w.heap.size + 2, 0, none⟩), .slice (some ⟨bb, 0, none⟩) 1 1] wp fun e w' => e = .returned (.tuple #[]) ∧ ∃ d1, Hid (FallsI d1 g acc first i) ∧ LT (fun k => w.heap.size ≤ k) w w' G (w.heap.size + 2) w.heap.size (w.heap.size + 1) d1 g _ acc) := Lib.hid fun E wp bb hbb hbe =>
                (lt_plan_one (f := ⟨E, f.keep, f.torn⟩) (HT1.out.on hbe) hbb HKE.out 1).mono fun e w' p => ⟨p.1, _, Lib.hid (falls_plan HQ1.out _), p.2⟩
              go_upto_region 18 with (first
                | (go_at_call 28; refine (HPL.out _ _ _ (plan_heap W Y _ _ _) (plan_below HBLW.out HYY.out _ _)).mono ?_; rintro e w5 ⟨rfl, d1, HQ2, hl5⟩)
                | fail)
              have HT2 := Lib.hid hl5
              clear hl5 k0 k1' k2' zf
              have hT2 := HT2.out
              have c0 := ((hT2.ld.now.below.below (Nat.le_refl _) (fun k hk => hk)).cell (p := ⟨b, o + i, none⟩) (World.cell_lt C0.out)).trans C0.out
              have HLE : Hid ((acc).length ≤ 65536) := Lib.hid (by have h1 := HQ2.out.next; have h2 := HQ2.out.nx; have h3 := HQ2.out.f1; omega)
              have HLE2 : Hid ((acc ++ [s]).length ≤ 65536) := Lib.hid (by have h1 := HQ2.out.next; have h2 := HQ2.out.nx; have h3 := HQ2.out.f1; rw [List.length_append, List.length_singleton]; omega)
              have HNE : Hid (decide (acc ++ [s] = acc) = false) := Lib.hid (by
                rw [decide_eq_false_iff_not]
                intro h
                have := congrArg List.length h
                rw [List.length_append, List.length_singleton] at this
                omega)
              have had := lt_add hT2 s (by have := HS5.out; omega)
              rcases falls_add HQ2.out (by omega) (lt_bytes hT2) HS5.out with ⟨d2, g2, eadd, HP2⟩ | eadd | ⟨d2, eadd, -, HP2⟩
              · rw [eadd] at had
                have HAD := Lib.hid had
                clear had eadd
                go_wp2_with (first
                  | (go_at_call 18; (with_reducible refine (HFW.out _).mono ?_); rintro e w5 ⟨rfl, rfl⟩)
                  | (go_at_call 20; (with_reducible refine HAD.out.mono ?_); rintro e w6 ⟨rfl, hl6⟩; obtain ⟨v7, w7, hr7, hb7⟩ := run_copy_text hl6.texts HLE.out 27; obtain ⟨v8, w8, hr8, hb8⟩ := tb_append hb7 s HLE.out 27; have hl8 := hl6.other hb8)
                  | (at_builtin; refine Lib.wpList_append_run _ rfl _ _ _ _ rfl _ _ rfl rfl _ _ hr7 ?_)
                  | (at_builtin; refine Lib.wpList_append_run _ rfl _ _ _ _ rfl _ _ rfl rfl _ _ hr8 ?_)
                  | fail)
                have hinc := HINC.out
                go_roundw
                case rel => exact ⟨i + 1, acc ++ [s], d2, g2, first, G, Lib.hid ⟨HP2, hg2⟩, hg1, rfl, rfl, rfl, Lib.hid hl8⟩
                case measure =>
                  (try rw [hinc])
                  exact HM.out
              · rw [eadd] at had
                have HAD := Lib.hid had
                clear had eadd
                go_wp2_with (first
                  | (go_at_call 18; (with_reducible refine (HFW.out _).mono ?_); rintro e w5 ⟨rfl, rfl⟩)
                  | (go_at_call 20; (with_reducible refine HAD.out.mono ?_); rintro e w6 ⟨rfl, hl6⟩)
                  | fail)
                have hinc := HINC.out
                go_roundw
                case rel => exact ⟨i + 1, acc, d1, g, first, G, Lib.hid ⟨falls_more HQ2.out, hg2⟩, hg1, rfl, rfl, rfl, Lib.hid hl6⟩
                case measure =>
                  (try rw [hinc])
                  exact HM.out
              · rw [eadd] at had
                have HAD := Lib.hid had
                clear had eadd
                rcases HP2 with HP2 | ⟨g3, HP2⟩
                · have hO := falls_open HP2 (by omega)
                  have hnf := HP2.next; have hnx := HP2.nx; have hf1 := HP2.f1; have hlen := HP2.len
                  have hop := fun wn v (hb : LT (fun k => w.heap.size ≤ k) w wn G (w.heap.size + 2) w.heap.size (w.heap.size + 1) ({ d2 with plan := [], off := false } : Dv) g v acc) => lt_open hb (fun k hk => Nat.le_trans hb.ld.now.below.size hk) rfl 0 14 (by omega) (by rw [hlen]; omega) first (by omega) (by omega)
                  rw [hO] at hop
                  have HOP := Lib.hid hop
                  have HPN := Lib.hid (fun wn v (hb : LT (fun k => w.heap.size ≤ k) w wn G (w.heap.size + 2) w.heap.size (w.heap.size + 1) d2 g v acc) => lt_plan_none hb)
                  have HUP := Lib.hid (fun wn v (hb : LT (fun k => w.heap.size ≤ k) w wn G (w.heap.size + 2) w.heap.size (w.heap.size + 1) ({ d2 with plan := [] } : Dv) g v acc) => lt_up hb)
                  clear hO hop hnf hnx hf1 hlen
                  go_wp2_with (first
                    | (go_at_call 18; (with_reducible refine (HFW.out _).mono ?_); rintro e w5 ⟨rfl, rfl⟩)
                    | (go_at_call 20; (with_reducible refine HAD.out.mono ?_); rintro e w6 ⟨rfl, hl6⟩)
                    | (go_at_call 28; (with_reducible refine (HPN.out _ _ hl6).mono ?_); rintro e w7 ⟨rfl, hl7⟩)
                    | (go_at_call 29; (with_reducible refine (HUP.out _ _ hl7).mono ?_); rintro e w8 ⟨rfl, hl8⟩)
                    | (go_at_call 15; refine (HOP.out _ _ hl8).mono ?_; rintro e w9 ⟨v9, rfl, hl9, ht9⟩; obtain ⟨v10, w10, hr10, hb10⟩ := run_copy_text ht9 HLE.out 27; obtain ⟨v11, w11, hr11, hb11⟩ := tb_append hb10 s HLE.out 27; have hl11 := hl9.on hb11.below; have hs1 := sameT_any acc acc _ _ w11 hl11.texts.seen (ht9.on hb11.below).seen HLE.out; rw [decide_eq_true rfl] at hs1)
                    | (at_builtin; refine Lib.wpList_append_run _ rfl _ _ _ _ rfl _ _ rfl rfl _ _ hr10 ?_)
                    | (at_builtin; refine Lib.wpList_append_run _ rfl _ _ _ _ rfl _ _ rfl rfl _ _ hr11 ?_)
                    | (go_at_call 23; (with_reducible refine hs1.mono ?_); rintro e w12 ⟨rfl, hb12⟩; have hl12 := hl11.on hb12)
                    | fail)
                  have hinc := HINC.out
                  go_roundw
                  case rel => exact ⟨i + 1, acc, ({ d2 with plan := [], off := false } : Dv), g, first, w8.heap.size, Lib.hid ⟨HP2, hg2⟩, hg1, rfl, rfl, rfl, Lib.hid hl12⟩
                  case measure =>
                    (try rw [hinc])
                    exact HM.out
                · have hO := falls_open HP2 (by omega)
                  have hnf := HP2.next; have hnx := HP2.nx; have hf1 := HP2.f1; have hlen := HP2.len
                  have hop := fun wn v (hb : LT (fun k => w.heap.size ≤ k) w wn G (w.heap.size + 2) w.heap.size (w.heap.size + 1) ({ d2 with plan := [], off := false } : Dv) g v acc) => lt_open hb (fun k hk => Nat.le_trans hb.ld.now.below.size hk) rfl 0 14 (by omega) (by rw [hlen]; omega) first (by omega) (by omega)
                  rw [hO] at hop
                  have HOP := Lib.hid hop
                  have HPN := Lib.hid (fun wn v (hb : LT (fun k => w.heap.size ≤ k) w wn G (w.heap.size + 2) w.heap.size (w.heap.size + 1) d2 g v acc) => lt_plan_none hb)
                  have HUP := Lib.hid (fun wn v (hb : LT (fun k => w.heap.size ≤ k) w wn G (w.heap.size + 2) w.heap.size (w.heap.size + 1) ({ d2 with plan := [] } : Dv) g v acc) => lt_up hb)
                  clear hO hop hnf hnx hf1 hlen
                  go_wp2_with (first
                    | (go_at_call 18; (with_reducible refine (HFW.out _).mono ?_); rintro e w5 ⟨rfl, rfl⟩)
                    | (go_at_call 20; (with_reducible refine HAD.out.mono ?_); rintro e w6 ⟨rfl, hl6⟩)
                    | (go_at_call 28; (with_reducible refine (HPN.out _ _ hl6).mono ?_); rintro e w7 ⟨rfl, hl7⟩)
                    | (go_at_call 29; (with_reducible refine (HUP.out _ _ hl7).mono ?_); rintro e w8 ⟨rfl, hl8⟩)
                    | (go_at_call 15; refine (HOP.out _ _ hl8).mono ?_; rintro e w9 ⟨v9, rfl, hl9, ht9⟩; obtain ⟨v10, w10, hr10, hb10⟩ := run_copy_text ht9 HLE.out 27; obtain ⟨v11, w11, hr11, hb11⟩ := tb_append hb10 s HLE.out 27; have hl11 := hl9.on hb11.below; have hs1 := sameT_any (acc ++ [s]) acc _ _ w11 hl11.texts.seen (ht9.on hb11.below).seen HLE2.out; rw [HNE.out] at hs1)
                    | (at_builtin; refine Lib.wpList_append_run _ rfl _ _ _ _ rfl _ _ rfl rfl _ _ hr10 ?_)
                    | (at_builtin; refine Lib.wpList_append_run _ rfl _ _ _ _ rfl _ _ rfl rfl _ _ hr11 ?_)
                    | (go_at_call 23; (with_reducible refine hs1.mono ?_); rintro e w12 ⟨rfl, hb12⟩; have hl12 := hl11.on hb12; have hs2 := sameT_any (acc ++ [s]) (acc ++ [s]) _ _ w12 hl12.texts.seen (hb11.on hb12).texts.seen HLE2.out; rw [decide_eq_true rfl] at hs2)
                    | (go_at_call 23; (with_reducible refine hs2.mono ?_); rintro e w13 ⟨rfl, hb13⟩; have hl13 := hl12.on hb13)
                    | fail)
                  have hinc := HINC.out
                  go_roundw
                  case rel => exact ⟨i + 1, acc ++ [s], ({ d2 with plan := [], off := false } : Dv), g3, first, w8.heap.size, Lib.hid ⟨HP2, hg2⟩, hg1, rfl, rfl, rfl, Lib.hid hl13⟩
                  case measure =>
                    (try rw [hinc])
                    exact HM.out


          · have z3 : ¬ i < fs.length := hF
            go_upto_region 18 with fail
            clear z3 hF
            have HT2 := HT1
            have HQ2 := HQ1
            have hT2 := HT2.out
            have c0 := ((hT2.ld.now.below.below (Nat.le_refl _) (fun k hk => hk)).cell (p := ⟨b, o + i, none⟩) (World.cell_lt C0.out)).trans C0.out
            have HLE : Hid ((acc).length ≤ 65536) := Lib.hid (by have h1 := HQ2.out.next; have h2 := HQ2.out.nx; have h3 := HQ2.out.f1; omega)
            have HLE2 : Hid ((acc ++ [s]).length ≤ 65536) := Lib.hid (by have h1 := HQ2.out.next; have h2 := HQ2.out.nx; have h3 := HQ2.out.f1; rw [List.length_append, List.length_singleton]; omega)
            have HNE : Hid (decide (acc ++ [s] = acc) = false) := Lib.hid (by
              rw [decide_eq_false_iff_not]
              intro h
              have := congrArg List.length h
              rw [List.length_append, List.length_singleton] at this
              omega)
            have had := lt_add hT2 s (by have := HS5.out; omega)
            rcases falls_add HQ2.out (by omega) (lt_bytes hT2) HS5.out with ⟨d2, g2, eadd, HP2⟩ | eadd | ⟨d2, eadd, -, HP2⟩
            · rw [eadd] at had
              have HAD := Lib.hid had
              clear had eadd
              go_wp2_with (first
                | (go_at_call 18; (with_reducible refine (HFW.out _).mono ?_); rintro e w5 ⟨rfl, rfl⟩)
                | (go_at_call 20; (with_reducible refine HAD.out.mono ?_); rintro e w6 ⟨rfl, hl6⟩; obtain ⟨v7, w7, hr7, hb7⟩ := run_copy_text hl6.texts HLE.out 27; obtain ⟨v8, w8, hr8, hb8⟩ := tb_append hb7 s HLE.out 27; have hl8 := hl6.other hb8)
                | (at_builtin; refine Lib.wpList_append_run _ rfl _ _ _ _ rfl _ _ rfl rfl _ _ hr7 ?_)
                | (at_builtin; refine Lib.wpList_append_run _ rfl _ _ _ _ rfl _ _ rfl rfl _ _ hr8 ?_)
                | fail)
              have hinc := HINC.out
              go_roundw
              case rel => exact ⟨i + 1, acc ++ [s], d2, g2, first, G, Lib.hid ⟨HP2, hg2⟩, hg1, rfl, rfl, rfl, Lib.hid hl8⟩
              case measure =>
                (try rw [hinc])
                exact HM.out
            · rw [eadd] at had
              have HAD := Lib.hid had
              clear had eadd
              go_wp2_with (first
                | (go_at_call 18; (with_reducible refine (HFW.out _).mono ?_); rintro e w5 ⟨rfl, rfl⟩)
                | (go_at_call 20; (with_reducible refine HAD.out.mono ?_); rintro e w6 ⟨rfl, hl6⟩)
                | fail)
              have hinc := HINC.out
              go_roundw
              case rel => exact ⟨i + 1, acc, d, g, first, G, Lib.hid ⟨falls_more HQ2.out, hg2⟩, hg1, rfl, rfl, rfl, Lib.hid hl6⟩
              case measure =>
                (try rw [hinc])
                exact HM.out
            · rw [eadd] at had
              have HAD := Lib.hid had
              clear had eadd
              rcases HP2 with HP2 | ⟨g3, HP2⟩
              · have hO := falls_open HP2 (by omega)
                have hnf := HP2.next; have hnx := HP2.nx; have hf1 := HP2.f1; have hlen := HP2.len
                have hop := fun wn v (hb : LT (fun k => w.heap.size ≤ k) w wn G (w.heap.size + 2) w.heap.size (w.heap.size + 1) ({ d2 with plan := [], off := false } : Dv) g v acc) => lt_open hb (fun k hk => Nat.le_trans hb.ld.now.below.size hk) rfl 0 14 (by omega) (by rw [hlen]; omega) first (by omega) (by omega)
                rw [hO] at hop
                have HOP := Lib.hid hop
                have HPN := Lib.hid (fun wn v (hb : LT (fun k => w.heap.size ≤ k) w wn G (w.heap.size + 2) w.heap.size (w.heap.size + 1) d2 g v acc) => lt_plan_none hb)
                have HUP := Lib.hid (fun wn v (hb : LT (fun k => w.heap.size ≤ k) w wn G (w.heap.size + 2) w.heap.size (w.heap.size + 1) ({ d2 with plan := [] } : Dv) g v acc) => lt_up hb)
                clear hO hop hnf hnx hf1 hlen
                go_wp2_with (first
                  | (go_at_call 18; (with_reducible refine (HFW.out _).mono ?_); rintro e w5 ⟨rfl, rfl⟩)
                  | (go_at_call 20; (with_reducible refine HAD.out.mono ?_); rintro e w6 ⟨rfl, hl6⟩)
                  | (go_at_call 28; (with_reducible refine (HPN.out _ _ hl6).mono ?_); rintro e w7 ⟨rfl, hl7⟩)
                  | (go_at_call 29; (with_reducible refine (HUP.out _ _ hl7).mono ?_); rintro e w8 ⟨rfl, hl8⟩)
                  | (go_at_call 15; refine (HOP.out _ _ hl8).mono ?_; rintro e w9 ⟨v9, rfl, hl9, ht9⟩; obtain ⟨v10, w10, hr10, hb10⟩ := run_copy_text ht9 HLE.out 27; obtain ⟨v11, w11, hr11, hb11⟩ := tb_append hb10 s HLE.out 27; have hl11 := hl9.on hb11.below; have hs1 := sameT_any acc acc _ _ w11 hl11.texts.seen (ht9.on hb11.below).seen HLE.out; rw [decide_eq_true rfl] at hs1)
                  | (at_builtin; refine Lib.wpList_append_run _ rfl _ _ _ _ rfl _ _ rfl rfl _ _ hr10 ?_)
                  | (at_builtin; refine Lib.wpList_append_run _ rfl _ _ _ _ rfl _ _ rfl rfl _ _ hr11 ?_)
                  | (go_at_call 23; (with_reducible refine hs1.mono ?_); rintro e w12 ⟨rfl, hb12⟩; have hl12 := hl11.on hb12)
                  | fail)
                have hinc := HINC.out
                go_roundw
                case rel => exact ⟨i + 1, acc, ({ d2 with plan := [], off := false } : Dv), g, first, w8.heap.size, Lib.hid ⟨HP2, hg2⟩, hg1, rfl, rfl, rfl, Lib.hid hl12⟩
                case measure =>
                  (try rw [hinc])
                  exact HM.out
              · have hO := falls_open HP2 (by omega)
                have hnf := HP2.next; have hnx := HP2.nx; have hf1 := HP2.f1; have hlen := HP2.len
                have hop := fun wn v (hb : LT (fun k => w.heap.size ≤ k) w wn G (w.heap.size + 2) w.heap.size (w.heap.size + 1) ({ d2 with plan := [], off := false } : Dv) g v acc) => lt_open hb (fun k hk => Nat.le_trans hb.ld.now.below.size hk) rfl 0 14 (by omega) (by rw [hlen]; omega) first (by omega) (by omega)
                rw [hO] at hop
                have HOP := Lib.hid hop
                have HPN := Lib.hid (fun wn v (hb : LT (fun k => w.heap.size ≤ k) w wn G (w.heap.size + 2) w.heap.size (w.heap.size + 1) d2 g v acc) => lt_plan_none hb)
                have HUP := Lib.hid (fun wn v (hb : LT (fun k => w.heap.size ≤ k) w wn G (w.heap.size + 2) w.heap.size (w.heap.size + 1) ({ d2 with plan := [] } : Dv) g v acc) => lt_up hb)
                clear hO hop hnf hnx hf1 hlen
                go_wp2_with (first
                  | (go_at_call 18; (with_reducible refine (HFW.out _).mono ?_); rintro e w5 ⟨rfl, rfl⟩)
                  | (go_at_call 20; (with_reducible refine HAD.out.mono ?_); rintro e w6 ⟨rfl, hl6⟩)
                  | (go_at_call 28; (with_reducible refine (HPN.out _ _ hl6).mono ?_); rintro e w7 ⟨rfl, hl7⟩)
                  | (go_at_call 29; (with_reducible refine (HUP.out _ _ hl7).mono ?_); rintro e w8 ⟨rfl, hl8⟩)
                  | (go_at_call 15; refine (HOP.out _ _ hl8).mono ?_; rintro e w9 ⟨v9, rfl, hl9, ht9⟩; obtain ⟨v10, w10, hr10, hb10⟩ := run_copy_text ht9 HLE.out 27; obtain ⟨v11, w11, hr11, hb11⟩ := tb_append hb10 s HLE.out 27; have hl11 := hl9.on hb11.below; have hs1 := sameT_any (acc ++ [s]) acc _ _ w11 hl11.texts.seen (ht9.on hb11.below).seen HLE2.out; rw [HNE.out] at hs1)
                  | (at_builtin; refine Lib.wpList_append_run _ rfl _ _ _ _ rfl _ _ rfl rfl _ _ hr10 ?_)
                  | (at_builtin; refine Lib.wpList_append_run _ rfl _ _ _ _ rfl _ _ rfl rfl _ _ hr11 ?_)
                  | (go_at_call 23; (with_reducible refine hs1.mono ?_); rintro e w12 ⟨rfl, hb12⟩; have hl12 := hl11.on hb12; have hs2 := sameT_any (acc ++ [s]) (acc ++ [s]) _ _ w12 hl12.texts.seen (hb11.on hb12).texts.seen HLE2.out; rw [decide_eq_true rfl] at hs2)
                  | (go_at_call 23; (with_reducible refine hs2.mono ?_); rintro e w13 ⟨rfl, hb13⟩; have hl13 := hl12.on hb13)
                  | fail)
                have hinc := HINC.out
                go_roundw
                case rel => exact ⟨i + 1, acc ++ [s], ({ d2 with plan := [], off := false } : Dv), g3, first, w8.heap.size, Lib.hid ⟨HP2, hg2⟩, hg1, rfl, rfl, rfl, Lib.hid hl13⟩
                case measure =>
                  (try rw [hinc])
                  exact HM.out


        · have HPR : Hid (FallsI d { g with at_ := g.from_ } [] g.next i) := Lib.hid (falls_reset HP.out.1)
          have hfr : g.from_ ≤ g.to_ := by rw [HP.out.1.from_]; omega
          have HRE := Lib.hid (fun wn v (hb : LT (fun k => w.heap.size ≤ k) w wn G (w.heap.size + 2) w.heap.size (w.heap.size + 1) d g v acc) => lt_reset hb hfr)
          have hnx1 : ({ g with at_ := g.from_ } : Lg).next = g.next := rfl
          have hT := HT.out
          generalize ({ g with at_ := g.from_ } : Lg) = g1 at HPR HRE hnx1
          have HNX := Lib.hid (fun wn v (hb : LT (fun k => w.heap.size ≤ k) w wn G (w.heap.size + 2) w.heap.size (w.heap.size + 1) d g1 v ([] : List Sec)) => lt_next hb)
          clear hfr
          go_upto_region 12 with (first
            | (go_at_call 17; (with_reducible refine (HRE.out _ _ hT).mono ?_); rintro e w3 ⟨rfl, hl3⟩; have hl4 := hl3.none)
            | (go_at_call 25; (with_reducible refine (HNX.out _ _ hl4).mono ?_); rintro e w4 ⟨rfl, hl5⟩)
            | fail)
          have HT1 := Lib.hid hl5
          have HQ1 := HPR
          obtain ⟨acc1, hac⟩ : ∃ x : List Sec, x = [] := ⟨[], rfl⟩
          rw [← hac] at HT1 HQ1
          generalize Value.slice (some ⟨w3.heap.size, 0, none⟩) 0 0 = vh at HT1 ⊢
          clear hac hT hl3 hl4 hl5 HPR hnx1
          have HBX : Hid (Below w.heap.size w _) := Lib.hid (HT1.out.ld.now.below.below (Nat.le_refl _) (fun k hk => hk))
          by_cases hF : i < fs.length
          · have z3 : (i : Int) < (fs.length : Int) := by omega
            obtain ⟨b1, o1, eA1, hkeep, q0, q1, q2⟩ := HX1.out i fs[i] (List.getElem?_eq_getElem hF)
            subst eA1
            have y0 := cell_below HBX.out q0
            have y1 := cell_below HBX.out q1
            have y2 := cell_below HBX.out q2
            clear q0 q1 q2
            generalize fs[i] = f at hkeep y0 y1 y2
            have HKE := Lib.hid hkeep
            clear hkeep
            have hrow := heap_alloc_last w4 (.cells #[.int .i64 f.at_, .int .u64 (f.keep : Int), .int .i64 f.torn] 40)
            have hblW : Below w4.heap.size w4 (w4.alloc (.cells #[.int .i64 f.at_, .int .u64 (f.keep : Int), .int .i64 f.torn] 40)) := (Below.refl _ _).alloc (Nat.le_refl _) _
            by_cases hneg : f.at_ < 0
            · have n1 : decide (f.at_ < 0) = true := by simp [hneg]
              go_upto_region 14 with fail
              generalize hY : w4.heap.size = Y at hrow hblW ⊢
              have hYX : w4.heap.size ≤ Y := Nat.le_of_eq hY
              generalize w4.alloc (.cells #[.int .i64 f.at_, .int .u64 (f.keep : Int), .int .i64 f.torn] 40) = W0 at hrow hblW ⊢
              have zf0 : W0.frozen? ⟨Y, 0, none⟩ = false := by simp [World.frozen?, hrow]
              have k00 : W0.cell? ⟨Y, 0, none⟩ = some (.int .i64 f.at_) := by rw [cell_of_row _ _ _ _ _ _ hrow]; rfl
              have hblX : Below w4.heap.size w4 W0 := by rw [hY]; exact hblW
              have hrow2 := (heap_setCell_same W0 Y 0 _ _ (.int .i64 0) hrow)
              have hblW2 : Below w4.heap.size w4 (W0.setCell ⟨Y, 0, none⟩ (.int .i64 0)) := hblX.setCell (by rw [hY]; exact Nat.le_refl _) _
              clear hrow hblW
              go_upto_region 16 with fail
              have hrow : (W0.setCell ⟨Y, 0, none⟩ (.int .i64 0)).heap[Y]? = some (.cells #[.int .i64 0, .int .u64 (f.keep : Int), .int .i64 f.torn] 40 (0, 0)) := hrow2.trans rfl
              clear hrow2 k00 zf0 hblX
              generalize W0.setCell ⟨Y, 0, none⟩ (.int .i64 0) = W at hrow hblW2 ⊢
              have hblW := hblW2
              clear hblW2 n1 hneg
              obtain ⟨k0, k1', k2'⟩ : W.cell? ⟨Y, 0, none⟩ = some (.int .i64 (0)) ∧ W.cell? ⟨Y, 1, none⟩ = some (.int .u64 (f.keep : Int)) ∧ W.cell? ⟨Y, 2, none⟩ = some (.int .i64 f.torn) := by
                simp only [cell_of_row _ _ _ _ _ _ hrow]
                exact ⟨rfl, rfl, rfl⟩
              have zf : W.frozen? ⟨Y, 0, none⟩ = false := by simp [World.frozen?, hrow]
              have hTW := HT1.out.on hblW
              obtain ⟨pv, hd⟩ := hTW.ld.now.dev
              have HST := Lib.hid (steps_any hd.drew)
              have HTW := Lib.hid hTW
              have HYY := Lib.hid hYX
              have HBLW := Lib.hid hblW
              clear hd hTW hrow hblW hYX
              refine region_tail 7 (by kernel_rfl) (by kernel_rfl) ?_
              simp only [List.take_succ_cons, List.take_zero, List.drop_succ_cons, List.drop_zero]
              repeat still_step
              still_call (HST.out.mono (fun e w1 p => ⟨p.1, p.2.symm⟩))
              repeat still_step
              refine wpStill_nil ?_
              have HPL : Hid (∀ (E : Int) (wp : World) (bb : Nat), wp.heap[bb]? = some (.cells #[.int .i64 E, .int .u64 (f.keep : Int), .int .i64 f.torn] 40 (0, 0)) → Below w4.heap.size w4 wp →
                  Calls Try.prog 28 #[.pointer (some ⟨w.heap.size + 2, 0, none⟩), .slice (some ⟨bb, 0, none⟩) 1 1] wp fun e w' => e = .returned (.tuple #[]) ∧ ∃ d1, Hid (FallsI d1 g1 acc1 g.next i) ∧ LT (fun k => w.heap.size ≤ k) w w' G (w.heap.size + 2) w.heap.size (w.heap.size + 1) d1 g1 _ acc1) := Lib.hid fun E wp bb hbb hbe =>
                (lt_plan_one (f := ⟨E, f.keep, f.torn⟩) (HT1.out.on hbe) hbb HKE.out 1).mono fun e w' p => ⟨p.1, _, Lib.hid (falls_plan HQ1.out _), p.2⟩
              go_upto_region 18 with (first
                | (go_at_call 28; refine (HPL.out _ _ _ (plan_heap W Y _ _ _) (plan_below HBLW.out HYY.out _ _)).mono ?_; rintro e w5 ⟨rfl, d1, HQ2, hl5⟩)
                | fail)
              have HT2 := Lib.hid hl5
              clear hl5 k0 k1' k2' zf
              have hT2 := HT2.out
              have c0 := ((hT2.ld.now.below.below (Nat.le_refl _) (fun k hk => hk)).cell (p := ⟨b, o + i, none⟩) (World.cell_lt C0.out)).trans C0.out
              have HLE : Hid ((acc1).length ≤ 65536) := Lib.hid (by have h1 := HQ2.out.next; have h2 := HQ2.out.nx; have h3 := HQ2.out.f1; omega)
              have HLE2 : Hid ((acc1 ++ [s]).length ≤ 65536) := Lib.hid (by have h1 := HQ2.out.next; have h2 := HQ2.out.nx; have h3 := HQ2.out.f1; rw [List.length_append, List.length_singleton]; omega)
              have HNE : Hid (decide (acc1 ++ [s] = acc1) = false) := Lib.hid (by
                rw [decide_eq_false_iff_not]
                intro h
                have := congrArg List.length h
                rw [List.length_append, List.length_singleton] at this
                omega)
              have had := lt_add hT2 s (by have := HS5.out; omega)
              rcases falls_add HQ2.out (by omega) (lt_bytes hT2) HS5.out with ⟨d2, g2, eadd, HP2⟩ | eadd | ⟨d2, eadd, -, HP2⟩
              · rw [eadd] at had
                have HAD := Lib.hid had
                clear had eadd
                go_wp2_with (first
                  | (go_at_call 18; (with_reducible refine (HFW.out _).mono ?_); rintro e w5 ⟨rfl, rfl⟩)
                  | (go_at_call 20; (with_reducible refine HAD.out.mono ?_); rintro e w6 ⟨rfl, hl6⟩; obtain ⟨v7, w7, hr7, hb7⟩ := run_copy_text hl6.texts HLE.out 27; obtain ⟨v8, w8, hr8, hb8⟩ := tb_append hb7 s HLE.out 27; have hl8 := hl6.other hb8)
                  | (at_builtin; refine Lib.wpList_append_run _ rfl _ _ _ _ rfl _ _ rfl rfl _ _ hr7 ?_)
                  | (at_builtin; refine Lib.wpList_append_run _ rfl _ _ _ _ rfl _ _ rfl rfl _ _ hr8 ?_)
                  | fail)
                have hinc := HINC.out
                go_roundw
                case rel => exact ⟨i + 1, acc1 ++ [s], d2, g2, g.next, G, Lib.hid ⟨HP2, hg2⟩, hg1, rfl, rfl, rfl, Lib.hid hl8⟩
                case measure =>
                  (try rw [hinc])
                  exact HM.out
              · rw [eadd] at had
                have HAD := Lib.hid had
                clear had eadd
                go_wp2_with (first
                  | (go_at_call 18; (with_reducible refine (HFW.out _).mono ?_); rintro e w5 ⟨rfl, rfl⟩)
                  | (go_at_call 20; (with_reducible refine HAD.out.mono ?_); rintro e w6 ⟨rfl, hl6⟩)
                  | fail)
                have hinc := HINC.out
                go_roundw
                case rel => exact ⟨i + 1, acc1, d1, g1, g.next, G, Lib.hid ⟨falls_more HQ2.out, hg2⟩, hg1, rfl, rfl, rfl, Lib.hid hl6⟩
                case measure =>
                  (try rw [hinc])
                  exact HM.out
              · rw [eadd] at had
                have HAD := Lib.hid had
                clear had eadd
                rcases HP2 with HP2 | ⟨g3, HP2⟩
                · have hO := falls_open HP2 (by omega)
                  have hnf := HP2.next; have hnx := HP2.nx; have hf1 := HP2.f1; have hlen := HP2.len
                  have hop := fun wn v (hb : LT (fun k => w.heap.size ≤ k) w wn G (w.heap.size + 2) w.heap.size (w.heap.size + 1) ({ d2 with plan := [], off := false } : Dv) g1 v acc1) => lt_open hb (fun k hk => Nat.le_trans hb.ld.now.below.size hk) rfl 0 14 (by omega) (by rw [hlen]; omega) g.next (by omega) (by omega)
                  rw [hO] at hop
                  have HOP := Lib.hid hop
                  have HPN := Lib.hid (fun wn v (hb : LT (fun k => w.heap.size ≤ k) w wn G (w.heap.size + 2) w.heap.size (w.heap.size + 1) d2 g1 v acc1) => lt_plan_none hb)
                  have HUP := Lib.hid (fun wn v (hb : LT (fun k => w.heap.size ≤ k) w wn G (w.heap.size + 2) w.heap.size (w.heap.size + 1) ({ d2 with plan := [] } : Dv) g1 v acc1) => lt_up hb)
                  clear hO hop hnf hnx hf1 hlen
                  go_wp2_with (first
                    | (go_at_call 18; (with_reducible refine (HFW.out _).mono ?_); rintro e w5 ⟨rfl, rfl⟩)
                    | (go_at_call 20; (with_reducible refine HAD.out.mono ?_); rintro e w6 ⟨rfl, hl6⟩)
                    | (go_at_call 28; (with_reducible refine (HPN.out _ _ hl6).mono ?_); rintro e w7 ⟨rfl, hl7⟩)
                    | (go_at_call 29; (with_reducible refine (HUP.out _ _ hl7).mono ?_); rintro e w8 ⟨rfl, hl8⟩)
                    | (go_at_call 15; refine (HOP.out _ _ hl8).mono ?_; rintro e w9 ⟨v9, rfl, hl9, ht9⟩; obtain ⟨v10, w10, hr10, hb10⟩ := run_copy_text ht9 HLE.out 27; obtain ⟨v11, w11, hr11, hb11⟩ := tb_append hb10 s HLE.out 27; have hl11 := hl9.on hb11.below; have hs1 := sameT_any acc1 acc1 _ _ w11 hl11.texts.seen (ht9.on hb11.below).seen HLE.out; rw [decide_eq_true rfl] at hs1)
                    | (at_builtin; refine Lib.wpList_append_run _ rfl _ _ _ _ rfl _ _ rfl rfl _ _ hr10 ?_)
                    | (at_builtin; refine Lib.wpList_append_run _ rfl _ _ _ _ rfl _ _ rfl rfl _ _ hr11 ?_)
                    | (go_at_call 23; (with_reducible refine hs1.mono ?_); rintro e w12 ⟨rfl, hb12⟩; have hl12 := hl11.on hb12)
                    | fail)
                  have hinc := HINC.out
                  go_roundw
                  case rel => exact ⟨i + 1, acc1, ({ d2 with plan := [], off := false } : Dv), g1, g.next, w8.heap.size, Lib.hid ⟨HP2, hg2⟩, hg1, rfl, rfl, rfl, Lib.hid hl12⟩
                  case measure =>
                    (try rw [hinc])
                    exact HM.out
                · have hO := falls_open HP2 (by omega)
                  have hnf := HP2.next; have hnx := HP2.nx; have hf1 := HP2.f1; have hlen := HP2.len
                  have hop := fun wn v (hb : LT (fun k => w.heap.size ≤ k) w wn G (w.heap.size + 2) w.heap.size (w.heap.size + 1) ({ d2 with plan := [], off := false } : Dv) g1 v acc1) => lt_open hb (fun k hk => Nat.le_trans hb.ld.now.below.size hk) rfl 0 14 (by omega) (by rw [hlen]; omega) g.next (by omega) (by omega)
                  rw [hO] at hop
                  have HOP := Lib.hid hop
                  have HPN := Lib.hid (fun wn v (hb : LT (fun k => w.heap.size ≤ k) w wn G (w.heap.size + 2) w.heap.size (w.heap.size + 1) d2 g1 v acc1) => lt_plan_none hb)
                  have HUP := Lib.hid (fun wn v (hb : LT (fun k => w.heap.size ≤ k) w wn G (w.heap.size + 2) w.heap.size (w.heap.size + 1) ({ d2 with plan := [] } : Dv) g1 v acc1) => lt_up hb)
                  clear hO hop hnf hnx hf1 hlen
                  go_wp2_with (first
                    | (go_at_call 18; (with_reducible refine (HFW.out _).mono ?_); rintro e w5 ⟨rfl, rfl⟩)
                    | (go_at_call 20; (with_reducible refine HAD.out.mono ?_); rintro e w6 ⟨rfl, hl6⟩)
                    | (go_at_call 28; (with_reducible refine (HPN.out _ _ hl6).mono ?_); rintro e w7 ⟨rfl, hl7⟩)
                    | (go_at_call 29; (with_reducible refine (HUP.out _ _ hl7).mono ?_); rintro e w8 ⟨rfl, hl8⟩)
                    | (go_at_call 15; refine (HOP.out _ _ hl8).mono ?_; rintro e w9 ⟨v9, rfl, hl9, ht9⟩; obtain ⟨v10, w10, hr10, hb10⟩ := run_copy_text ht9 HLE.out 27; obtain ⟨v11, w11, hr11, hb11⟩ := tb_append hb10 s HLE.out 27; have hl11 := hl9.on hb11.below; have hs1 := sameT_any (acc1 ++ [s]) acc1 _ _ w11 hl11.texts.seen (ht9.on hb11.below).seen HLE2.out; rw [HNE.out] at hs1)
                    | (at_builtin; refine Lib.wpList_append_run _ rfl _ _ _ _ rfl _ _ rfl rfl _ _ hr10 ?_)
                    | (at_builtin; refine Lib.wpList_append_run _ rfl _ _ _ _ rfl _ _ rfl rfl _ _ hr11 ?_)
                    | (go_at_call 23; (with_reducible refine hs1.mono ?_); rintro e w12 ⟨rfl, hb12⟩; have hl12 := hl11.on hb12; have hs2 := sameT_any (acc1 ++ [s]) (acc1 ++ [s]) _ _ w12 hl12.texts.seen (hb11.on hb12).texts.seen HLE2.out; rw [decide_eq_true rfl] at hs2)
                    | (go_at_call 23; (with_reducible refine hs2.mono ?_); rintro e w13 ⟨rfl, hb13⟩; have hl13 := hl12.on hb13)
                    | fail)
                  have hinc := HINC.out
                  go_roundw
                  case rel => exact ⟨i + 1, acc1 ++ [s], ({ d2 with plan := [], off := false } : Dv), g3, g.next, w8.heap.size, Lib.hid ⟨HP2, hg2⟩, hg1, rfl, rfl, rfl, Lib.hid hl13⟩
                  case measure =>
                    (try rw [hinc])
                    exact HM.out

            · have n1 : decide (f.at_ < 0) = false := by simp; omega
              go_upto_region 14 with fail
              generalize hY : w4.heap.size = Y at hrow hblW ⊢
              have hYX : w4.heap.size ≤ Y := Nat.le_of_eq hY
              have hblX : Below w4.heap.size w4 (w4.alloc (.cells #[.int .i64 f.at_, .int .u64 (f.keep : Int), .int .i64 f.torn] 40)) := by rw [hY]; exact hblW
              generalize w4.alloc (.cells #[.int .i64 f.at_, .int .u64 (f.keep : Int), .int .i64 f.torn] 40) = W at hrow hblW hblX ⊢
              have k00 : W.cell? ⟨Y, 0, none⟩ = some (.int .i64 f.at_) := by rw [cell_of_row _ _ _ _ _ _ hrow]; rfl
              go_upto_region 16 with fail
              clear k00 n1 hneg hblW
              have hblW := hblX
              clear hblX
              obtain ⟨k0, k1', k2'⟩ : W.cell? ⟨Y, 0, none⟩ = some (.int .i64 (f.at_)) ∧ W.cell? ⟨Y, 1, none⟩ = some (.int .u64 (f.keep : Int)) ∧ W.cell? ⟨Y, 2, none⟩ = some (.int .i64 f.torn) := by
                simp only [cell_of_row _ _ _ _ _ _ hrow]
                exact ⟨rfl, rfl, rfl⟩
              have zf : W.frozen? ⟨Y, 0, none⟩ = false := by simp [World.frozen?, hrow]
              have hTW := HT1.out.on hblW
              obtain ⟨pv, hd⟩ := hTW.ld.now.dev
              have HST := Lib.hid (steps_any hd.drew)
              have HTW := Lib.hid hTW
              have HYY := Lib.hid hYX
              have HBLW := Lib.hid hblW
              clear hd hTW hrow hblW hYX
              refine region_tail 7 (by kernel_rfl) (by kernel_rfl) ?_
              simp only [List.take_succ_cons, List.take_zero, List.drop_succ_cons, List.drop_zero]
              repeat still_step
              still_call (HST.out.mono (fun e w1 p => ⟨p.1, p.2.symm⟩))
              repeat still_step
              refine wpStill_nil ?_
              have HPL : Hid (∀ (E : Int) (wp : World) (bb : Nat), wp.heap[bb]? = some (.cells #[.int .i64 E, .int .u64 (f.keep : Int), .int .i64 f.torn] 40 (0, 0)) → Below w4.heap.size w4 wp →
                  Calls Try.prog 28 #[.pointer (some ⟨w.heap.size + 2, 0, none⟩), .slice (some ⟨bb, 0, none⟩) 1 1] wp fun e w' => e = .returned (.tuple #[]) ∧ ∃ d1, Hid (FallsI d1 g1 acc1 g.next i) ∧ LT (fun k => w.heap.size ≤ k) w w' G (w.heap.size + 2) w.heap.size (w.heap.size + 1) d1 g1 _ acc1) := Lib.hid fun E wp bb hbb hbe =>
                (lt_plan_one (f := ⟨E, f.keep, f.torn⟩) (HT1.out.on hbe) hbb HKE.out 1).mono fun e w' p => ⟨p.1, _, Lib.hid (falls_plan HQ1.out _), p.2⟩
              go_upto_region 18 with (first
                | (go_at_call 28; refine (HPL.out _ _ _ (plan_heap W Y _ _ _) (plan_below HBLW.out HYY.out _ _)).mono ?_; rintro e w5 ⟨rfl, d1, HQ2, hl5⟩)
                | fail)
              have HT2 := Lib.hid hl5
              clear hl5 k0 k1' k2' zf
              have hT2 := HT2.out
              have c0 := ((hT2.ld.now.below.below (Nat.le_refl _) (fun k hk => hk)).cell (p := ⟨b, o + i, none⟩) (World.cell_lt C0.out)).trans C0.out
              have HLE : Hid ((acc1).length ≤ 65536) := Lib.hid (by have h1 := HQ2.out.next; have h2 := HQ2.out.nx; have h3 := HQ2.out.f1; omega)
              have HLE2 : Hid ((acc1 ++ [s]).length ≤ 65536) := Lib.hid (by have h1 := HQ2.out.next; have h2 := HQ2.out.nx; have h3 := HQ2.out.f1; rw [List.length_append, List.length_singleton]; omega)
              have HNE : Hid (decide (acc1 ++ [s] = acc1) = false) := Lib.hid (by
                rw [decide_eq_false_iff_not]
                intro h
                have := congrArg List.length h
                rw [List.length_append, List.length_singleton] at this
                omega)
              have had := lt_add hT2 s (by have := HS5.out; omega)
              rcases falls_add HQ2.out (by omega) (lt_bytes hT2) HS5.out with ⟨d2, g2, eadd, HP2⟩ | eadd | ⟨d2, eadd, -, HP2⟩
              · rw [eadd] at had
                have HAD := Lib.hid had
                clear had eadd
                go_wp2_with (first
                  | (go_at_call 18; (with_reducible refine (HFW.out _).mono ?_); rintro e w5 ⟨rfl, rfl⟩)
                  | (go_at_call 20; (with_reducible refine HAD.out.mono ?_); rintro e w6 ⟨rfl, hl6⟩; obtain ⟨v7, w7, hr7, hb7⟩ := run_copy_text hl6.texts HLE.out 27; obtain ⟨v8, w8, hr8, hb8⟩ := tb_append hb7 s HLE.out 27; have hl8 := hl6.other hb8)
                  | (at_builtin; refine Lib.wpList_append_run _ rfl _ _ _ _ rfl _ _ rfl rfl _ _ hr7 ?_)
                  | (at_builtin; refine Lib.wpList_append_run _ rfl _ _ _ _ rfl _ _ rfl rfl _ _ hr8 ?_)
                  | fail)
                have hinc := HINC.out
                go_roundw
                case rel => exact ⟨i + 1, acc1 ++ [s], d2, g2, g.next, G, Lib.hid ⟨HP2, hg2⟩, hg1, rfl, rfl, rfl, Lib.hid hl8⟩
                case measure =>
                  (try rw [hinc])
                  exact HM.out
              · rw [eadd] at had
                have HAD := Lib.hid had
                clear had eadd
                go_wp2_with (first
                  | (go_at_call 18; (with_reducible refine (HFW.out _).mono ?_); rintro e w5 ⟨rfl, rfl⟩)
                  | (go_at_call 20; (with_reducible refine HAD.out.mono ?_); rintro e w6 ⟨rfl, hl6⟩)
                  | fail)
                have hinc := HINC.out
                go_roundw
                case rel => exact ⟨i + 1, acc1, d1, g1, g.next, G, Lib.hid ⟨falls_more HQ2.out, hg2⟩, hg1, rfl, rfl, rfl, Lib.hid hl6⟩
                case measure =>
                  (try rw [hinc])
                  exact HM.out
              · rw [eadd] at had
                have HAD := Lib.hid had
                clear had eadd
                rcases HP2 with HP2 | ⟨g3, HP2⟩
                · have hO := falls_open HP2 (by omega)
                  have hnf := HP2.next; have hnx := HP2.nx; have hf1 := HP2.f1; have hlen := HP2.len
                  have hop := fun wn v (hb : LT (fun k => w.heap.size ≤ k) w wn G (w.heap.size + 2) w.heap.size (w.heap.size + 1) ({ d2 with plan := [], off := false } : Dv) g1 v acc1) => lt_open hb (fun k hk => Nat.le_trans hb.ld.now.below.size hk) rfl 0 14 (by omega) (by rw [hlen]; omega) g.next (by omega) (by omega)
                  rw [hO] at hop
                  have HOP := Lib.hid hop
                  have HPN := Lib.hid (fun wn v (hb : LT (fun k => w.heap.size ≤ k) w wn G (w.heap.size + 2) w.heap.size (w.heap.size + 1) d2 g1 v acc1) => lt_plan_none hb)
                  have HUP := Lib.hid (fun wn v (hb : LT (fun k => w.heap.size ≤ k) w wn G (w.heap.size + 2) w.heap.size (w.heap.size + 1) ({ d2 with plan := [] } : Dv) g1 v acc1) => lt_up hb)
                  clear hO hop hnf hnx hf1 hlen
                  go_wp2_with (first
                    | (go_at_call 18; (with_reducible refine (HFW.out _).mono ?_); rintro e w5 ⟨rfl, rfl⟩)
                    | (go_at_call 20; (with_reducible refine HAD.out.mono ?_); rintro e w6 ⟨rfl, hl6⟩)
                    | (go_at_call 28; (with_reducible refine (HPN.out _ _ hl6).mono ?_); rintro e w7 ⟨rfl, hl7⟩)
                    | (go_at_call 29; (with_reducible refine (HUP.out _ _ hl7).mono ?_); rintro e w8 ⟨rfl, hl8⟩)
                    | (go_at_call 15; refine (HOP.out _ _ hl8).mono ?_; rintro e w9 ⟨v9, rfl, hl9, ht9⟩; obtain ⟨v10, w10, hr10, hb10⟩ := run_copy_text ht9 HLE.out 27; obtain ⟨v11, w11, hr11, hb11⟩ := tb_append hb10 s HLE.out 27; have hl11 := hl9.on hb11.below; have hs1 := sameT_any acc1 acc1 _ _ w11 hl11.texts.seen (ht9.on hb11.below).seen HLE.out; rw [decide_eq_true rfl] at hs1)
                    | (at_builtin; refine Lib.wpList_append_run _ rfl _ _ _ _ rfl _ _ rfl rfl _ _ hr10 ?_)
                    | (at_builtin; refine Lib.wpList_append_run _ rfl _ _ _ _ rfl _ _ rfl rfl _ _ hr11 ?_)
                    | (go_at_call 23; (with_reducible refine hs1.mono ?_); rintro e w12 ⟨rfl, hb12⟩; have hl12 := hl11.on hb12)
                    | fail)
                  have hinc := HINC.out
                  go_roundw
                  case rel => exact ⟨i + 1, acc1, ({ d2 with plan := [], off := false } : Dv), g1, g.next, w8.heap.size, Lib.hid ⟨HP2, hg2⟩, hg1, rfl, rfl, rfl, Lib.hid hl12⟩
                  case measure =>
                    (try rw [hinc])
                    exact HM.out
                · have hO := falls_open HP2 (by omega)
                  have hnf := HP2.next; have hnx := HP2.nx; have hf1 := HP2.f1; have hlen := HP2.len
                  have hop := fun wn v (hb : LT (fun k => w.heap.size ≤ k) w wn G (w.heap.size + 2) w.heap.size (w.heap.size + 1) ({ d2 with plan := [], off := false } : Dv) g1 v acc1) => lt_open hb (fun k hk => Nat.le_trans hb.ld.now.below.size hk) rfl 0 14 (by omega) (by rw [hlen]; omega) g.next (by omega) (by omega)
                  rw [hO] at hop
                  have HOP := Lib.hid hop
                  have HPN := Lib.hid (fun wn v (hb : LT (fun k => w.heap.size ≤ k) w wn G (w.heap.size + 2) w.heap.size (w.heap.size + 1) d2 g1 v acc1) => lt_plan_none hb)
                  have HUP := Lib.hid (fun wn v (hb : LT (fun k => w.heap.size ≤ k) w wn G (w.heap.size + 2) w.heap.size (w.heap.size + 1) ({ d2 with plan := [] } : Dv) g1 v acc1) => lt_up hb)
                  clear hO hop hnf hnx hf1 hlen
                  go_wp2_with (first
                    | (go_at_call 18; (with_reducible refine (HFW.out _).mono ?_); rintro e w5 ⟨rfl, rfl⟩)
                    | (go_at_call 20; (with_reducible refine HAD.out.mono ?_); rintro e w6 ⟨rfl, hl6⟩)
                    | (go_at_call 28; (with_reducible refine (HPN.out _ _ hl6).mono ?_); rintro e w7 ⟨rfl, hl7⟩)
                    | (go_at_call 29; (with_reducible refine (HUP.out _ _ hl7).mono ?_); rintro e w8 ⟨rfl, hl8⟩)
                    | (go_at_call 15; refine (HOP.out _ _ hl8).mono ?_; rintro e w9 ⟨v9, rfl, hl9, ht9⟩; obtain ⟨v10, w10, hr10, hb10⟩ := run_copy_text ht9 HLE.out 27; obtain ⟨v11, w11, hr11, hb11⟩ := tb_append hb10 s HLE.out 27; have hl11 := hl9.on hb11.below; have hs1 := sameT_any (acc1 ++ [s]) acc1 _ _ w11 hl11.texts.seen (ht9.on hb11.below).seen HLE2.out; rw [HNE.out] at hs1)
                    | (at_builtin; refine Lib.wpList_append_run _ rfl _ _ _ _ rfl _ _ rfl rfl _ _ hr10 ?_)
                    | (at_builtin; refine Lib.wpList_append_run _ rfl _ _ _ _ rfl _ _ rfl rfl _ _ hr11 ?_)
                    | (go_at_call 23; (with_reducible refine hs1.mono ?_); rintro e w12 ⟨rfl, hb12⟩; have hl12 := hl11.on hb12; have hs2 := sameT_any (acc1 ++ [s]) (acc1 ++ [s]) _ _ w12 hl12.texts.seen (hb11.on hb12).texts.seen HLE2.out; rw [decide_eq_true rfl] at hs2)
                    | (go_at_call 23; (with_reducible refine hs2.mono ?_); rintro e w13 ⟨rfl, hb13⟩; have hl13 := hl12.on hb13)
                    | fail)
                  have hinc := HINC.out
                  go_roundw
                  case rel => exact ⟨i + 1, acc1 ++ [s], ({ d2 with plan := [], off := false } : Dv), g3, g.next, w8.heap.size, Lib.hid ⟨HP2, hg2⟩, hg1, rfl, rfl, rfl, Lib.hid hl13⟩
                  case measure =>
                    (try rw [hinc])
                    exact HM.out


          · have z3 : ¬ i < fs.length := hF
            go_upto_region 18 with fail
            clear z3 hF
            have HT2 := HT1
            have HQ2 := HQ1
            have hT2 := HT2.out
            have c0 := ((hT2.ld.now.below.below (Nat.le_refl _) (fun k hk => hk)).cell (p := ⟨b, o + i, none⟩) (World.cell_lt C0.out)).trans C0.out
            have HLE : Hid ((acc1).length ≤ 65536) := Lib.hid (by have h1 := HQ2.out.next; have h2 := HQ2.out.nx; have h3 := HQ2.out.f1; omega)
            have HLE2 : Hid ((acc1 ++ [s]).length ≤ 65536) := Lib.hid (by have h1 := HQ2.out.next; have h2 := HQ2.out.nx; have h3 := HQ2.out.f1; rw [List.length_append, List.length_singleton]; omega)
            have HNE : Hid (decide (acc1 ++ [s] = acc1) = false) := Lib.hid (by
              rw [decide_eq_false_iff_not]
              intro h
              have := congrArg List.length h
              rw [List.length_append, List.length_singleton] at this
              omega)
            have had := lt_add hT2 s (by have := HS5.out; omega)
            rcases falls_add HQ2.out (by omega) (lt_bytes hT2) HS5.out with ⟨d2, g2, eadd, HP2⟩ | eadd | ⟨d2, eadd, -, HP2⟩
            · rw [eadd] at had
              have HAD := Lib.hid had
              clear had eadd
              go_wp2_with (first
                | (go_at_call 18; (with_reducible refine (HFW.out _).mono ?_); rintro e w5 ⟨rfl, rfl⟩)
                | (go_at_call 20; (with_reducible refine HAD.out.mono ?_); rintro e w6 ⟨rfl, hl6⟩; obtain ⟨v7, w7, hr7, hb7⟩ := run_copy_text hl6.texts HLE.out 27; obtain ⟨v8, w8, hr8, hb8⟩ := tb_append hb7 s HLE.out 27; have hl8 := hl6.other hb8)
                | (at_builtin; refine Lib.wpList_append_run _ rfl _ _ _ _ rfl _ _ rfl rfl _ _ hr7 ?_)
                | (at_builtin; refine Lib.wpList_append_run _ rfl _ _ _ _ rfl _ _ rfl rfl _ _ hr8 ?_)
                | fail)
              have hinc := HINC.out
              go_roundw
              case rel => exact ⟨i + 1, acc1 ++ [s], d2, g2, g.next, G, Lib.hid ⟨HP2, hg2⟩, hg1, rfl, rfl, rfl, Lib.hid hl8⟩
              case measure =>
                (try rw [hinc])
                exact HM.out
            · rw [eadd] at had
              have HAD := Lib.hid had
              clear had eadd
              go_wp2_with (first
                | (go_at_call 18; (with_reducible refine (HFW.out _).mono ?_); rintro e w5 ⟨rfl, rfl⟩)
                | (go_at_call 20; (with_reducible refine HAD.out.mono ?_); rintro e w6 ⟨rfl, hl6⟩)
                | fail)
              have hinc := HINC.out
              go_roundw
              case rel => exact ⟨i + 1, acc1, d, g1, g.next, G, Lib.hid ⟨falls_more HQ2.out, hg2⟩, hg1, rfl, rfl, rfl, Lib.hid hl6⟩
              case measure =>
                (try rw [hinc])
                exact HM.out
            · rw [eadd] at had
              have HAD := Lib.hid had
              clear had eadd
              rcases HP2 with HP2 | ⟨g3, HP2⟩
              · have hO := falls_open HP2 (by omega)
                have hnf := HP2.next; have hnx := HP2.nx; have hf1 := HP2.f1; have hlen := HP2.len
                have hop := fun wn v (hb : LT (fun k => w.heap.size ≤ k) w wn G (w.heap.size + 2) w.heap.size (w.heap.size + 1) ({ d2 with plan := [], off := false } : Dv) g1 v acc1) => lt_open hb (fun k hk => Nat.le_trans hb.ld.now.below.size hk) rfl 0 14 (by omega) (by rw [hlen]; omega) g.next (by omega) (by omega)
                rw [hO] at hop
                have HOP := Lib.hid hop
                have HPN := Lib.hid (fun wn v (hb : LT (fun k => w.heap.size ≤ k) w wn G (w.heap.size + 2) w.heap.size (w.heap.size + 1) d2 g1 v acc1) => lt_plan_none hb)
                have HUP := Lib.hid (fun wn v (hb : LT (fun k => w.heap.size ≤ k) w wn G (w.heap.size + 2) w.heap.size (w.heap.size + 1) ({ d2 with plan := [] } : Dv) g1 v acc1) => lt_up hb)
                clear hO hop hnf hnx hf1 hlen
                go_wp2_with (first
                  | (go_at_call 18; (with_reducible refine (HFW.out _).mono ?_); rintro e w5 ⟨rfl, rfl⟩)
                  | (go_at_call 20; (with_reducible refine HAD.out.mono ?_); rintro e w6 ⟨rfl, hl6⟩)
                  | (go_at_call 28; (with_reducible refine (HPN.out _ _ hl6).mono ?_); rintro e w7 ⟨rfl, hl7⟩)
                  | (go_at_call 29; (with_reducible refine (HUP.out _ _ hl7).mono ?_); rintro e w8 ⟨rfl, hl8⟩)
                  | (go_at_call 15; refine (HOP.out _ _ hl8).mono ?_; rintro e w9 ⟨v9, rfl, hl9, ht9⟩; obtain ⟨v10, w10, hr10, hb10⟩ := run_copy_text ht9 HLE.out 27; obtain ⟨v11, w11, hr11, hb11⟩ := tb_append hb10 s HLE.out 27; have hl11 := hl9.on hb11.below; have hs1 := sameT_any acc1 acc1 _ _ w11 hl11.texts.seen (ht9.on hb11.below).seen HLE.out; rw [decide_eq_true rfl] at hs1)
                  | (at_builtin; refine Lib.wpList_append_run _ rfl _ _ _ _ rfl _ _ rfl rfl _ _ hr10 ?_)
                  | (at_builtin; refine Lib.wpList_append_run _ rfl _ _ _ _ rfl _ _ rfl rfl _ _ hr11 ?_)
                  | (go_at_call 23; (with_reducible refine hs1.mono ?_); rintro e w12 ⟨rfl, hb12⟩; have hl12 := hl11.on hb12)
                  | fail)
                have hinc := HINC.out
                go_roundw
                case rel => exact ⟨i + 1, acc1, ({ d2 with plan := [], off := false } : Dv), g1, g.next, w8.heap.size, Lib.hid ⟨HP2, hg2⟩, hg1, rfl, rfl, rfl, Lib.hid hl12⟩
                case measure =>
                  (try rw [hinc])
                  exact HM.out
              · have hO := falls_open HP2 (by omega)
                have hnf := HP2.next; have hnx := HP2.nx; have hf1 := HP2.f1; have hlen := HP2.len
                have hop := fun wn v (hb : LT (fun k => w.heap.size ≤ k) w wn G (w.heap.size + 2) w.heap.size (w.heap.size + 1) ({ d2 with plan := [], off := false } : Dv) g1 v acc1) => lt_open hb (fun k hk => Nat.le_trans hb.ld.now.below.size hk) rfl 0 14 (by omega) (by rw [hlen]; omega) g.next (by omega) (by omega)
                rw [hO] at hop
                have HOP := Lib.hid hop
                have HPN := Lib.hid (fun wn v (hb : LT (fun k => w.heap.size ≤ k) w wn G (w.heap.size + 2) w.heap.size (w.heap.size + 1) d2 g1 v acc1) => lt_plan_none hb)
                have HUP := Lib.hid (fun wn v (hb : LT (fun k => w.heap.size ≤ k) w wn G (w.heap.size + 2) w.heap.size (w.heap.size + 1) ({ d2 with plan := [] } : Dv) g1 v acc1) => lt_up hb)
                clear hO hop hnf hnx hf1 hlen
                go_wp2_with (first
                  | (go_at_call 18; (with_reducible refine (HFW.out _).mono ?_); rintro e w5 ⟨rfl, rfl⟩)
                  | (go_at_call 20; (with_reducible refine HAD.out.mono ?_); rintro e w6 ⟨rfl, hl6⟩)
                  | (go_at_call 28; (with_reducible refine (HPN.out _ _ hl6).mono ?_); rintro e w7 ⟨rfl, hl7⟩)
                  | (go_at_call 29; (with_reducible refine (HUP.out _ _ hl7).mono ?_); rintro e w8 ⟨rfl, hl8⟩)
                  | (go_at_call 15; refine (HOP.out _ _ hl8).mono ?_; rintro e w9 ⟨v9, rfl, hl9, ht9⟩; obtain ⟨v10, w10, hr10, hb10⟩ := run_copy_text ht9 HLE.out 27; obtain ⟨v11, w11, hr11, hb11⟩ := tb_append hb10 s HLE.out 27; have hl11 := hl9.on hb11.below; have hs1 := sameT_any (acc1 ++ [s]) acc1 _ _ w11 hl11.texts.seen (ht9.on hb11.below).seen HLE2.out; rw [HNE.out] at hs1)
                  | (at_builtin; refine Lib.wpList_append_run _ rfl _ _ _ _ rfl _ _ rfl rfl _ _ hr10 ?_)
                  | (at_builtin; refine Lib.wpList_append_run _ rfl _ _ _ _ rfl _ _ rfl rfl _ _ hr11 ?_)
                  | (go_at_call 23; (with_reducible refine hs1.mono ?_); rintro e w12 ⟨rfl, hb12⟩; have hl12 := hl11.on hb12; have hs2 := sameT_any (acc1 ++ [s]) (acc1 ++ [s]) _ _ w12 hl12.texts.seen (hb11.on hb12).texts.seen HLE2.out; rw [decide_eq_true rfl] at hs2)
                  | (go_at_call 23; (with_reducible refine hs2.mono ?_); rintro e w13 ⟨rfl, hb13⟩; have hl13 := hl12.on hb13)
                  | fail)
                have hinc := HINC.out
                go_roundw
                case rel => exact ⟨i + 1, acc1 ++ [s], ({ d2 with plan := [], off := false } : Dv), g3, g.next, w8.heap.size, Lib.hid ⟨HP2, hg2⟩, hg1, rfl, rfl, rfl, Lib.hid hl13⟩
                case measure =>
                  (try rw [hinc])
                  exact HM.out



    · have hend : ¬ i < L.length ∨ (i < L.length ∧ i = 14) := by have := HP.out.2; omega
      clear hgo hiL
      rcases hend with c1 | ⟨c1, rfl⟩
      all_goals
        go_wp2_with fail
        go_ret
        exact ⟨rfl, HBW.out⟩

end Go.Proofs.Ytadopnfnhgimgaa
