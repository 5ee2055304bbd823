/- lex.readNumber -/
import Derived.Test.YtnehbpfgdeilhaaGreatDoorLxN
namespace Go.Proofs.YtnehbpfgdeilhaaGreatDoor
open Go.ChangeShapes Go.WideShapes Go.ChangeAt Go.RowKit Go.Fl
open Go.Shelf

theorem ofL_list (S : ByteArray) : ofL S.data.toList = S := by unfold ofL; apply ByteArray.ext; simp

theorem ba_toList (S : ByteArray) : S.toList = S.data.toList := by
  exact Lib.toList_data S

/-- two texts side by side -/
theorem same_text (a b : ByteArray) : (a.toList == b.toList) = decide (a.data.toList = b.data.toList) := by
  rw [ba_toList, ba_toList]
  by_cases h : a.data.toList = b.data.toList
  · rw [h, decide_eq_true rfl]; simp
  · rw [decide_eq_false h, beq_eq_false_iff_ne]; exact h

set_option maxHeartbeats 4000000 in
set_option maxRecDepth 100000 in
theorem readNumber_any (S : ByteArray) (w : World) (h : 0 < S.size) (hs : S.size ≤ 100000) (he : Env w) :
    Calls Tryz.prog 25 #[.string S] w fun e w' => e = .returned (rdV (numO S.data.toList)) ∧ Below w.heap.size w w' := by
  have hz0 := wbox_start w
  have hb0 : Below w.heap.size w (w.alloc (.cells #[.int .i64 0, .string ⟨#[]⟩, .int .i64 0, .float .f64 0, .int .i64 0] 56)) := (Below.refl _ _).alloc (Nat.le_refl _) _
  obtain ⟨W0, hW0⟩ : ∃ W0, (w.alloc (.cells #[.int .i64 0, .string ⟨#[]⟩, .int .i64 0, .float .f64 0, .int .i64 0] 56)) = W0 := ⟨_, rfl⟩
  rw [hW0] at hz0 hb0
  have He := Lib.hid (he.on hb0)
  have Hz0 := Lib.hid hz0; have Hb0 := Lib.hid hb0
  clear hz0 hb0
  go_enter Tryz.func25, Tryz.ntmps25
  go_wp2_with fail
  go_loop [4] (fun i => ∃ k : Nat, 1 ≤ k ∧ k ≤ S.size ∧ i = .int .i64 k ∧ Hid (runP digB S.data.toList 1 = runP digB S.data.toList k)) (fun i => S.size - (intOf i).toNat)
  case atStart => exact ⟨1, Nat.le_refl _, h, rfl, Lib.hid rfl⟩
  case round =>
    obtain ⟨k, hk1, hk, rfl, Hk⟩ := hrel
    by_cases hlt : k < S.size
    · have hlt1 : decide ((k : Int) < (S.size : Int)) = true := by rw [decide_eq_true_eq]; omega
      have HD := Lib.hid (digit_any S[k])
      cases hd : digB S[k]
      · have Hn : Hid (runP digB S.data.toList 1 = k) := Lib.hid (Hk.out.trans (runP_stop (P := digB) (l := S.data.toList) (k := k) hlt hd))
        have hsz : (S.extract 0 k).size = k := by rw [ByteArray.size_extract]; omega
        have hnl : numL S.data.toList = (S.extract 0 k).data.toList := by unfold numL; rw [Hn.out, take_list]; rfl
        cases hp : Lib.parseIntB 64 (S.extract 0 k).data.toList with
        | ok v =>
          have hv64 : is64 v = true := by have := Lib.parseIntB_bounds hp; exact is64_yes (by omega) (by omega)
          have HP := Lib.hid (parse_ok (S.extract 0 k) v hp W0 (by omega))
          have HN := Lib.hid (fun W (h : Env W) => number_any v W hv64 h)
          by_cases hv : Lib.itoa v = numL S.data.toList
          · have HT : Hid (numO S.data.toList = some (⟨2, S.extract 0 k, v, 0, 0⟩, k)) := Lib.hid (by unfold numO; rw [Hn.out, hnl, hp]; simp only []; rw [if_pos (by rw [← hnl]; exact hv), ← hnl, show numL S.data.toList = S.data.toList.take k by unfold numL; rw [Hn.out], take_list])
            have hne : ((ofL (Lib.itoa v)).toList == (S.extract 0 k).toList) = true := by rw [same_text, show (ofL (Lib.itoa v)).data.toList = Lib.itoa v from rfl, decide_eq_true (by rw [hv, hnl])]
            clear hp hnl hv hv64 hsz
            go_wp2_with fail
            refine (HD.out _).mono ?_
            rintro e w' ⟨rfl, rfl⟩
            rw [hd]
            go_wp2_with fail
            refine HP.out.mono ?_
            rintro e w1 ⟨rfl, hb1⟩
            have He1 := Lib.hid (He.out.on hb1)
            have Hbp := Lib.hid hb1; clear hb1
            go_upto_region 5 with fail
            go_cut [35] from 26 to 35 (fun b wx => b = .bool false ∧ Below w1.heap.size w1 wx)
            case first =>
              go_region_with ((go_at_call 42; refine (HN.out _ (by first | exact He1.out | exact He1.out.on ((Below.refl _ _).drew))).mono ?_; rintro e w2 ⟨rfl, hb2⟩))
              all_goals (go_wp2_with fail; go_meet; exact ⟨rfl, by first | exact hb2 | exact (Below.refl _ _).drew.trans hb2⟩)
            case rest =>
              obtain ⟨rfl, hb2⟩ := hcut
              have hz1 : WZero w1 w.heap.size := Blk.below Hz0.out Hbp.out Hz0.out.lt
              have hz0 : WZero _ w.heap.size := Blk.below hz1 hb2 hz1.lt
              have hb0 := (Hb0.out.trans (Hbp.out.mono Hb0.out.size)).trans (hb2.mono (Nat.le_trans Hb0.out.size Hbp.out.size))
              clear hz1
              rename World => wx
              have d0 : wx.frozen? ⟨w.heap.size, 0, none⟩ = false := hz0.frozen 0
              have d1 : wx.frozen? ⟨w.heap.size, 1, none⟩ = false := hz0.frozen 1
              have d2 : wx.frozen? ⟨w.heap.size, 2, none⟩ = false := hz0.frozen 2
              have d3 : wx.frozen? ⟨w.heap.size, 3, none⟩ = false := hz0.frozen 3
              have d4 : wx.frozen? ⟨w.heap.size, 4, none⟩ = false := hz0.frozen 4
              have c0 : wx.cell? ⟨w.heap.size, 0, none⟩ = some (.int .i64 0) := (hz0.cell 0).trans rfl
              have c1 : wx.cell? ⟨w.heap.size, 1, none⟩ = some (.string ⟨#[]⟩) := (hz0.cell 1).trans rfl
              have c2 : wx.cell? ⟨w.heap.size, 2, none⟩ = some (.int .i64 0) := (hz0.cell 2).trans rfl
              have c3 : wx.cell? ⟨w.heap.size, 3, none⟩ = some (.float .f64 0) := (hz0.cell 3).trans rfl
              have c4 : wx.cell? ⟨w.heap.size, 4, none⟩ = some (.int .i64 0) := (hz0.cell 4).trans rfl
              have HF := Lib.hid (set5_load hz0 (by simp) (.int .i64 2) (.string (S.extract 0 k)) (.int .i64 v) (.float .f64 0) (.int .i64 0))
              have HB := Lib.hid hb0
              clear hz0 hb0
              go_wp2_with fail
              obtain ⟨f0, f1, f2, f3, f4⟩ := HF.out
              exact bodyPost_ret (v := .tuple #[.agg #[.int .i64 2, .string (S.extract 0 k), .int .i64 v, .float .f64 0, .int .i64 0], .int .i64 (k : Nat)]) (by simp [results, Tryz.results25, go_sem, f0, f1, f2, f3, f4]) rfl
                ⟨by rw [HT.out]; rfl, set5_below HB.out (Nat.le_refl _) _ _ _ _ _⟩
          · have HT : Hid (numO S.data.toList = none) := Lib.hid (by unfold numO; rw [hnl, hp]; simp only []; rw [if_neg (by rw [← hnl]; exact hv)])
            have hne : ((ofL (Lib.itoa v)).toList == (S.extract 0 k).toList) = false := by rw [same_text, show (ofL (Lib.itoa v)).data.toList = Lib.itoa v from rfl, decide_eq_false (by rw [← hnl]; exact hv)]
            clear hp hnl hv hv64 hsz
            go_wp2_with fail
            refine (HD.out _).mono ?_
            rintro e w' ⟨rfl, rfl⟩
            rw [hd]
            go_wp2_with fail
            refine HP.out.mono ?_
            rintro e w1 ⟨rfl, hb1⟩
            have He1 := Lib.hid (He.out.on hb1)
            have Hbp := Lib.hid hb1; clear hb1
            go_upto_region 5 with fail
            go_cut [35] from 26 to 35 (fun b wx => b = .bool true ∧ Below w1.heap.size w1 wx)
            case first =>
              go_region_with ((go_at_call 42; refine (HN.out _ (by first | exact He1.out | exact He1.out.on ((Below.refl _ _).drew))).mono ?_; rintro e w2 ⟨rfl, hb2⟩))
              all_goals (go_wp2_with fail; go_meet; exact ⟨rfl, by first | exact hb2 | exact (Below.refl _ _).drew.trans hb2⟩)
            case rest =>
              obtain ⟨rfl, hb2⟩ := hcut
              have hz1 : WZero w1 w.heap.size := Blk.below Hz0.out Hbp.out Hz0.out.lt
              have hz0 : WZero _ w.heap.size := Blk.below hz1 hb2 hz1.lt
              have hb0 := (Hb0.out.trans (Hbp.out.mono Hb0.out.size)).trans (hb2.mono (Nat.le_trans Hb0.out.size Hbp.out.size))
              clear hz1
              go_wp2_with fail
              refine (none_any _).mono ?_
              rintro e wz ⟨rfl, hbz⟩
              have hzz : WZero wz w.heap.size := Blk.below hz0 hbz hz0.lt
              have d0 : wz.frozen? ⟨w.heap.size, 0, none⟩ = false := hzz.frozen 0
              have d1 : wz.frozen? ⟨w.heap.size, 1, none⟩ = false := hzz.frozen 1
              have d2 : wz.frozen? ⟨w.heap.size, 2, none⟩ = false := hzz.frozen 2
              have d3 : wz.frozen? ⟨w.heap.size, 3, none⟩ = false := hzz.frozen 3
              have d4 : wz.frozen? ⟨w.heap.size, 4, none⟩ = false := hzz.frozen 4
              have c0 : wz.cell? ⟨w.heap.size, 0, none⟩ = some (.int .i64 0) := (hzz.cell 0).trans rfl
              have c1 : wz.cell? ⟨w.heap.size, 1, none⟩ = some (.string ⟨#[]⟩) := (hzz.cell 1).trans rfl
              have c2 : wz.cell? ⟨w.heap.size, 2, none⟩ = some (.int .i64 0) := (hzz.cell 2).trans rfl
              have c3 : wz.cell? ⟨w.heap.size, 3, none⟩ = some (.float .f64 0) := (hzz.cell 3).trans rfl
              have c4 : wz.cell? ⟨w.heap.size, 4, none⟩ = some (.int .i64 0) := (hzz.cell 4).trans rfl
              have HF := Lib.hid (set5_load hzz (by simp) (.int .i64 0) (.string ⟨#[]⟩) (.int .i64 0) (.float .f64 0) (.int .i64 0))
              have HB := Lib.hid (hb0.trans (hbz.mono hb0.size))
              clear hzz hbz hz0 hb0
              go_wp2_with fail
              obtain ⟨f0, f1, f2, f3, f4⟩ := HF.out
              exact bodyPost_ret (v := .tuple #[.agg #[.int .i64 0, .string ⟨#[]⟩, .int .i64 0, .float .f64 0, .int .i64 0], .int .i64 0]) (by simp [results, Tryz.results25, go_sem, f0, f1, f2, f3, f4]) rfl
                ⟨by rw [HT.out]; rfl, set5_below HB.out (Nat.le_refl _) _ _ _ _ _⟩
        | _ =>
          have HP := Lib.hid (parse_bad (S.extract 0 k) (fun v e => by rw [hp] at e; cases e) W0 (by omega) He.out)
          have HT : Hid (numO S.data.toList = none) := Lib.hid (by unfold numO; rw [hnl, hp])
          clear hp hnl hsz
          go_wp2_with fail
          refine (HD.out _).mono ?_
          rintro e w' ⟨rfl, rfl⟩
          rw [hd]
          go_wp2_with fail
          refine HP.out.mono ?_
          rintro e w1 ⟨x, t, a, rfl, hb1⟩
          have hz0 : WZero w1 w.heap.size := Blk.below Hz0.out hb1 Hz0.out.lt
          have hb0 := Hb0.out.trans (hb1.mono Hb0.out.size)
          have Hz1 := Lib.hid hz0; have Hb1 := Lib.hid hb0
          clear hz0 hb0 hb1
          go_wp2_with fail
          go_quiet (fail)
          go_wp2_with fail
          have hz0 : WZero (w1.drewN nq) w.heap.size := Hz1.out
          have hb0 : Below w.heap.size w (w1.drewN nq) := Hb1.out.trans ((drewN_below w1 nq).mono Hb1.out.size)
          refine (none_any _).mono ?_
          rintro e wz ⟨rfl, hbz⟩
          have hzz : WZero wz w.heap.size := Blk.below hz0 hbz hz0.lt
          have d0 : wz.frozen? ⟨w.heap.size, 0, none⟩ = false := hzz.frozen 0
          have d1 : wz.frozen? ⟨w.heap.size, 1, none⟩ = false := hzz.frozen 1
          have d2 : wz.frozen? ⟨w.heap.size, 2, none⟩ = false := hzz.frozen 2
          have d3 : wz.frozen? ⟨w.heap.size, 3, none⟩ = false := hzz.frozen 3
          have d4 : wz.frozen? ⟨w.heap.size, 4, none⟩ = false := hzz.frozen 4
          have c0 : wz.cell? ⟨w.heap.size, 0, none⟩ = some (.int .i64 0) := (hzz.cell 0).trans rfl
          have c1 : wz.cell? ⟨w.heap.size, 1, none⟩ = some (.string ⟨#[]⟩) := (hzz.cell 1).trans rfl
          have c2 : wz.cell? ⟨w.heap.size, 2, none⟩ = some (.int .i64 0) := (hzz.cell 2).trans rfl
          have c3 : wz.cell? ⟨w.heap.size, 3, none⟩ = some (.float .f64 0) := (hzz.cell 3).trans rfl
          have c4 : wz.cell? ⟨w.heap.size, 4, none⟩ = some (.int .i64 0) := (hzz.cell 4).trans rfl
          have HF := Lib.hid (set5_load hzz (by simp) (.int .i64 0) (.string ⟨#[]⟩) (.int .i64 0) (.float .f64 0) (.int .i64 0))
          have HB := Lib.hid (hb0.trans (hbz.mono hb0.size))
          clear hzz hbz hz0 hb0
          go_wp2_with fail
          obtain ⟨f0, f1, f2, f3, f4⟩ := HF.out
          exact bodyPost_ret (v := .tuple #[.agg #[.int .i64 0, .string ⟨#[]⟩, .int .i64 0, .float .f64 0, .int .i64 0], .int .i64 0]) (by simp [results, Tryz.results25, go_sem, f0, f1, f2, f3, f4]) rfl
            ⟨by rw [HT.out]; rfl, set5_below HB.out (Nat.le_refl _) _ _ _ _ _⟩
      · go_wp2_with fail
        refine (HD.out _).mono ?_
        rintro e w' ⟨rfl, rfl⟩
        rw [hd]
        go_wp2_with fail
        go_round
        case rel => exact ⟨k + 1, by omega, by omega, by go_num, Lib.hid (Hk.out.trans (runP_step (P := digB) (l := S.data.toList) (k := k) hlt hd))⟩
        case measure => simp [intOf]; omega
    · have hlt1 : decide ((k : Int) < (S.size : Int)) = false := by rw [decide_eq_false_iff_not]; omega
      have Hn : Hid (runP digB S.data.toList 1 = k) := Lib.hid (Hk.out.trans (runP_end (P := digB) (l := S.data.toList) (k := k) (by rw [len_list]; omega)))
      have hsz : (S.extract 0 k).size = k := by rw [ByteArray.size_extract]; omega
      have hnl : numL S.data.toList = (S.extract 0 k).data.toList := by unfold numL; rw [Hn.out, take_list]; rfl
      cases hp : Lib.parseIntB 64 (S.extract 0 k).data.toList with
      | ok v =>
        have hv64 : is64 v = true := by have := Lib.parseIntB_bounds hp; exact is64_yes (by omega) (by omega)
        have HP := Lib.hid (parse_ok (S.extract 0 k) v hp W0 (by omega))
        have HN := Lib.hid (fun W (h : Env W) => number_any v W hv64 h)
        by_cases hv : Lib.itoa v = numL S.data.toList
        · have HT : Hid (numO S.data.toList = some (⟨2, S.extract 0 k, v, 0, 0⟩, k)) := Lib.hid (by unfold numO; rw [Hn.out, hnl, hp]; simp only []; rw [if_pos (by rw [← hnl]; exact hv), ← hnl, show numL S.data.toList = S.data.toList.take k by unfold numL; rw [Hn.out], take_list])
          have hne : ((ofL (Lib.itoa v)).toList == (S.extract 0 k).toList) = true := by rw [same_text, show (ofL (Lib.itoa v)).data.toList = Lib.itoa v from rfl, decide_eq_true (by rw [hv, hnl])]
          clear hp hnl hv hv64 hsz
          go_wp2_with fail
          refine HP.out.mono ?_
          rintro e w1 ⟨rfl, hb1⟩
          have He1 := Lib.hid (He.out.on hb1)
          have Hbp := Lib.hid hb1; clear hb1
          go_upto_region 5 with fail
          go_cut [35] from 26 to 35 (fun b wx => b = .bool false ∧ Below w1.heap.size w1 wx)
          case first =>
            go_region_with ((go_at_call 42; refine (HN.out _ (by first | exact He1.out | exact He1.out.on ((Below.refl _ _).drew))).mono ?_; rintro e w2 ⟨rfl, hb2⟩))
            all_goals (go_wp2_with fail; go_meet; exact ⟨rfl, by first | exact hb2 | exact (Below.refl _ _).drew.trans hb2⟩)
          case rest =>
            obtain ⟨rfl, hb2⟩ := hcut
            have hz1 : WZero w1 w.heap.size := Blk.below Hz0.out Hbp.out Hz0.out.lt
            have hz0 : WZero _ w.heap.size := Blk.below hz1 hb2 hz1.lt
            have hb0 := (Hb0.out.trans (Hbp.out.mono Hb0.out.size)).trans (hb2.mono (Nat.le_trans Hb0.out.size Hbp.out.size))
            clear hz1
            rename World => wx
            have d0 : wx.frozen? ⟨w.heap.size, 0, none⟩ = false := hz0.frozen 0
            have d1 : wx.frozen? ⟨w.heap.size, 1, none⟩ = false := hz0.frozen 1
            have d2 : wx.frozen? ⟨w.heap.size, 2, none⟩ = false := hz0.frozen 2
            have d3 : wx.frozen? ⟨w.heap.size, 3, none⟩ = false := hz0.frozen 3
            have d4 : wx.frozen? ⟨w.heap.size, 4, none⟩ = false := hz0.frozen 4
            have c0 : wx.cell? ⟨w.heap.size, 0, none⟩ = some (.int .i64 0) := (hz0.cell 0).trans rfl
            have c1 : wx.cell? ⟨w.heap.size, 1, none⟩ = some (.string ⟨#[]⟩) := (hz0.cell 1).trans rfl
            have c2 : wx.cell? ⟨w.heap.size, 2, none⟩ = some (.int .i64 0) := (hz0.cell 2).trans rfl
            have c3 : wx.cell? ⟨w.heap.size, 3, none⟩ = some (.float .f64 0) := (hz0.cell 3).trans rfl
            have c4 : wx.cell? ⟨w.heap.size, 4, none⟩ = some (.int .i64 0) := (hz0.cell 4).trans rfl
            have HF := Lib.hid (set5_load hz0 (by simp) (.int .i64 2) (.string (S.extract 0 k)) (.int .i64 v) (.float .f64 0) (.int .i64 0))
            have HB := Lib.hid hb0
            clear hz0 hb0
            go_wp2_with fail
            obtain ⟨f0, f1, f2, f3, f4⟩ := HF.out
            exact bodyPost_ret (v := .tuple #[.agg #[.int .i64 2, .string (S.extract 0 k), .int .i64 v, .float .f64 0, .int .i64 0], .int .i64 (k : Nat)]) (by simp [results, Tryz.results25, go_sem, f0, f1, f2, f3, f4]) rfl
              ⟨by rw [HT.out]; rfl, set5_below HB.out (Nat.le_refl _) _ _ _ _ _⟩
        · have HT : Hid (numO S.data.toList = none) := Lib.hid (by unfold numO; rw [hnl, hp]; simp only []; rw [if_neg (by rw [← hnl]; exact hv)])
          have hne : ((ofL (Lib.itoa v)).toList == (S.extract 0 k).toList) = false := by rw [same_text, show (ofL (Lib.itoa v)).data.toList = Lib.itoa v from rfl, decide_eq_false (by rw [← hnl]; exact hv)]
          clear hp hnl hv hv64 hsz
          go_wp2_with fail
          refine HP.out.mono ?_
          rintro e w1 ⟨rfl, hb1⟩
          have He1 := Lib.hid (He.out.on hb1)
          have Hbp := Lib.hid hb1; clear hb1
          go_upto_region 5 with fail
          go_cut [35] from 26 to 35 (fun b wx => b = .bool true ∧ Below w1.heap.size w1 wx)
          case first =>
            go_region_with ((go_at_call 42; refine (HN.out _ (by first | exact He1.out | exact He1.out.on ((Below.refl _ _).drew))).mono ?_; rintro e w2 ⟨rfl, hb2⟩))
            all_goals (go_wp2_with fail; go_meet; exact ⟨rfl, by first | exact hb2 | exact (Below.refl _ _).drew.trans hb2⟩)
          case rest =>
            obtain ⟨rfl, hb2⟩ := hcut
            have hz1 : WZero w1 w.heap.size := Blk.below Hz0.out Hbp.out Hz0.out.lt
            have hz0 : WZero _ w.heap.size := Blk.below hz1 hb2 hz1.lt
            have hb0 := (Hb0.out.trans (Hbp.out.mono Hb0.out.size)).trans (hb2.mono (Nat.le_trans Hb0.out.size Hbp.out.size))
            clear hz1
            go_wp2_with fail
            refine (none_any _).mono ?_
            rintro e wz ⟨rfl, hbz⟩
            have hzz : WZero wz w.heap.size := Blk.below hz0 hbz hz0.lt
            have d0 : wz.frozen? ⟨w.heap.size, 0, none⟩ = false := hzz.frozen 0
            have d1 : wz.frozen? ⟨w.heap.size, 1, none⟩ = false := hzz.frozen 1
            have d2 : wz.frozen? ⟨w.heap.size, 2, none⟩ = false := hzz.frozen 2
            have d3 : wz.frozen? ⟨w.heap.size, 3, none⟩ = false := hzz.frozen 3
            have d4 : wz.frozen? ⟨w.heap.size, 4, none⟩ = false := hzz.frozen 4
            have c0 : wz.cell? ⟨w.heap.size, 0, none⟩ = some (.int .i64 0) := (hzz.cell 0).trans rfl
            have c1 : wz.cell? ⟨w.heap.size, 1, none⟩ = some (.string ⟨#[]⟩) := (hzz.cell 1).trans rfl
            have c2 : wz.cell? ⟨w.heap.size, 2, none⟩ = some (.int .i64 0) := (hzz.cell 2).trans rfl
            have c3 : wz.cell? ⟨w.heap.size, 3, none⟩ = some (.float .f64 0) := (hzz.cell 3).trans rfl
            have c4 : wz.cell? ⟨w.heap.size, 4, none⟩ = some (.int .i64 0) := (hzz.cell 4).trans rfl
            have HF := Lib.hid (set5_load hzz (by simp) (.int .i64 0) (.string ⟨#[]⟩) (.int .i64 0) (.float .f64 0) (.int .i64 0))
            have HB := Lib.hid (hb0.trans (hbz.mono hb0.size))
            clear hzz hbz hz0 hb0
            go_wp2_with fail
            obtain ⟨f0, f1, f2, f3, f4⟩ := HF.out
            exact bodyPost_ret (v := .tuple #[.agg #[.int .i64 0, .string ⟨#[]⟩, .int .i64 0, .float .f64 0, .int .i64 0], .int .i64 0]) (by simp [results, Tryz.results25, go_sem, f0, f1, f2, f3, f4]) rfl
              ⟨by rw [HT.out]; rfl, set5_below HB.out (Nat.le_refl _) _ _ _ _ _⟩
      | _ =>
        have HP := Lib.hid (parse_bad (S.extract 0 k) (fun v e => by rw [hp] at e; cases e) W0 (by omega) He.out)
        have HT : Hid (numO S.data.toList = none) := Lib.hid (by unfold numO; rw [hnl, hp])
        clear hp hnl hsz
        go_wp2_with fail
        refine HP.out.mono ?_
        rintro e w1 ⟨x, t, a, rfl, hb1⟩
        have hz0 : WZero w1 w.heap.size := Blk.below Hz0.out hb1 Hz0.out.lt
        have hb0 := Hb0.out.trans (hb1.mono Hb0.out.size)
        have Hz1 := Lib.hid hz0; have Hb1 := Lib.hid hb0
        clear hz0 hb0 hb1
        go_wp2_with fail
        go_quiet (fail)
        go_wp2_with fail
        have hz0 : WZero (w1.drewN nq) w.heap.size := Hz1.out
        have hb0 : Below w.heap.size w (w1.drewN nq) := Hb1.out.trans ((drewN_below w1 nq).mono Hb1.out.size)
        refine (none_any _).mono ?_
        rintro e wz ⟨rfl, hbz⟩
        have hzz : WZero wz w.heap.size := Blk.below hz0 hbz hz0.lt
        have d0 : wz.frozen? ⟨w.heap.size, 0, none⟩ = false := hzz.frozen 0
        have d1 : wz.frozen? ⟨w.heap.size, 1, none⟩ = false := hzz.frozen 1
        have d2 : wz.frozen? ⟨w.heap.size, 2, none⟩ = false := hzz.frozen 2
        have d3 : wz.frozen? ⟨w.heap.size, 3, none⟩ = false := hzz.frozen 3
        have d4 : wz.frozen? ⟨w.heap.size, 4, none⟩ = false := hzz.frozen 4
        have c0 : wz.cell? ⟨w.heap.size, 0, none⟩ = some (.int .i64 0) := (hzz.cell 0).trans rfl
        have c1 : wz.cell? ⟨w.heap.size, 1, none⟩ = some (.string ⟨#[]⟩) := (hzz.cell 1).trans rfl
        have c2 : wz.cell? ⟨w.heap.size, 2, none⟩ = some (.int .i64 0) := (hzz.cell 2).trans rfl
        have c3 : wz.cell? ⟨w.heap.size, 3, none⟩ = some (.float .f64 0) := (hzz.cell 3).trans rfl
        have c4 : wz.cell? ⟨w.heap.size, 4, none⟩ = some (.int .i64 0) := (hzz.cell 4).trans rfl
        have HF := Lib.hid (set5_load hzz (by simp) (.int .i64 0) (.string ⟨#[]⟩) (.int .i64 0) (.float .f64 0) (.int .i64 0))
        have HB := Lib.hid (hb0.trans (hbz.mono hb0.size))
        clear hzz hbz hz0 hb0
        go_wp2_with fail
        obtain ⟨f0, f1, f2, f3, f4⟩ := HF.out
        exact bodyPost_ret (v := .tuple #[.agg #[.int .i64 0, .string ⟨#[]⟩, .int .i64 0, .float .f64 0, .int .i64 0], .int .i64 0]) (by simp [results, Tryz.results25, go_sem, f0, f1, f2, f3, f4]) rfl
          ⟨by rw [HT.out]; rfl, set5_below HB.out (Nat.le_refl _) _ _ _ _ _⟩

end Go.Proofs.YtnehbpfgdeilhaaGreatDoor
