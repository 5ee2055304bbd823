/- lex.readName, lex.readNumber -/
import Derived.Test.YtnehbpfgdeilhaaGreatDoorLxE
namespace Go.Proofs.YtnehbpfgdeilhaaGreatDoor
open Go.ChangeShapes Go.WideShapes Go.ChangeAt Go.RowKit Go.Fl
open Go.Shelf

theorem take_list (S : ByteArray) (k : Nat) : S.extract 0 k = ofL (S.data.toList.take k) := by
  unfold ofL
  apply ByteArray.ext
  rw [ByteArray.data_extract]
  apply Array.toList_inj.1
  simp

theorem wbox_start (w : World) : WZero (w.alloc (.cells #[.int .i64 0, .string ⟨#[]⟩, .int .i64 0, .float .f64 0, .int .i64 0] 56)) w.heap.size := Blk.new w _ _

set_option maxHeartbeats 4000000 in
set_option maxRecDepth 100000 in
theorem readName_any (S : ByteArray) (w : World) (hs : S.size ≤ 100000) :
    Calls Tryz.prog 27 #[.string S] w fun e w' => e = .returned (rdV (nameO S.data.toList)) ∧ Below w.heap.size w w' := by
  have hz0 := wbox_start w
  have hb0 : Below w.heap.size w (w.alloc (.cells #[.int .i64 0, .string ⟨#[]⟩, .int .i64 0, .float .f64 0, .int .i64 0] 56)) := (Below.refl _ _).alloc (Nat.le_refl _) _
  obtain ⟨W0, hW0⟩ : ∃ W0, (w.alloc (.cells #[.int .i64 0, .string ⟨#[]⟩, .int .i64 0, .float .f64 0, .int .i64 0] 56)) = W0 := ⟨_, rfl⟩
  rw [hW0] at hz0 hb0
  have Hz0 := Lib.hid hz0; have Hb0 := Lib.hid hb0
  clear hz0 hb0
  go_enter Tryz.func27, Tryz.ntmps27
  go_wp2_with fail
  go_loop [4] (fun i => ∃ k : Nat, k ≤ S.size ∧ i = .int .i64 k ∧ Hid (runP namB S.data.toList 0 = runP namB S.data.toList k)) (fun i => S.size - (intOf i).toNat)
  case atStart => exact ⟨0, Nat.zero_le _, rfl, Lib.hid rfl⟩
  case round =>
    obtain ⟨k, hk, rfl, Hk⟩ := hrel
    by_cases hlt : k < S.size
    · have hlt1 : decide ((k : Int) < (S.size : Int)) = true := by rw [decide_eq_true_eq]; omega
      have HL := Lib.hid (letter_any S[k])
      have HD := Lib.hid (digit_any S[k])
      cases hl : letB S[k]
      · cases hd : digB S[k]
        · by_cases h95 : S[k] = 95
          · have e9 : ((S[k].toNat : Int) == 95) = true := by rw [h95]; rfl
            have HN : Hid (namB S[k] = true) := Lib.hid (by rw [h95]; rfl)
            clear h95
            go_wp2_with fail
            refine (HL.out _).mono ?_
            rintro e w' ⟨rfl, rfl⟩
            rw [hl]
            go_wp2_with fail
            refine (HD.out _).mono ?_
            rintro e w' ⟨rfl, rfl⟩
            rw [hd]
            go_wp2_with fail
            go_round
            case rel => exact ⟨k + 1, by omega, by go_num, Lib.hid (Hk.out.trans (runP_step (P := namB) (l := S.data.toList) (k := k) hlt HN.out))⟩
            case measure => simp [intOf]; omega
          · have e9 : ((S[k].toNat : Int) == 95) = false := by have := u8_ne (k := 95) h95; rw [beq_eq_false_iff_ne]; omega
            have Hn : Hid (runP namB S.data.toList 0 = k) := Lib.hid (Hk.out.trans (runP_stop (P := namB) (l := S.data.toList) (k := k) hlt (by have h9 := u8_ne (k := 95) h95; show namB S[k] = false; unfold namB; rw [hl, hd, decide_eq_false h9]; rfl)))
            clear h95
            by_cases h0 : k = 0
            · have e0 : ((k : Int) == 0) = true := by rw [beq_iff_eq]; omega
              have HT : Hid (nameO S.data.toList = none) := Lib.hid (by unfold nameO; rw [Hn.out, if_pos (.inl h0)])
              clear h0
              go_wp2_with fail
              refine (HL.out _).mono ?_
              rintro e w' ⟨rfl, rfl⟩
              rw [hl]
              go_wp2_with fail
              refine (HD.out _).mono ?_
              rintro e w' ⟨rfl, rfl⟩
              rw [hd]
              go_wp2_with fail
              have hz0 := Hz0.out
              have hb0 := Hb0.out
              refine (none_any _).mono ?_
              rintro e wz ⟨rfl, hbz⟩
              have hzz : WZero wz w.heap.size := Blk.below hz0 hbz hz0.lt
              have d0 : wz.frozen? ⟨w.heap.size, 0, none⟩ = false := hzz.frozen 0
              have d1 : wz.frozen? ⟨w.heap.size, 1, none⟩ = false := hzz.frozen 1
              have d2 : wz.frozen? ⟨w.heap.size, 2, none⟩ = false := hzz.frozen 2
              have d3 : wz.frozen? ⟨w.heap.size, 3, none⟩ = false := hzz.frozen 3
              have d4 : wz.frozen? ⟨w.heap.size, 4, none⟩ = false := hzz.frozen 4
              have c0 : wz.cell? ⟨w.heap.size, 0, none⟩ = some (.int .i64 0) := (hzz.cell 0).trans rfl
              have c1 : wz.cell? ⟨w.heap.size, 1, none⟩ = some (.string ⟨#[]⟩) := (hzz.cell 1).trans rfl
              have c2 : wz.cell? ⟨w.heap.size, 2, none⟩ = some (.int .i64 0) := (hzz.cell 2).trans rfl
              have c3 : wz.cell? ⟨w.heap.size, 3, none⟩ = some (.float .f64 0) := (hzz.cell 3).trans rfl
              have c4 : wz.cell? ⟨w.heap.size, 4, none⟩ = some (.int .i64 0) := (hzz.cell 4).trans rfl
              have HF := Lib.hid (set5_load hzz (by simp) (.int .i64 0) (.string ⟨#[]⟩) (.int .i64 0) (.float .f64 0) (.int .i64 0))
              have HB := Lib.hid (hb0.trans (hbz.mono hb0.size))
              clear hzz hbz hz0 hb0
              go_wp2_with fail
              obtain ⟨f0, f1, f2, f3, f4⟩ := HF.out
              exact bodyPost_ret (v := .tuple #[.agg #[.int .i64 0, .string ⟨#[]⟩, .int .i64 0, .float .f64 0, .int .i64 0], .int .i64 0]) (by simp [results, Tryz.results27, go_sem, f0, f1, f2, f3, f4]) rfl
                ⟨by rw [HT.out]; rfl, set5_below HB.out (Nat.le_refl _) _ _ _ _ _⟩
            · have e0 : ((k : Int) == 0) = false := by rw [beq_eq_false_iff_ne]; omega
              by_cases h16 : 16 < k
              · have e1 : decide (16 < (k : Int)) = true := by rw [decide_eq_true_eq]; omega
                have HT : Hid (nameO S.data.toList = none) := Lib.hid (by unfold nameO; rw [Hn.out, if_pos (.inr h16)])
                clear h16
                go_wp2_with fail
                refine (HL.out _).mono ?_
                rintro e w' ⟨rfl, rfl⟩
                rw [hl]
                go_wp2_with fail
                refine (HD.out _).mono ?_
                rintro e w' ⟨rfl, rfl⟩
                rw [hd]
                go_wp2_with fail
                have hz0 := Hz0.out
                have hb0 := Hb0.out
                refine (none_any _).mono ?_
                rintro e wz ⟨rfl, hbz⟩
                have hzz : WZero wz w.heap.size := Blk.below hz0 hbz hz0.lt
                have d0 : wz.frozen? ⟨w.heap.size, 0, none⟩ = false := hzz.frozen 0
                have d1 : wz.frozen? ⟨w.heap.size, 1, none⟩ = false := hzz.frozen 1
                have d2 : wz.frozen? ⟨w.heap.size, 2, none⟩ = false := hzz.frozen 2
                have d3 : wz.frozen? ⟨w.heap.size, 3, none⟩ = false := hzz.frozen 3
                have d4 : wz.frozen? ⟨w.heap.size, 4, none⟩ = false := hzz.frozen 4
                have c0 : wz.cell? ⟨w.heap.size, 0, none⟩ = some (.int .i64 0) := (hzz.cell 0).trans rfl
                have c1 : wz.cell? ⟨w.heap.size, 1, none⟩ = some (.string ⟨#[]⟩) := (hzz.cell 1).trans rfl
                have c2 : wz.cell? ⟨w.heap.size, 2, none⟩ = some (.int .i64 0) := (hzz.cell 2).trans rfl
                have c3 : wz.cell? ⟨w.heap.size, 3, none⟩ = some (.float .f64 0) := (hzz.cell 3).trans rfl
                have c4 : wz.cell? ⟨w.heap.size, 4, none⟩ = some (.int .i64 0) := (hzz.cell 4).trans rfl
                have HF := Lib.hid (set5_load hzz (by simp) (.int .i64 0) (.string ⟨#[]⟩) (.int .i64 0) (.float .f64 0) (.int .i64 0))
                have HB := Lib.hid (hb0.trans (hbz.mono hb0.size))
                clear hzz hbz hz0 hb0
                go_wp2_with fail
                obtain ⟨f0, f1, f2, f3, f4⟩ := HF.out
                exact bodyPost_ret (v := .tuple #[.agg #[.int .i64 0, .string ⟨#[]⟩, .int .i64 0, .float .f64 0, .int .i64 0], .int .i64 0]) (by simp [results, Tryz.results27, go_sem, f0, f1, f2, f3, f4]) rfl
                  ⟨by rw [HT.out]; rfl, set5_below HB.out (Nat.le_refl _) _ _ _ _ _⟩
              · have e1 : decide (16 < (k : Int)) = false := by rw [decide_eq_false_iff_not]; omega
                have HT : Hid (nameO S.data.toList = some (⟨1, S.extract 0 k, 0, 0, 0⟩, k)) := Lib.hid (by unfold nameO; rw [Hn.out, if_neg (by omega), take_list])
                clear h16
                have hz0 := Hz0.out
                have hb0 := Hb0.out
                have d0 : W0.frozen? ⟨w.heap.size, 0, none⟩ = false := hz0.frozen 0
                have d1 : W0.frozen? ⟨w.heap.size, 1, none⟩ = false := hz0.frozen 1
                have d2 : W0.frozen? ⟨w.heap.size, 2, none⟩ = false := hz0.frozen 2
                have d3 : W0.frozen? ⟨w.heap.size, 3, none⟩ = false := hz0.frozen 3
                have d4 : W0.frozen? ⟨w.heap.size, 4, none⟩ = false := hz0.frozen 4
                have c0 : W0.cell? ⟨w.heap.size, 0, none⟩ = some (.int .i64 0) := (hz0.cell 0).trans rfl
                have c1 : W0.cell? ⟨w.heap.size, 1, none⟩ = some (.string ⟨#[]⟩) := (hz0.cell 1).trans rfl
                have c2 : W0.cell? ⟨w.heap.size, 2, none⟩ = some (.int .i64 0) := (hz0.cell 2).trans rfl
                have c3 : W0.cell? ⟨w.heap.size, 3, none⟩ = some (.float .f64 0) := (hz0.cell 3).trans rfl
                have c4 : W0.cell? ⟨w.heap.size, 4, none⟩ = some (.int .i64 0) := (hz0.cell 4).trans rfl
                have HF := Lib.hid (set5_load hz0 (by simp) (.int .i64 1) (.string (S.extract 0 k)) (.int .i64 0) (.float .f64 0) (.int .i64 0))
                have HB := Lib.hid hb0
                clear hz0 hb0
                go_wp2_with fail
                refine (HL.out _).mono ?_
                rintro e w' ⟨rfl, rfl⟩
                rw [hl]
                go_wp2_with fail
                refine (HD.out _).mono ?_
                rintro e w' ⟨rfl, rfl⟩
                rw [hd]
                go_wp2_with fail
                obtain ⟨f0, f1, f2, f3, f4⟩ := HF.out
                exact bodyPost_ret (v := .tuple #[.agg #[.int .i64 1, .string (S.extract 0 k), .int .i64 0, .float .f64 0, .int .i64 0], .int .i64 (k : Nat)]) (by simp [results, Tryz.results27, go_sem, f0, f1, f2, f3, f4]) rfl
                  ⟨by rw [HT.out]; rfl, set5_below HB.out (Nat.le_refl _) _ _ _ _ _⟩
        · have HN : Hid (namB S[k] = true) := Lib.hid (by unfold namB; rw [hd]; simp)
          go_wp2_with fail
          refine (HL.out _).mono ?_
          rintro e w' ⟨rfl, rfl⟩
          rw [hl]
          go_wp2_with fail
          refine (HD.out _).mono ?_
          rintro e w' ⟨rfl, rfl⟩
          rw [hd]
          go_wp2_with fail
          go_round
          case rel => exact ⟨k + 1, by omega, by go_num, Lib.hid (Hk.out.trans (runP_step (P := namB) (l := S.data.toList) (k := k) hlt HN.out))⟩
          case measure => simp [intOf]; omega
      · have HN : Hid (namB S[k] = true) := Lib.hid (by unfold namB; rw [hl]; simp)
        go_wp2_with fail
        refine (HL.out _).mono ?_
        rintro e w' ⟨rfl, rfl⟩
        rw [hl]
        go_wp2_with fail
        go_round
        case rel => exact ⟨k + 1, by omega, by go_num, Lib.hid (Hk.out.trans (runP_step (P := namB) (l := S.data.toList) (k := k) hlt HN.out))⟩
        case measure => simp [intOf]; omega
    · have hlt1 : decide ((k : Int) < (S.size : Int)) = false := by rw [decide_eq_false_iff_not]; omega
      have Hn : Hid (runP namB S.data.toList 0 = k) := Lib.hid (Hk.out.trans (runP_end (P := namB) (l := S.data.toList) (k := k) (by rw [len_list]; omega)))
      by_cases h0 : k = 0
      · have e0 : ((k : Int) == 0) = true := by rw [beq_iff_eq]; omega
        have HT : Hid (nameO S.data.toList = none) := Lib.hid (by unfold nameO; rw [Hn.out, if_pos (.inl h0)])
        clear h0
        go_wp2_with fail
        have hz0 := Hz0.out
        have hb0 := Hb0.out
        refine (none_any _).mono ?_
        rintro e wz ⟨rfl, hbz⟩
        have hzz : WZero wz w.heap.size := Blk.below hz0 hbz hz0.lt
        have d0 : wz.frozen? ⟨w.heap.size, 0, none⟩ = false := hzz.frozen 0
        have d1 : wz.frozen? ⟨w.heap.size, 1, none⟩ = false := hzz.frozen 1
        have d2 : wz.frozen? ⟨w.heap.size, 2, none⟩ = false := hzz.frozen 2
        have d3 : wz.frozen? ⟨w.heap.size, 3, none⟩ = false := hzz.frozen 3
        have d4 : wz.frozen? ⟨w.heap.size, 4, none⟩ = false := hzz.frozen 4
        have c0 : wz.cell? ⟨w.heap.size, 0, none⟩ = some (.int .i64 0) := (hzz.cell 0).trans rfl
        have c1 : wz.cell? ⟨w.heap.size, 1, none⟩ = some (.string ⟨#[]⟩) := (hzz.cell 1).trans rfl
        have c2 : wz.cell? ⟨w.heap.size, 2, none⟩ = some (.int .i64 0) := (hzz.cell 2).trans rfl
        have c3 : wz.cell? ⟨w.heap.size, 3, none⟩ = some (.float .f64 0) := (hzz.cell 3).trans rfl
        have c4 : wz.cell? ⟨w.heap.size, 4, none⟩ = some (.int .i64 0) := (hzz.cell 4).trans rfl
        have HF := Lib.hid (set5_load hzz (by simp) (.int .i64 0) (.string ⟨#[]⟩) (.int .i64 0) (.float .f64 0) (.int .i64 0))
        have HB := Lib.hid (hb0.trans (hbz.mono hb0.size))
        clear hzz hbz hz0 hb0
        go_wp2_with fail
        obtain ⟨f0, f1, f2, f3, f4⟩ := HF.out
        exact bodyPost_ret (v := .tuple #[.agg #[.int .i64 0, .string ⟨#[]⟩, .int .i64 0, .float .f64 0, .int .i64 0], .int .i64 0]) (by simp [results, Tryz.results27, go_sem, f0, f1, f2, f3, f4]) rfl
          ⟨by rw [HT.out]; rfl, set5_below HB.out (Nat.le_refl _) _ _ _ _ _⟩
      · have e0 : ((k : Int) == 0) = false := by rw [beq_eq_false_iff_ne]; omega
        by_cases h16 : 16 < k
        · have e1 : decide (16 < (k : Int)) = true := by rw [decide_eq_true_eq]; omega
          have HT : Hid (nameO S.data.toList = none) := Lib.hid (by unfold nameO; rw [Hn.out, if_pos (.inr h16)])
          clear h16
          go_wp2_with fail
          have hz0 := Hz0.out
          have hb0 := Hb0.out
          refine (none_any _).mono ?_
          rintro e wz ⟨rfl, hbz⟩
          have hzz : WZero wz w.heap.size := Blk.below hz0 hbz hz0.lt
          have d0 : wz.frozen? ⟨w.heap.size, 0, none⟩ = false := hzz.frozen 0
          have d1 : wz.frozen? ⟨w.heap.size, 1, none⟩ = false := hzz.frozen 1
          have d2 : wz.frozen? ⟨w.heap.size, 2, none⟩ = false := hzz.frozen 2
          have d3 : wz.frozen? ⟨w.heap.size, 3, none⟩ = false := hzz.frozen 3
          have d4 : wz.frozen? ⟨w.heap.size, 4, none⟩ = false := hzz.frozen 4
          have c0 : wz.cell? ⟨w.heap.size, 0, none⟩ = some (.int .i64 0) := (hzz.cell 0).trans rfl
          have c1 : wz.cell? ⟨w.heap.size, 1, none⟩ = some (.string ⟨#[]⟩) := (hzz.cell 1).trans rfl
          have c2 : wz.cell? ⟨w.heap.size, 2, none⟩ = some (.int .i64 0) := (hzz.cell 2).trans rfl
          have c3 : wz.cell? ⟨w.heap.size, 3, none⟩ = some (.float .f64 0) := (hzz.cell 3).trans rfl
          have c4 : wz.cell? ⟨w.heap.size, 4, none⟩ = some (.int .i64 0) := (hzz.cell 4).trans rfl
          have HF := Lib.hid (set5_load hzz (by simp) (.int .i64 0) (.string ⟨#[]⟩) (.int .i64 0) (.float .f64 0) (.int .i64 0))
          have HB := Lib.hid (hb0.trans (hbz.mono hb0.size))
          clear hzz hbz hz0 hb0
          go_wp2_with fail
          obtain ⟨f0, f1, f2, f3, f4⟩ := HF.out
          exact bodyPost_ret (v := .tuple #[.agg #[.int .i64 0, .string ⟨#[]⟩, .int .i64 0, .float .f64 0, .int .i64 0], .int .i64 0]) (by simp [results, Tryz.results27, go_sem, f0, f1, f2, f3, f4]) rfl
            ⟨by rw [HT.out]; rfl, set5_below HB.out (Nat.le_refl _) _ _ _ _ _⟩
        · have e1 : decide (16 < (k : Int)) = false := by rw [decide_eq_false_iff_not]; omega
          have HT : Hid (nameO S.data.toList = some (⟨1, S.extract 0 k, 0, 0, 0⟩, k)) := Lib.hid (by unfold nameO; rw [Hn.out, if_neg (by omega), take_list])
          clear h16
          have hz0 := Hz0.out
          have hb0 := Hb0.out
          have d0 : W0.frozen? ⟨w.heap.size, 0, none⟩ = false := hz0.frozen 0
          have d1 : W0.frozen? ⟨w.heap.size, 1, none⟩ = false := hz0.frozen 1
          have d2 : W0.frozen? ⟨w.heap.size, 2, none⟩ = false := hz0.frozen 2
          have d3 : W0.frozen? ⟨w.heap.size, 3, none⟩ = false := hz0.frozen 3
          have d4 : W0.frozen? ⟨w.heap.size, 4, none⟩ = false := hz0.frozen 4
          have c0 : W0.cell? ⟨w.heap.size, 0, none⟩ = some (.int .i64 0) := (hz0.cell 0).trans rfl
          have c1 : W0.cell? ⟨w.heap.size, 1, none⟩ = some (.string ⟨#[]⟩) := (hz0.cell 1).trans rfl
          have c2 : W0.cell? ⟨w.heap.size, 2, none⟩ = some (.int .i64 0) := (hz0.cell 2).trans rfl
          have c3 : W0.cell? ⟨w.heap.size, 3, none⟩ = some (.float .f64 0) := (hz0.cell 3).trans rfl
          have c4 : W0.cell? ⟨w.heap.size, 4, none⟩ = some (.int .i64 0) := (hz0.cell 4).trans rfl
          have HF := Lib.hid (set5_load hz0 (by simp) (.int .i64 1) (.string (S.extract 0 k)) (.int .i64 0) (.float .f64 0) (.int .i64 0))
          have HB := Lib.hid hb0
          clear hz0 hb0
          go_wp2_with fail
          obtain ⟨f0, f1, f2, f3, f4⟩ := HF.out
          exact bodyPost_ret (v := .tuple #[.agg #[.int .i64 1, .string (S.extract 0 k), .int .i64 0, .float .f64 0, .int .i64 0], .int .i64 (k : Nat)]) (by simp [results, Tryz.results27, go_sem, f0, f1, f2, f3, f4]) rfl
            ⟨by rw [HT.out]; rfl, set5_below HB.out (Nat.le_refl _) _ _ _ _ _⟩

end Go.Proofs.YtnehbpfgdeilhaaGreatDoor
