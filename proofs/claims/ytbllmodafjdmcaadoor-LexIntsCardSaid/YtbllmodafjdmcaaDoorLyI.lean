/- the walk of LexInts -/
import Derived.Test.YtbllmodafjdmcaaDoorLyR
namespace Go.Proofs.YtbllmodafjdmcaaDoor
open Go.ChangeShapes Go.WideShapes Go.ChangeAt Go.RowKit Go.Fl
open Go.Shelf

theorem Dgs.nil : Dgs [] := ⟨rfl, fun _ _ h => by cases h⟩

theorem Dgs.snoc {l : List UInt8} {c : UInt8} (h : Dgs l) (hc : digB c = true) : Dgs (l ++ [c]) := by
  cases l with
  | nil => exact ⟨rfl, fun a r e => by injection e with e1 _; subst e1; exact .inr hc⟩
  | cons b r =>
    refine ⟨?_, fun a q e => ?_⟩
    · have := h.1
      simp only [List.drop_succ_cons, List.drop_zero] at this
      show (r ++ [c]).all digB = true
      rw [List.all_append, this, List.all_cons, hc]; rfl
    · injection e with e1 _; subst e1; exact h.2 _ _ rfl

theorem Dgs.minus : Dgs [45] := ⟨rfl, fun a r e => by injection e with e1 _; subst e1; exact .inl rfl⟩

set_option maxHeartbeats 8000000 in
set_option maxRecDepth 100000 in
theorem ints_walk (S : ByteArray) (w : World) (_hs : S.size ≤ maxLen) (he : Env w) :
    Calls Tryd.prog 5 #[.string S] w fun e w' => e = .returned (.bool true) ∧ Below w.heap.size w w' := by

  have He := Lib.hid he; clear he
  go_enter Tryd.func5, Tryd.ntmps5
  go_wp2_with fail
  go_loopw [3, 4] (fun so si wr => ∃ (k : Nat) (acc : List UInt8) (g cap : Nat), so = .slice (some ⟨g, 0, none⟩) acc.length cap ∧ si = .int .i64 k ∧ k ≤ S.size ∧ k ≤ 22 ∧ acc.length ≤ k ∧ Hid (Dgs acc) ∧ Hid (OwnB w.heap.size wr acc g cap ∧ Below w.heap.size w wr)) (fun _ si _ => S.size - (intOf si).toNat)
  case atStart => exact ⟨0, [], w.heap.size, 0, rfl, rfl, Nat.zero_le _, by decide, Nat.le_refl _, Lib.hid Dgs.nil, Lib.hid ⟨OwnB.start w, (Below.refl _ _).alloc (Nat.le_refl _) _⟩⟩
  case round =>
    obtain ⟨k, acc, g, cap, rfl, rfl, hk, hk22, hal, Hdg, Hw⟩ := hrel
    by_cases hlt : k < S.size
    · have hlt1 : decide ((k : Int) < (S.size : Int)) = true := by rw [decide_eq_true_eq]; omega
      by_cases h22 : k < 22
      · have hlt2 : decide ((k : Int) < 22) = true := by rw [decide_eq_true_eq]; omega
        have hcl := S[k].toNat_lt
        by_cases hd : 48 ≤ S[k].toNat ∧ S[k].toNat ≤ 57
        · have e1 : decide (48 ≤ (S[k].toNat : Int)) = true := by rw [decide_eq_true_eq]; omega
          have e2 : decide ((S[k].toNat : Int) ≤ 57) = true := by rw [decide_eq_true_eq]; omega
          have HDg : Hid (Dgs (acc ++ [S[k]])) := Lib.hid (Hdg.out.snoc ((digB_iff _).2 hd))
          clear hd
          obtain ⟨g', cap', w2, hr, hown', hb2⟩ := OwnB.add (Hw.out.1.on ((Below.refl wr.heap.size wr).alloc (Nat.le_refl _) (.cells #[.int .u8 (S[k].toNat : Nat)] 5))) (by simp; exact Nat.le_trans Hw.out.2.size (by omega)) (by omega) S[k] ⟨wr.heap.size, 0, none⟩ (by have := (Blk.new wr 5 #[.int .u8 (S[k].toNat : Nat)]).cell 0; rw [this]; rfl)
          have HR := Lib.hid hr
          have HN : Hid (OwnB w.heap.size w2 (acc ++ [S[k]]) g' cap' ∧ Below w.heap.size w w2) := Lib.hid ⟨hown', (Hw.out.2.alloc Hw.out.2.size _).trans hb2⟩
          clear hr hown' hb2
          go_wp2_with (at_builtin; refine Lib.wpList_append_run_sl _ rfl _ _ 41 rfl _ _ rfl rfl HR.out ?_)
          refine ⟨⟨k + 1, acc ++ [S[k]], g', cap', (by first | rfl | simp), (by first | rfl | go_num), by omega, by omega, by rw [List.length_append, List.length_singleton]; omega, HDg, HN⟩, by simp [intOf]; omega⟩
        · by_cases hm : S[k] = 45
          · have e1 : decide (48 ≤ (S[k].toNat : Int)) = false := by rw [hm]; rfl
            have e3 : ((S[k].toNat : Int) == 45) = true := by rw [hm]; rfl
            by_cases hk0 : k = 0
            · have e4 : ((k : Int) == 0) = true := by rw [beq_iff_eq]; omega
              have HDg : Hid (Dgs (acc ++ [S[k]])) := Lib.hid (by
                have : acc = [] := List.length_eq_zero_iff.1 (by omega)
                rw [this, hm]; exact Dgs.minus)
              clear hd hm hk0
              obtain ⟨g', cap', w2, hr, hown', hb2⟩ := OwnB.add (Hw.out.1.on ((Below.refl wr.heap.size wr).alloc (Nat.le_refl _) (.cells #[.int .u8 (S[k].toNat : Nat)] 5))) (by simp; exact Nat.le_trans Hw.out.2.size (by omega)) (by omega) S[k] ⟨wr.heap.size, 0, none⟩ (by have := (Blk.new wr 5 #[.int .u8 (S[k].toNat : Nat)]).cell 0; rw [this]; rfl)
              have HR := Lib.hid hr
              have HN : Hid (OwnB w.heap.size w2 (acc ++ [S[k]]) g' cap' ∧ Below w.heap.size w w2) := Lib.hid ⟨hown', (Hw.out.2.alloc Hw.out.2.size _).trans hb2⟩
              clear hr hown' hb2
              go_wp2_with (at_builtin; refine Lib.wpList_append_run_sl _ rfl _ _ 41 rfl _ _ rfl rfl HR.out ?_)
              refine ⟨⟨k + 1, acc ++ [S[k]], g', cap', (by first | rfl | simp), (by first | rfl | go_num), by omega, by omega, by rw [List.length_append, List.length_singleton]; omega, HDg, HN⟩, by simp [intOf]; omega⟩
            · have e4 : ((k : Int) == 0) = false := by rw [beq_eq_false_iff_ne]; omega
              clear hd hm hk0
              go_wp2_with fail
              go_roundw
              case rel => exact ⟨k + 1, acc, g, cap, rfl, by go_num, by omega, by omega, by omega, Hdg, Hw⟩
              case measure => simp [intOf]; omega
          · have e3 : ((S[k].toNat : Int) == 45) = false := by have := u8_ne (k := 45) hm; rw [beq_eq_false_iff_ne]; omega
            by_cases h48 : S[k].toNat < 48
            · have e1 : decide (48 ≤ (S[k].toNat : Int)) = false := by rw [decide_eq_false_iff_not]; omega
              clear hd hm h48
              go_wp2_with fail
              go_roundw
              case rel => exact ⟨k + 1, acc, g, cap, rfl, by go_num, by omega, by omega, by omega, Hdg, Hw⟩
              case measure => simp [intOf]; omega
            · have e1 : decide (48 ≤ (S[k].toNat : Int)) = true := by rw [decide_eq_true_eq]; omega
              have e2 : decide ((S[k].toNat : Int) ≤ 57) = false := by rw [decide_eq_false_iff_not]; omega
              clear hd hm h48
              go_wp2_with fail
              go_roundw
              case rel => exact ⟨k + 1, acc, g, cap, rfl, by go_num, by omega, by omega, by omega, Hdg, Hw⟩
              case measure => simp [intOf]; omega
      · have hlt2 : decide ((k : Int) < 22) = false := by rw [decide_eq_false_iff_not]; omega

        have hcv := Hw.out.1.str
        have hsa : (ofL acc).size ≤ 22 := by rw [ofL_size]; omega
        have HI0 := rint_any (ofL acc) wr (by omega)
        by_cases hem : acc = []
        · have e0 : ((acc.length : Int) == 0) = true := by rw [hem]; rfl
          have HC := Lib.hid (words_good (ofL acc) _ wr (by unfold maxLen; omega) (He.out.on Hw.out.2) (by rw [show (ofL acc).data.toList = acc from rfl, hem]; exact words_none canonN))
          have HI : Hid (Calls Tryd.prog 13 #[.string (ofL acc)] wr fun e w' => e = .returned (.tuple #[.int .i64 0, .bool false]) ∧ wr = w') := Lib.hid (by rw [show (ofL acc).data.toList = acc from rfl, hem] at HI0; rw [hem]; exact HI0)
          obtain ⟨SA, hSA⟩ : ∃ SA, ofL acc = SA := ⟨_, rfl⟩
          rw [hSA] at hcv HC HI
          have Hb1 := Lib.hid Hw.out.2
          clear HI0 hem hsa hSA
          go_wp2_with fail
          refine HI.out.mono ?_
          rintro e w' ⟨rfl, rfl⟩
          go_wp2_with fail
          refine HC.out.mono ?_
          rintro e w2 ⟨q, cq, rfl, hc, hg, hcl, hb2⟩
          rw [show ([⟨0, ⟨#[]⟩, 0, 0, 0⟩] : List Wd).length = 1 from rfl] at hc ⊢
          have Hb2 := Lib.hid (Hb1.out.trans (hb2.mono Hb1.out.size)); clear hb2 hcl
          go_wp2_with fail
          refine (awake_any w2 (He.out.on Hb2.out)).mono ?_
          rintro e w3 ⟨rfl, hb3⟩
          have Hb3 := Lib.hid (Hb2.out.trans (hb3.mono Hb2.out.size)); clear hb3
          go_wp2_with fail
          go_ret
          exact ⟨rfl, Hb3.out⟩
        · have e0 : ((acc.length : Int) == 0) = false := by
            rw [beq_eq_false_iff_ne]
            intro e
            exact hem (List.length_eq_zero_iff.1 (by omega))
          have hw := words_dgs canonN acc Hdg.out hem (by omega)
          cases hi : intO acc with
          | none =>
            rw [hi] at hw
            have HC := Lib.hid (words_bad (ofL acc) 0 110 [] wr (by unfold maxLen; omega) (He.out.on Hw.out.2) hw (by decide))
            have HI : Hid (Calls Tryd.prog 13 #[.string (ofL acc)] wr fun e w' => e = .returned (.tuple #[.int .i64 0, .bool false]) ∧ wr = w') := Lib.hid (by rw [show (ofL acc).data.toList = acc from rfl, hi] at HI0; exact HI0)
            obtain ⟨SA, hSA⟩ : ∃ SA, ofL acc = SA := ⟨_, rfl⟩
            rw [hSA] at hcv HC HI
            have Hb1 := Lib.hid Hw.out.2
            clear HI0 hem hsa hSA hw hi
            go_wp2_with fail
            refine HI.out.mono ?_
            rintro e w' ⟨rfl, rfl⟩
            go_wp2_with fail
            refine HC.out.mono ?_
            rintro e w2 ⟨rfl, hb2⟩
            have Hb2 := Lib.hid (Hb1.out.trans (hb2.mono Hb1.out.size)); clear hb2
            go_wp2_with fail
            refine (awake_any w2 (He.out.on Hb2.out)).mono ?_
            rintro e w3 ⟨rfl, hb3⟩
            have Hb3 := Lib.hid (Hb2.out.trans (hb3.mono Hb2.out.size)); clear hb3
            go_wp2_with fail
            go_ret
            exact ⟨rfl, Hb3.out⟩
          | some v =>
            rw [hi] at hw
            have HC := Lib.hid (words_good (ofL acc) _ wr (by unfold maxLen; omega) (He.out.on Hw.out.2) hw)
            have HI : Hid (Calls Tryd.prog 13 #[.string (ofL acc)] wr fun e w' => e = .returned (.tuple #[.int .i64 v, .bool true]) ∧ wr = w') := Lib.hid (by rw [show (ofL acc).data.toList = acc from rfl, hi] at HI0; exact HI0)
            obtain ⟨SB, hSB⟩ : ∃ SB, (ofL acc) = SB := ⟨_, rfl⟩
            obtain ⟨m, hm⟩ : ∃ m, acc.length = m := ⟨_, rfl⟩
            rw [hSB] at hcv HI
            rw [show ofL acc = SB from hSB] at HC
            have Hb1 := Lib.hid Hw.out.2
            clear HI0 hem hsa hSB hw hi hm m
            go_wp2_with fail
            refine HI.out.mono ?_
            rintro e w' ⟨rfl, rfl⟩
            go_wp2_with fail
            refine HC.out.mono ?_
            rintro e w2 ⟨q, cq, rfl, hc, hg, hcl, hb2⟩
            rw [show ([⟨2, SB, v, 0, 0⟩, ⟨0, ⟨#[]⟩, 0, 0, acc.length⟩] : List Wd).length = 2 from rfl] at hc ⊢
            have Hb2 := Lib.hid (Hb1.out.trans (hb2.mono Hb1.out.size)); clear hb2
            have Hcl := Lib.hid hcl; clear hcl
            go_wp2_with fail
            refine (awake_any w2 (He.out.on Hb2.out)).mono ?_
            rintro e w3 ⟨rfl, hb3⟩
            have c2 : w3.cell? ⟨q, 2, none⟩ = some (.int .i64 v) := (hb3.cell (p := ⟨q, 2, none⟩) hg).trans (Hcl.out 0 2 (by simp) (by decide))
            have Hb3 := Lib.hid (Hb2.out.trans (hb3.mono Hb2.out.size)); clear hb3
            go_wp2_with fail
            go_ret
            exact ⟨rfl, Hb3.out⟩
    · have hlt1 : decide ((k : Int) < (S.size : Int)) = false := by rw [decide_eq_false_iff_not]; omega

      have hcv := Hw.out.1.str
      have hsa : (ofL acc).size ≤ 22 := by rw [ofL_size]; omega
      have HI0 := rint_any (ofL acc) wr (by omega)
      by_cases hem : acc = []
      · have e0 : ((acc.length : Int) == 0) = true := by rw [hem]; rfl
        have HC := Lib.hid (words_good (ofL acc) _ wr (by unfold maxLen; omega) (He.out.on Hw.out.2) (by rw [show (ofL acc).data.toList = acc from rfl, hem]; exact words_none canonN))
        have HI : Hid (Calls Tryd.prog 13 #[.string (ofL acc)] wr fun e w' => e = .returned (.tuple #[.int .i64 0, .bool false]) ∧ wr = w') := Lib.hid (by rw [show (ofL acc).data.toList = acc from rfl, hem] at HI0; rw [hem]; exact HI0)
        obtain ⟨SA, hSA⟩ : ∃ SA, ofL acc = SA := ⟨_, rfl⟩
        rw [hSA] at hcv HC HI
        have Hb1 := Lib.hid Hw.out.2
        clear HI0 hem hsa hSA
        go_wp2_with fail
        refine HI.out.mono ?_
        rintro e w' ⟨rfl, rfl⟩
        go_wp2_with fail
        refine HC.out.mono ?_
        rintro e w2 ⟨q, cq, rfl, hc, hg, hcl, hb2⟩
        rw [show ([⟨0, ⟨#[]⟩, 0, 0, 0⟩] : List Wd).length = 1 from rfl] at hc ⊢
        have Hb2 := Lib.hid (Hb1.out.trans (hb2.mono Hb1.out.size)); clear hb2 hcl
        go_wp2_with fail
        refine (awake_any w2 (He.out.on Hb2.out)).mono ?_
        rintro e w3 ⟨rfl, hb3⟩
        have Hb3 := Lib.hid (Hb2.out.trans (hb3.mono Hb2.out.size)); clear hb3
        go_wp2_with fail
        go_ret
        exact ⟨rfl, Hb3.out⟩
      · have e0 : ((acc.length : Int) == 0) = false := by
          rw [beq_eq_false_iff_ne]
          intro e
          exact hem (List.length_eq_zero_iff.1 (by omega))
        have hw := words_dgs canonN acc Hdg.out hem (by omega)
        cases hi : intO acc with
        | none =>
          rw [hi] at hw
          have HC := Lib.hid (words_bad (ofL acc) 0 110 [] wr (by unfold maxLen; omega) (He.out.on Hw.out.2) hw (by decide))
          have HI : Hid (Calls Tryd.prog 13 #[.string (ofL acc)] wr fun e w' => e = .returned (.tuple #[.int .i64 0, .bool false]) ∧ wr = w') := Lib.hid (by rw [show (ofL acc).data.toList = acc from rfl, hi] at HI0; exact HI0)
          obtain ⟨SA, hSA⟩ : ∃ SA, ofL acc = SA := ⟨_, rfl⟩
          rw [hSA] at hcv HC HI
          have Hb1 := Lib.hid Hw.out.2
          clear HI0 hem hsa hSA hw hi
          go_wp2_with fail
          refine HI.out.mono ?_
          rintro e w' ⟨rfl, rfl⟩
          go_wp2_with fail
          refine HC.out.mono ?_
          rintro e w2 ⟨rfl, hb2⟩
          have Hb2 := Lib.hid (Hb1.out.trans (hb2.mono Hb1.out.size)); clear hb2
          go_wp2_with fail
          refine (awake_any w2 (He.out.on Hb2.out)).mono ?_
          rintro e w3 ⟨rfl, hb3⟩
          have Hb3 := Lib.hid (Hb2.out.trans (hb3.mono Hb2.out.size)); clear hb3
          go_wp2_with fail
          go_ret
          exact ⟨rfl, Hb3.out⟩
        | some v =>
          rw [hi] at hw
          have HC := Lib.hid (words_good (ofL acc) _ wr (by unfold maxLen; omega) (He.out.on Hw.out.2) hw)
          have HI : Hid (Calls Tryd.prog 13 #[.string (ofL acc)] wr fun e w' => e = .returned (.tuple #[.int .i64 v, .bool true]) ∧ wr = w') := Lib.hid (by rw [show (ofL acc).data.toList = acc from rfl, hi] at HI0; exact HI0)
          obtain ⟨SB, hSB⟩ : ∃ SB, (ofL acc) = SB := ⟨_, rfl⟩
          obtain ⟨m, hm⟩ : ∃ m, acc.length = m := ⟨_, rfl⟩
          rw [hSB] at hcv HI
          rw [show ofL acc = SB from hSB] at HC
          have Hb1 := Lib.hid Hw.out.2
          clear HI0 hem hsa hSB hw hi hm m
          go_wp2_with fail
          refine HI.out.mono ?_
          rintro e w' ⟨rfl, rfl⟩
          go_wp2_with fail
          refine HC.out.mono ?_
          rintro e w2 ⟨q, cq, rfl, hc, hg, hcl, hb2⟩
          rw [show ([⟨2, SB, v, 0, 0⟩, ⟨0, ⟨#[]⟩, 0, 0, acc.length⟩] : List Wd).length = 2 from rfl] at hc ⊢
          have Hb2 := Lib.hid (Hb1.out.trans (hb2.mono Hb1.out.size)); clear hb2
          have Hcl := Lib.hid hcl; clear hcl
          go_wp2_with fail
          refine (awake_any w2 (He.out.on Hb2.out)).mono ?_
          rintro e w3 ⟨rfl, hb3⟩
          have c2 : w3.cell? ⟨q, 2, none⟩ = some (.int .i64 v) := (hb3.cell (p := ⟨q, 2, none⟩) hg).trans (Hcl.out 0 2 (by simp) (by decide))
          have Hb3 := Lib.hid (Hb2.out.trans (hb3.mono Hb2.out.size)); clear hb3
          go_wp2_with fail
          go_ret
          exact ⟨rfl, Hb3.out⟩

end Go.Proofs.YtbllmodafjdmcaaDoor
