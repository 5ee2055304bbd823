/- lex's small functions -/
import Derived.Test.YtnehbpfgdeilhaaGreatDoorInts
import Derived.Test.YtnehbpfgdeilhaaGreatDoorRowL
import Derived.Test.YtnehbpfgdeilhaaGreatDoorLxM
import Derived.Test.YtnehbpfgdeilhaaGreatDoorLayN
namespace Go.Proofs.YtnehbpfgdeilhaaGreatDoor
open Go.ChangeShapes Go.WideShapes Go.ChangeAt Go.RowKit Go.Fl
open Go.Shelf

set_option maxRecDepth 100000 in
theorem digit_any (c : UInt8) (w : World) : Calls Tryz.prog 24 #[.int .u8 (c.toNat : Nat)] w fun e w' => e = .returned (.bool (digB c)) ∧ w = w' := by
  unfold digB
  by_cases h : 48 ≤ c.toNat
  · have h1 : decide (48 ≤ (c.toNat : Int)) = true := by rw [decide_eq_true_eq]; omega
    by_cases h2 : c.toNat ≤ 57
    · have h3 : decide ((c.toNat : Int) ≤ 57) = true := by rw [decide_eq_true_eq]; omega
      rw [decide_eq_true h, decide_eq_true h2]
      clear h h2
      go_enter Tryz.func24, Tryz.ntmps24
      go_wp2_with fail
      go_ret
      exact ⟨rfl, rfl⟩
    · have h3 : decide ((c.toNat : Int) ≤ 57) = false := by rw [decide_eq_false_iff_not]; omega
      rw [decide_eq_true h, decide_eq_false h2]
      clear h h2
      go_enter Tryz.func24, Tryz.ntmps24
      go_wp2_with fail
      go_ret
      exact ⟨rfl, rfl⟩
  · have h1 : decide (48 ≤ (c.toNat : Int)) = false := by rw [decide_eq_false_iff_not]; omega
    rw [decide_eq_false h]
    clear h
    go_enter Tryz.func24, Tryz.ntmps24
    go_wp2_with fail
    go_ret
    exact ⟨rfl, rfl⟩

set_option maxRecDepth 100000 in
theorem plainB_any (c : UInt8) (w : World) : Calls Tryz.prog 53 #[.int .u8 (c.toNat : Nat)] w fun e w' => e = .returned (.bool (plnB c)) ∧ w = w' := by
  unfold plnB
  by_cases h : 32 ≤ c.toNat
  · have h1 : decide (32 ≤ (c.toNat : Int)) = true := by rw [decide_eq_true_eq]; omega
    by_cases h2 : c.toNat ≤ 126
    · have h3 : decide ((c.toNat : Int) ≤ 126) = true := by rw [decide_eq_true_eq]; omega
      rw [decide_eq_true h, decide_eq_true h2]
      clear h h2
      go_enter Tryz.func53, Tryz.ntmps53
      go_wp2_with fail
      go_ret
      exact ⟨rfl, rfl⟩
    · have h3 : decide ((c.toNat : Int) ≤ 126) = false := by rw [decide_eq_false_iff_not]; omega
      rw [decide_eq_true h, decide_eq_false h2]
      clear h h2
      go_enter Tryz.func53, Tryz.ntmps53
      go_wp2_with fail
      go_ret
      exact ⟨rfl, rfl⟩
  · have h1 : decide (32 ≤ (c.toNat : Int)) = false := by rw [decide_eq_false_iff_not]; omega
    rw [decide_eq_false h]
    clear h
    go_enter Tryz.func53, Tryz.ntmps53
    go_wp2_with fail
    go_ret
    exact ⟨rfl, rfl⟩

set_option maxRecDepth 100000 in
theorem letter_any (c : UInt8) (w : World) : Calls Tryz.prog 44 #[.int .u8 (c.toNat : Nat)] w fun e w' => e = .returned (.bool (letB c)) ∧ w = w' := by
  unfold letB
  obtain ⟨a1, h1, g1⟩ : ∃ b, decide (97 ≤ c.toNat) = b ∧ decide (97 ≤ (c.toNat : Int)) = b := ⟨_, rfl, by congr 1; simp; omega⟩
  obtain ⟨a2, h2, g2⟩ : ∃ b, decide (c.toNat ≤ 122) = b ∧ decide ((c.toNat : Int) ≤ 122) = b := ⟨_, rfl, by congr 1; simp; omega⟩
  obtain ⟨a3, h3, g3⟩ : ∃ b, decide (65 ≤ c.toNat) = b ∧ decide (65 ≤ (c.toNat : Int)) = b := ⟨_, rfl, by congr 1; simp; omega⟩
  obtain ⟨a4, h4, g4⟩ : ∃ b, decide (c.toNat ≤ 90) = b ∧ decide ((c.toNat : Int) ≤ 90) = b := ⟨_, rfl, by congr 1; simp; omega⟩
  rw [h1, h2, h3, h4]
  clear h1 h2 h3 h4
  cases a1 <;> cases a2 <;> cases a3 <;> cases a4
  all_goals
    go_enter Tryz.func44, Tryz.ntmps44
    go_wp2_with fail
    go_ret
    exact ⟨rfl, rfl⟩

theorem get_list (s : ByteArray) (k : Nat) (h : k < s.size) : s.data.toList[k]'(by simpa using h) = s[k] := rfl

theorem len_list (s : ByteArray) : s.data.toList.length = s.size := rfl

set_option maxHeartbeats 1000000 in
set_option maxRecDepth 100000 in
theorem skip_any (s : ByteArray) (a : Nat) (w : World) (ha : a ≤ s.size) (hs : s.size ≤ maxLen) :
    Calls Tryz.prog 13 #[.string s, .int .i64 (a : Nat)] w fun e w' => e = .returned (.int .i64 (runP spcB s.data.toList a : Nat)) ∧ w = w' := by
  unfold maxLen at hs
  go_enter Tryz.func13, Tryz.ntmps13
  go_wp2_with fail
  go_loop [1] (fun i => ∃ k : Nat, k ≤ s.size ∧ i = .int .i64 k ∧ Hid (runP spcB s.data.toList a = runP spcB s.data.toList k)) (fun i => s.size - (intOf i).toNat)
  case atStart => exact ⟨a, ha, rfl, Lib.hid rfl⟩
  case round =>
    obtain ⟨k, hk, rfl, Hk⟩ := hrel
    by_cases hlt : k < s.size
    · have hlt1 : decide ((k : Int) < (s.size : Int)) = true := by rw [decide_eq_true_eq]; omega
      by_cases hc : s[k].toNat = 32
      · have h1 : ((s[k].toNat : Int) == 32) = true := by rw [beq_iff_eq]; omega
        have hst := runP_step (P := spcB) (l := s.data.toList) (k := k) (by simpa using hlt) (by simp [spcB]; exact hc)
        have Hst := Lib.hid hst
        clear hst hc
        go_wp2_with fail
        go_round
        case rel => exact ⟨k + 1, by omega, by go_num, Lib.hid (Hk.out.trans Hst.out)⟩
        case measure => simp [intOf]; omega
      · have h1 : ((s[k].toNat : Int) == 32) = false := by rw [beq_eq_false_iff_ne]; omega
        have hst := runP_stop (P := spcB) (l := s.data.toList) (k := k) (by simpa using hlt) (by simp [spcB]; exact hc)
        have Hst := Lib.hid hst
        clear hst hc
        go_wp2_with fail
        go_ret
        exact ⟨ret_int (congrArg Int.ofNat (Hk.out.trans Hst.out).symm), rfl⟩
    · have hlt1 : decide ((k : Int) < (s.size : Int)) = false := by rw [decide_eq_false_iff_not]; omega
      have hst := runP_end (P := spcB) (l := s.data.toList) (k := k) (by rw [len_list]; omega)
      have Hst := Lib.hid hst
      clear hst
      go_wp2_with fail
      go_ret
      exact ⟨ret_int (congrArg Int.ofNat (Hk.out.trans Hst.out).symm), rfl⟩

theorem prefix_any (s p : ByteArray) (w : World) : Calls Tryz.prog 21 #[.string s, .string p] w fun e w' => e = .returned (.bool (Lib.hasPrefix s.data.toList p.data.toList)) ∧ w = w' :=
  (Any.strings_HasPrefix prefixA s p w).mono fun _ _ ⟨h1, h2⟩ => ⟨h1, h2.symm⟩

theorem indexL_any (s : ByteArray) (c : Int) (w : World) : Calls Tryz.prog 43 #[.string s, .int .u8 c] w fun e w' => e = .returned (.int .i64 (Lib.indexByte s.data.toList c.toNat.toUInt8)) ∧ w = w' :=
  (Any.stringslite_IndexByte indexByteA s c w).mono fun _ _ ⟨h1, h2⟩ => ⟨h1, h2.symm⟩

set_option maxRecDepth 100000 in
theorem index_any (s : ByteArray) (c : UInt8) (w : World) : Calls Tryz.prog 26 #[.string s, .int .u8 (c.toNat : Nat)] w fun e w' => e = .returned (.int .i64 (Lib.indexByte s.data.toList c)) ∧ w = w' := by
  have h := fun W => indexL_any s (c.toNat : Nat) W
  have e : ((c.toNat : Nat) : Int).toNat.toUInt8 = c := by simp
  rw [e] at h
  go_enter Tryz.func26, Tryz.ntmps26
  go_wp2_with fail
  refine (h _).mono ?_
  rintro e w' ⟨rfl, rfl⟩
  go_wp2_with fail
  go_ret
  exact ⟨rfl, rfl⟩

end Go.Proofs.YtnehbpfgdeilhaaGreatDoor
