/- DevTorn -/
import Derived.Test.YtbhnjkmlfbkocaaDevT
import Derived.Deep.RegionHeld3
import Derived.Laws.Concat
namespace Go.Proofs.Ytbhnjkmlfbkocaa
open Go.ChangeShapes Go.WideShapes Go.ChangeAt Go.RowKit

theorem bytes_take (s : Sec) (n : Nat) : (⟨s.toArray⟩ : ByteArray).extract 0 n = ⟨(s.take n).toArray⟩ := by
  apply ByteArray.ext
  rw [ByteArray.data_extract]
  apply Array.toList_inj.1
  simp

theorem bytes_drop (s : Sec) (n m : Nat) (hm : s.length ≤ m) : (⟨s.toArray⟩ : ByteArray).extract n m = ⟨(s.drop n).toArray⟩ := by
  apply ByteArray.ext
  rw [ByteArray.data_extract]
  apply Array.toList_inj.1
  simp only [Array.toList_extract, List.extract]
  rw [List.take_of_length_le (by rw [List.length_drop]; simp; omega)]

theorem bytes_size (s : Sec) : (⟨s.toArray⟩ : ByteArray).size = s.length := by simp [ByteArray.size]

theorem bytes_cat (s t : Sec) : (⟨s.toArray⟩ : ByteArray) ++ ⟨t.toArray⟩ = ⟨(s ++ t).toArray⟩ := by
  apply ByteArray.ext
  simp

theorem head_of {s : Sec} {n : Int} {N : Nat} (h : n = N) (hN : N ≤ s.length) (W : World) :
    (Instr.slice 9 (.string ⟨s.toArray⟩) none (some (.int .i64 n)) none).run Try.prog W = .ok (.string ⟨(s.take N).toArray⟩) W := by
  subst h
  rw [run_slice_string_h W 9 _ Try.underlying9 .i64 _ (by omega) (by rw [bytes_size]; omega), Int.toNat_natCast, bytes_take]

theorem tail_of {s : Sec} {n : Int} {N : Nat} (h : n = N) (hN : N ≤ s.length) (W : World) :
    (Instr.slice 9 (.string ⟨s.toArray⟩) (some (.int .i64 n)) none none).run Try.prog W = .ok (.string ⟨(s.drop N).toArray⟩) W := by
  subst h
  rw [run_slice_string_l W 9 _ Try.underlying9 .i64 _ (by omega) (by rw [bytes_size]; omega), Int.toNat_natCast, bytes_drop _ _ _ (by rw [bytes_size]; exact Nat.le_refl _)]

theorem below_keep {a w w' : World} (h : Below a.heap.size a w) (h' : Below w.heap.size w w') : Below a.heap.size a w' := h.trans (h'.mono h.size)

/-- what is there behind the fall -/
theorem torn_read (a b : UInt8) (keep : Nat) (torn : Int) :
    readD { crashD ⟨[letter a], [(0, letter b)], [], 3, false⟩ keep torn with off := false } 0 = (if keep % 2 = 1 then letter b else (letter b).take (cutT torn) ++ (letter a).drop (cutT torn), 0) := by
  by_cases h : keep % 2 = 1
  · rw [if_pos h]
    simp only [crashD]
    rw [if_neg (by simp), crashL_yes (by simpa using h)]
    rfl
  · rw [if_neg h]
    simp only [crashD]
    rw [if_neg (by simp), crashL_no (by simpa using h)]
    rfl

theorem tn1 (a : UInt8) : writeD (newD 1) 0 (letter a) = (⟨[zer], [(0, letter a)], [], 1, false⟩, 0) := by
  have := writeD_ok (d := newD 1) rfl rfl (a := 0) (by decide) (letter_len a)
  rw [show wrap64 ((newD 1).steps + 1) = 1 from wrap64_id (n := 1) (by decide)] at this
  exact this

theorem tn2 (a : UInt8) : flushX ⟨[zer], [(0, letter a)], [], 1, false⟩ = (⟨[letter a], [], [], 2, false⟩, 0) := by
  have := flushX_ok (d := ⟨[zer], [(0, letter a)], [], 1, false⟩) rfl rfl
  rw [show wrap64 ((1 : Int) + 1) = 2 from wrap64_id (n := 2) (by decide)] at this
  exact this

theorem tn3 (a b : UInt8) : writeD ⟨[letter a], [], [], 2, false⟩ 0 (letter b) = (⟨[letter a], [(0, letter b)], [], 3, false⟩, 0) := by
  have := writeD_ok (d := ⟨[letter a], [], [], 2, false⟩) rfl rfl (a := 0) (Nat.zero_lt_one) (letter_len b)
  rw [show wrap64 ((2 : Int) + 1) = 3 from wrap64_id (n := 3) (by decide)] at this
  exact this

set_option maxRecDepth 100000 in
set_option maxHeartbeats 8000000 in
theorem dtorn_walk (a b : UInt8) (x0 torn : Int) (keep : Nat) (hk : keep < 18446744073709551616) (w : World) :
    Calls Try.prog 7 #[.int .u8 (a.toNat : Int), .int .u8 (b.toNat : Int), .agg #[.int .i64 x0, .int .u64 (keep : Int), .int .i64 torn]] w fun e w' => e = .returned (.bool true) ∧ Below w.heap.size w w' := by
  have hN := now_new (w.alloc (.cells #[.int .i64 x0, .int .u64 (keep : Int), .int .i64 torn] 40)) 1 (by decide) (Nat.le_refl _) (Below.refl _ _)
  simp only [World.size_alloc] at hN
  rw [show ((1 : Nat) : Int) = 1 from rfl] at hN
  have HK := Lib.hid hk
  have hbx := heap_alloc_last w (.cells #[.int .i64 x0, .int .u64 (keep : Int), .int .i64 torn] 40)
  have q1 : (w.alloc (.cells #[.int .i64 x0, .int .u64 (keep : Int), .int .i64 torn] 40)).cell? ⟨w.heap.size, 1, none⟩ = some (.int .u64 (keep : Int)) := by rw [cell_of_row _ _ _ _ _ _ hbx]; rfl
  have q2 : (w.alloc (.cells #[.int .i64 x0, .int .u64 (keep : Int), .int .i64 torn] 40)).cell? ⟨w.heap.size, 2, none⟩ = some (.int .i64 torn) := by rw [cell_of_row _ _ _ _ _ _ hbx]; rfl
  have Q1 := Lib.hid q1; have Q2 := Lib.hid q2
  clear q1 q2 hbx hk
  go_enter Try.func7, Try.ntmps7
  go_wp2_with fail
  refine hN.mono ?_
  rintro e w0 ⟨rfl, h⟩
  clear hN
  go_wp2_with fail
  refine (now_sector h a).mono ?_
  clear h; rintro e w1 ⟨rfl, h⟩
  go_wp2_with fail
  have hc := now_write h (step_nil rfl) 0 (letter a)
  rw [tn1] at hc
  refine hc.mono ?_
  clear h hc; rintro e w2 ⟨rfl, h⟩
  go_wp2_with fail
  have hc := now_flush h (step_nil rfl)
  simp only [tn2] at hc
  refine hc.mono ?_
  clear h hc; rintro e w3 ⟨rfl, h⟩
  go_wp2_with fail
  refine (now_sector h b).mono ?_
  clear h; rintro e w4 ⟨rfl, h⟩
  go_wp2_with fail
  have hc := now_write h (step_nil rfl) 0 (letter b)
  rw [tn3] at hc
  refine hc.mono ?_
  clear h hc; rintro e w5 ⟨rfl, h⟩
  have p1 : w5.cell? ⟨w.heap.size, 1, none⟩ = some (.int .u64 (keep : Int)) := (h.below.cell (p := ⟨w.heap.size, 1, none⟩) (by simp)).trans Q1.out
  have p2 : w5.cell? ⟨w.heap.size, 2, none⟩ = some (.int .i64 torn) := (h.below.cell (p := ⟨w.heap.size, 2, none⟩) (by simp)).trans Q2.out
  go_wp2_with fail
  have hc := now_crash h HK.out torn
  refine hc.mono ?_
  clear h hc p1 p2; rintro e w6 ⟨rfl, h⟩
  go_wp2_with fail
  refine (now_up h).mono ?_
  clear h; rintro e w7 ⟨rfl, h⟩
  go_wp2_with fail
  have hc := now_read h 0
  rw [torn_read] at hc
  refine hc.mono ?_
  clear h hc; rintro e w8 ⟨rfl, h⟩
  have p1 : w8.cell? ⟨w.heap.size, 1, none⟩ = some (.int .u64 (keep : Int)) := (h.below.cell (p := ⟨w.heap.size, 1, none⟩) (by simp)).trans Q1.out
  have p2 : w8.cell? ⟨w.heap.size, 2, none⟩ = some (.int .i64 torn) := (h.below.cell (p := ⟨w.heap.size, 2, none⟩) (by simp)).trans Q2.out
  have HA := Lib.hid (fun wn (_ : Below w8.heap.size w8 wn) => awake3 wn)
  have HSa := Lib.hid (fun wn (_ : Below w8.heap.size w8 wn) => sector_any a wn)
  have HSb := Lib.hid (fun wn (_ : Below w8.heap.size w8 wn) => sector_any b wn)
  have HLo : Hid (∀ wn, Below w8.heap.size w8 wn → Calls Try.prog 29 #[.pointer (some ⟨w.heap.size + 1 + 2, 0, none⟩)] wn fun e w' => e = .returned (.int .i64 0) ∧ Below wn.heap.size wn w') := by
    refine Lib.hid fun wn hb => ?_
    obtain ⟨pv, hd⟩ := h.dev
    refine (loose_any (hd.on hb)).mono ?_
    rintro e w' ⟨rfl, rfl⟩
    refine ⟨?_, Below.refl _ _⟩
    simp only [crashD]
    rw [if_neg (by simp)]
    rfl
  have hbw : Below w.heap.size w w8 := ((Below.refl w.heap.size w).alloc (Nat.le_refl _) _).trans (h.below.mono (Nat.le_succ _))
  have HBW := Lib.hid hbw
  have hzw := hbw.size
  clear h hbw
  have hA128 : (letter a).length = 128 := letter_len a
  have hB128 : (letter b).length = 128 := letter_len b
  obtain ⟨R, hR⟩ : ∃ R, R = (if keep % 2 = 1 then letter b else (letter b).take (cutT torn) ++ (letter a).drop (cutT torn)) := ⟨_, rfl⟩
  rw [← hR]
  have hand := and_one keep HK.out
  have d128 : decide ((128 : Int) < 0) = false := rfl
  have key : (decide (0 < torn) = true ∧ decide (128 < torn) = true ∧
        (∀ W, (Instr.slice 9 (.string ⟨(letter b).toArray⟩) none (some (.int .i64 128)) none).run Try.prog W = .ok (.string ⟨((letter b).take 128).toArray⟩) W) ∧
        (∀ W, (Instr.slice 9 (.string ⟨(letter a).toArray⟩) (some (.int .i64 128)) none none).run Try.prog W = .ok (.string ⟨((letter a).drop 128).toArray⟩) W) ∧
        (∀ W, (Op.stringOp .add ⟨((letter b).take 128).toArray⟩ ⟨((letter a).drop 128).toArray⟩).run Try.prog W = .ok (.string ⟨R.toArray⟩) W) ∧ True) ∨
      (decide (0 < torn) = true ∧ decide (128 < torn) = false ∧
        (∀ W, (Instr.slice 9 (.string ⟨(letter b).toArray⟩) none (some (.int .i64 128)) none).run Try.prog W = .ok (.string ⟨((letter b).take 128).toArray⟩) W) ∧
        (∀ W, (Instr.slice 9 (.string ⟨(letter a).toArray⟩) (some (.int .i64 128)) none none).run Try.prog W = .ok (.string ⟨((letter a).drop 128).toArray⟩) W) ∧
        (∀ W, (Op.stringOp .add ⟨((letter b).take 128).toArray⟩ ⟨((letter a).drop 128).toArray⟩).run Try.prog W = .ok (.string ⟨R.toArray⟩) W) ∧ bits .and .u64 (keep : Int) 1 = 1) ∨
      (decide (0 < torn) = true ∧ decide (128 < torn) = false ∧
        (∀ W, (Instr.slice 9 (.string ⟨(letter b).toArray⟩) none (some (.int .i64 torn)) none).run Try.prog W = .ok (.string ⟨((letter b).take torn.toNat).toArray⟩) W) ∧
        (∀ W, (Instr.slice 9 (.string ⟨(letter a).toArray⟩) (some (.int .i64 torn)) none none).run Try.prog W = .ok (.string ⟨((letter a).drop torn.toNat).toArray⟩) W) ∧
        (∀ W, (Op.stringOp .add ⟨((letter b).take torn.toNat).toArray⟩ ⟨((letter a).drop torn.toNat).toArray⟩).run Try.prog W = .ok (.string ⟨R.toArray⟩) W) ∧ bits .and .u64 (keep : Int) 1 = 0) ∨
      (decide (0 < torn) = false ∧ decide (128 < torn) = false ∧
        (∀ W, (Instr.slice 9 (.string ⟨(letter b).toArray⟩) none (some (.int .i64 128)) none).run Try.prog W = .ok (.string ⟨((letter b).take 128).toArray⟩) W) ∧
        (∀ W, (Instr.slice 9 (.string ⟨(letter a).toArray⟩) (some (.int .i64 128)) none none).run Try.prog W = .ok (.string ⟨((letter a).drop 128).toArray⟩) W) ∧
        (∀ W, (Op.stringOp .add ⟨((letter b).take 128).toArray⟩ ⟨((letter a).drop 128).toArray⟩).run Try.prog W = .ok (.string ⟨R.toArray⟩) W) ∧ bits .and .u64 (keep : Int) 1 = 1) ∨
      (decide (0 < torn) = false ∧ decide (128 < torn) = false ∧
        (∀ W, (Instr.slice 9 (.string ⟨(letter b).toArray⟩) none (some (.int .i64 0)) none).run Try.prog W = .ok (.string ⟨#[]⟩) W) ∧
        (∀ W, (Instr.slice 9 (.string ⟨(letter a).toArray⟩) (some (.int .i64 0)) none none).run Try.prog W = .ok (.string ⟨(letter a).toArray⟩) W) ∧
        (∀ W, (Op.stringOp .add ⟨#[]⟩ ⟨(letter a).toArray⟩).run Try.prog W = .ok (.string ⟨R.toArray⟩) W) ∧ bits .and .u64 (keep : Int) 1 = 0) := by
    have cut : ∀ N : Nat, R = (letter b).take N ++ (letter a).drop N → (∀ W, (Op.stringOp .add ⟨((letter b).take N).toArray⟩ ⟨((letter a).drop N).toArray⟩).run Try.prog W = .ok (.string ⟨R.toArray⟩) W) := fun N h W => by
      rw [run_string_add W _ _ (by rw [bytes_size, List.length_take]; omega) (by rw [bytes_size, List.length_drop]; omega), bytes_cat, h]
    have full : (letter b).take 128 ++ (letter a).drop 128 = letter b := by
      rw [List.take_of_length_le (by omega), List.drop_of_length_le (by omega), List.append_nil]
    have H128 := fun W => head_of (s := letter b) (n := 128) (N := 128) rfl (by omega) W
    have T128 := fun W => tail_of (s := letter a) (n := 128) (N := 128) rfl (by omega) W
    by_cases ht : 0 < torn
    · by_cases ht2 : 128 < torn
      · refine .inl ⟨by simpa using ht, by simpa using ht2, H128, T128, cut 128 ?_, trivial⟩
        rw [full, hR]
        split
        · rfl
        · rw [show cutT torn = 128 from by unfold cutT; omega, full]
      · by_cases hkp : keep % 2 = 1
        · refine .inr (.inl ⟨by simpa using ht, by simpa using ht2, H128, T128, cut 128 ?_, by rw [hand, hkp]; rfl⟩)
          rw [full, hR, if_pos hkp]
        · refine .inr (.inr (.inl ⟨by simpa using ht, by simpa using ht2, fun W => head_of (by omega) (by omega) W, fun W => tail_of (by omega) (by omega) W, cut _ ?_, by rw [hand, show keep % 2 = 0 from by omega]; rfl⟩))
          rw [hR, if_neg hkp, show cutT torn = torn.toNat from by unfold cutT; omega]
    · have ht2 : decide (128 < torn) = false := by simp; omega
      by_cases hkp : keep % 2 = 1
      · refine .inr (.inr (.inr (.inl ⟨by simpa using ht, ht2, H128, T128, cut 128 ?_, by rw [hand, hkp]; rfl⟩)))
        rw [full, hR, if_pos hkp]
      · refine .inr (.inr (.inr (.inr ⟨by simpa using ht, ht2, fun W => head_of (n := 0) (N := 0) rfl (Nat.zero_le _) W, fun W => tail_of (n := 0) (N := 0) rfl (Nat.zero_le _) W, cut 0 ?_, by rw [hand, show keep % 2 = 0 from by omega]; rfl⟩)))
        rw [hR, if_neg hkp, show cutT torn = 0 from by unfold cutT; omega]
  clear hand hR hA128 hB128
  rcases key with ⟨d1, d2, hh, ht, hct, hb⟩ | ⟨d1, d2, hh, ht, hct, hb⟩ | ⟨d1, d2, hh, ht, hct, hb⟩ | ⟨d1, d2, hh, ht, hct, hb⟩ | ⟨d1, d2, hh, ht, hct, hb⟩
  all_goals
    go_wp2_with fail
    go_region_held3 (fun w' => Below w8.heap.size w8 w')
      (first | (exact (Below.refl w8.heap.size w8).drew) | (refine below_keep ?_ (by assumption); assumption))
      (first
        | (go_at_call 15; (with_reducible refine (HA.out _ (by assumption)).mono ?_); rintro e wn ⟨rfl, hbn⟩)
        | (go_at_call 23; (first | (with_reducible refine (HSa.out _ (by assumption)).mono ?_) | (with_reducible refine (HSb.out _ (by assumption)).mono ?_)); rintro e wn ⟨rfl, hbn⟩)
        | (go_at_call 29; (with_reducible refine (HLo.out _ (by assumption)).mono ?_); rintro e wn ⟨rfl, hbn⟩))
    go_wp2_with fail
    go_ret
    refine ⟨rfl, HBW.out.trans (Below.mono (B := w8.heap.size) ?_ hzw)⟩
    assumption

end Go.Proofs.Ytbhnjkmlfbkocaa
