/- DevNone -/
import Derived.Test.YtbhnjkmlfbkocaaDevK
import Derived.Test.YtbhnjkmlfbkocaaDevA
import Derived.Deep.RegionHeld3
import Derived.Laws.BitsLemmas
namespace Go.Proofs.Ytbhnjkmlfbkocaa
open Go.ChangeShapes Go.WideShapes Go.ChangeAt Go.RowKit

theorem i64_and3 (n : Int) : ∃ r : Nat, r ≤ 3 ∧ bits .and .i64 n 3 = r := by
  have h3 : (BitVec.ofInt 64 3).toNat = 2 ^ 2 - 1 := by decide
  have key : (BitVec.ofInt 64 n &&& BitVec.ofInt 64 3).toNat = (n % ((2 ^ 64 : Nat) : Int)).toNat % 2 ^ 2 := by
    rw [BitVec.toNat_and, BitVec.toNat_ofInt, h3, Nat.and_two_pow_sub_one_eq_mod]
  refine ⟨(n % ((2 ^ 64 : Nat) : Int)).toNat % 2 ^ 2, by omega, ?_⟩
  show IntKind.i64.wrap ((BitVec.ofInt 64 n &&& BitVec.ofInt 64 3).toNat : Nat) = _
  rw [key, IntKind.wrap_i64]
  omega

theorem i64_and7 (n : Int) : ∃ r : Nat, r ≤ 7 ∧ bits .and .i64 n 7 = r := by
  have h3 : (BitVec.ofInt 64 7).toNat = 2 ^ 3 - 1 := by decide
  have key : (BitVec.ofInt 64 n &&& BitVec.ofInt 64 7).toNat = (n % ((2 ^ 64 : Nat) : Int)).toNat % 2 ^ 3 := by
    rw [BitVec.toNat_and, BitVec.toNat_ofInt, h3, Nat.and_two_pow_sub_one_eq_mod]
  refine ⟨(n % ((2 ^ 64 : Nat) : Int)).toNat % 2 ^ 3, by omega, ?_⟩
  show IntKind.i64.wrap ((BitVec.ofInt 64 n &&& BitVec.ofInt 64 7).toNat : Nat) = _
  rw [key, IntKind.wrap_i64]
  omega

theorem below_keep {a w w' : World} (h : Below a.heap.size a w) (h' : Below w.heap.size w w') : Below a.heap.size a w' := h.trans (h'.mono h.size)

theorem cell_keep {a w w' : World} {p : Addr} {v : Value} (hp : p.block < a.heap.size) (h : w.cell? p = some v ∧ Below a.heap.size a w) (h' : Below w.heap.size w w') : w'.cell? p = some v ∧ Below a.heap.size a w' :=
  ⟨(h'.cell (Nat.lt_of_lt_of_le hp h.2.size)).trans h.1, below_keep h.2 h'⟩

theorem ym1 : writeD (newD 1) 0 (letter 122) = (⟨[zer], [(0, letter 122)], [], 1, false⟩, 0) := by
  have := writeD_ok (d := newD 1) rfl rfl (a := 0) (by decide) (letter_len 122)
  rw [show wrap64 ((newD 1).steps + 1) = 1 from wrap64_id (n := 1) (by decide)] at this
  exact this

theorem rd_new : readD (newD 1) 0 = (zer, 0) := rfl

set_option maxRecDepth 100000 in
set_option maxHeartbeats 8000000 in
theorem dnone_walk (n : Int) (x : Act3) (w : World) :
    Calls Try.prog 5 #[.int .i64 n, .agg #[.int .i64 x.kind, .int .i64 x.at_, .int .u8 (x.c.toNat : Int), .bool x.odd, .int .i64 x.fall.at_, .int .u64 (x.fall.keep : Int), .int .i64 x.fall.torn]] w fun e w' => e = .returned (.bool true) ∧ Below w.heap.size w w' := by
  obtain ⟨r, hr, er⟩ := i64_and3 n
  obtain ⟨q, hq, eq⟩ := i64_and7 n
  have hbx := heap_alloc_last w (.cells #[.int .i64 x.kind, .int .i64 x.at_, .int .u8 (x.c.toNat : Int), .bool x.odd, .int .i64 x.fall.at_, .int .u64 (x.fall.keep : Int), .int .i64 x.fall.torn] 42)
  have hba : Below w.heap.size w (w.alloc (.cells #[.int .i64 x.kind, .int .i64 x.at_, .int .u8 (x.c.toNat : Int), .bool x.odd, .int .i64 x.fall.at_, .int .u64 (x.fall.keep : Int), .int .i64 x.fall.torn] 42)) := (Below.refl w.heap.size w).alloc (Nat.le_refl _) _
  have hsz : (w.alloc (.cells #[.int .i64 x.kind, .int .i64 x.at_, .int .u8 (x.c.toNat : Int), .bool x.odd, .int .i64 x.fall.at_, .int .u64 (x.fall.keep : Int), .int .i64 x.fall.torn] 42)).heap.size = w.heap.size + 1 := by simp
  have ek : wrap64 (65535 + (r : Int)) = 65535 + (r : Int) := wrap64_id (is64_iff.2 (by omega))
  have eq2 : wrap64 (-1 - (q : Int)) = -1 - (q : Int) := wrap64_id (is64_iff.2 (by omega))
  go_enter Try.func5, Try.ntmps5
  go_upto_region 2 with fail
  generalize w.alloc (.cells #[.int .i64 x.kind, .int .i64 x.at_, .int .u8 (x.c.toNat : Int), .bool x.odd, .int .i64 x.fall.at_, .int .u64 (x.fall.keep : Int), .int .i64 x.fall.torn] 42) = a at hbx hba hsz ⊢
  have HBX := Lib.hid hbx; have HBA := Lib.hid hba; have HSZ := Lib.hid hsz
  have k1 : a.cell? ⟨w.heap.size, 1, none⟩ = some (.int .i64 x.at_) := by rw [cell_of_row _ _ _ _ _ _ hbx]; rfl
  have k4 : a.cell? ⟨w.heap.size, 4, none⟩ = some (.int .i64 x.fall.at_) := by rw [cell_of_row _ _ _ _ _ _ hbx]; rfl
  have k5 : a.cell? ⟨w.heap.size, 5, none⟩ = some (.int .u64 (x.fall.keep : Int)) := by rw [cell_of_row _ _ _ _ _ _ hbx]; rfl
  have k6 : a.cell? ⟨w.heap.size, 6, none⟩ = some (.int .i64 x.fall.torn) := by rw [cell_of_row _ _ _ _ _ _ hbx]; rfl
  have K1 := Lib.hid k1; have K4 := Lib.hid k4; have K5 := Lib.hid k5; have K6 := Lib.hid k6
  clear hbx hba hsz
  go_upto_region 3 with (first
    | (go_at_call 18; refine nil_crash.mono ?_; rintro e w1 ⟨rfl, hb1⟩)
    | fail)
  have hB1 : Below (w.heap.size + 1) a w1 := by rw [← HSZ.out]; exact hb1
  have HB1 := Lib.hid hB1
  have j4 : w1.cell? ⟨w.heap.size, 4, none⟩ = some (.int .i64 x.fall.at_) := (hB1.cell (p := ⟨w.heap.size, 4, none⟩) (by simp)).trans K4.out
  have j5 : w1.cell? ⟨w.heap.size, 5, none⟩ = some (.int .u64 (x.fall.keep : Int)) := (hB1.cell (p := ⟨w.heap.size, 5, none⟩) (by simp)).trans K5.out
  have j6 : w1.cell? ⟨w.heap.size, 6, none⟩ = some (.int .i64 x.fall.torn) := (hB1.cell (p := ⟨w.heap.size, 6, none⟩) (by simp)).trans K6.out
  have hz1 : w.heap.size + 1 ≤ w1.heap.size := by have := hb1.size; have := HSZ.out; omega
  clear hb1 hB1 k1 k4 k5 k6
  go_upto_region 4 with (first
    | (go_at_call 19; refine nil_plan.mono ?_; rintro e w2 ⟨rfl, hb2⟩)
    | fail)
  have hB2 : Below (w.heap.size + 1) a w2 := HB1.out.trans (((Below.refl _ w1).alloc hz1 _).trans (hb2.mono (by simp only [World.size_alloc]; omega)))
  have j1 : w2.cell? ⟨w.heap.size, 1, none⟩ = some (.int .i64 x.at_) := (hB2.cell (p := ⟨w.heap.size, 1, none⟩) (by simp)).trans K1.out
  have hz2 : w.heap.size + 1 ≤ w2.heap.size := by have := hb2.size; simp only [World.size_alloc] at this; omega
  have HB2 := Lib.hid hB2
  clear hb2 hB2 j4 j5 j6 HB1
  go_upto_region 6 with (first
    | (go_at_call 20; refine nil_read.mono ?_; rintro e w3 ⟨rfl, hb3⟩)
    | fail)
  have hz3 : w.heap.size + 1 ≤ w3.heap.size := Nat.le_trans hz2 hb3.size
  have HB3 : Hid (Below (w.heap.size + 1) a w3) := HB2.out.trans (hb3.mono hz2)
  clear HB2 hb3 j1 hz2 hz1 K4 K5 K6
  have hN3 := now_new w3 1 (by decide) (Nat.le_refl _) (Below.refl _ w3)
  clear hN3
  have hno : ∀ W, Calls Try.prog 13 #[.int .i64 (-1 - (q : Int))] W fun e w' => e = .returned (.tuple #[.pointer none, .int .i64 1]) ∧ W = w' := fun W => new_out W _ (by omega)
  have HNO := Lib.hid hno
  have hkey : ∃ (pa : Option Addr) (ex : Int) (bk bn : Bool), decide (65535 + (r : Int) ≤ 65536) = bk ∧ Hid (Calls Try.prog 13 #[.int .i64 (65535 + (r : Int))] w3 fun e w' => e = .returned (.tuple #[.pointer pa, .int .i64 ex]) ∧ Below w3.heap.size w3 w') ∧
      ((pa = some ⟨w3.heap.size + 2, 0, none⟩ ∧ ex = 0 ∧ bk = true) ∨ (pa = none ∧ ex = 1 ∧ bk = false)) := by
    by_cases h1 : r ≤ 1
    · refine ⟨_, 0, true, true, by simp; omega, ?_, .inl ⟨rfl, rfl, rfl⟩⟩
      have := new_in w3 (65535 + r) (by omega)
      rw [show ((65535 + r : Nat) : Int) = 65535 + (r : Int) from by omega] at this
      exact Lib.hid (this.mono fun e w' h => ⟨h.1, h.2.2⟩)
    · refine ⟨none, 1, false, true, by simp; omega, ?_, .inr ⟨rfl, rfl, rfl⟩⟩
      exact Lib.hid ((new_out w3 (65535 + (r : Int)) (by omega)).mono fun e w' h => ⟨h.1, h.2 ▸ Below.refl _ _⟩)
  obtain ⟨pa, ex, bk, -, dk, HX, hcase⟩ := hkey
  rcases hcase with ⟨rfl, rfl, rfl⟩ | ⟨rfl, rfl, rfl⟩
  all_goals
    go_upto_region 8 with (first
      | (go_at_call 13; (first | ((with_reducible refine HX.out.mono ?_); rintro e w4 ⟨rfl, hb4⟩) | ((with_reducible refine (HNO.out _).mono ?_); rintro e w4' ⟨rfl, rfl⟩)))
      | fail)
    have hN := new_in w4 1 (by decide)
    rw [show ((1 : Nat) : Int) = 1 from rfl] at hN
    have hz4 : w.heap.size + 1 ≤ w4.heap.size := Nat.le_trans hz3 hb4.size
    have HB4 : Hid (Below (w.heap.size + 1) a w4) := HB3.out.trans (hb4.mono hz3)
    clear hb4
    go_upto_region 9 with (first
      | (go_at_call 13; refine hN.mono ?_; clear hN; rintro e w5 ⟨rfl, hy, hb5⟩)
      | fail)
    have hz5 : w.heap.size + 1 ≤ w5.heap.size := Nat.le_trans hz4 hb5.size
    have HB5 : Hid (Below (w.heap.size + 1) a w5) := HB4.out.trans (hb5.mono hz4)
    clear hb5
    go_upto_region 10 with (first
      | (go_at_call 21; refine (copy_any hy rfl).mono ?_; rintro e w6 ⟨S', M', pv', rfl, hzd, hS', hM', hb6⟩)
      | fail)
    have hz : Now w5.heap.size w5 w6 w5.heap.size S' M' (newD 1) := ⟨⟨pv', hzd⟩, hb6, Nat.le_refl _, hS', hM'⟩
    have HY := Lib.hid hy
    clear hzd hb6 hS' hM' hy
    have hw := fun W (h : Now w5.heap.size w5 W w5.heap.size S' M' (newD 1)) => now_write h (step_nil rfl) 0 (letter 122)
    simp only [ym1] at hw
    have HW := Lib.hid hw
    clear hw
    go_upto_region 11 with (first
      | (go_at_call 23; refine (now_sector hz 122).mono ?_; clear hz; rintro e w7 ⟨rfl, hz⟩)
      | (go_at_call 22; refine (HW.out _ hz).mono ?_; clear hz; rintro e w8 ⟨rfl, hz⟩)
      | fail)
    have hr := read_any (HY.out.on hz.below) 0
    rw [rd_new] at hr
    have HB8 : Hid (Below (w.heap.size + 1) a w8) := HB5.out.trans (hz.below.mono hz5)
    have hz8 : w.heap.size + 1 ≤ w8.heap.size := Nat.le_trans hz5 hz.below.size
    clear hz HW HY
    go_upto_region 12 with (first
      | (go_at_call 20; refine hr.mono ?_; clear hr; rintro e w9 ⟨rfl, hb9⟩)
      | fail)
    have HB9 : Hid (Below (w.heap.size + 1) a w9) := HB8.out.trans (hb9.mono hz8)
    have j1 : w9.cell? ⟨w.heap.size, 1, none⟩ = some (.int .i64 x.at_) := (HB9.out.cell (p := ⟨w.heap.size, 1, none⟩) (by simp)).trans K1.out
    have hz9 : w.heap.size + 1 ≤ w9.heap.size := Nat.le_trans hz8 hb9.size
    clear hb9 HB8 HB5 HB4 HB3 hz3 hz4 hz5 hz8 HNO HX
    simp only [List.append_eq, List.cons_append, List.nil_append]
    have HA := Lib.hid (fun wn => awake3 wn)
    have HS97 : Hid (∀ wn, Calls Try.prog 23 #[.int .u8 97] wn fun e w' => e = .returned (.string ⟨(letter 97).toArray⟩) ∧ Below wn.heap.size wn w') := Lib.hid (fun wn => sector_any 97 wn)
    have HS0 : Hid (∀ wn, Calls Try.prog 23 #[.int .u8 0] wn fun e w' => e = .returned (.string ⟨zer.toArray⟩) ∧ Below wn.heap.size wn w') := Lib.hid (fun wn => by
      have := sector_any 0 wn
      rw [letter0] at this
      exact this)
    have hp9 : w.heap.size < w9.heap.size := by omega
    have hbr := Below.refl w9.heap.size w9
    go_region_held3 (fun w' => w'.cell? ⟨w.heap.size, 1, none⟩ = some (.int .i64 x.at_) ∧ Below w9.heap.size w9 w')
      (first | (exact ⟨j1, (Below.refl w9.heap.size w9).drew⟩) | (exact cell_keep (a := w9) hp9 (by assumption) (by assumption)))
      (first
        | (go_at_call 15; (with_reducible refine (HA.out _).mono ?_); rintro e wn ⟨rfl, hbn⟩)
        | (go_at_call 23; (first | (with_reducible refine (HS97.out _).mono ?_) | (with_reducible refine (HS0.out _).mono ?_)); rintro e wn ⟨rfl, hbn⟩)
        | (go_at_call 22; (with_reducible refine nil_write.mono ?_); rintro e wn ⟨rfl, hbn⟩)
        | (go_at_call 24; (with_reducible refine nil_flush.mono ?_); rintro e wn ⟨rfl, hbn⟩)
        | (go_at_call 25; (with_reducible refine (stillB nil_off).mono ?_); rintro e wn ⟨rfl, hbn⟩)
        | (go_at_call 26; (with_reducible refine nil_up.mono ?_); rintro e wn ⟨rfl, hbn⟩)
        | (go_at_call 27; (with_reducible refine nil_len.mono ?_); rintro e wn ⟨rfl, hbn⟩)
        | (go_at_call 28; (with_reducible refine nil_steps.mono ?_); rintro e wn ⟨rfl, hbn⟩)
        | (go_at_call 29; (with_reducible refine nil_loose.mono ?_); rintro e wn ⟨rfl, hbn⟩)
        | (go_at_call 21; (with_reducible refine nil_copy.mono ?_); rintro e wn ⟨rfl, hbn⟩))
    all_goals
      go_wp2_with fail
      go_ret
      refine ⟨rfl, HBA.out.trans (Below.mono (B := w.heap.size + 1) (HB9.out.trans (Below.mono (B := w9.heap.size) ?_ hz9)) (Nat.le_succ _))⟩
      (first | assumption | exact And.right (by assumption) | (apply And.right; assumption))

end Go.Proofs.Ytbhnjkmlfbkocaa
