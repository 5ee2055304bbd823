/- strconv.FormatUint to the base 16 -/
import Derived.Test.YtnehbpfgdeilhaaGreatDoorLxU
import Derived.Lib.ItoaMem
namespace Go.Proofs.YtnehbpfgdeilhaaGreatDoor
open Go.ChangeShapes Go.WideShapes Go.ChangeAt Go.RowKit Go.Fl
open Go.Shelf

theorem hex16_small : ∀ (m v : Nat), v < 16 → hex16 v (m + 1) = List.replicate m 48 ++ [hexC v]
  | 0, v, h => by rw [hex16, hex16, Nat.mod_eq_of_lt h]; rfl
  | m + 1, v, h => by
    rw [hex16, Nat.div_eq_of_lt h, hex16_small m 0 (by decide), Nat.mod_eq_of_lt h, show hexC 0 = 48 by decide, List.replicate_succ']

theorem hex16_len : ∀ (m v : Nat), (hex16 v m).length = m
  | 0, _ => rfl
  | m + 1, v => by rw [hex16, List.length_append, hex16_len m]; rfl

def digs36 : ByteArray := ⟨#[48, 49, 50, 51, 52, 53, 54, 55, 56, 57, 97, 98, 99, 100, 101, 102, 103, 104, 105, 106, 107, 108, 109, 110, 111, 112, 113, 114, 115, 116, 117, 118, 119, 120, 121, 122]⟩

theorem digs36_size : digs36.size = 36 := rfl

theorem digs36_fin : ∀ n : Fin 16, digs36.data.toList.getD n.val 0 = hexC n.val := by decide +kernel

theorem digs36_get (n : Nat) (h : n < 16) : digs36[n]'(by rw [digs36_size]; omega) = hexC n := by
  have := digs36_fin ⟨n, h⟩
  rw [List.getD_eq_getElem?_getD, List.getElem?_eq_getElem (by show n < digs36.size; rw [digs36_size]; omega)] at this
  exact this

set_option maxRecDepth 100000 in
theorem tz16_any (w : World) (he : Env w) : Calls Tryz.prog 106 #[.int .u64 16] w fun e w' => e = .returned (.int .i64 4) ∧ w = w' := by
  have hc : w.cell? ⟨6, 15, none⟩ = some (.int .u8 4) := he.bru.cell (by kernel_rfl) 15 (by decide)
  have q1 : bits .and .u64 16 (IntKind.u64.wrap (-16)) = 16 := by decide +kernel
  have q2 : IntKind.u64.wrap 4573923408821661840 = 4573923408821661840 := by decide +kernel
  have q3 : IntKind.u64.wrap (16 * 285870213051353865) = 4573923408821661840 := by decide +kernel
  go_enter Tryz.func106, Tryz.ntmps106
  go_wp2
  go_ret
  exact ⟨rfl, rfl⟩

set_option maxRecDepth 100000 in
theorem pow2_any (w : World) : Calls Tryz.prog 105 #[.int .i64 16] w fun e w' => e = .returned (.bool true) ∧ w = w' := by
  have q1 : bits .and .i64 16 15 = 0 := by decide +kernel
  go_enter Tryz.func105, Tryz.ntmps105
  go_wp2
  go_ret
  exact ⟨rfl, rfl⟩

def byV (c : UInt8) : Value := .int .u8 (c.toNat : Nat)

/-- the array's cells: the digits stand at its end -/
def Arr (w : World) (b : Nat) (T : List UInt8) : Prop := ∃ cs : Array Value, Blk w b 141 cs ∧ cs.size = 65 ∧ ∀ j (hj : j < T.length), cs[65 - T.length + j]? = some (byV T[j])

theorem arr_start (w : World) : Arr (w.alloc (.cells Tryz.zeroCells141 141)) w.heap.size [] := ⟨_, Blk.new w _ _, by kernel_rfl, fun j hj => absurd hj (Nat.not_lt_zero _)⟩

theorem Arr.put {w : World} {b n : Nat} {T : List UInt8} (h : Arr w b T) (hn : n + (T.length + 1) = 65) (c : UInt8) : Arr (w.setCell ⟨b, n, none⟩ (.int .u8 (c.toNat : Nat))) b (c :: T) := by
  obtain ⟨cs, h1, h2, h3⟩ := h
  refine ⟨_, h1.set_ n _, by simpa using h2, fun j hj => ?_⟩
  rw [List.length_cons] at hj ⊢
  have hn' : 65 - (T.length + 1) = n := by omega
  rw [hn']
  cases j with
  | zero => exact Array.getElem?_setIfInBounds_self_of_lt (by omega)
  | succ j =>
    rw [Array.getElem?_setIfInBounds_ne (by omega)]
    have := h3 j (by omega)
    rw [show 65 - T.length + j = n + (j + 1) by omega] at this
    exact this

def HexSaid (u : Nat) (w : World) (R : Value → Value) (e : Ending) (w' : World) : Prop := ∃ (k : Nat) (D : List UInt8), e = .returned (R (.string (ofL D))) ∧ k < 16 ∧ D.length = 16 - k ∧ hex16 u 16 = List.replicate k 48 ++ D ∧ Below w.heap.size w w'

set_option maxHeartbeats 4000000 in
set_option maxRecDepth 100000 in
theorem fmt16_any (u : Nat) (hu : u < 18446744073709551616) (w : World) (he : Env w) :
    Calls Tryz.prog 93 #[.slice none 0 0, .int .u64 (u : Nat), .int .i64 16, .bool false, .bool false] w (HexSaid u w fun s => .tuple #[.slice none 0 0, s]) := by
  have hA := Lib.hid (arr_start w)
  have hal := (Below.refl w.heap.size w).alloc (Nat.le_refl _) (.cells Tryz.zeroCells141 141)
  have HT := Lib.hid (tz16_any _ (he.on hal))
  have Hal := Lib.hid hal; clear hal
  obtain ⟨W0, hW0⟩ : ∃ W0, w.alloc (.cells Tryz.zeroCells141 141) = W0 := ⟨_, rfl⟩
  rw [hW0] at hA HT Hal
  go_enter Tryz.func93, Tryz.ntmps93
  go_wp2_with (first | (go_at_call 106; refine HT.out.mono ?_; rintro e w' ⟨rfl, rfl⟩) | (go_at_call 105; refine (pow2_any _).mono ?_; rintro e w' ⟨rfl, rfl⟩))
  go_loopw [1, 13] (fun su si wr => ∃ (v n : Nat) (z : Int) (T : List UInt8), su = .int .u64 (v : Nat) ∧ si = .int .i64 z ∧ 50 ≤ z ∧ z ≤ 65 ∧ Hid (z = (n : Int) ∧ n + T.length = 65 ∧ v < 16 ^ (n - 49) ∧ ∀ m, hex16 u (m + T.length) = hex16 v m ++ T) ∧ Hid (Arr wr w.heap.size T ∧ Below w.heap.size w wr)) (fun su _ _ => (intOf su).toNat)
  case atStart => exact ⟨u, 65, 65, [], rfl, rfl, by decide, by decide, Lib.hid ⟨rfl, rfl, by simpa using hu, fun m => by simp⟩, Lib.hid ⟨hA.out, Hal.out⟩⟩
  case round =>
    obtain ⟨v, n, z, T, rfl, rfl, hz1, hz2, Hn, Hw⟩ := hrel
    have hv64 : v < 18446744073709551616 := by
      have h1 := Hn.out.2.2.1
      have h2 : 16 ^ (n - 49) ≤ 16 ^ 16 := Nat.pow_le_pow_right (by decide) (by have := Hn.out.1; omega)
      have h3 : (16 : Nat) ^ 16 = 18446744073709551616 := by decide
      omega
    obtain ⟨cs, hcs, hsz, -⟩ := Hw.out.1
    have hzn : z.toNat - 1 = n - 1 := by have := Hn.out.1; omega
    have hf : wr.frozen? ⟨w.heap.size, z.toNat - 1, none⟩ = false := hcs.frozen _
    obtain ⟨x, hx⟩ : ∃ x, wr.cell? ⟨w.heap.size, z.toNat - 1, none⟩ = some x := ⟨cs[z.toNat - 1]'(by omega), (hcs.cell _).trans (Array.getElem?_eq_getElem _)⟩
    have hand : bits .and .u64 ((v : Nat) : Int) 15 = ((v % 16 : Nat) : Int) := by
      have := u64_and_nat v 15 hv64 (by decide)
      rw [show (15 : Nat) = 2 ^ 4 - 1 by decide, Nat.and_two_pow_sub_one_eq_mod] at this
      exact this
    obtain ⟨r, hr⟩ : ∃ r, v % 16 = r := ⟨_, rfl⟩
    have hr16 : r < 16 := by omega
    have HX := Lib.hid (digs36_get r hr16)
    unfold digs36 at HX
    rw [hr] at hand
    have Hr := Lib.hid hr; clear hr
    have ir : (r : Int) < 36 := by omega
    have Hzn := Lib.hid hzn
    clear hzn hcs hsz
    by_cases hge : 16 ≤ v
    · have e1 : decide (16 ≤ (v : Int)) = true := by rw [decide_eq_true_eq]; omega
      go_wp2
      refine ⟨⟨v / 16, n - 1, z - 1, hexC r :: T, by go_num, rfl, by have h1 := Hn.out.2.2.1; have h2 := Hn.out.1; have : n - 49 ≠ 1 := (fun e => by rw [e] at h1; omega); have : n - 49 ≠ 0 := (fun e => by rw [e] at h1; omega); omega, by omega, Lib.hid ⟨by have := Hn.out.1; omega, by have := Hn.out.1; have := Hn.out.2.1; rw [List.length_cons]; omega, ?_, fun m => ?_⟩, ?_⟩, by simp [intOf]; omega⟩
      · have h1 := Hn.out.2.2.1
        have h2 := Hn.out.1
        rw [show n - 49 = (n - 1 - 49) + 1 by omega, Nat.pow_succ] at h1
        omega
      · have h1 := Hn.out.2.2.2 (m + 1)
        rw [hex16, Hr.out] at h1
        rw [List.length_cons, show m + (T.length + 1) = m + 1 + T.length by omega, h1, List.append_assoc]
        rfl
      · have h1 := Hw.out.1.put (n := z.toNat - 1) (by have := Hn.out.1; have := Hn.out.2.1; omega) (hexC r)
        rw [← HX.out] at h1 ⊢
        rw [HX.out] at h1 ⊢
        exact Lib.hid ⟨h1, Hw.out.2.setCell (p := ⟨w.heap.size, z.toNat - 1, none⟩) (Nat.le_refl _) _⟩
    · have e1 : decide (16 ≤ (v : Int)) = false := by rw [decide_eq_false_iff_not]; omega
      have hand2 : bits .and .u64 ((v : Nat) : Int) 15 = ((v % 16 : Nat) : Int) := by rw [Hr.out]; exact hand
      rw [Nat.mod_eq_of_lt (by omega)] at hand2
      have hvr : v = r := by have := Hr.out; rw [Nat.mod_eq_of_lt (by omega)] at this; exact this
      subst hvr
      clear hand hand2
      have hal : Tryz.prog.arrayLen 141 = 65 := by kernel_rfl
      have hsl : ∀ W, (Instr.sliceAt 141 (.pointer (some ⟨w.heap.size, 0, none⟩)) (some (.int .i64 (z - 1))) none none).run Tryz.prog W = .ok (.slice (some ⟨w.heap.size, n - 1, none⟩) (65 - (n - 1)) (65 - (n - 1))) W := fun W => by
        have hel : Tryz.prog.elem 141 = 5 := by kernel_rfl
        rw [run_sliceAt_array_l W 141 ⟨w.heap.size, 0, none⟩ (by rw [hal, hel]; exact Tryz.underlying141) .i64 (z - 1) (by omega) (by rw [hal]; omega), hel, show (sizeOf 5).run Tryz.prog W = .ok 1 W from Tryz.sizeOf5 W, hal]
        simp only [Result.andThen_ok, slicedAt]
        have e1 : (z - 1).toNat = n - 1 := by have := Hn.out.1; omega
        rw [e1, if_neg (by omega), adr_add]
        simp
      have hA2 := Hw.out.1.put (n := z.toNat - 1) (by have := Hn.out.1; have := Hn.out.2.1; omega) (hexC v)
      have hB2 := Hw.out.2.setCell (p := ⟨w.heap.size, z.toNat - 1, none⟩) (Nat.le_refl _) (.int .u8 ((hexC v).toNat : Nat))
      rw [← HX.out] at hA2 hB2
      obtain ⟨W2, hW2⟩ : ∃ W2, wr.setCell ⟨w.heap.size, z.toNat - 1, none⟩ (.int .u8 (({ data := #[48, 49, 50, 51, 52, 53, 54, 55, 56, 57, 97, 98, 99, 100, 101, 102, 103, 104, 105, 106, 107, 108, 109, 110, 111, 112, 113, 114, 115, 116, 117, 118, 119, 120, 121, 122] } : ByteArray)[v]'(by show v < 36; omega)).toNat) = W2 := ⟨_, rfl⟩
      rw [hW2] at hA2 hB2
      rw [HX.out] at hA2
      have hcv : (convert 77 9 (.slice (some ⟨w.heap.size, n - 1, none⟩) (65 - (n - 1)) (65 - (n - 1)))).run Tryz.prog W2 = .ok (.string (ofL (hexC v :: T))) W2 := by
        have hl : (hexC v :: T).length = 65 - (n - 1) := by have := Hn.out.1; have := Hn.out.2.1; rw [List.length_cons]; omega
        have := run_convert_bytes_back (P := Tryz.prog) W2 77 9 5 ⟨w.heap.size, n - 1, none⟩ (65 - (n - 1)) (hexC v :: T) Tryz.underlying77 Tryz.underlying5 Tryz.underlying9 (fun j hj => by
          obtain ⟨cs, k1, k2, k3⟩ := hA2
          rw [adr_add, k1.cell, show n - 1 + j = 65 - (hexC v :: T).length + j by omega]
          exact k3 j hj)
        rw [hl] at this
        exact this
      have HE := Lib.hid (hex16_small (15 - T.length) v (by omega))
      have HB2 := Lib.hid hB2
      clear hB2 hA2 hal
      go_wp2
      go_ret2
      refine ⟨15 - T.length, hexC v :: T, rfl, by omega, by have := Hn.out.1; have := Hn.out.2.1; rw [List.length_cons]; omega, ?_, HB2.out⟩
      have h1 := Hn.out.2.2.2 (15 - T.length + 1)
      have h2 := Hn.out.1
      have h3 := Hn.out.2.1
      rw [show 15 - T.length + 1 + T.length = 16 by omega, HE.out] at h1
      rw [h1, List.append_assoc]
      rfl

end Go.Proofs.YtnehbpfgdeilhaaGreatDoor
