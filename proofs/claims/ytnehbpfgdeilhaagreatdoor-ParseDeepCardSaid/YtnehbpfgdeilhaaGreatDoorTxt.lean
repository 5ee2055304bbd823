/- texts as lists of bytes -/
import Derived.Test.YtnehbpfgdeilhaaGreatDoorEight
import Derived.Laws.Concat
namespace Go.Proofs.YtnehbpfgdeilhaaGreatDoor
open Go.ChangeShapes Go.WideShapes Go.ChangeAt Go.RowKit

theorem str_size (s : List UInt8) : (⟨s.toArray⟩ : ByteArray).size = s.length := by simp [ByteArray.size]

theorem str_cat (s t : List UInt8) : (⟨s.toArray⟩ : ByteArray) ++ ⟨t.toArray⟩ = ⟨(s ++ t).toArray⟩ := by
  apply ByteArray.ext
  simp

theorem len_str (s : List UInt8) (ty : TypeId) (W : World) : (Builtin.len_ #[9] ty #[.string ⟨s.toArray⟩]).run Tryz.prog W = .ok (.int .i64 s.length) W := by
  have := str_size s
  simp [Builtin.len_, goInt, this]

theorem str_take (s : List UInt8) (n : Nat) : (⟨s.toArray⟩ : ByteArray).extract 0 n = ⟨(s.take n).toArray⟩ := by
  apply ByteArray.ext
  rw [ByteArray.data_extract]
  apply Array.toList_inj.1
  simp

theorem str_drop (s : List UInt8) (n m : Nat) (hm : s.length ≤ m) : (⟨s.toArray⟩ : ByteArray).extract n m = ⟨(s.drop n).toArray⟩ := by
  apply ByteArray.ext
  rw [ByteArray.data_extract]
  apply Array.toList_inj.1
  simp only [Array.toList_extract, List.extract]
  rw [List.take_of_length_le (by rw [List.length_drop]; simp; omega)]

theorem sl_head {s : List UInt8} {n : Int} {N : Nat} (h : n = N) (hN : N ≤ s.length) (W : World) :
    (Instr.slice 9 (.string ⟨s.toArray⟩) none (some (.int .i64 n)) none).run Tryz.prog W = .ok (.string ⟨(s.take N).toArray⟩) W := by
  subst h
  rw [run_slice_string_h W 9 _ Tryz.underlying9 .i64 _ (by omega) (by rw [str_size]; omega), Int.toNat_natCast, str_take]

theorem sl_tail {s : List UInt8} {n : Int} {N : Nat} (h : n = N) (hN : N ≤ s.length) (W : World) :
    (Instr.slice 9 (.string ⟨s.toArray⟩) (some (.int .i64 n)) none none).run Tryz.prog W = .ok (.string ⟨(s.drop N).toArray⟩) W := by
  subst h
  rw [run_slice_string_l W 9 _ Tryz.underlying9 .i64 _ (by omega) (by rw [str_size]; omega), Int.toNat_natCast, str_drop _ _ _ (by rw [str_size]; exact Nat.le_refl _)]

theorem sl_mid {s : List UInt8} {n m : Int} {N M : Nat} (h : n = N) (h' : m = M) (hN : N ≤ M) (hM : M ≤ s.length) (W : World) :
    (Instr.slice 9 (.string ⟨s.toArray⟩) (some (.int .i64 n)) (some (.int .i64 m)) none).run Tryz.prog W = .ok (.string ⟨((s.take M).drop N).toArray⟩) W := by
  subst h h'
  have hsz := str_size s
  have hu := run_underlying (P := Tryz.prog) Tryz.underlying9 W
  have b1 : (Instr.sliceBound (.int .i64 (M : Int)) s.length .sliceAlen).run Tryz.prog W = .ok M W := by
    have := run_sliceBound (P := Tryz.prog) W .i64 (M : Int) s.length .sliceAlen (by omega) (by omega)
    rwa [Int.toNat_natCast] at this
  have b2 : (Instr.sliceBound (.int .i64 (N : Int)) M .sliceB).run Tryz.prog W = .ok N W := by
    have := run_sliceBound (P := Tryz.prog) W .i64 (N : Int) M .sliceB (by omega) (by omega)
    rwa [Int.toNat_natCast] at this
  have e : (Instr.slice 9 (.string ⟨s.toArray⟩) (some (.int .i64 (N : Int))) (some (.int .i64 (M : Int))) none).run Tryz.prog W = .ok (.string ((⟨s.toArray⟩ : ByteArray).extract N M)) W := by
    simp only [Instr.slice, Sem.run_bind, hu, Result.andThen_ok, Instr.sliceBounds, hsz]
    simp [b1, b2]
  have ex : (⟨s.toArray⟩ : ByteArray).extract N M = ⟨((s.take M).drop N).toArray⟩ := by
    apply ByteArray.ext
    rw [ByteArray.data_extract]
    apply Array.toList_inj.1
    simp only [Array.toList_extract, List.extract, List.drop_take]
  rw [e, ex]

theorem min_nat {P : Program} (a b : Nat) (ty : TypeId) (l : Array TypeId) (W : World) : (Builtin.min_ l ty #[.int .i64 (a : Int), .int .i64 (b : Int)]).run P W = .ok (.int .i64 ((min a b : Nat) : Int)) W := by
  show Result.ok (Value.int .i64 (if (b : Int) < (a : Int) then (b : Int) else (a : Int))) W = _
  congr 2
  split <;> omega

/-- the eight bytes of a number, as a list -/
def eightL (n : Nat) : List UInt8 := (eightS n).data.toList

theorem eightL_str (n : Nat) : eightS n = ⟨(eightL n).toArray⟩ := by
  apply ByteArray.ext
  simp [eightL]

theorem eightL_len (n : Nat) : (eightL n).length = 8 := by
  unfold eightL eightS strOfNums
  simp

/-- two bytes of a number, as a list -/
def twoL (n : Nat) : List UInt8 := [UInt8.ofNat (n / 256), UInt8.ofNat n]

theorem twoL_len (n : Nat) : (twoL n).length = 2 := rfl

theorem u8_mod (n : Nat) : UInt8.ofNat (n % 256) = UInt8.ofNat n := by
  apply UInt8.toNat_inj.1
  simp [UInt8.toNat_ofNat']

theorem twoL_str (n : Nat) : strOfNums [(n : Int) / 256 % 256, (n : Int) % 256] = ⟨(twoL n).toArray⟩ := by
  unfold strOfNums twoL
  have e1 : ((n : Int) / 256 % 256).toNat = n / 256 % 256 := by omega
  have e2 : ((n : Int) % 256).toNat = n % 256 := by omega
  simp only [List.map_cons, List.map_nil, e1, e2, u8_mod]

theorem wd_two (n : Nat) (h : n < 65536) : wd (twoL n) = n := by
  unfold wd twoL
  simp only [List.foldl_cons, List.foldl_nil, UInt8.toNat_ofNat']
  omega

theorem quot_stepN (n d : Nat) : n / (d * 256) * 256 + n / d % 256 = n / d := by
  rw [← Nat.div_div_eq_div_mul]
  exact Nat.div_add_mod' _ _

theorem wd_eight {n : Nat} (hn : n < 18446744073709551616) : wd (eightL n) = n := by
  have e : eightL n = [UInt8.ofNat (n / 72057594037927936 % 256), UInt8.ofNat (n / 281474976710656 % 256), UInt8.ofNat (n / 1099511627776 % 256), UInt8.ofNat (n / 4294967296 % 256), UInt8.ofNat (n / 16777216 % 256), UInt8.ofNat (n / 65536 % 256), UInt8.ofNat (n / 256 % 256), UInt8.ofNat (n % 256)] := by
    unfold eightL eightS strOfNums
    simp only [List.map_cons, List.map_nil]
    congr 2
  have u (a : Nat) : (UInt8.ofNat (a % 256)).toNat = a % 256 := by rw [UInt8.toNat_ofNat']; omega
  have s1 : 0 * 256 + n / 72057594037927936 % 256 = n / 72057594037927936 := by omega
  have s2 : n / 72057594037927936 * 256 + n / 281474976710656 % 256 = n / 281474976710656 := quot_stepN n 281474976710656
  have s3 : n / 281474976710656 * 256 + n / 1099511627776 % 256 = n / 1099511627776 := quot_stepN n 1099511627776
  have s4 : n / 1099511627776 * 256 + n / 4294967296 % 256 = n / 4294967296 := quot_stepN n 4294967296
  have s5 : n / 4294967296 * 256 + n / 16777216 % 256 = n / 16777216 := quot_stepN n 16777216
  have s6 : n / 16777216 * 256 + n / 65536 % 256 = n / 65536 := quot_stepN n 65536
  have s7 : n / 65536 * 256 + n / 256 % 256 = n / 256 := quot_stepN n 256
  have s8 : n / 256 * 256 + n % 256 = n := by have := quot_stepN n 1; simpa using this
  rw [e]
  unfold wd
  rw [List.foldl_cons, List.foldl_cons, List.foldl_cons, List.foldl_cons, List.foldl_cons, List.foldl_cons, List.foldl_cons, List.foldl_cons, List.foldl_nil]
  rw [u, u, u, u, u, u, u, u, s1, s2, s3, s4, s5, s6, s7, s8]

theorem wide_str (s : List UInt8) : wideS ⟨s.toArray⟩ = wd (s.take 8) := by simp [wideS]

end Go.Proofs.YtnehbpfgdeilhaaGreatDoor
