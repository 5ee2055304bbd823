/- numbers as bytes: Eight, Two, Wide, and their reference -/
import Derived.Test.YtnehbpfgdeilhaaGreatDoorInts
import Derived.LoopN
import Derived.Laws.BytesArg
import Derived.Laws.Concat
namespace Go.Proofs.YtnehbpfgdeilhaaGreatDoor
open Go.ChangeShapes Go.WideShapes Go.ChangeAt Go.RowKit

/-- a number's eight bytes -/
def eightS (n : Nat) : ByteArray := strOfNums [(n : Int) / 72057594037927936 % 256, (n : Int) / 281474976710656 % 256, (n : Int) / 1099511627776 % 256, (n : Int) / 4294967296 % 256, (n : Int) / 16777216 % 256, (n : Int) / 65536 % 256, (n : Int) / 256 % 256, (n : Int) % 256]

theorem conv_cells {P : Program} (src e dst : TypeId) (hs : P.underlying src = some (.slice e)) (he : P.underlying e = some (.int .u8)) (hd : P.underlying dst = some .string) (W : World) (t : TypeId) (xs : List Int) (cap : Nat) :
    (convert src dst (.slice (some ⟨W.heap.size, 0, none⟩) xs.length cap)).run P (W.alloc (.cells (xs.map (Value.int .u8)).toArray t)) = .ok (.string (strOfNums xs)) (W.alloc (.cells (xs.map (Value.int .u8)).toArray t)) := by
  refine run_convert_bytes_arg _ src e hs he W.heap.size 0 xs.length cap xs rfl (fun i hi => ?_) dst hd
  rw [Nat.zero_add, cell_of_row _ _ _ _ _ _ (heap_alloc_new W _)]
  simp [List.getElem?_eq_getElem hi]

theorem nums_size (l : List Int) : (strOfNums l).size = l.length := by simp [strOfNums, ByteArray.size]

/-- its last i bytes -/
def tailS (n : Nat) : Nat → ByteArray
  | 0 => ⟨#[]⟩
  | i + 1 => strOfNums [((n / 256 ^ i : Nat) : Int) % 256] ++ tailS n i

theorem tail_size (n : Nat) : ∀ i, (tailS n i).size = i
  | 0 => rfl
  | i + 1 => by rw [tailS, ByteArray.size_append, nums_size, tail_size n i]; simp; omega

theorem tail_all (n : Nat) : tailS n 8 = eightS n := by
  simp only [tailS, eightS, strOfNums]
  have e : ∀ k : Nat, ((n / 256 ^ k : Nat) : Int) = (n : Int) / ((256 ^ k : Nat) : Int) := fun k => by simp
  simp only [e]
  apply ByteArray.ext
  simp

/-- the number of some bytes, the highest first -/
def wd (l : List UInt8) : Nat := l.foldl (fun a b => a * 256 + b.toNat) 0

theorem wd_snoc (l : List UInt8) (b : UInt8) : wd (l ++ [b]) = wd l * 256 + b.toNat := by unfold wd; rw [List.foldl_append]; rfl

theorem wd_fold (l : List UInt8) : ∀ a, l.foldl (fun a b => a * 256 + b.toNat) a < (a + 1) * 256 ^ l.length := by
  induction l with
  | nil => intro a; simp
  | cons b l ih =>
    intro a
    rw [List.foldl_cons, List.length_cons, Nat.pow_succ]
    refine Nat.lt_of_lt_of_le (ih _) ?_
    rw [Nat.mul_comm (256 ^ l.length) 256, ← Nat.mul_assoc]
    refine Nat.mul_le_mul_right _ ?_
    have := b.toNat_lt
    omega

theorem wd_lt (l : List UInt8) : wd l < 256 ^ l.length := by have := wd_fold l 0; simpa [wd] using this

theorem wd_le8 (l : List UInt8) {k : Nat} (h : l.length ≤ k) (hk : k ≤ 8) : wd l < 18446744073709551616 := by
  refine Nat.lt_of_lt_of_le (wd_lt l) ?_
  refine Nat.le_trans (Nat.pow_le_pow_right (by decide) (Nat.le_trans h hk)) (by decide)

theorem take_snoc (s : ByteArray) (k : Nat) (h : k < s.size) : s.data.toList.take (k + 1) = s.data.toList.take k ++ [s[k]] := by
  rw [List.take_succ_eq_append_getElem (by simpa using h)]; rfl

/-- what Wide answers -/
def wideS (s : ByteArray) : Nat := wd (s.data.toList.take 8)

set_option maxRecDepth 100000 in
theorem or_step {a b : Nat} (h : a * 256 + b < 18446744073709551616) (hb : b < 256) :
    bits .or .u64 (IntKind.u64.wrap ((a : Int) * 256)) (IntKind.u64.wrap (b : Int)) = ((a * 256 + b : Nat) : Int) := by
  rw [IntWalk.u64_in _ (by omega), IntWalk.u64_in _ (by omega)]
  have e : (a : Int) * 256 = ((a * 256 : Nat) : Int) := by simp
  rw [e, u64_or_nat _ _ (by omega) (by omega)]
  have := nat_join 8 (a * 256) b (by omega) (by simpa using hb)
  rw [this]

set_option maxRecDepth 100000 in
theorem wide_facts (s : ByteArray) {i : Nat} (h1 : i < 8) (h2 : i < s.size) : wd (s.data.toList.take i) * 256 + s[i].toNat < 18446744073709551616 ∧ wd (s.data.toList.take (i + 1)) = wd (s.data.toList.take i) * 256 + s[i].toNat := by
  have e : wd (s.data.toList.take (i + 1)) = wd (s.data.toList.take i) * 256 + s[i].toNat := by rw [take_snoc s i h2, wd_snoc]
  refine ⟨?_, e⟩
  rw [← e]
  exact wd_le8 _ (k := i + 1) (List.length_take_le _ _) (by omega)

theorem wide_end (s : ByteArray) {i : Nat} (h1 : i ≤ 8) (h2 : i ≤ s.size) (h : ¬ (i < 8 ∧ i < s.size)) : wd (s.data.toList.take i) = wideS s := by
  unfold wideS
  by_cases h8 : i = 8
  · rw [h8]
  · have : i = s.size := by omega
    rw [List.take_of_length_le (by simp; omega), List.take_of_length_le (by simp; omega)]

end Go.Proofs.YtnehbpfgdeilhaaGreatDoor
