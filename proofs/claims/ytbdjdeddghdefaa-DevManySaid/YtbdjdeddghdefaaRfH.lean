/- the document's device: New; what makes its noughts -/
import Derived.Test.YtbdjdeddghdefaaRfG
import Derived.Test.YtbdjdeddghdefaaIntL
namespace Go.Proofs.Ytbdjdeddghdefaa
open Go.ChangeShapes Go.WideShapes Go.ChangeAt Go.RowKit

/-- 128 noughts in memory -/
def Z128 : Obj := .cells (Array.replicate 128 (Value.int .u8 0)) 5

theorem make_128 (W : World) : (Instr.makeSlice 64 (.int .i64 128) (.int .i64 128)).run Try.prog W = .ok (.slice (some ⟨W.heap.size, 0, none⟩) 128 128) (W.alloc Z128) := make_zeros 128 (by omega) W

theorem conv_noughts {W : World} {b n : Nat} (h : W.heap[b]? = some (.cells (Array.replicate n (Value.int .u8 0)) 5)) :
    (convert 64 9 (.slice (some ⟨b, 0, none⟩) n n)).run Try.prog W = .ok (.string ⟨(List.replicate n (0 : UInt8)).toArray⟩) W := by
  have e : strOfNums (List.replicate n 0) = ⟨(List.replicate n (0 : UInt8)).toArray⟩ := by
    unfold strOfNums
    rw [List.map_replicate]; rfl
  rw [← e]
  refine run_convert_bytes_arg _ 64 5 Try.underlying64 Try.underlying5 b 0 n n (List.replicate n 0) (by simp) (fun i hi => ?_) 9 Try.underlying9
  rw [Nat.zero_add, cell_of_row _ _ _ _ _ _ h]
  have hi' : i < n := by simpa using hi
  simp [hi']

theorem conv_128 {W : World} {b : Nat} (h : W.heap[b]? = some Z128) :
    (convert 64 9 (.slice (some ⟨b, 0, none⟩) 128 128)).run Try.prog W = .ok (.string ⟨zer.toArray⟩) W := conv_noughts (n := 128) h

/-- a new device's sectors: their noughts are made one behind the other -/
theorem new_row (n : Nat) : (newD n).sure = List.replicate n zer ∧ (newD n).loose = [] ∧ (newD n).plan = [] ∧ (newD n).steps = 0 ∧ (newD n).off = false := ⟨rfl, rfl, rfl, rfl, rfl⟩

/-- one more sector of noughts, as the loop makes it -/
theorem new_round {w0 w : World} {v : Value} {l : List Sec} (h : TB w0 v l w) (hl : l.length ≤ 65536) :
    ∃ v' w', (Builtin.append_ #[27, 27] 27 #[v, .slice (some ⟨(w.alloc Z128).heap.size, 0, none⟩) 1 1]).run Try.prog ((w.alloc Z128).alloc (.cells #[.string ⟨zer.toArray⟩] 9)) = .ok v' w' ∧ TB w0 v' (l ++ [zer]) w' :=
  tb_append (h.on ((Below.refl _ w).alloc (Nat.le_refl _) Z128)) zer hl _

end Go.Proofs.Ytbdjdeddghdefaa
