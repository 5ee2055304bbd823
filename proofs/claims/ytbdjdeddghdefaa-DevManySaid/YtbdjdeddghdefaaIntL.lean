/- a slice of ints that came in; noughts as a string -/
import Derived.Test.YtbdjdeddghdefaaEight
import Derived.Test.YtbdjdeddghdefaaRowL
namespace Go.Proofs.Ytbdjdeddghdefaa
open Go.ChangeShapes Go.WideShapes Go.ChangeAt Go.RowKit Go.Deep

/-- a slice of ints: what its cells hold -/
def IsIntL (w : World) (A : Option Addr) (l : List Int) : Prop :=
  l.length ≤ 9223372036854775807 ∧ (l = [] ∨ ∃ b o, A = some ⟨b, o, none⟩ ∧ b < w.heap.size ∧ ∀ i x, l[i]? = some x → w.cell? ⟨b, o + i, none⟩ = some (.int .i64 x))

theorem IsIntL.on {w w' : World} {A : Option Addr} {l : List Int} (h : IsIntL w A l) (hb : Below w.heap.size w w') : IsIntL w' A l := by
  refine ⟨h.1, ?_⟩
  rcases h.2 with h | ⟨b, o, e, hlt, hc⟩
  · exact .inl h
  · exact .inr ⟨b, o, e, Nat.lt_of_lt_of_le hlt hb.size, fun i x hx => (World.cell?_of_block (a := ⟨b, o + i, none⟩) (hb.block b hlt)).trans (hc i x hx)⟩

section
variable {H : Type} {enc : TypeId × Value → H} {w : World} {spare : Nat → Bool} {held : Bool}

set_option maxRecDepth 100000 in
theorem open_ints {v : Value} {b0 : Nat} {d : DataW H} {p : List MemPlace} (hv : Value.okWide Try.prog w .any b0 93 v) (h : DataW.Trod enc Try.prog w 0 spare held 93 v d p) :
    ∃ A cap l, v = .slice A (l : List Int).length cap ∧ IsIntL w A l := by
  obtain ⟨a0, len, cap, rfl⟩ := okWide_slice Try.underlying93 hv
  obtain ⟨fuel, hf⟩ := h
  rcases Go.Deep.open_slice1 Try.underlying93 (by kernel_rfl) hf with ⟨hcs, _⟩ | ⟨x, l, c, m, n, V, D, Pl, hcs, _, hl, hm, hmm, _, hcell⟩
  · simp [Value.cells] at hcs
    obtain ⟨rfl, rfl, rfl⟩ := hcs
    exact ⟨none, 0, [], rfl, by simp, .inl rfl⟩
  · simp [Value.cells] at hcs
    obtain ⟨rfl, rfl, rfl⟩ := hcs
    have hlm : len ≤ m := by rw [hmm]; split <;> omega
    have hfl : ∀ i, i < len → ∃ z, V i = .int .i64 z := by
      intro i hi
      obtain ⟨h1, h2⟩ := hcell i (by omega)
      obtain ⟨z, hz, -, -⟩ := DataW.trod_int Try.underlying3 h2
      simp at hz
      exact ⟨z, hz⟩
    unfold maxLen at hm
    have hll : ((List.range len).map fun i => match V i with | .int _ z => z | _ => 0).length = len := by simp
    refine ⟨some x, cap, (List.range len).map fun i => match V i with | .int _ z => z | _ => 0, by rw [hll], by rw [hll]; omega, ?_⟩
    by_cases h0 : len = 0
    · left; subst h0; rfl
    · right
      obtain ⟨b, off, spot⟩ := x
      have hspot : spot = none := by simpa [Addr.add] using World.cell?_spot (hcell 0 (by omega)).1
      subst hspot
      refine ⟨b, off, rfl, ?_, fun i z hi => ?_⟩
      · have h1 := (hcell 0 (by omega)).1
        rw [Go.WideShapes.add_plain] at h1
        exact block_lt_of_cell h1
      · have hil : i < len := by have := (List.getElem?_eq_some_iff.1 hi).1; rwa [hll] at this
        have h1 := (hcell i (by omega)).1
        rw [Go.WideShapes.add_plain] at h1
        obtain ⟨y, hy⟩ := hfl i hil
        rw [List.getElem?_map, List.getElem?_range hil] at hi
        simp only [Option.map_some, hy, Option.some.injEq] at hi
        rw [h1, hy, hi]
end

theorem info_byte : (Try.prog.info? 5).map (fun i => (i.zero, i.size, i.bytes)) = some (some (.int .u8 0), 1, 1) := by kernel_rfl

theorem made_zeros (n : Nat) : madeCells (Value.int .u8 0).cells n = (List.replicate n (Value.int .u8 0)).toArray := by
  apply Array.ext
  · rw [size_madeCells]; simp
  · intro i h1 h2
    simp [madeCells, Value.cells, Nat.mod_one]

theorem make_zeros (n : Nat) (hn : n ≤ 100000) (W : World) : (Instr.makeSlice 64 (.int .i64 (n : Int)) (.int .i64 (n : Int))).run Try.prog W = .ok (.slice (some ⟨W.heap.size, 0, none⟩) n n) (W.alloc (.cells (Array.replicate n (Value.int .u8 0)) 5)) := by
  obtain ⟨i0, hi, hz0, hz1, hz2⟩ := info_parts info_byte
  have h := run_make (P := Try.prog) W 64 5 i0 (.int .u8 0) Try.underlying64 hi hz0 .i64 .i64 (n : Int) (n : Int) (by omega) (by omega) (by rw [hz2]; omega) (by omega)
  rw [Int.toNat_natCast, hz1, Nat.mul_one, made_zeros, List.toArray_replicate] at h
  exact h

theorem conv_zeros (n : Nat) (W : World) : (convert 64 9 (.slice (some ⟨W.heap.size, 0, none⟩) n n)).run Try.prog (W.alloc (.cells (Array.replicate n (Value.int .u8 0)) 5)) = .ok (.string ⟨(List.replicate n (0 : UInt8)).toArray⟩) (W.alloc (.cells (Array.replicate n (Value.int .u8 0)) 5)) := by
  have h := conv_cells (P := Try.prog) 64 5 9 Try.underlying64 Try.underlying5 Try.underlying9 W 5 (List.replicate n 0) n
  rw [List.map_replicate, List.length_replicate, List.toArray_replicate] at h
  have e : strOfNums (List.replicate n 0) = ⟨(List.replicate n (0 : UInt8)).toArray⟩ := by
    unfold strOfNums
    rw [List.map_replicate]; rfl
  rw [e] at h
  exact h

theorem i64_and511 (n : Int) : ∃ r : Nat, r ≤ 511 ∧ bits .and .i64 n 511 = r := by
  have h3 : (BitVec.ofInt 64 511).toNat = 2 ^ 9 - 1 := by decide
  have key : (BitVec.ofInt 64 n &&& BitVec.ofInt 64 511).toNat = (n % ((2 ^ 64 : Nat) : Int)).toNat % 2 ^ 9 := by
    rw [BitVec.toNat_and, BitVec.toNat_ofInt, h3, Nat.and_two_pow_sub_one_eq_mod]
  refine ⟨(n % ((2 ^ 64 : Nat) : Int)).toNat % 2 ^ 9, by omega, ?_⟩
  show IntKind.i64.wrap ((BitVec.ofInt 64 n &&& BitVec.ofInt 64 511).toNat : Nat) = _
  rw [key, IntKind.wrap_i64]
  omega

end Go.Proofs.Ytbdjdeddghdefaa
