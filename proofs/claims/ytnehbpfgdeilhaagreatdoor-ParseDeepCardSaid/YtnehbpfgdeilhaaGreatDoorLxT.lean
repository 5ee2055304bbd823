/- lex: texts between quotes -/
import Derived.Test.YtnehbpfgdeilhaaGreatDoorLxB
namespace Go.Proofs.YtnehbpfgdeilhaaGreatDoor
open Go.ChangeShapes Go.WideShapes Go.ChangeAt Go.RowKit Go.Fl
open Go.Shelf

/-- the builder that stands at block b, the call's own from w0 on -/
structure RBx (w0 : World) (b : Nat) (l : List UInt8) (w : World) : Prop where
  below : Below w0.heap.size w0 w
  bld : Holds b b l w
  up : w0.heap.size ≤ b
  lt : b < w.heap.size

theorem heap_alloc_top (w : World) (o : Obj) : (w.alloc o).heap[w.heap.size]? = some o := by
  show (w.heap.push o)[w.heap.size]? = some o
  simp

theorem RBx.start (w0 w : World) (h : Below w0.heap.size w0 w) : RBx w0 w.heap.size [] (w.alloc (.cells #[.pointer none, .slice none 0 0] 79)) :=
  ⟨h.alloc h.size _, .inl ⟨Nat.le_refl _, .slice none 0 0, heap_alloc_top w _, World.ownsRow_nil _ _ _ _, by simp [Value.ownBlock]⟩, h.size, by simp [World.size_alloc]⟩

theorem bld_on {T e : TypeId} {B b : Nat} {bs : List Value} {w w' : World} (h : Lib.IsBuilder T e B b bs w) (hb : Below w.heap.size w w') : Lib.IsBuilder T e B b bs w' := by
  have key : ∀ p, Lib.BuilderAt T e B b p bs w → Lib.BuilderAt T e B b p bs w' := by
    intro p h
    have hlt := h.lt
    obtain ⟨h1, v, h2, h3, h4⟩ := h
    refine ⟨h1, v, (hb.block _ hlt).trans h2, h3.kept (row := none) ⟨hb.os, hb.tape, hb.output, hb.size, fun k hk _ => hb.block k hk⟩ ?_, h4⟩
    cases hv : v.ownBlock <;> simp
  exact h.elim (fun x => .inl (key _ x)) (fun x => .inr (key _ x))

theorem RBx.on {w0 w w' : World} {b : Nat} {l : List UInt8} (h : RBx w0 b l w) (hb : Below w.heap.size w w') : RBx w0 b l w' :=
  ⟨h.below.trans (hb.mono h.below.size), bld_on h.bld hb, h.up, Nat.lt_of_lt_of_le h.lt hb.size⟩

theorem rbx_len {w0 w : World} {b : Nat} {l : List UInt8} (h : RBx w0 b l w) : Calls Tryz.prog 37 #[.pointer (some ⟨b, 0, none⟩)] w fun e w' => e = .returned (.int .i64 (l.length : Nat)) ∧ w = w' := by
  have := Any.Builder_Len (ρ := repeatA_ren) { repeatA with } b b (Lib.byteCells l) w h.bld
  rw [Lib.byteCells_length] at this
  refine this.mono ?_
  rintro e w' ⟨h1, h2⟩
  exact ⟨h1, h2.symm⟩

theorem rbx_byte {w0 w : World} {b : Nat} {l : List UInt8} (h : RBx w0 b l w) (x : UInt8) (hl : l.length ≤ 1000000) :
    Calls Tryz.prog 40 #[.pointer (some ⟨b, 0, none⟩), .int .u8 (x.toNat : Nat)] w fun e w' => e = .returned .nilIface ∧ RBx w0 b (l ++ [x]) w' ∧ Below b w w' := by
  refine (wb_any (x.toNat : Nat) x h.bld rfl (by omega) (Nat.le_of_lt h.lt)).mono ?_
  rintro e w' ⟨he, h1, h2, -⟩
  exact ⟨he, ⟨h.below.trans (h2.mono h.up), h1, h.up, Nat.lt_of_lt_of_le h.lt h2.size⟩, h2⟩

theorem rbx_str {w0 w : World} {b : Nat} {l : List UInt8} (h : RBx w0 b l w) : Calls Tryz.prog 38 #[.pointer (some ⟨b, 0, none⟩)] w fun e w' => e = .returned (.string (ofL l)) ∧ Below w0.heap.size w0 w' ∧ Below b w w' := by
  refine (bstring_any h.bld (Nat.le_of_lt h.lt)).mono ?_
  rintro e w' ⟨h1, h2⟩
  exact ⟨h1, h.below.trans (h2.mono h.up), h2⟩

/-- what says a byte -/
def sayC (c : UInt8) : List UInt8 := if plnB c = false then [92, 120, hexC (c.toNat / 16), hexC (c.toNat % 16)] else if c = 39 ∨ c = 92 then [92, c] else [c]

theorem sayC_len (c : UInt8) : (sayC c).length ≤ 4 := by
  unfold sayC
  split
  · simp
  · split <;> simp

theorem hexes_size : hexes.size = 16 := rfl

theorem hexes_fin : ∀ n : Fin 16, hexes.data.toList.getD n.val 0 = hexC n.val := by decide +kernel

theorem hexes_get (n : Nat) (h : n < 16) : hexes[n]'(by rw [hexes_size]; exact h) = hexC n := by
  have := hexes_fin ⟨n, h⟩
  rw [List.getD_eq_getElem?_getD, List.getElem?_eq_getElem (by show n < hexes.size; rw [hexes_size]; exact h)] at this
  exact this

/-- what says bytes, without the quotes -/
def sayL : List UInt8 → List UInt8
  | [] => []
  | c :: r => sayC c ++ sayL r

theorem sayL_append (a b : List UInt8) : sayL (a ++ b) = sayL a ++ sayL b := by
  induction a with
  | nil => rfl
  | cons c r ih => rw [List.cons_append, sayL, sayL, ih, List.append_assoc]

theorem sayL_len (a : List UInt8) : (sayL a).length ≤ 4 * a.length := by
  induction a with
  | nil => simp [sayL]
  | cons c r ih => have := sayC_len c; rw [sayL, List.length_append, List.length_cons]; omega

def textL (l : List UInt8) : List UInt8 := 39 :: (sayL l ++ [39])

theorem take_snocS (s : ByteArray) (k : Nat) (h : k < s.size) : s.data.toList.take (k + 1) = s.data.toList.take k ++ [s[k]] := by
  rw [List.take_succ_eq_append_getElem (by simpa using h)]; rfl

end Go.Proofs.YtnehbpfgdeilhaaGreatDoor
