/- both.do: its boxes; a flush -/
import Derived.Test.YtbdjdeddghdefaaRfJ
import Derived.Test.YtbdjdeddghdefaaDevA
namespace Go.Proofs.Ytbdjdeddghdefaa
open Go.ChangeShapes Go.WideShapes Go.ChangeAt Go.RowKit

/-- both devices, as one value -/
def bothV (B : Nat) : Value → Value
  | .agg ⟨[v0, v1, v2, v3, v4]⟩ => .agg #[.pointer (some ⟨B, 0, none⟩), v0, v1, v2, v3, v4]
  | x => x

/-- something that is done, as a value -/
def actV (x : Act3) : Value := .agg #[.int .i64 x.kind, .int .i64 x.at_, .int .u8 (x.c.toNat : Int), .bool x.odd, .int .i64 x.fall.at_, .int .u64 (x.fall.keep : Int), .int .i64 x.fall.torn]

/-- what an act's call comes to -/
def DoC (n : Nat) (a w : World) (B S M : Nat) (v : Value) (k : Int) (x : Act3) : Prop :=
  Calls Try.prog 13 #[bothV B v, actV x] w fun e w' => ∃ d' v' F', e = .returned (.tuple #[bothV B v', .bool true]) ∧ Two n a w' B S M d' v' d' F' ∧ Plans d' F' ∧ Few (k + 1) d' ∧ Only (dev3 B S M) w w'

section
variable {n : Nat} {a w : World} {B S M : Nat} {d m : Dv} {v : Value} {F : List Fal}

theorem Two.keep {w' : World} (h : Two n a w B S M d v m F) (ho : Only (dev3 B S M) w w') {g : Nat} {cs : Array Value} {T : TypeId} (hg : w.heap[g]? = some (.cells cs T (0, 0))) (h1 : T ≠ 69) (h2 : T ≠ 99) : w'.heap[g]? = some (.cells cs T (0, 0)) := by
  obtain ⟨pv, hs, hd⟩ := h.dev
  refine (ho.block g (Array.getElem?_eq_some_iff.1 hg).1 ?_).trans hg
  rintro (rfl | rfl | rfl)
  · have := hg.symm.trans hd.blk
    simp only [Option.some.injEq, Obj.cells.injEq, and_true] at this
    exact h1 this.2
  · have := hg.symm.trans hd.sure
    simp only [Option.some.injEq, Obj.cells.injEq, and_true] at this
    exact h2 this.2
  · obtain ⟨es, clock, hb, -⟩ := hd.map
    have := hg.symm.trans hb
    simp at this

theorem Two.drew (h : Two n a w B S M d v m F) : Two n a w.drew B S M d v m F := h.on (rf_drew w)

end

theorem setsR_six (a0 a1 a2 a3 a4 a5 u0 u1 u2 u3 u4 u5 : Value) : setsR #[a0, a1, a2, a3, a4, a5] 0 [u0, u1, u2, u3, u4, u5] = #[u0, u1, u2, u3, u4, u5] := rfl

theorem setsR_five (a0 a1 a2 a3 a4 a5 u1 u2 u3 u4 u5 : Value) : setsR #[a0, a1, a2, a3, a4, a5] 1 [u1, u2, u3, u4, u5] = #[a0, u1, u2, u3, u4, u5] := rfl

/-- a call of do: its boxes lie behind w0 -/
structure Run (n : Nat) (a w0 w : World) (B S M : Nat) (d : Dv) (v : Value) (m : Dv) (F : List Fal) (bx ac : Array Value) : Prop where
  two : Two n a w B S M d v m F
  only : Only (dev3 B S M) w0 w
  le : n ≤ w0.heap.size
  h0 : w.heap[w0.heap.size]? = some (.cells bx 34 (0, 0))
  h1 : w.heap[w0.heap.size + 1]? = some (.cells ac 42 (0, 0))
  h2 : w.heap[w0.heap.size + 2]? = some (.cells #[.pointer none, .slice none 0 0, .slice none 0 0, .int .i64 0, .slice none 0 0, .bool false] 34 (0, 0))

section
variable {n : Nat} {a w0 w : World} {B S M : Nat} {d m : Dv} {v : Value} {F : List Fal} {bx ac : Array Value}

theorem Run.start (h : Two n a w B S M d v m F) (bx ac : Array Value) :
    Run n a w (((w.alloc (.cells bx 34)).alloc (.cells ac 42)).alloc (.cells #[.pointer none, .slice none 0 0, .slice none 0 0, .int .i64 0, .slice none 0 0, .bool false] 34)) B S M d v m F bx ac := by
  have b1 := (Below.refl w.heap.size w).alloc (Nat.le_refl _) (.cells bx 34)
  have b2 := b1.alloc b1.size (.cells ac 42)
  have b3 := b2.alloc b2.size (.cells #[.pointer none, .slice none 0 0, .slice none 0 0, .int .i64 0, .slice none 0 0, .bool false] 34)
  have e0 := heap_alloc_last w (.cells bx 34)
  have e1 := heap_alloc_last (w.alloc (.cells bx 34)) (.cells ac 42)
  have e2 := heap_alloc_last ((w.alloc (.cells bx 34)).alloc (.cells ac 42)) (.cells #[.pointer none, .slice none 0 0, .slice none 0 0, .int .i64 0, .slice none 0 0, .bool false] 34)
  simp only [World.size_alloc] at e1 e2
  refine ⟨h.on b3, Only.of_below b3, h.size, ?_, ?_, e2⟩
  · exact (Below.heap_alloc _ _ _ (by simp; omega)).trans ((Below.heap_alloc _ _ _ (by simp)).trans e0)
  · exact (Below.heap_alloc _ _ _ (by simp)).trans e1

theorem Run.call {w' : World} {d' m' : Dv} {v' : Value} {F' : List Fal} (r : Run n a w0 w B S M d v m F bx ac) (h : Two n a w' B S M d' v' m' F') (ho : Only (dev3 B S M) w w') : Run n a w0 w' B S M d' v' m' F' bx ac :=
  ⟨h, r.only.trans ho, r.le, r.two.keep ho r.h0 (by decide) (by decide), r.two.keep ho r.h1 (by decide) (by decide), r.two.keep ho r.h2 (by decide) (by decide)⟩

theorem Run.drew (r : Run n a w0 w B S M d v m F bx ac) : Run n a w0 w.drew B S M d v m F bx ac := ⟨r.two.drew, r.only.drew, r.le, r.h0, r.h1, r.h2⟩

theorem Only.sets {ok : Nat → Prop} {a : World} {b : Nat} (hb : a.heap.size ≤ b) : ∀ (l : List Value) (w : World) (j : Nat), Only ok a w → Only ok a (setsW w b j l)
  | [], _, _, h => h
  | x :: r, _, j, h => Only.sets hb r _ (j + 1) (h.setCell (p := ⟨b, j, none⟩) (.inr hb) x)

theorem Run.box (r : Run n a w0 w B S M d v m F bx ac) (hp : ∀ x ∈ bx.toList, plainV x = true) (j : Nat) (l : List Value) (hl : ∀ x ∈ l, plainV x = true) : Run n a w0 (setsW w w0.heap.size j l) B S M d v m F (setsR bx j l) ac :=
  ⟨Two.sets l j r.two r.le r.h0 hp hl, Only.sets (Nat.le_refl _) l w j r.only, r.le, setsW_heap l w _ j r.h0, (setsW_other (by omega) l w j).trans r.h1, (setsW_other (by omega) l w j).trans r.h2⟩

theorem Run.done (r : Run n a w0 w B S M d v m F bx ac) (l : List Value) (hl : ∀ x ∈ l, plainV x = true) :
    Two n a (setsW w (w0.heap.size + 2) 0 l) B S M d v m F ∧ Only (dev3 B S M) w0 (setsW w (w0.heap.size + 2) 0 l) ∧
      (setsW w (w0.heap.size + 2) 0 l).heap[w0.heap.size + 2]? = some (.cells (setsR #[.pointer none, .slice none 0 0, .slice none 0 0, .int .i64 0, .slice none 0 0, .bool false] 0 l) 34 (0, 0)) :=
  ⟨Two.sets l 0 r.two (by have := r.le; omega) r.h2 (by simp [plainV]) hl, Only.sets (by omega) l w 0 r.only, setsW_heap l w _ 0 r.h2⟩

end

end Go.Proofs.Ytbdjdeddghdefaa
