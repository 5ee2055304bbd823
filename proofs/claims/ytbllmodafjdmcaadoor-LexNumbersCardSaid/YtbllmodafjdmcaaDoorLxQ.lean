/- a row of bytes of one's own -/
import Derived.Test.YtbllmodafjdmcaaDoorLxX
namespace Go.Proofs.YtbllmodafjdmcaaDoor
open Go.ChangeShapes Go.WideShapes Go.ChangeAt Go.RowKit Go.Fl
open Go.Shelf

theorem info_byte8 : (Tryd.prog.info? 5).map (fun i => (i.zero, i.size, i.bytes)) = some (some (.int .u8 0), 1, 1) := by kernel_rfl

/-- bytes gathered in a row of one's own: its block, its room -/
def OwnB (B : Nat) (w : World) (l : List UInt8) (g cap : Nat) : Prop := w.ownsRow B 5 1 (.slice (some ⟨g, 0, none⟩) l.length cap) l.length (Lib.byteCells l)

theorem OwnB.on {B g cap : Nat} {w w' : World} {l : List UInt8} (h : OwnB B w l g cap) (hb : Below w.heap.size w w') : OwnB B w' l g cap := by
  refine World.ownsRow.kept (row := none) h ⟨hb.os, hb.tape, hb.output, hb.size, fun k hk _ => hb.block k hk⟩ ?_
  simp [Value.ownBlock]

theorem OwnB.start (w : World) : OwnB w.heap.size (w.alloc (.cells #[] 5)) [] w.heap.size 0 :=
  ⟨rfl, .inr ⟨w.heap.size, 0, #[], rfl, Nat.le_refl _, heap_alloc_top w _, Nat.le_refl _, Nat.zero_le _, rfl, rfl⟩⟩

theorem OwnB.add {B g cap : Nat} {w : World} {l : List UInt8} (h : OwnB B w l g cap) (hB : B ≤ w.heap.size) (hn : l.length ≤ 100000) (c : UInt8) (a : Addr) (hc : w.cell? a = some (.int .u8 (c.toNat : Nat))) :
    ∃ g' cap' w', (Builtin.append_ #[41, 41] 41 #[.slice (some ⟨g, 0, none⟩) l.length cap, .slice (some a) 1 1]).run Tryd.prog w = .ok (.slice (some ⟨g', 0, none⟩) (l ++ [c]).length cap') w' ∧ OwnB B w' (l ++ [c]) g' cap' ∧ Below B w w' := by
  obtain ⟨i0, hi0, hz0, hz1, hz2⟩ := info_parts info_byte8
  obtain ⟨v', w', hr, hown, hg, -⟩ := run_append_fresh (P := Tryd.prog) w B 41 41 5 i0 _ 1 1 Tryd.underlying41 hi0 hz0 hz1 hz2 rfl (by decide) _ l.length (Lib.byteCells l) h a 1 1 [.int .u8 (c.toNat : Nat)] rfl
    (fun j u hj => by
      match j, hj with
      | 0, hj => simp at hj; subst hj; simpa [Addr.add] using hc)
    (fun u hu => by simp at hu; subst hu; rfl) (by unfold maxLen; omega) (by omega) hB (by decide)
  have e : Lib.byteCells l ++ [.int .u8 (c.toNat : Nat)] = Lib.byteCells (l ++ [c]) := by simp [Lib.byteCells]
  rw [e] at hown
  obtain ⟨g', cap', rfl⟩ : ∃ g' cap', v' = .slice (some ⟨g', 0, none⟩) (l ++ [c]).length cap' := by
    rcases hown.2 with ⟨-, h0⟩ | ⟨g', cap', cur, rfl, -⟩
    · omega
    · exact ⟨g', cap', by simp⟩
  refine ⟨g', cap', w', hr, ?_, (Below.refl _ _).grown hg hB (fun k hk => (h.lt k hk).1)⟩
  unfold OwnB
  have e2 : (l ++ [c]).length = l.length + 1 := by simp
  rw [e2] at hown ⊢
  exact hown

theorem OwnB.str {B g cap : Nat} {w : World} {l : List UInt8} (h : OwnB B w l g cap) : (convert 41 9 (.slice (some ⟨g, 0, none⟩) l.length cap)).run Tryd.prog w = .ok (.string (ofL l)) w := by
  refine run_convert_bytes_back (P := Tryd.prog) w 41 9 5 ⟨g, 0, none⟩ cap l Tryd.underlying41 Tryd.underlying5 Tryd.underlying9 (fun j hj => ?_)
  exact h.cells (g := g) rfl j _ (by simp [Lib.byteCells, hj])

/-- append whose run is known, as one step of a region that draws -/
theorem step_append_runJ {P : Program} {ops : Array Oper} {o : Oper} {a : Act} {w : World} {K : Act → World → Prop} {Q : Exit → Act → World → Prop} {E : Prop}
    (hg : o.guard = none) (d x : Operand) (dT sT : TypeId) (hop : o.op = Op.call { callee := Callee.builtin Builtin.append, args := #[d, x], argTypes := #[dT, sT] })
    (v u : Value) (hd : a.eval d = v) (hx : a.eval x = u) {v' : Value} {w' : World} (hr : (Builtin.append_ #[dT, sT] o.type #[v, u]).run P w = .ok v' w') (hK : K (a.put o.dst v') w') :
    if Region.wanted o (yielded ops a.tmps) = true then Oper.wp P o a w K Q else E := by
  have hw : Region.wanted o (yielded ops a.tmps) = true := by simp [Region.wanted, hg]
  rw [if_pos hw]
  unfold Oper.wp
  simp [execOp, hop, resolve, invoke, builtin, hd, hx, hr, Result.andThen]
  exact hK

theorem drop_first {S : ByteArray} {i : Nat} {b : UInt8} {q : List UInt8} (h : S.data.toList.drop i = b :: q) : ∃ hi : i < S.size, S[i] = b ∧ S.data.toList.drop (i + 1) = q := by
  have hi : i < S.size := by
    rcases Nat.lt_or_ge i S.size with h' | h'
    · exact h'
    · rw [list_none S i h'] at h; cases h
  rw [list_cut S i hi] at h
  injection h with h1 h2
  exact ⟨hi, h1, h2⟩

end Go.Proofs.YtbllmodafjdmcaaDoor
