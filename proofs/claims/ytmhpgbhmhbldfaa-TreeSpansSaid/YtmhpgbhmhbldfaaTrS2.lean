/- the keys of a span that stand below a node, as a function that is ranged over -/
import Derived.Test.YtmhpgbhmhbldfaaTrP5
import Derived.Test.YtmhpgbhmhbldfaaClB
import Derived.Test.YtmhpgbhmhbldfaaItr
import Derived.Test.YtmhpgbhmhbldfaaTrS1
namespace Go.Proofs.Ytmhpgbhmhbldfaa
open Go.ChangeShapes Go.WideShapes Go.ChangeAt Go.RowKit Go.Shelf

attribute [local go_sem] Oper.semAt_some

theorem room_none {F : Fence} (hd : F.depth = none) (k : Nat) : F.room k := fun d h => by rw [hd] at h; cases h
theorem yield_any {m m' : Nat} {P : Program} {l : Nat} {args : Array Value} {W : World} {R : Ending → World → Prop} (h : YieldAt Fence.wide m P l args W R) : YieldAt Fence.wide m' P l args W R := by
  obtain ⟨fn, tmps, assign, body, hy, h1, h2⟩ := h
  exact ⟨fn, tmps, assign, body, hy, h1, fun c cs _ => h2 c cs (room_none rfl _)⟩

/-- a span in a box -/
def SpB (w : World) (g : Nat) (lo hi : ByteArray) : Prop := w.heap[g]? = some (.cells #[.string lo, .string hi] 34 (0, 0))

theorem SpB.cells {w : World} {g : Nat} {lo hi : ByteArray} (h : SpB w g lo hi) : (w.cell? ⟨g, 0, none⟩ = some (.string lo) ∧ w.cell? ⟨g, 1, none⟩ = some (.string hi)) ∧ (∀ i, w.frozen? ⟨g, i, none⟩ = false) ∧ g < w.heap.size := by
  refine ⟨⟨by rw [cell_of_row _ _ _ _ _ _ h]; rfl, by rw [cell_of_row _ _ _ _ _ _ h]; rfl⟩, fun i => ?_, (Array.getElem?_eq_some_iff.1 h).1⟩
  have h' : w.heap[g]? = some (.cells #[.string lo, .string hi] 34 (0, 0)) := h
  simp [World.frozen?, h']

/-- below: a function value and its four boxes -/
theorem below_c (id deep : Nat) (lo hi : ByteArray) (M G : Nat) (w : World) :
    Calls Try.prog 23 #[.agg #[.nilFunc, .map (some M), .map (some G)], .int .u64 (id : Int), .agg #[.string lo, .string hi], .int .i64 (deep : Int)] w fun e w' =>
      e = .returned (.func (.func 37) #[] #[.pointer (some ⟨w.heap.size + 3, 0, none⟩), .pointer (some ⟨w.heap.size, 0, none⟩), .pointer (some ⟨w.heap.size + 1, 0, none⟩), .pointer (some ⟨w.heap.size + 2, 0, none⟩)]) ∧
        w' = (((w.alloc (.cells #[.nilFunc, .map (some M), .map (some G)] 48)).alloc (.cells #[.int .u64 (id : Int)] 26)).alloc (.cells #[.string lo, .string hi] 34)).alloc (.cells #[.int .i64 (deep : Int)] 3) := by
  go_enter Try.func23, Try.ntmps23
  go_wp2_with fail
  go_ret
  exact ⟨rfl, rfl⟩

/-- what a node's function reads -/
structure Blw (W : World) (read : Nat → Prop) (pd pa pi ps M G : Nat) (laid : List (Nat × Value)) (deep : Nat) (c : B ByteArray) (lo hi : ByteArray) : Prop where
  bd : W.heap[pd]? = some (.cells #[.int .i64 (deep : Int)] 3 (0, 0))
  ba : W.heap[pa]? = some (.cells #[.nilFunc, .map (some M), .map (some G)] 48 (0, 0))
  bi : W.heap[pi]? = some (.cells #[.int .u64 (c.id : Int)] 26 (0, 0))
  bs : SpB W ps lo hi
  rd : read pd ∧ read pa ∧ read pi ∧ read ps ∧ read M
  map : OwnU W M VNo laid
  nodes : ∀ x ∈ c.nodes, Laid W (fun b => ¬ read b) laid x
  ids : ∀ x ∈ c.nodes, x.1 < 1000000
  ris : RisK ltS c.flat
  deep : c.hgt ≤ deep ∧ deep ≤ 64

theorem NodeAt.hold {W W' : World} {read : Nat → Prop} {A A' : Option Addr} {n c n' c' : Nat} {ks : List ByteArray} {ids : List Nat} (h : NodeAt W (fun b => ¬ read b) A n c A' n' c' ks ids) (hh : Hold read W W') : NodeAt W' (fun b => ¬ read b) A n c A' n' c' ks ids := by
  refine ⟨fun i s hi => ?_, fun i s hi => ?_, h.hn, h.hn', h.nil, h.nil', h.cap, h.cap', h.far, h.far'⟩
  · obtain ⟨b, o, e, hb, hc⟩ := h.keys i s hi
    obtain ⟨b2, o2, e2, hf⟩ := h.far (List.ne_nil_of_mem (List.mem_of_getElem? hi))
    rw [e] at e2
    cases e2
    exact ⟨b, o, e, Nat.lt_of_lt_of_le hb hh.1, (World.cell?_of_block (a := ⟨b, o + i, none⟩) (hh.2 b (Classical.not_not.1 hf) hb)).trans hc⟩
  · obtain ⟨b, o, e, hb, hc⟩ := h.kids i s hi
    obtain ⟨b2, o2, e2, hf⟩ := h.far' (List.ne_nil_of_mem (List.mem_of_getElem? hi))
    rw [e] at e2
    cases e2
    exact ⟨b, o, e, Nat.lt_of_lt_of_le hb hh.1, (World.cell?_of_block (a := ⟨b, o + i, none⟩) (hh.2 b (Classical.not_not.1 hf) hb)).trans hc⟩

theorem Laid.hold {W W' : World} {read : Nat → Prop} {laid : List (Nat × Value)} {x : Nd ByteArray} (h : Laid W (fun b => ¬ read b) laid x) (hh : Hold read W W') : Laid W' (fun b => ¬ read b) laid x := by
  obtain ⟨h1, A, n, c, A', n', c', h2, h3⟩ := h
  exact ⟨h1, A, n, c, A', n', c', h2, h3.hold hh⟩

theorem Blw.hold {W W' : World} {read : Nat → Prop} {pd pa pi ps M G : Nat} {laid : List (Nat × Value)} {deep : Nat} {c : B ByteArray} {lo hi : ByteArray} (h : Blw W read pd pa pi ps M G laid deep c lo hi) (hh : Hold read W W') : Blw W' read pd pa pi ps M G laid deep c lo hi := by
  have lt : ∀ {b : Nat} {o : Obj}, W.heap[b]? = some o → b < W.heap.size := fun h => (Array.getElem?_eq_some_iff.1 h).1
  obtain ⟨r1, r2, r3, r4, r5⟩ := h.rd
  exact ⟨(hh.2 _ r1 (lt h.bd)).trans h.bd, (hh.2 _ r2 (lt h.ba)).trans h.ba, (hh.2 _ r3 (lt h.bi)).trans h.bi, (hh.2 _ r4 (lt h.bs)).trans h.bs, h.rd, h.map.keep (hh.2 _ r5 h.map.lt), fun x hx => (h.nodes x hx).hold hh, h.ids, h.ris, h.deep⟩

/-- .. more is read -/
theorem Blw.more {W : World} {read read' : Nat → Prop} {pd pa pi ps M G : Nat} {laid : List (Nat × Value)} {deep : Nat} {c : B ByteArray} {lo hi : ByteArray} (h : Blw W read pd pa pi ps M G laid deep c lo hi) (hr : ∀ b, read b → read' b) : Blw W read' pd pa pi ps M G laid deep c lo hi :=
  ⟨h.bd, h.ba, h.bi, h.bs, ⟨hr _ h.rd.1, hr _ h.rd.2.1, hr _ h.rd.2.2.1, hr _ h.rd.2.2.2.1, hr _ h.rd.2.2.2.2⟩, h.map, fun x hx => (h.nodes x hx).wide (fun b hb => .inl fun h => hb (hr b h)), h.ids, h.ris, h.deep⟩

end Go.Proofs.Ytmhpgbhmhbldfaa
