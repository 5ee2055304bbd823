/- what a round of a node's function stands on: marks of loops that are done, the loop within -/
import Derived.Test.YtmhpgbhmhbldfaaTrS4
namespace Go.Proofs.Ytmhpgbhmhbldfaa
open Go.ChangeShapes Go.WideShapes Go.ChangeAt Go.RowKit Go.Shelf

/-- marks of loops that are done: they wait for the return -/
def Marks (mr : Nat → Prop) (W : World) (ds : List Deferred) : Prop :=
  ds.Pairwise (fun a b => a ≠ b) ∧ ∀ d ∈ ds, ∃ D, d = { target := .collected D, args := #[] } ∧ mr D ∧ W.heap[D]? = some (.deferred (some []))

theorem Marks.keep {mr mr' : Nat → Prop} {W W' : World} {ds : List Deferred} (h : Marks mr W ds) (hm : ∀ b, mr b → mr' b) (hk : ∀ b, mr b → W.heap[b]? = some (.deferred (some [])) → W'.heap[b]? = W.heap[b]?) : Marks mr' W' ds :=
  ⟨h.1, fun d hd => by obtain ⟨D, rfl, h1, h2⟩ := h.2 d hd; exact ⟨D, rfl, hm _ h1, (hk D h1 h2).trans h2⟩⟩

theorem marks_nil (mr : Nat → Prop) (W : World) : Marks mr W [] := ⟨List.Pairwise.nil, fun d h => by cases h⟩

theorem leaves_marks {n : Nat} {P : Program} {fn : Func} {tmps : Array Value} {R : Ending → World → Prop} {mr : Nat → Prop} {K : World → Prop} (hK : ∀ W W', K W → Turn mr W W' → W'.heap.size = W.heap.size → K W') (hR : ∀ W, K W → LeavesIn Fence.wide n P fn tmps R [] .returning W) :
    ∀ (ds : List Deferred) (W : World), Marks mr W ds → K W → LeavesInM Fence.wide n P fn tmps R ds .returning W
  | [], W, _, hk => hR W hk
  | d :: ds, W, hm, hk => by
    obtain ⟨D, rfl, h1, h2⟩ := hm.2 d (List.mem_cons_self)
    obtain ⟨h3, h4⟩ := List.pairwise_cons.1 hm.1
    refine ⟨by simp, .inl ⟨D, _, rfl, run_takeDeferred h2, ?_⟩⟩
    refine leaves_marks hK hR ds _ ⟨h4, fun d' hd' => ?_⟩ (hK _ _ hk ⟨rfl, rfl, rfl, by simp, fun b hb hn => World.putObj_heap_other (fun e => hn (by rw [e]; exact h1))⟩ (by simp))
    obtain ⟨D', rfl, h5, h6⟩ := hm.2 d' (List.mem_cons_of_mem _ hd')
    exact ⟨D', rfl, h5, (World.putObj_heap_other (fun e => h3 _ hd' (by rw [e]))).trans h6⟩

theorem turn_set {mine : Nat → Prop} {w w' : World} (h : Below w.heap.size w w') {g i : Nat} (hg : mine g) (v : Value) : Turn mine w (w'.setCell ⟨g, i, none⟩ v) :=
  ⟨h.os, h.tape, h.output, by simpa using h.size, fun b hb hn => (Below.heap_setCell _ ⟨g, i, none⟩ v b (fun e => hn (by rw [e]; exact hg))).trans (h.block b hb)⟩

theorem SpB.low {w : World} {g : Nat} {lo hi : ByteArray} (h : SpB w g lo hi) (lo' : ByteArray) : SpB (w.setCell ⟨g, 0, none⟩ (.string lo')) g lo' hi := by
  have h' : w.heap[g]? = some (.cells #[.string lo, .string hi] 34 (0, 0)) := h
  simp [SpB, World.setCell, Array.getElem?_modify, h']

theorem hold_below {keep : Nat → Prop} {w w' : World} (h : Below w.heap.size w w') : Hold keep w w' := ⟨h.size, fun b _ hb => h.block b hb⟩

theorem ris_next {l : List ByteArray} {i : Nat} {k k' : ByteArray} (h : RisK ltS l) (h1 : l[i]? = some k) (h2 : l[i + 1]? = some k') : ltS k k' = true := by
  obtain ⟨l1, rfl⟩ := List.getElem?_eq_some_iff.1 h1
  obtain ⟨l2, rfl⟩ := List.getElem?_eq_some_iff.1 h2
  exact List.pairwise_iff_getElem.1 h _ _ l1 l2 (by omega)

/-- what a round of the loop stands on -/
structure Rnd (J : (Nat → Prop) → List ByteArray → World → Prop) (read : Nat → Prop) (W : World) (l g6 g7 : Nat) (vk vt : Value) (hi : ByteArray) (ds : List Deferred) (mr : Nat → Prop) (pre : List ByteArray) (lo' : ByteArray) (wr : World) : Prop where
  j : J mr pre wr
  lt : ∀ b, mr b → b < wr.heap.size
  mem : mr W.heap.size ∧ mr g6 ∧ mr g7
  y : wr.heap[W.heap.size]? = some (.cells #[.func (.yield l) #[] #[]] 42 (0, 0))
  t6 : Two wr g6 vk vt
  s7 : SpB wr g7 lo' hi
  h : Hold read W wr
  m : Marks mr wr ds

/-- what the loop within stands on -/
def InL (K : (Nat → Prop) → List ByteArray → World → Prop) (read mr : Nat → Prop) (pre : List ByteArray) (wx : World) (mine : Nat → Prop) (xs : List ByteArray) (V : World) : Prop :=
  wx.heap.size ≤ V.heap.size ∧ (∀ b, mine b → wx.heap.size ≤ b ∧ b < V.heap.size) ∧ K (fun b => (mr b ∨ b = wx.heap.size ∨ b = wx.heap.size + 1 ∨ mine b) ∧ b < V.heap.size) (pre ++ xs) V ∧ Hold (fun b => mr b ∨ read b) wx V

section
variable {J K Jx : (Nat → Prop) → List ByteArray → World → Prop} {read : Nat → Prop} {W : World} {l g6 g7 : Nat} {vk vt : Value} {hi : ByteArray} {ds : List Deferred} {mr mr' mine : Nat → Prop} {pre pre' xs : List ByteArray} {lo' : ByteArray} {wr wn w' wx V V' : World}

theorem Rnd.behind (h : Rnd J read W l g6 g7 vk vt hi ds mr pre lo' wr) (q1 : J mr' pre' w') (q2 : ∀ b, mr' b → b < w'.heap.size) (q3 : ∀ b, mr b → mr' b) (q6 : Hold (fun b => mr b ∨ read b) wr w') :
    Rnd J read W l g6 g7 vk vt hi ds mr' pre' lo' w' := by
  obtain ⟨m1, m2, m3⟩ := h.mem
  exact ⟨q1, q2, ⟨q3 _ m1, q3 _ m2, q3 _ m3⟩, (q6.2 _ (.inl m1) (Array.getElem?_eq_some_iff.1 h.y).1).trans h.y, (q6.2 _ (.inl m2) h.t6.cells.2.2).trans h.t6, (q6.2 _ (.inl m3) h.s7.cells.2.2).trans h.s7, h.h.trans ⟨q6.1, fun b hb hl => q6.2 b (.inr hb) hl⟩,
    h.m.keep q3 (fun b hb ho => q6.2 b (.inl hb) (Array.getElem?_eq_some_iff.1 ho).1)⟩

/-- .. behind a yield -/
theorem Rnd.after (h : Rnd J read W l g6 g7 vk vt hi ds mr pre lo' wr) (q1 : J mr' pre' w') (q2 : ∀ b, mr' b → b < w'.heap.size) (q3 : ∀ b, mr b → mr' b) (q4 : Below wr.heap.size wr wn) (q5 : Hold (fun b => mr' b ∨ read b) wn w') :
    Rnd J read W l g6 g7 vk vt hi ds mr' pre' lo' w' :=
  h.behind q1 q2 q3 (((hold_below q4).trans q5 : Hold (fun b => mr' b ∨ read b) wr w').imp' (fun b hb => hb.imp (q3 b) id))

/-- .. the span's beginning moved -/
theorem Rnd.low (h : Rnd J read W l g6 g7 vk vt hi ds mr pre lo' wr) (hC : Clos J) (hb : Below wr.heap.size wr wn) (h67 : g6 ≠ g7) (hW : W.heap.size < g7) (lo : ByteArray) :
    Rnd J read W l g6 g7 vk vt hi ds mr pre lo (wn.setCell ⟨g7, 0, none⟩ (.string lo)) := by
  have hs : (wn.setCell ⟨g7, 0, none⟩ (.string lo)).heap.size = wn.heap.size := by simp
  have hk : ∀ b, b ≠ g7 → b < wr.heap.size → (wn.setCell ⟨g7, 0, none⟩ (.string lo)).heap[b]? = wr.heap[b]? := fun b hne hl => (Below.heap_setCell wn ⟨g7, 0, none⟩ (.string lo) b hne).trans (hb.block b hl)
  have h7 : wr.heap[g7]? = some (.cells #[.string lo', .string hi] 34 (0, 0)) := h.s7
  refine ⟨hC _ _ _ _ _ h.j (turn_set hb h.mem.2.2 _) (fun b h => .inl h), fun b hb' => ?_, h.mem, (hk _ (by omega) (Array.getElem?_eq_some_iff.1 h.y).1).trans h.y, (hk _ h67 h.t6.cells.2.2).trans h.t6, SpB.low ((hb.block _ h.s7.cells.2.2).trans h.s7) lo, ?_, h.m.keep (fun _ h => h) (fun b hb' ho => hk b (fun e => by rw [e, h7] at ho; cases ho) (Array.getElem?_eq_some_iff.1 ho).1)⟩
  · have := h.lt b hb'; have := hb.size; omega
  · refine ⟨by have := h.h.1; have := hb.size; omega, fun b hr hl => (hk b (by omega) (by have := h.h.1; omega)).trans (h.h.2 b hr hl)⟩

/-- .. new blocks -/
theorem Rnd.new (h : Rnd J read W l g6 g7 vk vt hi ds mr pre lo' wr) (hC : Clos J) (hb : Below wr.heap.size wr wn) : Rnd J read W l g6 g7 vk vt hi ds mr pre lo' wn :=
  h.behind (hC _ _ _ _ _ h.j (Turn.of_below hb) (fun b h => .inl h)) (fun b hb' => by have := h.lt b hb'; have := hb.size; omega) (fun b h => h) (hold_below hb)

/-- .. new blocks that are mine -/
theorem Rnd.own (h : Rnd J read W l g6 g7 vk vt hi ds mr pre lo' wr) (hC : Clos J) (hb : Below wr.heap.size wr wn) : Rnd J read W l g6 g7 vk vt hi ds (fun b => mr b ∨ (wr.heap.size ≤ b ∧ b < wn.heap.size)) pre lo' wn :=
  h.behind (hC _ _ _ _ _ h.j (Turn.of_below hb) (fun b h => h)) (fun b hb' => by
    rcases hb' with hb' | hb'
    · have := h.lt b hb'; have := hb.size; omega
    · omega) (fun b h => .inl h) (hold_below hb)

theorem InL.clos (hK : Clos K) : Clos (InL K read mr pre wx) := by
  rintro mine mine' xs X X' ⟨h1, h2, h3, h4⟩ ht hm
  have hsz := ht.size
  refine ⟨Nat.le_trans h1 hsz, fun b hb => ?_, ?_, ⟨Nat.le_trans h4.1 hsz, fun b hb hl => (ht.keep b (by omega) (fun h => by have := (h2 b h).1; omega)).trans (h4.2 b hb hl)⟩⟩
  · rcases hm b hb with h | h
    · have := h2 b h; omega
    · omega
  · refine hK _ _ _ _ _ h3 ⟨ht.os, ht.tape, ht.output, hsz, fun b hl hn => ht.keep b hl fun hb => hn ⟨.inr (.inr (.inr hb)), hl⟩⟩ fun b hb => ?_
    by_cases hl : b < X.heap.size
    · left
      rcases hb.1 with h | h | h | h
      · exact ⟨.inl h, hl⟩
      · exact ⟨.inr (.inl h), hl⟩
      · exact ⟨.inr (.inr (.inl h)), hl⟩
      · rcases hm b h with h | h
        · exact ⟨.inr (.inr (.inr h)), hl⟩
        · omega
    · exact .inr ⟨by omega, hb.2⟩

theorem InL.recs (hK : Clos K) : Recs wx.heap.size (InL K read mr pre wx) := by
  rintro mine xs X X' ⟨h1, h2, h3, h4⟩ ht hs
  refine ⟨by omega, fun b hb => by have := h2 b hb; omega, hK _ _ _ _ _ h3 ⟨ht.os, ht.tape, ht.output, ht.size, fun b hl hn => ht.keep b hl fun e => hn ⟨.inr (e.imp id .inl), hl⟩⟩ (fun b hb => .inl ⟨hb.1, by omega⟩), ⟨by have := h4.1; omega, fun b hb hl => (ht.keep b (by omega) (by omega)).trans (h4.2 b hb hl)⟩⟩

theorem InL.start (hK : Clos K) (h : K mr pre wx) : InL K read mr pre wx (fun _ => False) [] wx :=
  ⟨Nat.le_refl _, fun b h => h.elim, by
    rw [List.append_nil]
    refine hK _ _ _ _ _ h (Turn.refl _ _) (fun b hb => .inl ?_)
    rcases hb.1 with h | h | h | h
    · exact h
    · have := hb.2; omega
    · have := hb.2; omega
    · exact h.elim, Hold.refl _ _⟩

theorem InL.next {x : ByteArray} (hK : Clos K) (hmr : ∀ b, mr b → b < wx.heap.size) (h : InL J read mr pre wx mine xs V) (h2 : wx.heap.size + 2 ≤ V.heap.size) (hj : K (fun b => (mr b ∨ b = wx.heap.size ∨ b = wx.heap.size + 1 ∨ mine b) ∧ b < V.heap.size) (pre ++ xs ++ [x]) V')
    (hh : Hold (fun b => ((mr b ∨ b = wx.heap.size ∨ b = wx.heap.size + 1 ∨ mine b) ∧ b < V.heap.size) ∨ read b) V V') : InL K read mr pre wx mine (xs ++ [x]) V' := by
  have hsz := hh.1
  refine ⟨Nat.le_trans h.1 hsz, fun b hb => by have := h.2.1 b hb; omega, ?_, ⟨Nat.le_trans h.1 hsz, fun b hb hl => (hh.2 b ?_ (by omega)).trans (h.2.2.2.2 b hb hl)⟩⟩
  · rw [← List.append_assoc]
    refine hK _ _ _ _ _ hj (Turn.refl _ _) (fun b hb => .inl ⟨hb.1, ?_⟩)
    rcases hb.1 with h' | h' | h' | h'
    · have := hmr b h'; omega
    · omega
    · omega
    · exact (h.2.1 b h').2
  · rcases hb with hb | hb
    · exact .inl ⟨.inl hb, by omega⟩
    · exact .inr hb

/-- what a round within keeps -/
theorem InL.keeps {read' : Nat → Prop} (hr : ∀ b, read' b → read b ∨ mr b) (hh : Hold (fun b => ((mr b ∨ b = wx.heap.size ∨ b = wx.heap.size + 1 ∨ mine b) ∧ b < V.heap.size) ∨ read b) V V') : Hold (fun b => (b = wx.heap.size ∨ b = wx.heap.size + 1) ∨ (mine b ∨ read' b)) V V' :=
  ⟨hh.1, fun b hb hl => hh.2 b (by
    rcases hb with (h | h) | h | h
    · exact .inl ⟨.inr (.inl h), hl⟩
    · exact .inl ⟨.inr (.inr (.inl h)), hl⟩
    · exact .inl ⟨.inr (.inr (.inr h)), hl⟩
    · exact (hr b h).elim .inr (fun h => .inl ⟨.inl h, hl⟩)) hl⟩

/-- .. behind the loop within -/
theorem Rnd.loop (h : Rnd J read W l g6 g7 vk vt hi ds mr pre lo' wx) (hi' : InL J read mr pre wx mine xs V) (hd : V.heap[wx.heap.size]? = some (.deferred (some []))) :
    Rnd J read W l g6 g7 vk vt hi ({ target := .collected wx.heap.size, args := #[] } :: ds) (fun b => (mr b ∨ b = wx.heap.size ∨ b = wx.heap.size + 1 ∨ mine b) ∧ b < V.heap.size) (pre ++ xs) lo' V := by
  have q : ∀ b, mr b → b < V.heap.size := fun b hb => Nat.lt_of_lt_of_le (h.lt b hb) hi'.1
  have h' := h.behind hi'.2.2.1 (fun b hb => hb.2) (fun b hb => ⟨.inl hb, q b hb⟩) hi'.2.2.2
  refine ⟨h'.j, h'.lt, h'.mem, h'.y, h'.t6, h'.s7, h'.h, List.pairwise_cons.2 ⟨fun d hd' e => ?_, h'.m.1⟩, fun d hd' => ?_⟩
  · obtain ⟨D, rfl, h1, h2⟩ := h.m.2 d hd'
    have := (Array.getElem?_eq_some_iff.1 h2).1
    injection e with e1
    injection e1 with e2
    omega
  · rcases List.mem_cons.1 hd' with rfl | hd'
    · exact ⟨_, rfl, ⟨.inr (.inl rfl), (Array.getElem?_eq_some_iff.1 hd).1⟩, hd⟩
    · exact h'.m.2 d hd'

theorem Rnd.marks (h : Rnd J read W l g6 g7 vk vt hi ds mr pre lo' wx) (hi' : InL K read mr pre' wx mine xs V) (hd : V.heap[wx.heap.size]? = some (.deferred (some []))) :
    Marks (fun b => (mr b ∨ b = wx.heap.size ∨ b = wx.heap.size + 1 ∨ mine b) ∧ b < V.heap.size) V ({ target := .collected wx.heap.size, args := #[] } :: ds) := by
  have hm := h.m.keep (mr' := fun b => (mr b ∨ b = wx.heap.size ∨ b = wx.heap.size + 1 ∨ mine b) ∧ b < V.heap.size) (W' := V) (fun b hb => ⟨.inl hb, Nat.lt_of_lt_of_le (h.lt b hb) hi'.1⟩) (fun b hb ho => hi'.2.2.2.2 b (.inl hb) (Array.getElem?_eq_some_iff.1 ho).1)
  refine ⟨List.pairwise_cons.2 ⟨fun d hd' e => ?_, hm.1⟩, fun d hd' => ?_⟩
  · obtain ⟨D, rfl, h1, h2⟩ := h.m.2 d hd'
    have := (Array.getElem?_eq_some_iff.1 h2).1
    injection e with e1
    injection e1 with e2
    omega
  · rcases List.mem_cons.1 hd' with rfl | hd'
    · exact ⟨_, rfl, ⟨.inr (.inl rfl), (Array.getElem?_eq_some_iff.1 hd).1⟩, hd⟩
    · exact hm.2 d hd'

/-- what a yield leaves -/
def After (J Jx : (Nat → Prop) → List ByteArray → World → Prop) (read : Nat → Prop) (mr : Nat → Prop) (pre : List ByteArray) (wr : World) (b : Bool) (W' : World) : Prop :=
  ∃ (mr' : Nat → Prop) (wn : World), ((b = true ∧ J mr' pre W') ∨ (b = false ∧ Jx mr' pre W')) ∧ (∀ b, mr' b → b < W'.heap.size) ∧ (∀ b, mr b → mr' b) ∧ Below wr.heap.size wr wn ∧ Hold (fun b => mr' b ∨ read b) wn W'

theorem Rnd.marks2 (h : Rnd J read W l g6 g7 vk vt hi ds mr pre lo' wr) (q3 : ∀ b, mr b → mr' b) (q4 : Below wr.heap.size wr wn) (q5 : Hold (fun b => mr' b ∨ read b) wn w') : Marks mr' w' ds :=
  h.m.keep q3 (fun b hb ho => ((hold_below q4).trans q5).2 b (.inl (q3 b hb)) (Array.getElem?_eq_some_iff.1 ho).1)

end

theorem kid_nodes {K : Type} {c kid : B K} {i : Nat} (hk : c.kids[i]? = some kid) {x : Nd K} (hx : x ∈ kid.nodes) : x ∈ c.nodes := by
  obtain ⟨ci, ks, ts⟩ := c
  have hk' : ts[i]? = some kid := hk
  rw [nodes_mk]
  refine List.mem_cons_of_mem _ ?_
  obtain ⟨hl, e⟩ := List.getElem?_eq_some_iff.1 hk'
  rw [← nodesL_cut ts i, List.drop_eq_getElem_cons hl, nodesL_cons, e]
  exact List.mem_append_right _ (List.mem_append_left _ hx)

/-- the four boxes of a node's function -/
def KidAt (q M G id deep : Nat) (lo hi : ByteArray) (w : World) : Prop :=
  w.heap[q]? = some (.cells #[.nilFunc, .map (some M), .map (some G)] 48 (0, 0)) ∧ w.heap[q + 1]? = some (.cells #[.int .u64 (id : Int)] 26 (0, 0)) ∧ SpB w (q + 2) lo hi ∧ w.heap[q + 3]? = some (.cells #[.int .i64 (deep : Int)] 3 (0, 0))

theorem below_at (id deep : Nat) (lo hi : ByteArray) (M G : Nat) (w : World) :
    Calls Try.prog 23 #[.agg #[.nilFunc, .map (some M), .map (some G)], .int .u64 (id : Int), .agg #[.string lo, .string hi], .int .i64 (deep : Int)] w fun e w' =>
      e = .returned (.func (.func 37) #[] #[.pointer (some ⟨w.heap.size + 3, 0, none⟩), .pointer (some ⟨w.heap.size, 0, none⟩), .pointer (some ⟨w.heap.size + 1, 0, none⟩), .pointer (some ⟨w.heap.size + 2, 0, none⟩)]) ∧ KidAt w.heap.size M G id deep lo hi w' ∧ Below w.heap.size w w' := by
  refine (below_c id deep lo hi M G w).mono ?_
  rintro e w' ⟨h, rfl⟩
  obtain ⟨w1, h1⟩ : ∃ w1, w.alloc (.cells #[.nilFunc, .map (some M), .map (some G)] 48) = w1 := ⟨_, rfl⟩
  obtain ⟨w2, h2⟩ : ∃ w2, w1.alloc (.cells #[.int .u64 (id : Int)] 26) = w2 := ⟨_, rfl⟩
  obtain ⟨w3, h3⟩ : ∃ w3, w2.alloc (.cells #[.string lo, .string hi] 34) = w3 := ⟨_, rfl⟩
  obtain ⟨w4, h4⟩ : ∃ w4, w3.alloc (.cells #[.int .i64 (deep : Int)] 3) = w4 := ⟨_, rfl⟩
  have s1 : w1.heap.size = w.heap.size + 1 := by rw [← h1]; simp
  have s2 : w2.heap.size = w.heap.size + 2 := by rw [← h2]; simp [s1]
  have s3 : w3.heap.size = w.heap.size + 3 := by rw [← h3]; simp [s2]
  have n1 : w1.heap[w.heap.size]? = some (.cells #[.nilFunc, .map (some M), .map (some G)] 48 (0, 0)) := h1 ▸ heap_alloc_new w _
  have n2 : w2.heap[w.heap.size + 1]? = some (.cells #[.int .u64 (id : Int)] 26 (0, 0)) := by rw [← s1]; exact h2 ▸ heap_alloc_new w1 _
  have n3 : w3.heap[w.heap.size + 2]? = some (.cells #[.string lo, .string hi] 34 (0, 0)) := by rw [← s2]; exact h3 ▸ heap_alloc_new w2 _
  have n4 : w4.heap[w.heap.size + 3]? = some (.cells #[.int .i64 (deep : Int)] 3 (0, 0)) := by rw [← s3]; exact h4 ▸ heap_alloc_new w3 _
  have k2 : Below w1.heap.size w1 w2 := h2 ▸ (Below.refl _ _).alloc (Nat.le_refl _) _
  have k3 : Below w2.heap.size w2 w3 := h3 ▸ (Below.refl _ _).alloc (Nat.le_refl _) _
  have k4 : Below w3.heap.size w3 w4 := h4 ▸ (Below.refl _ _).alloc (Nat.le_refl _) _
  have k1 : Below w.heap.size w w1 := h1 ▸ (Below.refl _ _).alloc (Nat.le_refl _) _
  rw [h1, h2, h3, h4]
  refine ⟨h, ⟨?_, ?_, ?_, n4⟩, ((k1.trans (k2.mono k1.size)).trans (k3.mono (by omega))).trans (k4.mono (by omega))⟩
  · exact (k4.block _ (by omega)).trans ((k3.block _ (by omega)).trans ((k2.block _ (by omega)).trans n1))
  · exact (k4.block _ (by omega)).trans ((k3.block _ (by omega)).trans n2)
  · exact (k4.block _ (by omega)).trans n3

def KidCut (W8 : World) (M G id deep : Nat) (lo hi : ByteArray) (x : Value) (wx : World) : Prop :=
  ∃ q, x = .func (.func 37) #[] #[.pointer (some ⟨q + 3, 0, none⟩), .pointer (some ⟨q, 0, none⟩), .pointer (some ⟨q + 1, 0, none⟩), .pointer (some ⟨q + 2, 0, none⟩)] ∧ W8.heap.size ≤ q ∧ KidAt q M G id deep lo hi wx ∧ Below W8.heap.size W8 wx

theorem Blw.kid {W : World} {read : Nat → Prop} {pd pa pi ps M G q : Nat} {laid : List (Nat × Value)} {deep i : Nat} {c kid : B ByteArray} {lo hi lo' hi' : ByteArray} (h : Blw W read pd pa pi ps M G laid (deep + 1) c lo hi) (hk : c.kids[i]? = some kid) (hq : KidAt q M G kid.id deep lo' hi' W) (hr : RisK ltS kid.flat) :
    Blw W (fun b => read b ∨ (q ≤ b ∧ b < q + 4)) (q + 3) q (q + 1) (q + 2) M G laid deep kid lo' hi' := by
  refine ⟨hq.2.2.2, hq.1, hq.2.1, hq.2.2.1, ⟨.inr (by omega), .inr (by omega), .inr (by omega), .inr (by omega), .inl h.rd.2.2.2.2⟩, h.map, fun x hx => (h.nodes x (kid_nodes hk hx)).wide (fun b hb => .inl fun h => hb (.inl h)), fun x hx => h.ids x (kid_nodes hk hx), hr, ?_, ?_⟩
  · have h1 := h.deep.1
    obtain ⟨ci, ks, ts⟩ := c
    rw [hgt_mk] at h1
    have := kid_hgt (List.mem_of_getElem? (show ts[i]? = some kid from hk))
    omega
  · have := h.deep.2; omega

end Go.Proofs.Ytmhpgbhmhbldfaa
