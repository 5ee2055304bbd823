/- the way to a key, or to where it would be -/
import Derived.Test.YtmhpgbhmhbldfaaTrV
import Derived.Test.YtmhpgbhmhbldfaaTrH
namespace Go.Proofs.Ytmhpgbhmhbldfaa
open Go.ChangeShapes Go.WideShapes Go.ChangeAt Go.RowKit

theorem Only.cell {ok : Nat → Prop} {w w' : World} (h : Only ok w w') {p : Addr} (hp : p.block < w.heap.size) (hn : ¬ ok p.block) : w'.cell? p = w.cell? p := World.cell?_of_block (h.block _ hp hn)

/-- a node's two rows, none of them in a bad block -/
structure NodeAt (w : World) (bad : Nat → Prop) (A : Option Addr) (n c : Nat) (A' : Option Addr) (n' c' : Nat) (ks : List ByteArray) (ids : List Nat) : Prop where
  keys : SAt w w.heap.size A ks
  kids : NAt w w.heap.size A' ids
  hn : n = ks.length
  hn' : n' = ids.length
  nil : A = none → c = 0
  nil' : A' = none → c' = 0
  cap : n ≤ c
  cap' : n' ≤ c'
  far : ks ≠ [] → ∃ b o, A = some ⟨b, o, none⟩ ∧ ¬ bad b
  far' : ids ≠ [] → ∃ b o, A' = some ⟨b, o, none⟩ ∧ ¬ bad b

theorem NodeAt.only {w w' : World} {bad ok : Nat → Prop} {A A' : Option Addr} {n c n' c' : Nat} {ks : List ByteArray} {ids : List Nat} (h : NodeAt w bad A n c A' n' c' ks ids) (ho : Only ok w w') (hk : ∀ k, ok k → bad k) : NodeAt w' bad A n c A' n' c' ks ids := by
  refine ⟨fun i s hi => ?_, fun i s hi => ?_, h.hn, h.hn', h.nil, h.nil', h.cap, h.cap', h.far, h.far'⟩
  · obtain ⟨b, o, e, hb, hc⟩ := h.keys i s hi
    obtain ⟨b2, o2, e2, hf⟩ := h.far (List.ne_nil_of_mem (List.mem_of_getElem? hi))
    rw [e] at e2
    cases e2
    exact ⟨b, o, e, Nat.lt_of_lt_of_le hb ho.size, (ho.cell (p := ⟨b, o + i, none⟩) hb fun hx => hf (hk b hx)).trans hc⟩
  · obtain ⟨b, o, e, hb, hc⟩ := h.kids i s hi
    obtain ⟨b2, o2, e2, hf⟩ := h.far' (List.ne_nil_of_mem (List.mem_of_getElem? hi))
    rw [e] at e2
    cases e2
    exact ⟨b, o, e, Nat.lt_of_lt_of_le hb ho.size, (ho.cell (p := ⟨b, o + i, none⟩) hb fun hx => hf (hk b hx)).trans hc⟩

theorem NodeAt.on {w w' : World} {bad : Nat → Prop} {A A' : Option Addr} {n c n' c' : Nat} {ks : List ByteArray} {ids : List Nat} (h : NodeAt w bad A n c A' n' c' ks ids) (hb : Below w.heap.size w w') : NodeAt w' bad A n c A' n' c' ks ids :=
  h.only (ok := fun _ => False) (Only.of_below hb) (fun _ h => h.elim)

/-- a node as it must be, and where it is laid -/
def Laid (w : World) (bad : Nat → Prop) (laid : List (Nat × Value)) (x : Nd ByteArray) : Prop :=
  (1 ≤ x.2.1.length ∧ x.2.1.length ≤ 4 ∧ (x.2.2 = [] ∨ x.2.2.length = x.2.1.length + 1)) ∧ ∃ A n c A' n' c', getU x.1 laid = some (.agg #[.slice A n c, .slice A' n' c']) ∧ NodeAt w bad A n c A' n' c' x.2.1 x.2.2

theorem Laid.only {w w' : World} {bad ok : Nat → Prop} {laid : List (Nat × Value)} {x : Nd ByteArray} (h : Laid w bad laid x) (ho : Only ok w w') (hk : ∀ k, ok k → bad k) : Laid w' bad laid x := by
  obtain ⟨h1, A, n, c, A', n', c', h2, h3⟩ := h
  exact ⟨h1, A, n, c, A', n', c', h2, h3.only ho hk⟩

theorem Laid.on {w w' : World} {bad : Nat → Prop} {laid : List (Nat × Value)} {x : Nd ByteArray} (h : Laid w bad laid x) (hb : Below w.heap.size w w') : Laid w' bad laid x :=
  h.only (ok := fun _ => False) (Only.of_below hb) (fun _ h => h.elim)

theorem Laid.put {w : World} {bad : Nat → Prop} {laid : List (Nat × Value)} {x : Nd ByteArray} (h : Laid w bad laid x) {i : Nat} {v : Value} (hi : x.1 ≠ i) : Laid w bad (putU i v laid) x := by
  obtain ⟨h1, A, n, c, A', n', c', h2, h3⟩ := h
  exact ⟨h1, A, n, c, A', n', c', by rw [get_putU, if_neg hi]; exact h2, h3⟩

/-- a tree that is laid -/
structure Inv (w : World) (bad : Nat → Prop) (laid : List (Nat × Value)) (next : Nat) (T : B ByteArray) : Prop where
  nodes : ∀ x ∈ T.nodes, Laid w bad laid x
  nodup : (T.nodes.map (·.1)).Nodup
  low : ∀ x ∈ T.nodes, 1 ≤ x.1 ∧ x.1 < next
  ris : RisK ltS T.flat

theorem Inv.on {w w' : World} {bad : Nat → Prop} {laid : List (Nat × Value)} {next : Nat} {T : B ByteArray} (h : Inv w bad laid next T) (hb : Below w.heap.size w w') : Inv w' bad laid next T :=
  ⟨fun x hx => (h.nodes x hx).on hb, h.nodup, h.low, h.ris⟩

/-- a step of a way, and its node -/
structure StFr (w : World) (bad : Nat → Prop) (s : St) (f : Fr ByteArray) : Prop where
  id : s.id = f.id
  at_ : s.at_ = f.at_
  rows : NodeAt w bad s.A s.n s.c s.A' s.n' s.c' f.keys (f.kids.map B.id)

theorem StFr.on {w w' : World} {bad : Nat → Prop} {s : St} {f : Fr ByteArray} (h : StFr w bad s f) (hb : Below w.heap.size w w') : StFr w' bad s f := ⟨h.id, h.at_, h.rows.on hb⟩

/-- steps (the last one first) and their nodes -/
def Steps (w : World) (bad : Nat → Prop) : List St → List (Fr ByteArray) → Prop
  | [], [] => True
  | s :: l, f :: z => StFr w bad s f ∧ Steps w bad l z
  | _, _ => False

theorem Steps.len {w : World} {bad : Nat → Prop} : ∀ {l : List St} {z : List (Fr ByteArray)}, Steps w bad l z → l.length = z.length
  | [], [], _ => rfl
  | _ :: _, _ :: _, h => by rw [List.length_cons, List.length_cons, Steps.len h.2]
  | [], _ :: _, h => h.elim
  | _ :: _, [], h => h.elim

theorem Steps.on {w w' : World} {bad : Nat → Prop} (hb : Below w.heap.size w w') : ∀ {l : List St} {z : List (Fr ByteArray)}, Steps w bad l z → Steps w' bad l z
  | [], [], _ => trivial
  | _ :: _, _ :: _, h => ⟨h.1.on hb, Steps.on hb h.2⟩
  | [], _ :: _, h => h.elim
  | _ :: _, [], h => h.elim

theorem Steps.only {w w' : World} {bad ok : Nat → Prop} (ho : Only ok w w') (hk : ∀ k, ok k → bad k) : ∀ {l : List St} {z : List (Fr ByteArray)}, Steps w bad l z → Steps w' bad l z
  | [], [], _ => trivial
  | _ :: _, _ :: _, h => ⟨⟨h.1.id, h.1.at_, h.1.rows.only ho hk⟩, Steps.only ho hk h.2⟩
  | [], _ :: _, h => h.elim
  | _ :: _, [], h => h.elim

theorem Steps.mem {w : World} {bad : Nat → Prop} : ∀ {l : List St} {z : List (Fr ByteArray)}, Steps w bad l z → ∀ s ∈ l, ∃ f ∈ z, s.id = f.id
  | [], [], _, s, hs => by cases hs
  | x :: l, f :: z, h, s, hs => by
    rcases List.mem_cons.1 hs with rfl | hs
    · exact ⟨f, by simp, h.1.id⟩
    · obtain ⟨g, hg, e⟩ := Steps.mem h.2 s hs
      exact ⟨g, by simp [hg], e⟩
  | [], _ :: _, h, _, _ => h.elim
  | _ :: _, [], h, _, _ => h.elim

theorem ctx_frame {K : Type} : ∀ (z : List (Fr K)) (h : Nat) (f : Fr K), f ∈ z → ∃ x ∈ ctxN z h, x.1 = f.id ∧ x.2.1 = f.keys
  | g :: z, h, f, hf => by
    rw [ctxN]
    rcases List.mem_cons.1 hf with rfl | hf
    · exact ⟨_, List.mem_cons_self, rfl, rfl⟩
    · obtain ⟨x, hx, e⟩ := ctx_frame z g.id f hf
      exact ⟨x, by simp [hx], e⟩

theorem node_mem {K : Type} (t : B K) : (t.id, t.keys, t.kids.map B.id) ∈ t.nodes := by
  obtain ⟨i, ks, ts⟩ := t
  rw [nodes_mk]
  simp [B.id, B.keys, B.kids]

/-- a way on which a key stands nowhere, at its end a leaf -/
def WayNo (w : World) (bad : Nat → Prop) (T : B ByteArray) (k : ByteArray) (N : Nat) (v : Value) : Prop :=
  ∃ z c l g cap, v = .slice (some ⟨g, 0, none⟩) l.length cap ∧ N ≤ g ∧ StAt w g l.reverse ∧ plug z c = T ∧ c.kids = [] ∧ GoodZ z ∧ Linked z c.id ∧ (∀ f ∈ z, f.at_ = placeK ltS k f.keys ∧ k ∉ f.keys) ∧ k ∉ c.keys ∧ Steps w bad l (⟨c.id, c.keys, [], placeK ltS k c.keys⟩ :: z)

def WayEnd (w : World) (bad : Nat → Prop) (T : B ByteArray) (k : ByteArray) (e : Ending) (w' : World) : Prop :=
  ∃ v b, e = .returned (.tuple #[v, .bool b]) ∧ Below w.heap.size w w' ∧ (b = true ∧ k ∈ T.flat ∨ b = false ∧ k ∉ T.flat ∧ WayNo w' bad T k w.heap.size v)

theorem flat_leaf {K : Type} {c : B K} (h : c.kids = []) : c.flat = c.keys := by
  obtain ⟨i, ks, ts⟩ := c
  simp only [B.kids] at h
  subst h
  rw [B.flat, mix_nil]; rfl

/-- what is known of a node on the way -/
theorem way_node {w : World} {bad : Nat → Prop} {laid : List (Nat × Value)} {next : Nat} {T c : B ByteArray} {z : List (Fr ByteArray)} {k : ByteArray} (h : Inv w bad laid next T) (hp : plug z c = T) (hg : GoodZ z) (hk : ∀ f ∈ z, f.at_ = placeK ltS k f.keys ∧ k ∉ f.keys) :
    Laid w bad laid (c.id, c.keys, c.kids.map B.id) ∧ RisK ltS c.keys ∧ Kidly c.kids c.keys ∧ (k ∈ T.flat ↔ k ∈ c.flat) ∧ (∀ x ∈ c.keys, x ∈ c.flat) ∧ z.length + c.flat.length ≤ T.flat.length ∧ 1 ≤ c.id ∧ c.id < next := by
  subst hp
  have hperm := nodes_plug z hg c
  have hin : (c.id, c.keys, c.kids.map B.id) ∈ (plug z c).nodes := hperm.mem_iff.2 (List.mem_append_left _ (node_mem c))
  have hL := h.nodes _ hin
  have hkid : Kidly c.kids c.keys := by
    rcases hL.1.2.2 with e | e
    · exact .inl (by simpa using e)
    · exact .inr (by simpa using e)
  obtain ⟨a, b, h1, -, h3, h4⟩ := ctx ltS linS k 4 2 z c hg h.ris hk
  have hs := keys_mix c.keys c.kids hkid
  have hcf : c.flat = mix c.kids c.keys := by obtain ⟨i, ks, ts⟩ := c; rw [B.flat]; rfl
  rw [← hcf] at hs
  have hrc : RisK ltS c.flat := by
    have := h.ris
    rw [h1] at this
    exact this.sublist ((List.sublist_append_right a _).trans (List.sublist_append_left _ b))
  refine ⟨hL, hrc.sublist hs, hkid, ?_, fun x hx => hs.subset hx, plug_len z c hg fun f hf => ?_, (h.low _ hin).1, (h.low _ hin).2⟩
  · rw [h1, List.mem_append, List.mem_append]
    refine ⟨fun hx => ?_, fun hx => .inl (.inr hx)⟩
    rcases hx with (hx | hx) | hx
    · have := h3 k hx; rw [linS.irr] at this; cases this
    · exact hx
    · have := h4 k hx; rw [linS.irr] at this; cases this
  · obtain ⟨x, hx, -, e⟩ := ctx_frame z c.id f hf
    have := (h.nodes _ (hperm.mem_iff.2 (List.mem_append_right _ hx))).1.1
    rw [e] at this
    intro h0
    rw [h0] at this
    simp at this

/-- a step further down -/
theorem way_kid {w : World} {bad : Nat → Prop} {laid : List (Nat × Value)} {next : Nat} {T c : B ByteArray} {z : List (Fr ByteArray)} {k : ByteArray} (h : Inv w bad laid next T) (hp : plug z c = T) (hg : GoodZ z) (hk : ∀ f ∈ z, f.at_ = placeK ltS k f.keys ∧ k ∉ f.keys) (hl : Linked z c.id)
    (hkc : k ∉ c.keys) (hne : c.kids ≠ []) : ∃ c', c.kids[placeK ltS k c.keys]? = some c' ∧ plug (⟨c.id, c.keys, c.kids, placeK ltS k c.keys⟩ :: z) c' = T ∧ GoodZ (⟨c.id, c.keys, c.kids, placeK ltS k c.keys⟩ :: z) ∧
      (∀ f ∈ (⟨c.id, c.keys, c.kids, placeK ltS k c.keys⟩ :: z : List (Fr ByteArray)), f.at_ = placeK ltS k f.keys ∧ k ∉ f.keys) ∧ Linked (⟨c.id, c.keys, c.kids, placeK ltS k c.keys⟩ :: z) c'.id ∧ ∀ f ∈ (⟨c.id, c.keys, c.kids, placeK ltS k c.keys⟩ :: z : List (Fr ByteArray)), f.id ≠ c'.id := by
  obtain ⟨-, -, hkid, -⟩ := way_node h hp hg hk
  have hlen : c.kids.length = c.keys.length + 1 := hkid.resolve_left hne
  have hlt : placeK ltS k c.keys < c.kids.length := by have := placeK_le ltS k c.keys; omega
  have hpl : plug (⟨c.id, c.keys, c.kids, placeK ltS k c.keys⟩ :: z) c.kids[placeK ltS k c.keys] = T := by
    rw [plug]
    simp only [List.set_getElem_self]
    rw [← hp]
    obtain ⟨i, ks, ts⟩ := c
    rfl
  have hgz : GoodZ (⟨c.id, c.keys, c.kids, placeK ltS k c.keys⟩ :: z) := fun f hf => by
    rcases List.mem_cons.1 hf with rfl | hf
    · exact ⟨hlen, hlt⟩
    · exact hg f hf
  refine ⟨c.kids[placeK ltS k c.keys], List.getElem?_eq_getElem hlt, hpl, hgz, fun f hf => ?_, ⟨by rw [List.getElem?_map, List.getElem?_eq_getElem hlt]; rfl, hl⟩, fun f hf e => ?_⟩
  · rcases List.mem_cons.1 hf with rfl | hf
    · exact ⟨rfl, hkc⟩
    · exact hk f hf
  · have hperm := nodes_plug _ hgz c.kids[placeK ltS k c.keys]
    have hnd := h.nodup
    rw [← hpl] at hnd
    have hnd := (hperm.map (·.1)).nodup_iff.1 hnd
    rw [List.map_append] at hnd
    obtain ⟨x, hx, e1, -⟩ := ctx_frame _ (c.kids[placeK ltS k c.keys]).id f hf
    exact (List.nodup_append.1 hnd).2.2 _ (List.mem_map.2 ⟨_, node_mem _, rfl⟩) x.1 (List.mem_map.2 ⟨x, hx, rfl⟩) (by rw [e1]; exact e.symm)

/-- a row of steps of one's own -/
def OwSt (w : World) (N : Nat) (v : Value) (l : List St) : Prop := w.ownsRow N 65 4 v l.length (rowSt l)

theorem info_step : (Try.prog.info? 65).map (fun i => (i.zero, i.size, i.bytes)) = some (some (.agg #[.int .u64 0, .slice none 0 0, .slice none 0 0, .int .i64 0]), 4, 64) := by kernel_rfl

theorem app_St {w : World} {N : Nat} {v : Value} {l : List St} (h : OwSt w N v l) (hN : N ≤ w.heap.size) (s : St) (hsm : l.length ≤ 1000) :
    ∃ g c' w', (∀ ty, (Builtin.append_ #[51, 51] ty #[v, .slice (some ⟨w.heap.size, 0, none⟩) 1 1]).run Try.prog (w.alloc (.cells #[.int .u64 (s.id : Int), .slice s.A s.n s.c, .slice s.A' s.n' s.c', .int .i64 (s.at_ : Int)] 65)) = .ok (.slice (some ⟨g, 0, none⟩) (l.length + 1) c') w') ∧
      OwSt w' N (.slice (some ⟨g, 0, none⟩) (l.length + 1) c') (l ++ [s]) ∧ StAt w' g (l ++ [s]) ∧ Below N w w' := by
  obtain ⟨i0, hi0, hz0, hz1, hz2⟩ := info_parts info_step
  have hb0 : Below w.heap.size w (w.alloc (.cells #[.int .u64 (s.id : Int), .slice s.A s.n s.c, .slice s.A' s.n' s.c', .int .i64 (s.at_ : Int)] 65)) := (Below.refl _ _).alloc (Nat.le_refl _) _
  have h' := owns_on h hb0
  have he := heap_alloc_new w (.cells #[.int .u64 (s.id : Int), .slice s.A s.n s.c, .slice s.A' s.n' s.c', .int .i64 (s.at_ : Int)] 65)
  obtain ⟨v', w', hr, ho, hg, -⟩ := run_append_own (P := Try.prog) _ N 51 0 65 i0 _ 4 64 Try.underlying51 hi0 hz0 hz1 hz2 rfl (by decide) _ l.length (rowSt l) h' ⟨w.heap.size, 0, none⟩ 1 1 (rowSt [s]) rfl (fun j u hj => by
    rw [adr_add, Nat.zero_add, cell_of_row _ _ _ _ _ _ he, ← Array.getElem?_toList]
    exact hj) (rowSt_one [s]) (by unfold maxLen; omega) (by omega) (Nat.le_trans hN hb0.size)
  have hlt := h'.lt
  have hbel : Below N w w' := (hb0.mono hN).trans ((Below.refl N _).grown hg (Nat.le_trans hN hb0.size) fun k e => (hlt k e).1)
  have hcl := fun g hg => ho.cells (g := g) hg
  obtain ⟨g, c', rfl, hgl⟩ : ∃ g c', v' = .slice (some ⟨g, 0, none⟩) (l.length + 1) c' ∧ g < w'.heap.size := by
    rcases ho.2 with ⟨e, h0⟩ | ⟨g, cap, cur, rfl, -, hg, -⟩
    · omega
    · exact ⟨_, _, rfl, (Array.getElem?_eq_some_iff.1 hg).1⟩
  refine ⟨g, c', w', fun ty => hr, ?_, ⟨hgl, fun j u hj => ?_⟩, hbel⟩
  · unfold OwSt; rw [List.length_append, rowSt_app]; exact ho
  · rw [rowSt_app] at hj
    have := hcl g rfl j u hj
    rwa [adr_add, Nat.zero_add] at this

end Go.Proofs.Ytmhpgbhmhbldfaa
