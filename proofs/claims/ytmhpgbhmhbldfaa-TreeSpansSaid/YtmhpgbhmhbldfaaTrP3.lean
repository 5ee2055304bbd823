/- a key goes up, walked -/
import Derived.Test.YtmhpgbhmhbldfaaTrP4
import Derived.RegionIn
namespace Go.Proofs.Ytmhpgbhmhbldfaa
open Go.ChangeShapes Go.WideShapes Go.ChangeAt Go.RowKit Go.Shelf

attribute [local go_sem] Oper.semAt_some

theorem NodeAt.wide {w : World} {bad bad' : Nat → Prop} {A A' : Option Addr} {n c n' c' : Nat} {ks : List ByteArray} {ids : List Nat} (h : NodeAt w bad A n c A' n' c' ks ids) (hb : ∀ b, bad' b → bad b ∨ w.heap.size ≤ b) : NodeAt w bad' A n c A' n' c' ks ids := by
  refine ⟨h.keys, h.kids, h.hn, h.hn', h.nil, h.nil', h.cap, h.cap', fun hne => ?_, fun hne => ?_⟩
  · obtain ⟨b, o, e, hf⟩ := h.far hne
    obtain ⟨b2, o2, e2, hlt, -⟩ := h.keys 0 _ (List.getElem?_eq_getElem (List.length_pos_iff.2 hne))
    rw [e] at e2; cases e2
    exact ⟨b, o, e, fun hx => by rcases hb b hx with hx | hx; exact hf hx; omega⟩
  · obtain ⟨b, o, e, hf⟩ := h.far' hne
    obtain ⟨b2, o2, e2, hlt, -⟩ := h.kids 0 _ (List.getElem?_eq_getElem (List.length_pos_iff.2 hne))
    rw [e] at e2; cases e2
    exact ⟨b, o, e, fun hx => by rcases hb b hx with hx | hx; exact hf hx; omega⟩

theorem Laid.wide {w : World} {bad bad' : Nat → Prop} {laid : List (Nat × Value)} {x : Nd ByteArray} (h : Laid w bad laid x) (hb : ∀ b, bad' b → bad b ∨ w.heap.size ≤ b) : Laid w bad' laid x := by
  obtain ⟨h1, A, n, c, A', n', c', h2, h3⟩ := h
  exact ⟨h1, A, n, c, A', n', c', h2, h3.wide hb⟩

theorem Steps.wide {w : World} {bad bad' : Nat → Prop} (hb : ∀ b, bad' b → bad b ∨ w.heap.size ≤ b) : ∀ {l : List St} {z : List (Fr ByteArray)}, Steps w bad l z → Steps w bad' l z
  | [], [], _ => trivial
  | _ :: _, _ :: _, h => ⟨⟨h.1.id, h.1.at_, h.1.rows.wide hb⟩, Steps.wide hb h.2⟩
  | [], _ :: _, h => h.elim
  | _ :: _, [], h => h.elim

/-- all that stands during a round -/
structure Bun (W X : World) (t M G p3 p5 p6 b9 root nx : Nat) (lent : Bool) (lai : List (Nat × Value)) (k : ByteArray) (r : Nat) (st : St) : Prop where
  tree : IsT X t (some M) (some G) root nx lent
  map : OwnU X M VNo lai
  gone : OwnU X G VGo ([] : List (Nat × Unit))
  b3 : X.heap[p3]? = some (.cells #[.pointer (some ⟨t, 0, none⟩)] 24 (0, 0))
  b5 : X.heap[p5]? = some (.cells #[.string k] 9 (0, 0))
  b6 : X.heap[p6]? = some (.cells #[.int .u64 (r : Int)] 26 (0, 0))
  b9 : X.heap[b9]? = some (.cells #[.int .u64 (st.id : Int), .slice st.A st.n st.c, .slice st.A' st.n' st.c', .int .i64 (st.at_ : Int)] 65 (0, 0))
  only : Only (badP t M G p5 p6) W X

theorem Bun.on {W X Y : World} {t M G p3 p5 p6 b9 root nx : Nat} {lent : Bool} {lai : List (Nat × Value)} {k : ByteArray} {r : Nat} {st : St} (h : Bun W X t M G p3 p5 p6 b9 root nx lent lai k r st) (hb : Below X.heap.size X Y) : Bun W Y t M G p3 p5 p6 b9 root nx lent lai k r st := by
  have lt : ∀ {b : Nat} {o : Obj}, X.heap[b]? = some o → b < X.heap.size := fun h => (Array.getElem?_eq_some_iff.1 h).1
  exact ⟨h.tree.on hb h.tree.cells.2.2, h.map.keep (hb.block _ h.map.lt), h.gone.keep (hb.block _ h.gone.lt), (hb.block _ (lt h.b3)).trans h.b3, (hb.block _ (lt h.b5)).trans h.b5, (hb.block _ (lt h.b6)).trans h.b6, (hb.block _ (lt h.b9)).trans h.b9, h.only.trans (Only.of_below hb)⟩

/-- a new number has been taken -/
theorem Bun.take {W X Y : World} {t M G p3 p5 p6 b9 root nx nx' : Nat} {lent : Bool} {lai : List (Nat × Value)} {k : ByteArray} {r : Nat} {st : St} (h : Bun W X t M G p3 p5 p6 b9 root nx lent lai k r st) (hT : IsT Y t (some M) (some G) root nx' lent) (ho : Only (fun b => b = t) X Y)
    (d : p3 ≠ t ∧ p5 ≠ t ∧ p6 ≠ t ∧ b9 ≠ t) : Bun W Y t M G p3 p5 p6 b9 root nx' lent lai k r st := by
  have lt : ∀ {b : Nat} {o : Obj}, X.heap[b]? = some o → b < X.heap.size := fun h => (Array.getElem?_eq_some_iff.1 h).1
  exact ⟨hT, h.map.keep (ho.block _ h.map.lt fun e => by subst e; exact h.map.no_cells h.tree), h.gone.keep (ho.block _ h.gone.lt fun e => by subst e; exact h.gone.no_cells h.tree), (ho.block _ (lt h.b3) d.1).trans h.b3, (ho.block _ (lt h.b5) d.2.1).trans h.b5, (ho.block _ (lt h.b6) d.2.2.1).trans h.b6, (ho.block _ (lt h.b9) d.2.2.2).trans h.b9, h.only.trans (ho.mono fun b _ e => .inl (.inl e))⟩

/-- a node has been laid -/
theorem Bun.lay {W X Y : World} {t M G p3 p5 p6 b9 root nx : Nat} {lent : Bool} {lai lai' : List (Nat × Value)} {k : ByteArray} {r : Nat} {st : St} (h : Bun W X t M G p3 p5 p6 b9 root nx lent lai k r st) (hT : IsT Y t (some M) (some G) root nx lent) (hM : OwnU Y M VNo lai') (hG : OwnU Y G VGo ([] : List (Nat × Unit))) (ho : Only (fun b => b = M ∨ b = G) X Y) :
    Bun W Y t M G p3 p5 p6 b9 root nx lent lai' k r st := by
  have nb : ∀ {b : Nat} {cs : Array Value} {T : TypeId} {q : Nat × Nat}, X.heap[b]? = some (.cells cs T q) → Y.heap[b]? = some (.cells cs T q) := fun {b cs T q} hb => by
    refine (ho.block b (Array.getElem?_eq_some_iff.1 hb).1 ?_).trans hb
    rintro (rfl | rfl)
    · exact h.map.no_cells hb
    · exact h.gone.no_cells hb
  exact ⟨hT, hM, hG, nb h.b3, nb h.b5, nb h.b6, nb h.b9, h.only.trans (ho.mono fun b _ e => .inl (.inr e))⟩

/-- a region that can't panic -/
theorem then_false {P : Program} {c : Code} {K : Act → World → Prop} {Q : Exit → Act → World → Prop} {a : Act} {w : World} (h : c.wp P (Exit.then K (fun _ _ _ => False)) a w) : c.wp P (Exit.then K Q) a w := wp_mono h (by
  intro e a w h
  cases e with
  | normal => exact h
  | _ => exact h.elim)

theorem last_false {P : Program} {c : Code} {Q : Exit → Act → World → Prop} {a : Act} {w : World} (h : c.wp P (Exit.then (Q Exit.normal) (fun _ _ _ => False)) a w) : c.wp P Q a w := wp_mono h (by
  intro e a w h
  cases e with
  | normal => exact h
  | _ => exact h.elim)

theorem IsT.setRoot {w : World} {t : Nat} {laid gone : Option Nat} {root next : Nat} {lent : Bool} (h : IsT w t laid gone root next lent) (m : Nat) : IsT (w.setCell ⟨t, 3, none⟩ (.int .u64 (m : Int))) t laid gone m next lent := by
  unfold IsT at h ⊢
  simp [World.setCell, Array.getElem?_modify, h]

/-- a new root's number has been laid -/
def Rooted (t : Nat) (M G : Nat) (lent : Bool) (nx : Nat) (wc wx : World) : Prop := IsT wx t (some M) (some G) nx (nx + 1) lent ∧ Only (fun b => b = t) wc wx

theorem one_far {X : World} {b p : Nat} {o : Obj} (h : X.heap[b]? = some o) (hne : b ≠ p) (v : Value) : (X.setCell ⟨p, 0, none⟩ v).heap[b]? = some o := (Below.heap_setCell X ⟨p, 0, none⟩ v b hne).trans h

/-- the key and the node that go up have been noted -/
theorem Bun.store {W X : World} {t M G p3 p5 p6 b9 root nx : Nat} {lent : Bool} {lai : List (Nat × Value)} {k : ByteArray} {r : Nat} {st : St} (h : Bun W X t M G p3 p5 p6 b9 root nx lent lai k r st) (d : p3 ≠ p5 ∧ p3 ≠ p6 ∧ p5 ≠ p6 ∧ b9 ≠ p5 ∧ b9 ≠ p6 ∧ t ≠ p5 ∧ t ≠ p6) (mk : ByteArray) (r' : Nat) :
    Bun W ((X.setCell ⟨p5, 0, none⟩ (.string mk)).setCell ⟨p6, 0, none⟩ (.int .u64 (r' : Int))) t M G p3 p5 p6 b9 root nx lent lai mk r' st := by
  obtain ⟨d1, d2, d3, d4, d5, d6, d7⟩ := d
  have hM5 : M ≠ p5 := fun e => by subst e; exact h.map.no_cells h.b5
  have hM6 : M ≠ p6 := fun e => by subst e; exact h.map.no_cells h.b6
  have hG5 : G ≠ p5 := fun e => by subst e; exact h.gone.no_cells h.b5
  have hG6 : G ≠ p6 := fun e => by subst e; exact h.gone.no_cells h.b6
  have h5 : (X.setCell ⟨p5, 0, none⟩ (.string mk)).heap[p5]? = some (.cells #[.string mk] 9 (0, 0)) := by
    have := h.b5
    simp [World.setCell, Array.getElem?_modify, this]
  have h6 : (X.setCell ⟨p5, 0, none⟩ (.string mk)).heap[p6]? = some (.cells #[.int .u64 (r : Int)] 26 (0, 0)) := one_far h.b6 (fun e => d3 e.symm) _
  have h6' : ((X.setCell ⟨p5, 0, none⟩ (.string mk)).setCell ⟨p6, 0, none⟩ (.int .u64 (r' : Int))).heap[p6]? = some (.cells #[.int .u64 (r' : Int)] 26 (0, 0)) := by
    have e : ∀ Y : World, Y.heap[p6]? = some (.cells #[.int .u64 (r : Int)] 26 (0, 0)) → (Y.setCell ⟨p6, 0, none⟩ (.int .u64 (r' : Int))).heap[p6]? = some (.cells #[.int .u64 (r' : Int)] 26 (0, 0)) := fun Y hY => by
      simp [World.setCell, Array.getElem?_modify, hY]
    exact e _ h6
  have hm : ∀ b, b ≠ p5 → b ≠ p6 → ((X.setCell ⟨p5, 0, none⟩ (.string mk)).setCell ⟨p6, 0, none⟩ (.int .u64 (r' : Int))).heap[b]? = X.heap[b]? := fun b e1 e2 => (Below.heap_setCell _ ⟨p6, 0, none⟩ _ b e2).trans (Below.heap_setCell _ ⟨p5, 0, none⟩ _ b e1)
  exact ⟨(hm t d6 d7).trans h.tree, h.map.keep (hm M hM5 hM6), h.gone.keep (hm G hG5 hG6), (hm p3 d1 d2).trans h.b3, one_far h5 d3 _, h6', (hm b9 d4 d5).trans h.b9, (h.only.setCell (p := ⟨p5, 0, none⟩) (.inl (.inr (.inl rfl))) _).setCell (p := ⟨p6, 0, none⟩) (.inl (.inr (.inr rfl))) _⟩

theorem NodeAt.two {w : World} {bad : Nat → Prop} {A A' : Option Addr} {n c n' c' : Nat} {ks : List ByteArray} {ids : List Nat} (h : NodeAt w bad A n c A' n' c' ks ids) {p5 p6 : Nat} (h5 : bad p5) (h6 : bad p6) (u v : Value) : NodeAt ((w.setCell ⟨p5, 0, none⟩ u).setCell ⟨p6, 0, none⟩ v) bad A n c A' n' c' ks ids :=
  h.only (ok := fun b => b = p5 ∨ b = p6) (((Only.refl _ w).setCell (p := ⟨p5, 0, none⟩) (.inl (.inl rfl)) u).setCell (p := ⟨p6, 0, none⟩) (.inl (.inr rfl)) v) (by rintro b (rfl | rfl); exact h5; exact h6)

theorem Two.only {w w' : World} {ok : Nat → Prop} {g : Nat} {a b : Value} (h : Two w g a b) (ho : Only ok w w') (hn : ¬ ok g) : Two w' g a b := (ho.block g h.cells.2.2 hn).trans h

/-- what comes of put -/
def PutEnd (w : World) (t M G : Nat) (lent : Bool) (R : B ByteArray × Nat) (e : Ending) (w' : World) : Prop :=
  e = .returned (.tuple #[]) ∧ ∃ laid, Done w w' t M G R.1.id lent laid R.2 ∧ Whole (Laid w' (badT t M G) laid) R.2 R.1.nodes

theorem goodZ_drop {K : Type} {z : List (Fr K)} (h : GoodZ z) (j : Nat) : GoodZ (z.drop j) := fun f hf => h f (List.mem_of_mem_drop hf)

theorem linked_drop {K : Type} : ∀ (j : Nat) (z : List (Fr K)) (h : Nat), Linked z h → ∀ f0 z', z.drop j = f0 :: z' → Linked z' f0.id
  | 0, z, h, hl, f0, z', e => by rw [List.drop_zero] at e; rw [e] at hl; exact hl.2
  | j + 1, [], h, hl, f0, z', e => by simp at e
  | j + 1, g :: z, h, hl, f0, z', e => linked_drop j z g.id hl.2 f0 z' (by simpa using e)

theorem wayFs {w : World} {bad : Nat → Prop} {laid : List (Nat × Value)} {next : Nat} {T c : B ByteArray} {z : List (Fr ByteArray)} {k : ByteArray} {fs : List (Fr ByteArray)} (hi : Inv w bad laid next T) (hp : plug z c = T) (hz : GoodZ z) (hl : Linked z c.id) (hk : ∀ f ∈ z, f.at_ = placeK ltS k f.keys ∧ k ∉ f.keys)
    (hfs : (⟨c.id, c.keys, [], placeK ltS k c.keys⟩ :: z : List (Fr ByteArray)) = fs) : WayFs fs next T.id := by
  subst hfs
  have hroot : topId z c.id = T.id := by rw [← hp, plug_id]
  refine ⟨fun f hf => ?_, fun j => by rw [List.drop_succ_cons]; exact goodZ_drop hz j, fun j f0 z' e => ?_⟩
  · rcases List.mem_cons.1 hf with rfl | hf
    · obtain ⟨hL, -, -, -, -, -, h1, h2⟩ := way_node hi hp hz hk
      exact ⟨⟨.inl rfl, placeK_le _ _ _⟩, hL.1.1, hL.1.2.1, h1, h2⟩
    · obtain ⟨h1, h2⟩ := hz f hf
      obtain ⟨x, hx, e1, e2⟩ := ctx_frame z c.id f hf
      have hin : x ∈ T.nodes := by rw [← hp]; exact (nodes_plug z hz c).mem_iff.2 (List.mem_append_right _ hx)
      have hL := hi.nodes x hin
      have hlow := hi.low x hin
      rw [e1] at hlow
      have hk1 := hL.1.1; have hk2 := hL.1.2.1
      rw [e2] at hk1 hk2
      exact ⟨⟨.inr h1, by omega⟩, hk1, hk2, hlow.1, hlow.2⟩
  · cases j with
    | zero =>
      rw [List.drop_zero] at e
      cases e
      exact ⟨hroot, hl⟩
    | succ j =>
      rw [List.drop_succ_cons] at e
      exact ⟨by rw [topId_drop j z c.id f0 z' e]; exact hroot, linked_drop j z c.id hl f0 z' e⟩

set_option maxHeartbeats 4000000 in
set_option maxRecDepth 100000 in
theorem put_c {w : World} {t M G next g cap m : Nat} {lent : Bool} {laid : List (Nat × Value)} {T c : B ByteArray} {z : List (Fr ByteArray)} {l : List St} {k : ByteArray} (d : B ByteArray)
    (h : IsT w t (some M) (some G) T.id next lent) (hM : OwnU w M VNo laid) (hG : OwnU w G VGo ([] : List (Nat × Unit))) (hlow : ∀ p ∈ laid, p.1 < next) (hi : Inv w (badT t M G) laid next T) (hst : StAt w g l.reverse) (hg : ¬ badT t M G g)
    (hp : plug z c = T) (hc : c.kids = []) (hz : GoodZ z) (hl : Linked z c.id) (hk : ∀ f ∈ z, f.at_ = placeK ltS k f.keys ∧ k ∉ f.keys) (hs : Steps w (badT t M G) l (⟨c.id, c.keys, [], placeK ltS k c.keys⟩ :: z)) (hne : M ≠ G) (h1 : 1 ≤ next) (hn : next < 500000) (hm : l.length = m) (hll : m ≤ 62) :
    Calls Try.prog 20 #[.pointer (some ⟨t, 0, none⟩), .slice (some ⟨g, 0, none⟩) m cap, .string k] w (PutEnd w t M G lent (up 4 2 z ⟨c.id, c.keys, [], placeK ltS k c.keys⟩ k d next)) := by
  obtain ⟨R, hR⟩ : ∃ R, up 4 2 z ⟨c.id, c.keys, [], placeK ltS k c.keys⟩ k d next = R := ⟨_, rfl⟩
  rw [hR]
  obtain ⟨fs, hfs⟩ : ∃ fs, (⟨c.id, c.keys, [], placeK ltS k c.keys⟩ :: z : List (Fr ByteArray)) = fs := ⟨_, rfl⟩
  rw [hfs] at hs
  have hF : WayFs fs next T.id := wayFs hi hp hz hl hk hfs
  have hm1 : 1 ≤ m := by rw [← hm, hs.len, ← hfs]; simp
  -- the last step is a leaf
  obtain ⟨s0, hs0⟩ : ∃ s, l[0]? = some s := ⟨_, List.getElem?_eq_getElem (by omega)⟩
  obtain ⟨f0, hf0, hsf0⟩ := hs.get 0 s0 hs0
  have hn0 : s0.n' = 0 := by
    rw [hsf0.rows.hn']
    rw [← hfs] at hf0
    simp at hf0
    subst hf0
    rfl
  obtain ⟨m1, hm1'⟩ : ∃ m1, m = m1 + 1 := ⟨m - 1, by omega⟩
  obtain ⟨o, ho⟩ : ∃ o, m1 * 4 = o := ⟨_, rfl⟩
  obtain ⟨W0, hW0⟩ : ∃ W0, w.alloc (.cells #[.pointer (some ⟨t, 0, none⟩)] 24) = W0 := ⟨_, rfl⟩
  obtain ⟨W1, hW1⟩ : ∃ W1, W0.alloc (.cells #[.string k] 9) = W1 := ⟨_, rfl⟩
  obtain ⟨W2, hW2⟩ : ∃ W2, W1.alloc (.cells #[.int .u64 0] 26) = W2 := ⟨_, rfl⟩
  have hb0 : Below w.heap.size w W0 := hW0 ▸ (Below.refl _ _).alloc (Nat.le_refl _) _
  have hb01 : Below W0.heap.size W0 W1 := hW1 ▸ (Below.refl _ _).alloc (Nat.le_refl _) _
  have hb12 : Below W1.heap.size W1 W2 := hW2 ▸ (Below.refl _ _).alloc (Nat.le_refl _) _
  have hz0 : W0.heap.size = w.heap.size + 1 := by rw [← hW0]; simp
  have hz1 : W1.heap.size = w.heap.size + 2 := by rw [← hW1, World.size_alloc, hz0]
  have hz2 : W2.heap.size = w.heap.size + 3 := by rw [← hW2, World.size_alloc, hz1]
  have hb02 := hb01.trans (hb12.mono hb01.size)
  have hb2 : Below w.heap.size w W2 := hb0.trans (hb02.mono hb0.size)
  have hx3 : W2.heap[w.heap.size]? = some (.cells #[.pointer (some ⟨t, 0, none⟩)] 24 (0, 0)) := (hb02.block _ (by omega)).trans (hW0 ▸ heap_alloc_new w _)
  have hx5 : W2.heap[W0.heap.size]? = some (.cells #[.string k] 9 (0, 0)) := (hb12.block _ (by omega)).trans (hW1 ▸ heap_alloc_new W0 _)
  have hx6 : W2.heap[W1.heap.size]? = some (.cells #[.int .u64 ((0 : Nat) : Int)] 26 (0, 0)) := hW2 ▸ heap_alloc_new W1 _
  have hwk : Wk w W2 t M G w.heap.size W0.heap.size W1.heap.size T.id lent laid next k 0 :=
    ⟨h.on hb2 h.cells.2.2, hM.keep (hb2.block _ hM.lt), hG.keep (hb2.block _ hG.lt), hx3, hx5, hx6, hlow, Only.of_below hb2, h1, by decide⟩
  obtain ⟨c0, c1, c2, c3⟩ := (hst.on hb2).four (i := m1) (s := s0) (by rw [List.getElem?_reverse (by omega), hm]; rw [show m - 1 - m1 = 0 by omega]; exact hs0) ho
  have hsub : (m : Int) - 1 = (m1 : Int) := by omega
  have hmi : (m1 : Int) < (m : Int) := by omega
  have hm0 : (0 : Int) < (m : Int) := by omega
  have HWK := Lib.hid hwk; have HST := Lib.hid (hst.on hb2); have HB2 := Lib.hid hb2; have HS : Hid (Steps w (badP t M G W0.heap.size W1.heap.size) l fs) := Lib.hid (hs.wide (fun b hb => by rcases hb with hb | rfl | rfl; exact .inl hb; exact .inr (by omega); exact .inr (by omega))); have HI := Lib.hid hi; have HN0 := Lib.hid hn0
  have HI0 : Hid (M < w.heap.size ∧ G < w.heap.size ∧ t < w.heap.size ∧ g < w.heap.size) := Lib.hid ⟨hM.lt, hG.lt, h.cells.2.2, hst.1⟩
  have HZ := Lib.hid (And.intro hz0 (And.intro hz1 hz2)); have HR := Lib.hid hR; have HFS := Lib.hid hfs; have HF := Lib.hid hF; have HM := Lib.hid hm
  clear hF hwk hst hb2 hs hi hn0 hz0 hz1 hz2 hR hfs hm hm1' h hM hG hlow hb0 hb01 hb12 hb02 hx3 hx5 hx6 hs0 hf0 hsf0
  refine (callsIn_wide (n := 5)).1 ?_
  refine callsIn_of_wp_marks Try.func20 rfl trivial ?_ rfl
  simp only [Try.ntmps20, List.size_toArray, List.length_cons, List.length_nil, Nat.reduceAdd, Nat.reduceSub, Array.replicate_succ, Array.replicate_zero, List.push_toArray, List.append_toArray, List.nil_append, List.cons_append]
  gi_wp2
  refine ⟨trivial, ((callsIn_wide (n := 4)).2 (leaf_c s0.A s0.A' s0.n s0.c s0.n' s0.c' W2)).mono ?_⟩
  rintro e W4 ⟨rfl, hb4⟩
  rw [HN0.out]
  obtain ⟨W5, hW5⟩ : ∃ W5, W4.alloc (.cells #[.slice (some ⟨g, 0, none⟩) m cap] 51) = W5 := ⟨_, rfl⟩
  have HB4 := Lib.hid hb4; have HW5 := Lib.hid hW5
  clear hb4 hW5
  gi_wp2
  refine ⟨trivial, ((callsIn_wide (n := 4)).2 (backward_c (some ⟨g, 0, none⟩) m cap W4)).mono ?_⟩
  rintro e W5' ⟨rfl, e5⟩
  rw [HW5.out] at e5
  subst e5
  gi_wp2
  have hw5 : W4.alloc (.cells #[.slice (some ⟨g, 0, none⟩) m cap] 51) = W5' := HW5.out
  have hb24 := HB4.out
  have hb45 : Below W4.heap.size W4 W5' := hw5 ▸ (Below.refl _ _).alloc (Nat.le_refl _) _
  have hbox : W5'.heap[W4.heap.size]? = some (.cells #[.slice (some ⟨g, 0, none⟩) m cap] 51 (0, 0)) := hw5 ▸ heap_alloc_new W4 _
  have hbx : W5'.cell? ⟨W4.heap.size, 0, none⟩ = some (.slice (some ⟨g, 0, none⟩) m cap) := by rw [cell_of_row _ _ _ _ _ _ hbox]; rfl
  have hb25 := hb24.trans (hb45.mono hb24.size)
  have hbl : W4.heap.size < W5'.heap.size := (Array.getElem?_eq_some_iff.1 hbox).1
  have hwk5 : Wk w W5' t M G w.heap.size W0.heap.size W1.heap.size T.id lent laid next k 0 := by
    have q := HWK.out
    have hq := q.tree.cells.2.2
    have q3 := (Array.getElem?_eq_some_iff.1 q.b3).1; have q5 := (Array.getElem?_eq_some_iff.1 q.b5).1; have q6 := (Array.getElem?_eq_some_iff.1 q.b6).1
    exact ⟨q.tree.on hb25 hq, q.map.keep (hb25.block _ q.map.lt), q.gone.keep (hb25.block _ q.gone.lt), (hb25.block _ q3).trans q.b3, (hb25.block _ q5).trans q.b5, (hb25.block _ q6).trans q.b6, q.low, q.only.trans (Only.of_below hb25), q.one, q.rlt⟩
  have hgw : g < W2.heap.size := HST.out.1
  have hlen : (l.reverse).length = m := by rw [List.length_reverse]; exact HM.out
  obtain ⟨sv, hsv⟩ : ∃ sv : Fin m → St, ∀ i : Fin m, l.reverse[i.val]? = some (sv i) := ⟨fun i => l.reverse[i.val]'(by rw [hlen]; exact i.isLt), fun i => List.getElem?_eq_getElem _⟩
  have HSV := Lib.hid hsv
  have hMl : M < w.heap.size := HI0.out.1
  have hGl : G < w.heap.size := HI0.out.2.1
  have htl : t < w.heap.size := HI0.out.2.2.1
  have hws : w.heap.size ≤ W5'.heap.size := by have := HB2.out.size; have := hb25.size; omega
  refine wpIn_rangeFunc_ownH rfl (by decide) (gf := 51) (lb := #[.pointer (some ⟨W4.heap.size, 0, none⟩)]) rfl trivial (enters_of Try.func51 (by kernel_rfl) rfl)
    (backward_stops sv hsv W4.heap.size g cap (some ⟨g, 0, none⟩) W5' hbl hbx (fun _ => ⟨rfl, HST.out.on hb25⟩) (by omega))
    (fun h k => h.trans k) ?keep (Below.refl _ _) (fun _ => rfl)
    (PutI w t M G w.heap.size W0.heap.size W1.heap.size T.id lent next R fs m) (PutX w t M G W0.heap.size W1.heap.size T.id lent R m) (putI_own _ _ _ _ _ _ _ _ _ _ _ _ _ _ hws (by omega) (by omega)) (fun c => putX_own _ _ _ _ _ _ _ _ _ _ _ hws (by omega) (by omega) c) ?init
    (fun x a' W => ∃ b9, (w.heap.size ≤ b9 ∧ b9 ≠ w.heap.size ∧ b9 ≠ W0.heap.size ∧ b9 ≠ W1.heap.size) ∧ a' = { tmps := #[.pointer (some ⟨t, 0, none⟩), .slice (some ⟨g, 0, none⟩) m cap, .string k, .pointer (some ⟨w.heap.size, 0, none⟩), undef, .pointer (some ⟨W0.heap.size, 0, none⟩), .pointer (some ⟨W1.heap.size, 0, none⟩), .int .i64 (m : Int), undef, .pointer (some ⟨b9, 0, none⟩), undef, undef, undef, undef, undef, .slice (some ⟨g, 0, none⟩) m cap, .int .i64 (m : Int), .int .i64 (m : Int), .bool true, .bool true, .slice (some ⟨g, 0, none⟩) m cap, .int .i64 (m : Int), .int .i64 (m1 : Int), .pointer (some ⟨g, o, none⟩), .pointer (some ⟨g, o + 1, none⟩), .agg #[.slice s0.A s0.n s0.c, .slice s0.A' 0 s0.c'], .bool true, .bool false, .bool false, undef, undef, .slice (some ⟨g, 0, none⟩) m cap, .func (.func 51) #[] #[.pointer (some ⟨W4.heap.size, 0, none⟩)], .int .i64 (x.val : Int), (sv x).val, undef, undef, undef, undef, undef, undef, undef, undef, undef, undef, undef, undef, undef, undef, undef, undef, undef, undef, undef, undef, undef, undef, undef, undef, undef, undef, undef, undef, undef, undef, undef, undef, undef, undef, undef, undef, undef, undef, undef, undef, undef, undef, undef, undef, undef, undef, undef, undef, undef, undef, undef, undef, undef, undef, undef, undef, undef, undef, undef, undef, undef], defers := [] } ∧ W.heap[b9]? = some (.cells #[.int .u64 ((sv x).id : Int), .slice (sv x).A (sv x).n (sv x).c, .slice (sv x).A' (sv x).n' (sv x).c', .int .i64 ((sv x).at_ : Int)] 65 (0, 0)))
    ?axown ?assign ?body ?done ?stop
  case keep =>
    intro W la ob ob' hla hob hc _
    refine ⟨by simp, fun b hb hlt => World.putObj_heap_other ?_⟩
    rcases hb with rfl | rfl
    · omega
    · have := hb25.size; omega
  case init =>
    refine ⟨laid, next, k, 0, hwk5, Nat.le_refl _, by simp, fun _ => ⟨fun f0 z' e => ?_, fun e => ?_⟩⟩
    · rw [List.length_nil, List.drop_zero, ← HFS.out] at e
      cases e
      have hI := HI.out
      refine ⟨_, d, rfl, rfl, rfl, rfl, pend_start hz hc ⟨fun x hx => ?_, by rw [hp]; exact hI.nodup, fun i hi => ?_⟩ d, HR.out, fun h => absurd rfl h⟩
      · exact ((hI.nodes x (by rw [← hp]; exact hx)).wide (fun b hb => by have := HZ.out; rcases hb with hb | rfl | rfl; exact .inl hb; exact .inr (by omega); exact .inr (by omega))).on (HB2.out.trans (hb25.mono HB2.out.size))
      · obtain ⟨x, hx, rfl⟩ := List.mem_map.1 hi
        exact hI.low x (by rw [← hp]; exact hx)
    · rw [List.length_nil, List.drop_zero, ← HFS.out] at e
      cases e
  case axown =>
    rintro x a' u W W' row ⟨b9, h1, h2, h3⟩ hg hr
    exact ⟨b9, h1, h2, cells_stay h3 hg (fun r e => (hr r e).2)⟩
  case assign =>
    intro la pre x W K hI hK
    have hg' : W.grownBy (W.alloc (.cells #[.int .u64 ((sv x).id : Int), .slice (sv x).A (sv x).n (sv x).c, .slice (sv x).A' (sv x).n' (sv x).c', .int .i64 ((sv x).at_ : Int)] 65)) none := World.grownBy_alloc W _ none
    have hI' := putI_own w t M G w.heap.size W0.heap.size W1.heap.size T.id lent next R fs m W5'.heap.size hws (by omega) (by omega) pre W _ none hI hg' (fun r e => by cases e)
    obtain ⟨lai, nx, k', r, hwk, -⟩ := hI
    have q3 := (Array.getElem?_eq_some_iff.1 hwk.b3).1; have q5 := (Array.getElem?_eq_some_iff.1 hwk.b5).1; have q6 := (Array.getElem?_eq_some_iff.1 hwk.b6).1
    have HK := Lib.hid (hK { tmps := #[.pointer (some ⟨t, 0, none⟩), .slice (some ⟨g, 0, none⟩) m cap, .string k, .pointer (some ⟨w.heap.size, 0, none⟩), undef, .pointer (some ⟨W0.heap.size, 0, none⟩), .pointer (some ⟨W1.heap.size, 0, none⟩), .int .i64 (m : Int), undef, .pointer (some ⟨W.heap.size, 0, none⟩), undef, undef, undef, undef, undef, .slice (some ⟨g, 0, none⟩) m cap, .int .i64 (m : Int), .int .i64 (m : Int), .bool true, .bool true, .slice (some ⟨g, 0, none⟩) m cap, .int .i64 (m : Int), .int .i64 (m1 : Int), .pointer (some ⟨g, o, none⟩), .pointer (some ⟨g, o + 1, none⟩), .agg #[.slice s0.A s0.n s0.c, .slice s0.A' 0 s0.c'], .bool true, .bool false, .bool false, undef, undef, .slice (some ⟨g, 0, none⟩) m cap, .func (.func 51) #[] #[.pointer (some ⟨W4.heap.size, 0, none⟩)], .int .i64 (x.val : Int), (sv x).val, undef, undef, undef, undef, undef, undef, undef, undef, undef, undef, undef, undef, undef, undef, undef, undef, undef, undef, undef, undef, undef, undef, undef, undef, undef, undef, undef, undef, undef, undef, undef, undef, undef, undef, undef, undef, undef, undef, undef, undef, undef, undef, undef, undef, undef, undef, undef, undef, undef, undef, undef, undef, undef, undef, undef, undef, undef, undef, undef, undef, undef], defers := [] } _ (KeepsFrom.of_grownBy hg' (fun j e => by cases e)) ⟨hg'.size, fun b _ hb => hg'.block b hb (by simp)⟩ hI' ⟨W.heap.size, ⟨by omega, by omega, by omega, by omega⟩, rfl, heap_alloc_new W _⟩)
    clear hI' hg' hK q3 q5 q6 hwk
    simp only [St.val]
    gi_wp2
    exact HK.out
  case body =>
    rintro la pre x a' W hla _ ⟨lai, nx, k', r, hwk, hnx, hnx2, hstr⟩ ⟨b9, hb9, rfl, hbox9⟩ hlen'
    have hxlt := x.isLt
    obtain ⟨f0, hf0, hsf⟩ := HS.out.get (m - 1 - x.val) (sv x) (by
      have := HSV.out x
      rw [List.getElem?_reverse (by rw [HM.out]; exact hxlt), HM.out] at this
      exact this)
    obtain ⟨s, hsx⟩ : ∃ s, sv x = s := ⟨_, rfl⟩
    simp only [hsx] at hsf hbox9 ⊢
    clear hsx
    obtain ⟨sid, sA, sn, sc, sA', sn', sc', sat⟩ := s
    obtain ⟨e1, e2, hrow⟩ := hsf
    simp only at e1 e2 hrow hbox9
    subst e1 e2
    have hfm := HF.out.1 f0 (List.mem_of_getElem? hf0)
    have HRW : Hid (NodeAt W (badP t M G W0.heap.size W1.heap.size) sA sn sc sA' sn' sc' f0.keys (f0.kids.map B.id)) := Lib.hid (hrow.only hwk.only (fun _ h => .inl h))
    have hkk : f0.kids.map B.id = [] ∨ (f0.kids.map B.id).length = f0.keys.length + 1 := by
      rcases hfm.1.1 with h | h
      · left; rw [h]; rfl
      · right; rw [List.length_map]; exact h
    have hsz := hwk.only.size
    have q3 := (Array.getElem?_eq_some_iff.1 hwk.b3).1; have q5 := (Array.getElem?_eq_some_iff.1 hwk.b5).1; have q6 := (Array.getElem?_eq_some_iff.1 hwk.b6).1
    have htM : t < W.heap.size ∧ M < W.heap.size ∧ G < W.heap.size ∧ W0.heap.size < W.heap.size ∧ W1.heap.size < W.heap.size := by omega
    have HBUN : Hid (Bun W W t M G w.heap.size W0.heap.size W1.heap.size b9 T.id nx lent lai k' r ⟨f0.id, sA, sn, sc, sA', sn', sc', f0.at_⟩) := Lib.hid ⟨hwk.tree, hwk.map, hwk.gone, hwk.b3, hwk.b5, hwk.b6, hbox9, Only.refl _ _⟩
    clear q3
    have hrk := (hwk.b5); have hrr := hwk.b6; have hrt := hwk.b3
    have HC1 := Lib.hid (with_n HRW.out (fun b hb => by rcases hb with (rfl | rfl | rfl) | rfl | rfl <;> omega) k' r hfm.1.2 (by omega) hkk)
    have v5 : W.cell? ⟨W0.heap.size, 0, none⟩ = some (.string k') := by rw [cell_of_row _ _ _ _ _ _ hrk]; rfl
    have v6 : W.cell? ⟨W1.heap.size, 0, none⟩ = some (.int .u64 (r : Int)) := by rw [cell_of_row _ _ _ _ _ _ hrr]; rfl
    have u1 : W.cell? ⟨b9, 1, none⟩ = some (.slice sA sn sc) := by rw [cell_of_row _ _ _ _ _ _ hbox9]; rfl
    have u2 : W.cell? ⟨b9, 2, none⟩ = some (.slice sA' sn' sc') := by rw [cell_of_row _ _ _ _ _ _ hbox9]; rfl
    have u3 : W.cell? ⟨b9, 3, none⟩ = some (.int .i64 (f0.at_ : Int)) := by rw [cell_of_row _ _ _ _ _ _ hbox9]; rfl
    have HWK := Lib.hid hwk; have HNX := Lib.hid (And.intro hnx hnx2); have HSTR := Lib.hid hstr; have HF0 := Lib.hid hf0; have HFM := Lib.hid hfm; have HKK := Lib.hid hkk; have HB9 := Lib.hid hb9; have HBOX := Lib.hid hbox9; have HTM := Lib.hid htM; have HLA := Lib.hid hla; have HPL := Lib.hid hlen'
    clear hwk hnx hnx2 hstr hf0 hfm hkk hb9 hbox9 htM hrk hrr hrt hrow hsz hla hlen'
    gi_wp2
    refine ⟨trivial, (CallsIn.inRound la ((callsIn_wide (n := 2)).2 HC1.out)).mono ?_⟩
    rintro e w1 ⟨A1, n1, c1', A2, n2, c2', rfl, hN, hb1⟩
    obtain ⟨Wn, hWn⟩ : ∃ Wn, w1.alloc (.cells #[.slice A1 n1 c1', .slice A2 n2 c2'] 60) = Wn := ⟨_, rfl⟩
    have hb1n : Below w1.heap.size w1 Wn := hWn ▸ (Below.refl _ _).alloc (Nat.le_refl _) _
    have hbn := hb1.trans (hb1n.mono hb1.size)
    have htw : Two Wn w1.heap.size (.slice A1 n1 c1') (.slice A2 n2 c2') := hWn ▸ heap_alloc_new w1 _
    have hbun := HBUN.out.on hbn
    obtain ⟨⟨z0, z1⟩, -, -⟩ := htw.cells
    have v3 : Wn.cell? ⟨w.heap.size, 0, none⟩ = some (.pointer (some ⟨t, 0, none⟩)) := by rw [cell_of_row _ _ _ _ _ _ hbun.b3]; rfl
    have u0 : Wn.cell? ⟨b9, 0, none⟩ = some (.int .u64 (f0.id : Int)) := by rw [cell_of_row _ _ _ _ _ _ hbun.b9]; rfl
    have HNN := Lib.hid (hN.on hb1n); have HBN := Lib.hid hbun; have HBE := Lib.hid hbn; have HTW := Lib.hid htw
    have hks : (ksUp f0 k').length = n1 := hN.hn.symm
    have HKS := Lib.hid hks
    have hlai : lai.length ≤ 1000000 := by
      have h1 := risU_len HWK.out.map.ris HWK.out.low
      have h2 := HNX.out.2
      have h3 := HPL.out
      omega
    have hidl : f0.id < 18446744073709551616 := by have := HFM.out.2.2.2.2; omega
    have HLAI := Lib.hid hlai; have HIDL := Lib.hid hidl
    clear hN hb1 hb1n hbn htw hbun v5 v6 u1 u2 u3 hks hlai hidl
    by_cases h4 : n1 ≤ 4
    · have h4d : (n1 : Int) ≤ 4 := by omega
      have HC2 := Lib.hid (lay_c HBN.out.tree HBN.out.map HBN.out.gone hne HLAI.out HIDL.out A1 A2 n1 c1' n2 c2')
      have H4 := Lib.hid h4
      clear h4
      gi_wp2
      refine ⟨trivial, (CallsIn.inRound la ((callsIn_wide (n := 2)).2 HC2.out)).mono ?_⟩
      rintro e w4 ⟨rfl, k1, k2, k3, kO⟩
      gi_wp2
      have hO : Only (badT t M G) W w4 := (Only.of_below HBE.out).trans (kO.mono fun b _ e => .inr e)
      exact ⟨hO.keeps (fun b hb => by rcases hb with rfl | rfl | rfl <;> omega),
        put_fit HWK.out HSTR.out HF.out x HF0.out (HNN.out.only kO (fun b e => .inl (.inr e))) (by rw [HKS.out]; exact H4.out) HNX.out.1 k1 k2 k3 hO⟩
    · have h4d : ¬ (n1 : Int) ≤ 4 := by omega
      have h5 : (ksUp f0 k').length = 5 := by have := ksUp_len (k := k') HFM.out.1; have := HFM.out.2.2.1; have := HKS.out; omega
      have HC2 := Lib.hid (halves_n HNN.out h5 (by have h7 := idsUp_len HFM.out.1 r; have h6 := ksUp_len (k := k') HFM.out.1; unfold ksUp at h6; rw [h6]; exact h7))
      have H5 := Lib.hid h5
      clear h4 h5
      gi_wp2
      refine ⟨trivial, (CallsIn.inRound la ((callsIn_wide (n := 2)).2 HC2.out)).mono ?_⟩
      rintro e w3 ⟨L1, l1, d1, L2, l2, d2, mk, L3, l3, d3, L4, l4, d4, rfl, hmk, hNl, hNr, hb3⟩
      obtain ⟨Wp, hWp⟩ : ∃ Wp, (w3.alloc (.cells #[.slice L1 l1 d1, .slice L2 l2 d2] 60)).alloc (.cells #[.slice L3 l3 d3, .slice L4 l4 d4] 60) = Wp := ⟨_, rfl⟩
      have hb34 : Below w3.heap.size w3 (w3.alloc (.cells #[.slice L1 l1 d1, .slice L2 l2 d2] 60)) := (Below.refl _ _).alloc (Nat.le_refl _) _
      have hb4p : Below (w3.alloc (.cells #[.slice L1 l1 d1, .slice L2 l2 d2] 60)).heap.size (w3.alloc (.cells #[.slice L1 l1 d1, .slice L2 l2 d2] 60)) Wp := hWp ▸ (Below.refl _ _).alloc (Nat.le_refl _) _
      have hb3p := hb34.trans (hb4p.mono hb34.size)
      have htl : Two Wp w3.heap.size (.slice L1 l1 d1) (.slice L2 l2 d2) := Two.on (heap_alloc_new w3 _) hb4p (by simp)
      have htr : Two Wp (w3.heap.size + 1) (.slice L3 l3 d3) (.slice L4 l4 d4) := by
        have := heap_alloc_new (w3.alloc (.cells #[.slice L1 l1 d1, .slice L2 l2 d2] 60)) (.cells #[.slice L3 l3 d3, .slice L4 l4 d4] 60)
        rw [World.size_alloc] at this
        exact hWp ▸ this
      have hbun := (HBN.out.on hb3).on hb3p
      have v3 : Wp.cell? ⟨w.heap.size, 0, none⟩ = some (.pointer (some ⟨t, 0, none⟩)) := by rw [cell_of_row _ _ _ _ _ _ hbun.b3]; rfl
      have hnxl : nx < 1000000 := by have h2 := HNX.out.2; have h3 := HPL.out; omega
      have HC3 := Lib.hid (take_c hbun.tree (by have := HWK.out.one; omega) hnxl)
      have HNL := Lib.hid (hNl.on hb3p); have HNR := Lib.hid (hNr.on hb3p); have HBP := Lib.hid hbun; have HTL := Lib.hid htl; have HTR := Lib.hid htr; have HMK := Lib.hid hmk; have HNXL := Lib.hid hnxl
      have HW3 : Hid (Wp.heap.size = w3.heap.size + 2) := Lib.hid (by rw [← hWp]; simp); have HW3S : Hid (W.heap.size ≤ w3.heap.size) := Lib.hid (Nat.le_trans HBE.out.size hb3.size); have HBE3 := Lib.hid (HBE.out.trans ((hb3.trans (hb3p.mono hb3.size)).mono HBE.out.size))
      clear hNl hNr hb3 hb34 hb4p hb3p hbun htl htr hmk hnxl z0 z1 u0
      gi_wp2
      refine ⟨trivial, (CallsIn.inRound la ((callsIn_wide (n := 2)).2 HC3.out)).mono ?_⟩
      rintro e w5 ⟨rfl, hT5, hO5⟩
      have hb9' := HB9.out
      have hzz := HZ.out
      have hBp := HBP.out
      have hbun5 := hBp.take hT5 hO5 ⟨by omega, by omega, by omega, by omega⟩
      have y5 : w5.cell? ⟨W0.heap.size, 0, none⟩ = some (.string k') := by rw [cell_of_row _ _ _ _ _ _ hbun5.b5]; rfl
      have y6 : w5.cell? ⟨W1.heap.size, 0, none⟩ = some (.int .u64 (r : Int)) := by rw [cell_of_row _ _ _ _ _ _ hbun5.b6]; rfl
      have yf5 : w5.frozen? ⟨W0.heap.size, 0, none⟩ = false := by simp [World.frozen?, hbun5.b5]
      have yf6 : w5.frozen? ⟨W1.heap.size, 0, none⟩ = false := by simp [World.frozen?, hbun5.b6]
      have hbq := hbun5.store ⟨by omega, by omega, by omega, by omega, by omega, by omega, by omega⟩ mk nx
      have hw3 := HW3S.out
      have hp5l := HTM.out.2.2.2.1
      have hp6l := HTM.out.2.2.2.2
      have htl5 : Two w5 w3.heap.size _ _ := HTL.out.only hO5 (fun e => by omega)
      have htr5 : Two w5 (w3.heap.size + 1) _ _ := HTR.out.only hO5 (fun e => by omega)
      have htlq := (htl5.far (p := ⟨W0.heap.size, 0, none⟩) (fun e => by simp at e; omega) (.string mk)).far (p := ⟨W1.heap.size, 0, none⟩) (fun e => by simp at e; omega) (.int .u64 (nx : Int))
      have htrq := (htr5.far (p := ⟨W0.heap.size, 0, none⟩) (fun e => by simp at e; omega) (.string mk)).far (p := ⟨W1.heap.size, 0, none⟩) (fun e => by simp at e; omega) (.int .u64 (nx : Int))
      have hNLq := (HNL.out.only hO5 (fun b e => .inl (.inl e))).two (p5 := W0.heap.size) (p6 := W1.heap.size) (.inr (.inl rfl)) (.inr (.inr rfl)) (.string mk) (.int .u64 (nx : Int))
      have hNRq := (HNR.out.only hO5 (fun b e => .inl (.inl e))).two (p5 := W0.heap.size) (p6 := W1.heap.size) (.inr (.inl rfl)) (.inr (.inr rfl)) (.string mk) (.int .u64 (nx : Int))
      obtain ⟨Wq, hWq⟩ : ∃ Wq, (w5.setCell ⟨W0.heap.size, 0, none⟩ (.string mk)).setCell ⟨W1.heap.size, 0, none⟩ (.int .u64 (nx : Int)) = Wq := ⟨_, rfl⟩
      rw [hWq] at hbq htlq htrq hNLq hNRq
      have HC4 := Lib.hid (lay_c hbq.tree hbq.map hbq.gone hne HLAI.out HIDL.out L1 L2 l1 d1 l2 d2)
      have v3 : Wq.cell? ⟨w.heap.size, 0, none⟩ = some (.pointer (some ⟨t, 0, none⟩)) := by rw [cell_of_row _ _ _ _ _ _ hbq.b3]; rfl
      have u0 : Wq.cell? ⟨b9, 0, none⟩ = some (.int .u64 (f0.id : Int)) := by rw [cell_of_row _ _ _ _ _ _ hbq.b9]; rfl
      obtain ⟨⟨z0, z1⟩, -, -⟩ := htlq.cells
      have HBQ := Lib.hid hbq; have HTRQ := Lib.hid htrq; have HNLQ := Lib.hid hNLq; have HNRQ := Lib.hid hNRq; have HW3' := Lib.hid hw3
      have ne1 : ¬ (W1.heap.size = W0.heap.size) := by omega
      have ne2 : ¬ (W0.heap.size = W1.heap.size) := by omega
      clear hT5 hO5 hb9' hzz hBp hbun5 hbq hw3 hp5l hp6l htl5 htr5 htlq htrq hNLq hNRq
      gi_wp2
      refine ⟨trivial, (CallsIn.inRound la ((callsIn_wide (n := 2)).2 HC4.out)).mono ?_⟩
      rintro e w6 ⟨rfl, hT6, hM6, hG6, hO6⟩
      have hbun6 := HBQ.out.lay hT6 hM6 hG6 hO6
      have nocell : ∀ b, (∃ a a', Two Wq b a a') → ¬ (b = M ∨ b = G) := by
        rintro b ⟨a, a', hb⟩ (rfl | rfl)
        · exact HBQ.out.map.no_cells hb
        · exact HBQ.out.gone.no_cells hb
      have htr6 := HTRQ.out.only hO6 (nocell _ ⟨_, _, HTRQ.out⟩)
      have hNL6 := HNLQ.out.only hO6 (fun b e => .inl (.inr e))
      have hNR6 := HNRQ.out.only hO6 (fun b e => .inl (.inr e))
      have hlai2 : (putU f0.id (.agg #[.slice L1 l1 d1, .slice L2 l2 d2]) lai).length ≤ 1000000 := by
        have h1 := putU_len (a := f0.id) (s := Value.agg #[.slice L1 l1 d1, .slice L2 l2 d2]) (l := lai)
        have h2 := risU_len HWK.out.map.ris HWK.out.low
        have h3 := HNX.out.2
        have h4 := HPL.out
        omega
      have HC5 := Lib.hid (lay_c hbun6.tree hbun6.map hbun6.gone hne hlai2 (id := nx) (by have := HNXL.out; omega) L3 L4 l3 d3 l4 d4)
      have v3 : w6.cell? ⟨w.heap.size, 0, none⟩ = some (.pointer (some ⟨t, 0, none⟩)) := by rw [cell_of_row _ _ _ _ _ _ hbun6.b3]; rfl
      have v6 : w6.cell? ⟨W1.heap.size, 0, none⟩ = some (.int .u64 (nx : Int)) := by rw [cell_of_row _ _ _ _ _ _ hbun6.b6]; rfl
      obtain ⟨⟨z0, z1⟩, -, -⟩ := htr6.cells
      have HBU6 := Lib.hid hbun6; have HNL6 := Lib.hid hNL6; have HNR6 := Lib.hid hNR6
      clear hT6 hM6 hG6 hO6 hbun6 nocell htr6 hNL6 hNR6 hlai2
      gi_wp2
      refine ⟨trivial, (CallsIn.inRound la ((callsIn_wide (n := 2)).2 HC5.out)).mono ?_⟩
      rintro e w7 ⟨rfl, hT7, hM7, hG7, hO7⟩
      have hbun7 := HBU6.out.lay hT7 hM7 hG7 hO7
      gi_wp2
      have hO := hbun7.only
      have hgs := HI0.out
      have hzz := HZ.out
      refine ⟨hO.keeps (fun b hb => ?_), ⟨hO.size, fun b hb hlt => hO.block b hlt ?_⟩,
        put_cut HWK.out HSTR.out HF.out x HF0.out (HNL6.out.only hO7 (fun b e => .inl (.inr e))) (HNR6.out.only hO7 (fun b e => .inl (.inr e))) H5.out HMK.out HNX.out.1 HNX.out.2 HNXL.out hbun7.tree hbun7.map hbun7.gone hO (by omega) (by omega) hbun7.b3 hbun7.b5 hbun7.b6⟩
      · have h24 := HB4.out.size
        rcases hb with (rfl | rfl | rfl) | rfl | rfl <;> omega
      · have h24 := HB4.out.size
        rcases hb with rfl | rfl
        · rintro ((e | e | e) | e | e) <;> omega
        · rintro (e | e | e)
          · exact hg e
          · omega
          · omega
  case done =>
    rintro D xs W hD ⟨hdw, hxl⟩ ⟨lai, nx, k', r, hwk, hnx, hnx2, hstr⟩ hK
    have hfl : fs.drop xs.length = [] := by rw [hxl, ← HM.out, HS.out.len]; simp
    obtain ⟨lt, rt, e1, e2, hWh, hRR⟩ := (hstr hdw).2 hfl
    obtain ⟨Wa, hWa⟩ : ∃ Wa, W.alloc (.cells #[.string k'] 9) = Wa := ⟨_, rfl⟩
    obtain ⟨Wb, hWb⟩ : ∃ Wb, Wa.alloc (.cells #[.slice (some ⟨W.heap.size, 0, none⟩) 1 1, .slice none 0 0] 60) = Wb := ⟨_, rfl⟩
    have hba : Below W.heap.size W Wa := hWa ▸ (Below.refl _ _).alloc (Nat.le_refl _) _
    have hbab : Below Wa.heap.size Wa Wb := hWb ▸ (Below.refl _ _).alloc (Nat.le_refl _) _
    have hbb := hba.trans (hbab.mono hba.size)
    have hza : Wa.heap.size = W.heap.size + 1 := by rw [← hWa]; simp
    have hrow : Wb.heap[W.heap.size]? = some (.cells #[.string k'] 9 (0, 0)) := (hbab.block _ (by omega)).trans (hWa ▸ heap_alloc_new W _)
    have htw : Two Wb Wa.heap.size (.slice (some ⟨W.heap.size, 0, none⟩) 1 1) (.slice none 0 0) := hWb ▸ heap_alloc_new Wa _
    have lt' : ∀ {b : Nat} {o : Obj}, W.heap[b]? = some o → b < W.heap.size := fun h => (Array.getElem?_eq_some_iff.1 h).1
    have hwb : Wk w Wb t M G w.heap.size W0.heap.size W1.heap.size T.id lent lai nx k' r := ⟨hwk.tree.on hbb hwk.tree.cells.2.2, hwk.map.keep (hbb.block _ hwk.map.lt), hwk.gone.keep (hbb.block _ hwk.gone.lt), (hbb.block _ (lt' hwk.b3)).trans hwk.b3, (hbb.block _ (lt' hwk.b5)).trans hwk.b5, (hbb.block _ (lt' hwk.b6)).trans hwk.b6, hwk.low, hwk.only.trans (Only.of_below hbb), hwk.one, hwk.rlt⟩
    have x5 : W.cell? ⟨W0.heap.size, 0, none⟩ = some (.string k') := by rw [cell_of_row _ _ _ _ _ _ hwk.b5]; rfl
    have v3 : Wb.cell? ⟨w.heap.size, 0, none⟩ = some (.pointer (some ⟨t, 0, none⟩)) := by rw [cell_of_row _ _ _ _ _ _ hwb.b3]; rfl
    have v6 : Wb.cell? ⟨W1.heap.size, 0, none⟩ = some (.int .u64 (r : Int)) := by rw [cell_of_row _ _ _ _ _ _ hwb.b6]; rfl
    obtain ⟨⟨-, -, -, t3, -, -⟩, -, -⟩ := hwb.tree.cells
    obtain ⟨⟨z0, z1⟩, zf, -⟩ := htw.cells
    have zf1 := zf 1
    have hroot : ¬ ((T.id : Int) = 0) := by have := (HI.out.low _ (node_mem T)).1; omega
    have hroot2 : ((T.id : Int) == 0) = false := by simpa using hroot
    have hroot3 : ((T.id : Int) != 0) = true := by simpa using hroot
    have HWB := Lib.hid hwb; have HROW := Lib.hid hrow; have HTW := Lib.hid htw; have HWH := Lib.hid hWh; have HRR := Lib.hid hRR; have HE1 := Lib.hid e1; have HE2 := Lib.hid e2; have HBB := Lib.hid hbb; have HKD := Lib.hid hK; have HZA := Lib.hid hza
    have HNX := Lib.hid (And.intro hnx hnx2); have HXL := Lib.hid hxl; have HDL : Hid (w.heap.size < W.heap.size ∧ W0.heap.size < W.heap.size ∧ W1.heap.size < W.heap.size) := Lib.hid ⟨lt' hwk.b3, lt' hwk.b5, lt' hwk.b6⟩
    have zA : ∀ ob, (Wb.alloc ob).cell? ⟨Wa.heap.size, 1, none⟩ = some (.slice none 0 0) := fun ob => by
      obtain ⟨⟨-, h⟩, -, -⟩ := (htw.on ((Below.refl _ Wb).alloc (Nat.le_refl _) ob) htw.cells.2.2).cells; exact h
    have zB : ∀ ob, (Wb.alloc ob).frozen? ⟨Wa.heap.size, 1, none⟩ = false := fun ob => by
      obtain ⟨-, h, -⟩ := (htw.on ((Below.refl _ Wb).alloc (Nat.le_refl _) ob) htw.cells.2.2).cells; exact h 1
    obtain ⟨Wk2, hWk2⟩ : ∃ Wk2, Wb.alloc (.cells #[.int .u64 (T.id : Int), .int .u64 (r : Int)] 26) = Wk2 := ⟨_, rfl⟩
    have hbk : Below Wb.heap.size Wb Wk2 := hWk2 ▸ (Below.refl _ _).alloc (Nat.le_refl _) _
    have hkid : Wk2.heap[Wb.heap.size]? = some (.cells #[.int .u64 (T.id : Int), .int .u64 (r : Int)] 26 (0, 0)) := hWk2 ▸ heap_alloc_new Wb _
    have HKID := Lib.hid hkid; have HBK := Lib.hid hbk; have HWK2 := Lib.hid hWk2
    rw [← hWb] at v3 v6 t3 z0 z1 zf1
    have HWb := Lib.hid hWb
    clear hdw hxl hwk hnx hnx2 hstr hK hfl e1 e2 hWh hRR hba hbab hbb hza hrow htw hwb zf hWb hbk hkid hWk2
    gi_wp2
    rw [HWb.out] at v3 v6 t3 z0 z1 zf1 ⊢
    refine wpIn_wide.2 (then_false ?_)
    have mixed : Try.prog.follows Departure.mixedOrders = true := by kernel_rfl
    go_cut [14] from 77 to 83 (fun x wx => x = .pointer (some ⟨Wa.heap.size, 0, none⟩) ∧ wx = ((Wb.alloc (.cells #[.int .u64 (T.id : Int), .int .u64 (r : Int)] 26)).setCell ⟨Wa.heap.size, 1, none⟩ (.slice (some ⟨Wb.heap.size, 0, none⟩) 2 2)).drew)
    case first =>
      go_region_law_o (fail)
      all_goals
        go_wp2_with fail
        go_meet
        exact ⟨rfl, rfl⟩
    case rest =>
      obtain ⟨rfl, hwc⟩ := hcut
      rename World => wz
      have hbk := HBK.out
      have hk2 := HWK2.out
      rw [hk2] at hwc
      have hwb := HWB.out
      have hzb : Wb.heap.size = W.heap.size + 2 := by rw [← HWb.out, World.size_alloc, HZA.out]
      have hzw : w.heap.size ≤ W.heap.size := by have := hwb.only.size; have := HBB.out.size; have := HI0.out; have h2 := HB2.out.size; have h3 := (Array.getElem?_eq_some_iff.1 HKD.out).1; omega
      have hza := HZA.out
      have hm : ∀ b, b ≠ Wa.heap.size → b < Wb.heap.size → wz.heap[b]? = Wb.heap[b]? := fun b hb hlt => by
        rw [hwc]; exact (Below.heap_setCell Wk2 ⟨Wa.heap.size, 1, none⟩ _ b hb).trans (hbk.block b hlt)
      have ho : Only (badT t M G) w wz := by
        rw [hwc]; exact ((hwb.only.trans (Only.of_below hbk)).setCell (p := ⟨Wa.heap.size, 1, none⟩) (.inr (by simp; omega)) _).drew
      have HOW : Hid (Only (badT t M G) W wz) := Lib.hid (by
        rw [hwc]; exact ((Only.of_below (HBB.out.trans (hbk.mono HBB.out.size))).setCell (p := ⟨Wa.heap.size, 1, none⟩) (.inr (by simp; omega)) _).drew)
      have lt' : ∀ {b : Nat} {o : Obj}, W.heap[b]? = some o → b < W.heap.size := fun h => (Array.getElem?_eq_some_iff.1 h).1
      have hDl := lt' HKD.out
      have q3 := hwb.b3
      have h3 : wz.heap[w.heap.size]? = _ := (hm _ (by have := HDL.out; omega) (by have := HDL.out; omega)).trans q3
      have hT : IsT wz t (some M) (some G) T.id nx lent := (hm t (by have := HI0.out; omega) (by have := HI0.out; omega)).trans hwb.tree
      have hMc : OwnU wz M VNo lai := hwb.map.keep (hm M (by have := HI0.out; omega) (by have := HI0.out; omega))
      have hGc : OwnU wz G VGo ([] : List (Nat × Unit)) := hwb.gone.keep (hm G (by have := HI0.out; omega) (by have := HI0.out; omega))
      have hDc : wz.heap[D]? = some (.deferred (some [])) := (hm D (by omega) (by omega)).trans ((HBB.out.block D hDl).trans HKD.out)
      have hTc : Two wz Wa.heap.size (.slice (some ⟨W.heap.size, 0, none⟩) 1 1) (.slice (some ⟨Wb.heap.size, 0, none⟩) 2 2) := by
        rw [hwc]; exact (HTW.out.on hbk HTW.out.cells.2.2).set1 _
      have hrow : wz.heap[W.heap.size]? = some (.cells #[.string k'] 9 (0, 0)) := (hm _ (by omega) (by omega)).trans HROW.out
      have hkid : wz.heap[Wb.heap.size]? = some (.cells #[.int .u64 (T.id : Int), .int .u64 (r : Int)] 26 (0, 0)) := by
        rw [hwc]; exact (Below.heap_setCell Wk2 ⟨Wa.heap.size, 1, none⟩ _ _ (by simp; omega)).trans HKID.out
      have hlW : W.heap.size < wz.heap.size := (Array.getElem?_eq_some_iff.1 hrow).1
      have hlB : Wb.heap.size < wz.heap.size := (Array.getElem?_eq_some_iff.1 hkid).1
      have hnode : NodeAt wz (badT t M G) (some ⟨W.heap.size, 0, none⟩) 1 1 (some ⟨Wb.heap.size, 0, none⟩) 2 2 [k'] [T.id, r] := by
        refine ⟨fun i s hi => ?_, fun i s hi => ?_, rfl, rfl, (fun e => by cases e), (fun e => by cases e), Nat.le_refl _, Nat.le_refl _, fun _ => ⟨_, _, rfl, ?_⟩, fun _ => ⟨_, _, rfl, ?_⟩⟩
        · have : i = 0 := by have := (List.getElem?_eq_some_iff.1 hi).1; simp at this; exact this
          subst this
          simp at hi; subst hi
          exact ⟨_, _, rfl, hlW, by rw [cell_of_row _ _ _ _ _ _ hrow]; rfl⟩
        · have hi2 : i < 2 := by have := (List.getElem?_eq_some_iff.1 hi).1; simpa using this
          refine ⟨_, _, rfl, hlB, ?_⟩
          rw [cell_of_row _ _ _ _ _ _ hkid]
          rcases i with _ | _ | i
          · simp at hi; subst hi; rfl
          · simp at hi; subst hi; rfl
          · omega
        · rintro (e | e | e) <;> (have := HI0.out; omega)
        · rintro (e | e | e) <;> (have := HI0.out; omega)
      have v3 : wz.cell? ⟨w.heap.size, 0, none⟩ = some (.pointer (some ⟨t, 0, none⟩)) := by rw [cell_of_row _ _ _ _ _ _ h3]; rfl
      have hone := hwb.one
      have hnx9 : nx < 1000000 := by have := HNX.out.2; have := HXL.out; omega
      have HC := Lib.hid (take_c (w := wz.drew) (show IsT wz.drew t (some M) (some G) T.id nx lent from hT) hone hnx9)
      have HT := Lib.hid hT; have HMc := Lib.hid hMc; have HGc := Lib.hid hGc; have HDc := Lib.hid hDc; have HTc := Lib.hid hTc; have HNode := Lib.hid hnode; have HO := Lib.hid ho; have H3 := Lib.hid h3; have HON := Lib.hid hone; have HN9 := Lib.hid hnx9; have HZW := Lib.hid hzw; have HDD := Lib.hid hDl; have HZB := Lib.hid hzb; have HDg : Hid (w.heap.size ≤ D) := Lib.hid (by omega); have HDt : Hid (t < D ∧ M < D ∧ G < D) := Lib.hid (by have := HI0.out; omega)
      clear t3 v6 z0 z1 zf1 zA zB hbk hk2 hwb hzb hzw hza hm ho hDl q3 h3 hT hMc hGc hDc hTc hrow hkid hlW hlB hnode hone hnx9 hwc
      have HLT3 : Hid (w.heap.size < wz.drew.heap.size) := Lib.hid (Array.getElem?_eq_some_iff.1 H3.out).1
      have HNE3 : Hid (¬ (w.heap.size = t)) := Lib.hid (by have := HI0.out; omega)
      clear lt'
      gi_wp2
      refine wpIn_wide.2 (then_false ?_)
      go_cut [14] from 84 to 88 (fun x wx => x = .pointer (some ⟨Wa.heap.size, 0, none⟩) ∧ Rooted t M G lent nx wz wx)
      case first =>
        go_region_with (first
          | (go_at_call 31; (with_reducible refine HC.out.mono ?_); rintro e w9 ⟨rfl, hT9, hO9⟩; obtain ⟨⟨a0, a1, a2, a3, a4, a5⟩, af, -⟩ := hT9.cells; have af3 := af 3; have v39 := (hO9.cell (p := ⟨w.heap.size, 0, none⟩) HLT3.out HNE3.out).trans v3)
          | fail)
        all_goals
          go_wp2_with fail
          go_meet
          exact ⟨rfl, hT9.setRoot nx, (((Only.refl (fun b => b = t) wz).drew).trans hO9).setCell (p := ⟨t, 3, none⟩) (.inl rfl) _⟩
      case rest =>
        obtain ⟨rfl, hT9, hO9⟩ := hcut
        rename World => wx
        have hM9 : OwnU wx M VNo lai := HMc.out.keep (hO9.block M HMc.out.lt fun e => by subst e; exact HMc.out.no_cells HT.out)
        have hG9 : OwnU wx G VGo ([] : List (Nat × Unit)) := HGc.out.keep (hO9.block G HGc.out.lt fun e => by subst e; exact HGc.out.no_cells HT.out)
        have h39 := (hO9.block _ HLT3.out HNE3.out).trans H3.out
        have hzz := HZW.out
        have htl' := HI0.out.2.2.1
        have hza := HZA.out
        have hT9b : Two wx Wa.heap.size _ _ := HTc.out.only hO9 (fun e => by have e : Wa.heap.size = t := e; omega)
        have hN9 := HNode.out.only hO9 (fun b e => .inl e)
        have hD9 : wx.heap[D]? = some (.deferred (some [])) := (hO9.block D (Array.getElem?_eq_some_iff.1 HDc.out).1 (fun e => by have := HDD.out; have e : D = t := e; have := HDt.out; omega)).trans HDc.out
        have v3 : wx.cell? ⟨w.heap.size, 0, none⟩ = some (.pointer (some ⟨t, 0, none⟩)) := by rw [cell_of_row _ _ _ _ _ _ h39]; rfl
        obtain ⟨⟨-, -, -, t3, -, -⟩, -, -⟩ := hT9.cells
        obtain ⟨⟨z0, z1⟩, -, -⟩ := hT9b.cells
        have hlai : lai.length ≤ 1000000 := by
          have h1 := risU_len HMc.out.ris HWB.out.low
          have h2 := HN9.out
          omega
        have HC2 := Lib.hid (lay_c (w := wx.drew) (show IsT wx.drew t (some M) (some G) nx (nx + 1) lent from hT9) (show OwnU wx.drew M VNo lai from hM9.keep rfl) (show OwnU wx.drew G VGo ([] : List (Nat × Unit)) from hG9.keep rfl) hne hlai (id := nx) (by have := HN9.out; omega) (some ⟨W.heap.size, 0, none⟩) (some ⟨Wb.heap.size, 0, none⟩) 1 1 2 2)
        have HO9 := Lib.hid hO9; have HN9' := Lib.hid hN9; have HD9 := Lib.hid hD9; have HM9 := Lib.hid hM9
        clear hT9 hO9 hM9 hG9 h39 hzz htl' hza hT9b hN9 hD9 hlai
        gi_wp2
        refine wpIn_wide.2 (last_false ?_)
        have mixed2 : Try.prog.follows Departure.mixedOrders = true := by kernel_rfl
        refine region_tail 6 mixed2 (by kernel_rfl) ?_
        simp only [List.take_succ_cons, List.take_zero, List.drop_succ_cons, List.drop_zero]
        repeat still_step
        refine wpStill_nil ?_
        go_wp2_with fail
        refine HC2.out.mono ?_
        rintro e w7 ⟨rfl, k1, k2, k3, kO⟩
        go_wp2_with fail
        have hd7 : w7.heap[D]? = some (.deferred (some [])) := (kO.block D (Array.getElem?_eq_some_iff.1 HD9.out).1 (fun e => by have := HDt.out; rcases e with e | e <;> omega)).trans HD9.out
        have ho7 : Only (badT t M G) w w7 := (HO.out.trans (HO9.out.mono fun b _ e => .inl e)).trans (((Only.refl _ wx).drew).trans (kO.mono fun b _ e => .inr e))
        refine ⟨by simp, .inl ⟨_, _, rfl, run_takeDeferred hd7, ?_⟩⟩
        refine ⟨_, results_none rfl _ _ _, rfl, putU nx (.agg #[.slice (some ⟨W.heap.size, 0, none⟩) 1 1, .slice (some ⟨Wb.heap.size, 0, none⟩) 2 2]) lai, ?_⟩
        have hg7 : w7.grownBy (w7.putObj D (.deferred none)) (some D) := grownBy_putObj' w7 D _
        have hn7 : NoCells w7 (some D) := fun r e => by cases e; exact ⟨_, hd7, rfl⟩
        have hdt := HDt.out
        have hnode7 := ((HN9'.out.only ((Only.refl (fun b => b = M ∨ b = G) wx).drew.trans kO) (fun b e => .inr e))).kept hg7 hn7
        have hlaid7 : ∀ y : Nd ByteArray, y.1 ≠ nx → Laid W (badP t M G W0.heap.size W1.heap.size) lai y → Laid (w7.putObj D (.deferred none)) (badT t M G) (putU nx (.agg #[.slice (some ⟨W.heap.size, 0, none⟩) 1 1, .slice (some ⟨Wb.heap.size, 0, none⟩) 2 2]) lai) y := fun y hy hL =>
          ((((((hL.only HOW.out (fun _ h => .inl h)).only HO9.out (fun b e => .inl (.inl e))).only ((Only.refl (fun b => b = M ∨ b = G) wx).drew.trans kO) (fun b e => .inl (.inr e))).kept hg7 hn7)).wide (fun b hb => .inl (.inl hb))).put hy
        rw [HRR.out]
        refine ⟨⟨cells_stay k1 hg7 hn7, k2.keep (hg7.block M k2.lt (by simp; omega)), k3.keep (hg7.block G k3.lt (by simp; omega)), fun p hp => ?_, only_kept ho7 hg7 (fun r e => by cases e; have := HDD.out; have := HZW.out; have := HDg.out; omega)⟩, whole_root HWH.out HON.out hlaid7 ⟨⟨by simp, by simp, .inr rfl⟩, _, _, _, _, _, _, by rw [get_putU, if_pos rfl], ?_⟩⟩
        · rcases mem_putU hp with rfl | hp
          · exact Nat.lt_succ_self _
          · have := HWB.out.low p hp; show p.1 < nx + 1; omega
        · rw [HE1.out, HE2.out]
          exact hnode7
  case stop =>
    rintro D cc pre W hD hSp ⟨rfl, lai, nx, ⟨d1, d2, d3, d4, d5⟩, himp⟩ hK
    have hg7 : W.grownBy (W.putObj D (.deferred none)) (some D) := grownBy_putObj' W D _
    have hn7 : NoCells W (some D) := fun r e => by cases e; exact ⟨_, hK, rfl⟩
    have hD' : w.heap.size ≤ D ∧ M < D ∧ G < D := by omega
    obtain ⟨i1, i2, i3⟩ := himp hSp
    have HDN : Hid (∃ laid, Done w (W.putObj D (.deferred none)) t M G R.1.id lent laid R.2 ∧ Whole (Laid (W.putObj D (.deferred none)) (badT t M G) laid) R.2 R.1.nodes) := Lib.hid (by
      rw [i2, i1]
      exact ⟨lai, ⟨cells_stay d1 hg7 hn7, d2.keep (hg7.block M d2.lt (by simp; omega)), d3.keep (hg7.block G d3.lt (by simp; omega)), d4, only_kept d5 hg7 (fun r e => by cases e; omega)⟩, i3.imp fun y hy => (hy.kept hg7 hn7).wide (fun b hb => .inl (.inl hb))⟩)
    have HKD := Lib.hid hK
    clear hK d1 d2 d3 d4 d5 himp i1 i2 i3 hg7 hn7
    gi_wp2
    refine ⟨by simp, .inl ⟨_, _, rfl, run_takeDeferred HKD.out, ?_⟩⟩
    exact ⟨_, results_none rfl _ _ _, rfl, HDN.out⟩

end Go.Proofs.Ytmhpgbhmhbldfaa
