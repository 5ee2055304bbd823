/- a row of values of one's own: what stands in it; append; one value replaced -/
import Derived.Test.YtaonlbmicjoclaaCopy
import Derived.Test.YtaonlbmicjoclaaRowL
namespace Go.Proofs.Ytaonlbmicjoclaa
open Go.ChangeShapes Go.WideShapes Go.ChangeAt Go.RowKit Go.Fl

/-- cells that read as trees, six each -/
def CellsT (w : World) (S : Nat → Prop) (xs : List Value) (l : List T) : Prop :=
  xs.length = l.length * 6 ∧ ∀ j (hj : j < l.length), ∃ v, (∀ k u, v.cells[k]? = some u → k < 6 ∧ xs[j * 6 + k]? = some u) ∧ RdS w S l[j] v

theorem CellsT.nil (w : World) (S : Nat → Prop) : CellsT w S [] [] := ⟨rfl, fun _ h => absurd h (Nat.not_lt_zero _)⟩

theorem CellsT.kept {w w' : World} {S S' : Nat → Prop} {xs : List Value} {l : List T} (h : CellsT w S xs l) (hw : ∀ b, S b → w'.heap[b]? = w.heap[b]?) (hS : ∀ b, S b → S' b) : CellsT w' S' xs l :=
  ⟨h.1, fun j hj => by
    obtain ⟨v, h1, h2⟩ := h.2 j hj
    exact ⟨v, h1, h2.keepS (fun p hp => World.cell?_of_block (hw _ hp)) hS⟩⟩

theorem CellsT.app {w : World} {S : Nat → Prop} {xs ys : List Value} {l q : List T} (h : CellsT w S xs l) (h' : CellsT w S ys q) : CellsT w S (xs ++ ys) (l ++ q) := by
  obtain ⟨hx, h⟩ := h
  obtain ⟨hy, h'⟩ := h'
  refine ⟨by rw [List.length_append, List.length_append, hx, hy]; omega, fun j hj => ?_⟩
  by_cases hl : j < l.length
  · obtain ⟨v, h1, h2⟩ := h j hl
    refine ⟨v, fun k u hu => ?_, by rw [List.getElem_append_left hl]; exact h2⟩
    obtain ⟨hk, hu'⟩ := h1 k u hu
    exact ⟨hk, by rw [List.getElem?_append_left (by omega)]; exact hu'⟩
  · have hj' : j - l.length < q.length := by rw [List.length_append] at hj; omega
    obtain ⟨v, h1, h2⟩ := h' (j - l.length) hj'
    refine ⟨v, fun k u hu => ?_, by rw [List.getElem_append_right (by omega)]; exact h2⟩
    obtain ⟨hk, hu'⟩ := h1 k u hu
    refine ⟨hk, ?_⟩
    rw [List.getElem?_append_right (by omega), hx, ← hu']
    congr 1
    have : (j - l.length) * 6 = j * 6 - l.length * 6 := Nat.sub_mul _ _ _
    omega

theorem RdS.one {w : World} {S : Nat → Prop} {t : T} {c0 c1 c2 c3 c4 c5 : Value} (h : RdS w S t (.agg #[c0, c1, c2, c3, c4, c5])) :
    (Value.agg #[c0, c1, c2, c3, c4, c5]).cells = #[c0, c1, c2, c3, c4, c5] ∧ ∀ u ∈ [c0, c1, c2, c3, c4, c5], u.oneCell' = true := by
  obtain ⟨k, b, n, f, s, l⟩ := t
  obtain ⟨A, cap, e, -⟩ := h.open
  simp only [Value.agg.injEq, Array.mk.injEq, List.cons.injEq, and_true] at e
  obtain ⟨rfl, rfl, rfl, rfl, rfl, rfl⟩ := e
  exact ⟨rfl, by intro u hu; simp only [List.mem_cons, List.not_mem_nil, or_false] at hu; rcases hu with rfl | rfl | rfl | rfl | rfl | rfl <;> rfl⟩

theorem CellsT.one {w : World} {S : Nat → Prop} {t : T} {c0 c1 c2 c3 c4 c5 : Value} (h : RdS w S t (.agg #[c0, c1, c2, c3, c4, c5])) : CellsT w S [c0, c1, c2, c3, c4, c5] [t] := by
  refine ⟨rfl, fun j hj => ?_⟩
  obtain rfl : j = 0 := by simp at hj; omega
  refine ⟨_, fun k u hu => ?_, h⟩
  rw [h.one.1] at hu
  have hk : k < 6 := (Array.getElem?_eq_some_iff.1 hu).1
  exact ⟨hk, by rw [Nat.zero_mul, Nat.zero_add]; simpa using hu⟩

/-- a row of values of one's own, their lists in blocks of the set S -/
def VR (w : World) (base : Nat) (S : Nat → Prop) (A : Value) (l : List T) : Prop :=
  (∀ b, S b → b < w.heap.size ∧ some b ≠ A.ownBlock) ∧ ∃ xs, w.ownsRow base 26 6 A l.length xs ∧ CellsT w S xs l

theorem VR.nil (w : World) (base : Nat) : VR w base (fun b => b < base ∧ b < w.heap.size) (.slice none 0 0) [] :=
  ⟨fun _ h => ⟨h.2, by simp [Value.ownBlock]⟩, [], World.ownsRow_nil _ _ _ _, CellsT.nil _ _⟩

theorem VR.only {w w' : World} {base : Nat} {S : Nat → Prop} {A : Value} {l : List T} (h : VR w base S A l) (hs : w.heap.size ≤ w'.heap.size) (h1 : ∀ b, S b → w'.heap[b]? = w.heap[b]?) (h2 : ∀ g, A.ownBlock = some g → w'.heap[g]? = w.heap[g]?) : VR w' base S A l := by
  obtain ⟨hS, xs, ⟨hx1, hx2⟩, hc⟩ := h
  refine ⟨fun b hb => ⟨Nat.lt_of_lt_of_le (hS b hb).1 hs, (hS b hb).2⟩, xs, ⟨hx1, ?_⟩, hc.kept h1 fun _ h => h⟩
  rcases hx2 with h3 | ⟨g, cap, cur, rfl, hbg, hg, r⟩
  · exact .inl h3
  · exact .inr ⟨g, cap, cur, rfl, hbg, (h2 g rfl).trans hg, r⟩

theorem VR.on {w w' : World} {base : Nat} {S : Nat → Prop} {A : Value} {l : List T} (h : VR w base S A l) (hb : Below w.heap.size w w') : VR w' base S A l :=
  h.only hb.size (fun b hS => hb.block b (h.1 b hS).1) fun g hg => by
    obtain ⟨-, xs, ho, -⟩ := h
    exact hb.block g (ho.lt g hg).2

/-- a wider set -/
theorem VR.wide {w : World} {base : Nat} {S S' : Nat → Prop} {A : Value} {l : List T} (h : VR w base S A l) (hS : ∀ b, S b → S' b) (hS' : ∀ b, S' b → b < w.heap.size ∧ some b ≠ A.ownBlock) : VR w base S' A l := by
  obtain ⟨-, xs, ho, hc⟩ := h
  exact ⟨hS', xs, ho, hc.kept (fun _ _ => rfl) hS⟩

theorem VR.form {w : World} {base : Nat} {S : Nat → Prop} {A : Value} {l : List T} (h : VR w base S A l) : ∃ p c, A = .slice p l.length c ∧ l.length ≤ c ∧ c ≤ 9223372036854775807 ∧ (p = none → c = 0) ∧ RdSL w (fun b => S b ∨ some b = A.ownBlock) l p := by
  obtain ⟨hS, xs, hown, -, hc⟩ := h
  have hcl := fun g hg => hown.cells (g := g) hg
  rcases hown.2 with ⟨rfl, hn⟩ | ⟨g, cap, cur, rfl, hbg, hg, hnc, hcm, -⟩
  · exact ⟨none, 0, by rw [hn], by omega, by omega, fun _ => rfl, fun j hj => absurd hj (by omega)⟩
  · refine ⟨_, cap, rfl, hnc, by simp only [maxLen] at hcm; omega, (fun h => by cases h), fun j hj => ?_⟩
    obtain ⟨v, h1, h2⟩ := hc j hj
    exact ⟨_, v, rfl, .inr rfl, fun k u hu => hcl g rfl _ _ (h1 k u hu).2, h2.keepS (fun _ _ => rfl) fun b hb => .inl hb⟩

theorem VR.list {w : World} {base : Nat} {S : Nat → Prop} {A : Option Addr} {n c : Nat} {l : List T} (h : VR w base S (.slice A n c) l) : n = l.length ∧ l.length ≤ c ∧ c ≤ 9223372036854775807 ∧ (A = none → c = 0) ∧ RdL w w.heap.size l A := by
  obtain ⟨p, c', e, h1, h2, h3, h4⟩ := h.form
  simp only [Value.slice.injEq] at e
  obtain ⟨rfl, rfl, rfl⟩ := e
  refine ⟨rfl, h1, h2, h3, h4.keepS (fun _ _ => rfl) fun b hb => ⟨Nat.zero_le _, ?_⟩⟩
  rcases hb with hb | hb
  · exact (h.1 b hb).1
  · obtain ⟨-, xs, ho, -⟩ := h
    exact (ho.lt b hb.symm).2

/-- more values laid behind -/
theorem VR.app {w : World} {base : Nat} {S S' : Nat → Prop} {A : Value} {l q : List T} (h : VR w base S A l) (hS : ∀ b, S b → S' b) (hS' : ∀ b, S' b → b < w.heap.size ∧ some b ≠ A.ownBlock) {news : List Value} (hn : CellsT w S' news q) (hq : 0 < q.length)
    (h1 : ∀ u ∈ news, u.oneCell' = true) (a : Addr) (c : Nat) (hcell : ∀ j u, news[j]? = some u → w.cell? (a.add j) = some u) (hsm : l.length + q.length ≤ 1954687338211) (hb : base ≤ w.heap.size) (ty : TypeId) :
    ∃ g c' w', (Builtin.append_ #[22, 22] ty #[A, .slice (some a) q.length c]).run Try.prog w = .ok (.slice (some ⟨g, 0, none⟩) (l.length + q.length) c') w' ∧ VR w' base S' (.slice (some ⟨g, 0, none⟩) (l.length + q.length) c') (l ++ q) ∧ w.grownBy w' A.ownBlock ∧
      (some g = A.ownBlock ∨ g = w.heap.size) := by
  obtain ⟨i0, hi0, hz0, hz1, hz2⟩ := info_parts info_value
  obtain ⟨-, xs, hown, hc⟩ := h
  obtain ⟨v', w', hr, ho, hg, hA⟩ := run_append_fresh (P := Try.prog) w base 22 ty 26 i0 _ 6 72 Try.underlying22 hi0 hz0 hz1 hz2 rfl (by decide) A l.length xs hown a q.length c news hn.1 hcell h1 (by unfold maxLen; omega) (by omega) hb hq
  obtain ⟨g, c', rfl⟩ : ∃ g c', v' = .slice (some ⟨g, 0, none⟩) (l.length + q.length) c' := by
    rcases ho.2 with ⟨-, h0⟩ | ⟨g, cap, cur, rfl, -⟩
    · omega
    · exact ⟨g, cap, rfl⟩
  have hg2 : some g = A.ownBlock ∨ g = w.heap.size := by
    rcases hA with e | e
    · exact .inl e
    · exact .inr (by simpa [Value.ownBlock] using e)
  refine ⟨g, c', w', hr, ⟨fun b hb => ⟨Nat.lt_of_lt_of_le (hS' b hb).1 hg.size, ?_⟩, xs ++ news, by rw [List.length_append]; exact ho, ((hc.kept (fun b _ => rfl) hS).app hn).kept (fun b hb => hg.block b (hS' b hb).1 (hS' b hb).2) fun _ h => h⟩, hg, hg2⟩
  rcases hg2 with e | e
  · show some b ≠ some g
    rw [e]; exact (hS' b hb).2
  · show some b ≠ some g
    have := (hS' b hb).1
    rw [e]; intro e2; cases e2; omega

/-- the block of a row that is not empty -/
theorem VR.blk {w : World} {base : Nat} {S : Nat → Prop} {g n c : Nat} {l : List T} (h : VR w base S (.slice (some ⟨g, 0, none⟩) n c) l) : base ≤ g ∧ ∃ cs, Blk w g 26 cs ∧ l.length * 6 ≤ cs.size := by
  obtain ⟨-, xs, hown, -⟩ := h
  rcases hown.2 with ⟨h0, -⟩ | ⟨g', cap, cur, h0, hbg, hg, hnc, -, hcs, -⟩
  · simp at h0
  · simp only [Value.slice.injEq, Option.some.injEq, Addr.mk.injEq, and_true] at h0
    obtain ⟨rfl, -, rfl⟩ := h0
    exact ⟨hbg, cur, hg, by rw [hcs]; exact Nat.mul_le_mul_right _ hnc⟩

/-- one value replaced -/
theorem VR.set_ {w : World} {base : Nat} {S S' : Nat → Prop} {g n c : Nat} {l : List T} (h : VR w base S (.slice (some ⟨g, 0, none⟩) n c) l) (hS : ∀ b, S b → S' b) (hS' : ∀ b, S' b → b < w.heap.size ∧ b ≠ g) {t : T} {c0 c1 c2 c3 c4 c5 : Value}
    (ht : RdS w S' t (.agg #[c0, c1, c2, c3, c4, c5])) (j : Nat) (hj : j < l.length) : VR (set6 w g (j * 6) c0 c1 c2 c3 c4 c5) base S' (.slice (some ⟨g, 0, none⟩) n c) (l.set j t) := by
  obtain ⟨-, xs, hown, hx, hc⟩ := h
  have hk : ∀ b, S' b → (set6 w g (j * 6) c0 c1 c2 c3 c4 c5).heap[b]? = w.heap[b]? := fun b hb => set6_far _ _ _ _ _ _ (hS' b hb).2
  refine ⟨fun b hb => ⟨by rw [set6_size]; exact (hS' b hb).1, by show some b ≠ some g; intro e; cases e; exact (hS' _ hb).2 rfl⟩, ?_⟩
  rcases hown.2 with ⟨h0, -⟩ | ⟨g', cap, cur, h0, hbg, hg, hnc, hcm, hcs, htk⟩
  · simp at h0
  · simp only [Value.slice.injEq, Option.some.injEq, Addr.mk.injEq, and_true] at h0
    obtain ⟨rfl, hnl, rfl⟩ := h0
    have hsz : j * 6 + 6 ≤ cur.size := by rw [hcs]; have := Nat.mul_le_mul_right 6 (show j + 1 ≤ c by omega); omega
    have htl : (put6 cur (j * 6) c0 c1 c2 c3 c4 c5).toList.length = c * 6 := by rw [← hcs, ← put6_size cur (j * 6) c0 c1 c2 c3 c4 c5]; simp
    have hcell : ∀ m, m < l.length * 6 → (put6 cur (j * 6) c0 c1 c2 c3 c4 c5).toList[m]? = (put6 cur (j * 6) c0 c1 c2 c3 c4 c5)[m]? := fun m _ => Array.getElem?_toList ..
    have hold : ∀ m, m < l.length * 6 → xs[m]? = cur[m]? := fun m hm => by rw [← htk, List.getElem?_take, if_pos hm, Array.getElem?_toList]
    refine ⟨(put6 cur (j * 6) c0 c1 c2 c3 c4 c5).toList.take (l.length * 6), ⟨?_, .inr ⟨g, c, put6 cur (j * 6) c0 c1 c2 c3 c4 c5, by rw [hnl, List.length_set], hbg, set6_blk hg c0 c1 c2 c3 c4 c5, by rw [List.length_set]; exact hnc, hcm, by rw [put6_size]; exact hcs, by rw [List.length_set]⟩⟩, ?_, fun i hi => ?_⟩
    · rw [List.length_take, htl, List.length_set]
      exact Nat.min_eq_left (Nat.mul_le_mul_right _ hnc)
    · rw [List.length_take, htl, List.length_set]
      exact Nat.min_eq_left (Nat.mul_le_mul_right _ hnc)
    · rw [List.length_set] at hi
      by_cases hij : i = j
      · subst hij
        refine ⟨_, fun k u hu => ?_, by rw [List.getElem_set_self]; exact ht.keepS (fun p hp => World.cell?_of_block (hk _ hp)) fun _ h => h⟩
        rw [ht.one.1] at hu
        have hk6 : k < 6 := (Array.getElem?_eq_some_iff.1 hu).1
        refine ⟨hk6, ?_⟩
        have hm : i * 6 + k < l.length * 6 := by have := Nat.mul_le_mul_right 6 (show i + 1 ≤ l.length by omega); omega
        rw [List.getElem?_take, if_pos hm, hcell _ hm]
        exact put6_at _ _ _ _ _ _ hsz (by simpa using hu)
      · obtain ⟨v, h1, h2⟩ := hc i hi
        refine ⟨v, fun k u hu => ?_, by rw [List.getElem_set_ne (fun e => hij e.symm)]; exact h2.keepS (fun p hp => World.cell?_of_block (hk _ (hS _ hp))) hS⟩
        obtain ⟨hk6, hu'⟩ := h1 k u hu
        refine ⟨hk6, ?_⟩
        have hm : i * 6 + k < l.length * 6 := by have := Nat.mul_le_mul_right 6 (show i + 1 ≤ l.length by omega); omega
        rw [List.getElem?_take, if_pos hm, hcell _ hm, put6_far _ _ _ _ _ _ (by omega), ← hold _ hm]
        exact hu'

end Go.Proofs.Ytaonlbmicjoclaa
