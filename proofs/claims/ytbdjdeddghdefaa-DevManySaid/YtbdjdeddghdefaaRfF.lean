/- the document's device: what Write lays among the loose sectors; a row of loose sectors of one's own -/
import Derived.Test.YtbdjdeddghdefaaRfE
namespace Go.Proofs.Ytbdjdeddghdefaa
open Go.ChangeShapes Go.WideShapes Go.ChangeAt Go.RowKit

/-- one laid among those that are loose, as the loop goes -/
def wrL (a : Nat) (s : Sec) : Bool → List (Nat × Sec) → List (Nat × Sec)
  | inb, [] => if inb then [] else [(a, s)]
  | inb, x :: r => (if !inb && decide (a ≤ x.1) then [(a, s)] else []) ++ ((if x.1 = a then [] else [x]) ++ wrL a s (inb || decide (a ≤ x.1)) r)

theorem wrL_true (a : Nat) (s : Sec) : ∀ {l : List (Nat × Sec)} (_ : ∀ p ∈ l, a < p.1), wrL a s true l = l
  | [], _ => rfl
  | x :: r, h => by
    have hx := h x (by simp)
    have ih := wrL_true a s (l := r) (fun p hp => h p (by simp [hp]))
    simp only [wrL, Bool.not_true, Bool.false_and, Bool.false_eq_true, if_false, Bool.true_or, List.nil_append]
    rw [if_neg (by omega), ih]; rfl

theorem wrL_put (a : Nat) (s : Sec) : ∀ {l : List (Nat × Sec)} (_ : RisL l), wrL a s false l = putL a s l
  | [], _ => rfl
  | (b, t) :: r, h => by
    obtain ⟨h1, h2⟩ := List.pairwise_cons.1 h
    unfold wrL putL
    by_cases hab : a < b
    · have ht := wrL_true a s (l := r) (fun p hp => by have := h1 p hp; simp only at this; omega)
      rw [if_pos hab, if_neg (show ¬ b = a by omega)]
      have hd : decide (a ≤ b) = true := by simp; omega
      simp only [hd, Bool.not_false, Bool.and_self, Bool.or_true, if_true, ht]
      rfl
    · rw [if_neg hab]
      by_cases he : a = b
      · subst he
        have ht := wrL_true a s (l := r) (fun p hp => h1 p hp)
        have hd : decide (a ≤ a) = true := by simp
        simp only [hd, Bool.not_false, Bool.and_self, Bool.or_true, if_true, ht]
        rfl
      · rw [if_neg he, if_neg (show ¬ b = a by omega)]
        have hd : decide (a ≤ b) = false := by simp; omega
        simp only [hd, Bool.and_false, Bool.or_false, Bool.false_eq_true, if_false, List.nil_append]
        rw [wrL_put a s h2]; rfl

/-- the cells of loose sectors -/
def cellsL : List (Nat × Sec) → List Value
  | [] => []
  | p :: r => .int .i64 (p.1 : Int) :: .string ⟨p.2.toArray⟩ :: cellsL r

theorem cellsL_append : ∀ (l m : List (Nat × Sec)), cellsL (l ++ m) = cellsL l ++ cellsL m
  | [], _ => rfl
  | p :: r, m => by show _ :: _ :: cellsL (r ++ m) = _; rw [cellsL_append r m]; rfl

theorem cellsL_at : ∀ (l : List (Nat × Sec)) (i : Nat) (p : Nat × Sec), l[i]? = some p → (cellsL l)[i * 2]? = some (.int .i64 (p.1 : Int)) ∧ (cellsL l)[i * 2 + 1]? = some (.string ⟨p.2.toArray⟩)
  | [], i, p, h => by simp at h
  | q :: r, 0, p, h => by
    simp only [List.getElem?_cons_zero, Option.some.injEq] at h
    subst h; exact ⟨rfl, rfl⟩
  | q :: r, i + 1, p, h => by
    have ih := cellsL_at r i p (by simpa using h)
    have e : (i + 1) * 2 = i * 2 + 1 + 1 := by omega
    rw [e]
    exact ⟨ih.1, ih.2⟩

theorem info_loose : (Try.prog.info? 103).map (fun i => (i.zero, i.size, i.bytes)) = some (some (.agg #[.int .i64 0, .string ⟨#[]⟩]), 2, 24) := by kernel_rfl

/-- a row of loose sectors of one's own -/
structure OL (w0 : World) (v : Value) (l : List (Nat × Sec)) (w : World) : Prop where
  below : Below w0.heap.size w0 w
  row : w.ownsRow w0.heap.size 103 2 v l.length (cellsL l)

theorem OL.on {w0 w w' : World} {v : Value} {l : List (Nat × Sec)} (h : OL w0 v l w) (hb : Below w.heap.size w w') : OL w0 v l w' := by
  refine ⟨h.below.trans (hb.mono h.below.size), h.row.1, ?_⟩
  rcases h.row.2 with h2 | ⟨g, cap, cur, hv, hbg, hh, r⟩
  · exact .inl h2
  · exact .inr ⟨g, cap, cur, hv, hbg, (hb.block g (Array.getElem?_eq_some_iff.1 hh).1).trans hh, r⟩

theorem OL.none (w : World) : OL w (.slice (some ⟨w.heap.size, 0, Option.none⟩) 0 0) [] (w.alloc (.cells #[] 103)) :=
  ⟨(Below.refl _ w).alloc (Nat.le_refl _) _, World.ownsRow_made w #[] 0 (Nat.le_refl _) (Nat.zero_le _) (by simp)⟩

theorem OL.append {w0 w : World} {v : Value} {l : List (Nat × Sec)} (h : OL w0 v l w) (p : Nat × Sec) (hl : l.length ≤ 200000) (ty : TypeId) :
    ∃ v' w', (Builtin.append_ #[28, 28] ty #[v, .slice (some ⟨w.heap.size, 0, Option.none⟩) 1 1]).run Try.prog (w.alloc (.cells #[.int .i64 (p.1 : Int), .string ⟨p.2.toArray⟩] 103)) = .ok v' w' ∧ OL w0 v' (l ++ [p]) w' ∧ (∀ g, g < w.heap.size → v.ownBlock ≠ some g → w'.heap[g]? = w.heap[g]?) := by
  obtain ⟨i0, hi0, hz0, hz1, hz2⟩ := info_parts info_loose
  have h1 := h.on ((Below.refl _ w).alloc (Nat.le_refl _) (.cells #[.int .i64 (p.1 : Int), .string ⟨p.2.toArray⟩] 103))
  obtain ⟨v', w2, hr, hown, hgr, -⟩ := run_append_own (P := Try.prog) (w.alloc (.cells #[.int .i64 (p.1 : Int), .string ⟨p.2.toArray⟩] 103)) w0.heap.size 28 ty 103 i0 _ 2 24 Try.underlying28 hi0 hz0 hz1 hz2 rfl (by decide) v l.length (cellsL l) h1.row ⟨w.heap.size, 0, Option.none⟩ 1 1 (cellsL [p]) rfl
    (fun j u hu => by
      rw [adr_add, Nat.zero_add, cell_of_row _ _ _ _ _ _ (heap_alloc_last w _), ← Array.getElem?_toList]
      exact hu) (by intro u hu; simp only [cellsL, List.mem_cons, List.not_mem_nil, or_false] at hu; rcases hu with rfl | rfl <;> rfl) (by unfold maxLen; omega) (by omega) h1.below.size
  refine ⟨v', w2, hr, ⟨h1.below.trans ⟨hgr.os, hgr.tape, hgr.output, hgr.size, fun k hk => hgr.block k (Nat.lt_of_lt_of_le hk h1.below.size) (fun e => ?_)⟩, ?_⟩, fun g hg hn => (hgr.block g (by simp; omega) (fun e => hn e.symm)).trans (Below.heap_alloc w _ g hg)⟩
  · rcases h1.row.2 with ⟨e1, -⟩ | ⟨g, cap, cur, hv, hbg, -⟩
    · rw [e1] at e; simp [Value.ownBlock] at e
    · rw [hv] at e; simp [Value.ownBlock] at e; omega
  · rw [List.length_append, cellsL_append]
    exact hown

theorem OL.lt {w0 w : World} {v : Value} {l : List (Nat × Sec)} (h : OL w0 v l w) : v.ownBlock ≠ some w.heap.size := by
  rcases h.row.2 with ⟨e1, -⟩ | ⟨g, cap, cur, hv, hbg, hh, -⟩
  · rw [e1]; simp [Value.ownBlock]
  · rw [hv]; have := (Array.getElem?_eq_some_iff.1 hh).1; simp [Value.ownBlock]; omega

/-- it is seen as what it holds -/
theorem OL.seen {w0 w : World} {v : Value} {l : List (Nat × Sec)} (h : OL w0 v l w) : SeenL w v l := by
  rcases h.row.2 with ⟨e1, e2⟩ | ⟨g, cap, cur, hv, hbg, hh, hnc, -⟩
  · have hl : l = [] := List.eq_nil_of_length_eq_zero e2
    subst hl
    subst e1
    exact ⟨Option.none, 0, rfl, Nat.le_refl _, fun i p hp => by simp at hp⟩
  · refine ⟨_, cap, hv, hnc, fun i p hp => ⟨g, 0, rfl, ?_⟩⟩
    obtain ⟨k0, k1⟩ := cellsL_at l i p hp
    have x0 := h.row.cells (g := g) (by rw [hv]; rfl) _ _ k0
    have x1 := h.row.cells (g := g) (by rw [hv]; rfl) _ _ k1
    rw [adr_add] at x0 x1
    exact ⟨x0, x1⟩

end Go.Proofs.Ytbdjdeddghdefaa
