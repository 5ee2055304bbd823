/- a row of one's own that grows by append: where it lies, what stands in it -/
import Derived.Test.YtaonlbmicjoclaaGetA
import Derived.Test.YtaonlbmicjoclaaRowL
namespace Go.Proofs.Ytaonlbmicjoclaa
open Go.ChangeShapes Go.WideShapes Go.ChangeAt Go.RowKit Go.Fl

/-- behind i rounds: a row of one's own from base on, with these trees -/
def Own (base : Nat) (w : World) (l : List T) (i : Nat) (A : Value) : Prop :=
  ∃ xs, w.ownsRow base 26 6 A i xs ∧ ∀ j (hj : j < l.length), j < i → ∃ v, (∀ k u, v.cells[k]? = some u → k < 6 ∧ xs[j * 6 + k]? = some u) ∧
    RdS w (fun b => base ≤ b ∧ b < w.heap.size ∧ some b ≠ A.ownBlock) l[j] v

theorem Own.nil (base : Nat) (w : World) (l : List T) : Own base w l 0 (.slice none 0 0) :=
  ⟨[], World.ownsRow_nil _ _ _ _, fun _ _ h => absurd h (Nat.not_lt_zero _)⟩

/-- .. kept where blocks are -/
theorem Own.kept {base : Nat} {w w' : World} {l : List T} {i : Nat} {A : Value} (h : Own base w l i A) (hs : w.heap.size ≤ w'.heap.size) (hb : ∀ b, base ≤ b → b < w.heap.size → w'.heap[b]? = w.heap[b]?) : Own base w' l i A := by
  obtain ⟨xs, ⟨hx1, hx2⟩, hp⟩ := h
  refine ⟨xs, ⟨hx1, ?_⟩, fun j hj hji => ?_⟩
  · rcases hx2 with h2 | ⟨g, cap, cur, rfl, hbg, hg, r⟩
    · exact .inl h2
    · exact .inr ⟨g, cap, cur, rfl, hbg, (hb g hbg (Array.getElem?_eq_some_iff.1 hg).1).trans hg, r⟩
  · obtain ⟨v, h1, h2⟩ := hp j hj hji
    exact ⟨v, h1, h2.keepS (fun p hp => World.cell?_of_block (hb _ hp.1 hp.2.1)) (fun b hb => ⟨hb.1, Nat.lt_of_lt_of_le hb.2.1 hs, hb.2.2⟩)⟩

/-- .. one more -/
theorem Own.step {base : Nat} {w w1 : World} {l : List T} {i : Nat} {A A' : Value} {xs news : List Value} {v : Value} (hown : w.ownsRow base 26 6 A i xs)
    (hp : ∀ j (hj : j < l.length), j < i → ∃ v, (∀ k u, v.cells[k]? = some u → k < 6 ∧ xs[j * 6 + k]? = some u) ∧ RdS w (fun b => base ≤ b ∧ b < w.heap.size ∧ some b ≠ A.ownBlock) l[j] v)
    (hi : i < l.length) (hnews : ∀ k u, v.cells[k]? = some u → k < 6 ∧ news[k]? = some u) (hv : RdS w (fun b => base ≤ b ∧ b < w.heap.size ∧ some b ≠ A.ownBlock) l[i] v)
    (hown' : w1.ownsRow base 26 6 A' (i + 1) (xs ++ news)) (hg : w.grownBy w1 A.ownBlock) (hA : A'.ownBlock = A.ownBlock ∨ A'.ownBlock = some w.heap.size) : Own base w1 l (i + 1) A' := by
  have hx := hown.1
  have hsub : ∀ b, (base ≤ b ∧ b < w.heap.size ∧ some b ≠ A.ownBlock) → (base ≤ b ∧ b < w1.heap.size ∧ some b ≠ A'.ownBlock) := by
    rintro b ⟨h1, h2, h3⟩
    refine ⟨h1, Nat.lt_of_lt_of_le h2 hg.size, ?_⟩
    rcases hA with e | e
    · rw [e]; exact h3
    · rw [e]; intro he; cases he; exact absurd h2 (Nat.lt_irrefl _)
  have hk : ∀ p : Addr, (base ≤ p.block ∧ p.block < w.heap.size ∧ some p.block ≠ A.ownBlock) → w1.cell? p = w.cell? p := fun p hp => World.cell?_of_block (hg.block _ hp.2.1 hp.2.2)
  refine ⟨xs ++ news, hown', fun j hj hji => ?_⟩
  by_cases hj' : j < i
  · obtain ⟨v', h1, h2⟩ := hp j hj hj'
    refine ⟨v', fun k u hu => ?_, h2.keepS hk hsub⟩
    obtain ⟨hk6, hu'⟩ := h1 k u hu
    exact ⟨hk6, by rw [List.getElem?_append_left (by omega)]; exact hu'⟩
  · obtain rfl : j = i := by omega
    refine ⟨v, fun k u hu => ?_, hv.keepS hk hsub⟩
    obtain ⟨hk6, hu'⟩ := hnews k u hu
    exact ⟨hk6, by rw [List.getElem?_append_right (by omega), hx, Nat.add_sub_cancel_left]; exact hu'⟩

/-- .. all of them -/
theorem Own.all {base : Nat} {w : World} {l : List T} {p : Option Addr} {c i : Nat} (h : Own base w l i (.slice p i c)) (hi : i = l.length) : l.length ≤ c ∧ c ≤ 9223372036854775807 ∧ (p = none → c = 0) ∧ RdXL w base w.heap.size l p := by
  subst hi
  obtain ⟨xs, hown, hp⟩ := h
  have hlt := hown.lt
  have hcl := fun g hg => hown.cells (g := g) hg
  rcases hown.2 with ⟨h0, hn⟩ | ⟨g, cap, cur, h0, hbg, hg, hnc, hcm, -⟩
  · simp only [Value.slice.injEq] at h0
    obtain ⟨rfl, -, rfl⟩ := h0
    exact ⟨by omega, by omega, fun _ => rfl, fun j hj => absurd hj (by omega)⟩
  · simp only [Value.slice.injEq, true_and] at h0
    obtain ⟨rfl, rfl⟩ := h0
    refine ⟨hnc, by simp only [maxLen] at hcm; omega, (fun h => by cases h), fun j hj => ?_⟩
    obtain ⟨v, h1, h2⟩ := hp j hj hj
    exact ⟨_, v, rfl, hlt g rfl, fun k u hu => hcl g rfl _ _ (h1 k u hu).2, h2.keepS (fun _ _ => rfl) (fun b hb => ⟨hb.1, hb.2.1⟩)⟩

end Go.Proofs.Ytaonlbmicjoclaa
