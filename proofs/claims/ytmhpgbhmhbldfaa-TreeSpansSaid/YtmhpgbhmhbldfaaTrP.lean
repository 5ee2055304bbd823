/- a tree's own cells: New, Root, Next, take -/
import Derived.Test.YtmhpgbhmhbldfaaTrO
namespace Go.Proofs.Ytmhpgbhmhbldfaa
open Go.ChangeShapes Go.WideShapes Go.ChangeAt Go.RowKit

/-- a tree's own cells -/
def IsT (w : World) (t : Nat) (laid gone : Option Nat) (root next : Nat) (lent : Bool) : Prop :=
  w.heap[t]? = some (.cells #[.nilFunc, .map laid, .map gone, .int .u64 (root : Int), .int .u64 (next : Int), .bool lent] 50 (0, 0))

theorem IsT.cells {w : World} {t : Nat} {laid gone : Option Nat} {root next : Nat} {lent : Bool} (h : IsT w t laid gone root next lent) :
    (w.cell? ⟨t, 0, none⟩ = some .nilFunc ∧ w.cell? ⟨t, 1, none⟩ = some (.map laid) ∧ w.cell? ⟨t, 2, none⟩ = some (.map gone) ∧ w.cell? ⟨t, 3, none⟩ = some (.int .u64 (root : Int)) ∧ w.cell? ⟨t, 4, none⟩ = some (.int .u64 (next : Int)) ∧ w.cell? ⟨t, 5, none⟩ = some (.bool lent)) ∧ (∀ i, w.frozen? ⟨t, i, none⟩ = false) ∧ t < w.heap.size := by
  have h' : w.heap[t]? = some (.cells #[.nilFunc, .map laid, .map gone, .int .u64 (root : Int), .int .u64 (next : Int), .bool lent] 50 (0, 0)) := h
  refine ⟨⟨?_, ?_, ?_, ?_, ?_, ?_⟩, fun i => by simp [World.frozen?, h'], (Array.getElem?_eq_some_iff.1 h).1⟩
  all_goals rw [cell_of_row _ _ _ _ _ _ h]; rfl

theorem IsT.on {w w' : World} {t n : Nat} {laid gone : Option Nat} {root next : Nat} {lent : Bool} (h : IsT w t laid gone root next lent) (hb : Below n w w') (ht : t < n) : IsT w' t laid gone root next lent := (hb.block t ht).trans h

theorem new_c (root next : Nat) (w : World) : Calls Try.prog 6 #[.nilFunc, .int .u64 (root : Int), .int .u64 (next : Int)] w fun e w' => e = .returned (.pointer (some ⟨w.heap.size, 0, none⟩)) ∧ IsT w' w.heap.size none none root next false ∧ Below w.heap.size w w' := by
  go_enter Try.func6, Try.ntmps6
  go_wp2_with fail
  go_ret
  exact ⟨rfl, heap_alloc_new w _, (Below.refl _ _).alloc (Nat.le_refl _) _⟩

theorem root_c {w : World} {t : Nat} {laid gone : Option Nat} {root next : Nat} {lent : Bool} (h : IsT w t laid gone root next lent) :
    Calls Try.prog 13 #[.pointer (some ⟨t, 0, none⟩)] w fun e w' => e = .returned (.int .u64 (root : Int)) ∧ Below w.heap.size w w' := by
  obtain ⟨⟨-, -, -, x3, -, -⟩, -, -⟩ := h.cells
  clear h
  go_enter Try.func13, Try.ntmps13
  go_wp2_with fail
  go_ret
  exact ⟨rfl, Below.refl _ _⟩

theorem next_c {w : World} {t : Nat} {laid gone : Option Nat} {root next : Nat} {lent : Bool} (h : IsT w t laid gone root next lent) :
    Calls Try.prog 12 #[.pointer (some ⟨t, 0, none⟩)] w fun e w' => e = .returned (.int .u64 (next : Int)) ∧ Below w.heap.size w w' := by
  obtain ⟨⟨-, -, -, -, x4, -⟩, -, -⟩ := h.cells
  clear h
  go_enter Try.func12, Try.ntmps12
  go_wp2_with fail
  go_ret
  exact ⟨rfl, Below.refl _ _⟩

theorem IsT.setNext {w : World} {t : Nat} {laid gone : Option Nat} {root next : Nat} {lent : Bool} (h : IsT w t laid gone root next lent) (m : Nat) : IsT (w.setCell ⟨t, 4, none⟩ (.int .u64 (m : Int))) t laid gone root m lent := by
  unfold IsT at h ⊢
  simp [World.setCell, Array.getElem?_modify, h]

/-- a new number -/
theorem take_c {w : World} {t : Nat} {laid gone : Option Nat} {root next : Nat} {lent : Bool} (h : IsT w t laid gone root next lent) (h1 : 1 ≤ next) (h2 : next < 1000000) :
    Calls Try.prog 31 #[.pointer (some ⟨t, 0, none⟩)] w fun e w' => e = .returned (.int .u64 (next : Int)) ∧ IsT w' t laid gone root (next + 1) lent ∧ Only (fun k => k = t) w w' := by
  obtain ⟨⟨-, -, -, -, x4, -⟩, xf, xl⟩ := h.cells
  have xf4 := xf 4
  obtain ⟨n1, hn1⟩ : ∃ n1, next + 1 = n1 := ⟨_, rfl⟩
  have hw : IntKind.u64.wrap ((next : Int) + 1) = (n1 : Int) := by rw [IntKind.wrap_u64]; omega
  have hmx : max (next : Int) 1 = (next : Int) := by omega
  have hmx2 : ¬ ((next : Int) < 1) := by omega
  have H := Lib.hid h; have HN := Lib.hid hn1
  clear h hn1 xf h2
  go_enter Try.func31, Try.ntmps31
  go_wp2_with fail
  go_ret
  refine ⟨rfl, ?_, ?_⟩
  · rw [HN.out]; exact H.out.setNext n1
  · exact (Only.refl (fun k => k = t) w).setCell (p := ⟨t, 4, none⟩) (.inl rfl) _

end Go.Proofs.Ytmhpgbhmhbldfaa
