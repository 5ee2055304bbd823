/- parts of rows of keys and of kids -/
import Derived.Test.YtmhpgbhmhbldfaaTrL
namespace Go.Proofs.Ytmhpgbhmhbldfaa
open Go.ChangeShapes Go.WideShapes Go.ChangeAt Go.RowKit

theorem SAt.tail {w : World} {B : Nat} {A : Option Addr} {l : List ByteArray} (h : SAt w B A l) {c i : Nat} (hc : l.length ≤ c) : SAt w B (if c = i then A else A.map (·.add i)) (l.drop i) := by
  intro j s hj
  rw [List.getElem?_drop] at hj
  obtain ⟨b, o, rfl, h1, h2⟩ := h (i + j) s hj
  have := (List.getElem?_eq_some_iff.1 hj).1
  refine ⟨b, o + i, ?_, h1, by rw [Nat.add_assoc]; exact h2⟩
  rw [if_neg (by omega)]
  simp [adr_add]

theorem NAt.tail {w : World} {B : Nat} {A : Option Addr} {l : List Nat} (h : NAt w B A l) {c i : Nat} (hc : l.length ≤ c) : NAt w B (if c = i then A else A.map (·.add i)) (l.drop i) := by
  intro j s hj
  rw [List.getElem?_drop] at hj
  obtain ⟨b, o, rfl, h1, h2⟩ := h (i + j) s hj
  have := (List.getElem?_eq_some_iff.1 hj).1
  refine ⟨b, o + i, ?_, h1, by rw [Nat.add_assoc]; exact h2⟩
  rw [if_neg (by omega)]
  simp [adr_add]

theorem SAt.head {w : World} {B : Nat} {A : Option Addr} {l : List ByteArray} (h : SAt w B A l) (i : Nat) : SAt w B A (l.take i) := by
  intro j s hj
  rw [List.getElem?_take] at hj
  split at hj
  · exact h j s hj
  · cases hj

theorem NAt.head {w : World} {B : Nat} {A : Option Addr} {l : List Nat} (h : NAt w B A l) (i : Nat) : NAt w B A (l.take i) := by
  intro j s hj
  rw [List.getElem?_take] at hj
  split at hj
  · exact h j s hj
  · cases hj

end Go.Proofs.Ytmhpgbhmhbldfaa
