/- a transaction in memory: what it stands on -/
import Derived.Test.YtkhhmmblkfogcaaSrtV
import Derived.Test.YtkhhmmblkfogcaaClB
namespace Go.Proofs.Ytkhhmmblkfogcaa
open Go.ChangeShapes Go.WideShapes Go.ChangeAt Go.RowKit

/-- a record that is otherwise: its bytes, or that it went -/
structure Ch where
  s : ByteArray
  gone : Bool

/-- as the memory has it -/
def chV (a : Nat) (c : Ch) : Value := .agg #[.int .u64 (a : Int), .string c.s, .bool c.gone]

/-- the text without bytes -/
def noB : ByteArray := ⟨#[]⟩

/-- the cells of a row of records -/
def cellsR : List (Nat × ByteArray) → List Value
  | [] => []
  | r :: t => .int .u64 (r.1 : Int) :: .string r.2 :: cellsR t

theorem cellsR_len : ∀ l : List (Nat × ByteArray), (cellsR l).length = l.length * 2
  | [] => rfl
  | r :: t => by simp only [cellsR, List.length_cons, cellsR_len t]; omega

theorem cellsR_app : ∀ a b : List (Nat × ByteArray), cellsR (a ++ b) = cellsR a ++ cellsR b
  | [], _ => rfl
  | r :: t, b => by simp only [List.cons_append, cellsR, cellsR_app t b]

theorem cellsR_one : ∀ (l : List (Nat × ByteArray)) (u : Value), u ∈ cellsR l → u.oneCell' = true
  | r :: t, u, h => by
    simp only [cellsR, List.mem_cons] at h
    rcases h with rfl | rfl | h
    · rfl
    · rfl
    · exact cellsR_one t u h

theorem cellsR_at : ∀ (l : List (Nat × ByteArray)) (j : Nat) (hj : j < l.length), (cellsR l)[j * 2]? = some (.int .u64 (l[j].1 : Int)) ∧ (cellsR l)[j * 2 + 1]? = some (.string l[j].2)
  | r :: t, 0, _ => ⟨rfl, rfl⟩
  | r :: t, j + 1, hj => by
    have := cellsR_at t j (by simpa using hj)
    rw [show (j + 1) * 2 = j * 2 + 2 by omega]
    simpa [cellsR] using this

/-- a slice of records: what its cells hold -/
def IsRecs (w : World) (v : Value) (l : List (Nat × ByteArray)) : Prop :=
  ∃ A cap, v = .slice A l.length cap ∧ l.length ≤ 4611686018427387904 ∧ (l = [] ∨ ∃ (b : Nat) (cs : Array Value), A = some ⟨b, 0, none⟩ ∧ w.heap[b]? = some (.cells cs 50 (0, 0)) ∧ ∀ (j : Nat) (u : Value), (cellsR l)[j]? = some u → cs[j]? = some u)

theorem IsRecs.keep {w w' : World} {v : Value} {l : List (Nat × ByteArray)} (h : IsRecs w v l) (hb : ∀ (k : Nat) (cs : Array Value), w.heap[k]? = some (Obj.cells cs 50 (0, 0)) → w'.heap[k]? = some (Obj.cells cs 50 (0, 0))) : IsRecs w' v l := by
  obtain ⟨A, cap, h1, h2, h3⟩ := h
  refine ⟨A, cap, h1, h2, ?_⟩
  rcases h3 with h3 | ⟨b, cs, e1, e2, e3⟩
  · exact .inl h3
  · exact .inr ⟨b, cs, e1, hb b cs e2, e3⟩

theorem IsRecs.on {w w' : World} {v : Value} {l : List (Nat × ByteArray)} (h : IsRecs w v l) (hb : Below w.heap.size w w') : IsRecs w' v l :=
  h.keep fun k _ hk => (hb.block k (Array.getElem?_eq_some_iff.1 hk).1).trans hk

/-- a record of a list -/
def findR (l : List (Nat × ByteArray)) (a : Nat) : Option ByteArray := (l.find? fun r => r.1 == a).map (·.2)

theorem findR_some {l : List (Nat × ByteArray)} {a i : Nat} (hi : i < l.length) (hl : ∀ j (hj : j < l.length), j < i → l[j].1 ≠ a) (h : l[i].1 = a) : findR l a = some l[i].2 := by
  obtain ⟨x, hx⟩ : ∃ x, l[i] = x := ⟨_, rfl⟩
  have e : l = l.take i ++ x :: l.drop (i + 1) := by rw [← hx]; simp
  rw [hx] at h ⊢
  unfold findR
  conv => lhs; rw [e]
  rw [List.find?_append, List.find?_eq_none.2 (fun x hx => by
    obtain ⟨t, ht, rfl⟩ := List.getElem_of_mem hx
    rw [List.length_take] at ht
    rw [List.getElem_take]
    simpa using hl t (by omega) (by omega))]
  simp [h]

theorem findR_none {l : List (Nat × ByteArray)} {a : Nat} (hl : ∀ j (hj : j < l.length), l[j].1 ≠ a) : findR l a = none := by
  unfold findR
  rw [List.find?_eq_none.2 (fun x hx => by
    obtain ⟨t, ht, rfl⟩ := List.getElem_of_mem hx
    simpa using hl t ht)]
  rfl

set_option maxRecDepth 100000 in
theorem find_any {w : World} {v : Value} {l : List (Nat × ByteArray)} (h : IsRecs w v l) (a : Nat) :
    Calls Try.prog 24 #[v, .int .u64 (a : Int)] w fun e w' => e = .returned (.tuple #[.string ((findR l a).getD noB), .bool (findR l a).isSome]) ∧ w = w' := by
  obtain ⟨A, cap, rfl, hlen, hx⟩ := h
  have HX := Lib.hid hx
  obtain ⟨n, hn⟩ : ∃ n, l.length = n := ⟨_, rfl⟩
  rw [hn] at hlen ⊢
  have HN := Lib.hid hn
  clear hx hn
  go_enter Try.func24, Try.ntmps24
  go_wp2_with fail
  go_loop [6] (fun vi => ∃ i : Nat, vi = .int .i64 i ∧ i ≤ n ∧ Hid (∀ j (hj : j < l.length), j < i → l[j].1 ≠ a)) (fun vi => n - (intOf vi).toNat)
  case atStart => exact ⟨0, rfl, Nat.zero_le _, fun j hj h => absurd h (by omega)⟩
  case round =>
    obtain ⟨i, rfl, hi, HL⟩ := hrel
    by_cases hlt : i < n
    · obtain ⟨b, cs, rfl, hb, hcs⟩ : ∃ (b : Nat) (cs : Array Value), A = some ⟨b, 0, none⟩ ∧ w.heap[b]? = some (.cells cs 50 (0, 0)) ∧ ∀ (j : Nat) (u : Value), (cellsR l)[j]? = some u → cs[j]? = some u := by
        rcases HX.out with h | h
        · have := HN.out; rw [h] at this; simp at this; omega
        · exact h
      have hil : i < l.length := by have := HN.out; omega
      obtain ⟨k0, k1⟩ := cellsR_at l i hil
      obtain ⟨x, hx⟩ : ∃ x, l[i] = x := ⟨_, rfl⟩
      rw [hx] at k0 k1
      have c0 : w.cell? ⟨b, i * 2, none⟩ = some (.int .u64 (x.1 : Int)) := by rw [cell_of_row _ _ _ _ _ _ hb]; exact hcs _ _ k0
      have c1 : w.cell? ⟨b, i * 2 + 1, none⟩ = some (.string x.2) := by rw [cell_of_row _ _ _ _ _ _ hb]; exact hcs _ _ k1
      have HXX := Lib.hid hx
      clear hb hcs k0 k1 hx
      by_cases hxa : x.1 = a
      · have he : ((x.1 : Int) == (a : Int)) = true := by rw [hxa]; simp
        go_wp2_with fail
        go_ret2
        refine ⟨?_, rfl⟩
        rw [findR_some hil HL.out (by rw [HXX.out]; exact hxa), HXX.out]
        rfl
      · have he : ((x.1 : Int) == (a : Int)) = false := by simp; omega
        go_wp2_with fail
        go_round
        case measure => simp [intOf]; omega
        case rel => exact ⟨i + 1, by go_num, by omega, fun j hj h => by
          by_cases e : j = i
          · subst e; rw [HXX.out]; exact hxa
          · exact HL.out j hj (by omega)⟩
    · obtain rfl : i = n := by omega
      go_wp2_with fail
      go_ret2
      refine ⟨?_, rfl⟩
      rw [findR_none (fun j hj => HL.out j hj (by have := HN.out; omega))]
      rfl

end Go.Proofs.Ytkhhmmblkfogcaa
