/- layer 9: changes that came in; records behind changes (the document's Do) -/
import Derived.Test.YtkhhmmblkfogcaaTxE
import Derived.Deep.Slices
import Derived.Deep.Fields
import Derived.ChangeOld
import Derived.SizedLaws
namespace Go.Proofs.Ytkhhmmblkfogcaa
open Go.ChangeShapes Go.WideShapes Go.ChangeAt Go.RowKit Go.Deep

/-- a row of changes, wherever it lies -/
def IsChs (w : World) (A : Option Addr) (l : List (Nat × Ch)) : Prop :=
  l.length ≤ 9223372036854775807 ∧ (∀ x ∈ l, x.1 < 18446744073709551616 ∧ x.2.s.size ≤ 281474976710656) ∧ (l = [] ∨ ∃ (b o : Nat), A = some ⟨b, o, none⟩ ∧ b < w.heap.size ∧ ∀ i x, l[i]? = some x →
    w.cell? ⟨b, o + i * 3, none⟩ = some (.int .u64 (x.1 : Int)) ∧ w.cell? ⟨b, o + i * 3 + 1, none⟩ = some (.string x.2.s) ∧ w.cell? ⟨b, o + i * 3 + 2, none⟩ = some (.bool x.2.gone))

theorem IsChs.on {w w' : World} {A : Option Addr} {l : List (Nat × Ch)} (h : IsChs w A l) {n : Nat} (hn : n = w.heap.size) (hb : Below n w w') : IsChs w' A l := by
  subst hn
  refine ⟨h.1, h.2.1, ?_⟩
  rcases h.2.2 with h | ⟨b, o, e, hlt, hc⟩
  · exact .inl h
  · refine .inr ⟨b, o, e, Nat.lt_of_lt_of_le hlt hb.size, fun i x hx => ?_⟩
    obtain ⟨h0, h1, h2⟩ := hc i x hx
    have e : ∀ q : Nat, w'.cell? ⟨b, q, none⟩ = w.cell? ⟨b, q, none⟩ := fun q => World.cell?_of_block (a := ⟨b, q, none⟩) (hb.block b hlt)
    exact ⟨(e _).trans h0, (e _).trans h1, (e _).trans h2⟩

theorem IsChs.at {w : World} {A : Option Addr} {l : List (Nat × Ch)} (h : IsChs w A l) {i : Nat} (hi : i < l.length) {x : Nat × Ch} (hx : l[i] = x) : ∃ b o, A = some ⟨b, o, none⟩ ∧ b < w.heap.size ∧ w.cell? ⟨b, o + i * 3, none⟩ = some (.int .u64 (x.1 : Int)) ∧ w.cell? ⟨b, o + i * 3 + 1, none⟩ = some (.string x.2.s) ∧ w.cell? ⟨b, o + i * 3 + 2, none⟩ = some (.bool x.2.gone) := by
  rcases h.2.2 with e | ⟨b, o, e, hlt, hc⟩
  · subst e; simp at hi
  · exact ⟨b, o, e, hlt, hc i x (by rw [List.getElem?_eq_getElem hi, hx])⟩

/-- a row of one's own is one -/
theorem owns_chs {w : World} {n : Nat} {A : Option Addr} {k c : Nat} {l : List (Nat × Ch)} (h : w.ownsRow n 38 3 (.slice A k c) l.length (cellsC l)) (hl : l.length ≤ 1000) (hok : ∀ x ∈ l, x.1 < 18446744073709551616 ∧ x.2.s.size ≤ 281474976710656) : IsChs w A l ∧ k = l.length := by
  rcases h.2 with ⟨e, h0⟩ | ⟨g, cap, cur, e, hbg, hg, hnc, hcm, hcs, ht⟩
  · cases e
    exact ⟨⟨by omega, hok, .inl (List.eq_nil_of_length_eq_zero h0)⟩, h0.symm⟩
  · cases e
    refine ⟨⟨by omega, hok, .inr ⟨g, 0, rfl, (Array.getElem?_eq_some_iff.1 hg).1, fun i x hx => ?_⟩⟩, rfl⟩
    have hi := (List.getElem?_eq_some_iff.1 hx).1
    have hxe := (List.getElem?_eq_some_iff.1 hx).2
    have hcell : ∀ j u, (cellsC l)[j]? = some u → w.cell? ⟨g, j, none⟩ = some u := fun j u hu => by
      rw [cell_of_row _ _ _ _ _ _ hg, ← Array.getElem?_toList]
      rw [← ht, List.getElem?_take] at hu
      split at hu
      · exact hu
      · cases hu
    obtain ⟨k0, k1, k2⟩ := cellsC_at l i hi
    rw [hxe] at k0 k1 k2
    rw [Nat.zero_add]
    exact ⟨hcell _ _ k0, hcell _ _ k1, hcell _ _ k2⟩

/-! one change more in the document's list -/

/-- a round of the document's Do -/
def doStep (id : Nat) (s : ByteArray) (st : List (Nat × ByteArray) × Bool) (r : Nat × ByteArray) : List (Nat × ByteArray) × Bool :=
  let st1 := if !st.2 && decide (id ≤ r.1) then (st.1 ++ [(id, s)], true) else st
  if r.1 = id then st1 else (st1.1 ++ [r], st1.2)

def doOne (l : List (Nat × ByteArray)) (c : Nat × Ch) : List (Nat × ByteArray) :=
  let st := l.foldl (doStep c.1 c.2.s) ([], c.2.gone)
  if st.2 then st.1 else st.1 ++ [(c.1, c.2.s)]

theorem doStep_in (id : Nat) (s : ByteArray) : ∀ (l acc : List (Nat × ByteArray)), l.foldl (doStep id s) (acc, true) = (acc ++ delU id l, true)
  | [], acc => by simp [delU]
  | r :: t, acc => by
    rw [List.foldl_cons]
    by_cases h : r.1 = id
    · have : doStep id s (acc, true) r = (acc, true) := by simp [doStep, h]
      rw [this, doStep_in id s t acc]
      simp [delU, h]
    · have : doStep id s (acc, true) r = (acc ++ [r], true) := by simp [doStep, h]
      rw [this, doStep_in id s t (acc ++ [r])]
      simp [delU, h]

theorem del_above {id : Nat} {t : List (Nat × ByteArray)} (h : ∀ p ∈ t, id < p.1) : delU id t = t := by
  unfold delU
  rw [List.filter_eq_self]
  intro p hp
  have := h p hp
  simp; omega

theorem doOne_put (id : Nat) (s : ByteArray) : ∀ (l acc : List (Nat × ByteArray)), RisU l → (let st := l.foldl (doStep id s) (acc, false); if st.2 then st.1 else st.1 ++ [(id, s)]) = acc ++ putU id s l
  | [], acc, _ => by simp [putU]
  | r :: t, acc, h => by
    obtain ⟨h1, h2⟩ := List.pairwise_cons.1 h
    obtain ⟨b, u⟩ := r
    rw [List.foldl_cons]
    unfold putU
    by_cases hlt : id < b
    · have e : doStep id s (acc, false) (b, u) = (acc ++ [(id, s)] ++ [(b, u)], true) := by
        have h3 : b ≠ id := by omega
        have h4 : id ≤ b := by omega
        simp [doStep, h3, h4]
      rw [e, doStep_in, del_above (fun p hp => by have := h1 p hp; simp at this; omega), if_pos hlt]
      simp
    · by_cases he : id = b
      · subst he
        have e : doStep id s (acc, false) (id, u) = (acc ++ [(id, s)], true) := by simp [doStep]
        rw [e, doStep_in, del_above (fun p hp => h1 p hp), if_neg hlt, if_pos rfl]
        simp
      · have e : doStep id s (acc, false) (b, u) = (acc ++ [(b, u)], false) := by
          have h3 : b ≠ id := by omega
          have h4 : ¬ id ≤ b := by omega
          simp [doStep, h3, h4]
        rw [e, doOne_put id s t (acc ++ [(b, u)]) h2, if_neg hlt, if_neg he]
        simp

theorem doOne_eq {l : List (Nat × ByteArray)} (hr : RisU l) (c : Nat × Ch) : doOne l c = if c.2.gone then delU c.1 l else putU c.1 c.2.s l := by
  unfold doOne
  cases hg : c.2.gone with
  | true => simp only [doStep_in, List.nil_append]; rfl
  | false =>
    have := doOne_put c.1 c.2.s l [] hr
    simpa using this

theorem doStep_len (id : Nat) (s : ByteArray) (st : List (Nat × ByteArray) × Bool) (r : Nat × ByteArray) : (doStep id s st r).1.length ≤ st.1.length + 2 := by
  unfold doStep
  cases st.2 <;> by_cases h1 : id ≤ r.1 <;> by_cases h2 : r.1 = id <;> simp [h1, h2]

end Go.Proofs.Ytkhhmmblkfogcaa
