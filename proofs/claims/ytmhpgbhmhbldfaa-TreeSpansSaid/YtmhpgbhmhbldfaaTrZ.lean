/- with and halves, told of nodes -/
import Derived.Test.YtmhpgbhmhbldfaaTrY
import Derived.Test.YtmhpgbhmhbldfaaTrHi
namespace Go.Proofs.Ytmhpgbhmhbldfaa
open Go.ChangeShapes Go.WideShapes Go.ChangeAt Go.RowKit

/-- a node's value -/
def NodeV (w : World) (bad : Nat → Prop) (v : Value) (ks : List ByteArray) (ids : List Nat) : Prop :=
  ∃ A n c A' n' c', v = .agg #[.slice A n c, .slice A' n' c'] ∧ NodeAt w bad A n c A' n' c' ks ids

def idsUp (ids : List Nat) (at_ kid : Nat) : List Nat := if ids = [] then [] else ids.take (at_ + 1) ++ kid :: ids.drop (at_ + 1)

theorem with_n {w : World} {bad : Nat → Prop} {A : Option Addr} {n c : Nat} {A' : Option Addr} {n' c' : Nat} {ks : List ByteArray} {ids : List Nat} (h : NodeAt w bad A n c A' n' c' ks ids) (hbad : ∀ b, bad b → b < w.heap.size) (k : ByteArray) (kid : Nat) {at_ : Nat} (hat : at_ ≤ ks.length) (hn : ks.length ≤ 100) (hk : ids = [] ∨ ids.length = ks.length + 1) :
    Calls Try.prog 33 #[.agg #[.slice A n c, .slice A' n' c'], .int .i64 (at_ : Int), .string k, .int .u64 (kid : Int)] w fun e w' =>
      ∃ B m b B' m' b', e = .returned (.agg #[.slice B m b, .slice B' m' b']) ∧ NodeAt w' bad B m b B' m' b' (ks.take at_ ++ k :: ks.drop at_) (idsUp ids at_ kid) ∧ Below w.heap.size w w' := by
  obtain rfl := h.hn
  obtain rfl := h.hn'
  have hml : ids.length ≤ 900 := by rcases hk with h | h; simp [h]; omega
  refine (with_c ks ids k kid at_ A A' c c' w h.keys h.kids h.nil h.nil' (by omega) hml hat hk).mono ?_
  rintro e w' ⟨B, b, B', b', rfl, h1, h2, h3, h4, h5, h6, h7, h8, hb⟩
  refine ⟨B, _, b, B', _, b', rfl, ⟨h1, h2, ?_, ?_, h3, h4, h5, h6, fun _ => ?_, fun hne => ?_⟩, hb⟩
  · simp; omega
  · unfold idsUp
    split
    · rfl
    · next hne =>
      have := hk.resolve_left hne
      simp; omega
  · obtain ⟨x, o, e, -⟩ := h1 at_ k (by rw [List.getElem?_append_right (by rw [List.length_take]; omega), List.length_take, Nat.min_eq_left hat]; simp)
    exact ⟨x, o, e, fun hx => by have := h7 x o e; have := hbad x hx; omega⟩
  · have hu : (idsUp ids at_ kid) = if ids = [] then [] else ids.take (at_ + 1) ++ kid :: ids.drop (at_ + 1) := rfl
    rw [← hu] at h2
    obtain ⟨y, hy⟩ : ∃ y, (idsUp ids at_ kid)[0]? = some y := ⟨_, List.getElem?_eq_getElem (List.length_pos_iff.2 hne)⟩
    obtain ⟨x, o, e, -⟩ := h2 0 y hy
    exact ⟨x, o, e, fun hx => by have := h8 x o e; have := hbad x hx; omega⟩

theorem NodeAt.head {w : World} {bad : Nat → Prop} {A A' : Option Addr} {n c n' c' : Nat} {ks : List ByteArray} {ids : List Nat} (h : NodeAt w bad A n c A' n' c' ks ids) {i j : Nat} (hi : i ≤ ks.length) (hj : j ≤ ids.length) : NodeAt w bad A i c A' j c' (ks.take i) (ids.take j) :=
  ⟨h.keys.head i, h.kids.head j, by rw [List.length_take]; omega, by rw [List.length_take]; omega, h.nil, h.nil', by have := h.cap; have := h.hn; omega, by have := h.cap'; have := h.hn'; omega, fun hne => h.far fun e => hne (by rw [e]; simp), fun hne => h.far' fun e => hne (by rw [e]; simp)⟩

theorem tail_ptr {A : Option Addr} {b o c i : Nat} (h : A = some ⟨b, o, none⟩) : ∃ o', (if c = i then A else A.map (·.add i)) = some ⟨b, o', none⟩ := by
  subst h
  split
  · exact ⟨o, rfl⟩
  · exact ⟨o + i, by simp [adr_add]⟩

theorem NodeAt.tail {w : World} {bad : Nat → Prop} {A A' : Option Addr} {n c n' c' : Nat} {ks : List ByteArray} {ids : List Nat} (h : NodeAt w bad A n c A' n' c' ks ids) (i : Nat) :
    NodeAt w bad (if c = i then A else A.map (·.add i)) (n - i) (c - i) (if c' = i then A' else A'.map (·.add i)) (n' - i) (c' - i) (ks.drop i) (ids.drop i) := by
  have hc := h.cap; have hc' := h.cap'; have hn := h.hn; have hn' := h.hn'
  refine ⟨h.keys.tail (by omega), h.kids.tail (by omega), by rw [List.length_drop]; omega, by rw [List.length_drop]; omega, fun e => ?_, fun e => ?_, by omega, by omega, fun hne => ?_, fun hne => ?_⟩
  · split at e
    · omega
    · have := h.nil (by simpa using e); omega
  · split at e
    · omega
    · have := h.nil' (by simpa using e); omega
  · obtain ⟨b, o, e, hf⟩ := h.far (fun e => hne (by rw [e]; simp))
    obtain ⟨o', e'⟩ := tail_ptr (c := c) (i := i) e
    exact ⟨b, o', e', hf⟩
  · obtain ⟨b, o, e, hf⟩ := h.far' (fun e => hne (by rw [e]; simp))
    obtain ⟨o', e'⟩ := tail_ptr (c := c') (i := i) e
    exact ⟨b, o', e', hf⟩

/-- halves of five keys -/
theorem halves_n {w : World} {bad : Nat → Prop} {A : Option Addr} {n c : Nat} {A' : Option Addr} {n' c' : Nat} {ks : List ByteArray} {ids : List Nat} (h : NodeAt w bad A n c A' n' c' ks ids) (hn : ks.length = 5) (hk : ids = [] ∨ ids.length = ks.length + 1) :
    Calls Try.prog 35 #[.agg #[.slice A n c, .slice A' n' c']] w fun e w' =>
      ∃ A1 n1 c1 A2 n2 c2 m A3 n3 c3 A4 n4 c4, e = .returned (.tuple #[.agg #[.slice A1 n1 c1, .slice A2 n2 c2], .string m, .agg #[.slice A3 n3 c3, .slice A4 n4 c4]]) ∧ ks[2]? = some m ∧
        NodeAt w' bad A1 n1 c1 A2 n2 c2 (ks.take 2) (ids.take 3) ∧ NodeAt w' bad A3 n3 c3 A4 n4 c4 (ks.drop 3) (ids.drop 3) ∧ Below w.heap.size w w' := by
  obtain rfl := h.hn
  obtain rfl := h.hn'
  obtain ⟨m, hm⟩ : ∃ m, ks[2]? = some m := ⟨_, List.getElem?_eq_getElem (by omega)⟩
  by_cases hids : ids = []
  · subst hids
    refine (halves_leaf ks m A A' c c' 2 w h.keys (by omega) h.cap (by omega) hm).mono ?_
    rintro e w' ⟨rfl, hb⟩
    have h' := h.on hb
    have hh := h'.head (i := 2) (j := 0) (by omega) (by simp)
    have ht := h'.tail 3
    refine ⟨A, 2, c, none, 0, 0, m, _, _, _, none, 0, 0, rfl, hm, ⟨hh.keys, ?_, hh.hn, rfl, hh.nil, fun _ => rfl, hh.cap, Nat.le_refl _, hh.far, fun hne => absurd rfl hne⟩, ⟨ht.keys, ?_, ht.hn, rfl, ht.nil, fun _ => rfl, ht.cap, Nat.le_refl _, ht.far, fun hne => absurd rfl hne⟩, hb⟩
    · intro i s hi; simp at hi
    · intro i s hi; simp at hi
  · have hl := hk.resolve_left hids
    refine (halves_in ks ids m A A' c c' 2 w h.keys (by omega) hl h.cap' h.cap (by omega) hm).mono ?_
    rintro e w' ⟨rfl, hb⟩
    have h' := h.on hb
    exact ⟨A, 2, c, A', 3, c', m, _, _, _, _, _, _, rfl, hm, h'.head (by omega) (by omega), h'.tail 3, hb⟩

end Go.Proofs.Ytmhpgbhmhbldfaa
