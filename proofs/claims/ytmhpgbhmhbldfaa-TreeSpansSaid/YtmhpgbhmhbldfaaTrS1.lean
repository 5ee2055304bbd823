/- a span of a tree's keys (plain mathematics) -/
import Derived.Test.YtmhpgbhmhbldfaaTrA
import Derived.Test.YtmhpgbhmhbldfaaTrG
namespace Go.Proofs.Ytmhpgbhmhbldfaa
open Go.ChangeShapes Go.WideShapes Go.ChangeAt Go.RowKit

/-- is a key in a span? -/
def inS (lo hi k : ByteArray) : Bool := !ltS k lo && (hi.size == 0 || ltS k hi)

def spanF (lo hi : ByteArray) (l : List ByteArray) : List ByteArray := l.filter (inS lo hi)

/-- the lowest key that is above one -/
def aboveS (k : ByteArray) : ByteArray := k ++ ⟨#[0]⟩

theorem bl_above : ∀ a b : List UInt8, Op.bytesLess a b = true → Op.bytesLess b (a ++ [0]) = false
  | [], [], h => by exact absurd h (by decide)
  | [], c :: y, _ => by
    simp only [List.nil_append, Op.bytesLess]
    rw [Bool.or_eq_false_iff]
    refine ⟨by simp, ?_⟩
    cases y <;> simp
  | c :: x, [], h => by simp [Op.bytesLess] at h
  | c :: x, e :: y, h => by
    rw [Op.bytesLess, Bool.or_eq_true, Bool.and_eq_true, decide_eq_true_eq, beq_iff_eq] at h
    rw [List.cons_append, Op.bytesLess, Bool.or_eq_false_iff, decide_eq_false_iff_not, Bool.and_eq_false_iff]
    rcases h with h | ⟨rfl, h⟩
    · refine ⟨fun h' => UInt8.lt_irrefl _ (UInt8.lt_trans h h'), .inl ?_⟩
      simp only [beq_eq_false_iff_ne]
      rintro rfl
      exact UInt8.lt_irrefl _ h
    · exact ⟨UInt8.lt_irrefl _, .inr (bl_above x y h)⟩

theorem lt_above {a b : ByteArray} (h : ltS a b = true) : ltS b (aboveS a) = false := by
  unfold ltS aboveS at *
  have e : (a ++ ⟨#[0]⟩ : ByteArray).toList = a.toList ++ [0] := by
    rw [Lib.toList_data, Lib.toList_data, ByteArray.data_append]; simp
  rw [e]
  exact bl_above _ _ h

theorem ltS_of_not {a b : ByteArray} (h : ltS a b = false) (hne : a ≠ b) : ltS b a = true := by
  cases h' : ltS b a with
  | true => rfl
  | false => exact absurd (linS.tri h h') hne

/-- ahead of a key of the span, the key, behind it -/
theorem span_more {lo hi k : ByteArray} {a t : List ByteArray} (hr : RisK ltS (a ++ k :: t)) (hlo : ltS k lo = false) (hhi : hi.size = 0 ∨ ltS k hi = true) :
    spanF lo hi (a ++ k :: t) = spanF lo k a ++ k :: spanF (aboveS k) hi t := by
  obtain ⟨h1, h2, h3⟩ := List.pairwise_append.1 hr
  obtain ⟨h4, h5⟩ := List.pairwise_cons.1 h2
  unfold spanF
  rw [List.filter_append, List.filter_cons]
  have hk : inS lo hi k = true := by
    unfold inS
    rw [hlo]
    rcases hhi with h | h <;> simp [h]
  rw [if_pos hk]
  have ea : a.filter (inS lo hi) = a.filter (inS lo k) := List.filter_congr fun x hx => by
    have hxk := h3 x hx k (by simp)
    unfold inS
    rw [hxk]
    have : (hi.size == 0 || ltS x hi) = true := by
      rcases hhi with h | h
      · simp [h]
      · rw [linS.tr hxk h]; simp
    rw [this]; simp
  have et : t.filter (inS lo hi) = t.filter (inS (aboveS k) hi) := List.filter_congr fun x hx => by
    have hkx := h4 x hx
    unfold inS
    rw [lt_above hkx]
    have : ltS x lo = false := by
      cases h : ltS x lo with
      | false => rfl
      | true => rw [linS.tr hkx h] at hlo; cases hlo
    rw [this]
  rw [ea, et]

/-- a key with which the span begins: nothing ahead of it -/
theorem span_none {lo : ByteArray} {a : List ByteArray} (h : ∀ x ∈ a, ltS x lo = true) (hi : ByteArray) : spanF lo hi a = [] := by
  unfold spanF
  rw [List.filter_eq_nil_iff]
  intro x hx
  unfold inS
  rw [h x hx]; simp

/-- behind the span's end -/
theorem span_end {lo hi : ByteArray} {a t : List ByteArray} (h : ∀ x ∈ t, hi.size ≠ 0 ∧ ltS x hi = false) : spanF lo hi (a ++ t) = spanF lo hi a := by
  unfold spanF
  rw [List.filter_append]
  have : t.filter (inS lo hi) = [] := by
    rw [List.filter_eq_nil_iff]
    intro x hx
    obtain ⟨h1, h2⟩ := h x hx
    unfold inS
    rw [h2]
    simp [h1]
  rw [this, List.append_nil]

/-- what is left from a place on -/
def tailM (c : B ByteArray) (i : Nat) : List ByteArray := mix (c.kids.drop i) (c.keys.drop i)

theorem tail_zero (c : B ByteArray) : tailM c 0 = c.flat := by
  obtain ⟨i, ks, ts⟩ := c
  rw [B.flat]; rfl

theorem tail_leaf {c : B ByteArray} (h : c.kids = []) (i : Nat) : tailM c i = c.keys.drop i := by
  unfold tailM; rw [h, List.drop_nil, mix_nil]

theorem tail_kid {c kid : B ByteArray} {i : Nat} {k : ByteArray} (hk : c.kids[i]? = some kid) (hi : c.keys[i]? = some k) : tailM c i = kid.flat ++ k :: tailM c (i + 1) := by
  obtain ⟨h1, e1⟩ := List.getElem?_eq_some_iff.1 hk
  obtain ⟨h2, e2⟩ := List.getElem?_eq_some_iff.1 hi
  unfold tailM
  rw [List.drop_eq_getElem_cons h1, List.drop_eq_getElem_cons h2, mix_cons, e1, e2]

theorem tail_last {c kid : B ByteArray} (hk : c.kids[c.keys.length]? = some kid) (hl : c.kids.length = c.keys.length + 1) : tailM c c.keys.length = kid.flat := by
  obtain ⟨h1, e1⟩ := List.getElem?_eq_some_iff.1 hk
  unfold tailM
  rw [List.drop_eq_getElem_cons h1, e1, List.drop_length, List.drop_eq_nil_of_le (by omega), mix_one]

/-- ahead of the place nothing is in the span -/
theorem span_start {lo hi : ByteArray} {c : B ByteArray} (hkid : Kidly c.kids c.keys) (hr : RisK ltS c.flat) : ∀ i, i ≤ placeK ltS lo c.keys → spanF lo hi (tailM c i) = spanF lo hi c.flat ∧ RisK ltS (tailM c i)
  | 0, _ => by rw [tail_zero]; exact ⟨rfl, hr⟩
  | i + 1, h => by
    obtain ⟨e, hr'⟩ := span_start (lo := lo) (hi := hi) hkid hr i (by omega)
    have hik : i < c.keys.length := by have := placeK_le ltS lo c.keys; omega
    have hklt : ltS c.keys[i] lo = true := placeK_take (lt := ltS) (k := lo) (l := c.keys) c.keys[i] (by rw [List.mem_take_iff_getElem]; exact ⟨i, by omega, rfl⟩)
    rcases hkid with hk | hk
    · rw [tail_leaf hk] at e hr' ⊢
      rw [List.drop_eq_getElem_cons hik] at e hr'
      obtain ⟨h4, h5⟩ := List.pairwise_cons.1 hr'
      refine ⟨?_, h5⟩
      rw [← e]
      unfold spanF
      rw [List.filter_cons, if_neg (by unfold inS; rw [hklt]; simp)]
    · have hki : i < c.kids.length := by omega
      have et := tail_kid (List.getElem?_eq_getElem hki) (List.getElem?_eq_getElem hik)
      rw [et] at e hr'
      obtain ⟨h1, h2, h3⟩ := List.pairwise_append.1 hr'
      obtain ⟨h4, h5⟩ := List.pairwise_cons.1 h2
      refine ⟨?_, h5⟩
      rw [← e]
      have ha : spanF lo hi c.kids[i].flat = [] := span_none (fun x hx => linS.tr (h3 x hx _ (by simp)) hklt) hi
      unfold spanF at ha ⊢
      rw [List.filter_append, ha, List.filter_cons, if_neg (by unfold inS; rw [hklt]; simp)]
      rfl

mutual
def B.hgt {K : Type} : B K → Nat
  | .mk _ _ ts => hgtL ts + 1
def hgtL {K : Type} : List (B K) → Nat
  | [] => 0
  | t :: ts => max t.hgt (hgtL ts)
end

theorem hgt_mk {K : Type} (i : Nat) (ks : List K) (ts : List (B K)) : (B.mk i ks ts).hgt = hgtL ts + 1 := by rw [B.hgt]

theorem kid_hgt {K : Type} : ∀ {ts : List (B K)} {t : B K}, t ∈ ts → t.hgt ≤ hgtL ts
  | u :: ts, t, h => by
    rw [hgtL]
    rcases List.mem_cons.1 h with rfl | h
    · exact Nat.le_max_left _ _
    · exact Nat.le_trans (kid_hgt h) (Nat.le_max_right _ _)

/-- nodes with a key each: no higher than there are keys -/
def Keyed1 {K : Type} (l : List (Nd K)) : Prop := ∀ x ∈ l, 1 ≤ x.2.1.length ∧ (x.2.2 = [] ∨ x.2.2.length = x.2.1.length + 1)

theorem mix_len {K : Type} : ∀ (ts : List (B K)) (ks : List K), Kidly ts ks → (mix ts ks).length = (ts.map fun t => t.flat.length).sum + ks.length
  | [], ks, _ => by rw [mix_nil]; simp
  | [t], [], _ => by rw [mix_one]; simp
  | t :: u :: ts, [], h => by rcases h with h | h <;> simp at h
  | t :: ts, k :: ks, h => by
    have h' : ts.length = ks.length + 1 := by rcases h with h | h <;> simp at h; exact h
    rw [mix_cons, List.length_append, List.length_cons, mix_len ts ks (.inr h')]
    simp; omega

mutual
theorem hgt_flat {K : Type} : ∀ (t : B K), Keyed1 t.nodes → t.hgt ≤ t.flat.length
  | .mk i ks ts, h => by
    rw [nodes_mk] at h
    obtain ⟨h1, h2⟩ := h _ (List.mem_cons_self)
    have hk : Kidly ts ks := by
      rcases h2 with h2 | h2
      · exact .inl (by simpa using h2)
      · exact .inr (by simpa using h2)
    have h3 := hgtL_flat ts (fun x hx => h x (List.mem_cons_of_mem _ hx))
    rw [hgt_mk, B.flat, mix_len ts ks hk]
    simp only at h1
    omega
theorem hgtL_flat {K : Type} : ∀ (ts : List (B K)), Keyed1 (nodesL ts) → hgtL ts ≤ (ts.map fun t => t.flat.length).sum
  | [], _ => by rw [hgtL]; exact Nat.zero_le _
  | t :: ts, h => by
    rw [nodesL_cons] at h
    have h1 := hgt_flat t (fun x hx => h x (List.mem_append_left _ hx))
    have h2 := hgtL_flat ts (fun x hx => h x (List.mem_append_right _ hx))
    rw [hgtL, List.map_cons, List.sum_cons]
    omega
end

end Go.Proofs.Ytmhpgbhmhbldfaa
