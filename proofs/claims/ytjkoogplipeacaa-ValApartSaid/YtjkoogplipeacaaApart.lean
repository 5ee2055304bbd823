/- no value's bytes begin with those of another one: plain mathematics of bys and smT -/
import Derived.Test.YtjkoogplipeacaaGetH
import Derived.Test.YtjkoogplipeacaaSame
namespace Go.Proofs.Ytjkoogplipeacaa
open Go.ChangeShapes Go.WideShapes Go.ChangeAt Go.RowKit Go.Fl

theorem word_inj {a b : Int} (ha : is64 a = true) (hb : is64 b = true) (h : word a = word b) : a = b := by
  have h1 := word_wrap ha
  have h2 := word_wrap hb
  rw [h] at h1
  exact h1.symm.trans h2

theorem eightL_inj {a b : Nat} (ha : a < 18446744073709551616) (hb : b < 18446744073709551616) (h : eightL a = eightL b) : a = b := by
  have e : eightS a = eightS b := by unfold eightL at h; exact ByteArray.ext (Array.toList_inj.1 h)
  rw [← wide_eight ha, ← wide_eight hb, e]

theorem twoL_inj {a b : Nat} (ha : a < 65536) (hb : b < 65536) (h : (twoS a).data.toList = (twoS b).data.toList) : a = b := by
  have e : twoS a = twoS b := ByteArray.ext (Array.toList_inj.1 h)
  rw [← wide_two ha, ← wide_two hb, e]

theorem kby_inj {a b : Int} (ha : 0 ≤ a ∧ a ≤ 8) (hb : 0 ≤ b ∧ b ≤ 8) (h : kby a = kby b) : a = b := by
  have h1 := kby_eq a
  have h2 := kby_eq b
  rw [h] at h1
  omega

theorem data_of_toList {a b : ByteArray} (h : a.toList = b.toList) : a = b := by
  rw [Lib.toList_data, Lib.toList_data] at h
  exact ByteArray.ext (Array.toList_inj.1 h)

/-- of a tree that came in: its numbers -/
def NumsT (t : T) : Prop := ∃ w B v, Rd w B t v

theorem NumsT.parts {k : Int} {b : Bool} {n : Int} {f : Nat} {s : ByteArray} {l : List T} (h : NumsT (.mk k b n f s l)) : is64 n = true ∧ f < 18446744073709551616 ∧ ∀ i (hi : i < l.length), NumsT l[i] := by
  obtain ⟨w, B, v, h⟩ := h
  obtain ⟨A, cap, rfl, hk, hn, hf, hs, hc, hm, hA, hl⟩ := h.open
  exact ⟨hn, hf, fun i hi => by obtain ⟨a, u, -, -, -, hu⟩ := hl i hi; exact ⟨w, B, u, hu⟩⟩

theorem smL_of {l : List T} : ∀ {q : List T}, l.length = q.length → (∀ i (hi : i < l.length) (hq : i < q.length), smT l[i] q[i] = true) → smL l q = true := by
  induction l with
  | nil => intro q hl _; cases q with
    | nil => rfl
    | cons u q => simp at hl
  | cons t r ih =>
    intro q hl h
    cases q with
    | nil => simp at hl
    | cons u q =>
      have h0 := h 0 (by simp) (by simp)
      simp only [List.getElem_cons_zero] at h0
      rw [smL, h0, Bool.true_and]
      exact ih (by simpa using hl) fun i hi hq => by have := h (i + 1) (by simpa using hi) (by simpa using hq); simpa using this

/-- bytes that begin alike -/
def ApartAt (a : T) : Prop := ∀ (b : T) (d d' : Nat) (x y : List UInt8), chkT a d = 0 → chkT b d' = 0 → NumsT a → NumsT b → bys a ++ x = bys b ++ y → smT a b = true ∧ x = y

theorem bysL_apart (l : List T) (ih : ∀ i (hi : i < l.length), ApartAt l[i]) : ∀ (q : List T) (d d' : Nat) (x y : List UInt8), l.length = q.length → (∀ i (hi : i < l.length), chkT l[i] d = 0 ∧ NumsT l[i]) → (∀ i (hi : i < q.length), chkT q[i] d' = 0 ∧ NumsT q[i]) →
    bysL l ++ x = bysL q ++ y → smL l q = true ∧ x = y := by
  induction l with
  | nil =>
    intro q d d' x y hl _ _ h
    cases q with
    | nil => rw [bysL] at h; exact ⟨rfl, by simpa using h⟩
    | cons u q => simp at hl
  | cons t r ihr =>
    intro q d d' x y hl h1 h2 h
    cases q with
    | nil => simp at hl
    | cons u q =>
      rw [bysL, bysL, List.append_assoc, List.append_assoc] at h
      have a0 := h1 0 (by simp); have b0 := h2 0 (by simp)
      simp only [List.getElem_cons_zero] at a0 b0
      obtain ⟨e1, e2⟩ := ih 0 (by simp) u d d' _ _ a0.1 b0.1 a0.2 b0.2 h
      simp only [List.getElem_cons_zero] at e1
      obtain ⟨e3, e4⟩ := ihr (fun i hi => by have := ih (i + 1) (by simpa using hi); simpa using this) q d d' x y (by simpa using hl)
        (fun i hi => by have := h1 (i + 1) (by simpa using hi); simpa using this) (fun i hi => by have := h2 (i + 1) (by simpa using hi); simpa using this) e2
      exact ⟨by rw [smL, e1, e3]; rfl, e4⟩

theorem bys_apart (a : T) : ApartAt a := by
  induction a using T.ind with | h k b n f s l ih => _
  rintro ⟨k', b', n', f', s', l'⟩ d d' x y hc hc' hN hN' h
  obtain ⟨hd, hsh, hs, hlen, hL, -⟩ := chk_parts hc
  obtain ⟨hd', hsh', hs', hlen', hL', -⟩ := chk_parts hc'
  obtain ⟨k0, k8, sb, sn, sn1, sf, ss, sl⟩ := shp_parts hsh
  obtain ⟨k0', k8', sb', sn', sn1', sf', ss', sl'⟩ := shp_parts hsh'
  obtain ⟨hn, hf, hNl⟩ := hN.parts
  obtain ⟨hn', hf', hNl'⟩ := hN'.parts
  rw [bys, bys, List.cons_append, List.cons_append, List.cons.injEq] at h
  obtain ⟨hk, h⟩ := h
  obtain rfl : k = k' := kby_inj ⟨k0, k8⟩ ⟨k0', k8'⟩ hk
  have nob : k ≠ 1 → b = b' := by
    intro h1
    have e1 : b = false := by cases b; rfl; exact absurd (sb rfl) h1
    have e2 : b' = false := by cases b'; rfl; exact absurd (sb' rfl) h1
    rw [e1, e2]
  have non : ¬ (k = 2 ∨ k = 7 ∨ k = 8) → n = n' := by
    intro h1
    have e1 : n = 0 := by false_or_by_contra; exact h1 (sn ‹_›)
    have e2 : n' = 0 := by false_or_by_contra; exact h1 (sn' ‹_›)
    rw [e1, e2]
  have nof : k ≠ 3 → f = f' := by
    intro h1
    have e1 : f = 0 := by false_or_by_contra; exact h1 (sf ‹_›)
    have e2 : f' = 0 := by false_or_by_contra; exact h1 (sf' ‹_›)
    rw [e1, e2]
  have nos : k ≠ 4 → s = s' := by
    intro h1
    have e1 : s = ⟨#[]⟩ := empty_of (by false_or_by_contra; exact h1 (ss ‹_›))
    have e2 : s' = ⟨#[]⟩ := empty_of (by false_or_by_contra; exact h1 (ss' ‹_›))
    rw [e1, e2]
  have nol : ¬ (k = 5 ∨ k = 6) → l = [] ∧ l' = [] := by
    intro h1
    constructor
    · rcases l with _ | ⟨t, r⟩
      · rfl
      · exact absurd (sl (by simp)) h1
    · rcases l' with _ | ⟨t, r⟩
      · rfl
      · exact absurd (sl' (by simp)) h1
  have key : (b = b' ∧ n = n' ∧ canonN f = canonN f' ∧ s = s' ∧ l.length = l'.length ∧ smL l l' = true ∧ x = y) → smT (.mk k b n f s l) (.mk k b' n' f' s' l') = true ∧ x = y := by
    rintro ⟨rfl, rfl, e3, rfl, e5, e6, e7⟩
    exact ⟨by rw [smT, e6, Bool.and_true]; unfold hdB; simp [e3, e5], e7⟩
  apply key
  clear key
  by_cases k1 : k = 1
  · subst k1
    rw [if_pos rfl, if_pos rfl] at h
    simp only [List.cons_append, List.nil_append, List.cons.injEq] at h
    obtain ⟨rfl, rfl⟩ := nol (by decide)
    exact ⟨by cases b <;> cases b' <;> simp_all, non (by decide), by rw [nof (by decide)], nos (by decide), rfl, rfl, h.2⟩
  rw [if_neg k1, if_neg k1] at h
  by_cases k2 : k = 2 ∨ k = 7 ∨ k = 8
  · rw [if_pos k2, if_pos k2] at h
    obtain ⟨h1, h2⟩ := List.append_inj h (by rw [eightL_len, eightL_len])
    obtain ⟨rfl, rfl⟩ := nol (by omega)
    exact ⟨nob k1, word_inj hn hn' (eightL_inj (word_lt n) (word_lt n') h1), by rw [nof (by omega)], nos (by omega), rfl, rfl, h2⟩
  rw [if_neg k2, if_neg k2] at h
  by_cases k3 : k = 3
  · rw [if_pos k3, if_pos k3] at h
    obtain ⟨h1, h2⟩ := List.append_inj h (by rw [eightL_len, eightL_len])
    obtain ⟨rfl, rfl⟩ := nol (by omega)
    exact ⟨nob k1, non k2, eightL_inj (canonN_lt f hf) (canonN_lt f' hf') h1, nos (by omega), rfl, rfl, h2⟩
  rw [if_neg k3, if_neg k3] at h
  by_cases k4 : k = 4
  · rw [if_pos k4, if_pos k4, List.append_assoc, List.append_assoc] at h
    obtain ⟨h1, h2⟩ := List.append_inj h (by rw [twoL_len, twoL_len])
    have hsz := twoL_inj (by omega) (by omega) h1
    have hsd : s.data.toList.length = s.size := rfl
    have hsd' : s'.data.toList.length = s'.size := rfl
    obtain ⟨h3, h4⟩ := List.append_inj h2 (by omega)
    obtain ⟨rfl, rfl⟩ := nol (by omega)
    exact ⟨nob k1, non k2, by rw [nof k3], ByteArray.ext (Array.toList_inj.1 h3), rfl, rfl, h4⟩
  rw [if_neg k4, if_neg k4] at h
  by_cases k5 : k = 5 ∨ k = 6
  · rw [if_pos k5, if_pos k5, List.append_assoc, List.append_assoc] at h
    obtain ⟨h1, h2⟩ := List.append_inj h (by rw [twoL_len, twoL_len])
    have hsz := twoL_inj (by omega) (by omega) h1
    have cl := chkL_all hL
    have cl' := chkL_all hL'
    obtain ⟨h3, h4⟩ := bysL_apart l ih l' (d + 1) (d' + 1) x y hsz (fun i hi => ⟨cl i hi, hNl i hi⟩) (fun i hi => ⟨cl' i hi, hNl' i hi⟩) h2
    exact ⟨nob k1, non k2, by rw [nof k3], nos k4, hsz, h3, h4⟩
  rw [if_neg k5, if_neg k5] at h
  obtain ⟨rfl, rfl⟩ := nol k5
  exact ⟨nob k1, non k2, by rw [nof k3], nos k4, rfl, rfl, by simpa using h⟩

/-- what is the same has the same bytes -/
theorem bys_same (a : T) : ∀ b, smT a b = true → bys a = bys b := by
  induction a using T.ind with | h k b n f s l ih => _
  rintro ⟨k', b', n', f', s', l'⟩ h
  rw [smT, Bool.and_eq_true] at h
  obtain ⟨h1, h2⟩ := h
  unfold hdB at h1
  simp only [Bool.and_eq_true, beq_iff_eq] at h1
  obtain ⟨⟨⟨⟨⟨rfl, rfl⟩, rfl⟩, e3⟩, e4⟩, e5⟩ := h1
  obtain rfl : s = s' := data_of_toList e4
  have hL : ∀ (l q : List T), (∀ i (hi : i < l.length), ∀ b, smT l[i] b = true → bys l[i] = bys b) → smL l q = true → bysL l = bysL q := by
    intro l
    induction l with
    | nil => intro q _ h; cases q with
      | nil => rfl
      | cons u q => simp [smL] at h
    | cons t r ihr =>
      intro q ih h
      cases q with
      | nil => simp [smL] at h
      | cons u q =>
        rw [smL, Bool.and_eq_true] at h
        have h0 := ih 0 (by simp) u
        simp only [List.getElem_cons_zero] at h0
        rw [bysL, bysL, h0 h.1, ihr q (fun i hi => by have := ih (i + 1) (by simpa using hi); simpa using this) h.2]
  rw [bys, bys, e3, e5, hL l l' ih h2]

theorem chkF_two {t : T} (h : chkF t = 0) : chkT t 1 = 0 := by
  unfold chkF at h
  by_cases h6 : 60000 < tot t
  · rw [if_pos h6] at h; exact absurd h (by decide)
  · rwa [if_neg h6] at h

/-- two values that may be: the same just where their bytes are -/
theorem same_bytes {a b : T} (ha : chkF a = 0) (hb : chkF b = 0) (hN : NumsT a) (hM : NumsT b) : smT a b = true ↔ bys a = bys b :=
  ⟨bys_same a b, fun h => (bys_apart a b 1 1 [] [] (chkF_two ha) (chkF_two hb) hN hM (by rw [h])).1⟩

/-- .. and bytes that begin with others are these -/
theorem begins_bytes {a b : T} (ha : chkF a = 0) (hb : chkF b = 0) (hN : NumsT a) (hM : NumsT b) (h : (bys b).take (bys a).length = bys a) : bys a = bys b := by
  have e : bys a ++ (bys b).drop (bys a).length = bys b ++ [] := by
    rw [List.append_nil]
    conv => rhs; rw [← List.take_append_drop (bys a).length (bys b), h]
  have := (bys_apart a b 1 1 _ [] (chkF_two ha) (chkF_two hb) hN hM e).2
  rw [this, List.append_nil, List.append_nil] at e
  exact e

end Go.Proofs.Ytjkoogplipeacaa
