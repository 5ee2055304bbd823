/- a tree of keys in nodes, as plain mathematics: an insertion puts the key in its place -/
import Derived.Lib.Hide
namespace Go.Proofs.Ytmhpgbhmhbldfaa

section
variable {K : Type}

/-- a strict order in which any two stand -/
structure Lin (lt : K → K → Bool) : Prop where
  irr : ∀ a, lt a a = false
  tr : ∀ {a b c}, lt a b = true → lt b c = true → lt a c = true
  tri : ∀ {a b}, lt a b = false → lt b a = false → a = b

/-- rising -/
def RisK (lt : K → K → Bool) : List K → Prop := List.Pairwise fun a b => lt a b = true

/-- a key in its place among rising ones -/
def insK (lt : K → K → Bool) (k : K) (m : List K) : List K := m.takeWhile (lt · k) ++ k :: m.dropWhile (lt · k)

theorem insK_at {lt : K → K → Bool} (H : Lin lt) {k : K} {a b : List K} (ha : ∀ x ∈ a, lt x k = true) (hb : ∀ x ∈ b, lt k x = true) : insK lt k (a ++ b) = a ++ k :: b := by
  have hn : ∀ x ∈ b, lt x k = false := fun x hx => by
    cases h : lt x k with
    | false => rfl
    | true => have := H.tr h (hb x hx); rw [H.irr] at this; cases this
  have h1 : b.takeWhile (lt · k) = [] := by
    cases b with
    | nil => rfl
    | cons y r => rw [List.takeWhile_cons, hn y (by simp)]; rfl
  have h2 : b.dropWhile (lt · k) = b := by
    cases b with
    | nil => rfl
    | cons y r => rw [List.dropWhile_cons, hn y (by simp)]; rfl
  unfold insK
  rw [List.takeWhile_append_of_pos ha, List.dropWhile_append_of_pos ha, h1, h2, List.append_nil]

/-- how many keys are below one: where it is, or would be -/
def placeK (lt : K → K → Bool) (k : K) (l : List K) : Nat := (l.takeWhile (lt · k)).length

theorem placeK_le (lt : K → K → Bool) (k : K) (l : List K) : placeK lt k l ≤ l.length := by
  unfold placeK
  induction l with
  | nil => simp
  | cons x r ih =>
    rw [List.takeWhile_cons]
    split
    · simp at ih ⊢; omega
    · simp

theorem placeK_take {lt : K → K → Bool} {k : K} : ∀ {l : List K}, ∀ x ∈ l.take (placeK lt k l), lt x k = true := by
  intro l
  unfold placeK
  induction l with
  | nil => intro x hx; simp at hx
  | cons y r ih =>
    intro x hx
    rw [List.takeWhile_cons] at hx
    split at hx
    · next hy =>
      rw [List.length_cons, List.take_succ_cons] at hx
      rcases List.mem_cons.1 hx with rfl | hx
      · exact hy
      · exact ih x hx
    · simp at hx

theorem placeK_drop {lt : K → K → Bool} (H : Lin lt) {k : K} : ∀ {l : List K}, RisK lt l → k ∉ l → ∀ x ∈ l.drop (placeK lt k l), lt k x = true := by
  intro l
  unfold placeK
  induction l with
  | nil => intro _ _ x hx; simp at hx
  | cons y r ih =>
    intro hr hk x hx
    obtain ⟨hy, hr⟩ := List.pairwise_cons.1 hr
    rw [List.takeWhile_cons] at hx
    split at hx
    · rw [List.length_cons, List.drop_succ_cons] at hx
      exact ih hr (fun h => hk (List.mem_cons_of_mem _ h)) x hx
    · next hny =>
      have hky : lt k y = true := by
        cases h : lt k y with
        | true => rfl
        | false => exact absurd (H.tri h (by simpa using hny)) (fun e => hk (by simp [e]))
      simp at hx
      rcases hx with rfl | hx
      · exact hky
      · exact H.tr hky (hy x hx)

/-- a key is there just where it would be -/
theorem placeK_mem {lt : K → K → Bool} (H : Lin lt) {k : K} {l : List K} (hr : RisK lt l) : k ∈ l ↔ l[placeK lt k l]? = some k := by
  unfold placeK
  induction l with
  | nil => simp
  | cons y r ih =>
    obtain ⟨hy, hr⟩ := List.pairwise_cons.1 hr
    rw [List.takeWhile_cons]
    split
    · next h =>
      rw [List.length_cons, List.getElem?_cons_succ, ← ih hr, List.mem_cons]
      refine ⟨fun h' => h'.resolve_left fun e => ?_, .inr⟩
      subst e; rw [H.irr] at h; cases h
    · next h =>
      simp only [List.length_nil, List.getElem?_cons_zero, Option.some.injEq]
      refine ⟨fun h' => ?_, fun e => by simp [e]⟩
      rcases List.mem_cons.1 h' with e | h'
      · exact e.symm
      · exact absurd (hy k h') h

/-- a tree: a number, keys, kids -/
inductive B (K : Type) where
  | mk (id : Nat) (keys : List K) (kids : List (B K))

def B.id : B K → Nat | .mk i _ _ => i
def B.keys : B K → List K | .mk _ k _ => k
def B.kids : B K → List (B K) | .mk _ _ t => t

mutual
/-- all its keys, in their order -/
def B.flat : B K → List K
  | .mk _ ks ts => mix ts ks
def mix : List (B K) → List K → List K
  | [], ks => ks
  | t :: ts, ks => t.flat ++ (match ks with | [] => mix ts [] | k :: r => k :: mix ts r)
end

theorem mix_nil (ks : List K) : mix [] ks = ks := by rw [mix]
theorem mix_cons (t : B K) (ts : List (B K)) (k : K) (ks : List K) : mix (t :: ts) (k :: ks) = t.flat ++ k :: mix ts ks := by rw [mix]
theorem mix_one (t : B K) : mix [t] [] = t.flat := by rw [mix, mix_nil]; simp

/-- as many kids as keys and one more, or none -/
def Kidly (ts : List (B K)) (ks : List K) : Prop := ts = [] ∨ ts.length = ks.length + 1

/-- ahead of a kid and behind it -/
theorem mix_at : ∀ (ks : List K) (ts : List (B K)) (i : Nat) (t : B K), ts.length = ks.length + 1 → ts[i]? = some t →
    ∃ a b, mix ts ks = a ++ t.flat ++ b ∧ (a = [] ∨ ∃ a' x, a = a' ++ [x] ∧ x ∈ ks.take i) ∧ (b = [] ∨ ∃ x b', b = x :: b' ∧ x ∈ ks.drop i) ∧ (∀ t', mix (ts.set i t') ks = a ++ t'.flat ++ b) ∧
      ∀ l k r, mix ((ts.set i l).take (i + 1) ++ r :: (ts.set i l).drop (i + 1)) (ks.take i ++ k :: ks.drop i) = a ++ (l.flat ++ k :: r.flat) ++ b
  | ks, [], i, t, h, _ => by simp at h
  | [], u :: ts, i, t, h, ht => by
    have hts : ts = [] := by cases ts with | nil => rfl | cons _ _ => simp at h
    subst hts
    have hi : i = 0 := by
      have := (List.getElem?_eq_some_iff.1 ht).1
      simp at this; exact this
    subst hi
    simp at ht
    subst ht
    refine ⟨[], [], by rw [mix_one]; simp, .inl rfl, .inl rfl, fun t' => by rw [List.set_cons_zero, mix_one]; simp, fun l k r => ?_⟩
    rw [List.set_cons_zero]
    simp only [List.take_succ_cons, List.drop_succ_cons, List.drop_zero, List.take_nil, List.nil_append, List.cons_append, List.append_nil]
    rw [mix_cons, mix_one]
  | k :: ks, u :: ts, 0, t, h, ht => by
    simp at ht
    subst ht
    refine ⟨[], k :: mix ts ks, by rw [mix_cons]; simp, .inl rfl, .inr ⟨k, _, rfl, by simp⟩, fun t' => by rw [List.set_cons_zero, mix_cons]; simp, fun l k' r => ?_⟩
    rw [List.set_cons_zero]
    simp only [List.take_succ_cons, List.take_zero, List.drop_succ_cons, List.drop_zero, List.nil_append, List.cons_append]
    rw [mix_cons, mix_cons]
    simp
  | k :: ks, u :: ts, i + 1, t, h, ht => by
    obtain ⟨a, b, h1, h2, h3, h4, h5⟩ := mix_at ks ts i t (by simpa using h) (by simpa using ht)
    refine ⟨u.flat ++ k :: a, b, by rw [mix_cons, h1]; simp, .inr ?_, ?_, fun t' => by rw [List.set_cons_succ, mix_cons, h4]; simp, fun l k' r => ?_⟩
    · rcases h2 with rfl | ⟨a', x, rfl, hx⟩
      · exact ⟨u.flat, k, rfl, by simp⟩
      · exact ⟨u.flat ++ k :: a', x, by simp, by rw [List.take_succ_cons]; exact List.mem_cons_of_mem _ hx⟩
    · rcases h3 with h3 | ⟨x, b', e, hx⟩
      · exact .inl h3
      · exact .inr ⟨x, b', e, by simpa using hx⟩
    · rw [List.set_cons_succ, List.take_succ_cons, List.drop_succ_cons, List.take_succ_cons, List.drop_succ_cons, List.cons_append, List.cons_append, mix_cons, h5 l k' r]
      simp

/-- cut in the middle -/
theorem mix_cut : ∀ (ks : List K) (ts : List (B K)) (i : Nat) (k : K), Kidly ts ks → ks[i]? = some k → mix ts ks = mix (ts.take (i + 1)) (ks.take i) ++ k :: mix (ts.drop (i + 1)) (ks.drop (i + 1))
  | ks, [], i, k, _, hk => by
    obtain ⟨hi, rfl⟩ := List.getElem?_eq_some_iff.1 hk
    simp only [List.take_nil, List.drop_nil, mix_nil]
    rw [← List.drop_eq_getElem_cons hi, List.take_append_drop]
  | [], u :: ts, i, k, _, hk => by simp at hk
  | x :: ks, u :: ts, 0, k, _, hk => by
    simp at hk
    subst hk
    rw [mix_cons]
    simp only [Nat.zero_add, List.take_succ_cons, List.take_zero, List.drop_succ_cons, List.drop_zero]
    rw [mix_one]
  | x :: ks, u :: ts, i + 1, k, h, hk => by
    have h' : ts.length = ks.length + 1 := by rcases h with h | h <;> simp at h; exact h
    rw [mix_cons, mix_cut ks ts i k (.inr h') (by simpa using hk), List.take_succ_cons, List.take_succ_cons, List.drop_succ_cons, List.drop_succ_cons, mix_cons]
    simp

/-- a node on the way down, and the kid at which the way goes on -/
structure Fr (K : Type) where
  id : Nat
  keys : List K
  kids : List (B K)
  at_ : Nat

/-- a tree hung back into the nodes above it (the last one first) -/
def plug : List (Fr K) → B K → B K
  | [], t => t
  | f :: z, t => plug z (.mk f.id f.keys (f.kids.set f.at_ t))

/-- as many kids as there must be, and the place is one of theirs -/
def GoodZ (z : List (Fr K)) : Prop := ∀ f ∈ z, f.kids.length = f.keys.length + 1 ∧ f.at_ < f.kids.length

/-- what goes up: a node, a key, a node right of it (`nx`: the number of the next new node; `most` keys a node has at most, `half` the middle) -/
def goUp (most half : Nat) : List (Fr K) → B K → K → B K → Nat → B K × Nat
  | [], l, k, r, nx => (.mk nx [k] [l, r], nx + 1)
  | f :: z, l, k, r, nx =>
    let ks := f.keys.take f.at_ ++ k :: f.keys.drop f.at_
    let ts := (f.kids.set f.at_ l).take (f.at_ + 1) ++ r :: (f.kids.set f.at_ l).drop (f.at_ + 1)
    if ks.length ≤ most then (plug z (.mk f.id ks ts), nx)
    else match ks[half]? with
      | some m => goUp most half z (.mk f.id (ks.take half) (ts.take (half + 1))) m (.mk nx (ks.drop (half + 1)) (ts.drop (half + 1))) (nx + 1)
      | none => (plug z (.mk f.id ks ts), nx)

theorem goUp_flat (most half : Nat) : ∀ (z : List (Fr K)), GoodZ z → ∃ a b, (∀ t, (plug z t).flat = a ++ t.flat ++ b) ∧ ∀ l k r nx, (goUp most half z l k r nx).1.flat = a ++ (l.flat ++ k :: r.flat) ++ b
  | [], _ => ⟨[], [], fun t => by rw [plug]; simp, fun l k r nx => by
      rw [goUp, B.flat, mix_cons, mix_one]; simp⟩
  | f :: z, h => by
    obtain ⟨a, b, h1, h2⟩ := goUp_flat most half z (fun g hg => h g (List.mem_cons_of_mem _ hg))
    obtain ⟨hl, hat⟩ := h f (by simp)
    obtain ⟨a', b', e1, -, -, e2, e3⟩ := mix_at f.keys f.kids f.at_ f.kids[f.at_] hl (List.getElem?_eq_getElem hat)
    refine ⟨a ++ a', b' ++ b, fun t => by rw [plug, h1, B.flat, e2]; simp, fun l k r nx => ?_⟩
    have e4 := e3 l k r
    rw [goUp]
    split
    · rw [h1, B.flat, e4]; simp
    · split
      · next m hm =>
        rw [h2, B.flat, B.flat, ← mix_cut _ _ half m (.inr ?_) hm, e4]
        · simp
        · simp; omega
      · rw [h1, B.flat, e4]; simp

end
end Go.Proofs.Ytmhpgbhmhbldfaa
