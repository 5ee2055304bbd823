/- trees: their nodes, what stands left and right of a way down, what goes up (plain mathematics) -/
import Derived.Test.YtmhpgbhmhbldfaaTrM
namespace Go.Proofs.Ytmhpgbhmhbldfaa

section
variable {K : Type}

/-- a node: its number, its keys, its kids' numbers -/
abbrev Nd (K : Type) := Nat × List K × List Nat

mutual
def B.nodes : B K → List (Nd K)
  | .mk i ks ts => (i, ks, ts.map B.id) :: nodesL ts
def nodesL : List (B K) → List (Nd K)
  | [] => []
  | t :: ts => t.nodes ++ nodesL ts
end

theorem nodes_mk (i : Nat) (ks : List K) (ts : List (B K)) : (B.mk i ks ts).nodes = (i, ks, ts.map B.id) :: nodesL ts := by rw [B.nodes]
theorem nodesL_nil : nodesL ([] : List (B K)) = [] := by rw [nodesL]
theorem nodesL_cons (t : B K) (ts : List (B K)) : nodesL (t :: ts) = t.nodes ++ nodesL ts := by rw [nodesL]
theorem nodesL_app : ∀ (a b : List (B K)), nodesL (a ++ b) = nodesL a ++ nodesL b
  | [], b => by rw [List.nil_append, nodesL_nil, List.nil_append]
  | t :: a, b => by rw [List.cons_append, nodesL_cons, nodesL_cons, nodesL_app a b, List.append_assoc]

theorem set_split {α : Type} (l : List α) (i : Nat) (t : α) (h : i < l.length) : l.set i t = l.take i ++ t :: l.drop (i + 1) := by
  rw [List.set_eq_take_append_cons_drop, if_pos h]

theorem nodesL_set (ts : List (B K)) (i : Nat) (t : B K) (h : i < ts.length) : (nodesL (ts.set i t)).Perm (t.nodes ++ (nodesL (ts.take i) ++ nodesL (ts.drop (i + 1)))) := by
  rw [set_split _ _ _ h, nodesL_app, nodesL_cons, ← List.append_assoc, ← List.append_assoc]
  exact List.Perm.append_right _ List.perm_append_comm

theorem nodesL_cut (ts : List (B K)) (i : Nat) : nodesL (ts.take i) ++ nodesL (ts.drop i) = nodesL ts := by rw [← nodesL_app, List.take_append_drop]

/-- the nodes round a hole whose node has a number -/
def ctxN : List (Fr K) → Nat → List (Nd K)
  | [], _ => []
  | f :: z, h => (f.id, f.keys, (f.kids.map B.id).set f.at_ h) :: ((nodesL (f.kids.take f.at_) ++ nodesL (f.kids.drop (f.at_ + 1))) ++ ctxN z f.id)

theorem nodes_plug : ∀ (z : List (Fr K)), GoodZ z → ∀ t : B K, (plug z t).nodes.Perm (t.nodes ++ ctxN z t.id)
  | [], _, t => by rw [plug, ctxN, List.append_nil]
  | f :: z, h, t => by
    rw [plug, ctxN]
    have hf := h f (by simp)
    refine (nodes_plug z (fun g hg => h g (List.mem_cons_of_mem _ hg)) _).trans ?_
    rw [nodes_mk]
    show ((f.id, f.keys, (f.kids.set f.at_ t).map B.id) :: nodesL (f.kids.set f.at_ t) ++ ctxN z f.id).Perm _
    rw [List.map_set]
    have h1 := (nodesL_set f.kids f.at_ t hf.2).append_right (ctxN z f.id)
    rw [List.append_assoc] at h1
    rw [List.cons_append]
    exact (List.Perm.cons _ h1).trans List.perm_middle.symm

/-- each hole is the kid of the node above -/
def Linked : List (Fr K) → Nat → Prop
  | [], _ => True
  | f :: z, h => (f.kids.map B.id)[f.at_]? = some h ∧ Linked z f.id

theorem ctxN_linked {f : Fr K} {z : List (Fr K)} {h : Nat} (hl : Linked (f :: z) h) : ctxN (f :: z) h = (f.id, f.keys, f.kids.map B.id) :: ((nodesL (f.kids.take f.at_) ++ nodesL (f.kids.drop (f.at_ + 1))) ++ ctxN z f.id) := by
  rw [ctxN]
  obtain ⟨h1, h2⟩ := List.getElem?_eq_some_iff.1 hl.1
  rw [← h2, List.set_getElem_self]

/-- keys and kids with one more -/
def ksUp (f : Fr K) (k : K) : List K := f.keys.take f.at_ ++ k :: f.keys.drop f.at_
def tsUp (f : Fr K) (r : B K) : List (B K) := if f.kids = [] then [] else f.kids.take (f.at_ + 1) ++ r :: f.kids.drop (f.at_ + 1)

/-- what goes up: a node (its kid that has changed is laid in it already) gets a key and a node right of it -/
def up (most half : Nat) : List (Fr K) → Fr K → K → B K → Nat → B K × Nat
  | z, f, k, r, nx =>
    if (ksUp f k).length ≤ most then (plug z (.mk f.id (ksUp f k) (tsUp f r)), nx)
    else match (ksUp f k)[half]? with
      | none => (plug z (.mk f.id (ksUp f k) (tsUp f r)), nx)
      | some m => match z with
        | [] => (.mk (nx + 1) [m] [.mk f.id ((ksUp f k).take half) ((tsUp f r).take (half + 1)), .mk nx ((ksUp f k).drop (half + 1)) ((tsUp f r).drop (half + 1))], nx + 2)
        | g :: z => up most half z { g with kids := g.kids.set g.at_ (.mk f.id ((ksUp f k).take half) ((tsUp f r).take (half + 1))) } m (.mk nx ((ksUp f k).drop (half + 1)) ((tsUp f r).drop (half + 1))) (nx + 1)
termination_by z => z.length

/-- a node to which a key may come -/
def FrOk (f : Fr K) : Prop := Kidly f.kids f.keys ∧ f.at_ ≤ f.keys.length

theorem ksUp_len {f : Fr K} {k : K} (h : FrOk f) : (ksUp f k).length = f.keys.length + 1 := by
  have := h.2
  unfold ksUp
  simp; omega

theorem tsUp_kid {f : Fr K} {k : K} {r : B K} (h : FrOk f) : Kidly (tsUp f r) (ksUp f k) := by
  unfold tsUp
  split
  · exact .inl rfl
  · next hne =>
    refine .inr ?_
    rw [ksUp_len h]
    have h2 := h.2
    rcases h.1 with h1 | h1
    · exact absurd h1 hne
    · simp; omega

/-- keys among all keys -/
theorem keys_mix : ∀ (ks : List K) (ts : List (B K)), Kidly ts ks → ks.Sublist (mix ts ks)
  | ks, [], _ => by rw [mix_nil]; exact List.Sublist.refl _
  | [], t :: ts, _ => List.nil_sublist _
  | k :: ks, t :: ts, h => by
    rw [mix_cons]
    have h' : ts.length = ks.length + 1 := by rcases h with h | h <;> simp at h; exact h
    exact (List.Sublist.cons_cons _ (keys_mix ks ts (.inr h'))).trans (List.sublist_append_right _ _)

/-- left and right of a hole -/
theorem ctx (lt : K → K → Bool) (H : Lin lt) (k : K) (most half : Nat) : ∀ (z : List (Fr K)) (t0 : B K), GoodZ z → RisK lt (plug z t0).flat → (∀ f ∈ z, f.at_ = placeK lt k f.keys ∧ k ∉ f.keys) →
    ∃ a b, (∀ t, (plug z t).flat = a ++ t.flat ++ b) ∧ (∀ f k' r nx, FrOk f → (up most half z f k' r nx).1.flat = a ++ mix (tsUp f r) (ksUp f k') ++ b) ∧ (∀ x ∈ a, lt x k = true) ∧ (∀ x ∈ b, lt k x = true)
  | [], t0, _, _, _ => by
    refine ⟨[], [], fun t => by rw [plug]; simp, fun f k' r nx hf => ?_, by simp, by simp⟩
    rw [up]
    split
    · rw [plug, B.flat]; simp
    · split
      · rw [plug, B.flat]; simp
      · next m hm =>
        rw [B.flat, mix_cons, mix_one, B.flat, B.flat, ← mix_cut _ _ half m (tsUp_kid hf) hm]; simp
  | g :: z, t0, h, hr, hk => by
    rw [plug] at hr
    obtain ⟨hl, hat⟩ := h g (by simp)
    obtain ⟨a, b, h1, h2, h3, h4⟩ := ctx lt H k most half z _ (fun x hx => h x (List.mem_cons_of_mem _ hx)) hr (fun x hx => hk x (List.mem_cons_of_mem _ hx))
    obtain ⟨a', b', e1, el, er, e2, e3⟩ := mix_at g.keys g.kids g.at_ g.kids[g.at_] hl (List.getElem?_eq_getElem hat)
    rw [h1, B.flat, e2] at hr
    obtain ⟨hgat, hgk⟩ := hk g (by simp)
    have hm : RisK lt (mix (g.kids.set g.at_ t0) g.keys) := by
      rw [e2]
      refine List.Pairwise.sublist ?_ hr
      exact (List.sublist_append_right a _).trans (List.sublist_append_left _ b)
    have hgr : RisK lt g.keys := hm.sublist (keys_mix _ _ (.inr (by rw [List.length_set]; exact hl)))
    have hra : RisK lt a' := by
      rw [e2, List.append_assoc] at hm
      exact hm.sublist (List.sublist_append_left _ _)
    have hrb : RisK lt b' := by
      rw [e2] at hm
      exact hm.sublist (List.sublist_append_right _ _)
    refine ⟨a ++ a', b' ++ b, fun t => by rw [plug, h1, B.flat, e2]; simp, fun f k' r nx hf => ?_, fun x hx => ?_, fun x hx => ?_⟩
    · rw [up]
      split
      · show (plug (g :: z) _).flat = _
        rw [plug, h1, B.flat, e2, B.flat]; simp
      · split
        · show (plug (g :: z) _).flat = _
          rw [plug, h1, B.flat, e2, B.flat]; simp
        · next m hm' =>
          have hok : FrOk { g with kids := g.kids.set g.at_ (.mk f.id ((ksUp f k').take half) ((tsUp f r).take (half + 1))) } := ⟨.inr (by rw [List.length_set]; exact hl), by show g.at_ ≤ g.keys.length; omega⟩
          rw [h2 _ _ _ _ hok]
          have hne : g.kids.set g.at_ (.mk f.id ((ksUp f k').take half) ((tsUp f r).take (half + 1))) ≠ [] := fun e => by
            have := congrArg List.length e
            rw [List.length_set, hl] at this; simp at this
          have et : tsUp { g with kids := g.kids.set g.at_ (.mk f.id ((ksUp f k').take half) ((tsUp f r).take (half + 1))) } (.mk nx ((ksUp f k').drop (half + 1)) ((tsUp f r).drop (half + 1))) = (g.kids.set g.at_ (.mk f.id ((ksUp f k').take half) ((tsUp f r).take (half + 1)))).take (g.at_ + 1) ++ (.mk nx ((ksUp f k').drop (half + 1)) ((tsUp f r).drop (half + 1))) :: (g.kids.set g.at_ (.mk f.id ((ksUp f k').take half) ((tsUp f r).take (half + 1)))).drop (g.at_ + 1) := if_neg hne
          rw [et]
          unfold ksUp
          rw [e3, B.flat, B.flat]
          have := mix_cut (ksUp f k') (tsUp f r) half m (tsUp_kid hf) hm'
          unfold ksUp at this
          rw [← this]
          simp
    · rcases List.mem_append.1 hx with hx | hx
      · exact h3 x hx
      · rcases el with rfl | ⟨a'', y, rfl, hy⟩
        · cases hx
        · rw [hgat] at hy
          have hyk := placeK_take (l := g.keys) y hy
          rcases List.mem_append.1 hx with hx | hx
          · exact H.tr ((List.pairwise_append.1 hra).2.2 x hx y (by simp)) hyk
          · rw [List.mem_singleton.1 hx]; exact hyk
    · rcases List.mem_append.1 hx with hx | hx
      · rcases er with rfl | ⟨y, b'', rfl, hy⟩
        · cases hx
        · rw [hgat] at hy
          have hyk := placeK_drop H hgr hgk y hy
          rcases List.mem_cons.1 hx with rfl | hx
          · exact hyk
          · exact H.tr hyk ((List.pairwise_cons.1 hrb).1 x hx)
      · exact h4 x hx

/-- how many new numbers -/
theorem up_next (most half : Nat) : ∀ (z : List (Fr K)) (f : Fr K) (k : K) (r : B K) (nx : Nat), nx ≤ (up most half z f k r nx).2 ∧ (up most half z f k r nx).2 ≤ nx + z.length + 2
  | [], f, k, r, nx => by
    rw [up]
    split
    · simp
    · split <;> simp
  | g :: z, f, k, r, nx => by
    rw [up]
    split
    · simp; omega
    · split
      · simp; omega
      · next m _ =>
        have := up_next most half z { g with kids := g.kids.set g.at_ (.mk f.id ((ksUp f k).take half) ((tsUp f r).take (half + 1))) } m (.mk nx ((ksUp f k).drop (half + 1)) ((tsUp f r).drop (half + 1))) (nx + 1)
        simp only [List.length_cons]
        omega

/-- nodes with a key each: no deeper than there are keys -/
theorem plug_len : ∀ (z : List (Fr K)) (t : B K), GoodZ z → (∀ f ∈ z, f.keys ≠ []) → z.length + t.flat.length ≤ (plug z t).flat.length
  | [], t, _, _ => by rw [plug]; simp
  | f :: z, t, h, hk => by
    rw [plug]
    have := plug_len z (.mk f.id f.keys (f.kids.set f.at_ t)) (fun g hg => h g (List.mem_cons_of_mem _ hg)) (fun g hg => hk g (List.mem_cons_of_mem _ hg))
    obtain ⟨hl, hat⟩ := h f (by simp)
    obtain ⟨a', b', e1, el, er, e2, e3⟩ := mix_at f.keys f.kids f.at_ f.kids[f.at_] hl (List.getElem?_eq_getElem hat)
    have hs := keys_mix f.keys (f.kids.set f.at_ (.mk 0 [] [])) (.inr (by rw [List.length_set]; exact hl))
    rw [e2, B.flat, mix_nil, List.append_nil] at hs
    have hs := hs.length_le
    rw [List.length_append] at hs
    have h0 : 0 < f.keys.length := List.length_pos_iff.2 (hk f (by simp))
    rw [B.flat, e2] at this
    simp only [List.length_append, List.length_cons] at this ⊢
    omega

end
end Go.Proofs.Ytmhpgbhmhbldfaa
