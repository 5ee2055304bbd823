/- what is laid while a key goes up (plain mathematics) -/
import Derived.Test.YtmhpgbhmhbldfaaTrG
namespace Go.Proofs.Ytmhpgbhmhbldfaa

section
variable {K : Type}

/-- the nodes beside the one that is being changed -/
def pendN (z : List (Fr K)) (f : Fr K) (rt : B K) : List (Nd K) := nodesL f.kids ++ ((if f.kids = [] then [] else rt.nodes) ++ ctxN z f.id)

def Pend (P : Nd K → Prop) (nx : Nat) (z : List (Fr K)) (f : Fr K) (rt : B K) : Prop :=
  (∀ x ∈ pendN z f rt, P x) ∧ (f.id :: (pendN z f rt).map (·.1)).Nodup ∧ ∀ i ∈ f.id :: (pendN z f rt).map (·.1), 1 ≤ i ∧ i < nx

def Whole (P : Nd K → Prop) (nx : Nat) (l : List (Nd K)) : Prop := (∀ x ∈ l, P x) ∧ (l.map (·.1)).Nodup ∧ ∀ i ∈ l.map (·.1), 1 ≤ i ∧ i < nx

theorem mem_tsUp {f : Fr K} {rt : B K} {x : Nd K} (h : x ∈ nodesL (tsUp f rt)) : x ∈ nodesL f.kids ∨ x ∈ (if f.kids = [] then [] else rt.nodes) := by
  unfold tsUp at h
  split at h
  · rw [nodesL_nil] at h; cases h
  · next hne =>
    rw [nodesL_app, nodesL_cons] at h
    rw [← nodesL_cut f.kids (f.at_ + 1), if_neg hne]
    simp only [List.mem_append] at h ⊢
    rcases h with h | h | h
    · exact .inl (.inl h)
    · exact .inr h
    · exact .inl (.inr h)

theorem count_tsUp (f : Fr K) (rt : B K) (a : Nat) : ((nodesL (tsUp f rt)).map (·.1)).count a = ((nodesL f.kids).map (·.1)).count a + ((if f.kids = [] then [] else rt.nodes).map (·.1)).count a := by
  unfold tsUp
  split
  · next h => rw [h, nodesL_nil]; simp
  · rw [nodesL_app, nodesL_cons, ← nodesL_cut f.kids (f.at_ + 1)]
    simp only [List.map_append, List.count_append]
    omega

theorem mk_id (i : Nat) (ks : List K) (ts : List (B K)) : (B.mk i ks ts).id = i := rfl

/-- a node that has room -/
theorem pend_fit {P P' : Nd K → Prop} {nx : Nat} {z : List (Fr K)} {f : Fr K} {rt : B K} {k : K} (h : Pend P nx z f rt) (hz : GoodZ z) (hP : ∀ x, x.1 ≠ f.id → P x → P' x) (hn : P' (f.id, ksUp f k, (tsUp f rt).map B.id)) :
    Whole P' nx (plug z (.mk f.id (ksUp f k) (tsUp f rt))).nodes := by
  obtain ⟨h1, h2, h3⟩ := h
  have hp := nodes_plug z hz (.mk f.id (ksUp f k) (tsUp f rt))
  rw [nodes_mk, mk_id, List.cons_append] at hp
  have hc : ((plug z (.mk f.id (ksUp f k) (tsUp f rt))).nodes.map (·.1)).Perm (f.id :: (pendN z f rt).map (·.1)) := by
    refine (hp.map (·.1)).trans (List.perm_iff_count.2 fun a => ?_)
    unfold pendN
    simp only [List.map_cons, List.map_append, List.count_cons, List.count_append, count_tsUp]
    omega
  refine ⟨fun x hx => ?_, hc.nodup_iff.2 h2, fun i hi => h3 i (hc.mem_iff.1 hi)⟩
  rcases List.mem_cons.1 (hp.mem_iff.1 hx) with rfl | hx
  · exact hn
  · have hm : x ∈ pendN z f rt := by
      unfold pendN
      rcases List.mem_append.1 hx with hx | hx
      · rcases mem_tsUp hx with hx | hx
        · exact List.mem_append_left _ hx
        · exact List.mem_append_right _ (List.mem_append_left _ hx)
      · exact List.mem_append_right _ (List.mem_append_right _ hx)
    exact hP x (fun e => (List.nodup_cons.1 h2).1 (by rw [← e]; exact List.mem_map.2 ⟨x, hm, rfl⟩)) (h1 x hm)

/-- a node that is cut, below another one -/
theorem pend_cut {P P' : Nd K → Prop} {nx : Nat} {z : List (Fr K)} {f g : Fr K} {rt : B K} {ks1 ks2 : List K} (h : Pend P nx (g :: z) f rt) (hz : GoodZ (g :: z)) (hl : Linked (g :: z) f.id) (n : Nat)
    (hP : ∀ x, x.1 ≠ f.id → x.1 ≠ nx → P x → P' x) (hn1 : P' (f.id, ks1, ((tsUp f rt).take n).map B.id)) (hn2 : P' (nx, ks2, ((tsUp f rt).drop n).map B.id)) :
    Pend P' (nx + 1) z { g with kids := g.kids.set g.at_ (.mk f.id ks1 ((tsUp f rt).take n)) } (.mk nx ks2 ((tsUp f rt).drop n)) := by
  obtain ⟨h1, h2, h3⟩ := h
  obtain ⟨hgl, hat⟩ := hz g (by simp)
  have hctx := ctxN_linked hl
  have hne : g.kids.set g.at_ (.mk f.id ks1 ((tsUp f rt).take n)) ≠ [] := fun e => by
    have := congrArg List.length e
    rw [List.length_set, hgl] at this; simp at this
  have hset := nodesL_set g.kids g.at_ (.mk f.id ks1 ((tsUp f rt).take n)) hat
  have hcut := nodesL_cut (tsUp f rt) n
  have hcount := fun a => count_tsUp f rt a
  have hc : (g.id :: (pendN z { g with kids := g.kids.set g.at_ (.mk f.id ks1 ((tsUp f rt).take n)) } (.mk nx ks2 ((tsUp f rt).drop n))).map (·.1)).Perm (nx :: f.id :: (pendN (g :: z) f rt).map (·.1)) := by
    refine List.perm_iff_count.2 fun a => ?_
    have e1 := (hset.map (·.1)).count_eq a
    have e2 := hcount a
    rw [← hcut] at e2
    unfold pendN
    simp only
    rw [if_neg hne, hctx, nodes_mk]
    rw [nodes_mk] at e1
    simp only [List.map_cons, List.map_append, List.count_cons, List.count_append, List.cons_append] at e1 e2 ⊢
    omega
  have hnx : nx ∉ f.id :: (pendN (g :: z) f rt).map (·.1) := fun hx => by have := (h3 nx hx).2; omega
  refine ⟨fun x hx => ?_, hc.nodup_iff.2 (List.nodup_cons.2 ⟨hnx, h2⟩), fun i hi => ?_⟩
  · have hold : x ∈ pendN (g :: z) f rt → P' x := fun hm => hP x (fun e => (List.nodup_cons.1 h2).1 (by rw [← e]; exact List.mem_map.2 ⟨x, hm, rfl⟩)) (fun e => hnx (List.mem_cons_of_mem _ (by rw [← e]; exact List.mem_map.2 ⟨x, hm, rfl⟩))) (h1 x hm)
    have hts : x ∈ nodesL (tsUp f rt) → P' x := fun hm => hold (by
      unfold pendN
      rcases mem_tsUp hm with hm | hm
      · exact List.mem_append_left _ hm
      · exact List.mem_append_right _ (List.mem_append_left _ hm))
    rw [← hcut] at hts
    unfold pendN at hx
    simp only at hx
    rw [if_neg hne] at hx
    rcases List.mem_append.1 hx with hx | hx
    · rcases List.mem_append.1 (hset.mem_iff.1 hx) with hx | hx
      · rw [nodes_mk] at hx
        rcases List.mem_cons.1 hx with rfl | hx
        · exact hn1
        · exact hts (List.mem_append_left _ hx)
      · exact hold (by unfold pendN; rw [hctx]; simp only [List.mem_append, List.mem_cons]; rw [List.mem_append] at hx; exact .inr (.inr (.inr (.inl hx))))
    · rcases List.mem_append.1 hx with hx | hx
      · rw [nodes_mk] at hx
        rcases List.mem_cons.1 hx with rfl | hx
        · exact hn2
        · exact hts (List.mem_append_right _ hx)
      · exact hold (by unfold pendN; rw [hctx]; simp only [List.mem_append, List.mem_cons]; exact .inr (.inr (.inr (.inr hx))))
  · rcases List.mem_cons.1 (hc.mem_iff.1 hi) with rfl | hi
    · have := (h3 f.id (by simp)).2
      omega
    · have := h3 i hi; omega

/-- the root is cut -/
theorem pend_top {P P' : Nd K → Prop} {nx : Nat} {f : Fr K} {rt : B K} {ks1 ks2 : List K} (h : Pend P nx [] f rt) (n : Nat)
    (hP : ∀ x, x.1 ≠ f.id → x.1 ≠ nx → P x → P' x) (hn1 : P' (f.id, ks1, ((tsUp f rt).take n).map B.id)) (hn2 : P' (nx, ks2, ((tsUp f rt).drop n).map B.id)) :
    Whole P' (nx + 1) ((B.mk f.id ks1 ((tsUp f rt).take n)).nodes ++ (B.mk nx ks2 ((tsUp f rt).drop n)).nodes) := by
  obtain ⟨h1, h2, h3⟩ := h
  have hcut := nodesL_cut (tsUp f rt) n
  have hc : (((B.mk f.id ks1 ((tsUp f rt).take n)).nodes ++ (B.mk nx ks2 ((tsUp f rt).drop n)).nodes).map (·.1)).Perm (nx :: f.id :: (pendN [] f rt).map (·.1)) := by
    refine List.perm_iff_count.2 fun a => ?_
    have e2 := count_tsUp f rt a
    rw [← hcut] at e2
    unfold pendN
    rw [nodes_mk, nodes_mk, ctxN]
    simp only [List.map_cons, List.map_append, List.count_cons, List.count_append, List.cons_append, List.map_nil, List.count_nil] at e2 ⊢
    omega
  have hnx : nx ∉ f.id :: (pendN [] f rt).map (·.1) := fun hx => by have := (h3 nx hx).2; omega
  refine ⟨fun x hx => ?_, hc.nodup_iff.2 (List.nodup_cons.2 ⟨hnx, h2⟩), fun i hi => ?_⟩
  · have hold : x ∈ pendN [] f rt → P' x := fun hm => hP x (fun e => (List.nodup_cons.1 h2).1 (by rw [← e]; exact List.mem_map.2 ⟨x, hm, rfl⟩)) (fun e => hnx (List.mem_cons_of_mem _ (by rw [← e]; exact List.mem_map.2 ⟨x, hm, rfl⟩))) (h1 x hm)
    have hts : x ∈ nodesL (tsUp f rt) → P' x := fun hm => hold (by
      unfold pendN
      rcases mem_tsUp hm with hm | hm
      · exact List.mem_append_left _ hm
      · exact List.mem_append_right _ (List.mem_append_left _ hm))
    rw [← hcut] at hts
    rw [nodes_mk, nodes_mk] at hx
    rcases List.mem_append.1 hx with hx | hx
    · rcases List.mem_cons.1 hx with rfl | hx
      · exact hn1
      · exact hts (List.mem_append_left _ hx)
    · rcases List.mem_cons.1 hx with rfl | hx
      · exact hn2
      · exact hts (List.mem_append_right _ hx)
  · rcases List.mem_cons.1 (hc.mem_iff.1 hi) with rfl | hi
    · have := (h3 f.id (by simp)).2
      omega
    · have := h3 i hi; omega

/-- a new root -/
theorem whole_root {P P' : Nd K → Prop} {nx : Nat} {m : K} {l r : B K} (h : Whole P nx (l.nodes ++ r.nodes)) (h1 : 1 ≤ nx) (hP : ∀ x, x.1 ≠ nx → P x → P' x) (hn : P' (nx, [m], [l.id, r.id])) : Whole P' (nx + 1) (B.mk nx [m] [l, r]).nodes := by
  obtain ⟨h2, h3, h4⟩ := h
  have e : (B.mk nx [m] [l, r]).nodes = (nx, [m], [l.id, r.id]) :: (l.nodes ++ r.nodes) := by
    rw [nodes_mk, nodesL_cons, nodesL_cons, nodesL_nil, List.append_nil]; rfl
  rw [e]
  have hnx : nx ∉ (l.nodes ++ r.nodes).map (·.1) := fun hx => by have := (h4 nx hx).2; omega
  refine ⟨fun x hx => ?_, List.nodup_cons.2 ⟨hnx, h3⟩, fun i hi => ?_⟩
  · rcases List.mem_cons.1 hx with rfl | hx
    · exact hn
    · exact hP x (fun e => hnx (by rw [← e]; exact List.mem_map.2 ⟨x, hx, rfl⟩)) (h2 x hx)
  · rcases List.mem_cons.1 hi with rfl | hi
    · exact ⟨h1, Nat.lt_succ_self _⟩
    · have := h4 i hi; omega

/-- at the leaf nothing has been changed yet -/
theorem pend_start {P : Nd K → Prop} {nx : Nat} {z : List (Fr K)} {c : B K} {at_ : Nat} (hz : GoodZ z) (hc : c.kids = []) (h : Whole P nx (plug z c).nodes) (d : B K) : Pend P nx z ⟨c.id, c.keys, [], at_⟩ d := by
  obtain ⟨h1, h2, h3⟩ := h
  have hp := nodes_plug z hz c
  obtain ⟨i, ks, ts⟩ := c
  simp only [B.kids] at hc
  subst hc
  rw [nodes_mk, nodesL_nil] at hp
  have e : pendN z ⟨i, ks, [], at_⟩ d = ctxN z i := by unfold pendN; rw [nodesL_nil]; simp
  have hm := hp.map (·.1)
  refine ⟨fun x hx => h1 x (hp.mem_iff.2 ?_), ?_, fun j hj => h3 j (hm.mem_iff.2 ?_)⟩
  · rw [show (B.mk i ks []).id = i from rfl, e] at *
    exact List.mem_append_right _ hx
  · show (i :: (pendN z ⟨i, ks, [], at_⟩ d).map (·.1)).Nodup
    rw [e]
    exact hm.nodup_iff.1 h2
  · have hj : j ∈ i :: (pendN z ⟨i, ks, [], at_⟩ d).map (·.1) := hj
    rw [e] at hj
    exact hj

/-- the number of the uppermost node -/
def topId : List (Fr K) → Nat → Nat
  | [], h => h
  | g :: z, _ => topId z g.id

theorem plug_id : ∀ (z : List (Fr K)) (t : B K), (plug z t).id = topId z t.id
  | [], t => by rw [plug, topId]
  | g :: z, t => by rw [plug, plug_id z, topId]; rfl

end
end Go.Proofs.Ytmhpgbhmhbldfaa
