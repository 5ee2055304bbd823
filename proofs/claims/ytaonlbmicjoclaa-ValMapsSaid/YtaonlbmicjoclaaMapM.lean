/- maps: plain mathematics of sorting pairs, of laying one behind the other, and of one by one insertion -/
import Derived.Test.YtaonlbmicjoclaaOrd
namespace Go.Proofs.Ytaonlbmicjoclaa
open Go.ChangeShapes Go.WideShapes Go.ChangeAt Go.RowKit Go.Fl

/-- one by one, in order: of keys that are the same the first stays, the last value counts -/
def insR (p : T × T) : List (T × T) → List (T × T)
  | [] => [p]
  | q :: r => if cmpT q.1 p.1 = 0 then (q.1, p.2) :: r else if cmpT q.1 p.1 < 0 then q :: insR p r else p :: q :: r

/-- behind all that are not above it -/
def insS (p : T × T) : List (T × T) → List (T × T)
  | [] => [p]
  | q :: r => if cmpT p.1 q.1 < 0 then p :: q :: r else q :: insS p r

/-- of a row of pairs in order: those whose keys are the same as one -/
def grp (k v : T) : List (T × T) → List (T × T)
  | [] => [(k, v)]
  | q :: r => if cmpT k q.1 = 0 then grp k q.2 r else (k, v) :: grp q.1 q.2 r

def mrg : List (T × T) → List (T × T)
  | [] => []
  | q :: r => grp q.1 q.2 r

def mapR (l : List (T × T)) : List (T × T) := l.foldl (fun s p => insR p s) []
def srt (l : List (T × T)) : List (T × T) := l.foldl (fun s p => insS p s) []

/-- in order -/
def Asc : List (T × T) → Prop := List.Pairwise fun a b => cmpT a.1 b.1 ≤ 0

theorem insR_e {p q : T × T} {r : List (T × T)} (h : cmpT q.1 p.1 = 0) : insR p (q :: r) = (q.1, p.2) :: r := by rw [insR, if_pos h]
theorem insR_l {p q : T × T} {r : List (T × T)} (h : cmpT q.1 p.1 < 0) : insR p (q :: r) = q :: insR p r := by rw [insR, if_neg (by omega), if_pos h]
theorem insR_g {p q : T × T} {r : List (T × T)} (h : 0 < cmpT q.1 p.1) : insR p (q :: r) = p :: q :: r := by rw [insR, if_neg (by omega), if_neg (by omega)]

theorem cmp_flip (a b : T) : cmpT b a = -cmpT a b := cmpT_neg a b

theorem mem_insS {p x : T × T} {l : List (T × T)} (h : x ∈ insS p l) : x = p ∨ x ∈ l := by
  induction l with
  | nil => rw [insS] at h; simpa using h
  | cons q r ih =>
    rw [insS] at h
    split at h
    · simpa using h
    · rcases List.mem_cons.1 h with rfl | h
      · exact .inr (by simp)
      · rcases ih h with h | h
        · exact .inl h
        · exact .inr (List.mem_cons_of_mem _ h)

theorem insS_asc (p : T × T) (l : List (T × T)) (h : Asc l) : Asc (insS p l) := by
  induction l with
  | nil => rw [insS]; exact List.pairwise_singleton _ _
  | cons q r ih =>
    obtain ⟨h1, h2⟩ := List.pairwise_cons.1 h
    rw [insS]
    split
    · rename_i hlt
      refine List.pairwise_cons.2 ⟨fun x hx => ?_, h⟩
      rcases List.mem_cons.1 hx with rfl | hx
      · omega
      · have := (cmpT_tr p.1 q.1 x.1).1 (by omega) (h1 x hx); omega
    · rename_i hge
      refine List.pairwise_cons.2 ⟨fun x hx => ?_, ih h2⟩
      rcases mem_insS hx with rfl | hx
      · rw [cmp_flip]; omega
      · exact h1 x hx

theorem srt_asc (l : List (T × T)) : Asc (srt l) := by
  suffices h : ∀ s, Asc s → Asc (l.foldl (fun s p => insS p s) s) from h [] List.Pairwise.nil
  induction l with
  | nil => intro s h; exact h
  | cons p r ih => intro s h; exact ih _ (insS_asc p s h)

theorem grp_ins (p : T × T) (r : List (T × T)) : ∀ k v, cmpT k p.1 ≤ 0 → (∀ q ∈ r, cmpT k q.1 ≤ 0) → Asc r → grp k v (insS p r) = insR p (grp k v r) := by
  induction r with
  | nil =>
    intro k v hk _ _
    rw [insS, grp, grp]
    by_cases h0 : cmpT k p.1 = 0
    · rw [if_pos h0, grp, insR_e h0]
    · rw [if_neg h0, insR_l (q := (k, v)) (show cmpT k p.1 < 0 by omega), grp, insR]
  | cons q r ih =>
    intro k v hk hq ha
    obtain ⟨h1, h2⟩ := List.pairwise_cons.1 ha
    have hkq := hq q (by simp)
    rw [insS]
    by_cases hlt : cmpT p.1 q.1 < 0
    · rw [if_pos hlt]
      have hkq' : cmpT k q.1 < 0 := ((cmpT_tr k p.1 q.1).1 hk (by omega)).2 (.inr hlt)
      have hqp : ¬ cmpT q.1 p.1 = 0 := by rw [cmp_flip]; omega
      have hqp' : ¬ cmpT q.1 p.1 < 0 := by rw [cmp_flip]; omega
      have hg : ∀ (k v : T) (r : List (T × T)), ∃ v' s, grp k v r = (k, v') :: s := by
        intro k v r
        induction r generalizing v with
        | nil => exact ⟨v, [], rfl⟩
        | cons u r ih =>
          rw [grp]; split
          · exact ih _
          · exact ⟨_, _, rfl⟩
      obtain ⟨v', s, hs⟩ := hg q.1 q.2 r
      rw [grp, grp, if_neg (show ¬ cmpT k q.1 = 0 by omega)]
      by_cases h0 : cmpT k p.1 = 0
      · rw [if_pos h0, grp, if_neg (show ¬ cmpT k q.1 = 0 by omega), insR_e (q := (k, v)) h0]
      · have e : grp k v (q :: r) = (k, v) :: grp q.1 q.2 r := by rw [grp, if_neg (show ¬ cmpT k q.1 = 0 by omega)]
        rw [if_neg h0, e, insR_l (q := (k, v)) (show cmpT k p.1 < 0 by omega), grp, if_neg (show ¬ cmpT p.1 q.1 = 0 by omega), hs, insR_g (q := (q.1, v')) (show 0 < cmpT q.1 p.1 by omega)]
    · rw [if_neg hlt]
      have hqp : cmpT q.1 p.1 ≤ 0 := by rw [cmp_flip]; omega
      rw [grp, grp]
      by_cases h0 : cmpT k q.1 = 0
      · rw [if_pos h0, if_pos h0]
        refine ih k q.2 hk (fun x hx => ?_) h2
        have := (cmpT_tr k q.1 x.1).1 (by omega) (h1 x hx); omega
      · rw [if_neg h0, if_neg h0, ih q.1 q.2 hqp h1 h2]
        have hkp : cmpT k p.1 < 0 := ((cmpT_tr k q.1 p.1).1 hkq hqp).2 (.inl (by omega))
        rw [insR_l (q := (k, v)) hkp]

theorem mrg_ins (p : T × T) (l : List (T × T)) (h : Asc l) : mrg (insS p l) = insR p (mrg l) := by
  cases l with
  | nil => rfl
  | cons q r =>
    obtain ⟨h1, h2⟩ := List.pairwise_cons.1 h
    rw [insS]
    by_cases hlt : cmpT p.1 q.1 < 0
    · rw [if_pos hlt]
      have hg : ∀ (k v : T) (r : List (T × T)), ∃ v' s, grp k v r = (k, v') :: s := by
        intro k v r
        induction r generalizing v with
        | nil => exact ⟨v, [], rfl⟩
        | cons u r ih =>
          rw [grp]; split
          · exact ih _
          · exact ⟨_, _, rfl⟩
      obtain ⟨v', s, hs⟩ := hg q.1 q.2 r
      have hqp : ¬ cmpT q.1 p.1 = 0 := by rw [cmp_flip]; omega
      have hqp' : ¬ cmpT q.1 p.1 < 0 := by rw [cmp_flip]; omega
      show grp p.1 p.2 (q :: r) = insR p (grp q.1 q.2 r)
      rw [grp, if_neg (by omega), hs, insR_g (q := (q.1, v')) (show 0 < cmpT q.1 p.1 by omega)]
    · rw [if_neg hlt]
      exact grp_ins p r q.1 q.2 (by rw [cmp_flip]; omega) h1 h2

/-- sorted, and then those with the same key laid together: as if one by one -/
theorem mrg_srt (l : List (T × T)) : mrg (srt l) = mapR l := by
  suffices h : ∀ s s', Asc s → mrg s = s' → mrg (l.foldl (fun s p => insS p s) s) = l.foldl (fun s p => insR p s) s' from h [] [] List.Pairwise.nil rfl
  induction l with
  | nil => intro s s' _ h; exact h
  | cons p r ih => intro s s' ha h; exact ih _ _ (insS_asc p s ha) (by rw [mrg_ins p s ha, h])

/-- one more laid behind -/
def stp (out : List (T × T)) (q : T × T) : List (T × T) :=
  match out with
  | [] => [q]
  | [u] => if cmpT u.1 q.1 = 0 then [(u.1, q.2)] else [u, q]
  | u :: r => u :: stp r q

theorem stp_cons (u c q : T × T) (s : List (T × T)) : stp (u :: c :: s) q = u :: stp (c :: s) q := by rw [stp]; simp

theorem grp_ne (k v : T) (r : List (T × T)) : ∃ v' s, grp k v r = (k, v') :: s := by
  induction r generalizing v with
  | nil => exact ⟨v, [], rfl⟩
  | cons u r ih =>
    rw [grp]; split
    · exact ih _
    · exact ⟨_, _, rfl⟩

theorem grp_stp (q : T × T) (x : List (T × T)) : ∀ k v, grp k v (x ++ [q]) = stp (grp k v x) q := by
  induction x with
  | nil => intro k v; rw [List.nil_append, grp, grp, stp]; split <;> rfl
  | cons u x ih =>
    intro k v
    rw [List.cons_append, grp, grp]
    by_cases h : cmpT k u.1 = 0
    · rw [if_pos h, if_pos h]; exact ih k u.2
    · rw [if_neg h, if_neg h, ih]
      obtain ⟨v', s, hs⟩ := grp_ne u.1 u.2 x
      rw [hs, stp_cons]

theorem mrg_stp (x : List (T × T)) (q : T × T) : mrg (x ++ [q]) = stp (mrg x) q := by
  cases x with
  | nil => rfl
  | cons u x => exact grp_stp q x u.1 u.2

/-- what it does to the last one -/
theorem stp_last (x : List (T × T)) (u q : T × T) : stp (x ++ [u]) q = if cmpT u.1 q.1 = 0 then x ++ [(u.1, q.2)] else x ++ [u, q] := by
  induction x with
  | nil => rw [List.nil_append, stp]; split <;> rfl
  | cons a x ih =>
    have hne : ∃ c s, x ++ [u] = c :: s := by cases x with
      | nil => exact ⟨_, _, rfl⟩
      | cons c s => exact ⟨_, _, rfl⟩
    obtain ⟨c, s, hs⟩ := hne
    rw [List.cons_append, hs, stp_cons, ← hs, ih]
    split <;> rfl

theorem insR_comm (p q : T × T) (h : cmpT p.1 q.1 ≠ 0) (s : List (T × T)) : insR p (insR q s) = insR q (insR p s) := by
  have hf := cmp_flip p.1 q.1
  induction s with
  | nil =>
    show insR p [q] = insR q [p]
    rcases Int.lt_trichotomy (cmpT p.1 q.1) 0 with hlt | hlt | hlt
    · rw [insR_g (show 0 < cmpT q.1 p.1 by omega), insR_l hlt]; rfl
    · exact absurd hlt h
    · rw [insR_l (show cmpT q.1 p.1 < 0 by omega), insR_g hlt]; rfl
  | cons k r ih =>
    have t1 := cmpT_tr p.1 k.1 q.1
    have t2 := cmpT_tr q.1 k.1 p.1
    have f1 := cmp_flip k.1 p.1
    have f2 := cmp_flip k.1 q.1
    unfold Tr at t1 t2
    rcases Int.lt_trichotomy (cmpT k.1 q.1) 0 with hq | hq | hq
    · rw [insR_l (p := q) (q := k) (r := r) hq]
      rcases Int.lt_trichotomy (cmpT k.1 p.1) 0 with hp | hp | hp
      · rw [insR_l (p := p) (q := k) (r := r) hp, insR_l (p := p) (q := k) hp, insR_l (p := q) (q := k) hq, ih]
      · rw [insR_e (p := p) (q := k) (r := r) hp, insR_e (p := p) (q := k) hp, insR_l (p := q) (q := (k.1, p.2)) hq]
      · rw [insR_g (p := p) (q := k) (r := r) hp, insR_g (p := p) (q := k) hp, insR_l (p := q) (q := p) (show cmpT p.1 q.1 < 0 by omega), insR_l (p := q) (q := k) hq]
    · rw [insR_e (p := q) (q := k) (r := r) hq]
      rcases Int.lt_trichotomy (cmpT k.1 p.1) 0 with hp | hp | hp
      · rw [insR_l (p := p) (q := k) (r := r) hp, insR_l (p := p) (q := (k.1, q.2)) hp, insR_e (p := q) (q := k) hq]
      · omega
      · rw [insR_g (p := p) (q := k) (r := r) hp, insR_g (p := p) (q := (k.1, q.2)) hp, insR_l (p := q) (q := p) (show cmpT p.1 q.1 < 0 by omega), insR_e (p := q) (q := k) hq]
    · rw [insR_g (p := q) (q := k) (r := r) hq]
      rcases Int.lt_trichotomy (cmpT k.1 p.1) 0 with hp | hp | hp
      · rw [insR_l (p := p) (q := k) (r := r) hp, insR_l (p := p) (q := q) (show cmpT q.1 p.1 < 0 by omega), insR_l (p := p) (q := k) hp, insR_g (p := q) (q := k) hq]
      · rw [insR_e (p := p) (q := k) (r := r) hp, insR_l (p := p) (q := q) (show cmpT q.1 p.1 < 0 by omega), insR_e (p := p) (q := k) hp, insR_g (p := q) (q := (k.1, p.2)) hq]
      · rw [insR_g (p := p) (q := k) (r := r) hp]
        rcases Int.lt_trichotomy (cmpT p.1 q.1) 0 with hlt | hlt | hlt
        · rw [insR_g (p := p) (q := q) (show 0 < cmpT q.1 p.1 by omega), insR_l (p := q) (q := p) hlt, insR_g (p := q) (q := k) hq]
        · exact absurd hlt h
        · rw [insR_l (p := p) (q := q) (show cmpT q.1 p.1 < 0 by omega), insR_g (p := q) (q := p) hlt, insR_g (p := p) (q := k) hp]

/-- keys that are unlike -/
def Unl : List (T × T) → Prop := List.Pairwise fun a b => cmpT a.1 b.1 ≠ 0

theorem fold_out (p : T × T) (l : List (T × T)) (h : ∀ q ∈ l, cmpT p.1 q.1 ≠ 0) : ∀ s, l.foldl (fun s p => insR p s) (insR p s) = insR p (l.foldl (fun s p => insR p s) s) := by
  induction l with
  | nil => intro s; rfl
  | cons q r ih =>
    intro s
    rw [List.foldl_cons, List.foldl_cons, ← insR_comm p q (h q (by simp)) s]
    exact ih (fun x hx => h x (List.mem_cons_of_mem _ hx)) _

theorem mapR_turned (l : List (T × T)) (h : Unl l) : mapR l.reverse = mapR l := by
  unfold mapR
  induction l with
  | nil => rfl
  | cons p r ih =>
    obtain ⟨h1, h2⟩ := List.pairwise_cons.1 h
    rw [List.reverse_cons, List.foldl_append, List.foldl_cons, List.foldl_nil, ih h2, List.foldl_cons, fold_out p r h1]

end Go.Proofs.Ytaonlbmicjoclaa
