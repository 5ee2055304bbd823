/- LogFalls: an entry is laid while the power may fail -/
import Derived.Test.YtaoaidjbpfdgmaaLFa
namespace Go.Proofs.Ytaoaidjbpfdgmaa

/-- an entry stands, and noughts behind it -/
def LaidU (u u' : List Sec) (g : Lg) (s : Sec) : Prop :=
  ∀ j, u'.getD j [] = if g.at_ ≤ j ∧ j < g.at_ + sectN s.length then secS g.next s (j - g.at_) else if j = g.at_ + sectN s.length ∧ j < g.to_ then zer else u.getD j []

/-- a first sector that is torn -/
def TornU (u u' : List Sec) (g : Lg) (s : Sec) : Prop :=
  ∃ t, t < 128 ∧ (∀ j, j < g.at_ → u'.getD j [] = u.getD j []) ∧ u'.getD g.at_ [] = (headS g.next s).take t ++ (u.getD g.at_ []).drop t

theorem cutT_le (torn : Int) : cutT torn ≤ 128 := by unfold cutT; omega

theorem crash_one (keep left a : Nat) (s : Sec) (u : List Sec) : crashL keep 0 left [(a, s)] u = u.set a s ∨ crashL keep 0 left [(a, s)] u = u.set a (s.take left ++ (u.getD a []).drop left) := by
  by_cases h : (keep >>> min 0 63) % 2 = 1
  · left; rw [crashL_yes h]; rfl
  · right; rw [crashL_no h]; rfl

theorem set_get {u : List Sec} {a : Nat} (h : a < u.length) (s : Sec) (j : Nat) : (u.set a s).getD j [] = if j = a then s else u.getD j [] := by
  simp only [List.getD_eq_getElem?_getD, List.getElem?_set]
  by_cases hj : a = j
  · subst hj
    rw [if_pos rfl, if_pos h, if_pos rfl]; rfl
  · rw [if_neg hj, if_neg (fun e => hj e.symm)]

theorem fall_lay {d : Dv} (ho : d.off = false) (hl : d.loose = []) {g : Lg} {s : Sec} (hfit : g.at_ + sectN s.length ≤ g.to_) (hto : g.to_ ≤ d.sure.length) (h128 : (d.sure.getD g.at_ []).length = 128) :
    (∃ d', layG d g s = (d', 0) ∧ d'.off = false ∧ d'.loose = [] ∧ d'.sure.length = d.sure.length ∧ LaidU d.sure d'.sure g s) ∨
    (∃ d', layG d g s = (d', 7) ∧ d'.off = true ∧ d'.loose = [] ∧ d'.sure.length = d.sure.length ∧ ((∀ j, j ≤ g.at_ → d'.sure.getD j [] = d.sure.getD j []) ∨ LaidU d.sure d'.sure g s ∨ TornU d.sure d'.sure g s)) := by
  have hp := sectN_pos s.length
  have n7 : ¬ ((7 : Int) = 0) := by decide
  have hlay : layG d g s = if (layL (min (g.at_ + sectN s.length + 1) g.to_ - (g.at_ + 1)) (g.at_ + 1) (s.drop 104) d).2 = 0 then
    (if (flushX (layL (min (g.at_ + sectN s.length + 1) g.to_ - (g.at_ + 1)) (g.at_ + 1) (s.drop 104) d).1).2 = 0 then
      sureG (flushX (layL (min (g.at_ + sectN s.length + 1) g.to_ - (g.at_ + 1)) (g.at_ + 1) (s.drop 104) d).1).1 g.at_ (headS g.next s)
    else flushX (layL (min (g.at_ + sectN s.length + 1) g.to_ - (g.at_ + 1)) (g.at_ + 1) (s.drop 104) d).1)
  else layL (min (g.at_ + sectN s.length + 1) g.to_ - (g.at_ + 1)) (g.at_ + 1) (s.drop 104) d := rfl
  rw [hlay]
  clear hlay
  obtain ⟨K, hK⟩ : ∃ K, K = min (g.at_ + sectN s.length + 1) g.to_ - (g.at_ + 1) := ⟨_, rfl⟩
  rw [← hK]
  rcases fall_lays (g.at_ + 1) K (g.at_ + 1) (s.drop 104) ho (Nat.le_refl _) (by rw [hl]; simp) (by omega) with ⟨d1, e1, o1, s1, l1, f1⟩ | ⟨d1, e1, c1⟩
  · rw [e1]
    simp only [if_true]
    rcases flush_cases o1 with ⟨d2, e2, s2, l2, o2⟩ | ⟨d2, e2, c2⟩
    · rw [e2]
      simp only [if_true]
      have hlen2 : d2.sure.length = d.sure.length := by rw [s2, conL_len, s1]
      have hlay : LaidU d.sure (d2.sure.set g.at_ (headS g.next s)) g s := by
        intro j
        rw [set_get (by omega), s2, f1 j, con_sure hl]
        by_cases hj : j = g.at_
        · rw [if_pos hj, if_pos (by omega), hj, Nat.sub_self]; rfl
        · rw [if_neg hj]
          by_cases h1 : g.at_ ≤ j ∧ j < g.at_ + sectN s.length
          · rw [if_pos h1, if_pos (by omega)]
            obtain ⟨i, hi⟩ : ∃ i, j - g.at_ = i + 1 := ⟨j - g.at_ - 1, by omega⟩
            rw [hi]
            show _ = partS _ i
            congr 1
            omega
          · rw [if_neg h1]
            by_cases h2 : j = g.at_ + sectN s.length ∧ j < g.to_
            · rw [if_pos h2, if_pos (by omega), ← part_behind s]
              congr 1
              omega
            · rw [if_neg h2, if_neg (by omega)]
      have hsame2 : ∀ j, j ≤ g.at_ → d2.sure.getD j [] = d.sure.getD j [] := fun j hj => by
        rw [s2, f1 j, if_neg (by omega), con_sure hl]
      have hfh : fillS (headS g.next s) 128 = headS g.next s := fillS_full headS_len
      unfold sureG
      rw [hfh]
      rcases write_cases o2 (a := g.at_) (by omega) (s := headS g.next s) headS_len with ⟨d3, e3, s3, l3, o3⟩ | ⟨d3, e3, c3⟩
      · rw [e3]
        simp only [if_true]
        have hc3 : conL d3 = d2.sure.set g.at_ (headS g.next s) := by
          unfold conL
          rw [l3, s3, l2]
          rw [flushP_put, flushP_nil]
        rcases flush_cases o3 with ⟨d4, e4, s4, l4, o4⟩ | ⟨d4, e4, c4⟩
        · refine .inl ⟨d4, e4, o4, l4, ?_, ?_⟩
          · rw [s4, conL_len, s3, hlen2]
          · rw [s4, hc3]
            exact hlay
        · refine .inr ⟨d4, e4, ?_⟩
          have hlen4 := c4.len
          obtain ⟨keep, torn, h1, h2, h3⟩ := c4
          refine ⟨h3, h2, by rw [hlen4, s3, hlen2], ?_⟩
          have e5 : putL g.at_ (headS g.next s) d2.loose = [(g.at_, headS g.next s)] := by rw [l2]; rfl
          rw [l3, e5, s3] at h1
          rcases crash_one keep (cutT torn) g.at_ (headS g.next s) d2.sure with h | h
          · rw [h] at h1
            rw [h1]
            exact .inr (.inl hlay)
          · rw [h] at h1
            have hle := cutT_le torn
            rw [hsame2 g.at_ (Nat.le_refl _)] at h1
            by_cases ht : cutT torn = 128
            · have e6 : (headS g.next s).take (cutT torn) ++ (d.sure.getD g.at_ []).drop (cutT torn) = headS g.next s := by
                rw [ht, List.take_of_length_le (by rw [headS_len]; omega), List.drop_of_length_le (by omega), List.append_nil]
              rw [e6] at h1
              rw [h1]
              exact .inr (.inl hlay)
            · refine .inr (.inr ⟨cutT torn, by omega, fun j hj => ?_, ?_⟩)
              · rw [h1, set_get (by omega), if_neg (by omega), hsame2 j (by omega)]
              · rw [h1, set_get (by omega), if_pos rfl]
      · rw [e3]
        rw [if_neg n7]
        refine .inr ⟨d3, rfl, ?_, ?_, by rw [c3.len, hlen2], .inl fun j hj => ?_⟩
        · obtain ⟨_, _, -, -, h3⟩ := c3; exact h3
        · obtain ⟨_, _, -, h3, -⟩ := c3; exact h3
        · rw [c3.other (by rw [l2]; simp), hsame2 j hj]
    · rw [e2]
      rw [if_neg n7]
      refine .inr ⟨d2, rfl, ?_, ?_, by rw [c2.len, s1], .inl fun j hj => ?_⟩
      · obtain ⟨_, _, -, -, h3⟩ := c2; exact h3
      · obtain ⟨_, _, -, h3, -⟩ := c2; exact h3
      · rw [c2.other fun p hp => by have := l1 p hp; omega, s1]
  · rw [e1]
    rw [if_neg n7]
    exact .inr ⟨d1, rfl, c1.off, c1.loose, c1.len, .inl fun j hj => c1.same j (by omega)⟩

/-- behind so many rounds -/
structure FallsI (d : Dv) (g : Lg) (acc : List Sec) (first i : Nat) : Prop where
  on : d.off = false
  loose : d.loose = []
  len : d.sure.length = 14
  from_ : g.from_ = 0
  to_ : g.to_ = 14
  ate : g.at_ ≤ 14
  chain : Chain d.sure 0 first acc g.at_
  next : g.next = first + acc.length
  f1 : 1 ≤ first
  nx : g.next ≤ 1 + i
  few : ∀ s ∈ acc, s.length ≤ 500
  safe0 : Back (d.sure.getD 0 []) g.next
  safeAt : g.at_ < 14 → Back (d.sure.getD g.at_ []) g.next

theorem Back.more {x : Sec} {n m : Nat} (h : Back x n) (hm : n ≤ m) : Back x m := by
  obtain ⟨b, hb, e⟩ := h
  exact ⟨b, by omega, e⟩

theorem falls_start : FallsI (newD 14) ⟨0, 14, 0, 1⟩ [] 1 0 where
  on := rfl
  loose := rfl
  len := new_len _
  from_ := rfl
  to_ := rfl
  ate := Nat.zero_le _
  chain := rfl
  next := rfl
  f1 := Nat.le_refl _
  nx := Nat.le_refl _
  few := by simp
  safe0 := by rw [show (newD 14).sure.getD 0 [] = zer from rfl]; exact zer_back (by decide)
  safeAt := fun _ => by rw [show (newD 14).sure.getD 0 [] = zer from rfl]; exact zer_back (by decide)

theorem falls_reset {d : Dv} {g : Lg} {acc : List Sec} {first i : Nat} (h : FallsI d g acc first i) : FallsI d { g with at_ := g.from_ } [] g.next i where
  on := h.on
  loose := h.loose
  len := h.len
  from_ := h.from_
  to_ := h.to_
  ate := by show g.from_ ≤ 14; rw [h.from_]; omega
  chain := by show 0 = g.from_; rw [h.from_]
  next := rfl
  f1 := by have := h.f1; have := h.next; omega
  nx := h.nx
  few := by simp
  safe0 := h.safe0
  safeAt := fun _ => by show Back (d.sure.getD g.from_ []) _; rw [h.from_]; exact h.safe0

theorem falls_more {d : Dv} {g : Lg} {acc : List Sec} {first i : Nat} (h : FallsI d g acc first i) : FallsI d g acc first (i + 1) :=
  ⟨h.on, h.loose, h.len, h.from_, h.to_, h.ate, h.chain, h.next, h.f1, by have := h.nx; omega, h.few, h.safe0, h.safeAt⟩

theorem falls_plan {d : Dv} {g : Lg} {acc : List Sec} {first i : Nat} (h : FallsI d g acc first i) (p : List Fal) : FallsI { d with plan := p } g acc first i :=
  ⟨h.on, h.loose, h.len, h.from_, h.to_, h.ate, h.chain, h.next, h.f1, h.nx, h.few, h.safe0, h.safeAt⟩

theorem falls_open {d : Dv} {g : Lg} {acc : List Sec} {first i : Nat} (h : FallsI d g acc first i) (hi : i ≤ 20) : openG d ⟨0, 14, 0, first⟩ = (acc, g) := by
  have hn := h.next; have hf := h.f1; have hnx := h.nx
  have hto := h.to_; have hlen := h.len; have hat := h.ate
  have hg : ({ from_ := 0, to_ := 14, at_ := g.at_, next := first + acc.length } : Lg) = g := by
    obtain ⟨a, b, c, e⟩ := g
    have h1 : a = 0 := h.from_
    have h2 : b = 14 := h.to_
    have h3 : e = first + acc.length := h.next
    subst h1 h2 h3
    rfl
  have := open_chain h.on (l := acc) (g := ⟨0, 14, 0, first⟩) (e := g.at_) (by show 14 ≤ _; omega) (by rw [con_sure h.loose]; exact h.chain) hat (by show first ≠ 0; omega) (by show first + _ < _; omega) (fun s hs => by have := h.few s hs; omega) (by
    rw [hg]
    exact back_none h.on h.loose (by omega) (by omega) fun h2 => h.safeAt (by omega))
  rw [hg] at this
  exact this

/-- an entry came through -/
theorem falls_laid {d d' : Dv} {g : Lg} {acc : List Sec} {first i : Nat} (h : FallsI d g acc first i) {s : Sec} (hs : s.length ≤ 500) (hfit : g.at_ + sectN s.length ≤ 14) (ho : d'.off = false) (hl : d'.loose = []) (hlen : d'.sure.length = d.sure.length) (hu : LaidU d.sure d'.sure g s) :
    FallsI d' { g with at_ := g.at_ + sectN s.length, next := g.next + 1 } (acc ++ [s]) first (i + 1) := by
  have hp := sectN_pos s.length
  have hn := h.next
  have hto := h.to_
  have hle := Chain.le h.chain
  refine ⟨ho, hl, by rw [hlen]; exact h.len, h.from_, h.to_, hfit, ?_, ?_, h.f1, ?_, ?_, ?_, ?_⟩
  · refine Chain.snoc (h.chain.keep fun j h1 h2 => ?_) ?_
    · rw [hu j, if_neg (by omega), if_neg (by omega)]
    · rw [← hn]
      intro k hk
      rw [hu, if_pos ⟨by omega, by omega⟩, Nat.add_sub_cancel_left]
  · show g.next + 1 = _
    rw [List.length_append]; simp only [List.length_singleton]; omega
  · show g.next + 1 ≤ _
    have := h.nx; omega
  · intro t ht
    rcases List.mem_append.1 ht with ht | ht
    · exact h.few t ht
    · rw [List.mem_singleton] at ht
      subst ht
      exact hs
  · show Back _ (g.next + 1)
    rw [hu 0]
    by_cases h0 : g.at_ = 0
    · rw [if_pos (by omega), h0]
      exact head_backs (Nat.lt_succ_self _)
    · rw [if_neg (by omega), if_neg (by omega)]
      exact h.safe0.more (Nat.le_succ _)
  · intro h2
    have h2' : g.at_ + sectN s.length < 14 := h2
    show Back (d'.sure.getD (g.at_ + sectN s.length) []) (g.next + 1)
    rw [hu, if_neg (by omega), if_pos ⟨rfl, by omega⟩]
    exact zer_back (by omega)

/-- nothing came through -/
theorem falls_lost {d d' : Dv} {g : Lg} {acc : List Sec} {first i : Nat} (h : FallsI d g acc first i) (ho : d'.off = false) (hl : d'.loose = []) (hlen : d'.sure.length = d.sure.length) (hu : ∀ j, j < g.at_ → d'.sure.getD j [] = d.sure.getD j []) (ha : g.at_ < 14 → Back (d'.sure.getD g.at_ []) g.next) :
    FallsI d' g acc first (i + 1) := by
  refine ⟨ho, hl, by rw [hlen]; exact h.len, h.from_, h.to_, h.ate, h.chain.keep fun j h1 h2 => hu j h2, h.next, h.f1, by have := h.nx; omega, h.few, ?_, ha⟩
  by_cases h0 : g.at_ = 0
  · have := ha (by omega)
    rw [h0] at this
    exact this
  · rw [hu 0 (by omega)]
    exact h.safe0

theorem falls_add {d : Dv} {g : Lg} {acc : List Sec} {first i : Nat} (h : FallsI d g acc first i) (hi : i ≤ 20) (hb : ∀ s ∈ d.sure, s.length = 128) {s : Sec} (hs : s.length ≤ 500) :
    (∃ d' g', addG d g s = (d', g', 0) ∧ FallsI d' g' (acc ++ [s]) first (i + 1)) ∨ addG d g s = (d, g, 40) ∨
    (∃ d', addG d g s = (d', g, 7) ∧ d'.off = true ∧ ((FallsI { d' with plan := [], off := false } g acc first (i + 1)) ∨ (∃ g', FallsI { d' with plan := [], off := false } g' (acc ++ [s]) first (i + 1)))) := by
  have hto := h.to_; have hlen := h.len; have hnx := h.nx; have hf := h.f1; have hn := h.next; have hat := h.ate
  have hp := sectN_pos s.length
  by_cases hfit : g.at_ + sectN s.length ≤ 14
  · have hw : wipeG d g = (d, 0) := by
      unfold wipeG
      rw [back_none h.on h.loose (by omega) (by omega) fun h2 => h.safeAt (by omega)]
      rfl
    have hpass : passG g s.length = { g with at_ := g.at_ + sectN s.length, next := g.next + 1 } := by
      unfold passG
      rw [Nat.mod_eq_of_lt (by omega)]
    have h128 : (d.sure.getD g.at_ []).length = 128 := by
      have hlt : g.at_ < d.sure.length := by omega
      rw [List.getD_eq_getElem?_getD, List.getElem?_eq_getElem hlt]
      exact hb _ (List.getElem_mem hlt)
    have hadd : addG d g s = if (layG d g s).2 = 0 then ((layG d g s).1, passG g s.length, 0) else ((layG d g s).1, g, (layG d g s).2) := by
      unfold addG
      rw [h.on, if_neg (by simp), if_neg (by omega), hw]
      rfl
    rcases fall_lay h.on h.loose (g := g) (s := s) (by omega) (by omega) h128 with ⟨d', e1, o1, l1, k1, u1⟩ | ⟨d', e1, o1, l1, k1, u1⟩
    · rw [e1] at hadd
      rw [hpass] at hadd
      refine .inl ⟨d', _, hadd, falls_laid h hs hfit o1 l1 k1 u1⟩
    · rw [e1] at hadd
      rw [if_neg (show ¬ ((7 : Int) = 0) by decide)] at hadd
      refine .inr (.inr ⟨d', hadd, o1, ?_⟩)
      rcases u1 with u1 | u1 | ⟨t, ht, u1, u2⟩
      · exact .inl (falls_lost h rfl l1 k1 (fun j hj => u1 j (by omega)) fun h2 => by show Back (d'.sure.getD _ _) _; rw [u1 _ (Nat.le_refl _)]; exact h.safeAt h2)
      · exact .inr ⟨_, falls_laid h hs hfit rfl l1 k1 u1⟩
      · refine .inl (falls_lost h rfl l1 k1 u1 fun h2 => ?_)
        show Back (d'.sure.getD _ _) _
        rw [u2]
        exact torn_back (h.safeAt h2) (by omega) (by omega) ht
  · exact .inr (.inl (full_add h.on (.inr (by rw [hto]; omega))))

end Go.Proofs.Ytaoaidjbpfdgmaa
