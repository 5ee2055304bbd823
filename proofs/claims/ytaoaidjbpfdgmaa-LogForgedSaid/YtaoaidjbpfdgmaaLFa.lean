/- LogFalls: what holds wherever the power fails -/
import Derived.Test.YtaoaidjbpfdgmaaLPly
namespace Go.Proofs.Ytaoaidjbpfdgmaa

/-- a device as a crash leaves it -/
def Crashed (d d' : Dv) : Prop := ∃ keep torn, d'.sure = crashL keep 0 (cutT torn) d.loose d.sure ∧ d'.loose = [] ∧ d'.off = true

theorem step_cases {d : Dv} (ho : d.off = false) : ((stepD d).2 = true ∧ (stepD d).1.sure = d.sure ∧ (stepD d).1.loose = d.loose ∧ (stepD d).1.off = false) ∨ ((stepD d).2 = false ∧ Crashed d (stepD d).1) := by
  unfold stepD
  generalize hl : d.plan = l
  clear hl
  induction l with
  | nil => exact .inl ⟨rfl, rfl, rfl, ho⟩
  | cons f r ih =>
    unfold stepP
    by_cases h1 : f.at_ ≤ d.steps
    · rw [if_pos h1]
      by_cases h2 : f.at_ = d.steps
      · rw [if_pos h2]
        refine .inr ⟨rfl, f.keep, f.torn, ?_⟩
        unfold crashD
        rw [show ({ d with plan := r } : Dv).off = false from ho]
        exact ⟨rfl, rfl, rfl⟩
      · rw [if_neg h2]
        exact ih
    · rw [if_neg h1]
      exact .inl ⟨rfl, rfl, rfl, ho⟩

theorem write_cases {d : Dv} (ho : d.off = false) {a : Nat} (ha : a < d.sure.length) {s : Sec} (hs : s.length = 128) :
    (∃ d', writeD d a s = (d', 0) ∧ d'.sure = d.sure ∧ d'.loose = putL a s d.loose ∧ d'.off = false) ∨ (∃ d', writeD d a s = (d', 7) ∧ Crashed d d') := by
  have e : writeD d a s = if (stepD d).2 then ({ (stepD d).1 with loose := putL a s (stepD d).1.loose }, 0) else ((stepD d).1, 7) := by
    unfold writeD
    rw [ho, if_neg (by simp), if_pos ⟨by omega, by omega, hs⟩, Int.toNat_natCast]
  rcases step_cases ho with ⟨h1, h2, h3, h4⟩ | ⟨h1, h2⟩
  · rw [h1] at e
    exact .inl ⟨_, e, h2, by rw [h3], h4⟩
  · rw [h1] at e
    exact .inr ⟨_, e, h2⟩

theorem flush_cases {d : Dv} (ho : d.off = false) :
    (∃ d', flushX d = (d', 0) ∧ d'.sure = conL d ∧ d'.loose = [] ∧ d'.off = false) ∨ (∃ d', flushX d = (d', 7) ∧ Crashed d d') := by
  have e : flushX d = if (stepD d).2 then (flushD (stepD d).1, 0) else ((stepD d).1, 7) := by
    unfold flushX
    rw [ho, if_neg (by simp)]
  rcases step_cases ho with ⟨h1, h2, h3, h4⟩ | ⟨h1, h2⟩
  · rw [h1] at e
    refine .inl ⟨_, e, ?_, rfl, h4⟩
    show flushP _ _ _ = conL d
    rw [h2, h3]; rfl
  · rw [h1] at e
    exact .inr ⟨_, e, h2⟩

theorem crashL_other (keep : Nat) (j : Nat) : ∀ (l : List (Nat × Sec)) (i left : Nat) (u : List Sec), (∀ p ∈ l, p.1 ≠ j) → (crashL keep i left l u).getD j [] = u.getD j []
  | [], _, _, u, _ => rfl
  | (a, s) :: r, i, left, u, h => by
    have ha : a ≠ j := h (a, s) (by simp)
    have hr : ∀ p ∈ r, p.1 ≠ j := fun p hp => h p (List.mem_cons_of_mem _ hp)
    unfold crashL
    split
    · rw [crashL_other keep j r _ _ _ hr]
      simp only [List.getD_eq_getElem?_getD, List.getElem?_set, if_neg ha]
    · rw [crashL_other keep j r _ _ _ hr]
      simp only [List.getD_eq_getElem?_getD, List.getElem?_set, if_neg ha]

theorem Crashed.len {d d' : Dv} (h : Crashed d d') : d'.sure.length = d.sure.length := by
  obtain ⟨k, t, h1, -, -⟩ := h
  rw [h1, crashL_len]

theorem Crashed.other {d d' : Dv} (h : Crashed d d') {j : Nat} (hj : ∀ p ∈ d.loose, p.1 ≠ j) : d'.sure.getD j [] = d.sure.getD j [] := by
  obtain ⟨k, t, h1, -, -⟩ := h
  rw [h1, crashL_other _ _ _ _ _ _ hj]

theorem con_sure {d : Dv} (h : d.loose = []) : conL d = d.sure := by
  unfold conL
  rw [h, flushP_nil]

/-- a device without power; what stood up to a place is there -/
structure OffTo (d d' : Dv) (m : Nat) : Prop where
  off : d'.off = true
  loose : d'.loose = []
  len : d'.sure.length = d.sure.length
  same : ∀ j, j < m → d'.sure.getD j [] = d.sure.getD j []

theorem fall_lays (m : Nat) : ∀ (k i : Nat) (r : Sec) {d : Dv}, d.off = false → m ≤ i → (∀ p ∈ d.loose, m ≤ p.1) → i + k ≤ d.sure.length →
    (∃ d', layL k i r d = (d', 0) ∧ d'.off = false ∧ d'.sure = d.sure ∧ (∀ p ∈ d'.loose, m ≤ p.1) ∧ ∀ j, (conL d').getD j [] = if i ≤ j ∧ j < i + k then partS r (j - i) else (conL d).getD j []) ∨
    (∃ d', layL k i r d = (d', 7) ∧ OffTo d d' m)
  | 0, i, r, d, h, hm, hl, hk => .inl ⟨d, rfl, h, rfl, hl, fun j => by rw [if_neg (by omega)]⟩
  | k + 1, i, r, d, h, hm, hl, hk => by
    have h128 : (fillS (r.take 128) 128).length = 128 := fillS_len (by rw [List.length_take]; omega)
    rcases write_cases h (a := i) (by omega) h128 with ⟨d1, e1, s1, l1, o1⟩ | ⟨d1, e1, c1⟩
    · have hl1 : ∀ p ∈ d1.loose, m ≤ p.1 := fun p hp => by
        rw [l1] at hp
        rcases mem_putL hp with rfl | hp
        · exact hm
        · exact hl p hp
      have hc1 : conL d1 = (conL d).set i (fillS (r.take 128) 128) := by
        unfold conL
        rw [l1, s1]
        exact flushP_put _ _ _ _
      rcases fall_lays m k (i + 1) (r.drop 128) o1 (by omega) hl1 (by rw [s1]; omega) with ⟨d2, e2, o2, s2, l2, f2⟩ | ⟨d2, e2, c2⟩
      · refine .inl ⟨d2, ?_, o2, s2.trans s1, l2, fun j => ?_⟩
        · rw [layL_succ, e1]
          simp only [if_true]
          exact e2
        · rw [f2 j, hc1]
          simp only [List.getD_eq_getElem?_getD, List.getElem?_set, conL_len]
          by_cases hj : i = j
          · subst hj
            rw [if_neg (by omega), if_pos rfl, if_pos (by omega), if_pos ⟨Nat.le_refl _, by omega⟩]
            simp [partS]
          · rw [if_neg hj]
            by_cases hj2 : i + 1 ≤ j ∧ j < i + 1 + k
            · rw [if_pos hj2, if_pos ⟨by omega, by omega⟩]
              unfold partS
              rw [List.drop_drop]
              congr 3
              omega
            · rw [if_neg hj2, if_neg (by omega)]
      · refine .inr ⟨d2, ?_, c2.off, c2.loose, by rw [c2.len, s1], fun j hj => by rw [c2.same j hj, s1]⟩
        rw [layL_succ, e1]
        simp only [if_true]
        exact e2
    · refine .inr ⟨d1, ?_, ?_, ?_, c1.len, fun j hj => c1.other fun p hp => by have := hl p hp; omega⟩
      · rw [layL_succ, e1]
        rw [if_neg (show ¬ ((7 : Int) = 0) by decide)]
      · obtain ⟨_, _, -, -, h3⟩ := c1; exact h3
      · obtain ⟨_, _, -, h3, -⟩ := c1; exact h3

/-- the last bytes of a sector are those of a number below -/
def Back (x : Sec) (next : Nat) : Prop := ∃ b, b < next ∧ x.drop 120 = eightL b

theorem eightL_small {b : Nat} (h : b < 256) : eightL b = List.replicate 7 0 ++ [UInt8.ofNat b] := by
  have e : eightL b = [UInt8.ofNat (b / 72057594037927936 % 256), UInt8.ofNat (b / 281474976710656 % 256), UInt8.ofNat (b / 1099511627776 % 256), UInt8.ofNat (b / 4294967296 % 256), UInt8.ofNat (b / 16777216 % 256), UInt8.ofNat (b / 65536 % 256), UInt8.ofNat (b / 256 % 256), UInt8.ofNat (b % 256)] := by
    unfold eightL eightS strOfNums
    simp only [List.map_cons, List.map_nil]
    congr 2
  rw [e]
  have z (k : Nat) (hk : 256 ≤ k) : b / k % 256 = 0 := by rw [Nat.div_eq_of_lt (by omega)]
  rw [z _ (by omega), z _ (by omega), z _ (by omega), z _ (by omega), z _ (by omega), z _ (by omega), z _ (by omega), Nat.mod_eq_of_lt h]
  rfl

theorem mix_small {a b k : Nat} (ha : a < 256) (hb : b < 256) (hk : k ≤ 7) : (eightL a).take k ++ (eightL b).drop k = eightL b := by
  rw [eightL_small ha, eightL_small hb, List.take_append_of_le_length (by simp; omega), List.drop_append_of_le_length (by simp; omega), ← List.append_assoc, List.take_append_drop]

theorem zer_back {next : Nat} (h : 0 < next) : Back zer next := ⟨0, h, by decide⟩

theorem head_backs {n : Nat} {s : Sec} {next : Nat} (h : n < next) : Back (headS n s) next := ⟨n, h, head_back n s⟩

/-- a sector of which the first bytes are new -/
theorem torn_back {n t next : Nat} {s old : Sec} (hb : Back old next) (hn : n < 256) (hx : next ≤ 256) (ht : t < 128) : Back ((headS n s).take t ++ old.drop t) next := by
  obtain ⟨b, hb1, hb2⟩ := hb
  refine ⟨b, hb1, ?_⟩
  have hh : (headS n s).length = 128 := headS_len
  by_cases h : t ≤ 120
  · have e : ((headS n s).take t).length = t := by rw [List.length_take, hh]; omega
    rw [List.drop_append, e, List.drop_of_length_le (by rw [e]; exact h), List.nil_append, List.drop_drop]
    rw [show t + (120 - t) = 120 by omega]
    exact hb2
  · have e : ((headS n s).take t).length = t := by rw [List.length_take, hh]; omega
    rw [List.drop_append_of_le_length (by rw [e]; omega), List.drop_take, head_back]
    have e2 : old.drop t = (old.drop 120).drop (t - 120) := by rw [List.drop_drop]; congr 1; omega
    rw [e2, hb2]
    exact mix_small hn (by omega) (by omega)

theorem back_none {d : Dv} {g : Lg} (ho : d.off = false) (hl : d.loose = []) (hto : g.to_ ≤ d.sure.length) (hn : g.next < 18446744073709551616) (h : g.at_ < g.to_ → Back (d.sure.getD g.at_ []) g.next) : standsG d g = none := by
  unfold standsG
  by_cases h0 : g.next = 0 ∨ g.to_ - g.at_ = 0
  · rw [if_pos h0]
  · rw [if_neg h0]
    obtain ⟨b, hb, e⟩ := h (by omega)
    have hr : (readD d g.at_).1 = d.sure.getD g.at_ [] := by rw [on_read ho (by omega), con_sure hl]
    have e8 : (eightL b).take 8 = eightL b := List.take_of_length_le (by rw [eightL_len]; omega)
    rw [hr, e, e8, wd_eight (n := b) (by omega), if_pos (.inr (by omega))]

end Go.Proofs.Ytaoaidjbpfdgmaa
