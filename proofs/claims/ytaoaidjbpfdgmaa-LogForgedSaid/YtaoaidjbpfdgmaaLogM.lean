/- a log on a device whose power stays: plain mathematics -/
import Derived.Test.YtaoaidjbpfdgmaaLogD
import Derived.Test.YtaoaidjbpfdgmaaLogR
import Derived.Test.YtaoaidjbpfdgmaaDevT
namespace Go.Proofs.Ytaoaidjbpfdgmaa

/-- what is read, sector by sector -/
def conL (d : Dv) : List Sec := flushP (fun _ => false) d.loose d.sure

/-- no fall is planned, and there is power -/
def Calm (d : Dv) : Prop := d.plan = [] ∧ d.off = false

theorem conL_len (d : Dv) : (conL d).length = d.sure.length := flushP_len _ _ _

theorem conL_get (d : Dv) {i : Nat} (h : i < d.sure.length) : (conL d).getD i [] = (getL i d.loose).getD (d.sure.getD i []) := by
  simp [conL, flushP, List.getD_eq_getElem?_getD, h]

theorem on_read {d : Dv} (h : d.off = false) {i : Nat} (hi : i < d.sure.length) : readD d i = ((conL d).getD i [], 0) := by
  unfold readD
  rw [h, conL_get d hi, Int.toNat_natCast]
  rw [if_neg (by simp), if_pos ⟨by omega, by omega⟩]

theorem flushP_put (a : Nat) (s : Sec) (l : List (Nat × Sec)) (u : List Sec) : flushP (fun _ => false) (putL a s l) u = (flushP (fun _ => false) l u).set a s := by
  apply List.ext_getElem?
  intro i
  rw [List.getElem?_set]
  simp only [flushP, List.length_mapIdx, List.getElem?_mapIdx, get_putL]
  by_cases h : a = i
  · subst h
    by_cases hl : a < u.length
    · simp [hl]
    · simp [hl]
  · have h' : ¬ i = a := fun e => h e.symm
    simp [h, h']

theorem flushP_nil (u : List Sec) : flushP (fun _ => false) [] u = u := by
  apply List.ext_getElem?
  intro i
  simp only [flushP, List.getElem?_mapIdx, getL]
  cases u[i]? <;> rfl

theorem calm_write {d : Dv} (h : Calm d) {a : Nat} (ha : a < d.sure.length) {s : Sec} (hs : s.length = 128) :
    ∃ d', writeD d a s = (d', 0) ∧ Calm d' ∧ conL d' = (conL d).set a s ∧ d'.sure.length = d.sure.length := by
  refine ⟨_, writeD_ok h.1 h.2 ha hs, ⟨h.1, h.2⟩, ?_, rfl⟩
  unfold conL
  exact flushP_put _ _ _ _

theorem calm_flush {d : Dv} (h : Calm d) : ∃ d', flushX d = (d', 0) ∧ Calm d' ∧ conL d' = conL d ∧ d'.sure.length = d.sure.length ∧ d'.loose = [] := by
  refine ⟨_, flushX_ok h.1 h.2, ⟨h.1, h.2⟩, ?_, flushP_len _ _ _, rfl⟩
  unfold conL
  exact flushP_nil _

theorem fillS_len {s : Sec} {n : Nat} (h : s.length ≤ n) : (fillS s n).length = n := by
  unfold fillS
  rw [List.length_append, List.length_replicate]; omega

theorem fillS_full {s : Sec} {n : Nat} (h : s.length = n) : fillS s n = s := by
  unfold fillS
  rw [h, Nat.sub_self]; simp

theorem headS_len {n : Nat} {s : Sec} : (headS n s).length = 128 := by
  unfold headS
  simp only [List.length_append, eightL_len]
  rw [fillS_len (by rw [List.length_take]; omega)]

theorem calm_sure {d : Dv} (h : Calm d) {a : Nat} (ha : a < d.sure.length) {s : Sec} (hs : s.length ≤ 128) :
    ∃ d', sureG d a s = (d', 0) ∧ Calm d' ∧ conL d' = (conL d).set a (fillS s 128) ∧ d'.sure.length = d.sure.length ∧ d'.loose = [] := by
  obtain ⟨d1, e1, c1, f1, g1⟩ := calm_write h ha (fillS_len hs)
  obtain ⟨d2, e2, c2, f2, g2, k2⟩ := calm_flush c1
  refine ⟨d2, ?_, c2, f2.trans f1, g2.trans g1, k2⟩
  unfold sureG
  rw [e1]
  simp only [if_true]
  exact e2

/-- a part of an entry behind its first sector -/
def partS (r : Sec) (i : Nat) : Sec := fillS ((r.drop (128 * i)).take 128) 128

theorem calm_lays : ∀ (k i : Nat) (r : Sec) {d : Dv}, Calm d → i + k ≤ d.sure.length →
    ∃ d', layL k i r d = (d', 0) ∧ Calm d' ∧ d'.sure.length = d.sure.length ∧ ∀ j, (conL d').getD j [] = if i ≤ j ∧ j < i + k then partS r (j - i) else (conL d).getD j []
  | 0, i, r, d, h, hk => ⟨d, rfl, h, rfl, fun j => by rw [if_neg (by omega)]⟩
  | k + 1, i, r, d, h, hk => by
    obtain ⟨d1, e1, c1, f1, g1⟩ := calm_write h (a := i) (by omega) (s := fillS (r.take 128) 128) (fillS_len (by rw [List.length_take]; omega))
    obtain ⟨d2, e2, c2, g2, f2⟩ := calm_lays k (i + 1) (r.drop 128) c1 (by omega)
    refine ⟨d2, ?_, c2, g2.trans g1, fun j => ?_⟩
    · rw [layL_succ, e1]
      simp only [if_true]
      exact e2
    · rw [f2 j, f1]
      simp only [List.getD_eq_getElem?_getD, List.getElem?_set, conL_len]
      by_cases hj : i = j
      · subst hj
        rw [if_neg (by omega), if_pos rfl, if_pos (by omega), if_pos ⟨Nat.le_refl _, by omega⟩]
        simp [partS]
      · rw [if_neg hj]
        by_cases hj2 : i + 1 ≤ j ∧ j < i + 1 + k
        · rw [if_pos hj2, if_pos ⟨by omega, by omega⟩]
          unfold partS
          rw [List.drop_drop]
          congr 3
          omega
        · rw [if_neg hj2, if_neg (by omega)]

theorem calm_wipe {d : Dv} (h : Calm d) {g : Lg} (ha : g.at_ < d.sure.length) :
    ∃ d', wipeG d g = (d', 0) ∧ Calm d' ∧ d'.sure.length = d.sure.length ∧ ∀ j, j ≠ g.at_ → (conL d').getD j [] = (conL d).getD j [] := by
  unfold wipeG
  split
  · obtain ⟨d1, e1, c1, f1, g1, -⟩ := calm_sure h ha (s := []) (Nat.zero_le _)
    refine ⟨d1, e1, c1, g1, fun j hj => ?_⟩
    rw [f1]
    simp only [List.getD_eq_getElem?_getD, List.getElem?_set]
    rw [if_neg (fun e => hj e.symm)]
  · exact ⟨d, rfl, h, rfl, fun _ _ => rfl⟩

/-- the sectors of an entry -/
def secS (next : Nat) (s : Sec) : Nat → Sec
  | 0 => headS next s
  | i + 1 => partS (s.drop 104) i

theorem sectN_fits {n : Nat} : n ≤ 104 + 128 * (sectN n - 1) := by
  unfold sectN
  split <;> omega

theorem part_behind (s : Sec) : partS (s.drop 104) (sectN s.length - 1) = zer := by
  unfold partS
  have : (s.drop 104).drop (128 * (sectN s.length - 1)) = [] := by
    rw [List.drop_drop]
    exact List.drop_of_length_le sectN_fits
  rw [this]
  rfl

theorem calm_lay {d : Dv} (h : Calm d) {g : Lg} {s : Sec} (hfit : g.at_ + sectN s.length ≤ g.to_) (hto : g.to_ ≤ d.sure.length) :
    ∃ d', layG d g s = (d', 0) ∧ Calm d' ∧ d'.sure.length = d.sure.length ∧ d'.loose = [] ∧
      ∀ j, (conL d').getD j [] = if g.at_ ≤ j ∧ j < g.at_ + sectN s.length then secS g.next s (j - g.at_) else if j = g.at_ + sectN s.length ∧ j < g.to_ then zer else (conL d).getD j [] := by
  have hp := sectN_pos s.length
  obtain ⟨d1, e1, c1, g1, f1⟩ := calm_lays (min (g.at_ + sectN s.length + 1) g.to_ - (g.at_ + 1)) (g.at_ + 1) (s.drop 104) h (by omega)
  obtain ⟨d2, e2, c2, f2, g2, -⟩ := calm_flush c1
  obtain ⟨d3, e3, c3, f3, g3, k3⟩ := calm_sure c2 (a := g.at_) (by omega) (s := headS g.next s) (by rw [headS_len]; omega)
  refine ⟨d3, ?_, c3, by omega, k3, fun j => ?_⟩
  · unfold layG
    rw [e1]
    simp only [if_true, e2]
    exact e3
  · rw [f3, fillS_full headS_len]
    simp only [List.getD_eq_getElem?_getD, List.getElem?_set, conL_len]
    by_cases hj : g.at_ = j
    · subst hj
      rw [if_pos rfl, if_pos (by omega), if_pos ⟨Nat.le_refl _, by omega⟩, Nat.sub_self]
      rfl
    · rw [if_neg hj, f2]
      have := f1 j
      simp only [List.getD_eq_getElem?_getD] at this
      rw [this]
      by_cases h1 : g.at_ ≤ j ∧ j < g.at_ + sectN s.length
      · rw [if_pos h1, if_pos (by omega)]
        obtain ⟨i, hi⟩ : ∃ i, j - g.at_ = i + 1 := ⟨j - g.at_ - 1, by omega⟩
        rw [hi]
        show _ = partS _ i
        congr 1
        omega
      · rw [if_neg h1]
        by_cases h2 : j = g.at_ + sectN s.length ∧ j < g.to_
        · rw [if_pos h2, if_pos (by omega), ← part_behind s]
          congr 1
          omega
        · rw [if_neg h2, if_neg (by omega)]

theorem calm_add {d : Dv} (h : Calm d) {g : Lg} {s : Sec} (hn : g.next ≠ 0) (hfit : g.at_ + sectN s.length ≤ g.to_) (hto : g.to_ ≤ d.sure.length) :
    ∃ d', addG d g s = (d', passG g s.length, 0) ∧ Calm d' ∧ d'.sure.length = d.sure.length ∧ d'.loose = [] ∧
      ∀ j, (conL d').getD j [] = if g.at_ ≤ j ∧ j < g.at_ + sectN s.length then secS g.next s (j - g.at_) else if j = g.at_ + sectN s.length ∧ j < g.to_ then zer else (conL d).getD j [] := by
  have hp := sectN_pos s.length
  obtain ⟨d1, e1, c1, g1, f1⟩ := calm_wipe h (g := g) (by omega)
  obtain ⟨d2, e2, c2, g2, k2, f2⟩ := calm_lay c1 hfit (by omega)
  refine ⟨d2, ?_, c2, g2.trans g1, k2, fun j => ?_⟩
  · unfold addG
    rw [h.2, if_neg (by simp), if_neg (by omega), e1, e2]
    rfl
  · rw [f2 j]
    by_cases h1 : g.at_ ≤ j ∧ j < g.at_ + sectN s.length
    · rw [if_pos h1, if_pos h1]
    · rw [if_neg h1, if_neg h1, f1 j (by omega)]

theorem full_add {d : Dv} (h : d.off = false) {g : Lg} {s : Sec} (hfit : g.next = 0 ∨ g.to_ - g.at_ < sectN s.length) : addG d g s = (d, g, 40) := by
  unfold addG
  rw [h, if_neg (by simp), if_pos hfit]

theorem off_add {d : Dv} (h : d.off = true) {g : Lg} {s : Sec} : addG d g s = (d, g, 7) := by
  unfold addG
  rw [h, if_pos rfl]

/-! what stands -/

/-- an entry stands -/
def Stand (u : List Sec) (at_ next : Nat) (s : Sec) : Prop := ∀ i, i < sectN s.length → u.getD (at_ + i) [] = secS next s i

/-- entries stand one behind the other, up to a place -/
def Chain (u : List Sec) : Nat → Nat → List Sec → Nat → Prop
  | at_, _, [], e => at_ = e
  | at_, next, s :: r, e => Stand u at_ next s ∧ Chain u (at_ + sectN s.length) (next + 1) r e

theorem Chain.le {u : List Sec} : ∀ {l : List Sec} {at_ next e : Nat}, Chain u at_ next l e → at_ ≤ e
  | [], _, _, _, h => Nat.le_of_eq h
  | _ :: r, _, _, _, h => Nat.le_trans (Nat.le_add_right _ _) (Chain.le (l := r) h.2)

theorem Chain.keep {u u' : List Sec} : ∀ {l : List Sec} {at_ next e : Nat}, Chain u at_ next l e → (∀ j, at_ ≤ j → j < e → u'.getD j [] = u.getD j []) → Chain u' at_ next l e
  | [], _, _, _, h, _ => h
  | s :: r, at_, next, e, h, hk => by
    have hle := Chain.le h.2
    refine ⟨fun i hi => ?_, Chain.keep h.2 fun j hj => hk j (by omega)⟩
    rw [hk (at_ + i) (by omega) (by omega)]
    exact h.1 i hi

theorem Chain.snoc {u : List Sec} {s : Sec} : ∀ {l : List Sec} {at_ next e : Nat}, Chain u at_ next l e → Stand u e (next + l.length) s → Chain u at_ next (l ++ [s]) (e + sectN s.length)
  | [], at_, next, e, h, hs => by
    have h' : at_ = e := h
    subst h'
    exact ⟨hs, rfl⟩
  | t :: r, at_, next, e, h, hs => by
    refine ⟨h.1, Chain.snoc h.2 ?_⟩
    have e1 : next + (t :: r).length = next + 1 + r.length := by simp; omega
    rwa [e1] at hs

end Go.Proofs.Ytaoaidjbpfdgmaa
