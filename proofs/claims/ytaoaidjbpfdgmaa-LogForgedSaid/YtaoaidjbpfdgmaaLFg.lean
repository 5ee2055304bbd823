/- LogForged: mathematics -/
import Derived.Test.YtaoaidjbpfdgmaaLFb
namespace Go.Proofs.Ytaoaidjbpfdgmaa
open Go.RowKit

/-- few steps -/
def Slow (m : Int) (d : Dv) : Prop := 0 ≤ d.steps ∧ d.steps ≤ m

theorem Slow.more {m n : Int} {d : Dv} (h : Slow m d) (hn : m ≤ n) : Slow n d := ⟨h.1, by have := h.2; omega⟩

theorem crash_steps (d : Dv) (k : Nat) (t : Int) : (crashD d k t).steps = d.steps := by unfold crashD; split <;> rfl

theorem slow_step {m : Int} {d : Dv} (h : Slow m d) (hm : m ≤ 4611686018427387904) : Slow (m + 1) (stepD d).1 := by
  have hw : wrap64 (d.steps + 1) = d.steps + 1 := w64 (by have := h.1; omega) (by have := h.2; omega)
  have h1 : 0 ≤ d.steps + 1 ∧ d.steps + 1 ≤ m + 1 := ⟨by have := h.1; omega, by have := h.2; omega⟩
  unfold stepD
  generalize d.plan = l
  induction l with
  | nil => unfold stepP Slow; simp only; rw [hw]; exact h1
  | cons f r ih =>
    unfold stepP
    split
    · split
      · unfold Slow
        simp only [crash_steps]
        exact ⟨h.1, by have := h.2; omega⟩
      · exact ih
    · unfold Slow; simp only; rw [hw]; exact h1

theorem slow_write {m : Int} {d : Dv} (h : Slow m d) (hm : m ≤ 4611686018427387904) (i : Int) (s : Sec) : Slow (m + 1) (writeD d i s).1 := by
  have h1 := slow_step h hm
  unfold writeD
  split
  · exact h.more (by omega)
  · split
    · split
      · exact h1
      · exact h1
    · exact h.more (by omega)

theorem slow_flush {m : Int} {d : Dv} (h : Slow m d) (hm : m ≤ 4611686018427387904) : Slow (m + 1) (flushX d).1 := by
  have h1 := slow_step h hm
  unfold flushX
  split
  · exact h.more (by omega)
  · split
    · exact h1
    · exact h1

theorem slow_lays : ∀ (k i : Nat) (r : Sec) {m : Int} {d : Dv}, Slow m d → m + k ≤ 4611686018427387904 → Slow (m + k) (layL k i r d).1
  | 0, _, _, _, _, h, _ => h.more (by omega)
  | k + 1, i, r, m, d, h, hm => by
    have h1 := slow_write h (by omega) i (fillS (r.take 128) 128)
    rw [layL_succ]
    split
    · exact (slow_lays k (i + 1) (r.drop 128) h1 (by omega)).more (by omega)
    · exact h1.more (by omega)

theorem slow_sure {m : Int} {d : Dv} (h : Slow m d) (hm : m ≤ 4611686018427387900) (i : Int) (s : Sec) : Slow (m + 2) (sureG d i s).1 := by
  have h1 := slow_write h (by omega) i (fillS s 128)
  unfold sureG
  split
  · exact (slow_flush h1 (by omega)).more (by omega)
  · exact h1.more (by omega)

theorem slow_wipe {m : Int} {d : Dv} (h : Slow m d) (hm : m ≤ 4611686018427387900) (g : Lg) : Slow (m + 2) (wipeG d g).1 := by
  unfold wipeG
  split
  · exact slow_sure h hm _ _
  · exact h.more (by omega)

theorem slow_lay {m : Int} {d : Dv} (h : Slow m d) (hm : m ≤ 4611686018427000000) (g : Lg) (hg : g.to_ ≤ 65536) (s : Sec) : Slow (m + 65539) (layG d g s).1 := by
  have h1 := slow_lays (min (g.at_ + sectN s.length + 1) g.to_ - (g.at_ + 1)) (g.at_ + 1) (s.drop 104) h (by omega)
  have hk : ((min (g.at_ + sectN s.length + 1) g.to_ - (g.at_ + 1) : Nat) : Int) ≤ 65536 := by omega
  unfold layG
  generalize min (g.at_ + sectN s.length + 1) g.to_ - (g.at_ + 1) = K at h1 hk
  split
  · have h2 := slow_flush h1 (by omega)
    split
    · exact (slow_sure h2 (by omega) _ _).more (by omega)
    · exact h2.more (by omega)
  · exact h1.more (by omega)

theorem slow_add {m : Int} {d : Dv} (h : Slow m d) (hm : m ≤ 4611686018427000000 - 10) (g : Lg) (hg : g.to_ ≤ 65536) (s : Sec) : Slow (m + 65541) (addG d g s).1 := by
  have h1 := slow_wipe h (by omega) g
  have h2 := slow_lay h1 (by omega) g hg s
  unfold addG
  split
  · exact h.more (by omega)
  · split
    · exact h.more (by omega)
    · split
      · split
        · exact h2.more (by omega)
        · exact h2.more (by omega)
      · exact h1.more (by omega)

/-! the last one -/

theorem write_wait {d : Dv} {f : Fal} (hp : d.plan = [f]) (ho : d.off = false) (hlt : d.steps < f.at_) (h0 : 0 ≤ d.steps) (h1 : d.steps ≤ 1000000) {a : Nat} (ha : a < d.sure.length) {s : Sec} (hs : s.length = 128) :
    writeD d a s = ({ d with steps := d.steps + 1, loose := putL a s d.loose }, 0) := by
  obtain ⟨u, l, p, st, o⟩ := d
  have hp' : p = [f] := hp
  have ho' : o = false := ho
  subst hp' ho'
  have h0' : 0 ≤ st := h0
  have h1' : st ≤ 1000000 := h1
  have hlt' : st < f.at_ := hlt
  have hw : wrap64 (st + 1) = st + 1 := w64 (by omega) (by omega)
  have hst : stepD (⟨u, l, [f], st, false⟩ : Dv) = (⟨u, l, [f], st + 1, false⟩, true) := by
    show stepP _ [f] = _
    unfold stepP
    rw [if_neg (show ¬ f.at_ ≤ st by omega)]
    show ((⟨u, l, [f], wrap64 (st + 1), false⟩ : Dv), true) = _
    rw [hw]
  unfold writeD
  have ha' : a < u.length := ha
  rw [if_neg (by simp), if_pos (show 0 ≤ (a : Int) ∧ (a : Int) < (u.length : Int) ∧ s.length = 128 from ⟨by omega, by omega, hs⟩), hst, Int.toNat_natCast]
  rfl

theorem flush_wait {d : Dv} {f : Fal} (hp : d.plan = [f]) (ho : d.off = false) (hlt : d.steps < f.at_) (h0 : 0 ≤ d.steps) (h1 : d.steps ≤ 1000000) :
    flushX d = ({ d with steps := d.steps + 1, sure := conL d, loose := [] }, 0) := by
  obtain ⟨u, l, p, st, o⟩ := d
  have hp' : p = [f] := hp
  have ho' : o = false := ho
  subst hp' ho'
  have h0' : 0 ≤ st := h0
  have h1' : st ≤ 1000000 := h1
  have hlt' : st < f.at_ := hlt
  have hw : wrap64 (st + 1) = st + 1 := w64 (by omega) (by omega)
  have hst : stepD (⟨u, l, [f], st, false⟩ : Dv) = (⟨u, l, [f], st + 1, false⟩, true) := by
    show stepP _ [f] = _
    unfold stepP
    rw [if_neg (show ¬ f.at_ ≤ st by omega)]
    show ((⟨u, l, [f], wrap64 (st + 1), false⟩ : Dv), true) = _
    rw [hw]
  unfold flushX
  rw [if_neg (by simp), hst]
  rfl

theorem flush_hit {d : Dv} {f : Fal} (hp : d.plan = [f]) (ho : d.off = false) (he : f.at_ = d.steps) : flushX d = (crashD { d with plan := [] } f.keep f.torn, 7) := by
  obtain ⟨u, l, p, st, o⟩ := d
  have hp' : p = [f] := hp
  have ho' : o = false := ho
  subst hp' ho'
  have he' : f.at_ = st := he
  have hst : stepD (⟨u, l, [f], st, false⟩ : Dv) = (crashD ⟨u, l, [], st, false⟩ f.keep f.torn, false) := by
    show stepP _ [f] = _
    unfold stepP
    rw [if_pos (show f.at_ ≤ st by omega), if_pos (show f.at_ = st from he')]
  unfold flushX
  rw [if_neg (by simp), hst]
  rfl

def shortT : Sec := [115, 104, 111, 114, 116]
def lostT : Sec := [108, 111, 115, 116]

theorem lost_add {d : Dv} (ho : d.off = false) (hl : d.loose = []) (hlen : d.sure.length = 40) {torn : Int} (h0 : 0 ≤ d.steps) (h1 : d.steps ≤ 900000) (hp : d.plan = [⟨d.steps + 3, 0, torn⟩]) (hz : d.sure.getD 1 [] = zer) :
    ∃ d', addG d ⟨0, 40, 1, 3⟩ lostT = (d', ⟨0, 40, 1, 3⟩, 7) ∧ d'.off = true ∧ d'.loose = [] ∧ d'.sure.length = 40 ∧
      ∀ j, d'.sure.getD j [] = if j = 1 then (headS 3 lostT).take (cutT torn) ++ zer.drop (cutT torn) else if j = 2 then zer else d.sure.getD j [] := by
  have hw : wipeG d ⟨0, 40, 1, 3⟩ = (d, 0) := by
    unfold wipeG
    rw [back_none ho hl (by show 40 ≤ _; omega) (by decide) (fun _ => by show Back (d.sure.getD 1 []) 3; rw [hz]; exact zer_back (by decide))]
    rfl
  have hk : min ((⟨0, 40, 1, 3⟩ : Lg).at_ + sectN lostT.length + 1) (⟨0, 40, 1, 3⟩ : Lg).to_ - ((⟨0, 40, 1, 3⟩ : Lg).at_ + 1) = 1 := by decide
  have e1 := write_wait (f := ⟨d.steps + 3, 0, torn⟩) hp ho (by show d.steps < d.steps + 3; omega) h0 (by omega) (a := 2) (by omega) (s := zer) zer_len
  have hlays : layL 1 2 (lostT.drop 104) d = ({ d with steps := d.steps + 1, loose := putL 2 zer d.loose }, 0) := by
    rw [layL_succ, show fillS ((lostT.drop 104).take 128) 128 = zer from rfl, e1]
    rfl
  rw [hl] at hlays
  have e2 := flush_wait (d := { d with steps := d.steps + 1, loose := putL 2 zer [] }) (f := ⟨d.steps + 3, 0, torn⟩) hp ho (by show d.steps + 1 < d.steps + 3; omega) (by show 0 ≤ d.steps + 1; omega) (by show d.steps + 1 ≤ _; omega)
  have hc2 : conL { d with steps := d.steps + 1, loose := putL 2 zer [] } = d.sure.set 2 zer := by
    show flushP _ (putL 2 zer []) d.sure = _
    rw [flushP_put, flushP_nil]
  rw [hc2] at e2
  have e3 := write_wait (d := { d with steps := d.steps + 1 + 1, sure := d.sure.set 2 zer, loose := [] }) (f := ⟨d.steps + 3, 0, torn⟩) hp ho (by show d.steps + 1 + 1 < d.steps + 3; omega) (by show 0 ≤ d.steps + 1 + 1; omega) (by show d.steps + 1 + 1 ≤ _; omega) (a := 1) (by show 1 < (d.sure.set 2 zer).length; rw [List.length_set]; omega) (s := headS 3 lostT) headS_len
  have e4 := flush_hit (d := { d with steps := d.steps + 1 + 1 + 1, sure := d.sure.set 2 zer, loose := putL 1 (headS 3 lostT) [] }) (f := ⟨d.steps + 3, 0, torn⟩) hp ho (by show d.steps + 3 = d.steps + 1 + 1 + 1; omega)
  have hlay : layG d ⟨0, 40, 1, 3⟩ lostT = (crashD { d with steps := d.steps + 1 + 1 + 1, sure := d.sure.set 2 zer, loose := putL 1 (headS 3 lostT) [], plan := [] } 0 torn, 7) := by
    unfold layG
    rw [hk]
    show (if (layL 1 2 (lostT.drop 104) d).2 = 0 then _ else _) = _
    rw [hlays]
    simp only [if_true]
    rw [e2]
    simp only [if_true]
    unfold sureG
    show (if (writeD _ ((1 : Nat) : Int) (fillS (headS 3 lostT) 128)).2 = 0 then flushX (writeD _ ((1 : Nat) : Int) (fillS (headS 3 lostT) 128)).1 else _) = _
    rw [fillS_full (headS_len (n := 3) (s := lostT)), e3]
    simp only [if_true]
    exact e4
  have hcr : crashD { d with steps := d.steps + 1 + 1 + 1, sure := d.sure.set 2 zer, loose := putL 1 (headS 3 lostT) [], plan := [] } 0 torn = { d with steps := d.steps + 1 + 1 + 1, sure := (d.sure.set 2 zer).set 1 ((headS 3 lostT).take (cutT torn) ++ zer.drop (cutT torn)), loose := [], plan := [], off := true } := by
    unfold crashD
    rw [show ({ d with steps := d.steps + 1 + 1 + 1, sure := d.sure.set 2 zer, loose := putL 1 (headS 3 lostT) [], plan := [] } : Dv).off = false from ho]
    have hcl : crashL 0 0 (cutT torn) (putL 1 (headS 3 lostT) []) (d.sure.set 2 zer) = (d.sure.set 2 zer).set 1 ((headS 3 lostT).take (cutT torn) ++ ((d.sure.set 2 zer).getD 1 []).drop (cutT torn)) := by
      show crashL 0 0 (cutT torn) [(1, headS 3 lostT)] _ = _
      rw [crashL_no (by decide)]
      rfl
    rw [set_get (by omega), if_neg (by decide), hz] at hcl
    simp only [hcl]
    rfl
  refine ⟨{ d with steps := d.steps + 1 + 1 + 1, sure := (d.sure.set 2 zer).set 1 ((headS 3 lostT).take (cutT torn) ++ zer.drop (cutT torn)), loose := [], plan := [], off := true }, ?_, rfl, rfl, ?_, fun j => ?_⟩
  · unfold addG
    rw [ho, if_neg (by simp), if_neg (by decide), hw]
    show (if (layG d ⟨0, 40, 1, 3⟩ lostT).2 = 0 then _ else _) = _
    rw [hlay, hcr]
    rfl
  · show ((d.sure.set 2 zer).set 1 _).length = 40
    rw [List.length_set, List.length_set]; exact hlen
  · show ((d.sure.set 2 zer).set 1 _).getD j [] = _
    rw [set_get (by rw [List.length_set]; omega), set_get (by omega)]

theorem forged (X : Sec) (hX : X.length ≤ 1080) (torn : Int) :
    ∃ d1 k d2, addG (newD 40) ⟨0, 40, 0, 1⟩ X = (d1, ⟨0, 40, k, 2⟩, 0) ∧ addG d1 ⟨0, 40, 0, 2⟩ shortT = (d2, ⟨0, 40, 1, 3⟩, 0) ∧ wrap64 (d2.steps + 3) = d2.steps + 3 ∧
      ∃ d3, addG { d2 with plan := [⟨d2.steps + 3, 0, torn⟩] } ⟨0, 40, 1, 3⟩ lostT = (d3, ⟨0, 40, 1, 3⟩, 7) ∧ d3.sure.length = 40 ∧
        (openG { d3 with off := false } ⟨0, 40, 0, 2⟩ = ([shortT], ⟨0, 40, 1, 3⟩) ∨ openG { d3 with off := false } ⟨0, 40, 0, 2⟩ = ([shortT, lostT], ⟨0, 40, 2, 4⟩)) := by
  have hk : sectN X.length ≤ 40 := by unfold sectN; split <;> omega
  have hs1 : sectN shortT.length = 1 := rfl
  have hs2 : sectN lostT.length = 1 := rfl
  obtain ⟨d1, e1, c1, l1, n1, f1⟩ := calm_add (calm_new 40) (g := ⟨0, 40, 0, 1⟩) (s := X) (by decide) (by show 0 + _ ≤ 40; omega) (by rw [new_len]; exact Nat.le_refl _)
  rw [new_len] at l1
  have t0 : Slow 0 (newD 40) := ⟨Int.le_refl _, Int.le_refl _⟩
  have t1 := slow_add t0 (by decide) ⟨0, 40, 0, 1⟩ (by decide) X
  rw [e1] at t1
  obtain ⟨d2, e2, c2, l2, n2, f2⟩ := calm_add c1 (g := ⟨0, 40, 0, 2⟩) (s := shortT) (by decide) (by show 0 + _ ≤ 40; rw [hs1]; omega) (by rw [l1]; exact Nat.le_refl _)
  rw [l1] at l2
  have t2 := slow_add t1 (by decide) ⟨0, 40, 0, 2⟩ (by decide) shortT
  rw [e2] at t2
  have t2' : 0 ≤ d2.steps ∧ d2.steps ≤ 900000 := ⟨t2.1, Int.le_trans t2.2 (by decide)⟩
  rw [con_sure n2] at f2
  have g0 : d2.sure.getD 0 [] = headS 2 shortT := by rw [f2 0, if_pos ⟨Nat.le_refl _, by show 0 < 0 + _; rw [hs1]; omega⟩]; rfl
  have g1 : d2.sure.getD 1 [] = zer := by
    rw [f2 1, if_neg (by show ¬ (0 ≤ 1 ∧ 1 < 0 + sectN shortT.length); rw [hs1]; omega), if_pos ⟨by show 1 = 0 + sectN shortT.length; rw [hs1], by decide⟩]
  obtain ⟨d3, e3, o3, n3, l3, f3⟩ := lost_add (d := { d2 with plan := [⟨d2.steps + 3, 0, torn⟩] }) c2.2 n2 l2 (torn := torn) t2'.1 t2'.2 rfl g1
  refine ⟨d1, 0 + sectN X.length, d2, e1, e2, w64 (by omega) (by omega), d3, e3, l3, ?_⟩
  have hc : conL ({ d3 with off := false } : Dv) = d3.sure := con_sure n3
  have h0 : d3.sure.getD 0 [] = headS 2 shortT := by rw [f3 0, if_neg (by decide), if_neg (by decide)]; exact g0
  have h1 := f3 1
  rw [if_pos rfl] at h1
  have h2 := f3 2
  rw [if_neg (by decide), if_pos rfl] at h2
  have hst0 : Stand d3.sure 0 2 shortT := fun i hi => by
    have : i = 0 := by rw [hs1] at hi; omega
    subst this
    exact h0
  by_cases ht : cutT torn = 128
  · right
    have e6 : (headS 3 lostT).take (cutT torn) ++ zer.drop (cutT torn) = headS 3 lostT := by
      rw [ht, List.take_of_length_le (by rw [headS_len]; omega), List.drop_of_length_le (by rw [zer_len]; omega), List.append_nil]
    rw [e6] at h1
    have hst1 : Stand d3.sure 1 3 lostT := fun i hi => by
      have : i = 0 := by rw [hs2] at hi; omega
      subst this
      exact h1
    refine open_chain (d := { d3 with off := false }) rfl (l := [shortT, lostT]) (g := ⟨0, 40, 0, 2⟩) (e := 2) (by show 40 ≤ d3.sure.length; omega) (by rw [hc]; exact ⟨hst0, hst1, rfl⟩) (by decide) (by decide) (by decide) (by intro s hs; simp only [List.mem_cons, List.not_mem_nil, or_false] at hs; rcases hs with rfl | rfl <;> decide) ?_
    exact stands_zer rfl (by show 40 ≤ d3.sure.length; omega) fun _ => by rw [hc]; exact h2
  · left
    have hle := cutT_le torn
    refine open_chain (d := { d3 with off := false }) rfl (l := [shortT]) (g := ⟨0, 40, 0, 2⟩) (e := 1) (by show 40 ≤ d3.sure.length; omega) (by rw [hc]; exact ⟨hst0, rfl⟩) (by decide) (by decide) (by decide) (by intro s hs; rw [List.mem_singleton] at hs; subst hs; decide) ?_
    refine back_none rfl n3 (by show 40 ≤ d3.sure.length; omega) (by decide) fun _ => ?_
    show Back (d3.sure.getD 1 []) 3
    rw [h1]
    exact torn_back (zer_back (by decide)) (by decide) (by decide) (by omega)

end Go.Proofs.Ytaoaidjbpfdgmaa
