/- the insertion sort of a row of pairs -/
import Derived.Test.YtaonlbmicjoclaaSrt
import Derived.StillTailTactics
import Derived.BigRegion
import Derived.Deep.LoopGhost
import Derived.Deep.RegionHeld3
namespace Go.Proofs.Ytaonlbmicjoclaa
open Go.ChangeShapes Go.WideShapes Go.ChangeAt Go.RowKit Go.Fl

theorem ins_split (p : T × T) (A Bs : List (T × T)) (hA : ∀ a ∈ A, ¬ cmpT p.1 a.1 < 0) (hB : ∀ b ∈ Bs, cmpT p.1 b.1 < 0) : insS p (A ++ Bs) = A ++ p :: Bs := by
  induction A with
  | nil =>
    cases Bs with
    | nil => rfl
    | cons b r => rw [List.nil_append, insS, if_pos (hB b (by simp))]; rfl
  | cons a r ih =>
    rw [List.cons_append, insS, if_neg (hA a (by simp)), ih (fun x hx => hA x (List.mem_cons_of_mem _ hx))]; rfl

theorem asc_stop {A' Bs : List (T × T)} {a p : T × T} (h : Asc (A' ++ [a] ++ Bs)) (hp : ¬ cmpT p.1 a.1 < 0) : ∀ x ∈ A' ++ [a], ¬ cmpT p.1 x.1 < 0 := by
  intro x hx
  obtain ⟨h1, -, -⟩ := List.pairwise_append.1 h
  obtain ⟨-, -, h2⟩ := List.pairwise_append.1 h1
  rcases List.mem_append.1 hx with hx | hx
  · have e1 := h2 x hx a (by simp)
    have e2 : cmpT a.1 p.1 ≤ 0 := by rw [cmp_flip]; omega
    have := ((cmpT_tr x.1 a.1 p.1).1 e1 e2).1
    rw [cmp_flip]; omega
  · obtain rfl : x = a := by simpa using hx
    exact hp

theorem srt_take {l : List (T × T)} {i : Nat} (hi : i < l.length) : srt (l.take (i + 1)) = insS l[i] (srt (l.take i)) := by
  unfold srt
  rw [List.take_succ_eq_append_getElem hi, List.foldl_append]; rfl

theorem srt_len (l : List (T × T)) : (srt l).length = l.length := by
  have hi : ∀ (p : T × T) s, (insS p s).length = s.length + 1 := by
    intro p s
    induction s with
    | nil => rfl
    | cons q r ih => rw [insS]; split <;> simp [ih]
  suffices h : ∀ s : List (T × T), (l.foldl (fun s p => insS p s) s).length = l.length + s.length from by have := h []; unfold srt; simpa using this
  induction l with
  | nil => intro s; simp
  | cons p r ih => intro s; rw [List.foldl_cons, ih, hi]; simp; omega

/-- what stands at a place of a row in the middle of a round -/
theorem mid_at (A Bs R : List (T × T)) (p : T × T) : (A ++ p :: (Bs ++ R))[A.length]? = some p := by simp

theorem run_fn (args : Array Value) (w : World) : (callFunc 18 args).run Try.prog w = .ok (.enter 18 args) w := by
  first | exact run_callFunc_enter (by kernel_rfl) | exact (by kernel_rfl)

theorem RowP.drew {w : World} {B : Nat} {wr : World} {g : Nat} {l : List (T × T)} (h : RowP w B wr g l) : RowP w B wr.drew g l := by
  obtain ⟨cs, h1, h2, h3⟩ := h
  exact ⟨cs, h1, h2, h3⟩

/-- two neighbours exchanged -/
theorem row_swap {w wr : World} {B g o : Nat} {cs : Array Value} {A' R : List (T × T)} {a pv : T × T} {p0 p1 p2 p3 p4 p5 p6 p7 p8 p9 p10 p11 q0 q1 q2 q3 q4 q5 q6 q7 q8 q9 q10 q11 : Value} (hblk : Blk wr g 43 cs) (hcs : cs.size = (A' ++ [a] ++ pv :: R).length * 12)
    (hpr : ∀ j (hj : j < (A' ++ [a] ++ pv :: R).length), PairAt w B cs (j * 12) (A' ++ [a] ++ pv :: R)[j])
    (hp : Rd w B pv.1 (.agg #[p0, p1, p2, p3, p4, p5]) ∧ Rd w B pv.2 (.agg #[p6, p7, p8, p9, p10, p11])) (hq : Rd w B a.1 (.agg #[q0, q1, q2, q3, q4, q5]) ∧ Rd w B a.2 (.agg #[q6, q7, q8, q9, q10, q11])) (ho : A'.length * 12 = o) :
    RowP w B (set12 (set12 wr g (o + 12) q0 q1 q2 q3 q4 q5 q6 q7 q8 q9 q10 q11) g o p0 p1 p2 p3 p4 p5 p6 p7 p8 p9 p10 p11) g (A' ++ pv :: (a :: R)) := by
  subst ho
  rw [show A'.length * 12 + 12 = (A'.length + 1) * 12 by omega]
  refine ⟨put12 (put12 cs ((A'.length + 1) * 12) q0 q1 q2 q3 q4 q5 q6 q7 q8 q9 q10 q11) (A'.length * 12) p0 p1 p2 p3 p4 p5 p6 p7 p8 p9 p10 p11, set12_blk (set12_blk hblk q0 q1 q2 q3 q4 q5 q6 q7 q8 q9 q10 q11) p0 p1 p2 p3 p4 p5 p6 p7 p8 p9 p10 p11, by rw [put12_size, put12_size, hcs]; simp, fun j hj => ?_⟩
  have hlen : (A' ++ [a] ++ pv :: R).length = A'.length + 2 + R.length := by simp; omega
  have hj' : j < A'.length + 2 + R.length := by simp at hj; omega
  rw [hlen] at hcs
  have hfar : ∀ x, (A' ++ pv :: (a :: R))[j] = x → (j < A'.length ∨ A'.length + 2 ≤ j) → PairAt w B (put12 (put12 cs ((A'.length + 1) * 12) q0 q1 q2 q3 q4 q5 q6 q7 q8 q9 q10 q11) (A'.length * 12) p0 p1 p2 p3 p4 p5 p6 p7 p8 p9 p10 p11) (j * 12) x := by
    intro x hx hjj
    have e : (A' ++ [a] ++ pv :: R)[j]'(by omega) = x := by
      rw [← hx]
      rcases hjj with h | h
      · rw [List.getElem_append_left (by simp; omega), List.getElem_append_left (by omega), List.getElem_append_left (by omega)]
      · rw [List.getElem_append_right (by simp; omega), List.getElem_append_right (by omega)]
        obtain ⟨m, rfl⟩ : ∃ m, j = A'.length + 2 + m := ⟨j - (A'.length + 2), by omega⟩
        have e1 : A'.length + 2 + m - (A' ++ [a]).length = m + 1 := by simp; omega
        have e2 : A'.length + 2 + m - A'.length = m + 2 := by omega
        simp only [e1, e2, List.getElem_cons_succ]
    have := hpr j (by omega)
    rw [e] at this
    exact this.far fun i hi => by rw [put12_far _ _ _ _ _ _ _ _ _ _ _ _ (by omega), put12_far _ _ _ _ _ _ _ _ _ _ _ _ (by omega)]
  by_cases h1 : j = A'.length
  · subst h1
    have e : (A' ++ pv :: (a :: R))[A'.length] = pv := by simp
    rw [e]
    exact put12_pair (by rw [put12_size, hcs]; omega) hp.1 hp.2
  by_cases h2 : j = A'.length + 1
  · subst h2
    have e : (A' ++ pv :: (a :: R))[A'.length + 1] = a := by simp
    rw [e]
    exact (put12_pair (by rw [hcs]; omega) hq.1 hq.2).far fun i hi => by rw [put12_far _ _ _ _ _ _ _ _ _ _ _ _ (by omega)]
  · exact hfar _ rfl (by omega)

set_option maxHeartbeats 8000000 in
set_option maxRecDepth 100000 in
theorem isort_any (l : List (T × T)) (g B cap : Nat) (w : World) (hrow : RowP w B w g l) (hB : B ≤ g) (hl : l.length ≤ 20) :
    Calls Try.prog 62 #[.slice (some ⟨g, 0, none⟩) l.length cap, .int .i64 0, .int .i64 l.length, .func (.func 18) #[] #[]] w fun e w' => e = .returned (.tuple #[]) ∧ RowP w B w' g (srt l) ∧ Beside g w w' := by
  have hgw : g < w.heap.size := by obtain ⟨cs, h, -⟩ := hrow; exact h.lt
  have Hrow := Lib.hid hrow
  clear hrow
  go_enter Try.func62, Try.ntmps62
  go_wp2_with fail
  go_loopg [8] l.length (fun g1 vi wr => ∃ i : Nat, vi = .int .i64 i ∧ 1 ≤ i ∧ i ≤ l.length + 1 ∧ l.length + 1 - i ≤ g1 + 1 ∧ Hid (RowP w B wr g (srt (l.take i) ++ l.drop i)) ∧ Hid (Beside g w wr))
  case atStart => exact ⟨1, by go_num, by omega, by omega, by omega, (by
    show RowP _ _ _ _ _
    have e : srt (l.take 1) ++ l.drop 1 = l := by cases l <;> rfl
    rw [e]; exact Hrow.out), Beside.refl _ _⟩
  case round =>
    obtain ⟨i, rfl, hi1, hi2, hg1, HR, HS⟩ := hrel
    by_cases hlt : i < l.length
    · have hltz : (i : Int) < (l.length : Int) := by omega
      obtain ⟨pv, hpv⟩ : ∃ pv, l[i]'hlt = pv := ⟨_, rfl⟩
      have Hdr : Hid (l.drop i = pv :: l.drop (i + 1)) := Lib.hid (by rw [List.drop_eq_getElem_cons hlt, hpv])
      have Hsr : Hid (srt (l.take (i + 1)) = insS pv (srt (l.take i))) := Lib.hid (by rw [srt_take hlt, hpv])
      clear hpv
      go_wp2_with fail
      go_loopg [9] i (fun g2 vj wr2 => ∃ (j : Nat) (A Bs : List (T × T)), vj = .int .i64 j ∧ j ≤ i ∧ j ≤ g2 ∧ Hid (A.length = j ∧ A ++ Bs = srt (l.take i) ∧ (∀ b ∈ Bs, cmpT pv.1 b.1 < 0) ∧ RowP w B wr2 g (A ++ pv :: (Bs ++ l.drop (i + 1)))) ∧ Hid (Beside g w wr2))
      case atStart =>
        refine ⟨i, srt (l.take i), [], rfl, Nat.le_refl _, Nat.le_refl _, ⟨?_, by simp, by simp, ?_⟩, HS⟩
        · rw [srt_len, List.length_take]; omega
        · have e : srt (l.take i) ++ pv :: ([] ++ l.drop (i + 1)) = srt (l.take i) ++ l.drop i := by rw [List.nil_append, Hdr.out]
          rw [e]; exact HR.out
      case round =>
        obtain ⟨j, A, Bs, rfl, hji, hg2, HM, HS2⟩ := hrel
        have OUT : Hid ((∀ a ∈ A, ¬ cmpT pv.1 a.1 < 0) → A ++ pv :: (Bs ++ l.drop (i + 1)) = srt (l.take (i + 1)) ++ l.drop (i + 1)) := Lib.hid (fun h => by
          obtain ⟨-, h2, h3, -⟩ := HM.out
          rw [Hsr.out, ← h2, ins_split _ _ _ h h3]; simp)
        by_cases hj0 : 0 < j
        · obtain ⟨jp, rfl⟩ : ∃ jp, j = jp + 1 := ⟨j - 1, by omega⟩
          obtain ⟨A', a, hA⟩ : ∃ A' a, A = A' ++ [a] := by
            rcases List.eq_nil_or_concat A with h | ⟨A', a, h⟩
            · have := HM.out.1; rw [h] at this; simp at this
            · exact ⟨A', a, by simpa using h⟩
          subst hA
          obtain ⟨cs, hblk, hcs, hpr⟩ := HM.out.2.2.2
          have hAl : A'.length = jp := by have := HM.out.1; simpa using this
          have hp : PairAt w B cs ((jp + 1) * 12) pv := by
            have := hpr (jp + 1) (by simp; omega)
            have e : (A' ++ [a] ++ pv :: (Bs ++ l.drop (i + 1)))[jp + 1]'(by simp; omega) = pv := by
              have h := mid_at (A' ++ [a]) Bs (l.drop (i + 1)) pv
              have h2 : (A' ++ [a]).length = jp + 1 := by simp [hAl]
              rw [h2] at h
              exact (List.getElem?_eq_some_iff.1 h).2
            rwa [e] at this
          have hq : PairAt w B cs (jp * 12) a := by
            have := hpr jp (by simp; omega)
            have e : (A' ++ [a] ++ pv :: (Bs ++ l.drop (i + 1)))[jp]'(by simp; omega) = a := by
              have h := mid_at A' [] (pv :: (Bs ++ l.drop (i + 1))) a
              rw [hAl] at h
              have h2 := (List.getElem?_eq_some_iff.1 h).2
              simpa using h2
            rwa [e] at this
          obtain ⟨pc0, pc1, pc2, pc3, pc4, pc5, pc6, pc7, pc8, pc9, pc10, pc11, ⟨ph0, ph1, ph2, ph3, ph4, ph5, ph6, ph7, ph8, ph9, ph10, ph11⟩, rp1, rp2⟩ := hp
          obtain ⟨qc0, qc1, qc2, qc3, qc4, qc5, qc6, qc7, qc8, qc9, qc10, qc11, ⟨qh0, qh1, qh2, qh3, qh4, qh5, qh6, qh7, qh8, qh9, qh10, qh11⟩, rq1, rq2⟩ := hq
          obtain ⟨k1, b1, n1, f1, s1, t1, e1⟩ : ∃ k b n f s q, pv.1 = .mk k b n f s q := by rcases pv.1 with ⟨k, b, n, f, s, q⟩; exact ⟨_, _, _, _, _, _, rfl⟩
          have o1 := rp1
          rw [e1] at o1
          obtain ⟨A1, c1, i1, -⟩ := o1.open
          simp only [Value.agg.injEq, Array.mk.injEq, List.cons.injEq, and_true] at i1
          obtain ⟨rfl, rfl, rfl, rfl, rfl, rfl⟩ := i1
          clear e1 o1
          obtain ⟨k2, b2, n2, f2, s2, t2, e2⟩ : ∃ k b n f s q, pv.2 = .mk k b n f s q := by rcases pv.2 with ⟨k, b, n, f, s, q⟩; exact ⟨_, _, _, _, _, _, rfl⟩
          have o2 := rp2
          rw [e2] at o2
          obtain ⟨A2, c2, i2, -⟩ := o2.open
          simp only [Value.agg.injEq, Array.mk.injEq, List.cons.injEq, and_true] at i2
          obtain ⟨rfl, rfl, rfl, rfl, rfl, rfl⟩ := i2
          clear e2 o2
          obtain ⟨k3, b3, n3, f3, s3, t3, e3⟩ : ∃ k b n f s q, a.1 = .mk k b n f s q := by rcases a.1 with ⟨k, b, n, f, s, q⟩; exact ⟨_, _, _, _, _, _, rfl⟩
          have o3 := rq1
          rw [e3] at o3
          obtain ⟨A3, c3, i3, -⟩ := o3.open
          simp only [Value.agg.injEq, Array.mk.injEq, List.cons.injEq, and_true] at i3
          obtain ⟨rfl, rfl, rfl, rfl, rfl, rfl⟩ := i3
          clear e3 o3
          obtain ⟨k4, b4, n4, f4, s4, t4, e4⟩ : ∃ k b n f s q, a.2 = .mk k b n f s q := by rcases a.2 with ⟨k, b, n, f, s, q⟩; exact ⟨_, _, _, _, _, _, rfl⟩
          have o4 := rq2
          rw [e4] at o4
          obtain ⟨A4, c4, i4, -⟩ := o4.open
          simp only [Value.agg.injEq, Array.mk.injEq, List.cons.injEq, and_true] at i4
          obtain ⟨rfl, rfl, rfl, rfl, rfl, rfl⟩ := i4
          clear e4 o4
          have hsz := HS2.out.2.2.2.1
          have hbB := HS2.out.of hB (by omega)
          have Hrp := Lib.hid (rp1.under hbB (Nat.le_refl _) (Nat.le_refl _))
          have Hrq := Lib.hid (rq1.under hbB (Nat.le_refl _) (Nat.le_refl _))
          have HPH := Lib.hid (And.intro ph0 (And.intro ph1 (And.intro ph2 (And.intro ph3 (And.intro ph4 (And.intro ph5 (And.intro ph6 (And.intro ph7 (And.intro ph8 (And.intro ph9 (And.intro ph10 (ph11)))))))))))); have HQH := Lib.hid (And.intro qh0 (And.intro qh1 (And.intro qh2 (And.intro qh3 (And.intro qh4 (And.intro qh5 (And.intro qh6 (And.intro qh7 (And.intro qh8 (And.intro qh9 (And.intro qh10 (qh11))))))))))))
          have HP2 := Lib.hid (And.intro rp1 rp2); have HQ2 := Lib.hid (And.intro rq1 rq2)
          have Hblk := Lib.hid hblk; have Hcs := Lib.hid hcs; have Hpr := Lib.hid hpr
          have p0 : wr.cell? ⟨g, (jp + 1) * 12, none⟩ = some _ := (hblk.cell _).trans ph0
          have p1 : wr.cell? ⟨g, (jp + 1) * 12 + 1, none⟩ = some _ := (hblk.cell _).trans ph1
          have p2 : wr.cell? ⟨g, (jp + 1) * 12 + 2, none⟩ = some _ := (hblk.cell _).trans ph2
          have p3 : wr.cell? ⟨g, (jp + 1) * 12 + 3, none⟩ = some _ := (hblk.cell _).trans ph3
          have p4 : wr.cell? ⟨g, (jp + 1) * 12 + 4, none⟩ = some _ := (hblk.cell _).trans ph4
          have p5 : wr.cell? ⟨g, (jp + 1) * 12 + 5, none⟩ = some _ := (hblk.cell _).trans ph5
          have p6 : wr.cell? ⟨g, (jp + 1) * 12 + 6, none⟩ = some _ := (hblk.cell _).trans ph6
          have p7 : wr.cell? ⟨g, (jp + 1) * 12 + 7, none⟩ = some _ := (hblk.cell _).trans ph7
          have p8 : wr.cell? ⟨g, (jp + 1) * 12 + 8, none⟩ = some _ := (hblk.cell _).trans ph8
          have p9 : wr.cell? ⟨g, (jp + 1) * 12 + 9, none⟩ = some _ := (hblk.cell _).trans ph9
          have p10 : wr.cell? ⟨g, (jp + 1) * 12 + 10, none⟩ = some _ := (hblk.cell _).trans ph10
          have p11 : wr.cell? ⟨g, (jp + 1) * 12 + 11, none⟩ = some _ := (hblk.cell _).trans ph11
          have q0 : wr.cell? ⟨g, jp * 12, none⟩ = some _ := (hblk.cell _).trans qh0
          have q1 : wr.cell? ⟨g, jp * 12 + 1, none⟩ = some _ := (hblk.cell _).trans qh1
          have q2 : wr.cell? ⟨g, jp * 12 + 2, none⟩ = some _ := (hblk.cell _).trans qh2
          have q3 : wr.cell? ⟨g, jp * 12 + 3, none⟩ = some _ := (hblk.cell _).trans qh3
          have q4 : wr.cell? ⟨g, jp * 12 + 4, none⟩ = some _ := (hblk.cell _).trans qh4
          have q5 : wr.cell? ⟨g, jp * 12 + 5, none⟩ = some _ := (hblk.cell _).trans qh5
          have q6 : wr.cell? ⟨g, jp * 12 + 6, none⟩ = some _ := (hblk.cell _).trans qh6
          have q7 : wr.cell? ⟨g, jp * 12 + 7, none⟩ = some _ := (hblk.cell _).trans qh7
          have q8 : wr.cell? ⟨g, jp * 12 + 8, none⟩ = some _ := (hblk.cell _).trans qh8
          have q9 : wr.cell? ⟨g, jp * 12 + 9, none⟩ = some _ := (hblk.cell _).trans qh9
          have q10 : wr.cell? ⟨g, jp * 12 + 10, none⟩ = some _ := (hblk.cell _).trans qh10
          have q11 : wr.cell? ⟨g, jp * 12 + 11, none⟩ = some _ := (hblk.cell _).trans qh11
          obtain ⟨z, hz⟩ : ∃ z, cmpT pv.1 a.1 = z := ⟨_, rfl⟩
          have Hz := Lib.hid hz
          have hAl2 := hAl
          have hfn := run_fn
          have hjz : (0 : Int) < (jp : Int) + 1 := by omega
          have hjl : (jp : Int) + 1 < (l.length : Int) := by omega
          have hw1 : IntKind.i64.wrap ((jp : Int) + 1 - 1) = (jp : Int) := by rw [IntKind.wrap_i64]; omega
          have hw2 : IntKind.i64.wrap (jp : Int) = (jp : Int) := by rw [IntKind.wrap_i64]; omega
          have hjl1 : (jp : Int) < (l.length : Int) := by omega
          have hj00 : (0 : Int) ≤ (jp : Int) + 1 := by omega
          have hjn : ((jp : Int) + 1).toNat = jp + 1 := by omega
          clear hz rp1 rp2 rq1 rq2 hblk hcs hpr ph0 ph1 ph2 ph3 ph4 ph5 ph6 ph7 ph8 ph9 ph10 ph11 qh0 qh1 qh2 qh3 qh4 qh5 qh6 qh7 qh8 qh9 qh10 qh11 hbB hAl
          by_cases hlz : z < 0
          · go_wp2_with fail
            go_still_tail 14, (by kernel_rfl)
            go_wp2_with fail
            refine (pcmp_any (RdS.under Hrp.out ((Below.refl _ _).drew) (Nat.le_refl _) (by simp; omega)) (RdS.under Hrq.out ((Below.refl _ _).drew) (Nat.le_refl _) (by simp; omega))).mono ?_
            rw [Hz.out]
            rintro e w1 ⟨rfl, hb1⟩
            have hbl := (Below.refl wr.heap.size wr).drew.trans hb1
            have Hblk1 := Lib.hid (Hblk.out.below hbl Hblk.out.lt)
            have HS3 := Lib.hid (HS2.out.below hbl)
            clear hb1 hbl p0 q0 p1 q1 p2 q2 p3 q3 p4 q4 p5 q5 p6 q6 p7 q7 p8 q8 p9 q9 p10 q10 p11 q11
            obtain ⟨o, hm0⟩ : ∃ o, jp * 12 = o := ⟨_, rfl⟩
            have hm1 : (jp + 1) * 12 = o + 12 := by omega
            have p0 : w1.cell? ⟨g, o + 12, none⟩ = some _ := (Hblk1.out.cell _).trans (by have := HPH.out.1; rw [show (jp + 1) * 12 = o + 12 by omega] at this; exact this)
            have zp0 : w1.frozen? ⟨g, o + 12, none⟩ = false := Hblk1.out.frozen _
            have p1 : w1.cell? ⟨g, o + 13, none⟩ = some _ := (Hblk1.out.cell _).trans (by have := HPH.out.2.1; rw [show (jp + 1) * 12 + 1 = o + 13 by omega] at this; exact this)
            have zp1 : w1.frozen? ⟨g, o + 13, none⟩ = false := Hblk1.out.frozen _
            have p2 : w1.cell? ⟨g, o + 14, none⟩ = some _ := (Hblk1.out.cell _).trans (by have := HPH.out.2.2.1; rw [show (jp + 1) * 12 + 2 = o + 14 by omega] at this; exact this)
            have zp2 : w1.frozen? ⟨g, o + 14, none⟩ = false := Hblk1.out.frozen _
            have p3 : w1.cell? ⟨g, o + 15, none⟩ = some _ := (Hblk1.out.cell _).trans (by have := HPH.out.2.2.2.1; rw [show (jp + 1) * 12 + 3 = o + 15 by omega] at this; exact this)
            have zp3 : w1.frozen? ⟨g, o + 15, none⟩ = false := Hblk1.out.frozen _
            have p4 : w1.cell? ⟨g, o + 16, none⟩ = some _ := (Hblk1.out.cell _).trans (by have := HPH.out.2.2.2.2.1; rw [show (jp + 1) * 12 + 4 = o + 16 by omega] at this; exact this)
            have zp4 : w1.frozen? ⟨g, o + 16, none⟩ = false := Hblk1.out.frozen _
            have p5 : w1.cell? ⟨g, o + 17, none⟩ = some _ := (Hblk1.out.cell _).trans (by have := HPH.out.2.2.2.2.2.1; rw [show (jp + 1) * 12 + 5 = o + 17 by omega] at this; exact this)
            have zp5 : w1.frozen? ⟨g, o + 17, none⟩ = false := Hblk1.out.frozen _
            have p6 : w1.cell? ⟨g, o + 18, none⟩ = some _ := (Hblk1.out.cell _).trans (by have := HPH.out.2.2.2.2.2.2.1; rw [show (jp + 1) * 12 + 6 = o + 18 by omega] at this; exact this)
            have zp6 : w1.frozen? ⟨g, o + 18, none⟩ = false := Hblk1.out.frozen _
            have p7 : w1.cell? ⟨g, o + 19, none⟩ = some _ := (Hblk1.out.cell _).trans (by have := HPH.out.2.2.2.2.2.2.2.1; rw [show (jp + 1) * 12 + 7 = o + 19 by omega] at this; exact this)
            have zp7 : w1.frozen? ⟨g, o + 19, none⟩ = false := Hblk1.out.frozen _
            have p8 : w1.cell? ⟨g, o + 20, none⟩ = some _ := (Hblk1.out.cell _).trans (by have := HPH.out.2.2.2.2.2.2.2.2.1; rw [show (jp + 1) * 12 + 8 = o + 20 by omega] at this; exact this)
            have zp8 : w1.frozen? ⟨g, o + 20, none⟩ = false := Hblk1.out.frozen _
            have p9 : w1.cell? ⟨g, o + 21, none⟩ = some _ := (Hblk1.out.cell _).trans (by have := HPH.out.2.2.2.2.2.2.2.2.2.1; rw [show (jp + 1) * 12 + 9 = o + 21 by omega] at this; exact this)
            have zp9 : w1.frozen? ⟨g, o + 21, none⟩ = false := Hblk1.out.frozen _
            have p10 : w1.cell? ⟨g, o + 22, none⟩ = some _ := (Hblk1.out.cell _).trans (by have := HPH.out.2.2.2.2.2.2.2.2.2.2.1; rw [show (jp + 1) * 12 + 10 = o + 22 by omega] at this; exact this)
            have zp10 : w1.frozen? ⟨g, o + 22, none⟩ = false := Hblk1.out.frozen _
            have p11 : w1.cell? ⟨g, o + 23, none⟩ = some _ := (Hblk1.out.cell _).trans (by have := HPH.out.2.2.2.2.2.2.2.2.2.2.2; rw [show (jp + 1) * 12 + 11 = o + 23 by omega] at this; exact this)
            have zp11 : w1.frozen? ⟨g, o + 23, none⟩ = false := Hblk1.out.frozen _
            have q0 : w1.cell? ⟨g, o, none⟩ = some _ := (Hblk1.out.cell _).trans (by have := HQH.out.1; rw [hm0] at this; exact this)
            have zq0 : w1.frozen? ⟨g, o, none⟩ = false := Hblk1.out.frozen _
            have q1 : w1.cell? ⟨g, o + 1, none⟩ = some _ := (Hblk1.out.cell _).trans (by have := HQH.out.2.1; rw [hm0] at this; exact this)
            have zq1 : w1.frozen? ⟨g, o + 1, none⟩ = false := Hblk1.out.frozen _
            have q2 : w1.cell? ⟨g, o + 2, none⟩ = some _ := (Hblk1.out.cell _).trans (by have := HQH.out.2.2.1; rw [hm0] at this; exact this)
            have zq2 : w1.frozen? ⟨g, o + 2, none⟩ = false := Hblk1.out.frozen _
            have q3 : w1.cell? ⟨g, o + 3, none⟩ = some _ := (Hblk1.out.cell _).trans (by have := HQH.out.2.2.2.1; rw [hm0] at this; exact this)
            have zq3 : w1.frozen? ⟨g, o + 3, none⟩ = false := Hblk1.out.frozen _
            have q4 : w1.cell? ⟨g, o + 4, none⟩ = some _ := (Hblk1.out.cell _).trans (by have := HQH.out.2.2.2.2.1; rw [hm0] at this; exact this)
            have zq4 : w1.frozen? ⟨g, o + 4, none⟩ = false := Hblk1.out.frozen _
            have q5 : w1.cell? ⟨g, o + 5, none⟩ = some _ := (Hblk1.out.cell _).trans (by have := HQH.out.2.2.2.2.2.1; rw [hm0] at this; exact this)
            have zq5 : w1.frozen? ⟨g, o + 5, none⟩ = false := Hblk1.out.frozen _
            have q6 : w1.cell? ⟨g, o + 6, none⟩ = some _ := (Hblk1.out.cell _).trans (by have := HQH.out.2.2.2.2.2.2.1; rw [hm0] at this; exact this)
            have zq6 : w1.frozen? ⟨g, o + 6, none⟩ = false := Hblk1.out.frozen _
            have q7 : w1.cell? ⟨g, o + 7, none⟩ = some _ := (Hblk1.out.cell _).trans (by have := HQH.out.2.2.2.2.2.2.2.1; rw [hm0] at this; exact this)
            have zq7 : w1.frozen? ⟨g, o + 7, none⟩ = false := Hblk1.out.frozen _
            have q8 : w1.cell? ⟨g, o + 8, none⟩ = some _ := (Hblk1.out.cell _).trans (by have := HQH.out.2.2.2.2.2.2.2.2.1; rw [hm0] at this; exact this)
            have zq8 : w1.frozen? ⟨g, o + 8, none⟩ = false := Hblk1.out.frozen _
            have q9 : w1.cell? ⟨g, o + 9, none⟩ = some _ := (Hblk1.out.cell _).trans (by have := HQH.out.2.2.2.2.2.2.2.2.2.1; rw [hm0] at this; exact this)
            have zq9 : w1.frozen? ⟨g, o + 9, none⟩ = false := Hblk1.out.frozen _
            have q10 : w1.cell? ⟨g, o + 10, none⟩ = some _ := (Hblk1.out.cell _).trans (by have := HQH.out.2.2.2.2.2.2.2.2.2.2.1; rw [hm0] at this; exact this)
            have zq10 : w1.frozen? ⟨g, o + 10, none⟩ = false := Hblk1.out.frozen _
            have q11 : w1.cell? ⟨g, o + 11, none⟩ = some _ := (Hblk1.out.cell _).trans (by have := HQH.out.2.2.2.2.2.2.2.2.2.2.2; rw [hm0] at this; exact this)
            have zq11 : w1.frozen? ⟨g, o + 11, none⟩ = false := Hblk1.out.frozen _
            go_wp2_with fail
            go_big_region
            all_goals
              go_wp2_with fail
              go_roundg jp
              case measure => omega
              case rel =>
                refine ⟨jp, A', a :: Bs, by first | rfl | go_num | (congr 1; omega), by omega, Nat.le_refl _, ⟨hAl2, ?_, ?_, ?_⟩, ?_⟩
                · have := HM.out.2.1; rw [← this]; simp
                · intro b hb
                  rcases List.mem_cons.1 hb with rfl | hb
                  · rw [Hz.out]; omega
                  · exact HM.out.2.2.1 b hb
                · show RowP w B (set12 (set12 w1 g (o + 12) (.int .i64 k3) (.bool b3) (.int .i64 n3) (.float .f64 f3) (.string s3) (.slice A3 t3.length c3) (.int .i64 k4) (.bool b4) (.int .i64 n4) (.float .f64 f4) (.string s4) (.slice A4 t4.length c4)) g o (.int .i64 k1) (.bool b1) (.int .i64 n1) (.float .f64 f1) (.string s1) (.slice A1 t1.length c1) (.int .i64 k2) (.bool b2) (.int .i64 n2) (.float .f64 f2) (.string s2) (.slice A2 t2.length c2)).drew g _
                  exact RowP.drew (row_swap (o := o) (R := Bs ++ l.drop (i + 1)) (wr := w1) Hblk1.out Hcs.out Hpr.out HP2.out HQ2.out (by rw [hAl2]; exact hm0))
                · show Beside g w (set12 (set12 w1 g (o + 12) (.int .i64 k3) (.bool b3) (.int .i64 n3) (.float .f64 f3) (.string s3) (.slice A3 t3.length c3) (.int .i64 k4) (.bool b4) (.int .i64 n4) (.float .f64 f4) (.string s4) (.slice A4 t4.length c4)) g o (.int .i64 k1) (.bool b1) (.int .i64 n1) (.float .f64 f1) (.string s1) (.slice A1 t1.length c1) (.int .i64 k2) (.bool b2) (.int .i64 n2) (.float .f64 f2) (.string s2) (.slice A2 t2.length c2)).drew
                  exact Beside.below ((HS3.out.set12 _ _ _ _ _ _ _ _ _ _ _ _ _).set12 _ _ _ _ _ _ _ _ _ _ _ _ _) ((Below.refl _ _).drew)
          · have hdz : decide (z < 0) = false := by simpa using hlz
            go_wp2_with fail
            go_still_tail 14, (by kernel_rfl)
            go_wp2_with fail
            refine (pcmp_any (RdS.under Hrp.out ((Below.refl _ _).drew) (Nat.le_refl _) (by simp; omega)) (RdS.under Hrq.out ((Below.refl _ _).drew) (Nat.le_refl _) (by simp; omega))).mono ?_
            rw [Hz.out]
            rintro e w1 ⟨rfl, hb1⟩
            have hbl := (Below.refl wr.heap.size wr).drew.trans hb1
            go_wp2_with fail
            go_roundg (l.length - (i + 1))
            case measure => omega
            case rel =>
              refine ⟨i + 1, by go_num, by omega, by omega, by omega, ?_, HS2.out.below hbl⟩
              have := OUT.out (fun x hx => by have := asc_stop (by rw [HM.out.2.1]; exact srt_asc _) (by rw [Hz.out]; omega) x hx; omega)
              show RowP _ _ _ _ _
              rw [← this]
              exact ⟨cs, Hblk.out.below hbl Hblk.out.lt, Hcs.out, Hpr.out⟩
        · obtain rfl : j = 0 := by omega
          obtain rfl : A = [] := by have := HM.out.1; simpa using this
          have hd0 : decide ((0 : Int) < ((0 : Nat) : Int)) = false := by decide
          have hd1 : decide ((0 : Int) < 0) = false := by decide
          go_wp2_with fail
          go_quiet (fail)
          go_wp2_with fail
          go_roundg (l.length - (i + 1))
          case measure => omega
          case rel =>
            refine ⟨i + 1, by go_num, by omega, by omega, by omega, ?_, ?_⟩
            · have := OUT.out (fun x hx => by simp at hx)
              show RowP _ _ _ _ _
              rw [← this]
              obtain ⟨cs, h1, h2, h3⟩ := HM.out.2.2.2
              exact ⟨cs, h1, h2, h3⟩
            · exact HS2.out
    · have hltz : ¬ (i : Int) < (l.length : Int) := by omega
      go_wp2_with fail
      go_end0
      refine ⟨rfl, ?_, HS.out⟩
      have := HR.out
      rwa [List.take_of_length_le (by omega), List.drop_eq_nil_of_le (by omega), List.append_nil] at this

end Go.Proofs.Ytaonlbmicjoclaa
