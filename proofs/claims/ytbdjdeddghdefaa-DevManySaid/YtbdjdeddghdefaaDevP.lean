/- a step, whatever falls are planned -/
import Derived.Test.YtbdjdeddghdefaaDevL
namespace Go.Proofs.Ytbdjdeddghdefaa
open Go.ChangeShapes Go.WideShapes Go.ChangeAt Go.RowKit
open Go.Maps (Keyed)

theorem cell_add (b o k : Nat) : (⟨b, o, none⟩ : Addr).add k = ⟨b, o + k, none⟩ := by unfold Addr.add; split <;> simp_all

/-- 'l[1:]' -/
theorem rest_of (b o m cap : Nat) (W : World) :
    (Instr.sliceAt 57 (.slice (some ⟨b, o, none⟩) (m + 1) cap) (some (.int .i64 1)) none none).run Try.prog W = .ok (.slice (if cap = 1 then some ⟨b, o, none⟩ else some ⟨b, o + 3, none⟩) m (cap - 1)) W := by
  have e2 : Try.prog.elem 57 = 40 := by kernel_rfl
  have hu : Try.prog.underlying 57 = some (.slice (Try.prog.elem 57)) := by rw [e2]; exact Try.underlying57
  have hs : (sizeOf (Try.prog.elem 57)).run Try.prog W = .ok 3 W := by rw [e2]; exact Try.sizeOf40 W
  rw [run_sliceAt_slice W 57 _ _ _ _ hu, run_slice_l W 57 (some ⟨b, o, none⟩) (m + 1) cap hu .i64 1 (by decide) (by omega), hs]
  simp only [Result.andThen_ok, sliced]
  have e1 : (1 : Int).toNat = 1 := rfl
  rw [e1]
  by_cases hc : cap = 1
  · simp [hc]
  · simp [hc, cell_add]

/-- the plan goes on behind its first fall -/
theorem IsPlan.rest {w : World} {b o cap : Nat} {f : Fal} {r : List Fal} (h : IsPlan w (.slice (some ⟨b, o, none⟩) (r.length + 1) cap) (f :: r)) :
    IsPlan w (.slice (if cap = 1 then some ⟨b, o, none⟩ else some ⟨b, o + 3, none⟩) r.length (cap - 1)) r := by
  obtain ⟨A, cap', h1, h2, h3, h4⟩ := h
  simp only [List.length_cons, Value.slice.injEq, true_and] at h1
  obtain ⟨rfl, rfl⟩ := h1
  simp only [List.length_cons] at h2
  refine ⟨_, _, rfl, by omega, by omega, ?_⟩
  rcases h4 with h4 | ⟨b', o', cs, e1, e2, e3⟩
  · cases h4
  · by_cases hr : r = []
    · exact .inl hr
    · right
      have hl : 0 < r.length := List.length_pos_iff.2 hr
      cases e1
      refine ⟨b, o + 3, cs, by rw [if_neg (by omega)], e2, fun i hi => ?_⟩
      have := e3 (i + 1) (by simp; omega)
      simp only [List.getElem_cons_succ] at this
      obtain ⟨q0, q1, q2, q3⟩ := this
      exact ⟨by rw [← q0]; congr 1; omega, by rw [← q1]; congr 1; omega, by rw [← q2]; congr 1; omega, q3⟩

/-- its first fall -/
theorem IsPlan.first {w : World} {v : Value} {f : Fal} {r : List Fal} (h : IsPlan w v (f :: r)) :
    ∃ b o cap, v = .slice (some ⟨b, o, none⟩) (r.length + 1) cap ∧ r.length + 1 ≤ cap ∧ b < w.heap.size ∧ w.cell? ⟨b, o, none⟩ = some (.int .i64 f.at_) ∧ w.cell? ⟨b, o + 1, none⟩ = some (.int .u64 (f.keep : Int)) ∧ w.cell? ⟨b, o + 2, none⟩ = some (.int .i64 f.torn) ∧ f.keep < 18446744073709551616 := by
  obtain ⟨A, cap, rfl, h2, h3, h4⟩ := h
  rcases h4 with h4 | ⟨b, o, cs, rfl, e2, e3⟩
  · cases h4
  · obtain ⟨q0, q1, q2, q3⟩ := e3 0 (by simp)
    simp only [List.getElem_cons_zero, Nat.zero_mul, Nat.zero_add, Nat.add_zero] at q0 q1 q2 q3
    refine ⟨b, o, cap, rfl, h2, (Array.getElem?_eq_some_iff.1 e2).1, ?_, ?_, ?_, q3⟩
    · rw [cell_of_row _ _ _ _ _ _ e2]; exact q0
    · rw [cell_of_row _ _ _ _ _ _ e2]; exact q1
    · rw [cell_of_row _ _ _ _ _ _ e2]; exact q2

set_option maxRecDepth 100000 in
set_option maxHeartbeats 1000000 in
theorem step_any (d : Dv) : StepC d := by
  intro w B S M pv h
  have H := Lib.hid h
  have hbl := h.ltB
  clear h
  go_enter Try.func55, Try.ntmps55
  go_wp2_with fail
  go_loopw [3] (fun _ wr => ∃ (l : List Fal) (pv' : Oth), Hid (IsDev wr B S M pv' { d with plan := l }) ∧ Hid (stepP d l = stepD d) ∧ Hid (Only (fun k => k = B) w wr) ) (fun _ wr => match wr.cell? ⟨B, 2, none⟩ with | some (.slice _ n _) => n | _ => 0)
  case atStart => exact ⟨d.plan, pv, H, rfl, Only.refl _ _⟩
  case round =>
    obtain ⟨l, pv', HI, HST, HON⟩ := hrel
    cases l with
    | nil =>
      obtain ⟨c0, c1, c2, c3, c4⟩ := HI.out.cells
      obtain ⟨A, cap, hpv, -⟩ := HI.out.plan
      have HPV := Lib.hid hpv
      rw [hpv] at c2
      simp only [List.length_nil] at c2
      have z3 := HI.out.frozen 3
      clear hpv
      go_wp2_with fail
      go_region
      all_goals go_wp2_with fail
      go_ret
      have ho : Only (fun k => k = B) wr (wr.setCell ⟨B, 3, none⟩ (.int .i64 (wrap64 (d.steps + 1)))).drew := ((Only.refl (fun k => k = B) wr).setCell (p := ⟨B, 3, none⟩) (.inl rfl) _).drew
      have e0 : stepD d = ({ d with plan := [], steps := wrap64 (d.steps + 1) }, true) := HST.out.symm
      rw [e0]
      refine ⟨rfl, ⟨pv', IsDev.setB HI.out ho ?_ rfl rfl rfl HI.out.plan⟩, (HON.out.trans ho).mono fun k _ hk => .inl hk⟩
      exact (heap_setCell_same wr B 3 _ _ _ HI.out.blk).trans rfl
    | cons f r =>
      obtain ⟨c0, c1, c2, c3, c4⟩ := HI.out.cells
      obtain ⟨b, o, cap, hpv, hcap, hbw, p0, p1, p2, hkp⟩ := IsPlan.first HI.out.plan
      have HPL := Lib.hid (hpv ▸ HI.out.plan)
      have HPV := Lib.hid hpv
      rw [hpv] at c2
      have z2 := HI.out.frozen 2
      have z3 := HI.out.frozen 3
      have dl : decide ((0 : Int) < ((r.length + 1 : Nat) : Int)) = true := by simp
      clear hpv
      by_cases hle : f.at_ ≤ d.steps
      · have dle : decide (f.at_ ≤ d.steps) = true := by simpa using hle
        have hsl := fun W => rest_of b o r.length cap W
        have HPR := Lib.hid HPL.out.rest
        generalize hnp : (if cap = 1 then some (⟨b, o, none⟩ : Addr) else some ⟨b, o + 3, none⟩) = nA at hsl HPR
        have HNP := Lib.hid hnp
        clear hnp
        have hd1 := HI.out.on ((Below.refl _ wr).alloc (Nat.le_refl _) (.cells #[.int .i64 f.at_, .int .u64 (f.keep : Int), .int .i64 f.torn] 40))
        obtain ⟨-, -, k2, -, -⟩ := hd1.cells
        rw [HPV.out] at k2
        have kz2 := hd1.frozen 2
        have hbx1 := heap_alloc_last wr (.cells #[.int .i64 f.at_, .int .u64 (f.keep : Int), .int .i64 f.torn] 40)
        obtain ⟨-, -, -, k3, -⟩ := hd1.cells
        have ho2 : Only (fun k => k = B) (wr.alloc (.cells #[.int .i64 f.at_, .int .u64 (f.keep : Int), .int .i64 f.torn] 40)) ((wr.alloc (.cells #[.int .i64 f.at_, .int .u64 (f.keep : Int), .int .i64 f.torn] 40)).setCell ⟨B, 2, none⟩ (.slice nA r.length (cap - 1))) :=
          (Only.refl (fun k => k = B) _).setCell (p := ⟨B, 2, none⟩) (.inl rfl) _
        have hpr' : IsPlan (wr.alloc (.cells #[.int .i64 f.at_, .int .u64 (f.keep : Int), .int .i64 f.torn] 40)) (.slice nA r.length (cap - 1)) r := IsPlan.keep HPR.out fun k cs hk => (Below.heap_alloc wr _ k (Array.getElem?_eq_some_iff.1 hk).1).trans hk
        have hd2 : IsDev ((wr.alloc (.cells #[.int .i64 f.at_, .int .u64 (f.keep : Int), .int .i64 f.torn] 40)).setCell ⟨B, 2, none⟩ (.slice nA r.length (cap - 1))) B S M ⟨.slice nA r.length (cap - 1), pv'.spare, pv'.cap⟩ { d with plan := r } :=
          IsDev.setB hd1 ho2 ((heap_setCell_same _ B 2 _ _ _ hd1.blk).trans rfl) rfl rfl rfl hpr'
        have y0 : (wr.alloc (.cells #[.int .i64 f.at_, .int .u64 (f.keep : Int), .int .i64 f.torn] 40)).cell? ⟨wr.heap.size, 0, none⟩ = some (.int .i64 f.at_) := by rw [cell_of_row _ _ _ _ _ _ hbx1]; rfl
        have y1 : (wr.alloc (.cells #[.int .i64 f.at_, .int .u64 (f.keep : Int), .int .i64 f.torn] 40)).cell? ⟨wr.heap.size, 1, none⟩ = some (.int .u64 (f.keep : Int)) := by rw [cell_of_row _ _ _ _ _ _ hbx1]; rfl
        have y2 : (wr.alloc (.cells #[.int .i64 f.at_, .int .u64 (f.keep : Int), .int .i64 f.torn] 40)).cell? ⟨wr.heap.size, 2, none⟩ = some (.int .i64 f.torn) := by rw [cell_of_row _ _ _ _ _ _ hbx1]; rfl
        have hne : ¬ (wr.heap.size = B) := by have := HI.out.ltB; omega
        have hne' : ¬ (B = wr.heap.size) := fun e => hne e.symm
        have HD2 := Lib.hid hd2.drew.drew
        clear hd1 ho2 hpr' hd2 hbx1
        have hst := HST.out
        unfold stepP at hst
        rw [if_pos hle] at hst
        have how : Only (fun k => k = B) w ((wr.alloc (.cells #[.int .i64 f.at_, .int .u64 (f.keep : Int), .int .i64 f.torn] 40)).setCell ⟨B, 2, none⟩ (.slice nA r.length (cap - 1))).drew.drew := (((HON.out.alloc _).setCell (p := ⟨B, 2, none⟩) (.inl rfl) _).drew).drew
        have HOW := Lib.hid how
        clear how
        by_cases heq : f.at_ = d.steps
        · have deq : (f.at_ == d.steps) = true := by simpa using heq
          rw [if_pos heq] at hst
          have HST2 := Lib.hid hst
          have HCR := Lib.hid (crash_any HD2.out hkp f.torn)
          clear hst heq hle
          go_wp2_with fail
          go_region
          all_goals go_wp2_with fail
          go_region
          all_goals go_wp2_with (first
            | (go_at_call 30; refine HCR.out.mono ?_; rintro e w3 ⟨rfl, hd3, ho3⟩)
            | fail)
          go_ret
          rw [← HST2.out]
          refine ⟨rfl, ⟨_, hd3⟩, ?_⟩
          exact (HOW.out.mono fun k _ hk => .inl hk).trans ho3
        · have deq : (f.at_ == d.steps) = false := by simpa using heq
          rw [if_neg heq] at hst
          have HST2 := Lib.hid hst
          clear hst heq hle
          go_wp2_with fail
          go_region
          all_goals go_wp2_with fail
          go_region
          all_goals go_wp2_with fail
          go_roundw
          case rel => exact ⟨r, _, HD2, HST2, HOW⟩
          case measure =>
            have q1 := HD2.out.cells.2.2.1
            simp only [q1, c2]
            omega
      · have dle : decide (f.at_ ≤ d.steps) = false := by simpa using hle
        go_wp2_with fail
        go_region
        all_goals go_wp2_with fail
        go_ret
        have ho : Only (fun k => k = B) wr (wr.setCell ⟨B, 3, none⟩ (.int .i64 (wrap64 (d.steps + 1)))).drew := ((Only.refl (fun k => k = B) wr).setCell (p := ⟨B, 3, none⟩) (.inl rfl) _).drew
        have e0 : stepD d = ({ d with plan := f :: r, steps := wrap64 (d.steps + 1) }, true) := by
          have := HST.out
          unfold stepP at this
          rw [if_neg (by omega)] at this
          exact this.symm
        rw [e0]
        refine ⟨rfl, ⟨pv', IsDev.setB HI.out ho ?_ rfl rfl rfl HI.out.plan⟩, (HON.out.trans ho).mono fun k _ hk => .inl hk⟩
        rw [HPV.out]
        exact (heap_setCell_same wr B 3 _ _ _ (HPV.out ▸ HI.out.blk)).trans rfl

end Go.Proofs.Ytbdjdeddghdefaa
