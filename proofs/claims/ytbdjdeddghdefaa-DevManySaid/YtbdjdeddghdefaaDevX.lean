/- a device's calls once more: what lies spare in its row stays -/
import Derived.Test.YtbdjdeddghdefaaDevP
import Derived.LoopN
namespace Go.Proofs.Ytbdjdeddghdefaa
open Go.ChangeShapes Go.WideShapes Go.ChangeAt Go.RowKit
open Go.Maps (Keyed)

/-- the contract of a step at a device; its spare cells stay -/
def StepC2 (d : Dv) : Prop := ∀ (w : World) (B S M : Nat) (pv : Oth), IsDev w B S M pv d →
  Calls Try.prog 55 #[.pointer (some ⟨B, 0, none⟩)] w fun e w' => e = .returned (.bool (stepD d).2) ∧ (∃ pv', pv'.spare = pv.spare ∧ IsDev w' B S M pv' (stepD d).1) ∧ Only (dev3 B S M) w w'

set_option maxRecDepth 100000 in
set_option maxHeartbeats 1000000 in
theorem step_any2 (d : Dv) : StepC2 d := by
  intro w B S M pv h
  have H := Lib.hid h
  have hbl := h.ltB
  clear h
  go_enter Try.func55, Try.ntmps55
  go_wp2_with fail
  go_loopw [3] (fun _ wr => ∃ (l : List Fal) (pv' : Oth), Hid (IsDev wr B S M pv' { d with plan := l }) ∧ Hid (stepP d l = stepD d) ∧ Hid (Only (fun k => k = B) w wr) ∧ Hid (pv'.spare = pv.spare)) (fun _ wr => match wr.cell? ⟨B, 2, none⟩ with | some (.slice _ n _) => n | _ => 0)
  case atStart => exact ⟨d.plan, pv, H, rfl, Only.refl _ _, rfl⟩
  case round =>
    obtain ⟨l, pv', HI, HST, HON, HSP⟩ := hrel
    cases l with
    | nil =>
      obtain ⟨c0, c1, c2, c3, c4⟩ := HI.out.cells
      obtain ⟨A, cap, hpv, -⟩ := HI.out.plan
      have HPV := Lib.hid hpv
      rw [hpv] at c2
      simp only [List.length_nil] at c2
      have z3 := HI.out.frozen 3
      clear hpv
      go_wp2_with fail
      go_region
      all_goals go_wp2_with fail
      go_ret
      have ho : Only (fun k => k = B) wr (wr.setCell ⟨B, 3, none⟩ (.int .i64 (wrap64 (d.steps + 1)))).drew := ((Only.refl (fun k => k = B) wr).setCell (p := ⟨B, 3, none⟩) (.inl rfl) _).drew
      have e0 : stepD d = ({ d with plan := [], steps := wrap64 (d.steps + 1) }, true) := HST.out.symm
      rw [e0]
      refine ⟨rfl, ⟨pv', HSP.out, IsDev.setB HI.out ho ?_ rfl rfl rfl HI.out.plan⟩, (HON.out.trans ho).mono fun k _ hk => .inl hk⟩
      exact (heap_setCell_same wr B 3 _ _ _ HI.out.blk).trans rfl
    | cons f r =>
      obtain ⟨c0, c1, c2, c3, c4⟩ := HI.out.cells
      obtain ⟨b, o, cap, hpv, hcap, hbw, p0, p1, p2, hkp⟩ := IsPlan.first HI.out.plan
      have HPL := Lib.hid (hpv ▸ HI.out.plan)
      have HPV := Lib.hid hpv
      rw [hpv] at c2
      have z2 := HI.out.frozen 2
      have z3 := HI.out.frozen 3
      have dl : decide ((0 : Int) < ((r.length + 1 : Nat) : Int)) = true := by simp
      clear hpv
      by_cases hle : f.at_ ≤ d.steps
      · have dle : decide (f.at_ ≤ d.steps) = true := by simpa using hle
        have hsl := fun W => rest_of b o r.length cap W
        have HPR := Lib.hid HPL.out.rest
        generalize hnp : (if cap = 1 then some (⟨b, o, none⟩ : Addr) else some ⟨b, o + 3, none⟩) = nA at hsl HPR
        have HNP := Lib.hid hnp
        clear hnp
        have hd1 := HI.out.on ((Below.refl _ wr).alloc (Nat.le_refl _) (.cells #[.int .i64 f.at_, .int .u64 (f.keep : Int), .int .i64 f.torn] 40))
        obtain ⟨-, -, k2, -, -⟩ := hd1.cells
        rw [HPV.out] at k2
        have kz2 := hd1.frozen 2
        have hbx1 := heap_alloc_last wr (.cells #[.int .i64 f.at_, .int .u64 (f.keep : Int), .int .i64 f.torn] 40)
        obtain ⟨-, -, -, k3, -⟩ := hd1.cells
        have ho2 : Only (fun k => k = B) (wr.alloc (.cells #[.int .i64 f.at_, .int .u64 (f.keep : Int), .int .i64 f.torn] 40)) ((wr.alloc (.cells #[.int .i64 f.at_, .int .u64 (f.keep : Int), .int .i64 f.torn] 40)).setCell ⟨B, 2, none⟩ (.slice nA r.length (cap - 1))) :=
          (Only.refl (fun k => k = B) _).setCell (p := ⟨B, 2, none⟩) (.inl rfl) _
        have hpr' : IsPlan (wr.alloc (.cells #[.int .i64 f.at_, .int .u64 (f.keep : Int), .int .i64 f.torn] 40)) (.slice nA r.length (cap - 1)) r := IsPlan.keep HPR.out fun k cs hk => (Below.heap_alloc wr _ k (Array.getElem?_eq_some_iff.1 hk).1).trans hk
        have hd2 : IsDev ((wr.alloc (.cells #[.int .i64 f.at_, .int .u64 (f.keep : Int), .int .i64 f.torn] 40)).setCell ⟨B, 2, none⟩ (.slice nA r.length (cap - 1))) B S M ⟨.slice nA r.length (cap - 1), pv'.spare, pv'.cap⟩ { d with plan := r } :=
          IsDev.setB hd1 ho2 ((heap_setCell_same _ B 2 _ _ _ hd1.blk).trans rfl) rfl rfl rfl hpr'
        have y0 : (wr.alloc (.cells #[.int .i64 f.at_, .int .u64 (f.keep : Int), .int .i64 f.torn] 40)).cell? ⟨wr.heap.size, 0, none⟩ = some (.int .i64 f.at_) := by rw [cell_of_row _ _ _ _ _ _ hbx1]; rfl
        have y1 : (wr.alloc (.cells #[.int .i64 f.at_, .int .u64 (f.keep : Int), .int .i64 f.torn] 40)).cell? ⟨wr.heap.size, 1, none⟩ = some (.int .u64 (f.keep : Int)) := by rw [cell_of_row _ _ _ _ _ _ hbx1]; rfl
        have y2 : (wr.alloc (.cells #[.int .i64 f.at_, .int .u64 (f.keep : Int), .int .i64 f.torn] 40)).cell? ⟨wr.heap.size, 2, none⟩ = some (.int .i64 f.torn) := by rw [cell_of_row _ _ _ _ _ _ hbx1]; rfl
        have hne : ¬ (wr.heap.size = B) := by have := HI.out.ltB; omega
        have hne' : ¬ (B = wr.heap.size) := fun e => hne e.symm
        have HD2 := Lib.hid hd2.drew.drew
        clear hd1 ho2 hpr' hd2 hbx1
        have hst := HST.out
        unfold stepP at hst
        rw [if_pos hle] at hst
        have how : Only (fun k => k = B) w ((wr.alloc (.cells #[.int .i64 f.at_, .int .u64 (f.keep : Int), .int .i64 f.torn] 40)).setCell ⟨B, 2, none⟩ (.slice nA r.length (cap - 1))).drew.drew := (((HON.out.alloc _).setCell (p := ⟨B, 2, none⟩) (.inl rfl) _).drew).drew
        have HOW := Lib.hid how
        clear how
        by_cases heq : f.at_ = d.steps
        · have deq : (f.at_ == d.steps) = true := by simpa using heq
          rw [if_pos heq] at hst
          have HST2 := Lib.hid hst
          have HCR := Lib.hid (crash_any HD2.out hkp f.torn)
          clear hst heq hle
          go_wp2_with fail
          go_region
          all_goals go_wp2_with fail
          go_region
          all_goals go_wp2_with (first
            | (go_at_call 30; refine HCR.out.mono ?_; rintro e w3 ⟨rfl, hd3, ho3⟩)
            | fail)
          go_ret
          rw [← HST2.out]
          refine ⟨rfl, ⟨⟨.slice nA r.length (cap - 1), pv'.spare, pv'.cap⟩, HSP.out, hd3⟩, ?_⟩
          exact (HOW.out.mono fun k _ hk => .inl hk).trans ho3
        · have deq : (f.at_ == d.steps) = false := by simpa using heq
          rw [if_neg heq] at hst
          have HST2 := Lib.hid hst
          clear hst heq hle
          go_wp2_with fail
          go_region
          all_goals go_wp2_with fail
          go_region
          all_goals go_wp2_with fail
          go_roundw
          case rel => exact ⟨r, _, HD2, HST2, HOW, HSP⟩
          case measure =>
            have q1 := HD2.out.cells.2.2.1
            simp only [q1, c2]
            omega
      · have dle : decide (f.at_ ≤ d.steps) = false := by simpa using hle
        go_wp2_with fail
        go_region
        all_goals go_wp2_with fail
        go_ret
        have ho : Only (fun k => k = B) wr (wr.setCell ⟨B, 3, none⟩ (.int .i64 (wrap64 (d.steps + 1)))).drew := ((Only.refl (fun k => k = B) wr).setCell (p := ⟨B, 3, none⟩) (.inl rfl) _).drew
        have e0 : stepD d = ({ d with plan := f :: r, steps := wrap64 (d.steps + 1) }, true) := by
          have := HST.out
          unfold stepP at this
          rw [if_neg (by omega)] at this
          exact this.symm
        rw [e0]
        refine ⟨rfl, ⟨pv', HSP.out, IsDev.setB HI.out ho ?_ rfl rfl rfl HI.out.plan⟩, (HON.out.trans ho).mono fun k _ hk => .inl hk⟩
        rw [HPV.out]
        exact (heap_setCell_same wr B 3 _ _ _ (HPV.out ▸ HI.out.blk)).trans rfl

set_option maxRecDepth 100000 in
theorem write_in2 {w : World} {B S M : Nat} {pv : Oth} {d : Dv} (h : IsDev w B S M pv d) (ho : d.off = false) (hst : StepC2 d) {a : Nat} (ha : a < d.sure.length) {s : ByteArray} (hs : s.size = 128) :
    Calls Try.prog 31 #[.pointer (some ⟨B, 0, none⟩), .int .i64 a, .string s] w fun e w' =>
      e = .returned (.int .i64 (writeD d a s.data.toList).2) ∧ (∃ pv', pv'.spare = pv.spare ∧ IsDev w' B S M pv' (writeD d a s.data.toList).1) ∧ Only (dev3 B S M) w w' := by
  have hsl : s.data.toList.length = 128 := by rw [Array.length_toList]; exact hs
  have e0 : writeD d a s.data.toList = (if (stepD d).2 then ({ (stepD d).1 with loose := putL a s.data.toList (stepD d).1.loose }, 0) else ((stepD d).1, 7)) := by
    simp only [writeD, ho, Int.toNat_natCast]
    rw [if_neg (by simp), if_pos ⟨by omega, by omega, hsl⟩]
  have HO := Lib.hid (off_any h)
  have HH := Lib.hid (has_any h a)
  rw [ho] at HO
  have e1 : (decide (0 ≤ (a : Int)) && decide ((a : Int) < d.sure.length)) = true := by simpa using ha
  rw [e1] at HH
  have HS := Lib.hid (hst w B S M pv h)
  have H := Lib.hid h
  have HA := Lib.hid ha
  have HLS := Lib.hid hsl
  have hln : (Builtin.len_ #[9] 3 #[.string s]).run Try.prog w = .ok (.int .i64 128) w := by
    have := hs
    simp [Builtin.len_, goInt, this]
  have hb : ((128 : Int) == 128) = true := rfl
  rw [e0]
  have E0 := Lib.hid e0
  have HSZ := Lib.hid hs
  have hz := zero_sec
  unfold secV at hz
  have hZ : (secA zer).size = 128 := by rw [secA_size, zer_len]
  have HCP := fun W => Lib.hid (sec_copy hs hZ W 99 3)
  clear h ho hst ha e0 e1 hsl
  cases h2 : (stepD d).2
  · rw [h2] at HS
    go_enter Try.func31, Try.ntmps31
    go_wp2_with (first
      | (go_at_call 38; refine HO.out.mono ?_; rintro e w' ⟨rfl, rfl⟩)
      | (go_at_call 54; refine HH.out.mono ?_; rintro e w' ⟨rfl, rfl⟩)
      | (go_at_call 55; refine HS.out.mono ?_; rintro e w1 ⟨rfl, hd1, ho1⟩)
      | fail)
    go_ret
    exact ⟨rfl, hd1, ho1⟩
  · rw [h2] at HS
    go_enter Try.func31, Try.ntmps31
    go_wp2_with (first
      | (go_at_call 38; refine HO.out.mono ?_; rintro e w' ⟨rfl, rfl⟩)
      | (go_at_call 54; refine HH.out.mono ?_; rintro e w' ⟨rfl, rfl⟩)
      | (go_at_call 55; refine HS.out.mono ?_; rintro e w1 ⟨rfl, ⟨pv1, hsp1, hd1⟩, ho1⟩; have HSP := Lib.hid hsp1; clear hsp1; have hcp := (HCP w1).out; generalize secA zer = Z at hz hZ hcp)
      | fail)
    have hd2 := hd1.on ((Below.refl _ w1).alloc (Nat.le_refl _) (.cells (secA s.data.toList) 99))
    have hlen : (stepD d).1.sure.length = d.sure.length := stepP_len d _
    obtain ⟨k0, k1, k2, k3, k4⟩ := hd2.cells
    have hm2 : (w1.alloc (.cells (secA s.data.toList) 99)).drew.ownsMap Try.prog 3 RSec M (stepD d).1.loose.length (Dm (stepD d).1.loose) := hd2.map
    obtain ⟨w2, hpt, hm3, hg⟩ := put_ok hm2 (by have := hd2.few; have := hd2.most; omega) hd2.ris a (by have := hd2.most; have := HA.out; omega) HLS.out
    have hld : (Instr.loadAt 99 (.pointer (some ⟨w1.heap.size, 0, none⟩))).run Try.prog (w1.alloc (.cells (secA s.data.toList) 99)).drew = .ok (.agg (secA s.data.toList)) (w1.alloc (.cells (secA s.data.toList) 99)).drew := by
      have hx : (secA s.data.toList).size = 128 := by rw [secA_size, HLS.out]
      exact run_loadAt_mid _ w1.heap.size 0 99 (Lib.byteCells s.data.toList) _ (fun j v hj => by
        show World.cell? (w1.alloc (.cells (secA s.data.toList) 99)) _ = _
        rw [Nat.zero_add, cell_of_row _ _ _ _ _ _ (heap_alloc_last w1 _)]
        simpa [secA] using hj) Try.underlying99 rfl (by rw [size_sec, Lib.byteCells_length, HLS.out])
    unfold secV at hpt
    have HD1 := Lib.hid hd1; have HD2 := Lib.hid hd2; have HM3 := Lib.hid hm3; have HG := Lib.hid hg; have HM2 := Lib.hid hm2
    clear hd1 hd2 hm3 hg hm2
    generalize secA s.data.toList = C at hld hpt k0 k1 k2 k3 k4 HM2 HM3 HD2 HG hcp ⊢
    refine region_tail 6 (by kernel_rfl) (by kernel_rfl) ?_
    simp only [List.take_succ_cons, List.take_zero, List.drop_succ_cons, List.drop_zero]
    iterate 5 still_step
    refine still_load rfl 99 _ rfl _ rfl _ hld ?_
    refine wpStill_nil ?_
    refine list_put rfl 67 _ _ _ rfl _ _ _ rfl rfl rfl hpt ?_
    go_wp2_with fail
    go_ret
    have hd3 := IsDev.setM (w := (w1.alloc (.cells C 99)).drew) HD2.out.drew HG.out HM3.out (ris_putL HD2.out.ris) (fun p hp => by
      rcases mem_putL hp with rfl | hp
      · exact ⟨by have := HA.out; omega, HLS.out⟩
      · exact HD2.out.lbytes p hp)
    refine ⟨rfl, ⟨_, HSP.out, hd3⟩, ho1.trans ?_⟩
    exact (((Only.refl (dev3 B S M) w1).alloc _).drew).grown HG.out (.inl (.inr (.inr rfl)))

set_option maxRecDepth 100000 in
theorem flush_in2 {w : World} {B S M : Nat} {pv : Oth} {d : Dv} (h : IsDev w B S M pv d) (ho : d.off = false) (hst : StepC2 d) :
    Calls Try.prog 33 #[.pointer (some ⟨B, 0, none⟩)] w fun e w' =>
      e = .returned (.int .i64 (flushX d).2) ∧ (∃ pv', pv'.spare = pv.spare ∧ IsDev w' B S M pv' (flushX d).1) ∧ Only (dev3 B S M) w w' := by
  have e0 : flushX d = (if (stepD d).2 then (flushD (stepD d).1, 0) else ((stepD d).1, 7)) := by
    simp only [flushX, ho]; rfl
  have HO := Lib.hid (off_any h)
  rw [ho] at HO
  have HS := Lib.hid (hst w B S M pv h)
  rw [e0]
  clear h ho hst e0
  cases h2 : (stepD d).2
  · rw [h2] at HS
    go_enter Try.func33, Try.ntmps33
    go_wp2_with (first
      | (go_at_call 38; refine HO.out.mono ?_; rintro e w' ⟨rfl, rfl⟩)
      | (go_at_call 55; refine HS.out.mono ?_; rintro e w1 ⟨rfl, hd1, ho1⟩)
      | fail)
    go_ret
    exact ⟨rfl, hd1, ho1⟩
  · rw [h2] at HS
    rw [if_pos rfl]
    generalize (stepD d).1 = d1 at HS ⊢
    have hz := zero_sec
    unfold secV at hz
    have hZ : (secA zer).size = 128 := by rw [secA_size, zer_len]
    go_enter Try.func33, Try.ntmps33
    go_wp2_with (first
      | (go_at_call 38; refine HO.out.mono ?_; rintro e w' ⟨rfl, rfl⟩)
      | (go_at_call 55; refine HS.out.mono ?_; rintro e w1 ⟨rfl, ⟨pv1, hsp1, hd1⟩, ho1⟩; have HSP := Lib.hid hsp1; clear hsp1; obtain ⟨c0, c1, c2, c3, c4⟩ := hd1.cells; have hown := hd1.map; have HD1 := Lib.hid hd1; clear hd1)
      | (at_range; refine wpList_range_own _ rfl _ 67 rfl 3 99 keyed Try.underlying67 RSec M _ _ rfl hown ?_; intro w2 hrg0 hg0 hs0)
      | fail)
    go_frame
    have hid1 : IsDev w2 B S M pv1 d1 := HD1.out.keep (ok := fun _ => False) ⟨hg0.os, hg0.tape, hg0.output, hg0.size, fun i hi _ => hg0.block i hi (by simp)⟩ (fun _ h => h.elim)
    have honly : Only (fun k => k = S) w1 w2 := ⟨hg0.os, hg0.tape, hg0.output, hg0.size, fun i hi _ => hg0.block i hi (by simp)⟩
    have HI := Lib.hid hid1; have HON := Lib.hid honly
    have hbl : B < w1.heap.size := HD1.out.ltB
    have hsl : S < w1.heap.size := HD1.out.ltS
    have hml : M < w1.heap.size := HD1.out.ltM
    clear hid1 honly hown c0 c1 c2 c3 c4
    go_loopw [3] (fun _ wr => ∃ (left : Lit → Bool) (cnt : Nat), wr.ranges Try.prog 3 RSec M w1.heap.size d1.loose.length (Dm d1.loose) left cnt ∧
        Hid (IsDev wr B S M pv1 { d1 with sure := flushP (fun i => left (.int .i64 (i : Int))) d1.loose d1.sure }) ∧ Hid (Only (fun k => k = S) w1 wr))
      (fun _ wr => wr.rangeLeft M w1.heap.size)
    case atStart =>
      refine ⟨_, _, hrg0, ?_, HON⟩
      rw [flushP_start (fun i => dm_has i _)]
      exact HI
    case round =>
      obtain ⟨left, cnt, hrg, HD, HOn⟩ := hrel
      go_wp2_with (first
        | (at_next; refine wpList_next_ranges _ rfl _ rfl 3 keyed RSec (fun x : Int => Value.int .i64 x) (fun s : Sec => Value.agg (secA s)) (fun key kl hk => by obtain ⟨x, h1, -, -⟩ := Maps.keyOf_int_inv Try.underlying3 hk; exact ⟨x, h1⟩) (fun v y hv => by obtain ⟨s, -, h1, -⟩ := rsec_inv hv; exact ⟨s, h1⟩) M w1.heap.size _ _ _ _ rfl hrg ?_ ?_)
        | fail)
      · intro hc0 hl0
        obtain ⟨w4, hcl, hm4, hg4⟩ := clear_ok hrg.owns 0
        obtain ⟨c0, c1, c2, c3, c4⟩ := HD.out.cells
        have e1 : flushP (fun i : Nat => left (.int .i64 (i : Int))) d1.loose d1.sure = flushP (fun _ => false) d1.loose d1.sure := flushP_done (fun i => hl0 _) _
        have hdev := HD.out
        rw [e1] at hdev
        have HDV := Lib.hid hdev; have HM4 := Lib.hid hm4; have HG4 := Lib.hid hg4
        clear hrg e1 hdev hm4 hg4 hl0 hc0
        go_wp2_with fail
        go_ret
        refine ⟨rfl, ⟨pv1, HSP.out, IsDev.setM HDV.out HG4.out HM4.out List.Pairwise.nil (fun p hp => absurd hp (by simp))⟩, ?_⟩
        exact (ho1.trans ((HOn.out.mono fun k _ hk => .inr (.inl hk)).grown HG4.out (.inl (.inr (.inr rfl)))))
      · intro x s kl y1 y2 w3 cnt1 hkey hlk hR hat hrg1 hlt hg1 hs1 hen
        obtain ⟨s', hs128, hv, hy⟩ := rsec_inv hR
        obtain rfl : s = s' := secV_inj hv
        cases hy
        obtain ⟨x', hx', rfl, -⟩ := Maps.keyOf_int_inv Try.underlying3 hkey
        simp only [Value.int.injEq, true_and] at hx'
        subst hx'
        obtain ⟨a, rfl, hga⟩ := dm_key hat
        have hdev3 : IsDev w3 B S M pv1 { d1 with sure := flushP (fun i => left (.int .i64 (i : Int))) d1.loose d1.sure } := by
          have ho : Only (fun k => k = w1.heap.size) wr w3 := (Only.refl _ wr).grown hg1 (.inl rfl)
          have h := HD.out
          have e : ∀ k, k < w1.heap.size → w3.heap[k]? = wr.heap[k]? := fun k hk => hg1.block k (Nat.lt_of_lt_of_le hk HOn.out.size) (by simp; omega)
          obtain ⟨es, clock, hM, r⟩ := h.map
          refine ⟨(e _ hbl).trans h.blk, (e _ hsl).trans h.sure, ⟨es, clock, (e _ hml).trans hM, r⟩, h.bytes, h.lbytes, h.ris, h.most, IsPlan.keep h.plan fun k cs hk => (hg1.block k (Array.getElem?_eq_some_iff.1 hk).1 ?_).trans hk⟩
          intro ek
          cases ek
          obtain ⟨_, _, _, _, _, _, _, _, _, hit, _⟩ := hrg
          have := hit.symm.trans hk
          simp at this
        have halt : a < d1.sure.length := (HD1.out.lbytes _ (getL_mem hga)).1
        have hs2 := hs128
        have hC : (secA s).size = 128 := by rw [secA_size, hs128]
        have hst1 := sec_store hZ hC (secA_one s) w3
        have hd4a := hdev3.on ((Below.refl _ w3).alloc (Nat.le_refl _) (.cells (secA s) 99))
        obtain ⟨c0, c1, c2, c3, c4⟩ := hd4a.cells
        have hd4 := hd4a.drew
        clear hd4a
        have hfl : a < (flushP (fun i : Nat => left (.int .i64 (i : Int))) d1.loose d1.sure).length := by rw [flushP_len]; exact halt
        have hsto := store_sure hd4.sure hd4.bytes hfl hs128
        rw [flushP_step hga (left' := fun i : Nat => left (.int .i64 (i : Int)) && !(Lit.int .i64 (i : Int)).sameKey (.int .i64 (a : Int))) (fun i => by rw [sameK]) d1.sure] at hsto
        have hd5 := hd4.setS (u := flushP (fun i : Nat => left (.int .i64 (i : Int)) && !(Lit.int .i64 (i : Int)).sameKey (.int .i64 (a : Int))) d1.loose d1.sure) (by simp only [flushP_len]) (by
          rw [← flushP_step hga (left := fun i : Nat => left (.int .i64 (i : Int))) (fun i => by rw [sameK]) d1.sure]
          exact set_bytes hd4.bytes hs128)
        have hld : (Instr.loadAt 99 (.pointer (some ⟨w3.heap.size, 0, none⟩))).run Try.prog (w3.alloc (.cells (secA s) 99)).drew = .ok (.agg (secA s)) (w3.alloc (.cells (secA s) 99)).drew :=
          run_loadAt_mid _ w3.heap.size 0 99 (Lib.byteCells s) _ (fun j v hj => by
            show World.cell? (w3.alloc (.cells (secA s) 99)) _ = _
            rw [Nat.zero_add, cell_of_row _ _ _ _ _ _ (heap_alloc_last w3 _)]
            simpa [secA] using hj) Try.underlying99 rfl (by rw [size_sec, Lib.byteCells_length, hs128])
        unfold secV at hsto
        have hlen : (flushP (fun i : Nat => left (.int .i64 (i : Int))) d1.loose d1.sure).length = d1.sure.length := flushP_len _ _ _
        simp only [hlen] at c0
        have HC := Lib.hid (rfl : secA s = secA s)
        have HRG := Lib.hid hrg; have HRG1 := Lib.hid hrg1; have HG1 := Lib.hid hg1; have HD5 := Lib.hid hd5; have HLT := Lib.hid hlt; have HS1 := Lib.hid hs1
        have Hga := Lib.hid hga
        clear hrg hrg1 hg1 hd5 hlt hs1 hga hd4 hdev3 hat hR hkey hlk hv hfl hlen HC
        generalize secA s = C at hen hC hst1 hsto hld HD5 c0 c1 c2 c3 c4
        generalize secA zer = Z at hz hZ hst1
        go_wp2_with fail
        refine region_tail 7 (by kernel_rfl) (by kernel_rfl) ?_
        simp only [List.take_succ_cons, List.take_zero, List.drop_succ_cons, List.drop_zero]
        iterate 5 still_step
        refine still_load rfl 99 _ rfl _ rfl _ hld ?_
        still_step
        refine wpStill_nil ?_
        refine list_store rfl 99 _ _ rfl _ _ rfl rfl hsto rfl ?_
        go_wp2_with fail
        go_roundw
        case rel =>
          have hgr : wr.grownBy w3 (some w1.heap.size) := HG1.out
          refine ⟨_, cnt1, ((HRG1.out.alloc (.cells C 99)).kept (w' := (w3.alloc (.cells C 99)).drew) ⟨rfl, rfl, rfl, Nat.le_refl _, fun _ _ _ => rfl⟩ (row := none) (by simp) (by simp)).kept (grownBy_setRow _ S _) (fun e => HD1.out.neSM (Option.some.inj e).symm) (by simp; omega), HD5, ?_⟩
          exact Lib.hid (((((HOn.out.grown hgr (.inr (Nat.le_refl _))).alloc _).drew).setRow (.inl rfl) _))
        case measure =>
          rw [HRG.out.left_eq]
          have h2 := ((HRG1.out.alloc (.cells C 99)).kept (w' := (w3.alloc (.cells C 99)).drew) ⟨rfl, rfl, rfl, Nat.le_refl _, fun _ _ _ => rfl⟩ (row := none) (by simp) (by simp)).kept (grownBy_setRow _ S (cellsOf (flushP (fun i : Nat => left (.int .i64 (i : Int)) && !(Lit.int .i64 (i : Int)).sameKey (.int .i64 (a : Int))) d1.loose d1.sure) pv1.spare)) (fun e => HD1.out.neSM (Option.some.inj e).symm) (by simp; omega)
          rw [h2.left_eq]
          exact HLT.out

set_option maxRecDepth 100000 in
theorem write_any2 {w : World} {B S M : Nat} {pv : Oth} {d : Dv} (h : IsDev w B S M pv d) (hst : StepC2 d) (a : Int) (s : ByteArray) :
    Calls Try.prog 31 #[.pointer (some ⟨B, 0, none⟩), .int .i64 a, .string s] w fun e w' =>
      e = .returned (.int .i64 (writeD d a s.data.toList).2) ∧ (∃ pv', pv'.spare = pv.spare ∧ IsDev w' B S M pv' (writeD d a s.data.toList).1) ∧ Only (dev3 B S M) w w' := by
  have hsl : s.data.toList.length = s.size := by rw [Array.length_toList]; rfl
  have H := Lib.hid h
  have HO := Lib.hid (off_any h)
  have HH := Lib.hid (has_any h a)
  cases ho : d.off
  · by_cases hh : 0 ≤ a ∧ a < d.sure.length
    · obtain ⟨n, rfl⟩ : ∃ n : Nat, a = n := ⟨a.toNat, by omega⟩
      by_cases hs : s.size = 128
      · exact write_in2 h ho hst (by omega) hs
      · have e0 : writeD d n s.data.toList = (d, 1) := by
          simp only [writeD, ho]
          rw [if_neg (by simp), if_neg (by rw [hsl]; exact fun e => hs e.2.2)]
        rw [e0]
        rw [ho] at HO
        have e1 : (decide (0 ≤ (n : Int)) && decide ((n : Int) < d.sure.length)) = true := by simpa using hh.2
        rw [e1] at HH
        have hln : (Builtin.len_ #[9] 3 #[.string s]).run Try.prog w = .ok (.int .i64 (s.size : Int)) w := by simp [Builtin.len_, goInt]
        have hb : ((s.size : Int) == 128) = false := by
          rw [beq_eq_false_iff_ne]; omega
        clear h hst e0 hh hsl hs e1 ho
        go_enter Try.func31, Try.ntmps31
        go_wp2_with (first
          | (go_at_call 38; refine HO.out.mono ?_; rintro e w' ⟨rfl, rfl⟩)
          | (go_at_call 54; refine HH.out.mono ?_; rintro e w' ⟨rfl, rfl⟩)
          | fail)
        go_ret
        exact ⟨rfl, ⟨_, rfl, H.out⟩, Only.refl _ _⟩
    · have e0 : writeD d a s.data.toList = (d, 1) := by
        simp only [writeD, ho]
        rw [if_neg (by simp), if_neg (fun e => hh ⟨e.1, e.2.1⟩)]
      rw [e0]
      rw [ho] at HO
      have e1 : (decide (0 ≤ a) && decide (a < d.sure.length)) = false := by
        rw [Bool.eq_false_iff]; intro e; simp at e; exact hh ⟨e.1, e.2⟩
      rw [e1] at HH
      clear h hst e0 hh hsl e1 ho
      go_enter Try.func31, Try.ntmps31
      go_wp2_with (first
        | (go_at_call 38; refine HO.out.mono ?_; rintro e w' ⟨rfl, rfl⟩)
        | (go_at_call 54; refine HH.out.mono ?_; rintro e w' ⟨rfl, rfl⟩)
        | fail)
      go_ret
      exact ⟨rfl, ⟨_, rfl, H.out⟩, Only.refl _ _⟩
  · have e0 : writeD d a s.data.toList = (d, 7) := by simp only [writeD, ho]; rfl
    rw [ho] at HO
    rw [e0]
    clear h hst e0 ho hsl
    go_enter Try.func31, Try.ntmps31
    go_wp2_with (first
      | (go_at_call 38; refine HO.out.mono ?_; rintro e w' ⟨rfl, rfl⟩)
      | fail)
    go_ret
    exact ⟨rfl, ⟨_, rfl, H.out⟩, Only.refl _ _⟩

theorem flush_any2 {w : World} {B S M : Nat} {pv : Oth} {d : Dv} (h : IsDev w B S M pv d) (hst : StepC2 d) :
    Calls Try.prog 33 #[.pointer (some ⟨B, 0, none⟩)] w fun e w' =>
      e = .returned (.int .i64 (flushX d).2) ∧ (∃ pv', pv'.spare = pv.spare ∧ IsDev w' B S M pv' (flushX d).1) ∧ Only (dev3 B S M) w w' := by
  cases ho : d.off
  · exact flush_in2 h ho hst
  · have e0 : flushX d = (d, 7) := by simp only [flushX, ho]; rfl
    have HO := Lib.hid (off_any h)
    rw [ho] at HO
    rw [e0]
    have H := Lib.hid h
    clear h hst e0 ho
    go_enter Try.func33, Try.ntmps33
    go_wp2_with (first
      | (go_at_call 38; refine HO.out.mono ?_; rintro e w' ⟨rfl, rfl⟩)
      | fail)
    go_ret
    exact ⟨rfl, ⟨_, rfl, H.out⟩, Only.refl _ _⟩

end Go.Proofs.Ytbdjdeddghdefaa
