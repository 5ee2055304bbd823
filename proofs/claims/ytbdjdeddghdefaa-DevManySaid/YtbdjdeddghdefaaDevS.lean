/- a step, where no fall is planned -/
import Derived.Test.YtbdjdeddghdefaaDevR
import Derived.LoopN
namespace Go.Proofs.Ytbdjdeddghdefaa
open Go.ChangeShapes Go.WideShapes Go.ChangeAt Go.RowKit
open Go.Maps (Keyed)

/-- a device's blocks -/
def dev3 (B S M : Nat) (k : Nat) : Prop := k = B ∨ k = S ∨ k = M

theorem IsDev.drew {w : World} {B S M : Nat} {pv : Oth} {d : Dv} (h : IsDev w B S M pv d) : IsDev w.drew B S M pv d := ⟨h.blk, h.sure, h.map, h.bytes, h.lbytes, h.ris, h.most, h.plan⟩

/-- another map -/
theorem IsDev.setM {w w' : World} {B S M : Nat} {pv : Oth} {d : Dv} (h : IsDev w B S M pv d) (hg : w.grownBy w' (some M)) {l : List (Nat × Sec)} (hm : w'.ownsMap Try.prog 3 RSec M l.length (Dm l)) (hr : RisL l)
    (hl : ∀ p ∈ l, p.1 < d.sure.length ∧ p.2.length = 128) : IsDev w' B S M pv { d with loose := l } := by
  obtain ⟨es, clock, hM, -⟩ := h.map
  refine ⟨(hg.block _ h.ltB (fun e => h.neBM (Option.some.inj e))).trans h.blk, (hg.block _ h.ltS (fun e => h.neSM (Option.some.inj e))).trans h.sure, hm, h.bytes, hl, hr, h.most, IsPlan.keep h.plan fun k cs hk => (hg.block k (Array.getElem?_eq_some_iff.1 hk).1 ?_).trans hk⟩
  intro e
  cases e
  have := hM.symm.trans hk
  simp at this

/-- the contract of a step at a device -/
def StepC (d : Dv) : Prop := ∀ (w : World) (B S M : Nat) (pv : Oth), IsDev w B S M pv d →
  Calls Try.prog 55 #[.pointer (some ⟨B, 0, none⟩)] w fun e w' => e = .returned (.bool (stepD d).2) ∧ (∃ pv', IsDev w' B S M pv' (stepD d).1) ∧ Only (dev3 B S M) w w'

/-- another number in the block of the device -/
theorem IsDev.setB {w w' : World} {B S M : Nat} {pv pv' : Oth} {d d' : Dv} (h : IsDev w B S M pv d) (ho : Only (fun k => k = B) w w')
    (hb : w'.heap[B]? = some (.cells #[.slice (some ⟨S, 0, none⟩) d.sure.length pv'.cap, .map (some M), pv'.plan, .int .i64 d'.steps, .bool d'.off] 69 (0, 0)))
    (h1 : d'.sure = d.sure) (h2 : d'.loose = d.loose) (hsp : pv'.spare = pv.spare) (hp : IsPlan w pv'.plan d'.plan) : IsDev w' B S M pv' d' := by
  obtain ⟨es, clock, hm, r⟩ := h.map
  refine ⟨by rw [h1]; exact hb, by rw [h1, hsp]; exact (ho.block _ h.ltS (fun e => h.neBS e.symm)).trans h.sure, by rw [h2]; exact ⟨es, clock, (ho.block _ h.ltM (fun e => h.neBM e.symm)).trans hm, r⟩, by rw [h1]; exact h.bytes, by rw [h1, h2]; exact h.lbytes, by rw [h2]; exact h.ris, by rw [h1]; exact h.most,
    IsPlan.keep hp fun k cs hk => (ho.block k (Array.getElem?_eq_some_iff.1 hk).1 (by
        rintro rfl
        have := h.blk.symm.trans hk
        simp at this)).trans hk⟩

set_option maxRecDepth 100000 in
theorem step_nil {d : Dv} (hp : d.plan = []) : StepC d := by
  intro w B S M pv h
  obtain ⟨c0, c1, c2, c3, c4⟩ := h.cells
  obtain ⟨plan, spare, cp⟩ := pv
  obtain ⟨A, cap, rfl, -⟩ := h.plan
  have e0 : stepD d = ({ d with steps := wrap64 (d.steps + 1) }, true) := by
    rcases d with ⟨a, b, c, e, f⟩
    simp only at hp
    subst hp
    rfl
  have hl : d.plan.length = 0 := by rw [hp]; rfl
  rw [hl] at c2
  have z3 := h.frozen 3
  rw [e0]
  have H := Lib.hid h
  have HP := Lib.hid hp
  have HL := Lib.hid hl
  clear h e0 hp hl
  go_enter Try.func55, Try.ntmps55
  go_wp2_with fail
  refine wp_loop_rounds 1 ?_
  rw [rounds_succ]
  go_wp2_with fail
  go_region
  all_goals go_wp2_with fail
  go_ret
  have ho : Only (fun k => k = B) w (w.setCell ⟨B, 3, none⟩ (.int .i64 (wrap64 (d.steps + 1)))).drew := ((Only.refl (fun k => k = B) w).setCell (p := ⟨B, 3, none⟩) (.inl rfl) _).drew
  have hpl : IsPlan w (.slice A 0 cap) d.plan := by
    have := H.out.plan
    rwa [HL.out] at this
  have hb := H.out
  rw [HL.out] at hb
  refine ⟨rfl, ⟨_, IsDev.setB (pv' := ⟨.slice A 0 cap, spare, cp⟩) hb ho ?_ rfl rfl rfl hpl⟩, ho.mono fun k _ hk => .inl hk⟩
  exact (heap_setCell_same w B 3 _ _ _ hb.blk).trans rfl

theorem stepP_len (d : Dv) : ∀ l, (stepP d l).1.sure.length = d.sure.length
  | [] => rfl
  | f :: r => by
    unfold stepP
    split
    · split
      · unfold crashD
        split
        · rfl
        · exact crashL_len _ _ _ _ _
      · exact stepP_len d r
    · rfl

theorem stepP_true (d : Dv) : ∀ l, (stepP d l).2 = true → (stepP d l).1.sure = d.sure ∧ (stepP d l).1.loose = d.loose ∧ (stepP d l).1.off = d.off
  | [], _ => ⟨rfl, rfl, rfl⟩
  | f :: r, h => by
    unfold stepP at h ⊢
    split
    · rename_i h1
      rw [if_pos h1] at h
      split
      · rename_i h2
        rw [if_pos h2] at h
        cases h
      · rename_i h2
        rw [if_neg h2] at h
        exact stepP_true d r h
    · exact ⟨rfl, rfl, rfl⟩

/-! writing -/

/-- what is there behind a write; its error -/
def writeD (d : Dv) (a : Int) (s : Sec) : Dv × Int :=
  if d.off then (d, 7) else if 0 ≤ a ∧ a < d.sure.length ∧ s.length = 128 then
    (if (stepD d).2 then ({ (stepD d).1 with loose := putL a.toNat s (stepD d).1.loose }, 0) else ((stepD d).1, 7))
  else (d, 1)

theorem sec_copy {s : ByteArray} (hs : s.size = 128) {Z : Array Value} (hZ : Z.size = 128) (w : World) (t : TypeId) (ty : TypeId) :
    (Builtin.copy_ #[64, 9] ty #[.slice (some ⟨w.heap.size, 0, none⟩) 128 128, .string s]).run Try.prog (w.alloc (.cells Z t)) = .ok (.int .i64 128) (w.alloc (.cells (secA s.data.toList) t)) := by
  have := Go.Lib.run_copy_row_string (P := Try.prog) (w.alloc (.cells Z t)) 64 9 ty 5 w.heap.size 0 128 128 s Z t Try.underlying64 (by kernel_rfl) (heap_alloc_last w _) (by omega) (by omega)
  rw [this, hs]
  have e : (Z.toList.take 0 ++ Lib.byteCells s.data.toList ++ Z.toList.drop (0 + 128)).toArray = secA s.data.toList := by
    have : Z.toList.length = 128 := by rw [Array.length_toList]; exact hZ
    rw [List.drop_of_length_le (by omega)]
    simp [secA]
  rw [e, World.setRow_alloc_new]
  rfl

set_option maxRecDepth 100000 in
theorem write_in {w : World} {B S M : Nat} {pv : Oth} {d : Dv} (h : IsDev w B S M pv d) (ho : d.off = false) (hst : StepC d) {a : Nat} (ha : a < d.sure.length) {s : ByteArray} (hs : s.size = 128) :
    Calls Try.prog 31 #[.pointer (some ⟨B, 0, none⟩), .int .i64 a, .string s] w fun e w' =>
      e = .returned (.int .i64 (writeD d a s.data.toList).2) ∧ (∃ pv', IsDev w' B S M pv' (writeD d a s.data.toList).1) ∧ Only (dev3 B S M) w w' := by
  have hsl : s.data.toList.length = 128 := by rw [Array.length_toList]; exact hs
  have e0 : writeD d a s.data.toList = (if (stepD d).2 then ({ (stepD d).1 with loose := putL a s.data.toList (stepD d).1.loose }, 0) else ((stepD d).1, 7)) := by
    simp only [writeD, ho, Int.toNat_natCast]
    rw [if_neg (by simp), if_pos ⟨by omega, by omega, hsl⟩]
  have HO := Lib.hid (off_any h)
  have HH := Lib.hid (has_any h a)
  rw [ho] at HO
  have e1 : (decide (0 ≤ (a : Int)) && decide ((a : Int) < d.sure.length)) = true := by simpa using ha
  rw [e1] at HH
  have HS := Lib.hid (hst w B S M pv h)
  have H := Lib.hid h
  have HA := Lib.hid ha
  have HLS := Lib.hid hsl
  have hln : (Builtin.len_ #[9] 3 #[.string s]).run Try.prog w = .ok (.int .i64 128) w := by
    have := hs
    simp [Builtin.len_, goInt, this]
  have hb : ((128 : Int) == 128) = true := rfl
  rw [e0]
  have E0 := Lib.hid e0
  have HSZ := Lib.hid hs
  have hz := zero_sec
  unfold secV at hz
  have hZ : (secA zer).size = 128 := by rw [secA_size, zer_len]
  have HCP := fun W => Lib.hid (sec_copy hs hZ W 99 3)
  clear h ho hst ha e0 e1 hsl
  cases h2 : (stepD d).2
  · rw [h2] at HS
    go_enter Try.func31, Try.ntmps31
    go_wp2_with (first
      | (go_at_call 38; refine HO.out.mono ?_; rintro e w' ⟨rfl, rfl⟩)
      | (go_at_call 54; refine HH.out.mono ?_; rintro e w' ⟨rfl, rfl⟩)
      | (go_at_call 55; refine HS.out.mono ?_; rintro e w1 ⟨rfl, hd1, ho1⟩)
      | fail)
    go_ret
    exact ⟨rfl, hd1, ho1⟩
  · rw [h2] at HS
    go_enter Try.func31, Try.ntmps31
    go_wp2_with (first
      | (go_at_call 38; refine HO.out.mono ?_; rintro e w' ⟨rfl, rfl⟩)
      | (go_at_call 54; refine HH.out.mono ?_; rintro e w' ⟨rfl, rfl⟩)
      | (go_at_call 55; refine HS.out.mono ?_; rintro e w1 ⟨rfl, ⟨pv1, hd1⟩, ho1⟩; have hcp := (HCP w1).out; generalize secA zer = Z at hz hZ hcp)
      | fail)
    have hd2 := hd1.on ((Below.refl _ w1).alloc (Nat.le_refl _) (.cells (secA s.data.toList) 99))
    have hlen : (stepD d).1.sure.length = d.sure.length := stepP_len d _
    obtain ⟨k0, k1, k2, k3, k4⟩ := hd2.cells
    have hm2 : (w1.alloc (.cells (secA s.data.toList) 99)).drew.ownsMap Try.prog 3 RSec M (stepD d).1.loose.length (Dm (stepD d).1.loose) := hd2.map
    obtain ⟨w2, hpt, hm3, hg⟩ := put_ok hm2 (by have := hd2.few; have := hd2.most; omega) hd2.ris a (by have := hd2.most; have := HA.out; omega) HLS.out
    have hld : (Instr.loadAt 99 (.pointer (some ⟨w1.heap.size, 0, none⟩))).run Try.prog (w1.alloc (.cells (secA s.data.toList) 99)).drew = .ok (.agg (secA s.data.toList)) (w1.alloc (.cells (secA s.data.toList) 99)).drew := by
      have hx : (secA s.data.toList).size = 128 := by rw [secA_size, HLS.out]
      exact run_loadAt_mid _ w1.heap.size 0 99 (Lib.byteCells s.data.toList) _ (fun j v hj => by
        show World.cell? (w1.alloc (.cells (secA s.data.toList) 99)) _ = _
        rw [Nat.zero_add, cell_of_row _ _ _ _ _ _ (heap_alloc_last w1 _)]
        simpa [secA] using hj) Try.underlying99 rfl (by rw [size_sec, Lib.byteCells_length, HLS.out])
    unfold secV at hpt
    have HD1 := Lib.hid hd1; have HD2 := Lib.hid hd2; have HM3 := Lib.hid hm3; have HG := Lib.hid hg; have HM2 := Lib.hid hm2
    clear hd1 hd2 hm3 hg hm2
    generalize secA s.data.toList = C at hld hpt k0 k1 k2 k3 k4 HM2 HM3 HD2 HG hcp ⊢
    refine region_tail 6 (by kernel_rfl) (by kernel_rfl) ?_
    simp only [List.take_succ_cons, List.take_zero, List.drop_succ_cons, List.drop_zero]
    iterate 5 still_step
    refine still_load rfl 99 _ rfl _ rfl _ hld ?_
    refine wpStill_nil ?_
    refine list_put rfl 67 _ _ _ rfl _ _ _ rfl rfl rfl hpt ?_
    go_wp2_with fail
    go_ret
    have hd3 := IsDev.setM (w := (w1.alloc (.cells C 99)).drew) HD2.out.drew HG.out HM3.out (ris_putL HD2.out.ris) (fun p hp => by
      rcases mem_putL hp with rfl | hp
      · exact ⟨by have := HA.out; omega, HLS.out⟩
      · exact HD2.out.lbytes p hp)
    refine ⟨rfl, ⟨_, hd3⟩, ho1.trans ?_⟩
    exact (((Only.refl (dev3 B S M) w1).alloc _).drew).grown HG.out (.inl (.inr (.inr rfl)))

end Go.Proofs.Ytbdjdeddghdefaa
