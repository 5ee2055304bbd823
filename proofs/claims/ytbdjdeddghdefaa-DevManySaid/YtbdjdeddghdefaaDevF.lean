/- a flush -/
import Derived.Test.YtbdjdeddghdefaaDevS
namespace Go.Proofs.Ytbdjdeddghdefaa
open Go.ChangeShapes Go.WideShapes Go.ChangeAt Go.RowKit
open Go.Maps (Keyed)

/-- 'clear(m)' -/
theorem clear_ok {w : World} {M n : Nat} {D : DataW Unit} (h : w.ownsMap Try.prog 3 RSec M n D) (ty : TypeId) :
    ∃ w', (Builtin.clear_ #[67] ty #[.map (some M)]).run Try.prog w = .ok (.tuple #[]) w' ∧ w'.ownsMap Try.prog 3 RSec M ([] : List (Nat × Sec)).length (Dm []) ∧ w.grownBy w' (some M) := by
  obtain ⟨es, clock, hb, -⟩ := h
  refine ⟨ChangeMaps.setBlock w M (.map #[] clock), ?_, ⟨#[], clock, ChangeMaps.heap_setBlock_same hb _, ⟨by simp, MapKept.stamped_empty clock, by simp⟩, Nat.le_refl _, rfl⟩,
    ⟨rfl, rfl, rfl, by simp [ChangeMaps.setBlock], fun i _ hi => ChangeMaps.heap_setBlock_other hb _ (fun e => hi (by rw [e]))⟩⟩
  have hs := MapKept.run_setObj_map (P := Try.prog) (.map #[] clock) hb
  simp [Builtin.clear_, run_underlying Try.underlying67, MapKept.run_getObj_map hb, hs, Result.andThen, ChangeMaps.setBlock]

theorem grownBy_setRow (w : World) (g : Nat) (c : Array Value) : w.grownBy (w.setRow g c) (some g) :=
  ⟨rfl, rfl, rfl, by rw [size_setRow]; exact Nat.le_refl _, fun i _ hi => heap_setRow_other _ _ _ _ (fun e => hi (by rw [e]))⟩

/-- another row of sectors -/
theorem IsDev.setS {w : World} {B S M : Nat} {pv : Oth} {d : Dv} (h : IsDev w B S M pv d) {u : List Sec} (hl : u.length = d.sure.length) (hu : ∀ s ∈ u, s.length = 128) : IsDev (w.setRow S (cellsOf u pv.spare)) B S M pv { d with sure := u } := by
  obtain ⟨es, clock, hM, r⟩ := h.map
  refine ⟨by rw [heap_setRow_other _ _ _ _ h.neBS]; simp only [hl]; exact h.blk, setRow_heap w S _ _ _ _ h.sure, ⟨es, clock, by rw [heap_setRow_other _ _ _ _ (fun e => h.neSM e.symm)]; exact hM, r⟩, hu, by simp only [hl]; exact h.lbytes, h.ris, by simp only [hl]; exact h.most,
    IsPlan.keep h.plan fun k cs hk => ?_⟩
  rw [heap_setRow_other _ _ _ _ (by
    rintro rfl
    have := h.sure.symm.trans hk
    simp at this)]
  exact hk

theorem dm_key {l : List (Nat × Sec)} {x : Int} {s : Sec} (h : ∀ z, (Dm l).atKey (.int .i64 x) z = .lit (.string s)) : ∃ a : Nat, x = a ∧ getL a l = some s := by
  by_cases hx : 0 ≤ x
  · obtain ⟨a, rfl⟩ : ∃ a : Nat, x = a := ⟨x.toNat, by omega⟩
    have := h .nil
    rw [dm_at] at this
    cases hg : getL a l with
    | none => rw [hg] at this; cases this
    | some t => rw [hg] at this; cases this; exact ⟨a, rfl, hg⟩
  · exfalso
    have := h .nil
    unfold Dm DataW.atKey at this
    have hn : (l.map ent).find? (fun p => p.1.sameKey (.int .i64 x)) = none := by
      rw [List.find?_eq_none]
      intro q hq
      obtain ⟨p, hp, rfl⟩ := List.mem_map.1 hq
      show ¬ decide (IntKind.i64 = IntKind.i64 ∧ (p.1 : Int) = x) = true
      rw [decide_eq_true_eq]
      rintro ⟨-, e⟩; omega
    simp only [hn] at this
    cases this

theorem set_bytes {u : List Sec} (h : ∀ s ∈ u, s.length = 128) {a : Nat} {s : Sec} (hs : s.length = 128) : ∀ t ∈ u.set a s, t.length = 128 := by
  intro t ht
  rcases List.mem_or_eq_of_mem_set ht with ht | rfl
  · exact h t ht
  · exact hs

/-- a flush: what is there behind it; its error -/
def flushX (d : Dv) : Dv × Int := if d.off then (d, 7) else if (stepD d).2 then (flushD (stepD d).1, 0) else ((stepD d).1, 7)

set_option maxRecDepth 100000 in
theorem flush_in {w : World} {B S M : Nat} {pv : Oth} {d : Dv} (h : IsDev w B S M pv d) (ho : d.off = false) (hst : StepC d) :
    Calls Try.prog 33 #[.pointer (some ⟨B, 0, none⟩)] w fun e w' =>
      e = .returned (.int .i64 (flushX d).2) ∧ (∃ pv', IsDev w' B S M pv' (flushX d).1) ∧ Only (dev3 B S M) w w' := by
  have e0 : flushX d = (if (stepD d).2 then (flushD (stepD d).1, 0) else ((stepD d).1, 7)) := by
    simp only [flushX, ho]; rfl
  have HO := Lib.hid (off_any h)
  rw [ho] at HO
  have HS := Lib.hid (hst w B S M pv h)
  rw [e0]
  clear h ho hst e0
  cases h2 : (stepD d).2
  · rw [h2] at HS
    go_enter Try.func33, Try.ntmps33
    go_wp2_with (first
      | (go_at_call 38; refine HO.out.mono ?_; rintro e w' ⟨rfl, rfl⟩)
      | (go_at_call 55; refine HS.out.mono ?_; rintro e w1 ⟨rfl, hd1, ho1⟩)
      | fail)
    go_ret
    exact ⟨rfl, hd1, ho1⟩
  · rw [h2] at HS
    rw [if_pos rfl]
    generalize (stepD d).1 = d1 at HS ⊢
    have hz := zero_sec
    unfold secV at hz
    have hZ : (secA zer).size = 128 := by rw [secA_size, zer_len]
    go_enter Try.func33, Try.ntmps33
    go_wp2_with (first
      | (go_at_call 38; refine HO.out.mono ?_; rintro e w' ⟨rfl, rfl⟩)
      | (go_at_call 55; refine HS.out.mono ?_; rintro e w1 ⟨rfl, ⟨pv1, hd1⟩, ho1⟩; obtain ⟨c0, c1, c2, c3, c4⟩ := hd1.cells; have hown := hd1.map; have HD1 := Lib.hid hd1; clear hd1)
      | (at_range; refine wpList_range_own _ rfl _ 67 rfl 3 99 keyed Try.underlying67 RSec M _ _ rfl hown ?_; intro w2 hrg0 hg0 hs0)
      | fail)
    go_frame
    have hid1 : IsDev w2 B S M pv1 d1 := HD1.out.keep (ok := fun _ => False) ⟨hg0.os, hg0.tape, hg0.output, hg0.size, fun i hi _ => hg0.block i hi (by simp)⟩ (fun _ h => h.elim)
    have honly : Only (fun k => k = S) w1 w2 := ⟨hg0.os, hg0.tape, hg0.output, hg0.size, fun i hi _ => hg0.block i hi (by simp)⟩
    have HI := Lib.hid hid1; have HON := Lib.hid honly
    have hbl : B < w1.heap.size := HD1.out.ltB
    have hsl : S < w1.heap.size := HD1.out.ltS
    have hml : M < w1.heap.size := HD1.out.ltM
    clear hid1 honly hown c0 c1 c2 c3 c4
    go_loopw [3] (fun _ wr => ∃ (left : Lit → Bool) (cnt : Nat), wr.ranges Try.prog 3 RSec M w1.heap.size d1.loose.length (Dm d1.loose) left cnt ∧
        Hid (IsDev wr B S M pv1 { d1 with sure := flushP (fun i => left (.int .i64 (i : Int))) d1.loose d1.sure }) ∧ Hid (Only (fun k => k = S) w1 wr))
      (fun _ wr => wr.rangeLeft M w1.heap.size)
    case atStart =>
      refine ⟨_, _, hrg0, ?_, HON⟩
      rw [flushP_start (fun i => dm_has i _)]
      exact HI
    case round =>
      obtain ⟨left, cnt, hrg, HD, HOn⟩ := hrel
      go_wp2_with (first
        | (at_next; refine wpList_next_ranges _ rfl _ rfl 3 keyed RSec (fun x : Int => Value.int .i64 x) (fun s : Sec => Value.agg (secA s)) (fun key kl hk => by obtain ⟨x, h1, -, -⟩ := Maps.keyOf_int_inv Try.underlying3 hk; exact ⟨x, h1⟩) (fun v y hv => by obtain ⟨s, -, h1, -⟩ := rsec_inv hv; exact ⟨s, h1⟩) M w1.heap.size _ _ _ _ rfl hrg ?_ ?_)
        | fail)
      · intro hc0 hl0
        obtain ⟨w4, hcl, hm4, hg4⟩ := clear_ok hrg.owns 0
        obtain ⟨c0, c1, c2, c3, c4⟩ := HD.out.cells
        have e1 : flushP (fun i : Nat => left (.int .i64 (i : Int))) d1.loose d1.sure = flushP (fun _ => false) d1.loose d1.sure := flushP_done (fun i => hl0 _) _
        have hdev := HD.out
        rw [e1] at hdev
        have HDV := Lib.hid hdev; have HM4 := Lib.hid hm4; have HG4 := Lib.hid hg4
        clear hrg e1 hdev hm4 hg4 hl0 hc0
        go_wp2_with fail
        go_ret
        refine ⟨rfl, ⟨pv1, IsDev.setM HDV.out HG4.out HM4.out List.Pairwise.nil (fun p hp => absurd hp (by simp))⟩, ?_⟩
        exact (ho1.trans ((HOn.out.mono fun k _ hk => .inr (.inl hk)).grown HG4.out (.inl (.inr (.inr rfl)))))
      · intro x s kl y1 y2 w3 cnt1 hkey hlk hR hat hrg1 hlt hg1 hs1 hen
        obtain ⟨s', hs128, hv, hy⟩ := rsec_inv hR
        obtain rfl : s = s' := secV_inj hv
        cases hy
        obtain ⟨x', hx', rfl, -⟩ := Maps.keyOf_int_inv Try.underlying3 hkey
        simp only [Value.int.injEq, true_and] at hx'
        subst hx'
        obtain ⟨a, rfl, hga⟩ := dm_key hat
        have hdev3 : IsDev w3 B S M pv1 { d1 with sure := flushP (fun i => left (.int .i64 (i : Int))) d1.loose d1.sure } := by
          have ho : Only (fun k => k = w1.heap.size) wr w3 := (Only.refl _ wr).grown hg1 (.inl rfl)
          have h := HD.out
          have e : ∀ k, k < w1.heap.size → w3.heap[k]? = wr.heap[k]? := fun k hk => hg1.block k (Nat.lt_of_lt_of_le hk HOn.out.size) (by simp; omega)
          obtain ⟨es, clock, hM, r⟩ := h.map
          refine ⟨(e _ hbl).trans h.blk, (e _ hsl).trans h.sure, ⟨es, clock, (e _ hml).trans hM, r⟩, h.bytes, h.lbytes, h.ris, h.most, IsPlan.keep h.plan fun k cs hk => (hg1.block k (Array.getElem?_eq_some_iff.1 hk).1 ?_).trans hk⟩
          intro ek
          cases ek
          obtain ⟨_, _, _, _, _, _, _, _, _, hit, _⟩ := hrg
          have := hit.symm.trans hk
          simp at this
        have halt : a < d1.sure.length := (HD1.out.lbytes _ (getL_mem hga)).1
        have hs2 := hs128
        have hC : (secA s).size = 128 := by rw [secA_size, hs128]
        have hst1 := sec_store hZ hC (secA_one s) w3
        have hd4a := hdev3.on ((Below.refl _ w3).alloc (Nat.le_refl _) (.cells (secA s) 99))
        obtain ⟨c0, c1, c2, c3, c4⟩ := hd4a.cells
        have hd4 := hd4a.drew
        clear hd4a
        have hfl : a < (flushP (fun i : Nat => left (.int .i64 (i : Int))) d1.loose d1.sure).length := by rw [flushP_len]; exact halt
        have hsto := store_sure hd4.sure hd4.bytes hfl hs128
        rw [flushP_step hga (left' := fun i : Nat => left (.int .i64 (i : Int)) && !(Lit.int .i64 (i : Int)).sameKey (.int .i64 (a : Int))) (fun i => by rw [sameK]) d1.sure] at hsto
        have hd5 := hd4.setS (u := flushP (fun i : Nat => left (.int .i64 (i : Int)) && !(Lit.int .i64 (i : Int)).sameKey (.int .i64 (a : Int))) d1.loose d1.sure) (by simp only [flushP_len]) (by
          rw [← flushP_step hga (left := fun i : Nat => left (.int .i64 (i : Int))) (fun i => by rw [sameK]) d1.sure]
          exact set_bytes hd4.bytes hs128)
        have hld : (Instr.loadAt 99 (.pointer (some ⟨w3.heap.size, 0, none⟩))).run Try.prog (w3.alloc (.cells (secA s) 99)).drew = .ok (.agg (secA s)) (w3.alloc (.cells (secA s) 99)).drew :=
          run_loadAt_mid _ w3.heap.size 0 99 (Lib.byteCells s) _ (fun j v hj => by
            show World.cell? (w3.alloc (.cells (secA s) 99)) _ = _
            rw [Nat.zero_add, cell_of_row _ _ _ _ _ _ (heap_alloc_last w3 _)]
            simpa [secA] using hj) Try.underlying99 rfl (by rw [size_sec, Lib.byteCells_length, hs128])
        unfold secV at hsto
        have hlen : (flushP (fun i : Nat => left (.int .i64 (i : Int))) d1.loose d1.sure).length = d1.sure.length := flushP_len _ _ _
        simp only [hlen] at c0
        have HC := Lib.hid (rfl : secA s = secA s)
        have HRG := Lib.hid hrg; have HRG1 := Lib.hid hrg1; have HG1 := Lib.hid hg1; have HD5 := Lib.hid hd5; have HLT := Lib.hid hlt; have HS1 := Lib.hid hs1
        have Hga := Lib.hid hga
        clear hrg hrg1 hg1 hd5 hlt hs1 hga hd4 hdev3 hat hR hkey hlk hv hfl hlen HC
        generalize secA s = C at hen hC hst1 hsto hld HD5 c0 c1 c2 c3 c4
        generalize secA zer = Z at hz hZ hst1
        go_wp2_with fail
        refine region_tail 7 (by kernel_rfl) (by kernel_rfl) ?_
        simp only [List.take_succ_cons, List.take_zero, List.drop_succ_cons, List.drop_zero]
        iterate 5 still_step
        refine still_load rfl 99 _ rfl _ rfl _ hld ?_
        still_step
        refine wpStill_nil ?_
        refine list_store rfl 99 _ _ rfl _ _ rfl rfl hsto rfl ?_
        go_wp2_with fail
        go_roundw
        case rel =>
          have hgr : wr.grownBy w3 (some w1.heap.size) := HG1.out
          refine ⟨_, cnt1, ((HRG1.out.alloc (.cells C 99)).kept (w' := (w3.alloc (.cells C 99)).drew) ⟨rfl, rfl, rfl, Nat.le_refl _, fun _ _ _ => rfl⟩ (row := none) (by simp) (by simp)).kept (grownBy_setRow _ S _) (fun e => HD1.out.neSM (Option.some.inj e).symm) (by simp; omega), HD5, ?_⟩
          exact Lib.hid (((((HOn.out.grown hgr (.inr (Nat.le_refl _))).alloc _).drew).setRow (.inl rfl) _))
        case measure =>
          rw [HRG.out.left_eq]
          have h2 := ((HRG1.out.alloc (.cells C 99)).kept (w' := (w3.alloc (.cells C 99)).drew) ⟨rfl, rfl, rfl, Nat.le_refl _, fun _ _ _ => rfl⟩ (row := none) (by simp) (by simp)).kept (grownBy_setRow _ S (cellsOf (flushP (fun i : Nat => left (.int .i64 (i : Int)) && !(Lit.int .i64 (i : Int)).sameKey (.int .i64 (a : Int))) d1.loose d1.sure) pv1.spare)) (fun e => HD1.out.neSM (Option.some.inj e).symm) (by simp; omega)
          rw [h2.left_eq]
          exact HLT.out

theorem flush_any {w : World} {B S M : Nat} {pv : Oth} {d : Dv} (h : IsDev w B S M pv d) (hst : StepC d) :
    Calls Try.prog 33 #[.pointer (some ⟨B, 0, none⟩)] w fun e w' =>
      e = .returned (.int .i64 (flushX d).2) ∧ (∃ pv', IsDev w' B S M pv' (flushX d).1) ∧ Only (dev3 B S M) w w' := by
  cases ho : d.off
  · exact flush_in h ho hst
  · have e0 : flushX d = (d, 7) := by simp only [flushX, ho]; rfl
    have HO := Lib.hid (off_any h)
    rw [ho] at HO
    rw [e0]
    have H := Lib.hid h
    clear h hst e0 ho
    go_enter Try.func33, Try.ntmps33
    go_wp2_with (first
      | (go_at_call 38; refine HO.out.mono ?_; rintro e w' ⟨rfl, rfl⟩)
      | fail)
    go_ret
    exact ⟨rfl, ⟨_, H.out⟩, Only.refl _ _⟩

end Go.Proofs.Ytbdjdeddghdefaa
