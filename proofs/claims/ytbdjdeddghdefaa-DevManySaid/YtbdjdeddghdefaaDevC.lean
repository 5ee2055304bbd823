/- a loss of power -/
import Derived.Test.YtbdjdeddghdefaaDevF
import Derived.Test.YtbdjdeddghdefaaLay
namespace Go.Proofs.Ytbdjdeddghdefaa
open Go.ChangeShapes Go.WideShapes Go.ChangeAt Go.RowKit
open Go.Maps (Keyed)

theorem IsDev.setRowS {w : World} {B S M : Nat} {pv : Oth} {d : Dv} (h : IsDev w B S M pv d) {a : Nat} {s : Sec} (hs : s.length = 128) : IsDev (w.setRow S (cellsOf (d.sure.set a s) pv.spare)) B S M pv { d with sure := d.sure.set a s } :=
  h.setS (List.length_set ..) (set_bytes h.bytes hs)

theorem min63 {P : Program} (i : Nat) (ty : TypeId) (l : Array TypeId) (W : World) : (Builtin.min_ l ty #[.int .i64 (i : Int), .int .i64 63]).run P W = .ok (.int .i64 ((min i 63 : Nat) : Int)) W := by
  show Result.ok (Value.int .i64 (if (63 : Int) < (i : Int) then 63 else (i : Int))) W = _
  congr 2
  split <;> omega

theorem and_one (x : Nat) (hx : x < 18446744073709551616) : bits .and .u64 (x : Int) 1 = ((x % 2 : Nat) : Int) := by
  have := u64_and_nat x 1 hx (by decide)
  rw [Nat.and_one_is_mod] at this
  exact this

theorem shr_lt {keep : Nat} (h : keep < 18446744073709551616) (m : Nat) : keep >>> m < 18446744073709551616 := by
  rw [Nat.shiftRight_eq_div_pow]
  exact Nat.lt_of_le_of_lt (Nat.div_le_self _ _) h

theorem clampT {P : Program} (torn : Int) (ty : TypeId) (l : Array TypeId) (W : World) :
    (Builtin.min_ l ty #[.int .i64 torn, .int .i64 128]).run P W = .ok (.int .i64 (min torn 128)) W := by
  show Result.ok (Value.int .i64 (if (128 : Int) < torn then 128 else torn)) W = _
  congr 2
  split <;> omega

theorem clampM {P : Program} (x : Int) (ty : TypeId) (l : Array TypeId) (W : World) :
    (Builtin.max_ l ty #[.int .i64 0, .int .i64 x]).run P W = .ok (.int .i64 (max 0 x)) W := by
  show Result.ok (Value.int .i64 (if (0 : Int) < x then x else 0)) W = _
  congr 2
  split <;> omega

theorem slice_arr (p : Addr) (left : Nat) (h : left ≤ 128) (W : World) :
    (Instr.sliceAt 99 (.pointer (some p)) none (some (.int .i64 (left : Int))) none).run Try.prog W = .ok (.slice (some p) left 128) W := by
  have e1 : Try.prog.arrayLen 99 = 128 := by kernel_rfl
  have e2 : Try.prog.elem 99 = 5 := by kernel_rfl
  rw [run_sliceAt_array_h (P := Try.prog) W 99 p (by rw [e1, e2]; exact Try.underlying99) .i64 left (by omega) (by rw [e1]; omega), e1, e2, Try.sizeOf5]
  simp only [Result.andThen_ok, slicedAt, Nat.zero_mul, Int.toNat_natCast, Nat.sub_zero]
  rw [if_neg (by decide)]
  simp [Addr.add]

set_option maxRecDepth 100000 in
set_option maxHeartbeats 1000000 in
theorem crash_in {w : World} {B S M : Nat} {pv : Oth} {d : Dv} (h : IsDev w B S M pv d) (ho : d.off = false) {keep : Nat} (hk : keep < 18446744073709551616) (torn : Int) :
    Calls Try.prog 30 #[.pointer (some ⟨B, 0, none⟩), .int .u64 keep, .int .i64 torn] w fun e w' =>
      e = .returned (.tuple #[]) ∧ IsDev w' B S M pv (crashD d keep torn) ∧ Only (dev3 B S M) w w' := by
  have e0 : crashD d keep torn = { d with sure := crashL keep 0 (cutT torn) d.loose d.sure, loose := [], off := true } := by
    simp only [crashD, ho]; rfl
  have HO := Lib.hid (off_any h)
  rw [ho] at HO
  obtain ⟨c0, c1, c2, c3, c4⟩ := h.cells
  have z4 := h.frozen 4
  have hct : max 0 (min torn 128) = ((cutT torn : Nat) : Int) := by unfold cutT; omega
  have hcl : cutT torn ≤ 128 := by unfold cutT; omega
  have hmn := fun W => clampT (P := Try.prog) torn 3 #[3, 3] W
  have hmx := fun W => clampM (P := Try.prog) (min torn 128) 3 #[3, 3] W
  rw [hct] at hmx
  generalize cutT torn = T at e0 hmx hcl
  have hoA : Only (fun k => k = B) w (w.setCell ⟨B, 4, none⟩ (.bool true)) := (Only.refl (fun k => k = B) w).setCell (p := ⟨B, 4, none⟩) (.inl rfl) _
  have hA : IsDev (w.setCell ⟨B, 4, none⟩ (.bool true)) B S M pv { d with off := true } :=
    IsDev.setB (pv' := pv) (d' := { d with off := true }) h hoA ((heap_setCell_same w B 4 _ _ _ h.blk).trans rfl) rfl rfl rfl h.plan
  have hfew : d.loose.length ≤ 65536 := Nat.le_trans h.few h.most
  have hszA : (w.setCell ⟨B, 4, none⟩ (.bool true)).heap.size = w.heap.size := by simp [World.setCell]
  have hk1 := keys_call (some M) (w.setCell ⟨B, 4, none⟩ (.bool true))
  have hs1 := sorted_call M _ (Dm d.loose) RSec _ hA.map (by rw [dm_size]; unfold maxLen; omega) (by rw [dm_size]; omega)
  rw [hszA] at hk1 hs1
  have HK := Lib.hid hk1; have HSo := Lib.hid hs1
  have HA := Lib.hid hA; have HOA := Lib.hid hoA
  rw [e0]
  have hbl := h.ltB; have hsl := h.ltS; have hml := h.ltM
  have HSZ := Lib.hid hszA
  clear h e0 hct hoA hA hszA hk1 hs1
  have hln : ∀ W, (Builtin.len_ #[93] 3 #[.slice none 0 0]).run Try.prog W = .ok (.int .i64 0) W := fun _ => rfl
  have hz := zero_sec
  unfold secV at hz
  have hZ : (secA zer).size = 128 := by rw [secA_size, zer_len]
  go_enter Try.func30, Try.ntmps30
  go_wp2_with (first
    | (go_at_call 38; refine HO.out.mono ?_; rintro e w' ⟨rfl, rfl⟩)
    | (go_at_call 53; refine HK.out.mono ?_; rintro e w' ⟨rfl, rfl⟩)
    | (go_at_call 52; refine HSo.out.mono ?_; rintro e W1 ⟨v, ss, rfl, hperm, hrow, hnil, hbW⟩; obtain ⟨-, ⟨rfl, h0⟩ | ⟨g, cap, cur, rfl, hg1, hg2, hg3, hg4, hg5, hg6⟩⟩ := hrow)
    | fail)
  · have hss : ss = [] := List.eq_nil_of_length_eq_zero h0
    have hl0 : d.loose = [] := by
      subst hss
      have := hperm.length_eq
      rw [dm_keys, List.length_map] at this
      exact List.eq_nil_of_length_eq_zero this.symm
    have hbW1 : Below w.heap.size (w.setCell ⟨B, 4, none⟩ (.bool true)) W1 := ((Below.refl w.heap.size (w.setCell ⟨B, 4, none⟩ (.bool true))).alloc (Nat.le_of_eq HSZ.out.symm) _).trans (hbW.mono (Nat.le_succ _))
    have hd1 : IsDev W1 B S M pv { d with off := true } := HA.out.on (HSZ.out.symm ▸ hbW1)
    obtain ⟨w4, hcl4, hm4, hg4⟩ := clear_ok hd1.map 0
    obtain ⟨b0, b1, b2, b3, b4⟩ := hd1.cells
    have HBW := Lib.hid hbW1; have HD := Lib.hid hd1; have HM4 := Lib.hid hm4; have HG4 := Lib.hid hg4; have HL0 := Lib.hid hl0
    clear hperm hnil hbW h0 hss hbW1 hd1 hm4 hg4 hl0 b0 b2 b3 b4
    go_wp2_with fail
    refine wp_loop_rounds 1 ?_
    rw [rounds_succ]
    go_wp2_with fail
    go_end0
    have e1 : Only (dev3 B S M) w (w.setCell ⟨B, 4, none⟩ (.bool true)) := HOA.out.mono fun k _ hk => .inl hk
    have e2 : Only (dev3 B S M) (w.setCell ⟨B, 4, none⟩ (.bool true)) W1 := Only.of_below (HSZ.out.symm ▸ HBW.out)
    refine ⟨rfl, ?_, (e1.trans e2).grown HG4.out (.inl (.inr (.inr rfl)))⟩
    rw [HL0.out]
    exact IsDev.setM HD.out HG4.out HM4.out List.Pairwise.nil (fun p hp => absurd hp (by simp))
  · have hlen : ss.length = d.loose.length := by rw [hperm.length_eq, dm_keys, List.length_map]
    have hris : RisL d.loose := HA.out.ris
    have hso : ss.mergeSort (fun x y => decide (x ≤ y)) = d.loose.map fun p => (p.1 : Int) := keys_sorted hris (dm_keys d.loose ▸ hperm)
    have hbW1 : Below w.heap.size (w.setCell ⟨B, 4, none⟩ (.bool true)) W1 := ((Below.refl w.heap.size (w.setCell ⟨B, 4, none⟩ (.bool true))).alloc (Nat.le_of_eq HSZ.out.symm) _).trans (hbW.mono (Nat.le_succ _))
    have hd1 : IsDev W1 B S M pv { d with off := true } := HA.out.on (HSZ.out.symm ▸ hbW1)
    have hcell : ∀ (j : Nat) (p : Nat × Sec), d.loose[j]? = some p → cur[j]? = some (Value.int .i64 (p.1 : Int)) := by
      intro j p hj
      have hjl := (List.getElem?_eq_some_iff.1 hj).1
      have h1 : (cur.toList.take (ss.length * 1))[j]? = some (Value.int .i64 (p.1 : Int)) := by
        rw [hg6, hso]
        simp only [List.getElem?_map, hj, Option.map_some]
      rw [List.getElem?_take_of_lt (by omega)] at h1
      simpa using h1
    have hgS : g ≠ S := by omega
    have hgl : g < W1.heap.size := (Array.getElem?_eq_some_iff.1 hg2).1
    rw [hlen] at hg3 ⊢
    have HD := Lib.hid hd1; have HCE := Lib.hid hcell; have HG2 := Lib.hid hg2; have HBW := Lib.hid hbW1
    clear hperm hso hbW hbW1 hd1 hcell hg2 hg4 hg5 hg6 hnil hlen
    go_loopw [2, 24] (fun st si wr => ∃ (j left : Nat) (u : List Sec), j ≤ d.loose.length ∧ si = .int .i64 j ∧ st = .int .i64 left ∧ left ≤ 128 ∧
        Hid (crashL keep j left (d.loose.drop j) u = crashL keep 0 T d.loose d.sure) ∧ Hid (u.length = d.sure.length) ∧ Hid (IsDev wr B S M pv { d with sure := u, off := true }) ∧ Hid (Only (fun k => k = S) W1 wr))
      (fun _ si _ => d.loose.length - (intOf si).toNat)
    case atStart => exact ⟨0, T, d.sure, Nat.zero_le _, rfl, rfl, hcl, rfl, rfl, HD.out, Only.refl _ _⟩
    case round =>
      obtain ⟨j, left, u, hj, rfl, rfl, hleft, HCR, HU, HI, HON⟩ := hrel
      by_cases hjl : j < d.loose.length
      · obtain ⟨⟨a, s⟩, hp⟩ : ∃ p, d.loose[j]? = some p := ⟨_, List.getElem?_eq_getElem hjl⟩
        have hmem : (a, s) ∈ d.loose := List.mem_of_getElem? hp
        have hga : getL a d.loose = some s := getL_of_mem hris hmem
        have hdr : d.loose.drop j = (a, s) :: d.loose.drop (j + 1) := by
          rw [List.drop_eq_getElem_cons hjl]
          congr 1
          exact Option.some.inj ((List.getElem?_eq_getElem hjl).symm.trans hp)
        have hcr := HCR.out
        rw [hdr] at hcr
        have HCR1 := Lib.hid hcr
        obtain ⟨halu, hs128⟩ := HI.out.lbytes _ hmem
        have hcg : wr.cell? ⟨g, j, none⟩ = some (.int .i64 (a : Int)) := by
          have e1 : wr.heap[g]? = W1.heap[g]? := HON.out.block g hgl hgS
          rw [cell_of_row wr g j cur _ _ (e1.trans HG2.out)]
          exact HCE.out j _ hp
        have hlk := look_ok HI.out.map a (by have := HI.out.most; simp only at halu this; omega) false
        simp only [hga, Option.getD_some] at hlk
        unfold secV at hlk
        have hC : (secA s).size = 128 := by rw [secA_size, hs128]
        have hst1 := sec_store hZ hC (secA_one s) wr
        have hi0 := HI.out.cells
        obtain ⟨b0, b1, b2, b3, b4⟩ := hi0
        have hi1a := HI.out.on ((Below.refl _ wr).alloc (Nat.le_refl _) (.cells (secA s) 99))
        obtain ⟨k0, k1, k2, k3, k4⟩ := hi1a.cells
        simp only at k0 b0
        have hi1 := hi1a.drew
        have hsto := store_sure hi1.sure hi1.bytes halu hs128
        have hgw : (w.alloc (.cells (secA s) 99)).heap.size = w.heap.size + 1 := by simp
        have hnew : (wr.alloc (.cells (secA s) 99)).drew.heap[wr.heap.size]? = some (.cells (secA s) 99 (0, 0)) := heap_alloc_last wr _
        have hpc := piece_sure hi1.sure hi1.bytes halu hs128 hnew left hleft 128
        have hld : (Instr.loadAt 99 (.pointer (some ⟨wr.heap.size, 0, none⟩))).run Try.prog (wr.alloc (.cells (secA s) 99)).drew = .ok (.agg (secA s)) (wr.alloc (.cells (secA s) 99)).drew :=
          run_loadAt_mid _ wr.heap.size 0 99 (Lib.byteCells s) _ (fun j v hj => by
            show World.cell? (wr.alloc (.cells (secA s) 99)) _ = _
            rw [Nat.zero_add, cell_of_row _ _ _ _ _ _ (heap_alloc_last wr _)]
            simpa [secA] using hj) Try.underlying99 rfl (by rw [size_sec, Lib.byteCells_length, hs128])
        unfold secV at hsto
        have hm63 := fun W => min63 (P := Try.prog) j 3 #[3, 3] W
        have hand := and_one (keep >>> min j 63) (shr_lt hk _)
        rw [show ((keep >>> min j 63 : Nat) : Int) = (keep : Int) / 2 ^ min j 63 from by rw [Nat.shiftRight_eq_div_pow]; simp] at hand
        have HI1 := Lib.hid hi1
        have HRS := Lib.hid (fun (s' : Sec) (h : s'.length = 128) => hi1.setRowS (a := a) h)
        have hul : u.length = d.sure.length := HU.out
        simp only at halu
        have hal : a < d.sure.length := by omega
        have HS128 := Lib.hid hs128
        have HDR := Lib.hid hp
        clear hcr hdr hmem hga hp hi1 hi1a hnew hs128 hgw
        generalize hCs : secA s = C at hlk hC hst1 hsto hpc hld k0 k1 k2 k3 k4 HI1 HRS
        have HCS := Lib.hid hCs
        clear hCs
        have hgd : u.getD a [] = u[a] := by rw [List.getD_eq_getElem?_getD, List.getElem?_eq_getElem halu]; rfl
        have hl128 : (s.take left ++ (u[a]).drop left).length = 128 := by
          have e1 : u[a].length = 128 := HI.out.bytes _ (List.getElem_mem halu)
          have e2 : s.length = 128 := HS128.out
          rw [List.length_append, List.length_take, List.length_drop, e1, e2]; omega
        by_cases hbit : keep >>> min j 63 % 2 = 1
        · rw [hbit] at hand
          have hcr2 := HCR1.out
          rw [crashL_yes hbit] at hcr2
          have HCR2 := Lib.hid hcr2
          clear hcr2 hbit hpc hgd hl128
          go_wp2_with fail
          refine region_tail 7 (by kernel_rfl) (by kernel_rfl) ?_
          simp only [List.take_succ_cons, List.take_zero, List.drop_succ_cons, List.drop_zero]
          iterate 5 still_step
          refine still_load rfl 99 _ rfl _ rfl _ hld ?_
          still_step
          refine wpStill_nil ?_
          refine list_store rfl 99 _ _ rfl _ _ rfl rfl hsto rfl ?_
          go_wp2_with fail
          go_roundw
          case rel =>
            refine ⟨j + 1, left, u.set a s, hjl, by congr 1, rfl, hleft, HCR2, Lib.hid ((List.length_set ..).trans hul), Lib.hid (HRS.out s HS128.out), Lib.hid (((HON.out.alloc _).drew).setRow (.inl rfl) _)⟩
          case measure => simp [intOf]; omega
        · have hb0 : keep >>> min j 63 % 2 = 0 := by omega
          rw [hb0] at hand
          have hcr2 := HCR1.out
          rw [crashL_no hbit, hgd] at hcr2
          have HCR2 := Lib.hid hcr2
          have HL128 := Lib.hid hl128
          clear hcr2 hbit hb0 hsto hgd hl128
          have hsl1 := fun W => slice_arr ⟨S, a * 128, none⟩ left hleft W
          go_wp2_with fail
          refine region_tail 9 (by kernel_rfl) (by kernel_rfl) ?_
          simp only [List.take_succ_cons, List.take_zero, List.drop_succ_cons, List.drop_zero]
          iterate 9 still_step
          refine wpStill_nil ?_
          go_wp2_with fail
          go_roundw
          case rel =>
            refine ⟨j + 1, 0, u.set a (s.take left ++ (u[a]).drop left), hjl, by congr 1, rfl, Nat.zero_le _, HCR2, Lib.hid ((List.length_set ..).trans hul), Lib.hid (HRS.out _ HL128.out), Lib.hid (((HON.out.alloc _).drew).setRow (.inl rfl) _)⟩
          case measure => simp [intOf]; omega
      · obtain rfl : j = d.loose.length := by omega
        have hcr := HCR.out
        rw [List.drop_length] at hcr
        have hfin : u = crashL keep 0 T d.loose d.sure := hcr
        have hi := HI.out
        rw [hfin] at hi
        obtain ⟨w4, hcl4, hm4, hg4⟩ := clear_ok hi.map 0
        obtain ⟨b0, b1, b2, b3, b4⟩ := hi.cells
        have HIF := Lib.hid hi; have HM4 := Lib.hid hm4; have HG4 := Lib.hid hg4
        clear hi hm4 hg4 hcr hfin b0 b2 b3 b4
        go_wp2_with fail
        go_end0
        refine ⟨rfl, IsDev.setM HIF.out HG4.out HM4.out List.Pairwise.nil (fun p hp => absurd hp (by simp)), ?_⟩
        have e1 : Only (dev3 B S M) w (w.setCell ⟨B, 4, none⟩ (.bool true)) := HOA.out.mono fun k _ hk => .inl hk
        have e2 : Only (dev3 B S M) (w.setCell ⟨B, 4, none⟩ (.bool true)) W1 := Only.of_below (HSZ.out.symm ▸ HBW.out)
        exact ((e1.trans e2).trans (HON.out.mono fun k _ hk => .inr (.inl hk))).grown HG4.out (.inl (.inr (.inr rfl)))

end Go.Proofs.Ytbdjdeddghdefaa
