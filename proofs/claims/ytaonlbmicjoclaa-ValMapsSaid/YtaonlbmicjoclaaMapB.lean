/- val.Map (written by tools/laws02m.py) -/
import Derived.Test.YtaonlbmicjoclaaMapA
import Derived.Deep.RegionHeld3
import Derived.Deep.AppendLies
namespace Go.Proofs.Ytaonlbmicjoclaa
open Go.ChangeShapes Go.WideShapes Go.ChangeAt Go.RowKit Go.Fl

set_option maxHeartbeats 8000000 in
set_option maxRecDepth 100000 in
theorem map_any (l : List T) (A : Option Addr) (cap : Nat) (w : World) (h : RdL w w.heap.size l A) (hl : l.length ≤ 12) :
    Calls Try.prog 6 #[.slice A l.length cap] w fun e w' => ∃ v, e = .returned v ∧ Rd w' w'.heap.size (.mk 6 false 0 0 ⟨#[]⟩ (flat (mapR (prs l)))) v ∧ Below w.heap.size w w' := by
  obtain ⟨i0, hi0, hz0, hz1, hz2⟩ := info_parts info_pair
  obtain ⟨m, hm⟩ : ∃ m, l.length / 2 = m := ⟨_, rfl⟩
  have hmk := fun W => run_make_rowN (P := Try.prog) 41 43 i0 _ Try.underlying41 hi0 hz0 .i64 .i64 m m (Nat.le_refl _) (by rw [hz2]; omega) (by omega) W
  rw [hz1] at hmk
  have H := Lib.hid h; have HM := Lib.hid hm; have HL := Lib.hid hl
  have hq : (l.length : Int).tdiv 2 = (m : Int) := by rw [← hm]; rfl
  have hwm : wrap64 (m : Int) = (m : Int) := wrap64_id (by rw [is64_iff]; omega)
  generalize hcs : madeCells (Value.agg #[.int .i64 0, .bool false, .int .i64 0, .float .f64 0, .string ⟨#[]⟩, .slice none 0 0, .int .i64 0, .bool false, .int .i64 0, .float .f64 0, .string ⟨#[]⟩, .slice none 0 0]).cells (m * 12) = cs0 at hmk
  have Hcs : Hid (cs0.size = m * 12) := Lib.hid (by rw [← hcs]; simp [madeCells, Value.cells])
  clear h hm hl hi0 hz0 hz1 hz2 hcs
  have hB1 := Blk.new (w.alloc (.cells #[.int .i64 0, .bool false, .int .i64 0, .float .f64 0, .string ⟨#[]⟩, .slice none 0 0] 26)) 43 cs0
  have hB0 := Blk.below (B := w.heap.size + 1) (Blk.new w 26 #[.int .i64 0, .bool false, .int .i64 0, .float .f64 0, .string ⟨#[]⟩, .slice none 0 0]) ((Below.refl _ _).alloc (by simp) (.cells cs0 43)) (Nat.lt_succ_self _)
  have hb := ((Below.refl w.heap.size w).alloc (Nat.le_refl _) (.cells #[.int .i64 0, .bool false, .int .i64 0, .float .f64 0, .string ⟨#[]⟩, .slice none 0 0] 26)).alloc (by simp) (.cells cs0 43)
  rw [World.size_alloc] at hB1
  have HB0 := Lib.hid hB0; have HB1 := Lib.hid hB1; have HB := Lib.hid hb
  clear hB0 hB1 hb
  go_enter Try.func6, Try.ntmps6
  go_wp2_with fail
  go_loopw [4, 15] (fun _ s15 wr => ∃ i : Nat, i ≤ m ∧ s15 = .int .i64 i ∧ Hid (Below w.heap.size w wr) ∧ Hid (Blk wr w.heap.size 26 #[.int .i64 0, .bool false, .int .i64 0, .float .f64 0, .string ⟨#[]⟩, .slice none 0 0]) ∧ Hid (PartP w wr (w.heap.size + 1) m i (prs l))) (fun _ s15 _ => m - (intOf s15).toNat)
  case atStart => exact ⟨0, Nat.zero_le _, rfl, HB, HB0, Lib.hid ⟨cs0, HB1.out, Hcs.out, fun _ _ h => absurd h (Nat.not_lt_zero _)⟩⟩
  case round =>
    clear HB0 HB1 HB Hcs hwm hq hmk
    obtain ⟨i, hi, rfl, HB, HB0, HPP⟩ := hrel
    by_cases hlt : i < m
    · obtain ⟨i2, hi2⟩ : ∃ i2, i + 1 = i2 := ⟨_, rfl⟩
      have HI := Lib.hid (show i2 ≤ m ∧ m - i2 < m - i by omega)
      have hil : i < (prs l).length := by rw [prs_len, HM.out]; exact hlt
      obtain ⟨ka, va, ha1, ha2, ha3⟩ := prs_get l i hil
      obtain ⟨e, he⟩ : ∃ e, 2 * i = e := ⟨_, rfl⟩
      obtain ⟨e1, he1⟩ : ∃ e1, e + 1 = e1 := ⟨_, rfl⟩
      rw [he] at ha1; rw [he, he1] at ha2
      have hel : e < l.length := (List.getElem?_eq_some_iff.1 ha1).1
      have he1l : e1 < l.length := (List.getElem?_eq_some_iff.1 ha2).1
      have hx1 : l[e] = ka := (List.getElem?_eq_some_iff.1 ha1).2
      have hx2 : l[e1] = va := (List.getElem?_eq_some_iff.1 ha2).2
      obtain ⟨a, k1, b1, n1, f1, s1, q1, D1, c1, rfl, -, hk1, hr1, hs1⟩ := H.out.item hel
      obtain ⟨u0, u1, u2, u3, u4, u5⟩ := hs1.on HB.out
      obtain ⟨a', k2, b2, n2, f2, s2, q2, D2, c2, ea, -, hk2, hr2, hs2⟩ := H.out.item he1l
      obtain ⟨v0, v1, v2, v3, v4, v5⟩ := hs2.on HB.out
      cases ea
      have hw1 : IntKind.i64.wrap (2 * (i : Int)) = (e : Int) := by rw [IntKind.wrap_i64]; have := HL.out; omega
      have hw2 : IntKind.i64.wrap ((e : Int) + 1) = (e1 : Int) := by rw [IntKind.wrap_i64]; have := HL.out; omega
      have hlz1 : (e : Int) < (l.length : Int) := by omega
      have hlz2 : (e1 : Int) < (l.length : Int) := by omega
      have hlz3 : (i : Int) < (m : Int) := by omega
      obtain ⟨cs, hblk, hcs, hpr⟩ := HPP.out
      have hos : i * 12 + 12 ≤ cs.size := by rw [hcs]; omega
      have hcell : ∀ j, j < 12 → ∃ u, wr.cell? ⟨w.heap.size + 1, i * 12 + j, none⟩ = some u ∧ wr.frozen? ⟨w.heap.size + 1, i * 12 + j, none⟩ = false := fun j hj =>
        ⟨cs[i * 12 + j]'(by omega), by rw [hblk.cell, Array.getElem?_eq_getElem (by omega)], hblk.frozen _⟩
      obtain ⟨y0, p0, z0⟩ := hcell 0 (by decide)
      obtain ⟨y1, p1, z1⟩ := hcell 1 (by decide)
      obtain ⟨y2, p2, z2⟩ := hcell 2 (by decide)
      obtain ⟨y3, p3, z3⟩ := hcell 3 (by decide)
      obtain ⟨y4, p4, z4⟩ := hcell 4 (by decide)
      obtain ⟨y5, p5, z5⟩ := hcell 5 (by decide)
      obtain ⟨y6, p6, z6⟩ := hcell 6 (by decide)
      obtain ⟨y7, p7, z7⟩ := hcell 7 (by decide)
      obtain ⟨y8, p8, z8⟩ := hcell 8 (by decide)
      obtain ⟨y9, p9, z9⟩ := hcell 9 (by decide)
      obtain ⟨y10, p10, z10⟩ := hcell 10 (by decide)
      obtain ⟨y11, p11, z11⟩ := hcell 11 (by decide)
      replace p0 : wr.cell? ⟨w.heap.size + 1, i * 12, none⟩ = some y0 := p0
      replace z0 : wr.frozen? ⟨w.heap.size + 1, i * 12, none⟩ = false := z0
      rw [hx1] at hr1 hk1; rw [hx2] at hr2 hk2
      have Hblk := Lib.hid hblk; have HCS := Lib.hid hcs; have Hpr := Lib.hid hpr; have Hos := Lib.hid hos;
      have Hr1 := Lib.hid hr1; have Hr2 := Lib.hid hr2; have Hk1 := Lib.hid hk1; have Hk2 := Lib.hid hk2; have Ha3 := Lib.hid ha3
      have hinc : wrap64 ((i : Int) + 1) = (i2 : Int) := wrap_next hi2 (by have := HL.out; have := HM.out; omega)
      have HI2 := Lib.hid hi2
      clear hs1 hs2 hcell hblk hcs hpr hos hr1 hr2 hk1 hk2 hx1 hx2 ha1 ha2 ha3 he he1 hil hi hlt hi2
      go_wp2_with fail
      go_still_tail 15, (by kernel_rfl)
      go_wp2_with fail
      rw [hinc]
      refine ⟨⟨i2, HI.out.1, rfl, Lib.hid ?_, Lib.hid ?_, Lib.hid ?_⟩, HI.out.2⟩
      · show Below w.heap.size w (set12 wr (w.heap.size + 1) (i * 12) (.int .i64 k1) (.bool b1) (.int .i64 n1) (.float .f64 f1) (.string s1) (.slice D1 q1.length c1) (.int .i64 k2) (.bool b2) (.int .i64 n2) (.float .f64 f2) (.string s2) (.slice D2 q2.length c2)).drew
        exact (set12_below HB.out (Nat.le_succ _) _ _ _ _ _ _ _ _ _ _ _ _ _).drew
      · show Blk (set12 wr (w.heap.size + 1) (i * 12) (.int .i64 k1) (.bool b1) (.int .i64 n1) (.float .f64 f1) (.string s1) (.slice D1 q1.length c1) (.int .i64 k2) (.bool b2) (.int .i64 n2) (.float .f64 f2) (.string s2) (.slice D2 q2.length c2)).drew _ _ _
        exact blk_drew (set12_keep HB0.out (Nat.ne_of_lt (Nat.lt_succ_self _)) _ _ _ _ _ _ _ _ _ _ _ _ _)
      · show PartP w (set12 wr (w.heap.size + 1) (i * 12) (.int .i64 k1) (.bool b1) (.int .i64 n1) (.float .f64 f1) (.string s1) (.slice D1 q1.length c1) (.int .i64 k2) (.bool b2) (.int .i64 n2) (.float .f64 f2) (.string s2) (.slice D2 q2.length c2)).drew _ _ _ _
        rw [← HI2.out]
        exact (partP_step Hblk.out HCS.out Hpr.out Hr1.out Hr2.out Ha3.out rfl Hos.out).drew
    · obtain rfl : i = m := by omega
      clear hlt hi
      have hrow := HPP.out.row (len_prs HM.out) HB.out
      have hso := sort_any (prs l) (w.heap.size + 1) w.heap.size i wr hrow (Nat.le_succ _) (by rw [len_prs HM.out]; have := HL.out; have := HM.out; omega)
      rw [len_prs HM.out] at hso
      have HSO := Lib.hid hso
      clear hso hrow HPP
      go_wp2_with fail
      refine HSO.out.mono ?_
      rintro e w2 ⟨rfl, hrw, hbs⟩
      have hb2 := hbs.of (B := w.heap.size) (Nat.le_succ _) HB.out.size
      have HBW := Lib.hid (HB.out.trans (hb2.mono (Nat.le_refl _)))
      have HR0 : Hid (Blk w2 w.heap.size 26 #[.int .i64 0, .bool false, .int .i64 0, .float .f64 0, .string ⟨#[]⟩, .slice none 0 0]) := Lib.hid ((hbs.2.2.2.2 w.heap.size HB0.out.lt (Nat.ne_of_lt (Nat.lt_succ_self _))).trans HB0.out)
      have HRW := Lib.hid hrw; have HB2 := Lib.hid hb2
      have HML := Lib.hid (show (srt (prs l)).length = i by rw [srt_len]; exact len_prs HM.out)
      clear hrw hbs hb2 HSO HB0 HB
      have hblk := Blk.new w2 26 #[.int .i64 6, .bool false, .int .i64 0, .float .f64 0, .string ⟨#[]⟩, .slice none 0 0]
      have hv0 := (VR.nil0 w2 (w2.heap.size + 1)).on ((Below.refl w2.heap.size w2).alloc (Nat.le_refl _) (.cells #[.int .i64 6, .bool false, .int .i64 0, .float .f64 0, .string ⟨#[]⟩, .slice none 0 0] 26))
      have HBL := Lib.hid hblk; have HV0 := Lib.hid hv0
      have HBE := Lib.hid ((Below.refl w2.heap.size w2).alloc (Nat.le_refl _) (.cells #[.int .i64 6, .bool false, .int .i64 0, .float .f64 0, .string ⟨#[]⟩, .slice none 0 0] 26))
      clear hblk hv0
      go_wp2_with fail
      go_loopw [7, 8, 39] (fun _ _ s39 wr => ∃ (j : Nat) (S : Nat → Prop) (A : Option Addr) (n c : Nat), j ≤ i ∧ s39 = .int .i64 j ∧ Hid (Below w2.heap.size w2 wr) ∧ Hid (Blk wr w2.heap.size 26 #[.int .i64 6, .bool false, .int .i64 0, .float .f64 0, .string ⟨#[]⟩, .slice A n c]) ∧ Hid (VR wr (w2.heap.size + 1) S (.slice A n c) (flat (mrg ((srt (prs l)).take j))) ∧ ∀ b, S b → w2.heap.size + 1 ≤ b)) (fun _ _ s39 _ => i - (intOf s39).toNat)
      case atStart => exact ⟨0, _, none, 0, 0, Nat.zero_le _, rfl, HBE, HBL, Lib.hid ⟨HV0.out, fun _ h => h.elim⟩⟩
      case round =>
        clear HBL HV0 HBE
        obtain ⟨j, S, A1, n, c, hj, rfl, HB, HBM, HV⟩ := hrel
        by_cases hlt : j < i
        · obtain ⟨j2, hj2⟩ : ∃ j2, j + 1 = j2 := ⟨_, rfl⟩
          have HI := Lib.hid (show j2 ≤ i ∧ i - j2 < i - j by omega)
          have hinc : wrap64 ((j : Int) + 1) = (j2 : Int) := wrap_next hj2 (by have := HL.out; have := HM.out; omega)
          have hjl : j < (srt (prs l)).length := by rw [HML.out]; exact hlt
          obtain ⟨⟨ka, va⟩, hkv⟩ : ∃ p, (srt (prs l))[j] = p := ⟨_, rfl⟩
          have htk : (srt (prs l)).take j2 = (srt (prs l)).take j ++ [(ka, va)] := by rw [← hj2, List.take_succ_eq_append_getElem hjl, hkv]
          obtain ⟨k1, b1, n1, f1, s1, D1, m1, c1, k2, b2, n2, f2, s2, D2, m2, c2, cs, hblk, hr1, hr2, x0, x1, x2, x3, x4, x5, x6, x7, x8, x9, x10, x11⟩ := HRW.out.item (List.getElem?_eq_some_iff.2 ⟨hjl, hkv⟩)
          have hblk' := hblk.below HB.out hblk.lt
          have q0 : wr.cell? ⟨w.heap.size + 1, j * 12, none⟩ = some _ := (hblk'.cell _).trans x0
          have q1 : wr.cell? ⟨w.heap.size + 1, j * 12 + 1, none⟩ = some _ := (hblk'.cell _).trans x1
          have q2 : wr.cell? ⟨w.heap.size + 1, j * 12 + 2, none⟩ = some _ := (hblk'.cell _).trans x2
          have q3 : wr.cell? ⟨w.heap.size + 1, j * 12 + 3, none⟩ = some _ := (hblk'.cell _).trans x3
          have q4 : wr.cell? ⟨w.heap.size + 1, j * 12 + 4, none⟩ = some _ := (hblk'.cell _).trans x4
          have q5 : wr.cell? ⟨w.heap.size + 1, j * 12 + 5, none⟩ = some _ := (hblk'.cell _).trans x5
          have q6 : wr.cell? ⟨w.heap.size + 1, j * 12 + 6, none⟩ = some _ := (hblk'.cell _).trans x6
          have q7 : wr.cell? ⟨w.heap.size + 1, j * 12 + 7, none⟩ = some _ := (hblk'.cell _).trans x7
          have q8 : wr.cell? ⟨w.heap.size + 1, j * 12 + 8, none⟩ = some _ := (hblk'.cell _).trans x8
          have q9 : wr.cell? ⟨w.heap.size + 1, j * 12 + 9, none⟩ = some _ := (hblk'.cell _).trans x9
          have q10 : wr.cell? ⟨w.heap.size + 1, j * 12 + 10, none⟩ = some _ := (hblk'.cell _).trans x10
          have q11 : wr.cell? ⟨w.heap.size + 1, j * 12 + 11, none⟩ = some _ := (hblk'.cell _).trans x11
          have hbB : Below w.heap.size w2 wr := HB.out.mono HBW.out.size
          have hsz := Nat.le_trans HBW.out.size HB.out.size
          have HR1 : Hid (Rd wr wr.heap.size ka (.agg #[.int .i64 k1, .bool b1, .int .i64 n1, .float .f64 f1, .string s1, .slice D1 m1 c1])) := Lib.hid ((hr1.under HB2.out (Nat.le_refl _) (Nat.le_refl _)).under hbB (Nat.le_refl _) hsz)
          have HR2 : Hid (Rd wr wr.heap.size va (.agg #[.int .i64 k2, .bool b2, .int .i64 n2, .float .f64 f2, .string s2, .slice D2 m2 c2])) := Lib.hid ((hr2.under HB2.out (Nat.le_refl _) (Nat.le_refl _)).under hbB (Nat.le_refl _) hsz)
          have hc5 : wr.cell? ⟨w2.heap.size, 5, none⟩ = some (.slice A1 n c) := (HBM.out.cell 5).trans rfl
          have hlt5 : w2.heap.size < wr.heap.size := HBM.out.lt
          have HT := Lib.hid htk; have HJ2 := Lib.hid hj2
          obtain ⟨fl, hfl⟩ : ∃ fl, mrg ((srt (prs l)).take j) = fl := ⟨_, rfl⟩
          rw [hfl] at HV
          have HFL : Hid (mrg ((srt (prs l)).take j2) = stp fl (ka, va)) := Lib.hid (by rw [htk, mrg_stp, hfl])
          obtain ⟨hn, hnc, hcm, hA0, hrl⟩ := HV.out.1.list
          have HLN : Hid ((flat fl).length + 2 ≤ 1000) := Lib.hid (by rw [flat_len, ← hfl]; have := mrg_len ((srt (prs l)).take j); rw [List.length_take] at this; have := HML.out; have := HL.out; have := HM.out; omega)
          rw [flat_len] at hn
          clear htk hfl hr1 hr2 hblk hblk' x0 x1 x2 x3 x4 x5 x6 x7 x8 x9 x10 x11 hkv hjl hj2 hbB hsz
          have hji : (j : Int) < (i : Int) := by omega
          rcases List.eq_nil_or_concat fl with hfe | ⟨xs, u, hfe⟩
          · subst hfe
            obtain rfl : n = 0 := by simpa using hn
            clear hn hnc hcm hA0 hrl
            go_wp2_with fail
            go_quiet (fail)
            go_wp2_with fail
            have hpb := Blk.new wr 43 #[.int .i64 k1, .bool b1, .int .i64 n1, .float .f64 f1, .string s1, .slice D1 m1 c1, .int .i64 k2, .bool b2, .int .i64 n2, .float .f64 f2, .string s2, .slice D2 m2 c2]
            have hbz := (Below.refl wr.heap.size wr).alloc (Nat.le_refl _) (.cells #[.int .i64 k1, .bool b1, .int .i64 n1, .float .f64 f1, .string s1, .slice D1 m1 c1, .int .i64 k2, .bool b2, .int .i64 n2, .float .f64 f2, .string s2, .slice D2 m2 c2] 43)
            have HPB : Hid (Blk ((wr.alloc (.cells #[.int .i64 k1, .bool b1, .int .i64 n1, .float .f64 f1, .string s1, .slice D1 m1 c1, .int .i64 k2, .bool b2, .int .i64 n2, .float .f64 f2, .string s2, .slice D2 m2 c2] 43)).drewN nq) wr.heap.size 43 #[.int .i64 k1, .bool b1, .int .i64 n1, .float .f64 f1, .string s1, .slice D1 m1 c1, .int .i64 k2, .bool b2, .int .i64 n2, .float .f64 f2, .string s2, .slice D2 m2 c2]) := Lib.hid hpb
            have HQ : Hid (Below wr.heap.size wr ((wr.alloc (.cells #[.int .i64 k1, .bool b1, .int .i64 n1, .float .f64 f1, .string s1, .slice D1 m1 c1, .int .i64 k2, .bool b2, .int .i64 n2, .float .f64 f2, .string s2, .slice D2 m2 c2] 43)).drewN nq) ∧ wr.heap.size < ((wr.alloc (.cells #[.int .i64 k1, .bool b1, .int .i64 n1, .float .f64 f1, .string s1, .slice D1 m1 c1, .int .i64 k2, .bool b2, .int .i64 n2, .float .f64 f2, .string s2, .slice D2 m2 c2] 43)).drewN nq).heap.size) := Lib.hid ⟨⟨hbz.os, hbz.tape, hbz.output, hbz.size, hbz.block⟩, by show wr.heap.size < (wr.alloc _).heap.size; simp⟩
            clear hpb hbz
            generalize (wr.alloc (.cells #[.int .i64 k1, .bool b1, .int .i64 n1, .float .f64 f1, .string s1, .slice D1 m1 c1, .int .i64 k2, .bool b2, .int .i64 n2, .float .f64 f2, .string s2, .slice D2 m2 c2] 43)).drewN nq = wq at HPB HQ ⊢
            have hpq := HPB.out
            have e0 : wq.cell? ⟨wr.heap.size, 0, none⟩ = some (.int .i64 k1) := (hpq.cell 0).trans rfl
            have e1 : wq.cell? ⟨wr.heap.size, 1, none⟩ = some (.bool b1) := (hpq.cell 1).trans rfl
            have e2 : wq.cell? ⟨wr.heap.size, 2, none⟩ = some (.int .i64 n1) := (hpq.cell 2).trans rfl
            have e3 : wq.cell? ⟨wr.heap.size, 3, none⟩ = some (.float .f64 f1) := (hpq.cell 3).trans rfl
            have e4 : wq.cell? ⟨wr.heap.size, 4, none⟩ = some (.string s1) := (hpq.cell 4).trans rfl
            have e5 : wq.cell? ⟨wr.heap.size, 5, none⟩ = some (.slice D1 m1 c1) := (hpq.cell 5).trans rfl
            have e6 : wq.cell? ⟨wr.heap.size, 6, none⟩ = some (.int .i64 k2) := (hpq.cell 6).trans rfl
            have e7 : wq.cell? ⟨wr.heap.size, 7, none⟩ = some (.bool b2) := (hpq.cell 7).trans rfl
            have e8 : wq.cell? ⟨wr.heap.size, 8, none⟩ = some (.int .i64 n2) := (hpq.cell 8).trans rfl
            have e9 : wq.cell? ⟨wr.heap.size, 9, none⟩ = some (.float .f64 f2) := (hpq.cell 9).trans rfl
            have e10 : wq.cell? ⟨wr.heap.size, 10, none⟩ = some (.string s2) := (hpq.cell 10).trans rfl
            have e11 : wq.cell? ⟨wr.heap.size, 11, none⟩ = some (.slice D2 m2 c2) := (hpq.cell 11).trans rfl
            have hmq := HBM.out.below HQ.out.1 HBM.out.lt
            have hc5q : wq.cell? ⟨w2.heap.size, 5, none⟩ = some (.slice A1 0 c) := (hmq.cell 5).trans rfl
            have HG : Hid (Below wq.heap.size wq wq.drew) := Lib.hid (Below.refl _ _).drew
            have HC1 := Lib.hid (copy_first (HR1.out.on HQ.out.1) hc5q HPB.out)
            have HC2 := Lib.hid (copy_second (ka := ka) (k1 := k1) (b1 := b1) (n1 := n1) (f1 := f1) (s1 := s1) (m1 := m1) (HV.out.1.on HQ.out.1) (HR2.out.on HQ.out.1) hmq (Nat.lt_succ_self _) (by simp [flat]) (Nat.lt_of_le_of_lt HB.out.size HQ.out.2) HV.out.2)
            have HMQ := Lib.hid hmq
            clear hpq hmq q0 q1 q2 q3 q4 q5 q6 q7 q8 q9 q10 q11 hc5
            have mixed : Try.prog.follows Departure.mixedOrders = true := by kernel_rfl
            go_region_law_o (first
              | (refine step_append_runM rfl _ _ 22 22 rfl _ _ (by simp [Act.eval]) (by simp [Act.eval]) hrun ?_)
              | (go_simp; go_at_call 20; (with_reducible refine (HC1.out _ ?hh).mono ?_); (case hh => assumption); rintro e wa ⟨E1, d1, rfl, hwa, h5a, r6, r7, r8, r9, r10, r11⟩)
              | (go_simp; go_at_call 20; (with_reducible refine (HC2.out _ _ _ hwa).mono ?_); rintro e wb ⟨E2, d2, g, c', wz, rfl, hrun, h5b, hlb, h5z, z5z, hfin⟩)
              | fail)
            all_goals
              go_wp2_with fail
              rw [hinc]
              obtain ⟨a1, a2, S2, a3⟩ := map_after HB.out HQ.out.1 HMQ.out hfin.out
              refine ⟨⟨j2, S2, _, _, _, HI.out.1, rfl, a1, a2, ?_⟩, HI.out.2⟩
              rw [HFL.out]
              exact a3
          · have hlen : fl.length = xs.length + 1 := by rw [hfe]; simp
            obtain ⟨e, he⟩ : ∃ e, 2 * xs.length = e := ⟨_, rfl⟩
            have hne : n = e + 2 := by omega
            have hfe' : fl = xs ++ [u] := by rw [hfe]; simp
            have hue : (flat fl)[e]? = some u.1 := by rw [hfe', ← he]; exact flat_last xs u
            have hel : e < (flat fl).length := (List.getElem?_eq_some_iff.1 hue).1
            have hux : (flat fl)[e] = u.1 := (List.getElem?_eq_some_iff.1 hue).2
            obtain ⟨g0, rfl⟩ := HV.out.1.ptr (by omega)
            obtain ⟨a, k3, b3, n3, f3, s3, lst3, D3, c3, ea, -, hk3, hr3, hs3⟩ := hrl.item hel
            rw [hux] at hr3 hk3
            obtain ⟨u0, u1, u2, u3, u4', u5⟩ := hs3.alloc (.cells #[.int .i64 k1, .bool b1, .int .i64 n1, .float .f64 f1, .string s1, .slice D1 m1 c1, .int .i64 k2, .bool b2, .int .i64 n2, .float .f64 f2, .string s2, .slice D2 m2 c2] 43)
            have hd : decide ((0 : Int) < (n : Int)) = true := by rw [decide_eq_true_iff]; omega
            have hd2 : decide (0 < n) = true := by rw [decide_eq_true_iff]; omega
            have hw2 : IntKind.i64.wrap ((n : Int) - 2) = (e : Int) := by rw [IntKind.wrap_i64]; have := HL.out; have := HM.out; omega
            have hei : (e : Int) < (n : Int) := by omega
            have Hr3 := Lib.hid hr3; have Hfe := Lib.hid hfe'; have He := Lib.hid he; have Hne := Lib.hid hne
            cases ea
            simp only [adr_add, Nat.zero_add] at u0 u1 u2 u3 u4' u5
            clear hs3 hr3 hk3 hue hux hel hfe hfe' he hne hlen hn hnc hcm hA0 hrl
            have hz : Below wr.heap.size wr (wr.alloc (.cells #[.int .i64 k1, .bool b1, .int .i64 n1, .float .f64 f1, .string s1, .slice D1 m1 c1, .int .i64 k2, .bool b2, .int .i64 n2, .float .f64 f2, .string s2, .slice D2 m2 c2] 43)).drew := ((Below.refl wr.heap.size wr).alloc (Nat.le_refl _) (.cells #[.int .i64 k1, .bool b1, .int .i64 n1, .float .f64 f1, .string s1, .slice D1 m1 c1, .int .i64 k2, .bool b2, .int .i64 n2, .float .f64 f2, .string s2, .slice D2 m2 c2] 43)).drew
            have HZ := Lib.hid hz
            have hpb := Blk.new wr 43 #[.int .i64 k1, .bool b1, .int .i64 n1, .float .f64 f1, .string s1, .slice D1 m1 c1, .int .i64 k2, .bool b2, .int .i64 n2, .float .f64 f2, .string s2, .slice D2 m2 c2]
            have HPB0 := Lib.hid (blk_drew hpb)
            have HZL : Hid (wr.heap.size < ((wr.alloc (.cells #[.int .i64 k1, .bool b1, .int .i64 n1, .float .f64 f1, .string s1, .slice D1 m1 c1, .int .i64 k2, .bool b2, .int .i64 n2, .float .f64 f2, .string s2, .slice D2 m2 c2] 43)).drew).heap.size) := Lib.hid (by show wr.heap.size < (wr.alloc _).heap.size; simp)
            clear hz hpb
            go_wp2_with fail
            have mixed : Try.prog.follows Departure.mixedOrders = true := by kernel_rfl
            refine region_tail 11 mixed (by kernel_rfl) ?_
            simp only [List.take_succ_cons, List.take_zero, List.drop_succ_cons, List.drop_zero]
            repeat still_step
            refine wpStill_nil ?_
            go_wp2_with fail
            refine (vsame_any (Hr3.out.on HZ.out) (HR1.out.on HZ.out)).mono ?_
            rintro e' wq ⟨rfl, hbs⟩
            have HPB : Hid (Blk wq wr.heap.size 43 #[.int .i64 k1, .bool b1, .int .i64 n1, .float .f64 f1, .string s1, .slice D1 m1 c1, .int .i64 k2, .bool b2, .int .i64 n2, .float .f64 f2, .string s2, .slice D2 m2 c2]) := Lib.hid (HPB0.out.below hbs HZL.out)
            have HQ : Hid (Below wr.heap.size wr wq ∧ wr.heap.size < wq.heap.size) := Lib.hid ⟨HZ.out.trans (hbs.mono HZ.out.size), Nat.lt_of_lt_of_le HZL.out hbs.size⟩
            clear hbs HPB0 HZ HZL u0 u1 u2 u3 u4' u5 hw2 hei hd hd2 Hr3 q0 q1 q2 q3 q4 q5 q6 q7 q8 q9 q10 q11 hc5
            by_cases hc0 : cmpT u.1 ka = 0
            · have d1 : (cmpT u.1 ka == 0) = true := by simpa using hc0
              have HC0 := Lib.hid hc0
              have hpq := HPB.out
              have e6 : wq.cell? ⟨wr.heap.size, 6, none⟩ = some (.int .i64 k2) := (hpq.cell 6).trans rfl
              have e7 : wq.cell? ⟨wr.heap.size, 7, none⟩ = some (.bool b2) := (hpq.cell 7).trans rfl
              have e8 : wq.cell? ⟨wr.heap.size, 8, none⟩ = some (.int .i64 n2) := (hpq.cell 8).trans rfl
              have e9 : wq.cell? ⟨wr.heap.size, 9, none⟩ = some (.float .f64 f2) := (hpq.cell 9).trans rfl
              have e10 : wq.cell? ⟨wr.heap.size, 10, none⟩ = some (.string s2) := (hpq.cell 10).trans rfl
              have e11 : wq.cell? ⟨wr.heap.size, 11, none⟩ = some (.slice D2 m2 c2) := (hpq.cell 11).trans rfl
              have hmq := HBM.out.below HQ.out.1 HBM.out.lt
              have hc5q : wq.cell? ⟨w2.heap.size, 5, none⟩ = some (.slice (some ⟨g0, 0, none⟩) n c) := (hmq.cell 5).trans rfl
              obtain ⟨e1', he1'⟩ : ∃ e1', e + 1 = e1' := ⟨_, rfl⟩
              have hnb : n ≤ 1000 := by have := HV.out.1.list.1; have := HLN.out; omega
              have hw1 : IntKind.i64.wrap ((n : Int) - 1) = (e1' : Int) := by rw [IntKind.wrap_i64]; have := Hne.out; omega
              have hei1 : (e1' : Int) < (n : Int) := by have := Hne.out; omega
              have hil : e1' < (flat fl).length := by have := HV.out.1.list.1; have := Hne.out; omega
              have HC3 := Lib.hid (copy_third (i := e1') (HV.out.1.on HQ.out.1) (HR2.out.on HQ.out.1) hmq (Nat.lt_succ_self _) hil (Nat.lt_of_le_of_lt HB.out.size HQ.out.2) HV.out.2)
              have HG : Hid (Below wq.heap.size wq wq.drew) := Lib.hid (Below.refl _ _).drew
              have HE1 := Lib.hid he1'
              clear hpq hmq hnb hil he1' hc0
              go_wp2_with fail
              go_region_with (first
                | (go_at_call 20; refine (HC3.out _ HG.out).mono ?_; rintro e'' wb ⟨E2, d2, y0, y1, y2, y3, y4, y5, rfl, r5m, r0, r1, r2, r3, r4, r5, z0, z1, z2, z3, z4, z5, hfin⟩))
              all_goals
                go_wp2_with fail
                rw [hinc]
                obtain ⟨f1b, f2b, S3, f3v, f3s⟩ := hfin.out
                have hfin2 : flat (mrg ((srt (prs l)).take j2)) = (flat fl).set e1' va := by
                  rw [HFL.out, Hfe.out, stp_same HC0.out, He.out, HE1.out]
                refine ⟨⟨j2, S3, some ⟨g0, 0, none⟩, n, c, HI.out.1, rfl, Lib.hid ?_, Lib.hid ?_, Lib.hid ⟨?_, f3s⟩⟩, HI.out.2⟩
                · show Below w2.heap.size w2 (set6 wb g0 (e1' * 6) (.int .i64 k2) (.bool b2) (.int .i64 n2) (.float .f64 f2) (.string s2) (.slice E2 m2 d2))
                  exact (HB.out.trans (HQ.out.1.mono HB.out.size)).trans (f1b.mono (Nat.le_succ _))
                · show Blk (set6 wb g0 (e1' * 6) (.int .i64 k2) (.bool b2) (.int .i64 n2) (.float .f64 f2) (.string s2) (.slice E2 m2 d2)) _ _ _
                  exact f2b
                · rw [hfin2]
                  show VR (set6 wb g0 (e1' * 6) (.int .i64 k2) (.bool b2) (.int .i64 n2) (.float .f64 f2) (.string s2) (.slice E2 m2 d2)) _ _ _ _
                  exact f3v
            · have d1 : (cmpT u.1 ka == 0) = false := by simpa using hc0
              have HC0 := Lib.hid hc0
              clear hc0
              go_wp2_with fail
              have hpq := HPB.out
              have e0 : wq.cell? ⟨wr.heap.size, 0, none⟩ = some (.int .i64 k1) := (hpq.cell 0).trans rfl
              have e1 : wq.cell? ⟨wr.heap.size, 1, none⟩ = some (.bool b1) := (hpq.cell 1).trans rfl
              have e2 : wq.cell? ⟨wr.heap.size, 2, none⟩ = some (.int .i64 n1) := (hpq.cell 2).trans rfl
              have e3 : wq.cell? ⟨wr.heap.size, 3, none⟩ = some (.float .f64 f1) := (hpq.cell 3).trans rfl
              have e4 : wq.cell? ⟨wr.heap.size, 4, none⟩ = some (.string s1) := (hpq.cell 4).trans rfl
              have e5 : wq.cell? ⟨wr.heap.size, 5, none⟩ = some (.slice D1 m1 c1) := (hpq.cell 5).trans rfl
              have e6 : wq.cell? ⟨wr.heap.size, 6, none⟩ = some (.int .i64 k2) := (hpq.cell 6).trans rfl
              have e7 : wq.cell? ⟨wr.heap.size, 7, none⟩ = some (.bool b2) := (hpq.cell 7).trans rfl
              have e8 : wq.cell? ⟨wr.heap.size, 8, none⟩ = some (.int .i64 n2) := (hpq.cell 8).trans rfl
              have e9 : wq.cell? ⟨wr.heap.size, 9, none⟩ = some (.float .f64 f2) := (hpq.cell 9).trans rfl
              have e10 : wq.cell? ⟨wr.heap.size, 10, none⟩ = some (.string s2) := (hpq.cell 10).trans rfl
              have e11 : wq.cell? ⟨wr.heap.size, 11, none⟩ = some (.slice D2 m2 c2) := (hpq.cell 11).trans rfl
              have hmq := HBM.out.below HQ.out.1 HBM.out.lt
              have hc5q : wq.cell? ⟨w2.heap.size, 5, none⟩ = some (.slice (some ⟨g0, 0, none⟩) n c) := (hmq.cell 5).trans rfl
              have HG : Hid (Below wq.heap.size wq wq.drew) := Lib.hid (Below.refl _ _).drew
              have HC1 := Lib.hid (copy_first (HR1.out.on HQ.out.1) hc5q HPB.out)
              have HC2 := Lib.hid (copy_second (ka := ka) (k1 := k1) (b1 := b1) (n1 := n1) (f1 := f1) (s1 := s1) (m1 := m1) (HV.out.1.on HQ.out.1) (HR2.out.on HQ.out.1) hmq (Nat.lt_succ_self _) HLN.out (Nat.lt_of_le_of_lt HB.out.size HQ.out.2) HV.out.2)
              have HMQ := Lib.hid hmq
              clear hpq hmq
              go_region_law_o (first
                | (refine step_append_runM rfl _ _ 22 22 rfl _ _ (by simp [Act.eval]) (by simp [Act.eval]) hrun ?_)
                | (go_simp; go_at_call 20; (with_reducible refine (HC1.out _ ?hh).mono ?_); (case hh => assumption); rintro e wa ⟨E1, d1, rfl, hwa, h5a, r6, r7, r8, r9, r10, r11⟩)
                | (go_simp; go_at_call 20; (with_reducible refine (HC2.out _ _ _ hwa).mono ?_); rintro e wb ⟨E2, d2, g, c', wz, rfl, hrun, h5b, hlb, h5z, z5z, hfin⟩)
                | fail)
              all_goals
                go_wp2_with fail
                rw [hinc]
                obtain ⟨a1, a2, S2, a3⟩ := map_after HB.out HQ.out.1 HMQ.out hfin.out
                refine ⟨⟨j2, S2, _, _, _, HI.out.1, rfl, a1, a2, ?_⟩, HI.out.2⟩
                rw [HFL.out, Hfe.out, stp_more HC0.out, ← Hfe.out]
                exact a3
        · obtain rfl : j = i := by omega
          clear hlt hj
          obtain ⟨r0, r1, r2, r3, r4, r5⟩ := six_of (HR0.out.below HB.out HR0.out.lt)
          obtain ⟨rf0, rf1, rf2, rf3, rf4, rf5⟩ := six_frozen (HR0.out.below HB.out HR0.out.lt)
          obtain ⟨t0, t1, t2, t3, t4, t5⟩ := six_of HBM.out
          have hr0 := HR0.out.below HB.out HR0.out.lt
          have HS6 : Hid (Blk (set6 wr w.heap.size 0 (.int .i64 6) (.bool false) (.int .i64 0) (.float .f64 0) (.string ⟨#[]⟩) (.slice A1 n c)) w.heap.size 26 #[.int .i64 6, .bool false, .int .i64 0, .float .f64 0, .string ⟨#[]⟩, .slice A1 n c]) := Lib.hid (set6_blk hr0 _ _ _ _ _ _)
          have HLS := Lib.hid (show (flat (mrg ((srt (prs l)).take j))).length ≤ 1000 by rw [flat_len]; have := mrg_len ((srt (prs l)).take j); rw [List.length_take] at this; have := HML.out; have := HL.out; have := HM.out; omega)
          have HRB := Lib.hid HR0.out.lt
          clear hr0
          go_wp2_with fail
          obtain ⟨s0, s1, s2, s3, s4, s5⟩ := six_of HS6.out
          change bodyPost _ _ _ _ _ (set6 wr w.heap.size 0 (.int .i64 6) (.bool false) (.int .i64 0) (.float .f64 0) (.string ⟨#[]⟩) (.slice A1 n c))
          refine bodyPost_ret (v := .agg #[.int .i64 6, .bool false, .int .i64 0, .float .f64 0, .string ⟨#[]⟩, .slice A1 n c]) (by simp [results, Try.results6, go_sem, s0, s1, s2, s3, s4, s5]) rfl ?_
          refine ⟨_, rfl, ?_, set6_below (HBW.out.trans (HB.out.mono HBW.out.size)) (Nat.le_refl _) _ _ _ _ _ _⟩
          have he : flat (mrg ((srt (prs l)).take j)) = flat (mapR (prs l)) := by rw [← HML.out, List.take_length, mrg_srt]
          rw [← he]
          exact map_end HV.out.1 HV.out.2 (Nat.lt_succ_of_lt HRB.out) HLS.out _ _ _ _ _ _

end Go.Proofs.Ytaonlbmicjoclaa
