/- parse: pred (written by tools/laws12q.py) -/
import Derived.Test.YtnehbpfgdeilhaaGreatDoorPaQ
namespace Go.Proofs.YtnehbpfgdeilhaaGreatDoor
open Go.ChangeShapes Go.WideShapes Go.ChangeAt Go.RowKit Go.Fl
open Go.Shelf

theorem beq_nat_list {S : ByteArray} {l : List UInt8} (h : S.data.toList = l) : (S.toList == l) = true := by rw [Lib.toList_data, h]; exact beq_self_eq_true _

theorem beq_not_list {S : ByteArray} {l : List UInt8} (h : S.data.toList ≠ l) : (S.toList == l) = false := by rw [Lib.toList_data]; exact beq_eq_false_iff_ne.2 h

theorem leaves_tmps {P : Program} {fn : Func} {R : Ending → World → Prop} {tmps tmps' : Array Value} (hr : results fn tmps = results fn tmps') : ∀ (ds : List Deferred) (u : FrameMode) (w : World), Leaves P fn tmps R ds u w → Leaves P fn tmps' R ds u w
  | [], .returning, _, ⟨v, h1, h2⟩ => ⟨v, hr ▸ h1, h2⟩
  | [], .panicking _, _, h => h
  | [], .run, _, h => h
  | d :: ds, u, w, ⟨hu, fv, cap, f, args, ht, hi, hc⟩ => ⟨hu, fv, cap, f, args, ht, hi, hc.mono fun e u' w' h => by
    cases e with
    | returned v => exact leaves_tmps hr ds _ _ h
    | panicked c => exact leaves_tmps hr ds _ _ h
    | outgrown => exact h⟩

theorem res_put (k : Nat) (v : Value) (a : Act) (hk : k ≠ 2) : results Tryz.f62 (a.put (some k) v).tmps = results Tryz.f62 a.tmps := by
  simp [results, Tryz.results62, Act.put, Array.getD_eq_getD_getElem?, Array.getElem?_setIfInBounds_ne, hk]

set_option maxHeartbeats 40000000 in
set_option maxRecDepth 100000 in
theorem pred_step {pb g cap : Nat} {ws : List Wd} (hG : Gd ws) (k : Nat) (ih : ∀ k', k' < k → PredAt pb g cap ws k') : PredAt pb g cap ws k := by
  intro w i d n x h hx hv hd
  obtain ⟨w0, hw0⟩ : ∃ w0, w.alloc (.cells #[.string ⟨#[]⟩, .slice none 0 0, .slice none 0 0] 46) = w0 := ⟨_, rfl⟩
  have hb0 : Below w.heap.size w w0 := by rw [← hw0]; exact (Below.refl _ _).alloc (Nat.le_refl _) _
  have hrb0 : Blk w0 w.heap.size 46 #[.string ⟨#[]⟩, .slice none 0 0, .slice none 0 0] := by rw [← hw0]; exact Blk.new _ _ _
  have HP := Lib.hid (plain_any hG k (h.on hb0) hx hv hd)
  have H0 := Lib.hid (And.intro hb0 hrb0)
  have Hpl : Hid (pb < w.heap.size ∧ g < w.heap.size) := Lib.hid ⟨h.box.lt, h.lt⟩
  have HG := Lib.hid hG
  have hf := hG.few
  have IH := Lib.hid ih
  clear h hx hv hG hb0 hrb0 ih
  obtain ⟨r, hr0⟩ : ∃ r, pPred (gx ws) k ⟨i, n⟩ = r := ⟨_, rfl⟩
  rw [hr0]
  cases hr : pPlain (gx ws) k ⟨i, n⟩ with
  | bad j c =>
    have HR := Lib.hid hr
    have HV : Hid (r = .bad j c) := Lib.hid (by rw [← hr0]; exact pPred_bad hr)
    clear hr hr0
    go_enter_defers Tryz.func62, Tryz.ntmps62
    go_wp2_with fail
    refine HP.out.mono ?_
    rintro e w1 hg
    rw [HR.out] at hg
    obtain ⟨rfl, ⟨i', n', hp1⟩, ho1⟩ := hg
    exact Got.bad (R := RdP) HV.out rfl hp1 ((FR.of H0.out.1).trans ho1)
  | ok q0 s1 =>
    have HR := Lib.hid hr
    have HV0 : Hid (r = pJoin (gx ws) k q0 s1) := Lib.hid (by rw [← hr0]; exact pPred_ok hr)
    clear hr hr0
    go_enter_defers Tryz.func62, Tryz.ntmps62
    go_wp2_with fail
    refine HP.out.mono ?_
    rintro e wp hg
    rw [HR.out] at hg
    obtain ⟨v1, rfl, hv1, hp1, ho1⟩ := hg
    obtain ⟨op0, ol, okk⟩ := q0
    obtain ⟨lA0, lc0, kA0, kc0, rfl⟩ := hv1.shape
    have hs0 : w0.heap.size = w.heap.size + 1 := by rw [← hw0]; simp
    obtain ⟨wq, hwq⟩ : ∃ wq, wp.alloc (.cells #[.string op0, .slice lA0 ol.length lc0, .slice kA0 okk.length kc0] 46) = wq := ⟨_, rfl⟩
    have HI : Hid (PJ pb g cap ws d w wp.heap.size r k 0 (.mk op0 ol okk) k s1.i s1.n wq) := by
      have hbq : Below wp.heap.size wp wq := by rw [← hwq]; exact (Below.refl _ _).alloc (Nat.le_refl _) _
      have hsq : wq.heap.size = wp.heap.size + 1 := by rw [← hwq]; simp
      have hs1 := ho1.size
      exact Lib.hid ⟨HV0.out, Nat.zero_add _, hp1.on hbq, ⟨op0, lA0, ol.length, lc0, kA0, okk.length, kc0, by rw [← hwq]; exact Blk.new _ _ _, keepS_Pd _ _ _ _ _ _ (fun q hq => hbq.cell hq.2) (fun q hq => ⟨by have := hq.1; omega, by have := hq.2; omega, by have := hq.2; omega⟩) hv1⟩,
        ⟨by omega, by omega⟩, ((FR.of H0.out.1).trans ho1).trans (FR.of hbq), (hbq.block _ (by omega)).trans ((ho1.block _ (by omega) (by have := Hpl.out; omega)).trans H0.out.2)⟩
    clear hv1 hp1 ho1 hs0
    go_wp2_with fail
    refine wp_loop (fun a' wr => ∃ (m : Nat) (out : Pd) (kk i1 n1 : Nat), ∃ (u4 u7 u8 u9 u10 u11 u12 u13 u14 u15 u16 u17 u18 u19 u20 u21 u22 u23 u24 u25 u26 u27 u28 u29 u30 u31 u32 u33 u34 u35 u36 u37 u38 u39 u40 u41 u42 u43 u44 u45 u46 u47 u48 u49 u50 u51 u52 u53 u54 u55 u56 u57 : Value), Hid (PJ pb g cap ws d w wp.heap.size r k m out kk i1 n1 wr) ∧ a' = ({ tmps := #[.pointer (some ⟨pb, 0, none⟩), undef, .pointer (some ⟨w.heap.size, 0, none⟩), .pointer (some ⟨wp.heap.size, 0, none⟩), u4, .pointer (some ⟨pb, 0, none⟩), .agg #[.string op0, .slice lA0 ol.length lc0, .slice kA0 okk.length kc0], u7, u8, u9, u10, u11, u12, u13, u14, u15, u16, u17, u18, u19, u20, u21, u22, u23, u24, u25, u26, u27, u28, u29, u30, u31, u32, u33, u34, u35, u36, u37, u38, u39, u40, u41, u42, u43, u44, u45, u46, u47, u48, u49, u50, u51, u52, u53, u54, u55, u56, u57, undef], defers := List.replicate m (upD pb) } : Act)) (fun a' _ => 13 - a'.defers.length) ?_ ?_
    · refine ⟨0, .mk op0 ol okk, k, s1.i, s1.n, ?_⟩
      (repeat apply Exists.intro)
      refine ⟨HI, rfl⟩
    · rintro a' wr ⟨m, out, kk, i1, n1, u4, u7, u8, u9, u10, u11, u12, u13, u14, u15, u16, u17, u18, u19, u20, u21, u22, u23, u24, u25, u26, u27, u28, u29, u30, u31, u32, u33, u34, u35, u36, u37, u38, u39, u40, u41, u42, u43, u44, u45, u46, u47, u48, u49, u50, u51, u52, u53, u54, u55, u56, u57, Hr, rfl⟩
      clear HI hwq
      obtain ⟨x1, hx1⟩ := Hr.out.p.get
      obtain ⟨op, lA, ln, lc, kA, kn, kc, ho, hrd⟩ := Hr.out.o
      have Ho := Lib.hid ho
      have HRd := Lib.hid hrd
      have HS : Hid (m + kk = k ∧ d + k = 12) := Lib.hid ⟨Hr.out.sum, hd⟩
      have Hx1 := Lib.hid hx1
      have Hg1 : Hid (gx ws i1 = { x1 with at_ := 0 }) := Lib.hid (gx_of hx1)
      have hi1 := Hr.out.p.at_
      cases hs1 : isSgn x1 46
      · have Hs1 := Lib.hid hs1
        have HV : Hid (r = .ok out ⟨i1, n1⟩) := Lib.hid (Hr.out.eq.trans (pJoin_end (s := ⟨i1, n1⟩) (by show isSgn (gx ws i1) 46 = false; rw [Hg1.out]; exact hs1)))
        clear ho hrd hx1 hs1 hd
        go_wp2_with fail
        refine (take_no Hr.out.p HG.out Hx1.out Hs1.out).mono ?_
        rintro e w3 ⟨rfl, hb3⟩
        have ho3 := Ho.out.below hb3 Hr.out.b.2
        have hr3 := Hr.out.rb.below hb3 Hr.out.rb.lt
        have o0 : w3.cell? ⟨wp.heap.size, 0, none⟩ = some (.string op) := ho3.cell 0
        have o1 : w3.cell? ⟨wp.heap.size, 1, none⟩ = some (.slice lA ln lc) := ho3.cell 1
        have o2 : w3.cell? ⟨wp.heap.size, 2, none⟩ = some (.slice kA kn kc) := ho3.cell 2
        have q0 : w3.cell? ⟨w.heap.size, 0, none⟩ = some (.string ⟨#[]⟩) := hr3.cell 0
        have q1 : w3.cell? ⟨w.heap.size, 1, none⟩ = some (.slice none 0 0) := hr3.cell 1
        have q2 : w3.cell? ⟨w.heap.size, 2, none⟩ = some (.slice none 0 0) := hr3.cell 2
        have z0 : w3.frozen? ⟨w.heap.size, 0, none⟩ = false := hr3.frozen 0
        have z1 : w3.frozen? ⟨w.heap.size, 1, none⟩ = false := hr3.frozen 1
        have z2 : w3.frozen? ⟨w.heap.size, 2, none⟩ = false := hr3.frozen 2
        have HE := Lib.hid (And.intro hb3 hr3)
        clear hb3 ho3 hr3
        go_wp2_with fail
        have hpl := Hpl.out
        have hob := Hr.out.b
        have hsm := HS.out
        have hs3 := HE.out.1.size
        have hfb := ((HE.out.2.set_ 0 (.string op)).set_ 1 (.slice lA ln lc)).set_ 2 (.slice kA kn kc)
        have hsz : (((w3.setCell ⟨w.heap.size, 0, none⟩ (.string op)).setCell ⟨w.heap.size, 1, none⟩ (.slice lA ln lc)).setCell ⟨w.heap.size, 2, none⟩ (.slice kA kn kc)).heap.size = w3.heap.size := by simp [World.setCell]
        have hfl : Below w.heap.size w3 (((w3.setCell ⟨w.heap.size, 0, none⟩ (.string op)).setCell ⟨w.heap.size, 1, none⟩ (.slice lA ln lc)).setCell ⟨w.heap.size, 2, none⟩ (.slice kA kn kc)) := (((Below.refl _ _).setCell (by simp) _).setCell (by simp) _).setCell (by simp) _
        refine door_ok m (((w3.setCell ⟨w.heap.size, 0, none⟩ (.string op)).setCell ⟨w.heap.size, 1, none⟩ (.slice lA ln lc)).setCell ⟨w.heap.size, 2, none⟩ (.slice kA kn kc)) (by omega) ((Hr.out.p.on HE.out.1).under hfl hpl.1 hpl.2) (fun w' h1 h2 h3 => ?_)
        have hbx : Blk w' w.heap.size 46 #[.string op, .slice lA ln lc, .slice kA kn kc] := (h2.block _ (by rw [hsz]; omega) (by omega)).trans hfb
        have f0 : w'.cell? ⟨w.heap.size, 0, none⟩ = some (.string op) := hbx.cell 0
        have f1 : w'.cell? ⟨w.heap.size, 1, none⟩ = some (.slice lA ln lc) := hbx.cell 1
        have f2 : w'.cell? ⟨w.heap.size, 2, none⟩ = some (.slice kA kn kc) := hbx.cell 2
        refine ⟨.agg #[.string op, .slice lA ln lc, .slice kA kn kc], by simp [results, Tryz.results62, go_sem, f0, f1, f2], Got.ok_ HV.out ?_ h1 (((Hr.out.f.trans (FR.of HE.out.1)).far hfl (Nat.le_refl _)).trans h2)⟩
        refine keepS_Pd _ _ _ _ _ _ (fun q hq => World.cell?_of_block ?_) (fun q hq => ⟨Nat.le_of_lt hq.1, by rw [h3, hsz]; have := hq.2.1; omega⟩) HRd.out
        have hq1 := hq.1
        have hq2 := hq.2.1
        exact ((h2.block _ (by rw [hsz]; omega) (by omega)).trans (((Below.heap_setCell _ ⟨w.heap.size, 2, none⟩ _ q.block (by show q.block ≠ w.heap.size; omega)).trans (Below.heap_setCell _ ⟨w.heap.size, 1, none⟩ _ q.block (by show q.block ≠ w.heap.size; omega))).trans (Below.heap_setCell _ ⟨w.heap.size, 0, none⟩ _ q.block (by show q.block ≠ w.heap.size; omega)))).trans (HE.out.1.block _ hq2)
      · have Hs1 := Lib.hid hs1
        have hg46 : isSgn (gx ws (Ps.mk i1 n1).i) 46 = true := by show isSgn (gx ws i1) 46 = true; rw [Hg1.out]; exact hs1
        obtain ⟨y, hy⟩ := HG.out.next hx1 (by rw [sgn_kind hs1]; decide)
        have hgy : gx ws ((Ps.mk i1 n1).i + 1) = { y with at_ := 0 } := gx_of hy
        have HAy : Hid ((ws.getD ((Ps.mk i1 n1).i + 1) wdNone).at_ = y.at_) := Lib.hid (congrArg Wd.at_ (getD_of hy))
        obtain ⟨i2, hi2⟩ : ∃ q, i1 + 1 = q := ⟨_, rfl⟩
        have Hi2 := Lib.hid hi2
        have hy' := hy
        rw [hi2] at hy'
        have Hy := Lib.hid hy'
        have hi2l := (List.getElem?_eq_some_iff.1 hy').1
        cases hj : isJoin y
        · have HAt := HAy
          have HV : Hid (r = .bad ((Ps.mk i1 n1).i + 1) 120) := Lib.hid (Hr.out.eq.trans (pJoin_none (s := ⟨i1, n1⟩) hg46 (by rw [hgy]; exact hj)))
          obtain ⟨h1, h2, h3⟩ := join_none hj
          have HA : Hid ((decide (y.k = 1) && isL y (⟨#[97, 110, 100]⟩ : ByteArray).data.toList) = false) := Lib.hid h1
          have HR : Hid ((decide (y.k = 1) && isL y (⟨#[111, 114]⟩ : ByteArray).data.toList) = false) := Lib.hid h2
          have HN : Hid ((decide (y.k = 1) && isL y (⟨#[110, 101, 103, 97, 116, 101]⟩ : ByteArray).data.toList) = false) := Lib.hid h3
          clear ho hrd hx1 hs1 hd hg46 hy hy' hgy hj h1 h2 h3 HAy hi2
          go_wp2_with fail
          refine (take_yes Hr.out.p HG.out Hx1.out Hs1.out).mono ?_
          rintro e w1 ⟨rfl, hp, ho⟩
          rw [Hi2.out] at hp
          have HP1 := Lib.hid (And.intro hp ho)
          clear hp ho
          go_wp2_with fail
          refine (word_any HP1.out.1 HG.out Hy.out).mono ?_
          rintro e w2 ⟨rfl, hb⟩
          obtain ⟨w3, hw3⟩ : ∃ w3, w2.alloc (.cells #[.int .i64 y.k, .string y.s, .int .i64 y.n, .float .f64 y.f, .int .i64 (y.at_ : Nat)] 56) = w3 := ⟨_, rfl⟩
          have hb3 : Below w2.heap.size w2 w3 := by rw [← hw3]; exact (Below.refl _ _).alloc (Nat.le_refl _) _
          have ht3 : Blk w3 w2.heap.size 56 #[.int .i64 y.k, .string y.s, .int .i64 y.n, .float .f64 y.f, .int .i64 (y.at_ : Nat)] := by rw [← hw3]; exact Blk.new _ _ _
          have HK3 := Lib.hid (PK.start (dd := d) Hr.out Ho.out HP1.out.1 HP1.out.2 hb hb3 ht3 Hpl.out)
          obtain ⟨t30, t31, t32, t33, t34⟩ := HK3.out.word
          clear hb hb3 ht3 HP1
          go_wp2_with fail
          refine (isName_any y ⟨#[97, 110, 100]⟩ _).mono ?_
          rintro e w4 ⟨rfl, hb⟩
          have HK4 := Lib.hid (HK3.out.on hb)
          obtain ⟨t40, t41, t42, t43, t44⟩ := HK4.out.word
          clear hb HK3
          rw [HA.out]
          go_wp2_with fail
          refine (isName_any y ⟨#[111, 114]⟩ _).mono ?_
          rintro e w5 ⟨rfl, hb⟩
          have HK5 := Lib.hid (HK4.out.on hb)
          obtain ⟨t50, t51, t52, t53, t54⟩ := HK5.out.word
          clear hb HK4
          rw [HR.out]
          go_wp2_with fail
          refine (isName_any y ⟨#[110, 101, 103, 97, 116, 101]⟩ _).mono ?_
          rintro e w6 ⟨rfl, hb⟩
          have HK6 := Lib.hid (HK5.out.on hb)
          obtain ⟨t60, t61, t62, t63, t64⟩ := HK6.out.word
          clear hb HK5
          rw [HN.out]
          go_wp2_with fail
          refine (must_no HK6.out.p HG.out Hy.out).mono ?_
          rintro e w7 ⟨rfl, hb⟩
          have hk := HK6.out.on hb
          exact door_bad (m) w7 (by have := HS.out; omega) hk.p (fun w' h1 h2 => Got.bad HV.out HAt.out h1 (hk.f.trans h2))
        · have hjg : isJoin (gx ws ((Ps.mk i1 n1).i + 1)) = true := by rw [hgy]; exact hj
          have hk1 : y.k = 1 := by
            rcases join_name hj with h | ⟨-, h⟩ | ⟨-, -, h⟩
            · exact (nam_list h).1
            · exact (nam_list h).1
            · exact (nam_list h).1
          obtain ⟨z, hz⟩ := HG.out.next hy' (by rw [hk1]; decide)
          have hi3l := (List.getElem?_eq_some_iff.1 hz).1
          have Hi2l := Lib.hid hi3l
          obtain ⟨i3, hi3⟩ : ∃ q, i2 + 1 = q := ⟨_, rfl⟩
          have Hi3 := Lib.hid hi3
          rw [hi3] at hz
          have Hz := Lib.hid hz
          have hgz : gx ws ((Ps.mk i1 n1).i + 2) = { z with at_ := 0 } := by rw [show (Ps.mk i1 n1).i + 2 = i3 by show i1 + 2 = i3; omega]; exact gx_of hz
          have HAz : Hid ((ws.getD ((Ps.mk i1 n1).i + 2) wdNone).at_ = z.at_) := Lib.hid (by rw [show (Ps.mk i1 n1).i + 2 = i3 by show i1 + 2 = i3; omega]; exact congrArg Wd.at_ (getD_of hz))
          have hss : (gx ws ((Ps.mk i1 n1).i + 1)).s = y.s := by rw [hgy]
          clear hk1 hi3l
          rcases join_name hj with h | ⟨h', h⟩ | ⟨h'', h', h⟩
          · have HA : Hid ((decide (y.k = 1) && isL y (⟨#[97, 110, 100]⟩ : ByteArray).data.toList) = true) := Lib.hid h
            have hnn : y.s.data.toList ≠ [110, 101, 103, 97, 116, 101] := by rw [(nam_list h).2]; decide
            have hneg : isL (gx ws ((Ps.mk i1 n1).i + 1)) txNeg = false := by rw [hgy]; exact beq_eq_false_iff_ne.2 hnn
            have eneg : (y.s.toList == [110, 101, 103, 97, 116, 101]) = false := beq_not_list hnn
            clear hnn
            cases kk with
            | zero =>
              have HAt := HAy
              have HV : Hid (r = .bad ((Ps.mk i1 n1).i + 1) 3) := Lib.hid (Hr.out.eq.trans (pJoin_deep (s := ⟨i1, n1⟩) hg46 hjg))
              clear ho hrd hx1 hs1 hd hg46 hy hy' hgy hj h HAy HAz hi2 hi3 hjg hgz hz hss hneg eneg
              go_wp2_with fail
              refine (take_yes Hr.out.p HG.out Hx1.out Hs1.out).mono ?_
              rintro e w1 ⟨rfl, hp, ho⟩
              rw [Hi2.out] at hp
              have HP1 := Lib.hid (And.intro hp ho)
              clear hp ho
              go_wp2_with fail
              refine (word_any HP1.out.1 HG.out Hy.out).mono ?_
              rintro e w2 ⟨rfl, hb⟩
              obtain ⟨w3, hw3⟩ : ∃ w3, w2.alloc (.cells #[.int .i64 y.k, .string y.s, .int .i64 y.n, .float .f64 y.f, .int .i64 (y.at_ : Nat)] 56) = w3 := ⟨_, rfl⟩
              have hb3 : Below w2.heap.size w2 w3 := by rw [← hw3]; exact (Below.refl _ _).alloc (Nat.le_refl _) _
              have ht3 : Blk w3 w2.heap.size 56 #[.int .i64 y.k, .string y.s, .int .i64 y.n, .float .f64 y.f, .int .i64 (y.at_ : Nat)] := by rw [← hw3]; exact Blk.new _ _ _
              have HK3 := Lib.hid (PK.start (dd := d) Hr.out Ho.out HP1.out.1 HP1.out.2 hb hb3 ht3 Hpl.out)
              obtain ⟨t30, t31, t32, t33, t34⟩ := HK3.out.word
              clear hb hb3 ht3 HP1
              go_wp2_with fail
              refine (isName_any y ⟨#[97, 110, 100]⟩ _).mono ?_
              rintro e w4 ⟨rfl, hb⟩
              have HK4 := Lib.hid (HK3.out.on hb)
              obtain ⟨t40, t41, t42, t43, t44⟩ := HK4.out.word
              clear hb HK3
              rw [HA.out]
              go_wp2_with fail
              refine (must_yes _).mono ?_
              rintro e w' ⟨rfl, rfl⟩
              go_wp2_with fail
              refine (down_any HK4.out.p HG.out Hy.out (by have := HS.out; omega)).mono ?_
              rintro e w5 (⟨-, rfl, hb⟩ | ⟨h1, -⟩)
              · have hk := HK4.out.on hb
                exact door_bad m w5 (by have := HS.out; omega) hk.p (fun w' h1 h2 => Got.bad HV.out HAt.out h1 (hk.f.trans h2))
              · have := HS.out; omega
            | succ kk =>
              cases hs40 : isSgn z 40
              · have Hs40 := Lib.hid hs40
                have HAt := HAz
                have HV : Hid (r = .bad ((Ps.mk i1 n1).i + 2) 120) := Lib.hid (Hr.out.eq.trans (pJoin_open (s := ⟨i1, n1⟩) hg46 hjg (by rw [hgz]; exact hs40)))
                clear ho hrd hx1 hs1 hd hg46 hy hy' hgy hj h HAy HAz hi2 hi3 hjg hgz hz hss hneg eneg hs40
                go_wp2_with fail
                refine (take_yes Hr.out.p HG.out Hx1.out Hs1.out).mono ?_
                rintro e w1 ⟨rfl, hp, ho⟩
                rw [Hi2.out] at hp
                have HP1 := Lib.hid (And.intro hp ho)
                clear hp ho
                go_wp2_with fail
                refine (word_any HP1.out.1 HG.out Hy.out).mono ?_
                rintro e w2 ⟨rfl, hb⟩
                obtain ⟨w3, hw3⟩ : ∃ w3, w2.alloc (.cells #[.int .i64 y.k, .string y.s, .int .i64 y.n, .float .f64 y.f, .int .i64 (y.at_ : Nat)] 56) = w3 := ⟨_, rfl⟩
                have hb3 : Below w2.heap.size w2 w3 := by rw [← hw3]; exact (Below.refl _ _).alloc (Nat.le_refl _) _
                have ht3 : Blk w3 w2.heap.size 56 #[.int .i64 y.k, .string y.s, .int .i64 y.n, .float .f64 y.f, .int .i64 (y.at_ : Nat)] := by rw [← hw3]; exact Blk.new _ _ _
                have HK3 := Lib.hid (PK.start (dd := d) Hr.out Ho.out HP1.out.1 HP1.out.2 hb hb3 ht3 Hpl.out)
                obtain ⟨t30, t31, t32, t33, t34⟩ := HK3.out.word
                clear hb hb3 ht3 HP1
                go_wp2_with fail
                refine (isName_any y ⟨#[97, 110, 100]⟩ _).mono ?_
                rintro e w4 ⟨rfl, hb⟩
                have HK4 := Lib.hid (HK3.out.on hb)
                obtain ⟨t40, t41, t42, t43, t44⟩ := HK4.out.word
                clear hb HK3
                rw [HA.out]
                go_wp2_with fail
                refine (must_yes _).mono ?_
                rintro e w' ⟨rfl, rfl⟩
                go_wp2_with fail
                refine (down_any HK4.out.p HG.out Hy.out (by have := HS.out; omega)).mono ?_
                rintro e w5 (⟨h1, -⟩ | ⟨-, rfl, hp, ho, -⟩)
                · have := HS.out; omega
                have HK5 := Lib.hid (HK4.out.go hp ho)
                obtain ⟨-, c5, -, -, z5, -, -, -⟩ := HK5.out.p.cells
                clear hp ho HK4
                go_wp2_with fail
                have HK6 := Lib.hid (HK5.out.go (HK5.out.p.next Hi2l.out) (fr_put (Only.refl _ _) 1 _))
                clear HK5 c5 z5
                obtain ⟨w6, hw6⟩ : ∃ W, w5.setCell ⟨pb, 1, none⟩ (.int .i64 ((i2 : Int) + 1)) = W := ⟨_, rfl⟩
                rw [hw6] at HK6 ⊢
                rw [Hi3.out] at HK6
                refine (take_no HK6.out.p HG.out Hz.out Hs40.out).mono ?_
                rintro e w7 ⟨rfl, hb⟩
                have HK7 := Lib.hid (HK6.out.on hb)
                clear hb HK6
                go_wp2_with fail
                refine (must_no HK7.out.p HG.out Hz.out).mono ?_
                rintro e w8 ⟨rfl, hb⟩
                have hk := HK7.out.on hb
                exact door_bad (m + 1) w8 (by have := HS.out; omega) hk.p (fun w' h1 h2 => Got.bad HV.out HAt.out h1 (hk.f.trans h2))
              · have Hs40 := Lib.hid hs40
                have hg40 : isSgn (gx ws ((Ps.mk i1 n1).i + 2)) 40 = true := by rw [hgz]; exact hs40
                have hi4l := sgn_next HG.out hz hs40
                obtain ⟨i4, hi4⟩ : ∃ q, i3 + 1 = q := ⟨_, rfl⟩
                have Hi4 := Lib.hid hi4
                obtain ⟨v, hv⟩ : ∃ v, ws[i4]? = some v := ⟨_, List.getElem?_eq_getElem (by omega)⟩
                have Hv := Lib.hid hv
                have hgv : gx ws ((Ps.mk i1 n1).i + 3) = { v with at_ := 0 } := by rw [show (Ps.mk i1 n1).i + 3 = i4 by show i1 + 3 = i4; omega]; exact gx_of hv
                have HAv : Hid ((ws.getD ((Ps.mk i1 n1).i + 3) wdNone).at_ = v.at_) := Lib.hid (by rw [show (Ps.mk i1 n1).i + 3 = i4 by show i1 + 3 = i4; omega]; exact congrArg Wd.at_ (getD_of hv))
                cases hpa : prdA v
                · have Hpa := Lib.hid hpa
                  have HAt := HAv
                  have HV : Hid (r = .bad ((Ps.mk i1 n1).i + 3) 120) := Lib.hid (Hr.out.eq.trans (pJoin_nop (s := ⟨i1, n1⟩) hg46 hjg hg40 hneg (by rw [hgv]; exact hpa)))
                  clear ho hrd hx1 hs1 hd hg46 hy hy' hgy hj h HAy HAz HAv hi2 hi3 hi4 hjg hgz hz hss hneg hs40 hg40 hi4l hgv hv hpa
                  go_wp2_with fail
                  refine (take_yes Hr.out.p HG.out Hx1.out Hs1.out).mono ?_
                  rintro e w1 ⟨rfl, hp, ho⟩
                  rw [Hi2.out] at hp
                  have HP1 := Lib.hid (And.intro hp ho)
                  clear hp ho
                  go_wp2_with fail
                  refine (word_any HP1.out.1 HG.out Hy.out).mono ?_
                  rintro e w2 ⟨rfl, hb⟩
                  obtain ⟨w3, hw3⟩ : ∃ w3, w2.alloc (.cells #[.int .i64 y.k, .string y.s, .int .i64 y.n, .float .f64 y.f, .int .i64 (y.at_ : Nat)] 56) = w3 := ⟨_, rfl⟩
                  have hb3 : Below w2.heap.size w2 w3 := by rw [← hw3]; exact (Below.refl _ _).alloc (Nat.le_refl _) _
                  have ht3 : Blk w3 w2.heap.size 56 #[.int .i64 y.k, .string y.s, .int .i64 y.n, .float .f64 y.f, .int .i64 (y.at_ : Nat)] := by rw [← hw3]; exact Blk.new _ _ _
                  have HK3 := Lib.hid (PK.start (dd := d) Hr.out Ho.out HP1.out.1 HP1.out.2 hb hb3 ht3 Hpl.out)
                  obtain ⟨t30, t31, t32, t33, t34⟩ := HK3.out.word
                  clear hb hb3 ht3 HP1
                  go_wp2_with fail
                  refine (isName_any y ⟨#[97, 110, 100]⟩ _).mono ?_
                  rintro e w4 ⟨rfl, hb⟩
                  have HK4 := Lib.hid (HK3.out.on hb)
                  obtain ⟨t40, t41, t42, t43, t44⟩ := HK4.out.word
                  clear hb HK3
                  rw [HA.out]
                  go_wp2_with fail
                  refine (must_yes _).mono ?_
                  rintro e w' ⟨rfl, rfl⟩
                  go_wp2_with fail
                  refine (down_any HK4.out.p HG.out Hy.out (by have := HS.out; omega)).mono ?_
                  rintro e w5 (⟨h1, -⟩ | ⟨-, rfl, hp, ho, -⟩)
                  · have := HS.out; omega
                  have HK5 := Lib.hid (HK4.out.go hp ho)
                  obtain ⟨-, c5, -, -, z5, -, -, -⟩ := HK5.out.p.cells
                  clear hp ho HK4
                  go_wp2_with fail
                  have HK6 := Lib.hid (HK5.out.go (HK5.out.p.next Hi2l.out) (fr_put (Only.refl _ _) 1 _))
                  clear HK5 c5 z5
                  obtain ⟨w6, hw6⟩ : ∃ W, w5.setCell ⟨pb, 1, none⟩ (.int .i64 ((i2 : Int) + 1)) = W := ⟨_, rfl⟩
                  rw [hw6] at HK6 ⊢
                  rw [Hi3.out] at HK6
                  refine (take_yes HK6.out.p HG.out Hz.out Hs40.out).mono ?_
                  rintro e w7 ⟨rfl, hp, ho⟩
                  rw [Hi4.out] at hp
                  have HK7 := Lib.hid (HK6.out.go hp ho)
                  clear hp ho HK6
                  obtain ⟨t70, t71, t72, t73, t74⟩ := HK7.out.word
                  obtain ⟨o70, o71, o72, p70, p71, p72⟩ := HK7.out.out3
                  go_wp2_with fail
                  refine (must_yes _).mono ?_
                  rintro e w' ⟨rfl, rfl⟩
                  go_wp2_with fail
                  refine (predAhead_any HK7.out.p HG.out Hv.out).mono ?_
                  rintro e w8 ⟨rfl, hb⟩
                  have HK8 := Lib.hid (HK7.out.on hb)
                  clear hb
                  rw [Hpa.out]
                  go_wp2_with fail
                  refine (must_no HK8.out.p HG.out Hv.out).mono ?_
                  rintro e w9 ⟨rfl, hb⟩
                  have hk := HK8.out.on hb
                  exact door_bad (m + 1) w9 (by have := HS.out; omega) hk.p (fun w' h1 h2 => Got.bad HV.out HAt.out h1 (hk.f.trans h2))
                · have Hpa := Lib.hid hpa
                  have hgpa : prdA (gx ws ((Ps.mk i1 n1).i + 3)) = true := by rw [hgv]; exact hpa
                  have HPd := Lib.hid (fun W (hp : PB W pb g cap ws i4 (d + m + 1) n1) => IH.out kk (by have := HS.out; omega) W i4 (d + m + 1) n1 v hp hv hpa (by have := HS.out; omega))
                  have h34 : (Ps.mk ((Ps.mk i1 n1).i + 3) n1) = ⟨i4, n1⟩ := by show (Ps.mk (i1 + 3) n1) = ⟨i4, n1⟩; rw [show i1 + 3 = i4 by omega]
                  cases hq : pPred (gx ws) kk ⟨i4, n1⟩ with
                  | bad j c =>
                    have HQ := Lib.hid hq
                    have HV : Hid (r = .bad j c) := Lib.hid (Hr.out.eq.trans (pJoin_bad (s := ⟨i1, n1⟩) hg46 hjg hg40 hneg hgpa (by rw [h34]; exact hq)))
                    clear ho hrd hx1 hs1 hd hg46 hy hy' hgy hj h HAy HAz HAv hi2 hi3 hi4 hjg hgz hz hss hneg hs40 hg40 hi4l hgv hv hpa hgpa hq h34
                    go_wp2_with fail
                    refine (take_yes Hr.out.p HG.out Hx1.out Hs1.out).mono ?_
                    rintro e w1 ⟨rfl, hp, ho⟩
                    rw [Hi2.out] at hp
                    have HP1 := Lib.hid (And.intro hp ho)
                    clear hp ho
                    go_wp2_with fail
                    refine (word_any HP1.out.1 HG.out Hy.out).mono ?_
                    rintro e w2 ⟨rfl, hb⟩
                    obtain ⟨w3, hw3⟩ : ∃ w3, w2.alloc (.cells #[.int .i64 y.k, .string y.s, .int .i64 y.n, .float .f64 y.f, .int .i64 (y.at_ : Nat)] 56) = w3 := ⟨_, rfl⟩
                    have hb3 : Below w2.heap.size w2 w3 := by rw [← hw3]; exact (Below.refl _ _).alloc (Nat.le_refl _) _
                    have ht3 : Blk w3 w2.heap.size 56 #[.int .i64 y.k, .string y.s, .int .i64 y.n, .float .f64 y.f, .int .i64 (y.at_ : Nat)] := by rw [← hw3]; exact Blk.new _ _ _
                    have HK3 := Lib.hid (PK.start (dd := d) Hr.out Ho.out HP1.out.1 HP1.out.2 hb hb3 ht3 Hpl.out)
                    obtain ⟨t30, t31, t32, t33, t34⟩ := HK3.out.word
                    clear hb hb3 ht3 HP1
                    go_wp2_with fail
                    refine (isName_any y ⟨#[97, 110, 100]⟩ _).mono ?_
                    rintro e w4 ⟨rfl, hb⟩
                    have HK4 := Lib.hid (HK3.out.on hb)
                    obtain ⟨t40, t41, t42, t43, t44⟩ := HK4.out.word
                    clear hb HK3
                    rw [HA.out]
                    go_wp2_with fail
                    refine (must_yes _).mono ?_
                    rintro e w' ⟨rfl, rfl⟩
                    go_wp2_with fail
                    refine (down_any HK4.out.p HG.out Hy.out (by have := HS.out; omega)).mono ?_
                    rintro e w5 (⟨h1, -⟩ | ⟨-, rfl, hp, ho, -⟩)
                    · have := HS.out; omega
                    have HK5 := Lib.hid (HK4.out.go hp ho)
                    obtain ⟨-, c5, -, -, z5, -, -, -⟩ := HK5.out.p.cells
                    clear hp ho HK4
                    go_wp2_with fail
                    have HK6 := Lib.hid (HK5.out.go (HK5.out.p.next Hi2l.out) (fr_put (Only.refl _ _) 1 _))
                    clear HK5 c5 z5
                    obtain ⟨w6, hw6⟩ : ∃ W, w5.setCell ⟨pb, 1, none⟩ (.int .i64 ((i2 : Int) + 1)) = W := ⟨_, rfl⟩
                    rw [hw6] at HK6 ⊢
                    rw [Hi3.out] at HK6
                    refine (take_yes HK6.out.p HG.out Hz.out Hs40.out).mono ?_
                    rintro e w7 ⟨rfl, hp, ho⟩
                    rw [Hi4.out] at hp
                    have HK7 := Lib.hid (HK6.out.go hp ho)
                    clear hp ho HK6
                    obtain ⟨t70, t71, t72, t73, t74⟩ := HK7.out.word
                    obtain ⟨o70, o71, o72, p70, p71, p72⟩ := HK7.out.out3
                    go_wp2_with fail
                    refine (must_yes _).mono ?_
                    rintro e w' ⟨rfl, rfl⟩
                    go_wp2_with fail
                    refine (predAhead_any HK7.out.p HG.out Hv.out).mono ?_
                    rintro e w8 ⟨rfl, hb⟩
                    have HK8 := Lib.hid (HK7.out.on hb)
                    obtain ⟨t80, t81, t82, t83, t84⟩ := HK8.out.word
                    obtain ⟨o80, o81, o82, p80, p81, p82⟩ := HK8.out.out3
                    clear hb
                    rw [Hpa.out]
                    go_wp2_with fail
                    refine (must_yes _).mono ?_
                    rintro e w' ⟨rfl, rfl⟩
                    go_wp2_with fail
                    refine wp_region_any (by kernel_rfl) ?_
                    try (change wpAny _ _ _ _ _ _ _ (World.drew _))
                    refine wpAny_take (i := 0) (v := .pointer (some ⟨w2.heap.size, 1, none⟩)) rfl (by kernel_rfl) (by kernel_rfl) (by kernel_rfl) (fun c a W h => leaves_tmps (res_put 47 _ a (by decide)) _ _ _ h) (Or.inl ⟨by rfl, ?_⟩) ?_
                    · intro wq
                      go_simp
                    refine wpAny_take (i := 3) (v := .pointer (some ⟨pb, 0, none⟩)) rfl (by kernel_rfl) (by kernel_rfl) (by kernel_rfl) (fun c a W h => leaves_tmps (res_put 50 _ a (by decide)) _ _ _ h) (Or.inl ⟨by rfl, ?_⟩) ?_
                    · intro wq
                      go_simp
                    refine wpAny_ready (rs := [1, 2, 4]) (by kernel_rfl) (by simp) ?_
                    refine AllReady.cons rfl (fun K hK => ?_) ?_
                    · go_simp
                      refine hK _ _ ?_
                      clear hK K
                      refine wpAny_ready (rs := [2, 4]) (by kernel_rfl) (by simp) ?_
                      refine AllReady.cons rfl (fun K hK => ?_) ?_
                      · go_simp
                        refine hK _ _ ?_
                        clear hK K
                        refine wpAny_ready (rs := [4]) (by kernel_rfl) (by simp) ?_
                        refine AllReady.cons rfl (fun K hK => ?_) ?_
                        · go_simp
                          refine (HPd.out _ (HK8.out.p.on (drewN_below _ 1))).mono ?_
                          rintro e w9 hg
                          rw [HQ.out] at hg
                          obtain ⟨rfl, ⟨i', n', hpq⟩, hoq⟩ := hg
                          exact door_bad (m + 1) w9 (by have := HS.out; omega) hpq (fun w' h1 h2 => Got.bad HV.out rfl h1 (((HK8.out.f.trans (FR.of (drewN_below _ 1))).trans hoq).trans h2))
                        exact AllReady.nil
                      refine AllReady.cons rfl (fun K hK => ?_) ?_
                      · go_simp
                        refine (HPd.out _ (HK8.out.p.on (drewN_below _ 1))).mono ?_
                        rintro e w9 hg
                        rw [HQ.out] at hg
                        obtain ⟨rfl, ⟨i', n', hpq⟩, hoq⟩ := hg
                        exact door_bad (m + 1) w9 (by have := HS.out; omega) hpq (fun w' h1 h2 => Got.bad HV.out rfl h1 (((HK8.out.f.trans (FR.of (drewN_below _ 1))).trans hoq).trans h2))
                      exact AllReady.nil
                    refine AllReady.cons rfl (fun K hK => ?_) ?_
                    · go_simp
                      refine hK _ _ ?_
                      clear hK K
                      refine wpAny_ready (rs := [1, 4]) (by kernel_rfl) (by simp) ?_
                      refine AllReady.cons rfl (fun K hK => ?_) ?_
                      · go_simp
                        refine hK _ _ ?_
                        clear hK K
                        refine wpAny_ready (rs := [4]) (by kernel_rfl) (by simp) ?_
                        refine AllReady.cons rfl (fun K hK => ?_) ?_
                        · go_simp
                          refine (HPd.out _ (HK8.out.p.on (drewN_below _ 1))).mono ?_
                          rintro e w9 hg
                          rw [HQ.out] at hg
                          obtain ⟨rfl, ⟨i', n', hpq⟩, hoq⟩ := hg
                          exact door_bad (m + 1) w9 (by have := HS.out; omega) hpq (fun w' h1 h2 => Got.bad HV.out rfl h1 (((HK8.out.f.trans (FR.of (drewN_below _ 1))).trans hoq).trans h2))
                        exact AllReady.nil
                      refine AllReady.cons rfl (fun K hK => ?_) ?_
                      · go_simp
                        refine (HPd.out _ (HK8.out.p.on (drewN_below _ 1))).mono ?_
                        rintro e w9 hg
                        rw [HQ.out] at hg
                        obtain ⟨rfl, ⟨i', n', hpq⟩, hoq⟩ := hg
                        exact door_bad (m + 1) w9 (by have := HS.out; omega) hpq (fun w' h1 h2 => Got.bad HV.out rfl h1 (((HK8.out.f.trans (FR.of (drewN_below _ 1))).trans hoq).trans h2))
                      exact AllReady.nil
                    refine AllReady.cons rfl (fun K hK => ?_) ?_
                    · go_simp
                      refine (HPd.out _ (HK8.out.p.on (drewN_below _ 1))).mono ?_
                      rintro e w9 hg
                      rw [HQ.out] at hg
                      obtain ⟨rfl, ⟨i', n', hpq⟩, hoq⟩ := hg
                      exact door_bad (m + 1) w9 (by have := HS.out; omega) hpq (fun w' h1 h2 => Got.bad HV.out rfl h1 (((HK8.out.f.trans (FR.of (drewN_below _ 1))).trans hoq).trans h2))
                    exact AllReady.nil
                  | ok q s2 =>
                    have HQ := Lib.hid hq
                    obtain ⟨qop, ql, qk⟩ := q
                    have hs2 := pPred_lt HG.out hq
                    obtain ⟨u, hu⟩ : ∃ u, ws[s2.i]? = some u := ⟨_, List.getElem?_eq_getElem hs2⟩
                    have Hu := Lib.hid hu
                    cases hs41 : isSgn u 41
                    · have Hs41 := Lib.hid hs41
                      have HAt : Hid ((ws.getD s2.i wdNone).at_ = u.at_) := Lib.hid (congrArg Wd.at_ (getD_of hu))
                      have HV : Hid (r = .bad s2.i 120) := Lib.hid (Hr.out.eq.trans (pJoin_close (s := ⟨i1, n1⟩) hg46 hjg hg40 hneg hgpa (by rw [h34]; exact hq) (by rw [gx_of hu]; exact hs41)))
                      clear ho hrd hx1 hs1 hd hg46 hy hy' hgy hj h HAy HAz HAv hi2 hi3 hi4 hjg hgz hz hss hneg hs40 hg40 hi4l hgv hv hpa hgpa hq h34 hs41 hu hs2
                      go_wp2_with fail
                      refine (take_yes Hr.out.p HG.out Hx1.out Hs1.out).mono ?_
                      rintro e w1 ⟨rfl, hp, ho⟩
                      rw [Hi2.out] at hp
                      have HP1 := Lib.hid (And.intro hp ho)
                      clear hp ho
                      go_wp2_with fail
                      refine (word_any HP1.out.1 HG.out Hy.out).mono ?_
                      rintro e w2 ⟨rfl, hb⟩
                      obtain ⟨w3, hw3⟩ : ∃ w3, w2.alloc (.cells #[.int .i64 y.k, .string y.s, .int .i64 y.n, .float .f64 y.f, .int .i64 (y.at_ : Nat)] 56) = w3 := ⟨_, rfl⟩
                      have hb3 : Below w2.heap.size w2 w3 := by rw [← hw3]; exact (Below.refl _ _).alloc (Nat.le_refl _) _
                      have ht3 : Blk w3 w2.heap.size 56 #[.int .i64 y.k, .string y.s, .int .i64 y.n, .float .f64 y.f, .int .i64 (y.at_ : Nat)] := by rw [← hw3]; exact Blk.new _ _ _
                      have HK3 := Lib.hid (PK.start (dd := d) Hr.out Ho.out HP1.out.1 HP1.out.2 hb hb3 ht3 Hpl.out)
                      obtain ⟨t30, t31, t32, t33, t34⟩ := HK3.out.word
                      clear hb hb3 ht3 HP1
                      go_wp2_with fail
                      refine (isName_any y ⟨#[97, 110, 100]⟩ _).mono ?_
                      rintro e w4 ⟨rfl, hb⟩
                      have HK4 := Lib.hid (HK3.out.on hb)
                      obtain ⟨t40, t41, t42, t43, t44⟩ := HK4.out.word
                      clear hb HK3
                      rw [HA.out]
                      go_wp2_with fail
                      refine (must_yes _).mono ?_
                      rintro e w' ⟨rfl, rfl⟩
                      go_wp2_with fail
                      refine (down_any HK4.out.p HG.out Hy.out (by have := HS.out; omega)).mono ?_
                      rintro e w5 (⟨h1, -⟩ | ⟨-, rfl, hp, ho, -⟩)
                      · have := HS.out; omega
                      have HK5 := Lib.hid (HK4.out.go hp ho)
                      obtain ⟨-, c5, -, -, z5, -, -, -⟩ := HK5.out.p.cells
                      clear hp ho HK4
                      go_wp2_with fail
                      have HK6 := Lib.hid (HK5.out.go (HK5.out.p.next Hi2l.out) (fr_put (Only.refl _ _) 1 _))
                      clear HK5 c5 z5
                      obtain ⟨w6, hw6⟩ : ∃ W, w5.setCell ⟨pb, 1, none⟩ (.int .i64 ((i2 : Int) + 1)) = W := ⟨_, rfl⟩
                      rw [hw6] at HK6 ⊢
                      rw [Hi3.out] at HK6
                      refine (take_yes HK6.out.p HG.out Hz.out Hs40.out).mono ?_
                      rintro e w7 ⟨rfl, hp, ho⟩
                      rw [Hi4.out] at hp
                      have HK7 := Lib.hid (HK6.out.go hp ho)
                      clear hp ho HK6
                      obtain ⟨t70, t71, t72, t73, t74⟩ := HK7.out.word
                      obtain ⟨o70, o71, o72, p70, p71, p72⟩ := HK7.out.out3
                      go_wp2_with fail
                      refine (must_yes _).mono ?_
                      rintro e w' ⟨rfl, rfl⟩
                      go_wp2_with fail
                      refine (predAhead_any HK7.out.p HG.out Hv.out).mono ?_
                      rintro e w8 ⟨rfl, hb⟩
                      have HK8 := Lib.hid (HK7.out.on hb)
                      obtain ⟨t80, t81, t82, t83, t84⟩ := HK8.out.word
                      obtain ⟨o80, o81, o82, p80, p81, p82⟩ := HK8.out.out3
                      clear hb
                      rw [Hpa.out]
                      go_wp2_with fail
                      refine (must_yes _).mono ?_
                      rintro e w' ⟨rfl, rfl⟩
                      go_wp2_with fail
                      refine wp_region_any (by kernel_rfl) ?_
                      try (change wpAny _ _ _ _ _ _ _ (World.drew _))
                      refine wpAny_take (i := 0) (v := .pointer (some ⟨w2.heap.size, 1, none⟩)) rfl (by kernel_rfl) (by kernel_rfl) (by kernel_rfl) (fun c a W h => leaves_tmps (res_put 47 _ a (by decide)) _ _ _ h) (Or.inl ⟨by rfl, ?_⟩) ?_
                      · intro wq
                        go_simp
                      refine wpAny_take (i := 3) (v := .pointer (some ⟨pb, 0, none⟩)) rfl (by kernel_rfl) (by kernel_rfl) (by kernel_rfl) (fun c a W h => leaves_tmps (res_put 50 _ a (by decide)) _ _ _ h) (Or.inl ⟨by rfl, ?_⟩) ?_
                      · intro wq
                        go_simp
                      refine wpAny_ready (rs := [1, 2, 4]) (by kernel_rfl) (by simp) ?_
                      refine AllReady.cons rfl (fun K hK => ?_) ?_
                      · go_simp
                        refine hK _ _ ?_
                        clear hK K
                        refine wpAny_ready (rs := [2, 4]) (by kernel_rfl) (by simp) ?_
                        refine AllReady.cons rfl (fun K hK => ?_) ?_
                        · go_simp
                          refine hK _ _ ?_
                          clear hK K
                          refine wpAny_ready (rs := [4]) (by kernel_rfl) (by simp) ?_
                          refine AllReady.cons rfl (fun K hK => ?_) ?_
                          · go_simp
                            refine (HPd.out _ (HK8.out.p.on (drewN_below _ 1))).mono ?_
                            rintro e w9 hg
                            rw [HQ.out] at hg
                            obtain ⟨vq, rfl, hvq, hpq, hoq⟩ := hg
                            obtain ⟨qA, qc, qB, qe, rfl⟩ := hvq.shape
                            have hdq : FR pb w8 w9 := (FR.of (drewN_below _ 1)).trans hoq
                            have HK9 := Lib.hid (HK8.out.go hpq hdq)
                            obtain ⟨t90, t91, t92, t93, t94⟩ := HK9.out.word
                            obtain ⟨o90, o91, o92, p90, p91, p92⟩ := HK9.out.out3
                            obtain ⟨ta0, ta1, ta2, ta3, ta4⟩ := (HK9.out.on ((Below.refl _ _).alloc (Nat.le_refl _) (.cells #[.string op, .slice lA ln lc, .slice kA kn kc, .string qop, .slice qA ql.length qc, .slice qB qk.length qe] 46))).word
                            obtain ⟨oa0, oa1, oa2, pa0, pa1, pa2⟩ := (HK9.out.on ((Below.refl _ _).alloc (Nat.le_refl _) (.cells #[.string op, .slice lA ln lc, .slice kA kn kc, .string qop, .slice qA ql.length qc, .slice qB qk.length qe] 46))).out3
                            have HQv := Lib.hid (And.intro hvq hdq)
                            clear hvq hpq hoq hdq
                            refine hK _ _ ?_
                            clear hK K
                            refine wpAny_ready (rs := [5]) (by kernel_rfl) (by simp) ?_
                            refine AllReady.cons rfl (fun K hK => ?_) ?_
                            · go_simp
                              refine hK _ _ ?_
                              clear hK K
                              refine wpAny_ready (rs := [6]) (by kernel_rfl) (by simp) ?_
                              refine AllReady.cons rfl (fun K hK => ?_) ?_
                              · go_simp
                                refine hK _ _ ?_
                                clear hK K
                                refine wpAny_ready (rs := [7]) (by kernel_rfl) (by simp) ?_
                                refine AllReady.cons rfl (fun K hK => ?_) ?_
                                · go_simp
                                  refine hK _ _ ?_
                                  clear hK K
                                  refine wpAny_done (by kernel_rfl) ?_ _
                                  have HK10 := Lib.hid (HK9.out.put (.cells #[.string op, .slice lA ln lc, .slice kA kn kc, .string qop, .slice qA ql.length qc, .slice qB qk.length qe] 46) (.string y.s) (.slice none 0 0) (.slice (some ⟨w9.heap.size, 0, none⟩) 2 2))
                                  obtain ⟨w10, hw10⟩ : ∃ W, ((((w9.alloc (.cells #[.string op, .slice lA ln lc, .slice kA kn kc, .string qop, .slice qA ql.length qc, .slice qB qk.length qe] 46)).setCell ⟨wp.heap.size, 0, none⟩ (.string y.s)).setCell ⟨wp.heap.size, 1, none⟩ (.slice none 0 0)).setCell ⟨wp.heap.size, 2, none⟩ (.slice (some ⟨w9.heap.size, 0, none⟩) 2 2)) = W := ⟨_, rfl⟩
                                  rw [hw10] at HK10 ⊢
                                  have HO10 := Lib.hid (HK9.out.two (W1 := w8) HRd.out HQv.out.1 HK8.out.o.lt y.s (.string y.s) (.slice none 0 0) (.slice (some ⟨w9.heap.size, 0, none⟩) 2 2))
                                  rw [hw10] at HO10
                                  go_wp2_with fail
                                  refine (take_no HK10.out.p HG.out Hu.out Hs41.out).mono ?_
                                  rintro e w11 ⟨rfl, hb⟩
                                  have HK11 := Lib.hid (HK10.out.on hb)
                                  clear hb HK10
                                  go_wp2_with fail
                                  refine (must_no HK11.out.p HG.out Hu.out).mono ?_
                                  rintro e w12 ⟨rfl, hb⟩
                                  have hk := HK11.out.on hb
                                  exact door_bad (m + 1) w12 (by have := HS.out; omega) hk.p (fun w' h1 h2 => Got.bad HV.out HAt.out h1 (hk.f.trans h2))
                                exact AllReady.nil
                              exact AllReady.nil
                            exact AllReady.nil
                          exact AllReady.nil
                        refine AllReady.cons rfl (fun K hK => ?_) ?_
                        · go_simp
                          refine (HPd.out _ (HK8.out.p.on (drewN_below _ 1))).mono ?_
                          rintro e w9 hg
                          rw [HQ.out] at hg
                          obtain ⟨vq, rfl, hvq, hpq, hoq⟩ := hg
                          obtain ⟨qA, qc, qB, qe, rfl⟩ := hvq.shape
                          have hdq : FR pb w8 w9 := (FR.of (drewN_below _ 1)).trans hoq
                          have HK9 := Lib.hid (HK8.out.go hpq hdq)
                          obtain ⟨t90, t91, t92, t93, t94⟩ := HK9.out.word
                          obtain ⟨o90, o91, o92, p90, p91, p92⟩ := HK9.out.out3
                          obtain ⟨ta0, ta1, ta2, ta3, ta4⟩ := (HK9.out.on ((Below.refl _ _).alloc (Nat.le_refl _) (.cells #[.string op, .slice lA ln lc, .slice kA kn kc, .string qop, .slice qA ql.length qc, .slice qB qk.length qe] 46))).word
                          obtain ⟨oa0, oa1, oa2, pa0, pa1, pa2⟩ := (HK9.out.on ((Below.refl _ _).alloc (Nat.le_refl _) (.cells #[.string op, .slice lA ln lc, .slice kA kn kc, .string qop, .slice qA ql.length qc, .slice qB qk.length qe] 46))).out3
                          have HQv := Lib.hid (And.intro hvq hdq)
                          clear hvq hpq hoq hdq
                          refine hK _ _ ?_
                          clear hK K
                          refine wpAny_ready (rs := [2]) (by kernel_rfl) (by simp) ?_
                          refine AllReady.cons rfl (fun K hK => ?_) ?_
                          · go_simp
                            refine hK _ _ ?_
                            clear hK K
                            refine wpAny_ready (rs := [5]) (by kernel_rfl) (by simp) ?_
                            refine AllReady.cons rfl (fun K hK => ?_) ?_
                            · go_simp
                              refine hK _ _ ?_
                              clear hK K
                              refine wpAny_ready (rs := [6]) (by kernel_rfl) (by simp) ?_
                              refine AllReady.cons rfl (fun K hK => ?_) ?_
                              · go_simp
                                refine hK _ _ ?_
                                clear hK K
                                refine wpAny_ready (rs := [7]) (by kernel_rfl) (by simp) ?_
                                refine AllReady.cons rfl (fun K hK => ?_) ?_
                                · go_simp
                                  refine hK _ _ ?_
                                  clear hK K
                                  refine wpAny_done (by kernel_rfl) ?_ _
                                  have HK10 := Lib.hid (HK9.out.put (.cells #[.string op, .slice lA ln lc, .slice kA kn kc, .string qop, .slice qA ql.length qc, .slice qB qk.length qe] 46) (.string y.s) (.slice none 0 0) (.slice (some ⟨w9.heap.size, 0, none⟩) 2 2))
                                  obtain ⟨w10, hw10⟩ : ∃ W, ((((w9.alloc (.cells #[.string op, .slice lA ln lc, .slice kA kn kc, .string qop, .slice qA ql.length qc, .slice qB qk.length qe] 46)).setCell ⟨wp.heap.size, 0, none⟩ (.string y.s)).setCell ⟨wp.heap.size, 1, none⟩ (.slice none 0 0)).setCell ⟨wp.heap.size, 2, none⟩ (.slice (some ⟨w9.heap.size, 0, none⟩) 2 2)) = W := ⟨_, rfl⟩
                                  rw [hw10] at HK10 ⊢
                                  have HO10 := Lib.hid (HK9.out.two (W1 := w8) HRd.out HQv.out.1 HK8.out.o.lt y.s (.string y.s) (.slice none 0 0) (.slice (some ⟨w9.heap.size, 0, none⟩) 2 2))
                                  rw [hw10] at HO10
                                  go_wp2_with fail
                                  refine (take_no HK10.out.p HG.out Hu.out Hs41.out).mono ?_
                                  rintro e w11 ⟨rfl, hb⟩
                                  have HK11 := Lib.hid (HK10.out.on hb)
                                  clear hb HK10
                                  go_wp2_with fail
                                  refine (must_no HK11.out.p HG.out Hu.out).mono ?_
                                  rintro e w12 ⟨rfl, hb⟩
                                  have hk := HK11.out.on hb
                                  exact door_bad (m + 1) w12 (by have := HS.out; omega) hk.p (fun w' h1 h2 => Got.bad HV.out HAt.out h1 (hk.f.trans h2))
                                exact AllReady.nil
                              exact AllReady.nil
                            exact AllReady.nil
                          exact AllReady.nil
                        exact AllReady.nil
                      refine AllReady.cons rfl (fun K hK => ?_) ?_
                      · go_simp
                        refine hK _ _ ?_
                        clear hK K
                        refine wpAny_ready (rs := [1, 4]) (by kernel_rfl) (by simp) ?_
                        refine AllReady.cons rfl (fun K hK => ?_) ?_
                        · go_simp
                          refine hK _ _ ?_
                          clear hK K
                          refine wpAny_ready (rs := [4]) (by kernel_rfl) (by simp) ?_
                          refine AllReady.cons rfl (fun K hK => ?_) ?_
                          · go_simp
                            refine (HPd.out _ (HK8.out.p.on (drewN_below _ 1))).mono ?_
                            rintro e w9 hg
                            rw [HQ.out] at hg
                            obtain ⟨vq, rfl, hvq, hpq, hoq⟩ := hg
                            obtain ⟨qA, qc, qB, qe, rfl⟩ := hvq.shape
                            have hdq : FR pb w8 w9 := (FR.of (drewN_below _ 1)).trans hoq
                            have HK9 := Lib.hid (HK8.out.go hpq hdq)
                            obtain ⟨t90, t91, t92, t93, t94⟩ := HK9.out.word
                            obtain ⟨o90, o91, o92, p90, p91, p92⟩ := HK9.out.out3
                            obtain ⟨ta0, ta1, ta2, ta3, ta4⟩ := (HK9.out.on ((Below.refl _ _).alloc (Nat.le_refl _) (.cells #[.string op, .slice lA ln lc, .slice kA kn kc, .string qop, .slice qA ql.length qc, .slice qB qk.length qe] 46))).word
                            obtain ⟨oa0, oa1, oa2, pa0, pa1, pa2⟩ := (HK9.out.on ((Below.refl _ _).alloc (Nat.le_refl _) (.cells #[.string op, .slice lA ln lc, .slice kA kn kc, .string qop, .slice qA ql.length qc, .slice qB qk.length qe] 46))).out3
                            have HQv := Lib.hid (And.intro hvq hdq)
                            clear hvq hpq hoq hdq
                            refine hK _ _ ?_
                            clear hK K
                            refine wpAny_ready (rs := [5]) (by kernel_rfl) (by simp) ?_
                            refine AllReady.cons rfl (fun K hK => ?_) ?_
                            · go_simp
                              refine hK _ _ ?_
                              clear hK K
                              refine wpAny_ready (rs := [6]) (by kernel_rfl) (by simp) ?_
                              refine AllReady.cons rfl (fun K hK => ?_) ?_
                              · go_simp
                                refine hK _ _ ?_
                                clear hK K
                                refine wpAny_ready (rs := [7]) (by kernel_rfl) (by simp) ?_
                                refine AllReady.cons rfl (fun K hK => ?_) ?_
                                · go_simp
                                  refine hK _ _ ?_
                                  clear hK K
                                  refine wpAny_done (by kernel_rfl) ?_ _
                                  have HK10 := Lib.hid (HK9.out.put (.cells #[.string op, .slice lA ln lc, .slice kA kn kc, .string qop, .slice qA ql.length qc, .slice qB qk.length qe] 46) (.string y.s) (.slice none 0 0) (.slice (some ⟨w9.heap.size, 0, none⟩) 2 2))
                                  obtain ⟨w10, hw10⟩ : ∃ W, ((((w9.alloc (.cells #[.string op, .slice lA ln lc, .slice kA kn kc, .string qop, .slice qA ql.length qc, .slice qB qk.length qe] 46)).setCell ⟨wp.heap.size, 0, none⟩ (.string y.s)).setCell ⟨wp.heap.size, 1, none⟩ (.slice none 0 0)).setCell ⟨wp.heap.size, 2, none⟩ (.slice (some ⟨w9.heap.size, 0, none⟩) 2 2)) = W := ⟨_, rfl⟩
                                  rw [hw10] at HK10 ⊢
                                  have HO10 := Lib.hid (HK9.out.two (W1 := w8) HRd.out HQv.out.1 HK8.out.o.lt y.s (.string y.s) (.slice none 0 0) (.slice (some ⟨w9.heap.size, 0, none⟩) 2 2))
                                  rw [hw10] at HO10
                                  go_wp2_with fail
                                  refine (take_no HK10.out.p HG.out Hu.out Hs41.out).mono ?_
                                  rintro e w11 ⟨rfl, hb⟩
                                  have HK11 := Lib.hid (HK10.out.on hb)
                                  clear hb HK10
                                  go_wp2_with fail
                                  refine (must_no HK11.out.p HG.out Hu.out).mono ?_
                                  rintro e w12 ⟨rfl, hb⟩
                                  have hk := HK11.out.on hb
                                  exact door_bad (m + 1) w12 (by have := HS.out; omega) hk.p (fun w' h1 h2 => Got.bad HV.out HAt.out h1 (hk.f.trans h2))
                                exact AllReady.nil
                              exact AllReady.nil
                            exact AllReady.nil
                          exact AllReady.nil
                        refine AllReady.cons rfl (fun K hK => ?_) ?_
                        · go_simp
                          refine (HPd.out _ (HK8.out.p.on (drewN_below _ 1))).mono ?_
                          rintro e w9 hg
                          rw [HQ.out] at hg
                          obtain ⟨vq, rfl, hvq, hpq, hoq⟩ := hg
                          obtain ⟨qA, qc, qB, qe, rfl⟩ := hvq.shape
                          have hdq : FR pb w8 w9 := (FR.of (drewN_below _ 1)).trans hoq
                          have HK9 := Lib.hid (HK8.out.go hpq hdq)
                          obtain ⟨t90, t91, t92, t93, t94⟩ := HK9.out.word
                          obtain ⟨o90, o91, o92, p90, p91, p92⟩ := HK9.out.out3
                          obtain ⟨ta0, ta1, ta2, ta3, ta4⟩ := (HK9.out.on ((Below.refl _ _).alloc (Nat.le_refl _) (.cells #[.string op, .slice lA ln lc, .slice kA kn kc, .string qop, .slice qA ql.length qc, .slice qB qk.length qe] 46))).word
                          obtain ⟨oa0, oa1, oa2, pa0, pa1, pa2⟩ := (HK9.out.on ((Below.refl _ _).alloc (Nat.le_refl _) (.cells #[.string op, .slice lA ln lc, .slice kA kn kc, .string qop, .slice qA ql.length qc, .slice qB qk.length qe] 46))).out3
                          have HQv := Lib.hid (And.intro hvq hdq)
                          clear hvq hpq hoq hdq
                          refine hK _ _ ?_
                          clear hK K
                          refine wpAny_ready (rs := [1, 5]) (by kernel_rfl) (by simp) ?_
                          refine AllReady.cons rfl (fun K hK => ?_) ?_
                          · go_simp
                            refine hK _ _ ?_
                            clear hK K
                            refine wpAny_ready (rs := [5]) (by kernel_rfl) (by simp) ?_
                            refine AllReady.cons rfl (fun K hK => ?_) ?_
                            · go_simp
                              refine hK _ _ ?_
                              clear hK K
                              refine wpAny_ready (rs := [6]) (by kernel_rfl) (by simp) ?_
                              refine AllReady.cons rfl (fun K hK => ?_) ?_
                              · go_simp
                                refine hK _ _ ?_
                                clear hK K
                                refine wpAny_ready (rs := [7]) (by kernel_rfl) (by simp) ?_
                                refine AllReady.cons rfl (fun K hK => ?_) ?_
                                · go_simp
                                  refine hK _ _ ?_
                                  clear hK K
                                  refine wpAny_done (by kernel_rfl) ?_ _
                                  have HK10 := Lib.hid (HK9.out.put (.cells #[.string op, .slice lA ln lc, .slice kA kn kc, .string qop, .slice qA ql.length qc, .slice qB qk.length qe] 46) (.string y.s) (.slice none 0 0) (.slice (some ⟨w9.heap.size, 0, none⟩) 2 2))
                                  obtain ⟨w10, hw10⟩ : ∃ W, ((((w9.alloc (.cells #[.string op, .slice lA ln lc, .slice kA kn kc, .string qop, .slice qA ql.length qc, .slice qB qk.length qe] 46)).setCell ⟨wp.heap.size, 0, none⟩ (.string y.s)).setCell ⟨wp.heap.size, 1, none⟩ (.slice none 0 0)).setCell ⟨wp.heap.size, 2, none⟩ (.slice (some ⟨w9.heap.size, 0, none⟩) 2 2)) = W := ⟨_, rfl⟩
                                  rw [hw10] at HK10 ⊢
                                  have HO10 := Lib.hid (HK9.out.two (W1 := w8) HRd.out HQv.out.1 HK8.out.o.lt y.s (.string y.s) (.slice none 0 0) (.slice (some ⟨w9.heap.size, 0, none⟩) 2 2))
                                  rw [hw10] at HO10
                                  go_wp2_with fail
                                  refine (take_no HK10.out.p HG.out Hu.out Hs41.out).mono ?_
                                  rintro e w11 ⟨rfl, hb⟩
                                  have HK11 := Lib.hid (HK10.out.on hb)
                                  clear hb HK10
                                  go_wp2_with fail
                                  refine (must_no HK11.out.p HG.out Hu.out).mono ?_
                                  rintro e w12 ⟨rfl, hb⟩
                                  have hk := HK11.out.on hb
                                  exact door_bad (m + 1) w12 (by have := HS.out; omega) hk.p (fun w' h1 h2 => Got.bad HV.out HAt.out h1 (hk.f.trans h2))
                                exact AllReady.nil
                              exact AllReady.nil
                            exact AllReady.nil
                          refine AllReady.cons rfl (fun K hK => ?_) ?_
                          · go_simp
                            refine hK _ _ ?_
                            clear hK K
                            refine wpAny_ready (rs := [1]) (by kernel_rfl) (by simp) ?_
                            refine AllReady.cons rfl (fun K hK => ?_) ?_
                            · go_simp
                              refine hK _ _ ?_
                              clear hK K
                              refine wpAny_ready (rs := [6]) (by kernel_rfl) (by simp) ?_
                              refine AllReady.cons rfl (fun K hK => ?_) ?_
                              · go_simp
                                refine hK _ _ ?_
                                clear hK K
                                refine wpAny_ready (rs := [7]) (by kernel_rfl) (by simp) ?_
                                refine AllReady.cons rfl (fun K hK => ?_) ?_
                                · go_simp
                                  refine hK _ _ ?_
                                  clear hK K
                                  refine wpAny_done (by kernel_rfl) ?_ _
                                  have HK10 := Lib.hid (HK9.out.put (.cells #[.string op, .slice lA ln lc, .slice kA kn kc, .string qop, .slice qA ql.length qc, .slice qB qk.length qe] 46) (.string y.s) (.slice none 0 0) (.slice (some ⟨w9.heap.size, 0, none⟩) 2 2))
                                  obtain ⟨w10, hw10⟩ : ∃ W, ((((w9.alloc (.cells #[.string op, .slice lA ln lc, .slice kA kn kc, .string qop, .slice qA ql.length qc, .slice qB qk.length qe] 46)).setCell ⟨wp.heap.size, 0, none⟩ (.string y.s)).setCell ⟨wp.heap.size, 1, none⟩ (.slice none 0 0)).setCell ⟨wp.heap.size, 2, none⟩ (.slice (some ⟨w9.heap.size, 0, none⟩) 2 2)) = W := ⟨_, rfl⟩
                                  rw [hw10] at HK10 ⊢
                                  have HO10 := Lib.hid (HK9.out.two (W1 := w8) HRd.out HQv.out.1 HK8.out.o.lt y.s (.string y.s) (.slice none 0 0) (.slice (some ⟨w9.heap.size, 0, none⟩) 2 2))
                                  rw [hw10] at HO10
                                  go_wp2_with fail
                                  refine (take_no HK10.out.p HG.out Hu.out Hs41.out).mono ?_
                                  rintro e w11 ⟨rfl, hb⟩
                                  have HK11 := Lib.hid (HK10.out.on hb)
                                  clear hb HK10
                                  go_wp2_with fail
                                  refine (must_no HK11.out.p HG.out Hu.out).mono ?_
                                  rintro e w12 ⟨rfl, hb⟩
                                  have hk := HK11.out.on hb
                                  exact door_bad (m + 1) w12 (by have := HS.out; omega) hk.p (fun w' h1 h2 => Got.bad HV.out HAt.out h1 (hk.f.trans h2))
                                exact AllReady.nil
                              exact AllReady.nil
                            exact AllReady.nil
                          exact AllReady.nil
                        exact AllReady.nil
                      refine AllReady.cons rfl (fun K hK => ?_) ?_
                      · go_simp
                        refine (HPd.out _ (HK8.out.p.on (drewN_below _ 1))).mono ?_
                        rintro e w9 hg
                        rw [HQ.out] at hg
                        obtain ⟨vq, rfl, hvq, hpq, hoq⟩ := hg
                        obtain ⟨qA, qc, qB, qe, rfl⟩ := hvq.shape
                        have hdq : FR pb w8 w9 := (FR.of (drewN_below _ 1)).trans hoq
                        have HK9 := Lib.hid (HK8.out.go hpq hdq)
                        obtain ⟨t90, t91, t92, t93, t94⟩ := HK9.out.word
                        obtain ⟨o90, o91, o92, p90, p91, p92⟩ := HK9.out.out3
                        obtain ⟨ta0, ta1, ta2, ta3, ta4⟩ := (HK9.out.on ((Below.refl _ _).alloc (Nat.le_refl _) (.cells #[.string op, .slice lA ln lc, .slice kA kn kc, .string qop, .slice qA ql.length qc, .slice qB qk.length qe] 46))).word
                        obtain ⟨oa0, oa1, oa2, pa0, pa1, pa2⟩ := (HK9.out.on ((Below.refl _ _).alloc (Nat.le_refl _) (.cells #[.string op, .slice lA ln lc, .slice kA kn kc, .string qop, .slice qA ql.length qc, .slice qB qk.length qe] 46))).out3
                        have HQv := Lib.hid (And.intro hvq hdq)
                        clear hvq hpq hoq hdq
                        refine hK _ _ ?_
                        clear hK K
                        refine wpAny_ready (rs := [1, 2]) (by kernel_rfl) (by simp) ?_
                        refine AllReady.cons rfl (fun K hK => ?_) ?_
                        · go_simp
                          refine hK _ _ ?_
                          clear hK K
                          refine wpAny_ready (rs := [2]) (by kernel_rfl) (by simp) ?_
                          refine AllReady.cons rfl (fun K hK => ?_) ?_
                          · go_simp
                            refine hK _ _ ?_
                            clear hK K
                            refine wpAny_ready (rs := [5]) (by kernel_rfl) (by simp) ?_
                            refine AllReady.cons rfl (fun K hK => ?_) ?_
                            · go_simp
                              refine hK _ _ ?_
                              clear hK K
                              refine wpAny_ready (rs := [6]) (by kernel_rfl) (by simp) ?_
                              refine AllReady.cons rfl (fun K hK => ?_) ?_
                              · go_simp
                                refine hK _ _ ?_
                                clear hK K
                                refine wpAny_ready (rs := [7]) (by kernel_rfl) (by simp) ?_
                                refine AllReady.cons rfl (fun K hK => ?_) ?_
                                · go_simp
                                  refine hK _ _ ?_
                                  clear hK K
                                  refine wpAny_done (by kernel_rfl) ?_ _
                                  have HK10 := Lib.hid (HK9.out.put (.cells #[.string op, .slice lA ln lc, .slice kA kn kc, .string qop, .slice qA ql.length qc, .slice qB qk.length qe] 46) (.string y.s) (.slice none 0 0) (.slice (some ⟨w9.heap.size, 0, none⟩) 2 2))
                                  obtain ⟨w10, hw10⟩ : ∃ W, ((((w9.alloc (.cells #[.string op, .slice lA ln lc, .slice kA kn kc, .string qop, .slice qA ql.length qc, .slice qB qk.length qe] 46)).setCell ⟨wp.heap.size, 0, none⟩ (.string y.s)).setCell ⟨wp.heap.size, 1, none⟩ (.slice none 0 0)).setCell ⟨wp.heap.size, 2, none⟩ (.slice (some ⟨w9.heap.size, 0, none⟩) 2 2)) = W := ⟨_, rfl⟩
                                  rw [hw10] at HK10 ⊢
                                  have HO10 := Lib.hid (HK9.out.two (W1 := w8) HRd.out HQv.out.1 HK8.out.o.lt y.s (.string y.s) (.slice none 0 0) (.slice (some ⟨w9.heap.size, 0, none⟩) 2 2))
                                  rw [hw10] at HO10
                                  go_wp2_with fail
                                  refine (take_no HK10.out.p HG.out Hu.out Hs41.out).mono ?_
                                  rintro e w11 ⟨rfl, hb⟩
                                  have HK11 := Lib.hid (HK10.out.on hb)
                                  clear hb HK10
                                  go_wp2_with fail
                                  refine (must_no HK11.out.p HG.out Hu.out).mono ?_
                                  rintro e w12 ⟨rfl, hb⟩
                                  have hk := HK11.out.on hb
                                  exact door_bad (m + 1) w12 (by have := HS.out; omega) hk.p (fun w' h1 h2 => Got.bad HV.out HAt.out h1 (hk.f.trans h2))
                                exact AllReady.nil
                              exact AllReady.nil
                            exact AllReady.nil
                          exact AllReady.nil
                        refine AllReady.cons rfl (fun K hK => ?_) ?_
                        · go_simp
                          refine hK _ _ ?_
                          clear hK K
                          refine wpAny_ready (rs := [1, 5]) (by kernel_rfl) (by simp) ?_
                          refine AllReady.cons rfl (fun K hK => ?_) ?_
                          · go_simp
                            refine hK _ _ ?_
                            clear hK K
                            refine wpAny_ready (rs := [5]) (by kernel_rfl) (by simp) ?_
                            refine AllReady.cons rfl (fun K hK => ?_) ?_
                            · go_simp
                              refine hK _ _ ?_
                              clear hK K
                              refine wpAny_ready (rs := [6]) (by kernel_rfl) (by simp) ?_
                              refine AllReady.cons rfl (fun K hK => ?_) ?_
                              · go_simp
                                refine hK _ _ ?_
                                clear hK K
                                refine wpAny_ready (rs := [7]) (by kernel_rfl) (by simp) ?_
                                refine AllReady.cons rfl (fun K hK => ?_) ?_
                                · go_simp
                                  refine hK _ _ ?_
                                  clear hK K
                                  refine wpAny_done (by kernel_rfl) ?_ _
                                  have HK10 := Lib.hid (HK9.out.put (.cells #[.string op, .slice lA ln lc, .slice kA kn kc, .string qop, .slice qA ql.length qc, .slice qB qk.length qe] 46) (.string y.s) (.slice none 0 0) (.slice (some ⟨w9.heap.size, 0, none⟩) 2 2))
                                  obtain ⟨w10, hw10⟩ : ∃ W, ((((w9.alloc (.cells #[.string op, .slice lA ln lc, .slice kA kn kc, .string qop, .slice qA ql.length qc, .slice qB qk.length qe] 46)).setCell ⟨wp.heap.size, 0, none⟩ (.string y.s)).setCell ⟨wp.heap.size, 1, none⟩ (.slice none 0 0)).setCell ⟨wp.heap.size, 2, none⟩ (.slice (some ⟨w9.heap.size, 0, none⟩) 2 2)) = W := ⟨_, rfl⟩
                                  rw [hw10] at HK10 ⊢
                                  have HO10 := Lib.hid (HK9.out.two (W1 := w8) HRd.out HQv.out.1 HK8.out.o.lt y.s (.string y.s) (.slice none 0 0) (.slice (some ⟨w9.heap.size, 0, none⟩) 2 2))
                                  rw [hw10] at HO10
                                  go_wp2_with fail
                                  refine (take_no HK10.out.p HG.out Hu.out Hs41.out).mono ?_
                                  rintro e w11 ⟨rfl, hb⟩
                                  have HK11 := Lib.hid (HK10.out.on hb)
                                  clear hb HK10
                                  go_wp2_with fail
                                  refine (must_no HK11.out.p HG.out Hu.out).mono ?_
                                  rintro e w12 ⟨rfl, hb⟩
                                  have hk := HK11.out.on hb
                                  exact door_bad (m + 1) w12 (by have := HS.out; omega) hk.p (fun w' h1 h2 => Got.bad HV.out HAt.out h1 (hk.f.trans h2))
                                exact AllReady.nil
                              exact AllReady.nil
                            exact AllReady.nil
                          refine AllReady.cons rfl (fun K hK => ?_) ?_
                          · go_simp
                            refine hK _ _ ?_
                            clear hK K
                            refine wpAny_ready (rs := [1]) (by kernel_rfl) (by simp) ?_
                            refine AllReady.cons rfl (fun K hK => ?_) ?_
                            · go_simp
                              refine hK _ _ ?_
                              clear hK K
                              refine wpAny_ready (rs := [6]) (by kernel_rfl) (by simp) ?_
                              refine AllReady.cons rfl (fun K hK => ?_) ?_
                              · go_simp
                                refine hK _ _ ?_
                                clear hK K
                                refine wpAny_ready (rs := [7]) (by kernel_rfl) (by simp) ?_
                                refine AllReady.cons rfl (fun K hK => ?_) ?_
                                · go_simp
                                  refine hK _ _ ?_
                                  clear hK K
                                  refine wpAny_done (by kernel_rfl) ?_ _
                                  have HK10 := Lib.hid (HK9.out.put (.cells #[.string op, .slice lA ln lc, .slice kA kn kc, .string qop, .slice qA ql.length qc, .slice qB qk.length qe] 46) (.string y.s) (.slice none 0 0) (.slice (some ⟨w9.heap.size, 0, none⟩) 2 2))
                                  obtain ⟨w10, hw10⟩ : ∃ W, ((((w9.alloc (.cells #[.string op, .slice lA ln lc, .slice kA kn kc, .string qop, .slice qA ql.length qc, .slice qB qk.length qe] 46)).setCell ⟨wp.heap.size, 0, none⟩ (.string y.s)).setCell ⟨wp.heap.size, 1, none⟩ (.slice none 0 0)).setCell ⟨wp.heap.size, 2, none⟩ (.slice (some ⟨w9.heap.size, 0, none⟩) 2 2)) = W := ⟨_, rfl⟩
                                  rw [hw10] at HK10 ⊢
                                  have HO10 := Lib.hid (HK9.out.two (W1 := w8) HRd.out HQv.out.1 HK8.out.o.lt y.s (.string y.s) (.slice none 0 0) (.slice (some ⟨w9.heap.size, 0, none⟩) 2 2))
                                  rw [hw10] at HO10
                                  go_wp2_with fail
                                  refine (take_no HK10.out.p HG.out Hu.out Hs41.out).mono ?_
                                  rintro e w11 ⟨rfl, hb⟩
                                  have HK11 := Lib.hid (HK10.out.on hb)
                                  clear hb HK10
                                  go_wp2_with fail
                                  refine (must_no HK11.out.p HG.out Hu.out).mono ?_
                                  rintro e w12 ⟨rfl, hb⟩
                                  have hk := HK11.out.on hb
                                  exact door_bad (m + 1) w12 (by have := HS.out; omega) hk.p (fun w' h1 h2 => Got.bad HV.out HAt.out h1 (hk.f.trans h2))
                                exact AllReady.nil
                              exact AllReady.nil
                            exact AllReady.nil
                          exact AllReady.nil
                        exact AllReady.nil
                      exact AllReady.nil
                    · have Hs41 := Lib.hid hs41
                      obtain ⟨i5, hi5⟩ : ∃ q, s2.i + 1 = q := ⟨_, rfl⟩
                      have Hi5 := Lib.hid hi5
                      have HV : Hid (r = pJoin (gx ws) kk (.mk y.s [] [out, .mk qop ql qk]) ⟨i5, s2.n⟩) := Lib.hid (Hr.out.eq.trans ((pJoin_go (s := ⟨i1, n1⟩) hg46 hjg hg40 hneg hgpa (by rw [h34]; exact hq) (by rw [gx_of hu]; exact hs41)).trans (by rw [hss, hi5])))
                      clear ho hrd hx1 hs1 hd hg46 hy hy' hgy hj h HAy HAz HAv hi2 hi3 hi4 hjg hgz hz hss hneg hs40 hg40 hi4l hgv hv hpa hgpa hq h34 hs41 hu hs2 hi5
                      go_wp2_with fail
                      refine (take_yes Hr.out.p HG.out Hx1.out Hs1.out).mono ?_
                      rintro e w1 ⟨rfl, hp, ho⟩
                      rw [Hi2.out] at hp
                      have HP1 := Lib.hid (And.intro hp ho)
                      clear hp ho
                      go_wp2_with fail
                      refine (word_any HP1.out.1 HG.out Hy.out).mono ?_
                      rintro e w2 ⟨rfl, hb⟩
                      obtain ⟨w3, hw3⟩ : ∃ w3, w2.alloc (.cells #[.int .i64 y.k, .string y.s, .int .i64 y.n, .float .f64 y.f, .int .i64 (y.at_ : Nat)] 56) = w3 := ⟨_, rfl⟩
                      have hb3 : Below w2.heap.size w2 w3 := by rw [← hw3]; exact (Below.refl _ _).alloc (Nat.le_refl _) _
                      have ht3 : Blk w3 w2.heap.size 56 #[.int .i64 y.k, .string y.s, .int .i64 y.n, .float .f64 y.f, .int .i64 (y.at_ : Nat)] := by rw [← hw3]; exact Blk.new _ _ _
                      have HK3 := Lib.hid (PK.start (dd := d) Hr.out Ho.out HP1.out.1 HP1.out.2 hb hb3 ht3 Hpl.out)
                      obtain ⟨t30, t31, t32, t33, t34⟩ := HK3.out.word
                      clear hb hb3 ht3 HP1
                      go_wp2_with fail
                      refine (isName_any y ⟨#[97, 110, 100]⟩ _).mono ?_
                      rintro e w4 ⟨rfl, hb⟩
                      have HK4 := Lib.hid (HK3.out.on hb)
                      obtain ⟨t40, t41, t42, t43, t44⟩ := HK4.out.word
                      clear hb HK3
                      rw [HA.out]
                      go_wp2_with fail
                      refine (must_yes _).mono ?_
                      rintro e w' ⟨rfl, rfl⟩
                      go_wp2_with fail
                      refine (down_any HK4.out.p HG.out Hy.out (by have := HS.out; omega)).mono ?_
                      rintro e w5 (⟨h1, -⟩ | ⟨-, rfl, hp, ho, -⟩)
                      · have := HS.out; omega
                      have HK5 := Lib.hid (HK4.out.go hp ho)
                      obtain ⟨-, c5, -, -, z5, -, -, -⟩ := HK5.out.p.cells
                      clear hp ho HK4
                      go_wp2_with fail
                      have HK6 := Lib.hid (HK5.out.go (HK5.out.p.next Hi2l.out) (fr_put (Only.refl _ _) 1 _))
                      clear HK5 c5 z5
                      obtain ⟨w6, hw6⟩ : ∃ W, w5.setCell ⟨pb, 1, none⟩ (.int .i64 ((i2 : Int) + 1)) = W := ⟨_, rfl⟩
                      rw [hw6] at HK6 ⊢
                      rw [Hi3.out] at HK6
                      refine (take_yes HK6.out.p HG.out Hz.out Hs40.out).mono ?_
                      rintro e w7 ⟨rfl, hp, ho⟩
                      rw [Hi4.out] at hp
                      have HK7 := Lib.hid (HK6.out.go hp ho)
                      clear hp ho HK6
                      obtain ⟨t70, t71, t72, t73, t74⟩ := HK7.out.word
                      obtain ⟨o70, o71, o72, p70, p71, p72⟩ := HK7.out.out3
                      go_wp2_with fail
                      refine (must_yes _).mono ?_
                      rintro e w' ⟨rfl, rfl⟩
                      go_wp2_with fail
                      refine (predAhead_any HK7.out.p HG.out Hv.out).mono ?_
                      rintro e w8 ⟨rfl, hb⟩
                      have HK8 := Lib.hid (HK7.out.on hb)
                      obtain ⟨t80, t81, t82, t83, t84⟩ := HK8.out.word
                      obtain ⟨o80, o81, o82, p80, p81, p82⟩ := HK8.out.out3
                      clear hb
                      rw [Hpa.out]
                      go_wp2_with fail
                      refine (must_yes _).mono ?_
                      rintro e w' ⟨rfl, rfl⟩
                      go_wp2_with fail
                      refine wp_region_any (by kernel_rfl) ?_
                      try (change wpAny _ _ _ _ _ _ _ (World.drew _))
                      refine wpAny_take (i := 0) (v := .pointer (some ⟨w2.heap.size, 1, none⟩)) rfl (by kernel_rfl) (by kernel_rfl) (by kernel_rfl) (fun c a W h => leaves_tmps (res_put 47 _ a (by decide)) _ _ _ h) (Or.inl ⟨by rfl, ?_⟩) ?_
                      · intro wq
                        go_simp
                      refine wpAny_take (i := 3) (v := .pointer (some ⟨pb, 0, none⟩)) rfl (by kernel_rfl) (by kernel_rfl) (by kernel_rfl) (fun c a W h => leaves_tmps (res_put 50 _ a (by decide)) _ _ _ h) (Or.inl ⟨by rfl, ?_⟩) ?_
                      · intro wq
                        go_simp
                      refine wpAny_ready (rs := [1, 2, 4]) (by kernel_rfl) (by simp) ?_
                      refine AllReady.cons rfl (fun K hK => ?_) ?_
                      · go_simp
                        refine hK _ _ ?_
                        clear hK K
                        refine wpAny_ready (rs := [2, 4]) (by kernel_rfl) (by simp) ?_
                        refine AllReady.cons rfl (fun K hK => ?_) ?_
                        · go_simp
                          refine hK _ _ ?_
                          clear hK K
                          refine wpAny_ready (rs := [4]) (by kernel_rfl) (by simp) ?_
                          refine AllReady.cons rfl (fun K hK => ?_) ?_
                          · go_simp
                            refine (HPd.out _ (HK8.out.p.on (drewN_below _ 1))).mono ?_
                            rintro e w9 hg
                            rw [HQ.out] at hg
                            obtain ⟨vq, rfl, hvq, hpq, hoq⟩ := hg
                            obtain ⟨qA, qc, qB, qe, rfl⟩ := hvq.shape
                            have hdq : FR pb w8 w9 := (FR.of (drewN_below _ 1)).trans hoq
                            have HK9 := Lib.hid (HK8.out.go hpq hdq)
                            obtain ⟨t90, t91, t92, t93, t94⟩ := HK9.out.word
                            obtain ⟨o90, o91, o92, p90, p91, p92⟩ := HK9.out.out3
                            obtain ⟨ta0, ta1, ta2, ta3, ta4⟩ := (HK9.out.on ((Below.refl _ _).alloc (Nat.le_refl _) (.cells #[.string op, .slice lA ln lc, .slice kA kn kc, .string qop, .slice qA ql.length qc, .slice qB qk.length qe] 46))).word
                            obtain ⟨oa0, oa1, oa2, pa0, pa1, pa2⟩ := (HK9.out.on ((Below.refl _ _).alloc (Nat.le_refl _) (.cells #[.string op, .slice lA ln lc, .slice kA kn kc, .string qop, .slice qA ql.length qc, .slice qB qk.length qe] 46))).out3
                            have HQv := Lib.hid (And.intro hvq hdq)
                            clear hvq hpq hoq hdq
                            refine hK _ _ ?_
                            clear hK K
                            refine wpAny_ready (rs := [5]) (by kernel_rfl) (by simp) ?_
                            refine AllReady.cons rfl (fun K hK => ?_) ?_
                            · go_simp
                              refine hK _ _ ?_
                              clear hK K
                              refine wpAny_ready (rs := [6]) (by kernel_rfl) (by simp) ?_
                              refine AllReady.cons rfl (fun K hK => ?_) ?_
                              · go_simp
                                refine hK _ _ ?_
                                clear hK K
                                refine wpAny_ready (rs := [7]) (by kernel_rfl) (by simp) ?_
                                refine AllReady.cons rfl (fun K hK => ?_) ?_
                                · go_simp
                                  refine hK _ _ ?_
                                  clear hK K
                                  refine wpAny_done (by kernel_rfl) ?_ _
                                  have HK10 := Lib.hid (HK9.out.put (.cells #[.string op, .slice lA ln lc, .slice kA kn kc, .string qop, .slice qA ql.length qc, .slice qB qk.length qe] 46) (.string y.s) (.slice none 0 0) (.slice (some ⟨w9.heap.size, 0, none⟩) 2 2))
                                  obtain ⟨w10, hw10⟩ : ∃ W, ((((w9.alloc (.cells #[.string op, .slice lA ln lc, .slice kA kn kc, .string qop, .slice qA ql.length qc, .slice qB qk.length qe] 46)).setCell ⟨wp.heap.size, 0, none⟩ (.string y.s)).setCell ⟨wp.heap.size, 1, none⟩ (.slice none 0 0)).setCell ⟨wp.heap.size, 2, none⟩ (.slice (some ⟨w9.heap.size, 0, none⟩) 2 2)) = W := ⟨_, rfl⟩
                                  rw [hw10] at HK10 ⊢
                                  have HO10 := Lib.hid (HK9.out.two (W1 := w8) HRd.out HQv.out.1 HK8.out.o.lt y.s (.string y.s) (.slice none 0 0) (.slice (some ⟨w9.heap.size, 0, none⟩) 2 2))
                                  rw [hw10] at HO10
                                  go_wp2_with fail
                                  refine (take_yes HK10.out.p HG.out Hu.out Hs41.out).mono ?_
                                  rintro e w11 ⟨rfl, hp, ho⟩
                                  rw [Hi5.out] at hp
                                  have HK11 := Lib.hid (HK10.out.go hp ho)
                                  have HO11 := Lib.hid (rd_far HO10.out ho Hpl.out.1)
                                  clear hp ho
                                  go_wp2_with fail
                                  refine (must_yes _).mono ?_
                                  rintro e w' ⟨rfl, rfl⟩
                                  go_wp2_with fail
                                  refine ⟨⟨m + 1, .mk y.s [] [out, .mk qop ql qk], kk, i5, s2.n, ?_⟩, ?_⟩
                                  · (repeat apply Exists.intro)
                                    refine ⟨?_, rfl⟩
                                    exact Lib.hid (PK.back HK11.out (HV.out) (by have := HS.out; omega) (by omega) HO11.out)
                                  · show 13 - (List.replicate (m + 1) (upD pb)).length < 13 - (List.replicate m (upD pb)).length
                                    have := HS.out
                                    rw [List.length_replicate, List.length_replicate]
                                    omega
                                exact AllReady.nil
                              exact AllReady.nil
                            exact AllReady.nil
                          exact AllReady.nil
                        refine AllReady.cons rfl (fun K hK => ?_) ?_
                        · go_simp
                          refine (HPd.out _ (HK8.out.p.on (drewN_below _ 1))).mono ?_
                          rintro e w9 hg
                          rw [HQ.out] at hg
                          obtain ⟨vq, rfl, hvq, hpq, hoq⟩ := hg
                          obtain ⟨qA, qc, qB, qe, rfl⟩ := hvq.shape
                          have hdq : FR pb w8 w9 := (FR.of (drewN_below _ 1)).trans hoq
                          have HK9 := Lib.hid (HK8.out.go hpq hdq)
                          obtain ⟨t90, t91, t92, t93, t94⟩ := HK9.out.word
                          obtain ⟨o90, o91, o92, p90, p91, p92⟩ := HK9.out.out3
                          obtain ⟨ta0, ta1, ta2, ta3, ta4⟩ := (HK9.out.on ((Below.refl _ _).alloc (Nat.le_refl _) (.cells #[.string op, .slice lA ln lc, .slice kA kn kc, .string qop, .slice qA ql.length qc, .slice qB qk.length qe] 46))).word
                          obtain ⟨oa0, oa1, oa2, pa0, pa1, pa2⟩ := (HK9.out.on ((Below.refl _ _).alloc (Nat.le_refl _) (.cells #[.string op, .slice lA ln lc, .slice kA kn kc, .string qop, .slice qA ql.length qc, .slice qB qk.length qe] 46))).out3
                          have HQv := Lib.hid (And.intro hvq hdq)
                          clear hvq hpq hoq hdq
                          refine hK _ _ ?_
                          clear hK K
                          refine wpAny_ready (rs := [2]) (by kernel_rfl) (by simp) ?_
                          refine AllReady.cons rfl (fun K hK => ?_) ?_
                          · go_simp
                            refine hK _ _ ?_
                            clear hK K
                            refine wpAny_ready (rs := [5]) (by kernel_rfl) (by simp) ?_
                            refine AllReady.cons rfl (fun K hK => ?_) ?_
                            · go_simp
                              refine hK _ _ ?_
                              clear hK K
                              refine wpAny_ready (rs := [6]) (by kernel_rfl) (by simp) ?_
                              refine AllReady.cons rfl (fun K hK => ?_) ?_
                              · go_simp
                                refine hK _ _ ?_
                                clear hK K
                                refine wpAny_ready (rs := [7]) (by kernel_rfl) (by simp) ?_
                                refine AllReady.cons rfl (fun K hK => ?_) ?_
                                · go_simp
                                  refine hK _ _ ?_
                                  clear hK K
                                  refine wpAny_done (by kernel_rfl) ?_ _
                                  have HK10 := Lib.hid (HK9.out.put (.cells #[.string op, .slice lA ln lc, .slice kA kn kc, .string qop, .slice qA ql.length qc, .slice qB qk.length qe] 46) (.string y.s) (.slice none 0 0) (.slice (some ⟨w9.heap.size, 0, none⟩) 2 2))
                                  obtain ⟨w10, hw10⟩ : ∃ W, ((((w9.alloc (.cells #[.string op, .slice lA ln lc, .slice kA kn kc, .string qop, .slice qA ql.length qc, .slice qB qk.length qe] 46)).setCell ⟨wp.heap.size, 0, none⟩ (.string y.s)).setCell ⟨wp.heap.size, 1, none⟩ (.slice none 0 0)).setCell ⟨wp.heap.size, 2, none⟩ (.slice (some ⟨w9.heap.size, 0, none⟩) 2 2)) = W := ⟨_, rfl⟩
                                  rw [hw10] at HK10 ⊢
                                  have HO10 := Lib.hid (HK9.out.two (W1 := w8) HRd.out HQv.out.1 HK8.out.o.lt y.s (.string y.s) (.slice none 0 0) (.slice (some ⟨w9.heap.size, 0, none⟩) 2 2))
                                  rw [hw10] at HO10
                                  go_wp2_with fail
                                  refine (take_yes HK10.out.p HG.out Hu.out Hs41.out).mono ?_
                                  rintro e w11 ⟨rfl, hp, ho⟩
                                  rw [Hi5.out] at hp
                                  have HK11 := Lib.hid (HK10.out.go hp ho)
                                  have HO11 := Lib.hid (rd_far HO10.out ho Hpl.out.1)
                                  clear hp ho
                                  go_wp2_with fail
                                  refine (must_yes _).mono ?_
                                  rintro e w' ⟨rfl, rfl⟩
                                  go_wp2_with fail
                                  refine ⟨⟨m + 1, .mk y.s [] [out, .mk qop ql qk], kk, i5, s2.n, ?_⟩, ?_⟩
                                  · (repeat apply Exists.intro)
                                    refine ⟨?_, rfl⟩
                                    exact Lib.hid (PK.back HK11.out (HV.out) (by have := HS.out; omega) (by omega) HO11.out)
                                  · show 13 - (List.replicate (m + 1) (upD pb)).length < 13 - (List.replicate m (upD pb)).length
                                    have := HS.out
                                    rw [List.length_replicate, List.length_replicate]
                                    omega
                                exact AllReady.nil
                              exact AllReady.nil
                            exact AllReady.nil
                          exact AllReady.nil
                        exact AllReady.nil
                      refine AllReady.cons rfl (fun K hK => ?_) ?_
                      · go_simp
                        refine hK _ _ ?_
                        clear hK K
                        refine wpAny_ready (rs := [1, 4]) (by kernel_rfl) (by simp) ?_
                        refine AllReady.cons rfl (fun K hK => ?_) ?_
                        · go_simp
                          refine hK _ _ ?_
                          clear hK K
                          refine wpAny_ready (rs := [4]) (by kernel_rfl) (by simp) ?_
                          refine AllReady.cons rfl (fun K hK => ?_) ?_
                          · go_simp
                            refine (HPd.out _ (HK8.out.p.on (drewN_below _ 1))).mono ?_
                            rintro e w9 hg
                            rw [HQ.out] at hg
                            obtain ⟨vq, rfl, hvq, hpq, hoq⟩ := hg
                            obtain ⟨qA, qc, qB, qe, rfl⟩ := hvq.shape
                            have hdq : FR pb w8 w9 := (FR.of (drewN_below _ 1)).trans hoq
                            have HK9 := Lib.hid (HK8.out.go hpq hdq)
                            obtain ⟨t90, t91, t92, t93, t94⟩ := HK9.out.word
                            obtain ⟨o90, o91, o92, p90, p91, p92⟩ := HK9.out.out3
                            obtain ⟨ta0, ta1, ta2, ta3, ta4⟩ := (HK9.out.on ((Below.refl _ _).alloc (Nat.le_refl _) (.cells #[.string op, .slice lA ln lc, .slice kA kn kc, .string qop, .slice qA ql.length qc, .slice qB qk.length qe] 46))).word
                            obtain ⟨oa0, oa1, oa2, pa0, pa1, pa2⟩ := (HK9.out.on ((Below.refl _ _).alloc (Nat.le_refl _) (.cells #[.string op, .slice lA ln lc, .slice kA kn kc, .string qop, .slice qA ql.length qc, .slice qB qk.length qe] 46))).out3
                            have HQv := Lib.hid (And.intro hvq hdq)
                            clear hvq hpq hoq hdq
                            refine hK _ _ ?_
                            clear hK K
                            refine wpAny_ready (rs := [5]) (by kernel_rfl) (by simp) ?_
                            refine AllReady.cons rfl (fun K hK => ?_) ?_
                            · go_simp
                              refine hK _ _ ?_
                              clear hK K
                              refine wpAny_ready (rs := [6]) (by kernel_rfl) (by simp) ?_
                              refine AllReady.cons rfl (fun K hK => ?_) ?_
                              · go_simp
                                refine hK _ _ ?_
                                clear hK K
                                refine wpAny_ready (rs := [7]) (by kernel_rfl) (by simp) ?_
                                refine AllReady.cons rfl (fun K hK => ?_) ?_
                                · go_simp
                                  refine hK _ _ ?_
                                  clear hK K
                                  refine wpAny_done (by kernel_rfl) ?_ _
                                  have HK10 := Lib.hid (HK9.out.put (.cells #[.string op, .slice lA ln lc, .slice kA kn kc, .string qop, .slice qA ql.length qc, .slice qB qk.length qe] 46) (.string y.s) (.slice none 0 0) (.slice (some ⟨w9.heap.size, 0, none⟩) 2 2))
                                  obtain ⟨w10, hw10⟩ : ∃ W, ((((w9.alloc (.cells #[.string op, .slice lA ln lc, .slice kA kn kc, .string qop, .slice qA ql.length qc, .slice qB qk.length qe] 46)).setCell ⟨wp.heap.size, 0, none⟩ (.string y.s)).setCell ⟨wp.heap.size, 1, none⟩ (.slice none 0 0)).setCell ⟨wp.heap.size, 2, none⟩ (.slice (some ⟨w9.heap.size, 0, none⟩) 2 2)) = W := ⟨_, rfl⟩
                                  rw [hw10] at HK10 ⊢
                                  have HO10 := Lib.hid (HK9.out.two (W1 := w8) HRd.out HQv.out.1 HK8.out.o.lt y.s (.string y.s) (.slice none 0 0) (.slice (some ⟨w9.heap.size, 0, none⟩) 2 2))
                                  rw [hw10] at HO10
                                  go_wp2_with fail
                                  refine (take_yes HK10.out.p HG.out Hu.out Hs41.out).mono ?_
                                  rintro e w11 ⟨rfl, hp, ho⟩
                                  rw [Hi5.out] at hp
                                  have HK11 := Lib.hid (HK10.out.go hp ho)
                                  have HO11 := Lib.hid (rd_far HO10.out ho Hpl.out.1)
                                  clear hp ho
                                  go_wp2_with fail
                                  refine (must_yes _).mono ?_
                                  rintro e w' ⟨rfl, rfl⟩
                                  go_wp2_with fail
                                  refine ⟨⟨m + 1, .mk y.s [] [out, .mk qop ql qk], kk, i5, s2.n, ?_⟩, ?_⟩
                                  · (repeat apply Exists.intro)
                                    refine ⟨?_, rfl⟩
                                    exact Lib.hid (PK.back HK11.out (HV.out) (by have := HS.out; omega) (by omega) HO11.out)
                                  · show 13 - (List.replicate (m + 1) (upD pb)).length < 13 - (List.replicate m (upD pb)).length
                                    have := HS.out
                                    rw [List.length_replicate, List.length_replicate]
                                    omega
                                exact AllReady.nil
                              exact AllReady.nil
                            exact AllReady.nil
                          exact AllReady.nil
                        refine AllReady.cons rfl (fun K hK => ?_) ?_
                        · go_simp
                          refine (HPd.out _ (HK8.out.p.on (drewN_below _ 1))).mono ?_
                          rintro e w9 hg
                          rw [HQ.out] at hg
                          obtain ⟨vq, rfl, hvq, hpq, hoq⟩ := hg
                          obtain ⟨qA, qc, qB, qe, rfl⟩ := hvq.shape
                          have hdq : FR pb w8 w9 := (FR.of (drewN_below _ 1)).trans hoq
                          have HK9 := Lib.hid (HK8.out.go hpq hdq)
                          obtain ⟨t90, t91, t92, t93, t94⟩ := HK9.out.word
                          obtain ⟨o90, o91, o92, p90, p91, p92⟩ := HK9.out.out3
                          obtain ⟨ta0, ta1, ta2, ta3, ta4⟩ := (HK9.out.on ((Below.refl _ _).alloc (Nat.le_refl _) (.cells #[.string op, .slice lA ln lc, .slice kA kn kc, .string qop, .slice qA ql.length qc, .slice qB qk.length qe] 46))).word
                          obtain ⟨oa0, oa1, oa2, pa0, pa1, pa2⟩ := (HK9.out.on ((Below.refl _ _).alloc (Nat.le_refl _) (.cells #[.string op, .slice lA ln lc, .slice kA kn kc, .string qop, .slice qA ql.length qc, .slice qB qk.length qe] 46))).out3
                          have HQv := Lib.hid (And.intro hvq hdq)
                          clear hvq hpq hoq hdq
                          refine hK _ _ ?_
                          clear hK K
                          refine wpAny_ready (rs := [1, 5]) (by kernel_rfl) (by simp) ?_
                          refine AllReady.cons rfl (fun K hK => ?_) ?_
                          · go_simp
                            refine hK _ _ ?_
                            clear hK K
                            refine wpAny_ready (rs := [5]) (by kernel_rfl) (by simp) ?_
                            refine AllReady.cons rfl (fun K hK => ?_) ?_
                            · go_simp
                              refine hK _ _ ?_
                              clear hK K
                              refine wpAny_ready (rs := [6]) (by kernel_rfl) (by simp) ?_
                              refine AllReady.cons rfl (fun K hK => ?_) ?_
                              · go_simp
                                refine hK _ _ ?_
                                clear hK K
                                refine wpAny_ready (rs := [7]) (by kernel_rfl) (by simp) ?_
                                refine AllReady.cons rfl (fun K hK => ?_) ?_
                                · go_simp
                                  refine hK _ _ ?_
                                  clear hK K
                                  refine wpAny_done (by kernel_rfl) ?_ _
                                  have HK10 := Lib.hid (HK9.out.put (.cells #[.string op, .slice lA ln lc, .slice kA kn kc, .string qop, .slice qA ql.length qc, .slice qB qk.length qe] 46) (.string y.s) (.slice none 0 0) (.slice (some ⟨w9.heap.size, 0, none⟩) 2 2))
                                  obtain ⟨w10, hw10⟩ : ∃ W, ((((w9.alloc (.cells #[.string op, .slice lA ln lc, .slice kA kn kc, .string qop, .slice qA ql.length qc, .slice qB qk.length qe] 46)).setCell ⟨wp.heap.size, 0, none⟩ (.string y.s)).setCell ⟨wp.heap.size, 1, none⟩ (.slice none 0 0)).setCell ⟨wp.heap.size, 2, none⟩ (.slice (some ⟨w9.heap.size, 0, none⟩) 2 2)) = W := ⟨_, rfl⟩
                                  rw [hw10] at HK10 ⊢
                                  have HO10 := Lib.hid (HK9.out.two (W1 := w8) HRd.out HQv.out.1 HK8.out.o.lt y.s (.string y.s) (.slice none 0 0) (.slice (some ⟨w9.heap.size, 0, none⟩) 2 2))
                                  rw [hw10] at HO10
                                  go_wp2_with fail
                                  refine (take_yes HK10.out.p HG.out Hu.out Hs41.out).mono ?_
                                  rintro e w11 ⟨rfl, hp, ho⟩
                                  rw [Hi5.out] at hp
                                  have HK11 := Lib.hid (HK10.out.go hp ho)
                                  have HO11 := Lib.hid (rd_far HO10.out ho Hpl.out.1)
                                  clear hp ho
                                  go_wp2_with fail
                                  refine (must_yes _).mono ?_
                                  rintro e w' ⟨rfl, rfl⟩
                                  go_wp2_with fail
                                  refine ⟨⟨m + 1, .mk y.s [] [out, .mk qop ql qk], kk, i5, s2.n, ?_⟩, ?_⟩
                                  · (repeat apply Exists.intro)
                                    refine ⟨?_, rfl⟩
                                    exact Lib.hid (PK.back HK11.out (HV.out) (by have := HS.out; omega) (by omega) HO11.out)
                                  · show 13 - (List.replicate (m + 1) (upD pb)).length < 13 - (List.replicate m (upD pb)).length
                                    have := HS.out
                                    rw [List.length_replicate, List.length_replicate]
                                    omega
                                exact AllReady.nil
                              exact AllReady.nil
                            exact AllReady.nil
                          refine AllReady.cons rfl (fun K hK => ?_) ?_
                          · go_simp
                            refine hK _ _ ?_
                            clear hK K
                            refine wpAny_ready (rs := [1]) (by kernel_rfl) (by simp) ?_
                            refine AllReady.cons rfl (fun K hK => ?_) ?_
                            · go_simp
                              refine hK _ _ ?_
                              clear hK K
                              refine wpAny_ready (rs := [6]) (by kernel_rfl) (by simp) ?_
                              refine AllReady.cons rfl (fun K hK => ?_) ?_
                              · go_simp
                                refine hK _ _ ?_
                                clear hK K
                                refine wpAny_ready (rs := [7]) (by kernel_rfl) (by simp) ?_
                                refine AllReady.cons rfl (fun K hK => ?_) ?_
                                · go_simp
                                  refine hK _ _ ?_
                                  clear hK K
                                  refine wpAny_done (by kernel_rfl) ?_ _
                                  have HK10 := Lib.hid (HK9.out.put (.cells #[.string op, .slice lA ln lc, .slice kA kn kc, .string qop, .slice qA ql.length qc, .slice qB qk.length qe] 46) (.string y.s) (.slice none 0 0) (.slice (some ⟨w9.heap.size, 0, none⟩) 2 2))
                                  obtain ⟨w10, hw10⟩ : ∃ W, ((((w9.alloc (.cells #[.string op, .slice lA ln lc, .slice kA kn kc, .string qop, .slice qA ql.length qc, .slice qB qk.length qe] 46)).setCell ⟨wp.heap.size, 0, none⟩ (.string y.s)).setCell ⟨wp.heap.size, 1, none⟩ (.slice none 0 0)).setCell ⟨wp.heap.size, 2, none⟩ (.slice (some ⟨w9.heap.size, 0, none⟩) 2 2)) = W := ⟨_, rfl⟩
                                  rw [hw10] at HK10 ⊢
                                  have HO10 := Lib.hid (HK9.out.two (W1 := w8) HRd.out HQv.out.1 HK8.out.o.lt y.s (.string y.s) (.slice none 0 0) (.slice (some ⟨w9.heap.size, 0, none⟩) 2 2))
                                  rw [hw10] at HO10
                                  go_wp2_with fail
                                  refine (take_yes HK10.out.p HG.out Hu.out Hs41.out).mono ?_
                                  rintro e w11 ⟨rfl, hp, ho⟩
                                  rw [Hi5.out] at hp
                                  have HK11 := Lib.hid (HK10.out.go hp ho)
                                  have HO11 := Lib.hid (rd_far HO10.out ho Hpl.out.1)
                                  clear hp ho
                                  go_wp2_with fail
                                  refine (must_yes _).mono ?_
                                  rintro e w' ⟨rfl, rfl⟩
                                  go_wp2_with fail
                                  refine ⟨⟨m + 1, .mk y.s [] [out, .mk qop ql qk], kk, i5, s2.n, ?_⟩, ?_⟩
                                  · (repeat apply Exists.intro)
                                    refine ⟨?_, rfl⟩
                                    exact Lib.hid (PK.back HK11.out (HV.out) (by have := HS.out; omega) (by omega) HO11.out)
                                  · show 13 - (List.replicate (m + 1) (upD pb)).length < 13 - (List.replicate m (upD pb)).length
                                    have := HS.out
                                    rw [List.length_replicate, List.length_replicate]
                                    omega
                                exact AllReady.nil
                              exact AllReady.nil
                            exact AllReady.nil
                          exact AllReady.nil
                        exact AllReady.nil
                      refine AllReady.cons rfl (fun K hK => ?_) ?_
                      · go_simp
                        refine (HPd.out _ (HK8.out.p.on (drewN_below _ 1))).mono ?_
                        rintro e w9 hg
                        rw [HQ.out] at hg
                        obtain ⟨vq, rfl, hvq, hpq, hoq⟩ := hg
                        obtain ⟨qA, qc, qB, qe, rfl⟩ := hvq.shape
                        have hdq : FR pb w8 w9 := (FR.of (drewN_below _ 1)).trans hoq
                        have HK9 := Lib.hid (HK8.out.go hpq hdq)
                        obtain ⟨t90, t91, t92, t93, t94⟩ := HK9.out.word
                        obtain ⟨o90, o91, o92, p90, p91, p92⟩ := HK9.out.out3
                        obtain ⟨ta0, ta1, ta2, ta3, ta4⟩ := (HK9.out.on ((Below.refl _ _).alloc (Nat.le_refl _) (.cells #[.string op, .slice lA ln lc, .slice kA kn kc, .string qop, .slice qA ql.length qc, .slice qB qk.length qe] 46))).word
                        obtain ⟨oa0, oa1, oa2, pa0, pa1, pa2⟩ := (HK9.out.on ((Below.refl _ _).alloc (Nat.le_refl _) (.cells #[.string op, .slice lA ln lc, .slice kA kn kc, .string qop, .slice qA ql.length qc, .slice qB qk.length qe] 46))).out3
                        have HQv := Lib.hid (And.intro hvq hdq)
                        clear hvq hpq hoq hdq
                        refine hK _ _ ?_
                        clear hK K
                        refine wpAny_ready (rs := [1, 2]) (by kernel_rfl) (by simp) ?_
                        refine AllReady.cons rfl (fun K hK => ?_) ?_
                        · go_simp
                          refine hK _ _ ?_
                          clear hK K
                          refine wpAny_ready (rs := [2]) (by kernel_rfl) (by simp) ?_
                          refine AllReady.cons rfl (fun K hK => ?_) ?_
                          · go_simp
                            refine hK _ _ ?_
                            clear hK K
                            refine wpAny_ready (rs := [5]) (by kernel_rfl) (by simp) ?_
                            refine AllReady.cons rfl (fun K hK => ?_) ?_
                            · go_simp
                              refine hK _ _ ?_
                              clear hK K
                              refine wpAny_ready (rs := [6]) (by kernel_rfl) (by simp) ?_
                              refine AllReady.cons rfl (fun K hK => ?_) ?_
                              · go_simp
                                refine hK _ _ ?_
                                clear hK K
                                refine wpAny_ready (rs := [7]) (by kernel_rfl) (by simp) ?_
                                refine AllReady.cons rfl (fun K hK => ?_) ?_
                                · go_simp
                                  refine hK _ _ ?_
                                  clear hK K
                                  refine wpAny_done (by kernel_rfl) ?_ _
                                  have HK10 := Lib.hid (HK9.out.put (.cells #[.string op, .slice lA ln lc, .slice kA kn kc, .string qop, .slice qA ql.length qc, .slice qB qk.length qe] 46) (.string y.s) (.slice none 0 0) (.slice (some ⟨w9.heap.size, 0, none⟩) 2 2))
                                  obtain ⟨w10, hw10⟩ : ∃ W, ((((w9.alloc (.cells #[.string op, .slice lA ln lc, .slice kA kn kc, .string qop, .slice qA ql.length qc, .slice qB qk.length qe] 46)).setCell ⟨wp.heap.size, 0, none⟩ (.string y.s)).setCell ⟨wp.heap.size, 1, none⟩ (.slice none 0 0)).setCell ⟨wp.heap.size, 2, none⟩ (.slice (some ⟨w9.heap.size, 0, none⟩) 2 2)) = W := ⟨_, rfl⟩
                                  rw [hw10] at HK10 ⊢
                                  have HO10 := Lib.hid (HK9.out.two (W1 := w8) HRd.out HQv.out.1 HK8.out.o.lt y.s (.string y.s) (.slice none 0 0) (.slice (some ⟨w9.heap.size, 0, none⟩) 2 2))
                                  rw [hw10] at HO10
                                  go_wp2_with fail
                                  refine (take_yes HK10.out.p HG.out Hu.out Hs41.out).mono ?_
                                  rintro e w11 ⟨rfl, hp, ho⟩
                                  rw [Hi5.out] at hp
                                  have HK11 := Lib.hid (HK10.out.go hp ho)
                                  have HO11 := Lib.hid (rd_far HO10.out ho Hpl.out.1)
                                  clear hp ho
                                  go_wp2_with fail
                                  refine (must_yes _).mono ?_
                                  rintro e w' ⟨rfl, rfl⟩
                                  go_wp2_with fail
                                  refine ⟨⟨m + 1, .mk y.s [] [out, .mk qop ql qk], kk, i5, s2.n, ?_⟩, ?_⟩
                                  · (repeat apply Exists.intro)
                                    refine ⟨?_, rfl⟩
                                    exact Lib.hid (PK.back HK11.out (HV.out) (by have := HS.out; omega) (by omega) HO11.out)
                                  · show 13 - (List.replicate (m + 1) (upD pb)).length < 13 - (List.replicate m (upD pb)).length
                                    have := HS.out
                                    rw [List.length_replicate, List.length_replicate]
                                    omega
                                exact AllReady.nil
                              exact AllReady.nil
                            exact AllReady.nil
                          exact AllReady.nil
                        refine AllReady.cons rfl (fun K hK => ?_) ?_
                        · go_simp
                          refine hK _ _ ?_
                          clear hK K
                          refine wpAny_ready (rs := [1, 5]) (by kernel_rfl) (by simp) ?_
                          refine AllReady.cons rfl (fun K hK => ?_) ?_
                          · go_simp
                            refine hK _ _ ?_
                            clear hK K
                            refine wpAny_ready (rs := [5]) (by kernel_rfl) (by simp) ?_
                            refine AllReady.cons rfl (fun K hK => ?_) ?_
                            · go_simp
                              refine hK _ _ ?_
                              clear hK K
                              refine wpAny_ready (rs := [6]) (by kernel_rfl) (by simp) ?_
                              refine AllReady.cons rfl (fun K hK => ?_) ?_
                              · go_simp
                                refine hK _ _ ?_
                                clear hK K
                                refine wpAny_ready (rs := [7]) (by kernel_rfl) (by simp) ?_
                                refine AllReady.cons rfl (fun K hK => ?_) ?_
                                · go_simp
                                  refine hK _ _ ?_
                                  clear hK K
                                  refine wpAny_done (by kernel_rfl) ?_ _
                                  have HK10 := Lib.hid (HK9.out.put (.cells #[.string op, .slice lA ln lc, .slice kA kn kc, .string qop, .slice qA ql.length qc, .slice qB qk.length qe] 46) (.string y.s) (.slice none 0 0) (.slice (some ⟨w9.heap.size, 0, none⟩) 2 2))
                                  obtain ⟨w10, hw10⟩ : ∃ W, ((((w9.alloc (.cells #[.string op, .slice lA ln lc, .slice kA kn kc, .string qop, .slice qA ql.length qc, .slice qB qk.length qe] 46)).setCell ⟨wp.heap.size, 0, none⟩ (.string y.s)).setCell ⟨wp.heap.size, 1, none⟩ (.slice none 0 0)).setCell ⟨wp.heap.size, 2, none⟩ (.slice (some ⟨w9.heap.size, 0, none⟩) 2 2)) = W := ⟨_, rfl⟩
                                  rw [hw10] at HK10 ⊢
                                  have HO10 := Lib.hid (HK9.out.two (W1 := w8) HRd.out HQv.out.1 HK8.out.o.lt y.s (.string y.s) (.slice none 0 0) (.slice (some ⟨w9.heap.size, 0, none⟩) 2 2))
                                  rw [hw10] at HO10
                                  go_wp2_with fail
                                  refine (take_yes HK10.out.p HG.out Hu.out Hs41.out).mono ?_
                                  rintro e w11 ⟨rfl, hp, ho⟩
                                  rw [Hi5.out] at hp
                                  have HK11 := Lib.hid (HK10.out.go hp ho)
                                  have HO11 := Lib.hid (rd_far HO10.out ho Hpl.out.1)
                                  clear hp ho
                                  go_wp2_with fail
                                  refine (must_yes _).mono ?_
                                  rintro e w' ⟨rfl, rfl⟩
                                  go_wp2_with fail
                                  refine ⟨⟨m + 1, .mk y.s [] [out, .mk qop ql qk], kk, i5, s2.n, ?_⟩, ?_⟩
                                  · (repeat apply Exists.intro)
                                    refine ⟨?_, rfl⟩
                                    exact Lib.hid (PK.back HK11.out (HV.out) (by have := HS.out; omega) (by omega) HO11.out)
                                  · show 13 - (List.replicate (m + 1) (upD pb)).length < 13 - (List.replicate m (upD pb)).length
                                    have := HS.out
                                    rw [List.length_replicate, List.length_replicate]
                                    omega
                                exact AllReady.nil
                              exact AllReady.nil
                            exact AllReady.nil
                          refine AllReady.cons rfl (fun K hK => ?_) ?_
                          · go_simp
                            refine hK _ _ ?_
                            clear hK K
                            refine wpAny_ready (rs := [1]) (by kernel_rfl) (by simp) ?_
                            refine AllReady.cons rfl (fun K hK => ?_) ?_
                            · go_simp
                              refine hK _ _ ?_
                              clear hK K
                              refine wpAny_ready (rs := [6]) (by kernel_rfl) (by simp) ?_
                              refine AllReady.cons rfl (fun K hK => ?_) ?_
                              · go_simp
                                refine hK _ _ ?_
                                clear hK K
                                refine wpAny_ready (rs := [7]) (by kernel_rfl) (by simp) ?_
                                refine AllReady.cons rfl (fun K hK => ?_) ?_
                                · go_simp
                                  refine hK _ _ ?_
                                  clear hK K
                                  refine wpAny_done (by kernel_rfl) ?_ _
                                  have HK10 := Lib.hid (HK9.out.put (.cells #[.string op, .slice lA ln lc, .slice kA kn kc, .string qop, .slice qA ql.length qc, .slice qB qk.length qe] 46) (.string y.s) (.slice none 0 0) (.slice (some ⟨w9.heap.size, 0, none⟩) 2 2))
                                  obtain ⟨w10, hw10⟩ : ∃ W, ((((w9.alloc (.cells #[.string op, .slice lA ln lc, .slice kA kn kc, .string qop, .slice qA ql.length qc, .slice qB qk.length qe] 46)).setCell ⟨wp.heap.size, 0, none⟩ (.string y.s)).setCell ⟨wp.heap.size, 1, none⟩ (.slice none 0 0)).setCell ⟨wp.heap.size, 2, none⟩ (.slice (some ⟨w9.heap.size, 0, none⟩) 2 2)) = W := ⟨_, rfl⟩
                                  rw [hw10] at HK10 ⊢
                                  have HO10 := Lib.hid (HK9.out.two (W1 := w8) HRd.out HQv.out.1 HK8.out.o.lt y.s (.string y.s) (.slice none 0 0) (.slice (some ⟨w9.heap.size, 0, none⟩) 2 2))
                                  rw [hw10] at HO10
                                  go_wp2_with fail
                                  refine (take_yes HK10.out.p HG.out Hu.out Hs41.out).mono ?_
                                  rintro e w11 ⟨rfl, hp, ho⟩
                                  rw [Hi5.out] at hp
                                  have HK11 := Lib.hid (HK10.out.go hp ho)
                                  have HO11 := Lib.hid (rd_far HO10.out ho Hpl.out.1)
                                  clear hp ho
                                  go_wp2_with fail
                                  refine (must_yes _).mono ?_
                                  rintro e w' ⟨rfl, rfl⟩
                                  go_wp2_with fail
                                  refine ⟨⟨m + 1, .mk y.s [] [out, .mk qop ql qk], kk, i5, s2.n, ?_⟩, ?_⟩
                                  · (repeat apply Exists.intro)
                                    refine ⟨?_, rfl⟩
                                    exact Lib.hid (PK.back HK11.out (HV.out) (by have := HS.out; omega) (by omega) HO11.out)
                                  · show 13 - (List.replicate (m + 1) (upD pb)).length < 13 - (List.replicate m (upD pb)).length
                                    have := HS.out
                                    rw [List.length_replicate, List.length_replicate]
                                    omega
                                exact AllReady.nil
                              exact AllReady.nil
                            exact AllReady.nil
                          exact AllReady.nil
                        exact AllReady.nil
                      exact AllReady.nil
          · have HA : Hid ((decide (y.k = 1) && isL y (⟨#[97, 110, 100]⟩ : ByteArray).data.toList) = false) := Lib.hid h'
            have HR : Hid ((decide (y.k = 1) && isL y (⟨#[111, 114]⟩ : ByteArray).data.toList) = true) := Lib.hid h
            have hnn : y.s.data.toList ≠ [110, 101, 103, 97, 116, 101] := by rw [(nam_list h).2]; decide
            have hneg : isL (gx ws ((Ps.mk i1 n1).i + 1)) txNeg = false := by rw [hgy]; exact beq_eq_false_iff_ne.2 hnn
            have eneg : (y.s.toList == [110, 101, 103, 97, 116, 101]) = false := beq_not_list hnn
            clear hnn
            clear h'
            cases kk with
            | zero =>
              have HAt := HAy
              have HV : Hid (r = .bad ((Ps.mk i1 n1).i + 1) 3) := Lib.hid (Hr.out.eq.trans (pJoin_deep (s := ⟨i1, n1⟩) hg46 hjg))
              clear ho hrd hx1 hs1 hd hg46 hy hy' hgy hj h HAy HAz hi2 hi3 hjg hgz hz hss hneg eneg
              go_wp2_with fail
              refine (take_yes Hr.out.p HG.out Hx1.out Hs1.out).mono ?_
              rintro e w1 ⟨rfl, hp, ho⟩
              rw [Hi2.out] at hp
              have HP1 := Lib.hid (And.intro hp ho)
              clear hp ho
              go_wp2_with fail
              refine (word_any HP1.out.1 HG.out Hy.out).mono ?_
              rintro e w2 ⟨rfl, hb⟩
              obtain ⟨w3, hw3⟩ : ∃ w3, w2.alloc (.cells #[.int .i64 y.k, .string y.s, .int .i64 y.n, .float .f64 y.f, .int .i64 (y.at_ : Nat)] 56) = w3 := ⟨_, rfl⟩
              have hb3 : Below w2.heap.size w2 w3 := by rw [← hw3]; exact (Below.refl _ _).alloc (Nat.le_refl _) _
              have ht3 : Blk w3 w2.heap.size 56 #[.int .i64 y.k, .string y.s, .int .i64 y.n, .float .f64 y.f, .int .i64 (y.at_ : Nat)] := by rw [← hw3]; exact Blk.new _ _ _
              have HK3 := Lib.hid (PK.start (dd := d) Hr.out Ho.out HP1.out.1 HP1.out.2 hb hb3 ht3 Hpl.out)
              obtain ⟨t30, t31, t32, t33, t34⟩ := HK3.out.word
              clear hb hb3 ht3 HP1
              go_wp2_with fail
              refine (isName_any y ⟨#[97, 110, 100]⟩ _).mono ?_
              rintro e w4 ⟨rfl, hb⟩
              have HK4 := Lib.hid (HK3.out.on hb)
              obtain ⟨t40, t41, t42, t43, t44⟩ := HK4.out.word
              clear hb HK3
              rw [HA.out]
              go_wp2_with fail
              refine (isName_any y ⟨#[111, 114]⟩ _).mono ?_
              rintro e w5 ⟨rfl, hb⟩
              have HK5 := Lib.hid (HK4.out.on hb)
              obtain ⟨t50, t51, t52, t53, t54⟩ := HK5.out.word
              clear hb HK4
              rw [HR.out]
              go_wp2_with fail
              refine (must_yes _).mono ?_
              rintro e w' ⟨rfl, rfl⟩
              go_wp2_with fail
              refine (down_any HK5.out.p HG.out Hy.out (by have := HS.out; omega)).mono ?_
              rintro e w6 (⟨-, rfl, hb⟩ | ⟨h1, -⟩)
              · have hk := HK5.out.on hb
                exact door_bad m w6 (by have := HS.out; omega) hk.p (fun w' h1 h2 => Got.bad HV.out HAt.out h1 (hk.f.trans h2))
              · have := HS.out; omega
            | succ kk =>
              cases hs40 : isSgn z 40
              · have Hs40 := Lib.hid hs40
                have HAt := HAz
                have HV : Hid (r = .bad ((Ps.mk i1 n1).i + 2) 120) := Lib.hid (Hr.out.eq.trans (pJoin_open (s := ⟨i1, n1⟩) hg46 hjg (by rw [hgz]; exact hs40)))
                clear ho hrd hx1 hs1 hd hg46 hy hy' hgy hj h HAy HAz hi2 hi3 hjg hgz hz hss hneg eneg hs40
                go_wp2_with fail
                refine (take_yes Hr.out.p HG.out Hx1.out Hs1.out).mono ?_
                rintro e w1 ⟨rfl, hp, ho⟩
                rw [Hi2.out] at hp
                have HP1 := Lib.hid (And.intro hp ho)
                clear hp ho
                go_wp2_with fail
                refine (word_any HP1.out.1 HG.out Hy.out).mono ?_
                rintro e w2 ⟨rfl, hb⟩
                obtain ⟨w3, hw3⟩ : ∃ w3, w2.alloc (.cells #[.int .i64 y.k, .string y.s, .int .i64 y.n, .float .f64 y.f, .int .i64 (y.at_ : Nat)] 56) = w3 := ⟨_, rfl⟩
                have hb3 : Below w2.heap.size w2 w3 := by rw [← hw3]; exact (Below.refl _ _).alloc (Nat.le_refl _) _
                have ht3 : Blk w3 w2.heap.size 56 #[.int .i64 y.k, .string y.s, .int .i64 y.n, .float .f64 y.f, .int .i64 (y.at_ : Nat)] := by rw [← hw3]; exact Blk.new _ _ _
                have HK3 := Lib.hid (PK.start (dd := d) Hr.out Ho.out HP1.out.1 HP1.out.2 hb hb3 ht3 Hpl.out)
                obtain ⟨t30, t31, t32, t33, t34⟩ := HK3.out.word
                clear hb hb3 ht3 HP1
                go_wp2_with fail
                refine (isName_any y ⟨#[97, 110, 100]⟩ _).mono ?_
                rintro e w4 ⟨rfl, hb⟩
                have HK4 := Lib.hid (HK3.out.on hb)
                obtain ⟨t40, t41, t42, t43, t44⟩ := HK4.out.word
                clear hb HK3
                rw [HA.out]
                go_wp2_with fail
                refine (isName_any y ⟨#[111, 114]⟩ _).mono ?_
                rintro e w5 ⟨rfl, hb⟩
                have HK5 := Lib.hid (HK4.out.on hb)
                obtain ⟨t50, t51, t52, t53, t54⟩ := HK5.out.word
                clear hb HK4
                rw [HR.out]
                go_wp2_with fail
                refine (must_yes _).mono ?_
                rintro e w' ⟨rfl, rfl⟩
                go_wp2_with fail
                refine (down_any HK5.out.p HG.out Hy.out (by have := HS.out; omega)).mono ?_
                rintro e w6 (⟨h1, -⟩ | ⟨-, rfl, hp, ho, -⟩)
                · have := HS.out; omega
                have HK6 := Lib.hid (HK5.out.go hp ho)
                obtain ⟨-, c6, -, -, z6, -, -, -⟩ := HK6.out.p.cells
                clear hp ho HK5
                go_wp2_with fail
                have HK7 := Lib.hid (HK6.out.go (HK6.out.p.next Hi2l.out) (fr_put (Only.refl _ _) 1 _))
                clear HK6 c6 z6
                obtain ⟨w7, hw7⟩ : ∃ W, w6.setCell ⟨pb, 1, none⟩ (.int .i64 ((i2 : Int) + 1)) = W := ⟨_, rfl⟩
                rw [hw7] at HK7 ⊢
                rw [Hi3.out] at HK7
                refine (take_no HK7.out.p HG.out Hz.out Hs40.out).mono ?_
                rintro e w8 ⟨rfl, hb⟩
                have HK8 := Lib.hid (HK7.out.on hb)
                clear hb HK7
                go_wp2_with fail
                refine (must_no HK8.out.p HG.out Hz.out).mono ?_
                rintro e w9 ⟨rfl, hb⟩
                have hk := HK8.out.on hb
                exact door_bad (m + 1) w9 (by have := HS.out; omega) hk.p (fun w' h1 h2 => Got.bad HV.out HAt.out h1 (hk.f.trans h2))
              · have Hs40 := Lib.hid hs40
                have hg40 : isSgn (gx ws ((Ps.mk i1 n1).i + 2)) 40 = true := by rw [hgz]; exact hs40
                have hi4l := sgn_next HG.out hz hs40
                obtain ⟨i4, hi4⟩ : ∃ q, i3 + 1 = q := ⟨_, rfl⟩
                have Hi4 := Lib.hid hi4
                obtain ⟨v, hv⟩ : ∃ v, ws[i4]? = some v := ⟨_, List.getElem?_eq_getElem (by omega)⟩
                have Hv := Lib.hid hv
                have hgv : gx ws ((Ps.mk i1 n1).i + 3) = { v with at_ := 0 } := by rw [show (Ps.mk i1 n1).i + 3 = i4 by show i1 + 3 = i4; omega]; exact gx_of hv
                have HAv : Hid ((ws.getD ((Ps.mk i1 n1).i + 3) wdNone).at_ = v.at_) := Lib.hid (by rw [show (Ps.mk i1 n1).i + 3 = i4 by show i1 + 3 = i4; omega]; exact congrArg Wd.at_ (getD_of hv))
                cases hpa : prdA v
                · have Hpa := Lib.hid hpa
                  have HAt := HAv
                  have HV : Hid (r = .bad ((Ps.mk i1 n1).i + 3) 120) := Lib.hid (Hr.out.eq.trans (pJoin_nop (s := ⟨i1, n1⟩) hg46 hjg hg40 hneg (by rw [hgv]; exact hpa)))
                  clear ho hrd hx1 hs1 hd hg46 hy hy' hgy hj h HAy HAz HAv hi2 hi3 hi4 hjg hgz hz hss hneg hs40 hg40 hi4l hgv hv hpa
                  go_wp2_with fail
                  refine (take_yes Hr.out.p HG.out Hx1.out Hs1.out).mono ?_
                  rintro e w1 ⟨rfl, hp, ho⟩
                  rw [Hi2.out] at hp
                  have HP1 := Lib.hid (And.intro hp ho)
                  clear hp ho
                  go_wp2_with fail
                  refine (word_any HP1.out.1 HG.out Hy.out).mono ?_
                  rintro e w2 ⟨rfl, hb⟩
                  obtain ⟨w3, hw3⟩ : ∃ w3, w2.alloc (.cells #[.int .i64 y.k, .string y.s, .int .i64 y.n, .float .f64 y.f, .int .i64 (y.at_ : Nat)] 56) = w3 := ⟨_, rfl⟩
                  have hb3 : Below w2.heap.size w2 w3 := by rw [← hw3]; exact (Below.refl _ _).alloc (Nat.le_refl _) _
                  have ht3 : Blk w3 w2.heap.size 56 #[.int .i64 y.k, .string y.s, .int .i64 y.n, .float .f64 y.f, .int .i64 (y.at_ : Nat)] := by rw [← hw3]; exact Blk.new _ _ _
                  have HK3 := Lib.hid (PK.start (dd := d) Hr.out Ho.out HP1.out.1 HP1.out.2 hb hb3 ht3 Hpl.out)
                  obtain ⟨t30, t31, t32, t33, t34⟩ := HK3.out.word
                  clear hb hb3 ht3 HP1
                  go_wp2_with fail
                  refine (isName_any y ⟨#[97, 110, 100]⟩ _).mono ?_
                  rintro e w4 ⟨rfl, hb⟩
                  have HK4 := Lib.hid (HK3.out.on hb)
                  obtain ⟨t40, t41, t42, t43, t44⟩ := HK4.out.word
                  clear hb HK3
                  rw [HA.out]
                  go_wp2_with fail
                  refine (isName_any y ⟨#[111, 114]⟩ _).mono ?_
                  rintro e w5 ⟨rfl, hb⟩
                  have HK5 := Lib.hid (HK4.out.on hb)
                  obtain ⟨t50, t51, t52, t53, t54⟩ := HK5.out.word
                  clear hb HK4
                  rw [HR.out]
                  go_wp2_with fail
                  refine (must_yes _).mono ?_
                  rintro e w' ⟨rfl, rfl⟩
                  go_wp2_with fail
                  refine (down_any HK5.out.p HG.out Hy.out (by have := HS.out; omega)).mono ?_
                  rintro e w6 (⟨h1, -⟩ | ⟨-, rfl, hp, ho, -⟩)
                  · have := HS.out; omega
                  have HK6 := Lib.hid (HK5.out.go hp ho)
                  obtain ⟨-, c6, -, -, z6, -, -, -⟩ := HK6.out.p.cells
                  clear hp ho HK5
                  go_wp2_with fail
                  have HK7 := Lib.hid (HK6.out.go (HK6.out.p.next Hi2l.out) (fr_put (Only.refl _ _) 1 _))
                  clear HK6 c6 z6
                  obtain ⟨w7, hw7⟩ : ∃ W, w6.setCell ⟨pb, 1, none⟩ (.int .i64 ((i2 : Int) + 1)) = W := ⟨_, rfl⟩
                  rw [hw7] at HK7 ⊢
                  rw [Hi3.out] at HK7
                  refine (take_yes HK7.out.p HG.out Hz.out Hs40.out).mono ?_
                  rintro e w8 ⟨rfl, hp, ho⟩
                  rw [Hi4.out] at hp
                  have HK8 := Lib.hid (HK7.out.go hp ho)
                  clear hp ho HK7
                  obtain ⟨t80, t81, t82, t83, t84⟩ := HK8.out.word
                  obtain ⟨o80, o81, o82, p80, p81, p82⟩ := HK8.out.out3
                  go_wp2_with fail
                  refine (must_yes _).mono ?_
                  rintro e w' ⟨rfl, rfl⟩
                  go_wp2_with fail
                  refine (predAhead_any HK8.out.p HG.out Hv.out).mono ?_
                  rintro e w9 ⟨rfl, hb⟩
                  have HK9 := Lib.hid (HK8.out.on hb)
                  clear hb
                  rw [Hpa.out]
                  go_wp2_with fail
                  refine (must_no HK9.out.p HG.out Hv.out).mono ?_
                  rintro e w10 ⟨rfl, hb⟩
                  have hk := HK9.out.on hb
                  exact door_bad (m + 1) w10 (by have := HS.out; omega) hk.p (fun w' h1 h2 => Got.bad HV.out HAt.out h1 (hk.f.trans h2))
                · have Hpa := Lib.hid hpa
                  have hgpa : prdA (gx ws ((Ps.mk i1 n1).i + 3)) = true := by rw [hgv]; exact hpa
                  have HPd := Lib.hid (fun W (hp : PB W pb g cap ws i4 (d + m + 1) n1) => IH.out kk (by have := HS.out; omega) W i4 (d + m + 1) n1 v hp hv hpa (by have := HS.out; omega))
                  have h34 : (Ps.mk ((Ps.mk i1 n1).i + 3) n1) = ⟨i4, n1⟩ := by show (Ps.mk (i1 + 3) n1) = ⟨i4, n1⟩; rw [show i1 + 3 = i4 by omega]
                  cases hq : pPred (gx ws) kk ⟨i4, n1⟩ with
                  | bad j c =>
                    have HQ := Lib.hid hq
                    have HV : Hid (r = .bad j c) := Lib.hid (Hr.out.eq.trans (pJoin_bad (s := ⟨i1, n1⟩) hg46 hjg hg40 hneg hgpa (by rw [h34]; exact hq)))
                    clear ho hrd hx1 hs1 hd hg46 hy hy' hgy hj h HAy HAz HAv hi2 hi3 hi4 hjg hgz hz hss hneg hs40 hg40 hi4l hgv hv hpa hgpa hq h34
                    go_wp2_with fail
                    refine (take_yes Hr.out.p HG.out Hx1.out Hs1.out).mono ?_
                    rintro e w1 ⟨rfl, hp, ho⟩
                    rw [Hi2.out] at hp
                    have HP1 := Lib.hid (And.intro hp ho)
                    clear hp ho
                    go_wp2_with fail
                    refine (word_any HP1.out.1 HG.out Hy.out).mono ?_
                    rintro e w2 ⟨rfl, hb⟩
                    obtain ⟨w3, hw3⟩ : ∃ w3, w2.alloc (.cells #[.int .i64 y.k, .string y.s, .int .i64 y.n, .float .f64 y.f, .int .i64 (y.at_ : Nat)] 56) = w3 := ⟨_, rfl⟩
                    have hb3 : Below w2.heap.size w2 w3 := by rw [← hw3]; exact (Below.refl _ _).alloc (Nat.le_refl _) _
                    have ht3 : Blk w3 w2.heap.size 56 #[.int .i64 y.k, .string y.s, .int .i64 y.n, .float .f64 y.f, .int .i64 (y.at_ : Nat)] := by rw [← hw3]; exact Blk.new _ _ _
                    have HK3 := Lib.hid (PK.start (dd := d) Hr.out Ho.out HP1.out.1 HP1.out.2 hb hb3 ht3 Hpl.out)
                    obtain ⟨t30, t31, t32, t33, t34⟩ := HK3.out.word
                    clear hb hb3 ht3 HP1
                    go_wp2_with fail
                    refine (isName_any y ⟨#[97, 110, 100]⟩ _).mono ?_
                    rintro e w4 ⟨rfl, hb⟩
                    have HK4 := Lib.hid (HK3.out.on hb)
                    obtain ⟨t40, t41, t42, t43, t44⟩ := HK4.out.word
                    clear hb HK3
                    rw [HA.out]
                    go_wp2_with fail
                    refine (isName_any y ⟨#[111, 114]⟩ _).mono ?_
                    rintro e w5 ⟨rfl, hb⟩
                    have HK5 := Lib.hid (HK4.out.on hb)
                    obtain ⟨t50, t51, t52, t53, t54⟩ := HK5.out.word
                    clear hb HK4
                    rw [HR.out]
                    go_wp2_with fail
                    refine (must_yes _).mono ?_
                    rintro e w' ⟨rfl, rfl⟩
                    go_wp2_with fail
                    refine (down_any HK5.out.p HG.out Hy.out (by have := HS.out; omega)).mono ?_
                    rintro e w6 (⟨h1, -⟩ | ⟨-, rfl, hp, ho, -⟩)
                    · have := HS.out; omega
                    have HK6 := Lib.hid (HK5.out.go hp ho)
                    obtain ⟨-, c6, -, -, z6, -, -, -⟩ := HK6.out.p.cells
                    clear hp ho HK5
                    go_wp2_with fail
                    have HK7 := Lib.hid (HK6.out.go (HK6.out.p.next Hi2l.out) (fr_put (Only.refl _ _) 1 _))
                    clear HK6 c6 z6
                    obtain ⟨w7, hw7⟩ : ∃ W, w6.setCell ⟨pb, 1, none⟩ (.int .i64 ((i2 : Int) + 1)) = W := ⟨_, rfl⟩
                    rw [hw7] at HK7 ⊢
                    rw [Hi3.out] at HK7
                    refine (take_yes HK7.out.p HG.out Hz.out Hs40.out).mono ?_
                    rintro e w8 ⟨rfl, hp, ho⟩
                    rw [Hi4.out] at hp
                    have HK8 := Lib.hid (HK7.out.go hp ho)
                    clear hp ho HK7
                    obtain ⟨t80, t81, t82, t83, t84⟩ := HK8.out.word
                    obtain ⟨o80, o81, o82, p80, p81, p82⟩ := HK8.out.out3
                    go_wp2_with fail
                    refine (must_yes _).mono ?_
                    rintro e w' ⟨rfl, rfl⟩
                    go_wp2_with fail
                    refine (predAhead_any HK8.out.p HG.out Hv.out).mono ?_
                    rintro e w9 ⟨rfl, hb⟩
                    have HK9 := Lib.hid (HK8.out.on hb)
                    obtain ⟨t90, t91, t92, t93, t94⟩ := HK9.out.word
                    obtain ⟨o90, o91, o92, p90, p91, p92⟩ := HK9.out.out3
                    clear hb
                    rw [Hpa.out]
                    go_wp2_with fail
                    refine (must_yes _).mono ?_
                    rintro e w' ⟨rfl, rfl⟩
                    go_wp2_with fail
                    refine wp_region_any (by kernel_rfl) ?_
                    try (change wpAny _ _ _ _ _ _ _ (World.drew _))
                    refine wpAny_take (i := 0) (v := .pointer (some ⟨w2.heap.size, 1, none⟩)) rfl (by kernel_rfl) (by kernel_rfl) (by kernel_rfl) (fun c a W h => leaves_tmps (res_put 47 _ a (by decide)) _ _ _ h) (Or.inl ⟨by rfl, ?_⟩) ?_
                    · intro wq
                      go_simp
                    refine wpAny_take (i := 3) (v := .pointer (some ⟨pb, 0, none⟩)) rfl (by kernel_rfl) (by kernel_rfl) (by kernel_rfl) (fun c a W h => leaves_tmps (res_put 50 _ a (by decide)) _ _ _ h) (Or.inl ⟨by rfl, ?_⟩) ?_
                    · intro wq
                      go_simp
                    refine wpAny_ready (rs := [1, 2, 4]) (by kernel_rfl) (by simp) ?_
                    refine AllReady.cons rfl (fun K hK => ?_) ?_
                    · go_simp
                      refine hK _ _ ?_
                      clear hK K
                      refine wpAny_ready (rs := [2, 4]) (by kernel_rfl) (by simp) ?_
                      refine AllReady.cons rfl (fun K hK => ?_) ?_
                      · go_simp
                        refine hK _ _ ?_
                        clear hK K
                        refine wpAny_ready (rs := [4]) (by kernel_rfl) (by simp) ?_
                        refine AllReady.cons rfl (fun K hK => ?_) ?_
                        · go_simp
                          refine (HPd.out _ (HK9.out.p.on (drewN_below _ 1))).mono ?_
                          rintro e w10 hg
                          rw [HQ.out] at hg
                          obtain ⟨rfl, ⟨i', n', hpq⟩, hoq⟩ := hg
                          exact door_bad (m + 1) w10 (by have := HS.out; omega) hpq (fun w' h1 h2 => Got.bad HV.out rfl h1 (((HK9.out.f.trans (FR.of (drewN_below _ 1))).trans hoq).trans h2))
                        exact AllReady.nil
                      refine AllReady.cons rfl (fun K hK => ?_) ?_
                      · go_simp
                        refine (HPd.out _ (HK9.out.p.on (drewN_below _ 1))).mono ?_
                        rintro e w10 hg
                        rw [HQ.out] at hg
                        obtain ⟨rfl, ⟨i', n', hpq⟩, hoq⟩ := hg
                        exact door_bad (m + 1) w10 (by have := HS.out; omega) hpq (fun w' h1 h2 => Got.bad HV.out rfl h1 (((HK9.out.f.trans (FR.of (drewN_below _ 1))).trans hoq).trans h2))
                      exact AllReady.nil
                    refine AllReady.cons rfl (fun K hK => ?_) ?_
                    · go_simp
                      refine hK _ _ ?_
                      clear hK K
                      refine wpAny_ready (rs := [1, 4]) (by kernel_rfl) (by simp) ?_
                      refine AllReady.cons rfl (fun K hK => ?_) ?_
                      · go_simp
                        refine hK _ _ ?_
                        clear hK K
                        refine wpAny_ready (rs := [4]) (by kernel_rfl) (by simp) ?_
                        refine AllReady.cons rfl (fun K hK => ?_) ?_
                        · go_simp
                          refine (HPd.out _ (HK9.out.p.on (drewN_below _ 1))).mono ?_
                          rintro e w10 hg
                          rw [HQ.out] at hg
                          obtain ⟨rfl, ⟨i', n', hpq⟩, hoq⟩ := hg
                          exact door_bad (m + 1) w10 (by have := HS.out; omega) hpq (fun w' h1 h2 => Got.bad HV.out rfl h1 (((HK9.out.f.trans (FR.of (drewN_below _ 1))).trans hoq).trans h2))
                        exact AllReady.nil
                      refine AllReady.cons rfl (fun K hK => ?_) ?_
                      · go_simp
                        refine (HPd.out _ (HK9.out.p.on (drewN_below _ 1))).mono ?_
                        rintro e w10 hg
                        rw [HQ.out] at hg
                        obtain ⟨rfl, ⟨i', n', hpq⟩, hoq⟩ := hg
                        exact door_bad (m + 1) w10 (by have := HS.out; omega) hpq (fun w' h1 h2 => Got.bad HV.out rfl h1 (((HK9.out.f.trans (FR.of (drewN_below _ 1))).trans hoq).trans h2))
                      exact AllReady.nil
                    refine AllReady.cons rfl (fun K hK => ?_) ?_
                    · go_simp
                      refine (HPd.out _ (HK9.out.p.on (drewN_below _ 1))).mono ?_
                      rintro e w10 hg
                      rw [HQ.out] at hg
                      obtain ⟨rfl, ⟨i', n', hpq⟩, hoq⟩ := hg
                      exact door_bad (m + 1) w10 (by have := HS.out; omega) hpq (fun w' h1 h2 => Got.bad HV.out rfl h1 (((HK9.out.f.trans (FR.of (drewN_below _ 1))).trans hoq).trans h2))
                    exact AllReady.nil
                  | ok q s2 =>
                    have HQ := Lib.hid hq
                    obtain ⟨qop, ql, qk⟩ := q
                    have hs2 := pPred_lt HG.out hq
                    obtain ⟨u, hu⟩ : ∃ u, ws[s2.i]? = some u := ⟨_, List.getElem?_eq_getElem hs2⟩
                    have Hu := Lib.hid hu
                    cases hs41 : isSgn u 41
                    · have Hs41 := Lib.hid hs41
                      have HAt : Hid ((ws.getD s2.i wdNone).at_ = u.at_) := Lib.hid (congrArg Wd.at_ (getD_of hu))
                      have HV : Hid (r = .bad s2.i 120) := Lib.hid (Hr.out.eq.trans (pJoin_close (s := ⟨i1, n1⟩) hg46 hjg hg40 hneg hgpa (by rw [h34]; exact hq) (by rw [gx_of hu]; exact hs41)))
                      clear ho hrd hx1 hs1 hd hg46 hy hy' hgy hj h HAy HAz HAv hi2 hi3 hi4 hjg hgz hz hss hneg hs40 hg40 hi4l hgv hv hpa hgpa hq h34 hs41 hu hs2
                      go_wp2_with fail
                      refine (take_yes Hr.out.p HG.out Hx1.out Hs1.out).mono ?_
                      rintro e w1 ⟨rfl, hp, ho⟩
                      rw [Hi2.out] at hp
                      have HP1 := Lib.hid (And.intro hp ho)
                      clear hp ho
                      go_wp2_with fail
                      refine (word_any HP1.out.1 HG.out Hy.out).mono ?_
                      rintro e w2 ⟨rfl, hb⟩
                      obtain ⟨w3, hw3⟩ : ∃ w3, w2.alloc (.cells #[.int .i64 y.k, .string y.s, .int .i64 y.n, .float .f64 y.f, .int .i64 (y.at_ : Nat)] 56) = w3 := ⟨_, rfl⟩
                      have hb3 : Below w2.heap.size w2 w3 := by rw [← hw3]; exact (Below.refl _ _).alloc (Nat.le_refl _) _
                      have ht3 : Blk w3 w2.heap.size 56 #[.int .i64 y.k, .string y.s, .int .i64 y.n, .float .f64 y.f, .int .i64 (y.at_ : Nat)] := by rw [← hw3]; exact Blk.new _ _ _
                      have HK3 := Lib.hid (PK.start (dd := d) Hr.out Ho.out HP1.out.1 HP1.out.2 hb hb3 ht3 Hpl.out)
                      obtain ⟨t30, t31, t32, t33, t34⟩ := HK3.out.word
                      clear hb hb3 ht3 HP1
                      go_wp2_with fail
                      refine (isName_any y ⟨#[97, 110, 100]⟩ _).mono ?_
                      rintro e w4 ⟨rfl, hb⟩
                      have HK4 := Lib.hid (HK3.out.on hb)
                      obtain ⟨t40, t41, t42, t43, t44⟩ := HK4.out.word
                      clear hb HK3
                      rw [HA.out]
                      go_wp2_with fail
                      refine (isName_any y ⟨#[111, 114]⟩ _).mono ?_
                      rintro e w5 ⟨rfl, hb⟩
                      have HK5 := Lib.hid (HK4.out.on hb)
                      obtain ⟨t50, t51, t52, t53, t54⟩ := HK5.out.word
                      clear hb HK4
                      rw [HR.out]
                      go_wp2_with fail
                      refine (must_yes _).mono ?_
                      rintro e w' ⟨rfl, rfl⟩
                      go_wp2_with fail
                      refine (down_any HK5.out.p HG.out Hy.out (by have := HS.out; omega)).mono ?_
                      rintro e w6 (⟨h1, -⟩ | ⟨-, rfl, hp, ho, -⟩)
                      · have := HS.out; omega
                      have HK6 := Lib.hid (HK5.out.go hp ho)
                      obtain ⟨-, c6, -, -, z6, -, -, -⟩ := HK6.out.p.cells
                      clear hp ho HK5
                      go_wp2_with fail
                      have HK7 := Lib.hid (HK6.out.go (HK6.out.p.next Hi2l.out) (fr_put (Only.refl _ _) 1 _))
                      clear HK6 c6 z6
                      obtain ⟨w7, hw7⟩ : ∃ W, w6.setCell ⟨pb, 1, none⟩ (.int .i64 ((i2 : Int) + 1)) = W := ⟨_, rfl⟩
                      rw [hw7] at HK7 ⊢
                      rw [Hi3.out] at HK7
                      refine (take_yes HK7.out.p HG.out Hz.out Hs40.out).mono ?_
                      rintro e w8 ⟨rfl, hp, ho⟩
                      rw [Hi4.out] at hp
                      have HK8 := Lib.hid (HK7.out.go hp ho)
                      clear hp ho HK7
                      obtain ⟨t80, t81, t82, t83, t84⟩ := HK8.out.word
                      obtain ⟨o80, o81, o82, p80, p81, p82⟩ := HK8.out.out3
                      go_wp2_with fail
                      refine (must_yes _).mono ?_
                      rintro e w' ⟨rfl, rfl⟩
                      go_wp2_with fail
                      refine (predAhead_any HK8.out.p HG.out Hv.out).mono ?_
                      rintro e w9 ⟨rfl, hb⟩
                      have HK9 := Lib.hid (HK8.out.on hb)
                      obtain ⟨t90, t91, t92, t93, t94⟩ := HK9.out.word
                      obtain ⟨o90, o91, o92, p90, p91, p92⟩ := HK9.out.out3
                      clear hb
                      rw [Hpa.out]
                      go_wp2_with fail
                      refine (must_yes _).mono ?_
                      rintro e w' ⟨rfl, rfl⟩
                      go_wp2_with fail
                      refine wp_region_any (by kernel_rfl) ?_
                      try (change wpAny _ _ _ _ _ _ _ (World.drew _))
                      refine wpAny_take (i := 0) (v := .pointer (some ⟨w2.heap.size, 1, none⟩)) rfl (by kernel_rfl) (by kernel_rfl) (by kernel_rfl) (fun c a W h => leaves_tmps (res_put 47 _ a (by decide)) _ _ _ h) (Or.inl ⟨by rfl, ?_⟩) ?_
                      · intro wq
                        go_simp
                      refine wpAny_take (i := 3) (v := .pointer (some ⟨pb, 0, none⟩)) rfl (by kernel_rfl) (by kernel_rfl) (by kernel_rfl) (fun c a W h => leaves_tmps (res_put 50 _ a (by decide)) _ _ _ h) (Or.inl ⟨by rfl, ?_⟩) ?_
                      · intro wq
                        go_simp
                      refine wpAny_ready (rs := [1, 2, 4]) (by kernel_rfl) (by simp) ?_
                      refine AllReady.cons rfl (fun K hK => ?_) ?_
                      · go_simp
                        refine hK _ _ ?_
                        clear hK K
                        refine wpAny_ready (rs := [2, 4]) (by kernel_rfl) (by simp) ?_
                        refine AllReady.cons rfl (fun K hK => ?_) ?_
                        · go_simp
                          refine hK _ _ ?_
                          clear hK K
                          refine wpAny_ready (rs := [4]) (by kernel_rfl) (by simp) ?_
                          refine AllReady.cons rfl (fun K hK => ?_) ?_
                          · go_simp
                            refine (HPd.out _ (HK9.out.p.on (drewN_below _ 1))).mono ?_
                            rintro e w10 hg
                            rw [HQ.out] at hg
                            obtain ⟨vq, rfl, hvq, hpq, hoq⟩ := hg
                            obtain ⟨qA, qc, qB, qe, rfl⟩ := hvq.shape
                            have hdq : FR pb w9 w10 := (FR.of (drewN_below _ 1)).trans hoq
                            have HK10 := Lib.hid (HK9.out.go hpq hdq)
                            obtain ⟨t100, t101, t102, t103, t104⟩ := HK10.out.word
                            obtain ⟨o100, o101, o102, p100, p101, p102⟩ := HK10.out.out3
                            obtain ⟨ta0, ta1, ta2, ta3, ta4⟩ := (HK10.out.on ((Below.refl _ _).alloc (Nat.le_refl _) (.cells #[.string op, .slice lA ln lc, .slice kA kn kc, .string qop, .slice qA ql.length qc, .slice qB qk.length qe] 46))).word
                            obtain ⟨oa0, oa1, oa2, pa0, pa1, pa2⟩ := (HK10.out.on ((Below.refl _ _).alloc (Nat.le_refl _) (.cells #[.string op, .slice lA ln lc, .slice kA kn kc, .string qop, .slice qA ql.length qc, .slice qB qk.length qe] 46))).out3
                            have HQv := Lib.hid (And.intro hvq hdq)
                            clear hvq hpq hoq hdq
                            refine hK _ _ ?_
                            clear hK K
                            refine wpAny_ready (rs := [5]) (by kernel_rfl) (by simp) ?_
                            refine AllReady.cons rfl (fun K hK => ?_) ?_
                            · go_simp
                              refine hK _ _ ?_
                              clear hK K
                              refine wpAny_ready (rs := [6]) (by kernel_rfl) (by simp) ?_
                              refine AllReady.cons rfl (fun K hK => ?_) ?_
                              · go_simp
                                refine hK _ _ ?_
                                clear hK K
                                refine wpAny_ready (rs := [7]) (by kernel_rfl) (by simp) ?_
                                refine AllReady.cons rfl (fun K hK => ?_) ?_
                                · go_simp
                                  refine hK _ _ ?_
                                  clear hK K
                                  refine wpAny_done (by kernel_rfl) ?_ _
                                  have HK11 := Lib.hid (HK10.out.put (.cells #[.string op, .slice lA ln lc, .slice kA kn kc, .string qop, .slice qA ql.length qc, .slice qB qk.length qe] 46) (.string y.s) (.slice none 0 0) (.slice (some ⟨w10.heap.size, 0, none⟩) 2 2))
                                  obtain ⟨w11, hw11⟩ : ∃ W, ((((w10.alloc (.cells #[.string op, .slice lA ln lc, .slice kA kn kc, .string qop, .slice qA ql.length qc, .slice qB qk.length qe] 46)).setCell ⟨wp.heap.size, 0, none⟩ (.string y.s)).setCell ⟨wp.heap.size, 1, none⟩ (.slice none 0 0)).setCell ⟨wp.heap.size, 2, none⟩ (.slice (some ⟨w10.heap.size, 0, none⟩) 2 2)) = W := ⟨_, rfl⟩
                                  rw [hw11] at HK11 ⊢
                                  have HO11 := Lib.hid (HK10.out.two (W1 := w9) HRd.out HQv.out.1 HK9.out.o.lt y.s (.string y.s) (.slice none 0 0) (.slice (some ⟨w10.heap.size, 0, none⟩) 2 2))
                                  rw [hw11] at HO11
                                  go_wp2_with fail
                                  refine (take_no HK11.out.p HG.out Hu.out Hs41.out).mono ?_
                                  rintro e w12 ⟨rfl, hb⟩
                                  have HK12 := Lib.hid (HK11.out.on hb)
                                  clear hb HK11
                                  go_wp2_with fail
                                  refine (must_no HK12.out.p HG.out Hu.out).mono ?_
                                  rintro e w13 ⟨rfl, hb⟩
                                  have hk := HK12.out.on hb
                                  exact door_bad (m + 1) w13 (by have := HS.out; omega) hk.p (fun w' h1 h2 => Got.bad HV.out HAt.out h1 (hk.f.trans h2))
                                exact AllReady.nil
                              exact AllReady.nil
                            exact AllReady.nil
                          exact AllReady.nil
                        refine AllReady.cons rfl (fun K hK => ?_) ?_
                        · go_simp
                          refine (HPd.out _ (HK9.out.p.on (drewN_below _ 1))).mono ?_
                          rintro e w10 hg
                          rw [HQ.out] at hg
                          obtain ⟨vq, rfl, hvq, hpq, hoq⟩ := hg
                          obtain ⟨qA, qc, qB, qe, rfl⟩ := hvq.shape
                          have hdq : FR pb w9 w10 := (FR.of (drewN_below _ 1)).trans hoq
                          have HK10 := Lib.hid (HK9.out.go hpq hdq)
                          obtain ⟨t100, t101, t102, t103, t104⟩ := HK10.out.word
                          obtain ⟨o100, o101, o102, p100, p101, p102⟩ := HK10.out.out3
                          obtain ⟨ta0, ta1, ta2, ta3, ta4⟩ := (HK10.out.on ((Below.refl _ _).alloc (Nat.le_refl _) (.cells #[.string op, .slice lA ln lc, .slice kA kn kc, .string qop, .slice qA ql.length qc, .slice qB qk.length qe] 46))).word
                          obtain ⟨oa0, oa1, oa2, pa0, pa1, pa2⟩ := (HK10.out.on ((Below.refl _ _).alloc (Nat.le_refl _) (.cells #[.string op, .slice lA ln lc, .slice kA kn kc, .string qop, .slice qA ql.length qc, .slice qB qk.length qe] 46))).out3
                          have HQv := Lib.hid (And.intro hvq hdq)
                          clear hvq hpq hoq hdq
                          refine hK _ _ ?_
                          clear hK K
                          refine wpAny_ready (rs := [2]) (by kernel_rfl) (by simp) ?_
                          refine AllReady.cons rfl (fun K hK => ?_) ?_
                          · go_simp
                            refine hK _ _ ?_
                            clear hK K
                            refine wpAny_ready (rs := [5]) (by kernel_rfl) (by simp) ?_
                            refine AllReady.cons rfl (fun K hK => ?_) ?_
                            · go_simp
                              refine hK _ _ ?_
                              clear hK K
                              refine wpAny_ready (rs := [6]) (by kernel_rfl) (by simp) ?_
                              refine AllReady.cons rfl (fun K hK => ?_) ?_
                              · go_simp
                                refine hK _ _ ?_
                                clear hK K
                                refine wpAny_ready (rs := [7]) (by kernel_rfl) (by simp) ?_
                                refine AllReady.cons rfl (fun K hK => ?_) ?_
                                · go_simp
                                  refine hK _ _ ?_
                                  clear hK K
                                  refine wpAny_done (by kernel_rfl) ?_ _
                                  have HK11 := Lib.hid (HK10.out.put (.cells #[.string op, .slice lA ln lc, .slice kA kn kc, .string qop, .slice qA ql.length qc, .slice qB qk.length qe] 46) (.string y.s) (.slice none 0 0) (.slice (some ⟨w10.heap.size, 0, none⟩) 2 2))
                                  obtain ⟨w11, hw11⟩ : ∃ W, ((((w10.alloc (.cells #[.string op, .slice lA ln lc, .slice kA kn kc, .string qop, .slice qA ql.length qc, .slice qB qk.length qe] 46)).setCell ⟨wp.heap.size, 0, none⟩ (.string y.s)).setCell ⟨wp.heap.size, 1, none⟩ (.slice none 0 0)).setCell ⟨wp.heap.size, 2, none⟩ (.slice (some ⟨w10.heap.size, 0, none⟩) 2 2)) = W := ⟨_, rfl⟩
                                  rw [hw11] at HK11 ⊢
                                  have HO11 := Lib.hid (HK10.out.two (W1 := w9) HRd.out HQv.out.1 HK9.out.o.lt y.s (.string y.s) (.slice none 0 0) (.slice (some ⟨w10.heap.size, 0, none⟩) 2 2))
                                  rw [hw11] at HO11
                                  go_wp2_with fail
                                  refine (take_no HK11.out.p HG.out Hu.out Hs41.out).mono ?_
                                  rintro e w12 ⟨rfl, hb⟩
                                  have HK12 := Lib.hid (HK11.out.on hb)
                                  clear hb HK11
                                  go_wp2_with fail
                                  refine (must_no HK12.out.p HG.out Hu.out).mono ?_
                                  rintro e w13 ⟨rfl, hb⟩
                                  have hk := HK12.out.on hb
                                  exact door_bad (m + 1) w13 (by have := HS.out; omega) hk.p (fun w' h1 h2 => Got.bad HV.out HAt.out h1 (hk.f.trans h2))
                                exact AllReady.nil
                              exact AllReady.nil
                            exact AllReady.nil
                          exact AllReady.nil
                        exact AllReady.nil
                      refine AllReady.cons rfl (fun K hK => ?_) ?_
                      · go_simp
                        refine hK _ _ ?_
                        clear hK K
                        refine wpAny_ready (rs := [1, 4]) (by kernel_rfl) (by simp) ?_
                        refine AllReady.cons rfl (fun K hK => ?_) ?_
                        · go_simp
                          refine hK _ _ ?_
                          clear hK K
                          refine wpAny_ready (rs := [4]) (by kernel_rfl) (by simp) ?_
                          refine AllReady.cons rfl (fun K hK => ?_) ?_
                          · go_simp
                            refine (HPd.out _ (HK9.out.p.on (drewN_below _ 1))).mono ?_
                            rintro e w10 hg
                            rw [HQ.out] at hg
                            obtain ⟨vq, rfl, hvq, hpq, hoq⟩ := hg
                            obtain ⟨qA, qc, qB, qe, rfl⟩ := hvq.shape
                            have hdq : FR pb w9 w10 := (FR.of (drewN_below _ 1)).trans hoq
                            have HK10 := Lib.hid (HK9.out.go hpq hdq)
                            obtain ⟨t100, t101, t102, t103, t104⟩ := HK10.out.word
                            obtain ⟨o100, o101, o102, p100, p101, p102⟩ := HK10.out.out3
                            obtain ⟨ta0, ta1, ta2, ta3, ta4⟩ := (HK10.out.on ((Below.refl _ _).alloc (Nat.le_refl _) (.cells #[.string op, .slice lA ln lc, .slice kA kn kc, .string qop, .slice qA ql.length qc, .slice qB qk.length qe] 46))).word
                            obtain ⟨oa0, oa1, oa2, pa0, pa1, pa2⟩ := (HK10.out.on ((Below.refl _ _).alloc (Nat.le_refl _) (.cells #[.string op, .slice lA ln lc, .slice kA kn kc, .string qop, .slice qA ql.length qc, .slice qB qk.length qe] 46))).out3
                            have HQv := Lib.hid (And.intro hvq hdq)
                            clear hvq hpq hoq hdq
                            refine hK _ _ ?_
                            clear hK K
                            refine wpAny_ready (rs := [5]) (by kernel_rfl) (by simp) ?_
                            refine AllReady.cons rfl (fun K hK => ?_) ?_
                            · go_simp
                              refine hK _ _ ?_
                              clear hK K
                              refine wpAny_ready (rs := [6]) (by kernel_rfl) (by simp) ?_
                              refine AllReady.cons rfl (fun K hK => ?_) ?_
                              · go_simp
                                refine hK _ _ ?_
                                clear hK K
                                refine wpAny_ready (rs := [7]) (by kernel_rfl) (by simp) ?_
                                refine AllReady.cons rfl (fun K hK => ?_) ?_
                                · go_simp
                                  refine hK _ _ ?_
                                  clear hK K
                                  refine wpAny_done (by kernel_rfl) ?_ _
                                  have HK11 := Lib.hid (HK10.out.put (.cells #[.string op, .slice lA ln lc, .slice kA kn kc, .string qop, .slice qA ql.length qc, .slice qB qk.length qe] 46) (.string y.s) (.slice none 0 0) (.slice (some ⟨w10.heap.size, 0, none⟩) 2 2))
                                  obtain ⟨w11, hw11⟩ : ∃ W, ((((w10.alloc (.cells #[.string op, .slice lA ln lc, .slice kA kn kc, .string qop, .slice qA ql.length qc, .slice qB qk.length qe] 46)).setCell ⟨wp.heap.size, 0, none⟩ (.string y.s)).setCell ⟨wp.heap.size, 1, none⟩ (.slice none 0 0)).setCell ⟨wp.heap.size, 2, none⟩ (.slice (some ⟨w10.heap.size, 0, none⟩) 2 2)) = W := ⟨_, rfl⟩
                                  rw [hw11] at HK11 ⊢
                                  have HO11 := Lib.hid (HK10.out.two (W1 := w9) HRd.out HQv.out.1 HK9.out.o.lt y.s (.string y.s) (.slice none 0 0) (.slice (some ⟨w10.heap.size, 0, none⟩) 2 2))
                                  rw [hw11] at HO11
                                  go_wp2_with fail
                                  refine (take_no HK11.out.p HG.out Hu.out Hs41.out).mono ?_
                                  rintro e w12 ⟨rfl, hb⟩
                                  have HK12 := Lib.hid (HK11.out.on hb)
                                  clear hb HK11
                                  go_wp2_with fail
                                  refine (must_no HK12.out.p HG.out Hu.out).mono ?_
                                  rintro e w13 ⟨rfl, hb⟩
                                  have hk := HK12.out.on hb
                                  exact door_bad (m + 1) w13 (by have := HS.out; omega) hk.p (fun w' h1 h2 => Got.bad HV.out HAt.out h1 (hk.f.trans h2))
                                exact AllReady.nil
                              exact AllReady.nil
                            exact AllReady.nil
                          exact AllReady.nil
                        refine AllReady.cons rfl (fun K hK => ?_) ?_
                        · go_simp
                          refine (HPd.out _ (HK9.out.p.on (drewN_below _ 1))).mono ?_
                          rintro e w10 hg
                          rw [HQ.out] at hg
                          obtain ⟨vq, rfl, hvq, hpq, hoq⟩ := hg
                          obtain ⟨qA, qc, qB, qe, rfl⟩ := hvq.shape
                          have hdq : FR pb w9 w10 := (FR.of (drewN_below _ 1)).trans hoq
                          have HK10 := Lib.hid (HK9.out.go hpq hdq)
                          obtain ⟨t100, t101, t102, t103, t104⟩ := HK10.out.word
                          obtain ⟨o100, o101, o102, p100, p101, p102⟩ := HK10.out.out3
                          obtain ⟨ta0, ta1, ta2, ta3, ta4⟩ := (HK10.out.on ((Below.refl _ _).alloc (Nat.le_refl _) (.cells #[.string op, .slice lA ln lc, .slice kA kn kc, .string qop, .slice qA ql.length qc, .slice qB qk.length qe] 46))).word
                          obtain ⟨oa0, oa1, oa2, pa0, pa1, pa2⟩ := (HK10.out.on ((Below.refl _ _).alloc (Nat.le_refl _) (.cells #[.string op, .slice lA ln lc, .slice kA kn kc, .string qop, .slice qA ql.length qc, .slice qB qk.length qe] 46))).out3
                          have HQv := Lib.hid (And.intro hvq hdq)
                          clear hvq hpq hoq hdq
                          refine hK _ _ ?_
                          clear hK K
                          refine wpAny_ready (rs := [1, 5]) (by kernel_rfl) (by simp) ?_
                          refine AllReady.cons rfl (fun K hK => ?_) ?_
                          · go_simp
                            refine hK _ _ ?_
                            clear hK K
                            refine wpAny_ready (rs := [5]) (by kernel_rfl) (by simp) ?_
                            refine AllReady.cons rfl (fun K hK => ?_) ?_
                            · go_simp
                              refine hK _ _ ?_
                              clear hK K
                              refine wpAny_ready (rs := [6]) (by kernel_rfl) (by simp) ?_
                              refine AllReady.cons rfl (fun K hK => ?_) ?_
                              · go_simp
                                refine hK _ _ ?_
                                clear hK K
                                refine wpAny_ready (rs := [7]) (by kernel_rfl) (by simp) ?_
                                refine AllReady.cons rfl (fun K hK => ?_) ?_
                                · go_simp
                                  refine hK _ _ ?_
                                  clear hK K
                                  refine wpAny_done (by kernel_rfl) ?_ _
                                  have HK11 := Lib.hid (HK10.out.put (.cells #[.string op, .slice lA ln lc, .slice kA kn kc, .string qop, .slice qA ql.length qc, .slice qB qk.length qe] 46) (.string y.s) (.slice none 0 0) (.slice (some ⟨w10.heap.size, 0, none⟩) 2 2))
                                  obtain ⟨w11, hw11⟩ : ∃ W, ((((w10.alloc (.cells #[.string op, .slice lA ln lc, .slice kA kn kc, .string qop, .slice qA ql.length qc, .slice qB qk.length qe] 46)).setCell ⟨wp.heap.size, 0, none⟩ (.string y.s)).setCell ⟨wp.heap.size, 1, none⟩ (.slice none 0 0)).setCell ⟨wp.heap.size, 2, none⟩ (.slice (some ⟨w10.heap.size, 0, none⟩) 2 2)) = W := ⟨_, rfl⟩
                                  rw [hw11] at HK11 ⊢
                                  have HO11 := Lib.hid (HK10.out.two (W1 := w9) HRd.out HQv.out.1 HK9.out.o.lt y.s (.string y.s) (.slice none 0 0) (.slice (some ⟨w10.heap.size, 0, none⟩) 2 2))
                                  rw [hw11] at HO11
                                  go_wp2_with fail
                                  refine (take_no HK11.out.p HG.out Hu.out Hs41.out).mono ?_
                                  rintro e w12 ⟨rfl, hb⟩
                                  have HK12 := Lib.hid (HK11.out.on hb)
                                  clear hb HK11
                                  go_wp2_with fail
                                  refine (must_no HK12.out.p HG.out Hu.out).mono ?_
                                  rintro e w13 ⟨rfl, hb⟩
                                  have hk := HK12.out.on hb
                                  exact door_bad (m + 1) w13 (by have := HS.out; omega) hk.p (fun w' h1 h2 => Got.bad HV.out HAt.out h1 (hk.f.trans h2))
                                exact AllReady.nil
                              exact AllReady.nil
                            exact AllReady.nil
                          refine AllReady.cons rfl (fun K hK => ?_) ?_
                          · go_simp
                            refine hK _ _ ?_
                            clear hK K
                            refine wpAny_ready (rs := [1]) (by kernel_rfl) (by simp) ?_
                            refine AllReady.cons rfl (fun K hK => ?_) ?_
                            · go_simp
                              refine hK _ _ ?_
                              clear hK K
                              refine wpAny_ready (rs := [6]) (by kernel_rfl) (by simp) ?_
                              refine AllReady.cons rfl (fun K hK => ?_) ?_
                              · go_simp
                                refine hK _ _ ?_
                                clear hK K
                                refine wpAny_ready (rs := [7]) (by kernel_rfl) (by simp) ?_
                                refine AllReady.cons rfl (fun K hK => ?_) ?_
                                · go_simp
                                  refine hK _ _ ?_
                                  clear hK K
                                  refine wpAny_done (by kernel_rfl) ?_ _
                                  have HK11 := Lib.hid (HK10.out.put (.cells #[.string op, .slice lA ln lc, .slice kA kn kc, .string qop, .slice qA ql.length qc, .slice qB qk.length qe] 46) (.string y.s) (.slice none 0 0) (.slice (some ⟨w10.heap.size, 0, none⟩) 2 2))
                                  obtain ⟨w11, hw11⟩ : ∃ W, ((((w10.alloc (.cells #[.string op, .slice lA ln lc, .slice kA kn kc, .string qop, .slice qA ql.length qc, .slice qB qk.length qe] 46)).setCell ⟨wp.heap.size, 0, none⟩ (.string y.s)).setCell ⟨wp.heap.size, 1, none⟩ (.slice none 0 0)).setCell ⟨wp.heap.size, 2, none⟩ (.slice (some ⟨w10.heap.size, 0, none⟩) 2 2)) = W := ⟨_, rfl⟩
                                  rw [hw11] at HK11 ⊢
                                  have HO11 := Lib.hid (HK10.out.two (W1 := w9) HRd.out HQv.out.1 HK9.out.o.lt y.s (.string y.s) (.slice none 0 0) (.slice (some ⟨w10.heap.size, 0, none⟩) 2 2))
                                  rw [hw11] at HO11
                                  go_wp2_with fail
                                  refine (take_no HK11.out.p HG.out Hu.out Hs41.out).mono ?_
                                  rintro e w12 ⟨rfl, hb⟩
                                  have HK12 := Lib.hid (HK11.out.on hb)
                                  clear hb HK11
                                  go_wp2_with fail
                                  refine (must_no HK12.out.p HG.out Hu.out).mono ?_
                                  rintro e w13 ⟨rfl, hb⟩
                                  have hk := HK12.out.on hb
                                  exact door_bad (m + 1) w13 (by have := HS.out; omega) hk.p (fun w' h1 h2 => Got.bad HV.out HAt.out h1 (hk.f.trans h2))
                                exact AllReady.nil
                              exact AllReady.nil
                            exact AllReady.nil
                          exact AllReady.nil
                        exact AllReady.nil
                      refine AllReady.cons rfl (fun K hK => ?_) ?_
                      · go_simp
                        refine (HPd.out _ (HK9.out.p.on (drewN_below _ 1))).mono ?_
                        rintro e w10 hg
                        rw [HQ.out] at hg
                        obtain ⟨vq, rfl, hvq, hpq, hoq⟩ := hg
                        obtain ⟨qA, qc, qB, qe, rfl⟩ := hvq.shape
                        have hdq : FR pb w9 w10 := (FR.of (drewN_below _ 1)).trans hoq
                        have HK10 := Lib.hid (HK9.out.go hpq hdq)
                        obtain ⟨t100, t101, t102, t103, t104⟩ := HK10.out.word
                        obtain ⟨o100, o101, o102, p100, p101, p102⟩ := HK10.out.out3
                        obtain ⟨ta0, ta1, ta2, ta3, ta4⟩ := (HK10.out.on ((Below.refl _ _).alloc (Nat.le_refl _) (.cells #[.string op, .slice lA ln lc, .slice kA kn kc, .string qop, .slice qA ql.length qc, .slice qB qk.length qe] 46))).word
                        obtain ⟨oa0, oa1, oa2, pa0, pa1, pa2⟩ := (HK10.out.on ((Below.refl _ _).alloc (Nat.le_refl _) (.cells #[.string op, .slice lA ln lc, .slice kA kn kc, .string qop, .slice qA ql.length qc, .slice qB qk.length qe] 46))).out3
                        have HQv := Lib.hid (And.intro hvq hdq)
                        clear hvq hpq hoq hdq
                        refine hK _ _ ?_
                        clear hK K
                        refine wpAny_ready (rs := [1, 2]) (by kernel_rfl) (by simp) ?_
                        refine AllReady.cons rfl (fun K hK => ?_) ?_
                        · go_simp
                          refine hK _ _ ?_
                          clear hK K
                          refine wpAny_ready (rs := [2]) (by kernel_rfl) (by simp) ?_
                          refine AllReady.cons rfl (fun K hK => ?_) ?_
                          · go_simp
                            refine hK _ _ ?_
                            clear hK K
                            refine wpAny_ready (rs := [5]) (by kernel_rfl) (by simp) ?_
                            refine AllReady.cons rfl (fun K hK => ?_) ?_
                            · go_simp
                              refine hK _ _ ?_
                              clear hK K
                              refine wpAny_ready (rs := [6]) (by kernel_rfl) (by simp) ?_
                              refine AllReady.cons rfl (fun K hK => ?_) ?_
                              · go_simp
                                refine hK _ _ ?_
                                clear hK K
                                refine wpAny_ready (rs := [7]) (by kernel_rfl) (by simp) ?_
                                refine AllReady.cons rfl (fun K hK => ?_) ?_
                                · go_simp
                                  refine hK _ _ ?_
                                  clear hK K
                                  refine wpAny_done (by kernel_rfl) ?_ _
                                  have HK11 := Lib.hid (HK10.out.put (.cells #[.string op, .slice lA ln lc, .slice kA kn kc, .string qop, .slice qA ql.length qc, .slice qB qk.length qe] 46) (.string y.s) (.slice none 0 0) (.slice (some ⟨w10.heap.size, 0, none⟩) 2 2))
                                  obtain ⟨w11, hw11⟩ : ∃ W, ((((w10.alloc (.cells #[.string op, .slice lA ln lc, .slice kA kn kc, .string qop, .slice qA ql.length qc, .slice qB qk.length qe] 46)).setCell ⟨wp.heap.size, 0, none⟩ (.string y.s)).setCell ⟨wp.heap.size, 1, none⟩ (.slice none 0 0)).setCell ⟨wp.heap.size, 2, none⟩ (.slice (some ⟨w10.heap.size, 0, none⟩) 2 2)) = W := ⟨_, rfl⟩
                                  rw [hw11] at HK11 ⊢
                                  have HO11 := Lib.hid (HK10.out.two (W1 := w9) HRd.out HQv.out.1 HK9.out.o.lt y.s (.string y.s) (.slice none 0 0) (.slice (some ⟨w10.heap.size, 0, none⟩) 2 2))
                                  rw [hw11] at HO11
                                  go_wp2_with fail
                                  refine (take_no HK11.out.p HG.out Hu.out Hs41.out).mono ?_
                                  rintro e w12 ⟨rfl, hb⟩
                                  have HK12 := Lib.hid (HK11.out.on hb)
                                  clear hb HK11
                                  go_wp2_with fail
                                  refine (must_no HK12.out.p HG.out Hu.out).mono ?_
                                  rintro e w13 ⟨rfl, hb⟩
                                  have hk := HK12.out.on hb
                                  exact door_bad (m + 1) w13 (by have := HS.out; omega) hk.p (fun w' h1 h2 => Got.bad HV.out HAt.out h1 (hk.f.trans h2))
                                exact AllReady.nil
                              exact AllReady.nil
                            exact AllReady.nil
                          exact AllReady.nil
                        refine AllReady.cons rfl (fun K hK => ?_) ?_
                        · go_simp
                          refine hK _ _ ?_
                          clear hK K
                          refine wpAny_ready (rs := [1, 5]) (by kernel_rfl) (by simp) ?_
                          refine AllReady.cons rfl (fun K hK => ?_) ?_
                          · go_simp
                            refine hK _ _ ?_
                            clear hK K
                            refine wpAny_ready (rs := [5]) (by kernel_rfl) (by simp) ?_
                            refine AllReady.cons rfl (fun K hK => ?_) ?_
                            · go_simp
                              refine hK _ _ ?_
                              clear hK K
                              refine wpAny_ready (rs := [6]) (by kernel_rfl) (by simp) ?_
                              refine AllReady.cons rfl (fun K hK => ?_) ?_
                              · go_simp
                                refine hK _ _ ?_
                                clear hK K
                                refine wpAny_ready (rs := [7]) (by kernel_rfl) (by simp) ?_
                                refine AllReady.cons rfl (fun K hK => ?_) ?_
                                · go_simp
                                  refine hK _ _ ?_
                                  clear hK K
                                  refine wpAny_done (by kernel_rfl) ?_ _
                                  have HK11 := Lib.hid (HK10.out.put (.cells #[.string op, .slice lA ln lc, .slice kA kn kc, .string qop, .slice qA ql.length qc, .slice qB qk.length qe] 46) (.string y.s) (.slice none 0 0) (.slice (some ⟨w10.heap.size, 0, none⟩) 2 2))
                                  obtain ⟨w11, hw11⟩ : ∃ W, ((((w10.alloc (.cells #[.string op, .slice lA ln lc, .slice kA kn kc, .string qop, .slice qA ql.length qc, .slice qB qk.length qe] 46)).setCell ⟨wp.heap.size, 0, none⟩ (.string y.s)).setCell ⟨wp.heap.size, 1, none⟩ (.slice none 0 0)).setCell ⟨wp.heap.size, 2, none⟩ (.slice (some ⟨w10.heap.size, 0, none⟩) 2 2)) = W := ⟨_, rfl⟩
                                  rw [hw11] at HK11 ⊢
                                  have HO11 := Lib.hid (HK10.out.two (W1 := w9) HRd.out HQv.out.1 HK9.out.o.lt y.s (.string y.s) (.slice none 0 0) (.slice (some ⟨w10.heap.size, 0, none⟩) 2 2))
                                  rw [hw11] at HO11
                                  go_wp2_with fail
                                  refine (take_no HK11.out.p HG.out Hu.out Hs41.out).mono ?_
                                  rintro e w12 ⟨rfl, hb⟩
                                  have HK12 := Lib.hid (HK11.out.on hb)
                                  clear hb HK11
                                  go_wp2_with fail
                                  refine (must_no HK12.out.p HG.out Hu.out).mono ?_
                                  rintro e w13 ⟨rfl, hb⟩
                                  have hk := HK12.out.on hb
                                  exact door_bad (m + 1) w13 (by have := HS.out; omega) hk.p (fun w' h1 h2 => Got.bad HV.out HAt.out h1 (hk.f.trans h2))
                                exact AllReady.nil
                              exact AllReady.nil
                            exact AllReady.nil
                          refine AllReady.cons rfl (fun K hK => ?_) ?_
                          · go_simp
                            refine hK _ _ ?_
                            clear hK K
                            refine wpAny_ready (rs := [1]) (by kernel_rfl) (by simp) ?_
                            refine AllReady.cons rfl (fun K hK => ?_) ?_
                            · go_simp
                              refine hK _ _ ?_
                              clear hK K
                              refine wpAny_ready (rs := [6]) (by kernel_rfl) (by simp) ?_
                              refine AllReady.cons rfl (fun K hK => ?_) ?_
                              · go_simp
                                refine hK _ _ ?_
                                clear hK K
                                refine wpAny_ready (rs := [7]) (by kernel_rfl) (by simp) ?_
                                refine AllReady.cons rfl (fun K hK => ?_) ?_
                                · go_simp
                                  refine hK _ _ ?_
                                  clear hK K
                                  refine wpAny_done (by kernel_rfl) ?_ _
                                  have HK11 := Lib.hid (HK10.out.put (.cells #[.string op, .slice lA ln lc, .slice kA kn kc, .string qop, .slice qA ql.length qc, .slice qB qk.length qe] 46) (.string y.s) (.slice none 0 0) (.slice (some ⟨w10.heap.size, 0, none⟩) 2 2))
                                  obtain ⟨w11, hw11⟩ : ∃ W, ((((w10.alloc (.cells #[.string op, .slice lA ln lc, .slice kA kn kc, .string qop, .slice qA ql.length qc, .slice qB qk.length qe] 46)).setCell ⟨wp.heap.size, 0, none⟩ (.string y.s)).setCell ⟨wp.heap.size, 1, none⟩ (.slice none 0 0)).setCell ⟨wp.heap.size, 2, none⟩ (.slice (some ⟨w10.heap.size, 0, none⟩) 2 2)) = W := ⟨_, rfl⟩
                                  rw [hw11] at HK11 ⊢
                                  have HO11 := Lib.hid (HK10.out.two (W1 := w9) HRd.out HQv.out.1 HK9.out.o.lt y.s (.string y.s) (.slice none 0 0) (.slice (some ⟨w10.heap.size, 0, none⟩) 2 2))
                                  rw [hw11] at HO11
                                  go_wp2_with fail
                                  refine (take_no HK11.out.p HG.out Hu.out Hs41.out).mono ?_
                                  rintro e w12 ⟨rfl, hb⟩
                                  have HK12 := Lib.hid (HK11.out.on hb)
                                  clear hb HK11
                                  go_wp2_with fail
                                  refine (must_no HK12.out.p HG.out Hu.out).mono ?_
                                  rintro e w13 ⟨rfl, hb⟩
                                  have hk := HK12.out.on hb
                                  exact door_bad (m + 1) w13 (by have := HS.out; omega) hk.p (fun w' h1 h2 => Got.bad HV.out HAt.out h1 (hk.f.trans h2))
                                exact AllReady.nil
                              exact AllReady.nil
                            exact AllReady.nil
                          exact AllReady.nil
                        exact AllReady.nil
                      exact AllReady.nil
                    · have Hs41 := Lib.hid hs41
                      obtain ⟨i5, hi5⟩ : ∃ q, s2.i + 1 = q := ⟨_, rfl⟩
                      have Hi5 := Lib.hid hi5
                      have HV : Hid (r = pJoin (gx ws) kk (.mk y.s [] [out, .mk qop ql qk]) ⟨i5, s2.n⟩) := Lib.hid (Hr.out.eq.trans ((pJoin_go (s := ⟨i1, n1⟩) hg46 hjg hg40 hneg hgpa (by rw [h34]; exact hq) (by rw [gx_of hu]; exact hs41)).trans (by rw [hss, hi5])))
                      clear ho hrd hx1 hs1 hd hg46 hy hy' hgy hj h HAy HAz HAv hi2 hi3 hi4 hjg hgz hz hss hneg hs40 hg40 hi4l hgv hv hpa hgpa hq h34 hs41 hu hs2 hi5
                      go_wp2_with fail
                      refine (take_yes Hr.out.p HG.out Hx1.out Hs1.out).mono ?_
                      rintro e w1 ⟨rfl, hp, ho⟩
                      rw [Hi2.out] at hp
                      have HP1 := Lib.hid (And.intro hp ho)
                      clear hp ho
                      go_wp2_with fail
                      refine (word_any HP1.out.1 HG.out Hy.out).mono ?_
                      rintro e w2 ⟨rfl, hb⟩
                      obtain ⟨w3, hw3⟩ : ∃ w3, w2.alloc (.cells #[.int .i64 y.k, .string y.s, .int .i64 y.n, .float .f64 y.f, .int .i64 (y.at_ : Nat)] 56) = w3 := ⟨_, rfl⟩
                      have hb3 : Below w2.heap.size w2 w3 := by rw [← hw3]; exact (Below.refl _ _).alloc (Nat.le_refl _) _
                      have ht3 : Blk w3 w2.heap.size 56 #[.int .i64 y.k, .string y.s, .int .i64 y.n, .float .f64 y.f, .int .i64 (y.at_ : Nat)] := by rw [← hw3]; exact Blk.new _ _ _
                      have HK3 := Lib.hid (PK.start (dd := d) Hr.out Ho.out HP1.out.1 HP1.out.2 hb hb3 ht3 Hpl.out)
                      obtain ⟨t30, t31, t32, t33, t34⟩ := HK3.out.word
                      clear hb hb3 ht3 HP1
                      go_wp2_with fail
                      refine (isName_any y ⟨#[97, 110, 100]⟩ _).mono ?_
                      rintro e w4 ⟨rfl, hb⟩
                      have HK4 := Lib.hid (HK3.out.on hb)
                      obtain ⟨t40, t41, t42, t43, t44⟩ := HK4.out.word
                      clear hb HK3
                      rw [HA.out]
                      go_wp2_with fail
                      refine (isName_any y ⟨#[111, 114]⟩ _).mono ?_
                      rintro e w5 ⟨rfl, hb⟩
                      have HK5 := Lib.hid (HK4.out.on hb)
                      obtain ⟨t50, t51, t52, t53, t54⟩ := HK5.out.word
                      clear hb HK4
                      rw [HR.out]
                      go_wp2_with fail
                      refine (must_yes _).mono ?_
                      rintro e w' ⟨rfl, rfl⟩
                      go_wp2_with fail
                      refine (down_any HK5.out.p HG.out Hy.out (by have := HS.out; omega)).mono ?_
                      rintro e w6 (⟨h1, -⟩ | ⟨-, rfl, hp, ho, -⟩)
                      · have := HS.out; omega
                      have HK6 := Lib.hid (HK5.out.go hp ho)
                      obtain ⟨-, c6, -, -, z6, -, -, -⟩ := HK6.out.p.cells
                      clear hp ho HK5
                      go_wp2_with fail
                      have HK7 := Lib.hid (HK6.out.go (HK6.out.p.next Hi2l.out) (fr_put (Only.refl _ _) 1 _))
                      clear HK6 c6 z6
                      obtain ⟨w7, hw7⟩ : ∃ W, w6.setCell ⟨pb, 1, none⟩ (.int .i64 ((i2 : Int) + 1)) = W := ⟨_, rfl⟩
                      rw [hw7] at HK7 ⊢
                      rw [Hi3.out] at HK7
                      refine (take_yes HK7.out.p HG.out Hz.out Hs40.out).mono ?_
                      rintro e w8 ⟨rfl, hp, ho⟩
                      rw [Hi4.out] at hp
                      have HK8 := Lib.hid (HK7.out.go hp ho)
                      clear hp ho HK7
                      obtain ⟨t80, t81, t82, t83, t84⟩ := HK8.out.word
                      obtain ⟨o80, o81, o82, p80, p81, p82⟩ := HK8.out.out3
                      go_wp2_with fail
                      refine (must_yes _).mono ?_
                      rintro e w' ⟨rfl, rfl⟩
                      go_wp2_with fail
                      refine (predAhead_any HK8.out.p HG.out Hv.out).mono ?_
                      rintro e w9 ⟨rfl, hb⟩
                      have HK9 := Lib.hid (HK8.out.on hb)
                      obtain ⟨t90, t91, t92, t93, t94⟩ := HK9.out.word
                      obtain ⟨o90, o91, o92, p90, p91, p92⟩ := HK9.out.out3
                      clear hb
                      rw [Hpa.out]
                      go_wp2_with fail
                      refine (must_yes _).mono ?_
                      rintro e w' ⟨rfl, rfl⟩
                      go_wp2_with fail
                      refine wp_region_any (by kernel_rfl) ?_
                      try (change wpAny _ _ _ _ _ _ _ (World.drew _))
                      refine wpAny_take (i := 0) (v := .pointer (some ⟨w2.heap.size, 1, none⟩)) rfl (by kernel_rfl) (by kernel_rfl) (by kernel_rfl) (fun c a W h => leaves_tmps (res_put 47 _ a (by decide)) _ _ _ h) (Or.inl ⟨by rfl, ?_⟩) ?_
                      · intro wq
                        go_simp
                      refine wpAny_take (i := 3) (v := .pointer (some ⟨pb, 0, none⟩)) rfl (by kernel_rfl) (by kernel_rfl) (by kernel_rfl) (fun c a W h => leaves_tmps (res_put 50 _ a (by decide)) _ _ _ h) (Or.inl ⟨by rfl, ?_⟩) ?_
                      · intro wq
                        go_simp
                      refine wpAny_ready (rs := [1, 2, 4]) (by kernel_rfl) (by simp) ?_
                      refine AllReady.cons rfl (fun K hK => ?_) ?_
                      · go_simp
                        refine hK _ _ ?_
                        clear hK K
                        refine wpAny_ready (rs := [2, 4]) (by kernel_rfl) (by simp) ?_
                        refine AllReady.cons rfl (fun K hK => ?_) ?_
                        · go_simp
                          refine hK _ _ ?_
                          clear hK K
                          refine wpAny_ready (rs := [4]) (by kernel_rfl) (by simp) ?_
                          refine AllReady.cons rfl (fun K hK => ?_) ?_
                          · go_simp
                            refine (HPd.out _ (HK9.out.p.on (drewN_below _ 1))).mono ?_
                            rintro e w10 hg
                            rw [HQ.out] at hg
                            obtain ⟨vq, rfl, hvq, hpq, hoq⟩ := hg
                            obtain ⟨qA, qc, qB, qe, rfl⟩ := hvq.shape
                            have hdq : FR pb w9 w10 := (FR.of (drewN_below _ 1)).trans hoq
                            have HK10 := Lib.hid (HK9.out.go hpq hdq)
                            obtain ⟨t100, t101, t102, t103, t104⟩ := HK10.out.word
                            obtain ⟨o100, o101, o102, p100, p101, p102⟩ := HK10.out.out3
                            obtain ⟨ta0, ta1, ta2, ta3, ta4⟩ := (HK10.out.on ((Below.refl _ _).alloc (Nat.le_refl _) (.cells #[.string op, .slice lA ln lc, .slice kA kn kc, .string qop, .slice qA ql.length qc, .slice qB qk.length qe] 46))).word
                            obtain ⟨oa0, oa1, oa2, pa0, pa1, pa2⟩ := (HK10.out.on ((Below.refl _ _).alloc (Nat.le_refl _) (.cells #[.string op, .slice lA ln lc, .slice kA kn kc, .string qop, .slice qA ql.length qc, .slice qB qk.length qe] 46))).out3
                            have HQv := Lib.hid (And.intro hvq hdq)
                            clear hvq hpq hoq hdq
                            refine hK _ _ ?_
                            clear hK K
                            refine wpAny_ready (rs := [5]) (by kernel_rfl) (by simp) ?_
                            refine AllReady.cons rfl (fun K hK => ?_) ?_
                            · go_simp
                              refine hK _ _ ?_
                              clear hK K
                              refine wpAny_ready (rs := [6]) (by kernel_rfl) (by simp) ?_
                              refine AllReady.cons rfl (fun K hK => ?_) ?_
                              · go_simp
                                refine hK _ _ ?_
                                clear hK K
                                refine wpAny_ready (rs := [7]) (by kernel_rfl) (by simp) ?_
                                refine AllReady.cons rfl (fun K hK => ?_) ?_
                                · go_simp
                                  refine hK _ _ ?_
                                  clear hK K
                                  refine wpAny_done (by kernel_rfl) ?_ _
                                  have HK11 := Lib.hid (HK10.out.put (.cells #[.string op, .slice lA ln lc, .slice kA kn kc, .string qop, .slice qA ql.length qc, .slice qB qk.length qe] 46) (.string y.s) (.slice none 0 0) (.slice (some ⟨w10.heap.size, 0, none⟩) 2 2))
                                  obtain ⟨w11, hw11⟩ : ∃ W, ((((w10.alloc (.cells #[.string op, .slice lA ln lc, .slice kA kn kc, .string qop, .slice qA ql.length qc, .slice qB qk.length qe] 46)).setCell ⟨wp.heap.size, 0, none⟩ (.string y.s)).setCell ⟨wp.heap.size, 1, none⟩ (.slice none 0 0)).setCell ⟨wp.heap.size, 2, none⟩ (.slice (some ⟨w10.heap.size, 0, none⟩) 2 2)) = W := ⟨_, rfl⟩
                                  rw [hw11] at HK11 ⊢
                                  have HO11 := Lib.hid (HK10.out.two (W1 := w9) HRd.out HQv.out.1 HK9.out.o.lt y.s (.string y.s) (.slice none 0 0) (.slice (some ⟨w10.heap.size, 0, none⟩) 2 2))
                                  rw [hw11] at HO11
                                  go_wp2_with fail
                                  refine (take_yes HK11.out.p HG.out Hu.out Hs41.out).mono ?_
                                  rintro e w12 ⟨rfl, hp, ho⟩
                                  rw [Hi5.out] at hp
                                  have HK12 := Lib.hid (HK11.out.go hp ho)
                                  have HO12 := Lib.hid (rd_far HO11.out ho Hpl.out.1)
                                  clear hp ho
                                  go_wp2_with fail
                                  refine (must_yes _).mono ?_
                                  rintro e w' ⟨rfl, rfl⟩
                                  go_wp2_with fail
                                  refine ⟨⟨m + 1, .mk y.s [] [out, .mk qop ql qk], kk, i5, s2.n, ?_⟩, ?_⟩
                                  · (repeat apply Exists.intro)
                                    refine ⟨?_, rfl⟩
                                    exact Lib.hid (PK.back HK12.out (HV.out) (by have := HS.out; omega) (by omega) HO12.out)
                                  · show 13 - (List.replicate (m + 1) (upD pb)).length < 13 - (List.replicate m (upD pb)).length
                                    have := HS.out
                                    rw [List.length_replicate, List.length_replicate]
                                    omega
                                exact AllReady.nil
                              exact AllReady.nil
                            exact AllReady.nil
                          exact AllReady.nil
                        refine AllReady.cons rfl (fun K hK => ?_) ?_
                        · go_simp
                          refine (HPd.out _ (HK9.out.p.on (drewN_below _ 1))).mono ?_
                          rintro e w10 hg
                          rw [HQ.out] at hg
                          obtain ⟨vq, rfl, hvq, hpq, hoq⟩ := hg
                          obtain ⟨qA, qc, qB, qe, rfl⟩ := hvq.shape
                          have hdq : FR pb w9 w10 := (FR.of (drewN_below _ 1)).trans hoq
                          have HK10 := Lib.hid (HK9.out.go hpq hdq)
                          obtain ⟨t100, t101, t102, t103, t104⟩ := HK10.out.word
                          obtain ⟨o100, o101, o102, p100, p101, p102⟩ := HK10.out.out3
                          obtain ⟨ta0, ta1, ta2, ta3, ta4⟩ := (HK10.out.on ((Below.refl _ _).alloc (Nat.le_refl _) (.cells #[.string op, .slice lA ln lc, .slice kA kn kc, .string qop, .slice qA ql.length qc, .slice qB qk.length qe] 46))).word
                          obtain ⟨oa0, oa1, oa2, pa0, pa1, pa2⟩ := (HK10.out.on ((Below.refl _ _).alloc (Nat.le_refl _) (.cells #[.string op, .slice lA ln lc, .slice kA kn kc, .string qop, .slice qA ql.length qc, .slice qB qk.length qe] 46))).out3
                          have HQv := Lib.hid (And.intro hvq hdq)
                          clear hvq hpq hoq hdq
                          refine hK _ _ ?_
                          clear hK K
                          refine wpAny_ready (rs := [2]) (by kernel_rfl) (by simp) ?_
                          refine AllReady.cons rfl (fun K hK => ?_) ?_
                          · go_simp
                            refine hK _ _ ?_
                            clear hK K
                            refine wpAny_ready (rs := [5]) (by kernel_rfl) (by simp) ?_
                            refine AllReady.cons rfl (fun K hK => ?_) ?_
                            · go_simp
                              refine hK _ _ ?_
                              clear hK K
                              refine wpAny_ready (rs := [6]) (by kernel_rfl) (by simp) ?_
                              refine AllReady.cons rfl (fun K hK => ?_) ?_
                              · go_simp
                                refine hK _ _ ?_
                                clear hK K
                                refine wpAny_ready (rs := [7]) (by kernel_rfl) (by simp) ?_
                                refine AllReady.cons rfl (fun K hK => ?_) ?_
                                · go_simp
                                  refine hK _ _ ?_
                                  clear hK K
                                  refine wpAny_done (by kernel_rfl) ?_ _
                                  have HK11 := Lib.hid (HK10.out.put (.cells #[.string op, .slice lA ln lc, .slice kA kn kc, .string qop, .slice qA ql.length qc, .slice qB qk.length qe] 46) (.string y.s) (.slice none 0 0) (.slice (some ⟨w10.heap.size, 0, none⟩) 2 2))
                                  obtain ⟨w11, hw11⟩ : ∃ W, ((((w10.alloc (.cells #[.string op, .slice lA ln lc, .slice kA kn kc, .string qop, .slice qA ql.length qc, .slice qB qk.length qe] 46)).setCell ⟨wp.heap.size, 0, none⟩ (.string y.s)).setCell ⟨wp.heap.size, 1, none⟩ (.slice none 0 0)).setCell ⟨wp.heap.size, 2, none⟩ (.slice (some ⟨w10.heap.size, 0, none⟩) 2 2)) = W := ⟨_, rfl⟩
                                  rw [hw11] at HK11 ⊢
                                  have HO11 := Lib.hid (HK10.out.two (W1 := w9) HRd.out HQv.out.1 HK9.out.o.lt y.s (.string y.s) (.slice none 0 0) (.slice (some ⟨w10.heap.size, 0, none⟩) 2 2))
                                  rw [hw11] at HO11
                                  go_wp2_with fail
                                  refine (take_yes HK11.out.p HG.out Hu.out Hs41.out).mono ?_
                                  rintro e w12 ⟨rfl, hp, ho⟩
                                  rw [Hi5.out] at hp
                                  have HK12 := Lib.hid (HK11.out.go hp ho)
                                  have HO12 := Lib.hid (rd_far HO11.out ho Hpl.out.1)
                                  clear hp ho
                                  go_wp2_with fail
                                  refine (must_yes _).mono ?_
                                  rintro e w' ⟨rfl, rfl⟩
                                  go_wp2_with fail
                                  refine ⟨⟨m + 1, .mk y.s [] [out, .mk qop ql qk], kk, i5, s2.n, ?_⟩, ?_⟩
                                  · (repeat apply Exists.intro)
                                    refine ⟨?_, rfl⟩
                                    exact Lib.hid (PK.back HK12.out (HV.out) (by have := HS.out; omega) (by omega) HO12.out)
                                  · show 13 - (List.replicate (m + 1) (upD pb)).length < 13 - (List.replicate m (upD pb)).length
                                    have := HS.out
                                    rw [List.length_replicate, List.length_replicate]
                                    omega
                                exact AllReady.nil
                              exact AllReady.nil
                            exact AllReady.nil
                          exact AllReady.nil
                        exact AllReady.nil
                      refine AllReady.cons rfl (fun K hK => ?_) ?_
                      · go_simp
                        refine hK _ _ ?_
                        clear hK K
                        refine wpAny_ready (rs := [1, 4]) (by kernel_rfl) (by simp) ?_
                        refine AllReady.cons rfl (fun K hK => ?_) ?_
                        · go_simp
                          refine hK _ _ ?_
                          clear hK K
                          refine wpAny_ready (rs := [4]) (by kernel_rfl) (by simp) ?_
                          refine AllReady.cons rfl (fun K hK => ?_) ?_
                          · go_simp
                            refine (HPd.out _ (HK9.out.p.on (drewN_below _ 1))).mono ?_
                            rintro e w10 hg
                            rw [HQ.out] at hg
                            obtain ⟨vq, rfl, hvq, hpq, hoq⟩ := hg
                            obtain ⟨qA, qc, qB, qe, rfl⟩ := hvq.shape
                            have hdq : FR pb w9 w10 := (FR.of (drewN_below _ 1)).trans hoq
                            have HK10 := Lib.hid (HK9.out.go hpq hdq)
                            obtain ⟨t100, t101, t102, t103, t104⟩ := HK10.out.word
                            obtain ⟨o100, o101, o102, p100, p101, p102⟩ := HK10.out.out3
                            obtain ⟨ta0, ta1, ta2, ta3, ta4⟩ := (HK10.out.on ((Below.refl _ _).alloc (Nat.le_refl _) (.cells #[.string op, .slice lA ln lc, .slice kA kn kc, .string qop, .slice qA ql.length qc, .slice qB qk.length qe] 46))).word
                            obtain ⟨oa0, oa1, oa2, pa0, pa1, pa2⟩ := (HK10.out.on ((Below.refl _ _).alloc (Nat.le_refl _) (.cells #[.string op, .slice lA ln lc, .slice kA kn kc, .string qop, .slice qA ql.length qc, .slice qB qk.length qe] 46))).out3
                            have HQv := Lib.hid (And.intro hvq hdq)
                            clear hvq hpq hoq hdq
                            refine hK _ _ ?_
                            clear hK K
                            refine wpAny_ready (rs := [5]) (by kernel_rfl) (by simp) ?_
                            refine AllReady.cons rfl (fun K hK => ?_) ?_
                            · go_simp
                              refine hK _ _ ?_
                              clear hK K
                              refine wpAny_ready (rs := [6]) (by kernel_rfl) (by simp) ?_
                              refine AllReady.cons rfl (fun K hK => ?_) ?_
                              · go_simp
                                refine hK _ _ ?_
                                clear hK K
                                refine wpAny_ready (rs := [7]) (by kernel_rfl) (by simp) ?_
                                refine AllReady.cons rfl (fun K hK => ?_) ?_
                                · go_simp
                                  refine hK _ _ ?_
                                  clear hK K
                                  refine wpAny_done (by kernel_rfl) ?_ _
                                  have HK11 := Lib.hid (HK10.out.put (.cells #[.string op, .slice lA ln lc, .slice kA kn kc, .string qop, .slice qA ql.length qc, .slice qB qk.length qe] 46) (.string y.s) (.slice none 0 0) (.slice (some ⟨w10.heap.size, 0, none⟩) 2 2))
                                  obtain ⟨w11, hw11⟩ : ∃ W, ((((w10.alloc (.cells #[.string op, .slice lA ln lc, .slice kA kn kc, .string qop, .slice qA ql.length qc, .slice qB qk.length qe] 46)).setCell ⟨wp.heap.size, 0, none⟩ (.string y.s)).setCell ⟨wp.heap.size, 1, none⟩ (.slice none 0 0)).setCell ⟨wp.heap.size, 2, none⟩ (.slice (some ⟨w10.heap.size, 0, none⟩) 2 2)) = W := ⟨_, rfl⟩
                                  rw [hw11] at HK11 ⊢
                                  have HO11 := Lib.hid (HK10.out.two (W1 := w9) HRd.out HQv.out.1 HK9.out.o.lt y.s (.string y.s) (.slice none 0 0) (.slice (some ⟨w10.heap.size, 0, none⟩) 2 2))
                                  rw [hw11] at HO11
                                  go_wp2_with fail
                                  refine (take_yes HK11.out.p HG.out Hu.out Hs41.out).mono ?_
                                  rintro e w12 ⟨rfl, hp, ho⟩
                                  rw [Hi5.out] at hp
                                  have HK12 := Lib.hid (HK11.out.go hp ho)
                                  have HO12 := Lib.hid (rd_far HO11.out ho Hpl.out.1)
                                  clear hp ho
                                  go_wp2_with fail
                                  refine (must_yes _).mono ?_
                                  rintro e w' ⟨rfl, rfl⟩
                                  go_wp2_with fail
                                  refine ⟨⟨m + 1, .mk y.s [] [out, .mk qop ql qk], kk, i5, s2.n, ?_⟩, ?_⟩
                                  · (repeat apply Exists.intro)
                                    refine ⟨?_, rfl⟩
                                    exact Lib.hid (PK.back HK12.out (HV.out) (by have := HS.out; omega) (by omega) HO12.out)
                                  · show 13 - (List.replicate (m + 1) (upD pb)).length < 13 - (List.replicate m (upD pb)).length
                                    have := HS.out
                                    rw [List.length_replicate, List.length_replicate]
                                    omega
                                exact AllReady.nil
                              exact AllReady.nil
                            exact AllReady.nil
                          exact AllReady.nil
                        refine AllReady.cons rfl (fun K hK => ?_) ?_
                        · go_simp
                          refine (HPd.out _ (HK9.out.p.on (drewN_below _ 1))).mono ?_
                          rintro e w10 hg
                          rw [HQ.out] at hg
                          obtain ⟨vq, rfl, hvq, hpq, hoq⟩ := hg
                          obtain ⟨qA, qc, qB, qe, rfl⟩ := hvq.shape
                          have hdq : FR pb w9 w10 := (FR.of (drewN_below _ 1)).trans hoq
                          have HK10 := Lib.hid (HK9.out.go hpq hdq)
                          obtain ⟨t100, t101, t102, t103, t104⟩ := HK10.out.word
                          obtain ⟨o100, o101, o102, p100, p101, p102⟩ := HK10.out.out3
                          obtain ⟨ta0, ta1, ta2, ta3, ta4⟩ := (HK10.out.on ((Below.refl _ _).alloc (Nat.le_refl _) (.cells #[.string op, .slice lA ln lc, .slice kA kn kc, .string qop, .slice qA ql.length qc, .slice qB qk.length qe] 46))).word
                          obtain ⟨oa0, oa1, oa2, pa0, pa1, pa2⟩ := (HK10.out.on ((Below.refl _ _).alloc (Nat.le_refl _) (.cells #[.string op, .slice lA ln lc, .slice kA kn kc, .string qop, .slice qA ql.length qc, .slice qB qk.length qe] 46))).out3
                          have HQv := Lib.hid (And.intro hvq hdq)
                          clear hvq hpq hoq hdq
                          refine hK _ _ ?_
                          clear hK K
                          refine wpAny_ready (rs := [1, 5]) (by kernel_rfl) (by simp) ?_
                          refine AllReady.cons rfl (fun K hK => ?_) ?_
                          · go_simp
                            refine hK _ _ ?_
                            clear hK K
                            refine wpAny_ready (rs := [5]) (by kernel_rfl) (by simp) ?_
                            refine AllReady.cons rfl (fun K hK => ?_) ?_
                            · go_simp
                              refine hK _ _ ?_
                              clear hK K
                              refine wpAny_ready (rs := [6]) (by kernel_rfl) (by simp) ?_
                              refine AllReady.cons rfl (fun K hK => ?_) ?_
                              · go_simp
                                refine hK _ _ ?_
                                clear hK K
                                refine wpAny_ready (rs := [7]) (by kernel_rfl) (by simp) ?_
                                refine AllReady.cons rfl (fun K hK => ?_) ?_
                                · go_simp
                                  refine hK _ _ ?_
                                  clear hK K
                                  refine wpAny_done (by kernel_rfl) ?_ _
                                  have HK11 := Lib.hid (HK10.out.put (.cells #[.string op, .slice lA ln lc, .slice kA kn kc, .string qop, .slice qA ql.length qc, .slice qB qk.length qe] 46) (.string y.s) (.slice none 0 0) (.slice (some ⟨w10.heap.size, 0, none⟩) 2 2))
                                  obtain ⟨w11, hw11⟩ : ∃ W, ((((w10.alloc (.cells #[.string op, .slice lA ln lc, .slice kA kn kc, .string qop, .slice qA ql.length qc, .slice qB qk.length qe] 46)).setCell ⟨wp.heap.size, 0, none⟩ (.string y.s)).setCell ⟨wp.heap.size, 1, none⟩ (.slice none 0 0)).setCell ⟨wp.heap.size, 2, none⟩ (.slice (some ⟨w10.heap.size, 0, none⟩) 2 2)) = W := ⟨_, rfl⟩
                                  rw [hw11] at HK11 ⊢
                                  have HO11 := Lib.hid (HK10.out.two (W1 := w9) HRd.out HQv.out.1 HK9.out.o.lt y.s (.string y.s) (.slice none 0 0) (.slice (some ⟨w10.heap.size, 0, none⟩) 2 2))
                                  rw [hw11] at HO11
                                  go_wp2_with fail
                                  refine (take_yes HK11.out.p HG.out Hu.out Hs41.out).mono ?_
                                  rintro e w12 ⟨rfl, hp, ho⟩
                                  rw [Hi5.out] at hp
                                  have HK12 := Lib.hid (HK11.out.go hp ho)
                                  have HO12 := Lib.hid (rd_far HO11.out ho Hpl.out.1)
                                  clear hp ho
                                  go_wp2_with fail
                                  refine (must_yes _).mono ?_
                                  rintro e w' ⟨rfl, rfl⟩
                                  go_wp2_with fail
                                  refine ⟨⟨m + 1, .mk y.s [] [out, .mk qop ql qk], kk, i5, s2.n, ?_⟩, ?_⟩
                                  · (repeat apply Exists.intro)
                                    refine ⟨?_, rfl⟩
                                    exact Lib.hid (PK.back HK12.out (HV.out) (by have := HS.out; omega) (by omega) HO12.out)
                                  · show 13 - (List.replicate (m + 1) (upD pb)).length < 13 - (List.replicate m (upD pb)).length
                                    have := HS.out
                                    rw [List.length_replicate, List.length_replicate]
                                    omega
                                exact AllReady.nil
                              exact AllReady.nil
                            exact AllReady.nil
                          refine AllReady.cons rfl (fun K hK => ?_) ?_
                          · go_simp
                            refine hK _ _ ?_
                            clear hK K
                            refine wpAny_ready (rs := [1]) (by kernel_rfl) (by simp) ?_
                            refine AllReady.cons rfl (fun K hK => ?_) ?_
                            · go_simp
                              refine hK _ _ ?_
                              clear hK K
                              refine wpAny_ready (rs := [6]) (by kernel_rfl) (by simp) ?_
                              refine AllReady.cons rfl (fun K hK => ?_) ?_
                              · go_simp
                                refine hK _ _ ?_
                                clear hK K
                                refine wpAny_ready (rs := [7]) (by kernel_rfl) (by simp) ?_
                                refine AllReady.cons rfl (fun K hK => ?_) ?_
                                · go_simp
                                  refine hK _ _ ?_
                                  clear hK K
                                  refine wpAny_done (by kernel_rfl) ?_ _
                                  have HK11 := Lib.hid (HK10.out.put (.cells #[.string op, .slice lA ln lc, .slice kA kn kc, .string qop, .slice qA ql.length qc, .slice qB qk.length qe] 46) (.string y.s) (.slice none 0 0) (.slice (some ⟨w10.heap.size, 0, none⟩) 2 2))
                                  obtain ⟨w11, hw11⟩ : ∃ W, ((((w10.alloc (.cells #[.string op, .slice lA ln lc, .slice kA kn kc, .string qop, .slice qA ql.length qc, .slice qB qk.length qe] 46)).setCell ⟨wp.heap.size, 0, none⟩ (.string y.s)).setCell ⟨wp.heap.size, 1, none⟩ (.slice none 0 0)).setCell ⟨wp.heap.size, 2, none⟩ (.slice (some ⟨w10.heap.size, 0, none⟩) 2 2)) = W := ⟨_, rfl⟩
                                  rw [hw11] at HK11 ⊢
                                  have HO11 := Lib.hid (HK10.out.two (W1 := w9) HRd.out HQv.out.1 HK9.out.o.lt y.s (.string y.s) (.slice none 0 0) (.slice (some ⟨w10.heap.size, 0, none⟩) 2 2))
                                  rw [hw11] at HO11
                                  go_wp2_with fail
                                  refine (take_yes HK11.out.p HG.out Hu.out Hs41.out).mono ?_
                                  rintro e w12 ⟨rfl, hp, ho⟩
                                  rw [Hi5.out] at hp
                                  have HK12 := Lib.hid (HK11.out.go hp ho)
                                  have HO12 := Lib.hid (rd_far HO11.out ho Hpl.out.1)
                                  clear hp ho
                                  go_wp2_with fail
                                  refine (must_yes _).mono ?_
                                  rintro e w' ⟨rfl, rfl⟩
                                  go_wp2_with fail
                                  refine ⟨⟨m + 1, .mk y.s [] [out, .mk qop ql qk], kk, i5, s2.n, ?_⟩, ?_⟩
                                  · (repeat apply Exists.intro)
                                    refine ⟨?_, rfl⟩
                                    exact Lib.hid (PK.back HK12.out (HV.out) (by have := HS.out; omega) (by omega) HO12.out)
                                  · show 13 - (List.replicate (m + 1) (upD pb)).length < 13 - (List.replicate m (upD pb)).length
                                    have := HS.out
                                    rw [List.length_replicate, List.length_replicate]
                                    omega
                                exact AllReady.nil
                              exact AllReady.nil
                            exact AllReady.nil
                          exact AllReady.nil
                        exact AllReady.nil
                      refine AllReady.cons rfl (fun K hK => ?_) ?_
                      · go_simp
                        refine (HPd.out _ (HK9.out.p.on (drewN_below _ 1))).mono ?_
                        rintro e w10 hg
                        rw [HQ.out] at hg
                        obtain ⟨vq, rfl, hvq, hpq, hoq⟩ := hg
                        obtain ⟨qA, qc, qB, qe, rfl⟩ := hvq.shape
                        have hdq : FR pb w9 w10 := (FR.of (drewN_below _ 1)).trans hoq
                        have HK10 := Lib.hid (HK9.out.go hpq hdq)
                        obtain ⟨t100, t101, t102, t103, t104⟩ := HK10.out.word
                        obtain ⟨o100, o101, o102, p100, p101, p102⟩ := HK10.out.out3
                        obtain ⟨ta0, ta1, ta2, ta3, ta4⟩ := (HK10.out.on ((Below.refl _ _).alloc (Nat.le_refl _) (.cells #[.string op, .slice lA ln lc, .slice kA kn kc, .string qop, .slice qA ql.length qc, .slice qB qk.length qe] 46))).word
                        obtain ⟨oa0, oa1, oa2, pa0, pa1, pa2⟩ := (HK10.out.on ((Below.refl _ _).alloc (Nat.le_refl _) (.cells #[.string op, .slice lA ln lc, .slice kA kn kc, .string qop, .slice qA ql.length qc, .slice qB qk.length qe] 46))).out3
                        have HQv := Lib.hid (And.intro hvq hdq)
                        clear hvq hpq hoq hdq
                        refine hK _ _ ?_
                        clear hK K
                        refine wpAny_ready (rs := [1, 2]) (by kernel_rfl) (by simp) ?_
                        refine AllReady.cons rfl (fun K hK => ?_) ?_
                        · go_simp
                          refine hK _ _ ?_
                          clear hK K
                          refine wpAny_ready (rs := [2]) (by kernel_rfl) (by simp) ?_
                          refine AllReady.cons rfl (fun K hK => ?_) ?_
                          · go_simp
                            refine hK _ _ ?_
                            clear hK K
                            refine wpAny_ready (rs := [5]) (by kernel_rfl) (by simp) ?_
                            refine AllReady.cons rfl (fun K hK => ?_) ?_
                            · go_simp
                              refine hK _ _ ?_
                              clear hK K
                              refine wpAny_ready (rs := [6]) (by kernel_rfl) (by simp) ?_
                              refine AllReady.cons rfl (fun K hK => ?_) ?_
                              · go_simp
                                refine hK _ _ ?_
                                clear hK K
                                refine wpAny_ready (rs := [7]) (by kernel_rfl) (by simp) ?_
                                refine AllReady.cons rfl (fun K hK => ?_) ?_
                                · go_simp
                                  refine hK _ _ ?_
                                  clear hK K
                                  refine wpAny_done (by kernel_rfl) ?_ _
                                  have HK11 := Lib.hid (HK10.out.put (.cells #[.string op, .slice lA ln lc, .slice kA kn kc, .string qop, .slice qA ql.length qc, .slice qB qk.length qe] 46) (.string y.s) (.slice none 0 0) (.slice (some ⟨w10.heap.size, 0, none⟩) 2 2))
                                  obtain ⟨w11, hw11⟩ : ∃ W, ((((w10.alloc (.cells #[.string op, .slice lA ln lc, .slice kA kn kc, .string qop, .slice qA ql.length qc, .slice qB qk.length qe] 46)).setCell ⟨wp.heap.size, 0, none⟩ (.string y.s)).setCell ⟨wp.heap.size, 1, none⟩ (.slice none 0 0)).setCell ⟨wp.heap.size, 2, none⟩ (.slice (some ⟨w10.heap.size, 0, none⟩) 2 2)) = W := ⟨_, rfl⟩
                                  rw [hw11] at HK11 ⊢
                                  have HO11 := Lib.hid (HK10.out.two (W1 := w9) HRd.out HQv.out.1 HK9.out.o.lt y.s (.string y.s) (.slice none 0 0) (.slice (some ⟨w10.heap.size, 0, none⟩) 2 2))
                                  rw [hw11] at HO11
                                  go_wp2_with fail
                                  refine (take_yes HK11.out.p HG.out Hu.out Hs41.out).mono ?_
                                  rintro e w12 ⟨rfl, hp, ho⟩
                                  rw [Hi5.out] at hp
                                  have HK12 := Lib.hid (HK11.out.go hp ho)
                                  have HO12 := Lib.hid (rd_far HO11.out ho Hpl.out.1)
                                  clear hp ho
                                  go_wp2_with fail
                                  refine (must_yes _).mono ?_
                                  rintro e w' ⟨rfl, rfl⟩
                                  go_wp2_with fail
                                  refine ⟨⟨m + 1, .mk y.s [] [out, .mk qop ql qk], kk, i5, s2.n, ?_⟩, ?_⟩
                                  · (repeat apply Exists.intro)
                                    refine ⟨?_, rfl⟩
                                    exact Lib.hid (PK.back HK12.out (HV.out) (by have := HS.out; omega) (by omega) HO12.out)
                                  · show 13 - (List.replicate (m + 1) (upD pb)).length < 13 - (List.replicate m (upD pb)).length
                                    have := HS.out
                                    rw [List.length_replicate, List.length_replicate]
                                    omega
                                exact AllReady.nil
                              exact AllReady.nil
                            exact AllReady.nil
                          exact AllReady.nil
                        refine AllReady.cons rfl (fun K hK => ?_) ?_
                        · go_simp
                          refine hK _ _ ?_
                          clear hK K
                          refine wpAny_ready (rs := [1, 5]) (by kernel_rfl) (by simp) ?_
                          refine AllReady.cons rfl (fun K hK => ?_) ?_
                          · go_simp
                            refine hK _ _ ?_
                            clear hK K
                            refine wpAny_ready (rs := [5]) (by kernel_rfl) (by simp) ?_
                            refine AllReady.cons rfl (fun K hK => ?_) ?_
                            · go_simp
                              refine hK _ _ ?_
                              clear hK K
                              refine wpAny_ready (rs := [6]) (by kernel_rfl) (by simp) ?_
                              refine AllReady.cons rfl (fun K hK => ?_) ?_
                              · go_simp
                                refine hK _ _ ?_
                                clear hK K
                                refine wpAny_ready (rs := [7]) (by kernel_rfl) (by simp) ?_
                                refine AllReady.cons rfl (fun K hK => ?_) ?_
                                · go_simp
                                  refine hK _ _ ?_
                                  clear hK K
                                  refine wpAny_done (by kernel_rfl) ?_ _
                                  have HK11 := Lib.hid (HK10.out.put (.cells #[.string op, .slice lA ln lc, .slice kA kn kc, .string qop, .slice qA ql.length qc, .slice qB qk.length qe] 46) (.string y.s) (.slice none 0 0) (.slice (some ⟨w10.heap.size, 0, none⟩) 2 2))
                                  obtain ⟨w11, hw11⟩ : ∃ W, ((((w10.alloc (.cells #[.string op, .slice lA ln lc, .slice kA kn kc, .string qop, .slice qA ql.length qc, .slice qB qk.length qe] 46)).setCell ⟨wp.heap.size, 0, none⟩ (.string y.s)).setCell ⟨wp.heap.size, 1, none⟩ (.slice none 0 0)).setCell ⟨wp.heap.size, 2, none⟩ (.slice (some ⟨w10.heap.size, 0, none⟩) 2 2)) = W := ⟨_, rfl⟩
                                  rw [hw11] at HK11 ⊢
                                  have HO11 := Lib.hid (HK10.out.two (W1 := w9) HRd.out HQv.out.1 HK9.out.o.lt y.s (.string y.s) (.slice none 0 0) (.slice (some ⟨w10.heap.size, 0, none⟩) 2 2))
                                  rw [hw11] at HO11
                                  go_wp2_with fail
                                  refine (take_yes HK11.out.p HG.out Hu.out Hs41.out).mono ?_
                                  rintro e w12 ⟨rfl, hp, ho⟩
                                  rw [Hi5.out] at hp
                                  have HK12 := Lib.hid (HK11.out.go hp ho)
                                  have HO12 := Lib.hid (rd_far HO11.out ho Hpl.out.1)
                                  clear hp ho
                                  go_wp2_with fail
                                  refine (must_yes _).mono ?_
                                  rintro e w' ⟨rfl, rfl⟩
                                  go_wp2_with fail
                                  refine ⟨⟨m + 1, .mk y.s [] [out, .mk qop ql qk], kk, i5, s2.n, ?_⟩, ?_⟩
                                  · (repeat apply Exists.intro)
                                    refine ⟨?_, rfl⟩
                                    exact Lib.hid (PK.back HK12.out (HV.out) (by have := HS.out; omega) (by omega) HO12.out)
                                  · show 13 - (List.replicate (m + 1) (upD pb)).length < 13 - (List.replicate m (upD pb)).length
                                    have := HS.out
                                    rw [List.length_replicate, List.length_replicate]
                                    omega
                                exact AllReady.nil
                              exact AllReady.nil
                            exact AllReady.nil
                          refine AllReady.cons rfl (fun K hK => ?_) ?_
                          · go_simp
                            refine hK _ _ ?_
                            clear hK K
                            refine wpAny_ready (rs := [1]) (by kernel_rfl) (by simp) ?_
                            refine AllReady.cons rfl (fun K hK => ?_) ?_
                            · go_simp
                              refine hK _ _ ?_
                              clear hK K
                              refine wpAny_ready (rs := [6]) (by kernel_rfl) (by simp) ?_
                              refine AllReady.cons rfl (fun K hK => ?_) ?_
                              · go_simp
                                refine hK _ _ ?_
                                clear hK K
                                refine wpAny_ready (rs := [7]) (by kernel_rfl) (by simp) ?_
                                refine AllReady.cons rfl (fun K hK => ?_) ?_
                                · go_simp
                                  refine hK _ _ ?_
                                  clear hK K
                                  refine wpAny_done (by kernel_rfl) ?_ _
                                  have HK11 := Lib.hid (HK10.out.put (.cells #[.string op, .slice lA ln lc, .slice kA kn kc, .string qop, .slice qA ql.length qc, .slice qB qk.length qe] 46) (.string y.s) (.slice none 0 0) (.slice (some ⟨w10.heap.size, 0, none⟩) 2 2))
                                  obtain ⟨w11, hw11⟩ : ∃ W, ((((w10.alloc (.cells #[.string op, .slice lA ln lc, .slice kA kn kc, .string qop, .slice qA ql.length qc, .slice qB qk.length qe] 46)).setCell ⟨wp.heap.size, 0, none⟩ (.string y.s)).setCell ⟨wp.heap.size, 1, none⟩ (.slice none 0 0)).setCell ⟨wp.heap.size, 2, none⟩ (.slice (some ⟨w10.heap.size, 0, none⟩) 2 2)) = W := ⟨_, rfl⟩
                                  rw [hw11] at HK11 ⊢
                                  have HO11 := Lib.hid (HK10.out.two (W1 := w9) HRd.out HQv.out.1 HK9.out.o.lt y.s (.string y.s) (.slice none 0 0) (.slice (some ⟨w10.heap.size, 0, none⟩) 2 2))
                                  rw [hw11] at HO11
                                  go_wp2_with fail
                                  refine (take_yes HK11.out.p HG.out Hu.out Hs41.out).mono ?_
                                  rintro e w12 ⟨rfl, hp, ho⟩
                                  rw [Hi5.out] at hp
                                  have HK12 := Lib.hid (HK11.out.go hp ho)
                                  have HO12 := Lib.hid (rd_far HO11.out ho Hpl.out.1)
                                  clear hp ho
                                  go_wp2_with fail
                                  refine (must_yes _).mono ?_
                                  rintro e w' ⟨rfl, rfl⟩
                                  go_wp2_with fail
                                  refine ⟨⟨m + 1, .mk y.s [] [out, .mk qop ql qk], kk, i5, s2.n, ?_⟩, ?_⟩
                                  · (repeat apply Exists.intro)
                                    refine ⟨?_, rfl⟩
                                    exact Lib.hid (PK.back HK12.out (HV.out) (by have := HS.out; omega) (by omega) HO12.out)
                                  · show 13 - (List.replicate (m + 1) (upD pb)).length < 13 - (List.replicate m (upD pb)).length
                                    have := HS.out
                                    rw [List.length_replicate, List.length_replicate]
                                    omega
                                exact AllReady.nil
                              exact AllReady.nil
                            exact AllReady.nil
                          exact AllReady.nil
                        exact AllReady.nil
                      exact AllReady.nil
          · have HA : Hid ((decide (y.k = 1) && isL y (⟨#[97, 110, 100]⟩ : ByteArray).data.toList) = false) := Lib.hid h''
            have HR : Hid ((decide (y.k = 1) && isL y (⟨#[111, 114]⟩ : ByteArray).data.toList) = false) := Lib.hid h'
            have HN : Hid ((decide (y.k = 1) && isL y (⟨#[110, 101, 103, 97, 116, 101]⟩ : ByteArray).data.toList) = true) := Lib.hid h
            have hneg : isL (gx ws ((Ps.mk i1 n1).i + 1)) txNeg = true := by rw [hgy]; exact beq_iff_eq.2 (nam_list h).2
            have eneg : (y.s.toList == [110, 101, 103, 97, 116, 101]) = true := beq_nat_list (nam_list h).2
            clear h'' h'
            cases kk with
            | zero =>
              have HAt := HAy
              have HV : Hid (r = .bad ((Ps.mk i1 n1).i + 1) 3) := Lib.hid (Hr.out.eq.trans (pJoin_deep (s := ⟨i1, n1⟩) hg46 hjg))
              clear ho hrd hx1 hs1 hd hg46 hy hy' hgy hj h HAy HAz hi2 hi3 hjg hgz hz hss hneg eneg
              go_wp2_with fail
              refine (take_yes Hr.out.p HG.out Hx1.out Hs1.out).mono ?_
              rintro e w1 ⟨rfl, hp, ho⟩
              rw [Hi2.out] at hp
              have HP1 := Lib.hid (And.intro hp ho)
              clear hp ho
              go_wp2_with fail
              refine (word_any HP1.out.1 HG.out Hy.out).mono ?_
              rintro e w2 ⟨rfl, hb⟩
              obtain ⟨w3, hw3⟩ : ∃ w3, w2.alloc (.cells #[.int .i64 y.k, .string y.s, .int .i64 y.n, .float .f64 y.f, .int .i64 (y.at_ : Nat)] 56) = w3 := ⟨_, rfl⟩
              have hb3 : Below w2.heap.size w2 w3 := by rw [← hw3]; exact (Below.refl _ _).alloc (Nat.le_refl _) _
              have ht3 : Blk w3 w2.heap.size 56 #[.int .i64 y.k, .string y.s, .int .i64 y.n, .float .f64 y.f, .int .i64 (y.at_ : Nat)] := by rw [← hw3]; exact Blk.new _ _ _
              have HK3 := Lib.hid (PK.start (dd := d) Hr.out Ho.out HP1.out.1 HP1.out.2 hb hb3 ht3 Hpl.out)
              obtain ⟨t30, t31, t32, t33, t34⟩ := HK3.out.word
              clear hb hb3 ht3 HP1
              go_wp2_with fail
              refine (isName_any y ⟨#[97, 110, 100]⟩ _).mono ?_
              rintro e w4 ⟨rfl, hb⟩
              have HK4 := Lib.hid (HK3.out.on hb)
              obtain ⟨t40, t41, t42, t43, t44⟩ := HK4.out.word
              clear hb HK3
              rw [HA.out]
              go_wp2_with fail
              refine (isName_any y ⟨#[111, 114]⟩ _).mono ?_
              rintro e w5 ⟨rfl, hb⟩
              have HK5 := Lib.hid (HK4.out.on hb)
              obtain ⟨t50, t51, t52, t53, t54⟩ := HK5.out.word
              clear hb HK4
              rw [HR.out]
              go_wp2_with fail
              refine (isName_any y ⟨#[110, 101, 103, 97, 116, 101]⟩ _).mono ?_
              rintro e w6 ⟨rfl, hb⟩
              have HK6 := Lib.hid (HK5.out.on hb)
              obtain ⟨t60, t61, t62, t63, t64⟩ := HK6.out.word
              clear hb HK5
              rw [HN.out]
              go_wp2_with fail
              refine (must_yes _).mono ?_
              rintro e w' ⟨rfl, rfl⟩
              go_wp2_with fail
              refine (down_any HK6.out.p HG.out Hy.out (by have := HS.out; omega)).mono ?_
              rintro e w7 (⟨-, rfl, hb⟩ | ⟨h1, -⟩)
              · have hk := HK6.out.on hb
                exact door_bad m w7 (by have := HS.out; omega) hk.p (fun w' h1 h2 => Got.bad HV.out HAt.out h1 (hk.f.trans h2))
              · have := HS.out; omega
            | succ kk =>
              cases hs40 : isSgn z 40
              · have Hs40 := Lib.hid hs40
                have HAt := HAz
                have HV : Hid (r = .bad ((Ps.mk i1 n1).i + 2) 120) := Lib.hid (Hr.out.eq.trans (pJoin_open (s := ⟨i1, n1⟩) hg46 hjg (by rw [hgz]; exact hs40)))
                clear ho hrd hx1 hs1 hd hg46 hy hy' hgy hj h HAy HAz hi2 hi3 hjg hgz hz hss hneg eneg hs40
                go_wp2_with fail
                refine (take_yes Hr.out.p HG.out Hx1.out Hs1.out).mono ?_
                rintro e w1 ⟨rfl, hp, ho⟩
                rw [Hi2.out] at hp
                have HP1 := Lib.hid (And.intro hp ho)
                clear hp ho
                go_wp2_with fail
                refine (word_any HP1.out.1 HG.out Hy.out).mono ?_
                rintro e w2 ⟨rfl, hb⟩
                obtain ⟨w3, hw3⟩ : ∃ w3, w2.alloc (.cells #[.int .i64 y.k, .string y.s, .int .i64 y.n, .float .f64 y.f, .int .i64 (y.at_ : Nat)] 56) = w3 := ⟨_, rfl⟩
                have hb3 : Below w2.heap.size w2 w3 := by rw [← hw3]; exact (Below.refl _ _).alloc (Nat.le_refl _) _
                have ht3 : Blk w3 w2.heap.size 56 #[.int .i64 y.k, .string y.s, .int .i64 y.n, .float .f64 y.f, .int .i64 (y.at_ : Nat)] := by rw [← hw3]; exact Blk.new _ _ _
                have HK3 := Lib.hid (PK.start (dd := d) Hr.out Ho.out HP1.out.1 HP1.out.2 hb hb3 ht3 Hpl.out)
                obtain ⟨t30, t31, t32, t33, t34⟩ := HK3.out.word
                clear hb hb3 ht3 HP1
                go_wp2_with fail
                refine (isName_any y ⟨#[97, 110, 100]⟩ _).mono ?_
                rintro e w4 ⟨rfl, hb⟩
                have HK4 := Lib.hid (HK3.out.on hb)
                obtain ⟨t40, t41, t42, t43, t44⟩ := HK4.out.word
                clear hb HK3
                rw [HA.out]
                go_wp2_with fail
                refine (isName_any y ⟨#[111, 114]⟩ _).mono ?_
                rintro e w5 ⟨rfl, hb⟩
                have HK5 := Lib.hid (HK4.out.on hb)
                obtain ⟨t50, t51, t52, t53, t54⟩ := HK5.out.word
                clear hb HK4
                rw [HR.out]
                go_wp2_with fail
                refine (isName_any y ⟨#[110, 101, 103, 97, 116, 101]⟩ _).mono ?_
                rintro e w6 ⟨rfl, hb⟩
                have HK6 := Lib.hid (HK5.out.on hb)
                obtain ⟨t60, t61, t62, t63, t64⟩ := HK6.out.word
                clear hb HK5
                rw [HN.out]
                go_wp2_with fail
                refine (must_yes _).mono ?_
                rintro e w' ⟨rfl, rfl⟩
                go_wp2_with fail
                refine (down_any HK6.out.p HG.out Hy.out (by have := HS.out; omega)).mono ?_
                rintro e w7 (⟨h1, -⟩ | ⟨-, rfl, hp, ho, -⟩)
                · have := HS.out; omega
                have HK7 := Lib.hid (HK6.out.go hp ho)
                obtain ⟨-, c7, -, -, z7, -, -, -⟩ := HK7.out.p.cells
                clear hp ho HK6
                go_wp2_with fail
                have HK8 := Lib.hid (HK7.out.go (HK7.out.p.next Hi2l.out) (fr_put (Only.refl _ _) 1 _))
                clear HK7 c7 z7
                obtain ⟨w8, hw8⟩ : ∃ W, w7.setCell ⟨pb, 1, none⟩ (.int .i64 ((i2 : Int) + 1)) = W := ⟨_, rfl⟩
                rw [hw8] at HK8 ⊢
                rw [Hi3.out] at HK8
                refine (take_no HK8.out.p HG.out Hz.out Hs40.out).mono ?_
                rintro e w9 ⟨rfl, hb⟩
                have HK9 := Lib.hid (HK8.out.on hb)
                clear hb HK8
                go_wp2_with fail
                refine (must_no HK9.out.p HG.out Hz.out).mono ?_
                rintro e w10 ⟨rfl, hb⟩
                have hk := HK9.out.on hb
                exact door_bad (m + 1) w10 (by have := HS.out; omega) hk.p (fun w' h1 h2 => Got.bad HV.out HAt.out h1 (hk.f.trans h2))
              · have Hs40 := Lib.hid hs40
                have hg40 : isSgn (gx ws ((Ps.mk i1 n1).i + 2)) 40 = true := by rw [hgz]; exact hs40
                have hi4l := sgn_next HG.out hz hs40
                obtain ⟨i4, hi4⟩ : ∃ q, i3 + 1 = q := ⟨_, rfl⟩
                have Hi4 := Lib.hid hi4
                obtain ⟨v, hv⟩ : ∃ v, ws[i4]? = some v := ⟨_, List.getElem?_eq_getElem (by omega)⟩
                have Hv := Lib.hid hv
                have hgv : gx ws ((Ps.mk i1 n1).i + 3) = { v with at_ := 0 } := by rw [show (Ps.mk i1 n1).i + 3 = i4 by show i1 + 3 = i4; omega]; exact gx_of hv
                have HAv : Hid ((ws.getD ((Ps.mk i1 n1).i + 3) wdNone).at_ = v.at_) := Lib.hid (by rw [show (Ps.mk i1 n1).i + 3 = i4 by show i1 + 3 = i4; omega]; exact congrArg Wd.at_ (getD_of hv))
                cases hs41 : isSgn v 41
                · have Hs41 := Lib.hid hs41
                  have HAt := HAv
                  have HV : Hid (r = .bad ((Ps.mk i1 n1).i + 3) 120) := Lib.hid (Hr.out.eq.trans (pJoin_neg0 (s := ⟨i1, n1⟩) hg46 hjg hg40 hneg (by rw [hgv]; exact hs41)))
                  clear ho hrd hx1 hs1 hd hg46 hy hy' hgy hj h HAy HAz HAv hi2 hi3 hi4 hjg hgz hz hss hneg hs40 hg40 hi4l hgv hv hs41
                  go_wp2_with fail
                  refine (take_yes Hr.out.p HG.out Hx1.out Hs1.out).mono ?_
                  rintro e w1 ⟨rfl, hp, ho⟩
                  rw [Hi2.out] at hp
                  have HP1 := Lib.hid (And.intro hp ho)
                  clear hp ho
                  go_wp2_with fail
                  refine (word_any HP1.out.1 HG.out Hy.out).mono ?_
                  rintro e w2 ⟨rfl, hb⟩
                  obtain ⟨w3, hw3⟩ : ∃ w3, w2.alloc (.cells #[.int .i64 y.k, .string y.s, .int .i64 y.n, .float .f64 y.f, .int .i64 (y.at_ : Nat)] 56) = w3 := ⟨_, rfl⟩
                  have hb3 : Below w2.heap.size w2 w3 := by rw [← hw3]; exact (Below.refl _ _).alloc (Nat.le_refl _) _
                  have ht3 : Blk w3 w2.heap.size 56 #[.int .i64 y.k, .string y.s, .int .i64 y.n, .float .f64 y.f, .int .i64 (y.at_ : Nat)] := by rw [← hw3]; exact Blk.new _ _ _
                  have HK3 := Lib.hid (PK.start (dd := d) Hr.out Ho.out HP1.out.1 HP1.out.2 hb hb3 ht3 Hpl.out)
                  obtain ⟨t30, t31, t32, t33, t34⟩ := HK3.out.word
                  clear hb hb3 ht3 HP1
                  go_wp2_with fail
                  refine (isName_any y ⟨#[97, 110, 100]⟩ _).mono ?_
                  rintro e w4 ⟨rfl, hb⟩
                  have HK4 := Lib.hid (HK3.out.on hb)
                  obtain ⟨t40, t41, t42, t43, t44⟩ := HK4.out.word
                  clear hb HK3
                  rw [HA.out]
                  go_wp2_with fail
                  refine (isName_any y ⟨#[111, 114]⟩ _).mono ?_
                  rintro e w5 ⟨rfl, hb⟩
                  have HK5 := Lib.hid (HK4.out.on hb)
                  obtain ⟨t50, t51, t52, t53, t54⟩ := HK5.out.word
                  clear hb HK4
                  rw [HR.out]
                  go_wp2_with fail
                  refine (isName_any y ⟨#[110, 101, 103, 97, 116, 101]⟩ _).mono ?_
                  rintro e w6 ⟨rfl, hb⟩
                  have HK6 := Lib.hid (HK5.out.on hb)
                  obtain ⟨t60, t61, t62, t63, t64⟩ := HK6.out.word
                  clear hb HK5
                  rw [HN.out]
                  go_wp2_with fail
                  refine (must_yes _).mono ?_
                  rintro e w' ⟨rfl, rfl⟩
                  go_wp2_with fail
                  refine (down_any HK6.out.p HG.out Hy.out (by have := HS.out; omega)).mono ?_
                  rintro e w7 (⟨h1, -⟩ | ⟨-, rfl, hp, ho, -⟩)
                  · have := HS.out; omega
                  have HK7 := Lib.hid (HK6.out.go hp ho)
                  obtain ⟨-, c7, -, -, z7, -, -, -⟩ := HK7.out.p.cells
                  clear hp ho HK6
                  go_wp2_with fail
                  have HK8 := Lib.hid (HK7.out.go (HK7.out.p.next Hi2l.out) (fr_put (Only.refl _ _) 1 _))
                  clear HK7 c7 z7
                  obtain ⟨w8, hw8⟩ : ∃ W, w7.setCell ⟨pb, 1, none⟩ (.int .i64 ((i2 : Int) + 1)) = W := ⟨_, rfl⟩
                  rw [hw8] at HK8 ⊢
                  rw [Hi3.out] at HK8
                  refine (take_yes HK8.out.p HG.out Hz.out Hs40.out).mono ?_
                  rintro e w9 ⟨rfl, hp, ho⟩
                  rw [Hi4.out] at hp
                  have HK9 := Lib.hid (HK8.out.go hp ho)
                  clear hp ho HK8
                  obtain ⟨oa0, oa1, oa2, pa0, pa1, pa2⟩ := (HK9.out.on ((Below.refl _ _).alloc (Nat.le_refl _) (.cells #[.string op, .slice lA ln lc, .slice kA kn kc] 46))).out3
                  obtain ⟨t90, t91, t92, t93, t94⟩ := HK9.out.word
                  obtain ⟨o90, o91, o92, p90, p91, p92⟩ := HK9.out.out3
                  go_wp2_with fail
                  refine (must_yes _).mono ?_
                  rintro e w' ⟨rfl, rfl⟩
                  go_wp2_with fail
                  have HK10 := Lib.hid (HK9.out.put (.cells #[.string op, .slice lA ln lc, .slice kA kn kc] 46) (.string ⟨#[110, 111, 116]⟩) (.slice none 0 0) (.slice (some ⟨w9.heap.size, 0, none⟩) 1 1))
                  obtain ⟨w10, hw10⟩ : ∃ W, ((((w9.alloc (.cells #[.string op, .slice lA ln lc, .slice kA kn kc] 46)).setCell ⟨wp.heap.size, 0, none⟩ (.string ⟨#[110, 111, 116]⟩)).setCell ⟨wp.heap.size, 1, none⟩ (.slice none 0 0)).setCell ⟨wp.heap.size, 2, none⟩ (.slice (some ⟨w9.heap.size, 0, none⟩) 1 1)) = W := ⟨_, rfl⟩
                  rw [hw10] at HK10 ⊢
                  have HO10 := Lib.hid (HK9.out.one HRd.out ⟨#[110, 111, 116]⟩ (.string ⟨#[110, 111, 116]⟩) (.slice none 0 0) (.slice (some ⟨w9.heap.size, 0, none⟩) 1 1))
                  rw [hw10] at HO10
                  clear HK9
                  refine (take_no HK10.out.p HG.out Hv.out Hs41.out).mono ?_
                  rintro e w11 ⟨rfl, hb⟩
                  have HK11 := Lib.hid (HK10.out.on hb)
                  clear hb HK10
                  go_wp2_with fail
                  refine (must_no HK11.out.p HG.out Hv.out).mono ?_
                  rintro e w12 ⟨rfl, hb⟩
                  have hk := HK11.out.on hb
                  exact door_bad (m + 1) w12 (by have := HS.out; omega) hk.p (fun w' h1 h2 => Got.bad HV.out HAt.out h1 (hk.f.trans h2))
                · have Hs41 := Lib.hid hs41
                  obtain ⟨i5, hi5⟩ : ∃ q, i4 + 1 = q := ⟨_, rfl⟩
                  have Hi5 := Lib.hid hi5
                  have HV : Hid (r = pJoin (gx ws) kk (.mk ⟨#[110, 111, 116]⟩ [] [out]) ⟨i5, n1⟩) := Lib.hid (Hr.out.eq.trans ((pJoin_neg (s := ⟨i1, n1⟩) hg46 hjg hg40 hneg (by rw [hgv]; exact hs41)).trans (by rw [show (Ps.mk i1 n1).i + 4 = i5 by show i1 + 4 = i5; omega]; rfl)))
                  clear ho hrd hx1 hs1 hd hg46 hy hy' hgy hj h HAy HAz HAv hi2 hi3 hi4 hjg hgz hz hss hneg hs40 hg40 hi4l hgv hv hs41 hi5
                  go_wp2_with fail
                  refine (take_yes Hr.out.p HG.out Hx1.out Hs1.out).mono ?_
                  rintro e w1 ⟨rfl, hp, ho⟩
                  rw [Hi2.out] at hp
                  have HP1 := Lib.hid (And.intro hp ho)
                  clear hp ho
                  go_wp2_with fail
                  refine (word_any HP1.out.1 HG.out Hy.out).mono ?_
                  rintro e w2 ⟨rfl, hb⟩
                  obtain ⟨w3, hw3⟩ : ∃ w3, w2.alloc (.cells #[.int .i64 y.k, .string y.s, .int .i64 y.n, .float .f64 y.f, .int .i64 (y.at_ : Nat)] 56) = w3 := ⟨_, rfl⟩
                  have hb3 : Below w2.heap.size w2 w3 := by rw [← hw3]; exact (Below.refl _ _).alloc (Nat.le_refl _) _
                  have ht3 : Blk w3 w2.heap.size 56 #[.int .i64 y.k, .string y.s, .int .i64 y.n, .float .f64 y.f, .int .i64 (y.at_ : Nat)] := by rw [← hw3]; exact Blk.new _ _ _
                  have HK3 := Lib.hid (PK.start (dd := d) Hr.out Ho.out HP1.out.1 HP1.out.2 hb hb3 ht3 Hpl.out)
                  obtain ⟨t30, t31, t32, t33, t34⟩ := HK3.out.word
                  clear hb hb3 ht3 HP1
                  go_wp2_with fail
                  refine (isName_any y ⟨#[97, 110, 100]⟩ _).mono ?_
                  rintro e w4 ⟨rfl, hb⟩
                  have HK4 := Lib.hid (HK3.out.on hb)
                  obtain ⟨t40, t41, t42, t43, t44⟩ := HK4.out.word
                  clear hb HK3
                  rw [HA.out]
                  go_wp2_with fail
                  refine (isName_any y ⟨#[111, 114]⟩ _).mono ?_
                  rintro e w5 ⟨rfl, hb⟩
                  have HK5 := Lib.hid (HK4.out.on hb)
                  obtain ⟨t50, t51, t52, t53, t54⟩ := HK5.out.word
                  clear hb HK4
                  rw [HR.out]
                  go_wp2_with fail
                  refine (isName_any y ⟨#[110, 101, 103, 97, 116, 101]⟩ _).mono ?_
                  rintro e w6 ⟨rfl, hb⟩
                  have HK6 := Lib.hid (HK5.out.on hb)
                  obtain ⟨t60, t61, t62, t63, t64⟩ := HK6.out.word
                  clear hb HK5
                  rw [HN.out]
                  go_wp2_with fail
                  refine (must_yes _).mono ?_
                  rintro e w' ⟨rfl, rfl⟩
                  go_wp2_with fail
                  refine (down_any HK6.out.p HG.out Hy.out (by have := HS.out; omega)).mono ?_
                  rintro e w7 (⟨h1, -⟩ | ⟨-, rfl, hp, ho, -⟩)
                  · have := HS.out; omega
                  have HK7 := Lib.hid (HK6.out.go hp ho)
                  obtain ⟨-, c7, -, -, z7, -, -, -⟩ := HK7.out.p.cells
                  clear hp ho HK6
                  go_wp2_with fail
                  have HK8 := Lib.hid (HK7.out.go (HK7.out.p.next Hi2l.out) (fr_put (Only.refl _ _) 1 _))
                  clear HK7 c7 z7
                  obtain ⟨w8, hw8⟩ : ∃ W, w7.setCell ⟨pb, 1, none⟩ (.int .i64 ((i2 : Int) + 1)) = W := ⟨_, rfl⟩
                  rw [hw8] at HK8 ⊢
                  rw [Hi3.out] at HK8
                  refine (take_yes HK8.out.p HG.out Hz.out Hs40.out).mono ?_
                  rintro e w9 ⟨rfl, hp, ho⟩
                  rw [Hi4.out] at hp
                  have HK9 := Lib.hid (HK8.out.go hp ho)
                  clear hp ho HK8
                  obtain ⟨oa0, oa1, oa2, pa0, pa1, pa2⟩ := (HK9.out.on ((Below.refl _ _).alloc (Nat.le_refl _) (.cells #[.string op, .slice lA ln lc, .slice kA kn kc] 46))).out3
                  obtain ⟨t90, t91, t92, t93, t94⟩ := HK9.out.word
                  obtain ⟨o90, o91, o92, p90, p91, p92⟩ := HK9.out.out3
                  go_wp2_with fail
                  refine (must_yes _).mono ?_
                  rintro e w' ⟨rfl, rfl⟩
                  go_wp2_with fail
                  have HK10 := Lib.hid (HK9.out.put (.cells #[.string op, .slice lA ln lc, .slice kA kn kc] 46) (.string ⟨#[110, 111, 116]⟩) (.slice none 0 0) (.slice (some ⟨w9.heap.size, 0, none⟩) 1 1))
                  obtain ⟨w10, hw10⟩ : ∃ W, ((((w9.alloc (.cells #[.string op, .slice lA ln lc, .slice kA kn kc] 46)).setCell ⟨wp.heap.size, 0, none⟩ (.string ⟨#[110, 111, 116]⟩)).setCell ⟨wp.heap.size, 1, none⟩ (.slice none 0 0)).setCell ⟨wp.heap.size, 2, none⟩ (.slice (some ⟨w9.heap.size, 0, none⟩) 1 1)) = W := ⟨_, rfl⟩
                  rw [hw10] at HK10 ⊢
                  have HO10 := Lib.hid (HK9.out.one HRd.out ⟨#[110, 111, 116]⟩ (.string ⟨#[110, 111, 116]⟩) (.slice none 0 0) (.slice (some ⟨w9.heap.size, 0, none⟩) 1 1))
                  rw [hw10] at HO10
                  clear HK9
                  refine (take_yes HK10.out.p HG.out Hv.out Hs41.out).mono ?_
                  rintro e w11 ⟨rfl, hp, ho⟩
                  rw [Hi5.out] at hp
                  have HK11 := Lib.hid (HK10.out.go hp ho)
                  have HO11 := Lib.hid (rd_far HO10.out ho Hpl.out.1)
                  clear hp ho
                  go_wp2_with fail
                  refine (must_yes _).mono ?_
                  rintro e w' ⟨rfl, rfl⟩
                  go_wp2_with fail
                  refine ⟨⟨m + 1, .mk ⟨#[110, 111, 116]⟩ [] [out], kk, i5, n1, ?_⟩, ?_⟩
                  · (repeat apply Exists.intro)
                    refine ⟨?_, rfl⟩
                    exact Lib.hid (PK.back HK11.out (HV.out) (by have := HS.out; omega) (by omega) HO11.out)
                  · show 13 - (List.replicate (m + 1) (upD pb)).length < 13 - (List.replicate m (upD pb)).length
                    have := HS.out
                    rw [List.length_replicate, List.length_replicate]
                    omega

theorem pred_at {pb g cap : Nat} {ws : List Wd} (hG : Gd ws) (k : Nat) : PredAt pb g cap ws k := by
  induction k using Nat.strongRecOn with
  | _ k ih => exact pred_step hG k ih

end Go.Proofs.YtnehbpfgdeilhaaGreatDoor
