/- SrD, Laid -/
import Derived.Test.YtgmjhoppjjjilaaDoorQ36
import Derived.Test.YtgmjhoppjjjilaaDoorQ41
import Derived.Test.YtgmjhoppjjjilaaDoorQ45
import Derived.Test.YtgmjhoppjjjilaaDoorQ46
import Derived.Test.YtgmjhoppjjjilaaDoorQ47
import Derived.StillTailTactics
import Derived.SizedLaws
import Derived.HandedShaped
import Derived.Stop.Joined
import Derived.MakeChecks

/- the walk of ShowValues -/
namespace Go.Proofs.YtgmjhoppjjjilaaDoor
open Go.ChangeShapes Go.WideShapes Go.ChangeAt Go.RowKit Go.Fl
open Go.Shelf

theorem sbst_size (x : List UInt8) : (bstr x).size = x.length := by unfold bstr; simp [ByteArray.size]

theorem six_ofb {w : World} {g : Nat} {t : TypeId} {c0 c1 c2 c3 c4 c5 : Value} (h : Blk w g t #[c0, c1, c2, c3, c4, c5]) :
    w.cell? ⟨g, 0, none⟩ = some c0 ∧ w.cell? ⟨g, 1, none⟩ = some c1 ∧ w.cell? ⟨g, 2, none⟩ = some c2 ∧ w.cell? ⟨g, 3, none⟩ = some c3 ∧ w.cell? ⟨g, 4, none⟩ = some c4 ∧ w.cell? ⟨g, 5, none⟩ = some c5 :=
  ⟨h.cell 0, h.cell 1, h.cell 2, h.cell 3, h.cell 4, h.cell 5⟩

set_option maxHeartbeats 4000000 in
set_option maxRecDepth 100000 in
theorem showv_walk (t0 : T) (v0 : Value) (w : World) (rd0 : Rd w w.heap.size t0 v0) (he : EnvT w) :
    Calls Tryd.prog 3 #[v0] w fun e w' => e = .returned (.bool true) ∧ Below w.heap.size w w' := by
  have hN : NumsT t0 := ⟨_, _, _, rd0⟩
  obtain ⟨c, hc⟩ : ∃ c, chkF t0 = c := ⟨_, rfl⟩
  have HC := Lib.hid (fun W (hW : Rd W W.heap.size t0 v0) => rCheck_any hW)
  rw [hc] at HC
  have HP := Lib.hid (rput_at t0)
  have HE := Lib.hid he
  have Hc := Lib.hid hc
  have HNN := Lib.hid hN
  clear hc he hN
  obtain ⟨k0, b0, n0, f0, s0, l0⟩ := t0
  obtain ⟨A0, c0, rfl, -⟩ := rd0.open
  have H0 := Lib.hid rd0
  clear rd0
  generalize T.mk k0 b0 n0 f0 s0 l0 = t0 at *
  obtain ⟨W0, hW0⟩ : ∃ W, w.alloc (.cells #[.int .i64 k0, .bool b0, .int .i64 n0, .float .f64 f0, .string s0, .slice A0 l0.length c0] 25) = W := ⟨_, rfl⟩
  have hB0 : Below w.heap.size w W0 := hW0 ▸ (Below.refl w.heap.size w).alloc (Nat.le_refl _) _
  have hX0 : Blk W0 w.heap.size 25 #[.int .i64 k0, .bool b0, .int .i64 n0, .float .f64 f0, .string s0, .slice A0 l0.length c0] := by
    rw [← hW0]; exact Blk.new w _ _
  obtain ⟨x00, x01, x02, x03, x04, x05⟩ := six_ofb hX0
  have HW0 := Lib.hid hW0; have HX0 := Lib.hid hX0; have HB0 := Lib.hid hB0
  clear hB0 hX0 hW0
  by_cases hz : c = 0
  rotate_left
  · have g0 : (c != 0) = true := by simpa using hz
    clear hz
    go_enter Tryd.func3, Tryd.ntmps3
    go_upto_region 1 with fail
    rw [HW0.out]
    go_wp2_with fail
    refine (HC.out _ (H0.out.on HB0.out)).mono ?_
    rintro e w1 ⟨rfl, hb1⟩
    have HB1 := Lib.hid (HB0.out.trans (hb1.mono HB0.out.size))
    clear hb1
    go_wp2_with fail
    refine (saw_any _ (HE.out.on HB1.out)).mono ?_
    rintro e w2 ⟨rfl, hb2⟩
    have HB2 := Lib.hid (HB1.out.trans (hb2.mono HB1.out.size))
    clear hb2
    go_wp2_with fail
    go_ret
    exact ⟨rfl, HB2.out⟩
  subst hz
  have hck := chkF_two Hc.out
  have htot := chk_tot Hc.out
  have hbl := bys_tot t0
  have hshl := sh_tot t0 HNN.out
  have hsm := sm_chk t0 1 hck
  have hlen : (bys t0).length ≤ 140737488355328 := by omega
  have hsl : (shT t0).length ≤ 2000000 := by omega
  obtain ⟨P, hP⟩ : ∃ P, bstr (bys t0) = P := ⟨_, rfl⟩
  have HP2 := Lib.hid (fun W (hW : Rd W W.heap.size t0 (.agg #[.int .i64 k0, .bool b0, .int .i64 n0, .float .f64 f0, .string s0, .slice A0 l0.length c0])) => HP.out _ W hW hlen)
  rw [hP] at HP2
  have HSV := Lib.hid (fun W (hE : EnvT W) (hW : RdS W (fun q => q < W.heap.size) t0 (.agg #[.int .i64 k0, .bool b0, .int .i64 n0, .float .f64 f0, .string s0, .slice A0 l0.length c0])) => show_value hsm hE hW (by omega))
  have HRV := Lib.hid (fun W (hW : RdS W (fun q => q < W.heap.size) t0 (.agg #[.int .i64 k0, .bool b0, .int .i64 n0, .float .f64 f0, .string s0, .slice A0 l0.length c0])) => rvalue_any hsm W _ hW (by omega))
  have HK : Hid (∀ nm x' p t, prsO (txInj ++ shT t0 ++ [41]) = some [.mk nm [.mk 1 x' p t]] → smT x' t0 = true) := Lib.hid (fun nm x' p t h => tell_back hck HNN.out h)
  obtain ⟨TX, hTX⟩ : ∃ TX, shT t0 = TX := ⟨_, rfl⟩
  rw [hTX] at HSV HRV HK hsl
  have hc1 : ∀ W, (Op.stringOp .add ⟨#[103, 46, 105, 110, 106, 101, 99, 116, 40]⟩ (ofL TX)).run Tryd.prog W = .ok (.string (ofL (txInj ++ TX))) W := fun W => ofL_addC txInj TX (by show 9 + _ ≤ _; omega) W
  have hc2 : ∀ W, (Op.stringOp .add (ofL (txInj ++ TX)) ⟨#[41]⟩).run Tryd.prog W = .ok (.string (ofL (txInj ++ TX ++ [41]))) W := fun W => ofL_addC (txInj ++ TX) [41] (by rw [List.length_append]; show 9 + _ + 1 ≤ _; omega) W
  have HPR := Lib.hid (fun W => rparse_any (ofL (txInj ++ TX ++ [41])) W)
  have hpe : (ofL (txInj ++ TX ++ [41])).data.toList = txInj ++ TX ++ [41] := by simp [ofL]
  rw [hpe] at HPR
  obtain ⟨ot, hot⟩ : ∃ ot, prsO (txInj ++ TX ++ [41]) = ot := ⟨_, rfl⟩
  unfold PrsQ at HPR
  rw [hot] at HPR HK
  obtain ⟨N, hN⟩ : ∃ N, ofL TX = N := ⟨_, rfl⟩
  obtain ⟨N1, hN1⟩ : ∃ N, ofL (txInj ++ TX) = N := ⟨_, rfl⟩
  obtain ⟨N2, hN2⟩ : ∃ N, ofL (txInj ++ TX ++ [41]) = N := ⟨_, rfl⟩
  rw [hN] at HSV HRV hc1
  rw [hN1] at hc1 hc2
  rw [hN2] at hc2 HPR
  have hne : (N.toList != N.toList) = false := by simp
  clear hck htot hbl hshl hsm hlen hTX hN hN1 hN2 hpe hot hP HP HNN Hc hsl
  by_cases hbig : 2000 < P.size
  · have d0 : decide ((2000 : Int) < (P.size : Int)) = true := by rw [decide_eq_true_eq]; omega
    clear hbig hc1 hc2 hne
    go_enter Tryd.func3, Tryd.ntmps3
    go_upto_region 1 with fail
    rw [HW0.out]
    go_wp2_with fail
    refine (HC.out _ (H0.out.on HB0.out)).mono ?_
    rintro e w1 ⟨rfl, hb1⟩
    have HB1 := Lib.hid (HB0.out.trans (hb1.mono HB0.out.size))
    have HX1 := Lib.hid (HX0.out.below hb1 HX0.out.lt)
    clear hb1
    obtain ⟨y0, y1, y2, y3, y4, y5⟩ := six_ofb HX1.out
    go_wp2_with fail
    refine (HP2.out _ (H0.out.on HB1.out)).mono ?_
    rintro e w2 ⟨rfl, hb2⟩
    have HB2 := Lib.hid (HB1.out.trans (hb2.mono HB1.out.size))
    clear hb2
    go_wp2_with fail
    refine (saw_any _ (HE.out.on HB2.out)).mono ?_
    rintro e w3 ⟨rfl, hb3⟩
    have HB3 := Lib.hid (HB2.out.trans (hb3.mono HB2.out.size))
    clear hb3
    go_wp2_with fail
    go_ret
    exact ⟨rfl, HB3.out⟩
  have d0 : decide ((2000 : Int) < (P.size : Int)) = false := by rw [decide_eq_false_iff_not]; omega
  clear hbig
  go_enter Tryd.func3, Tryd.ntmps3
  go_upto_region 1 with fail
  rw [HW0.out]
  go_wp2_with fail
  refine (HC.out _ (H0.out.on HB0.out)).mono ?_
  rintro e w1 ⟨rfl, hb1⟩
  have HB1 := Lib.hid (HB0.out.trans (hb1.mono HB0.out.size))
  have HX1 := Lib.hid (HX0.out.below hb1 HX0.out.lt)
  clear hb1 x00 x01 x02 x03 x04 x05
  obtain ⟨y0, y1, y2, y3, y4, y5⟩ := six_ofb HX1.out
  go_wp2_with fail
  refine (HP2.out _ (H0.out.on HB1.out)).mono ?_
  rintro e w2 ⟨rfl, hb2⟩
  have HB2 := Lib.hid (HB1.out.trans (hb2.mono HB1.out.size))
  have HX2 := Lib.hid (HX1.out.below hb2 HX1.out.lt)
  clear hb2 y0 y1 y2 y3 y4 y5
  obtain ⟨y0, y1, y2, y3, y4, y5⟩ := six_ofb HX2.out
  go_wp2_with fail
  refine (HSV.out _ (HE.out.on HB2.out) (RdS.keepS (fun _ _ => rfl) (fun _ hb => hb.2) (H0.out.on HB2.out))).mono ?_
  rintro e w3 ⟨rfl, hb3⟩
  have HB3 := Lib.hid (HB2.out.trans (hb3.mono HB2.out.size))
  have HX3 := Lib.hid (HX2.out.below hb3 HX2.out.lt)
  clear hb3 y0 y1 y2 y3 y4 y5
  go_wp2_with fail
  refine (saw_any _ (HE.out.on HB3.out)).mono ?_
  rintro e w4 ⟨rfl, hb4⟩
  have HB4 := Lib.hid (HB3.out.trans (hb4.mono HB3.out.size))
  have HX4 := Lib.hid (HX3.out.below hb4 HX3.out.lt)
  clear hb4
  obtain ⟨y0, y1, y2, y3, y4, y5⟩ := six_ofb HX4.out
  go_wp2_with fail
  refine (HRV.out _ (RdS.keepS (fun _ _ => rfl) (fun _ hb => hb.2) (H0.out.on HB4.out))).mono ?_
  rintro e w5 ⟨rfl, hb5⟩
  have HB5 := Lib.hid (HB4.out.trans (hb5.mono HB4.out.size))
  have HX5 := Lib.hid (HX4.out.below hb5 HX4.out.lt)
  clear hb5 y0 y1 y2 y3 y4 y5
  go_wp2_with fail
  refine (HPR.out _).mono ?_
  rintro e w6 ⟨lA, ll, lc, at_, er, rfl, hb6, hor⟩
  have HB6 := Lib.hid (HB5.out.trans (hb6.mono HB5.out.size))
  have HX6 := Lib.hid (HX5.out.below hb6 HX5.out.lt)
  have hl56 := hb6.size
  clear hb6
  rcases hor with ⟨t, rfl, rfl, hrd⟩ | ⟨rfl, her⟩
  rotate_left
  · have e1 : (er != 0) = true := by simpa using her
    clear her
    go_wp2_with fail
    go_ret
    exact ⟨rfl, HB6.out⟩
  have hrd' : LstS (RdStp (RdTr 12)) 2 w6 (fun b => w5.heap.size ≤ b ∧ b < w6.heap.size) t (.slice lA ll lc) := hrd
  clear hrd
  obtain ⟨A, cc, hsl, hcc, hcm, hel⟩ := LstS.look hrd'
  injection hsl with h1 h2 h3
  subst h1; subst h2; subst h3
  by_cases hl1 : t.length = 1
  rotate_left
  · have e1 : ((t.length : Int) != 1) = true := by simp; omega
    clear hrd' hel hl1
    go_wp2_with fail
    go_ret
    exact ⟨rfl, HB6.out⟩
  obtain ⟨⟨nm, args⟩, rfl⟩ : ∃ s, t = [s] := List.length_eq_one_iff.1 hl1
  obtain ⟨g, u, hg, hgS, hcu, hst⟩ := hel 0 (Nat.succ_pos _)
  obtain ⟨A2, c2, rfl, hav⟩ := stp_look hst
  subst hg
  have q1 : w6.cell? ⟨g, 1, none⟩ = some (.slice A2 args.length c2) := hcu 1 _ rfl
  have e1 : (([Sp.mk nm args].length : Int) != 1) = false := rfl
  obtain ⟨A3, cc3, hsl, hcc3, hcm3, hel3⟩ := LstS.look hav
  injection hsl with h1 h2 h3
  subst h1; subst h3
  clear hrd' hel hst hcu
  rw [show [Sp.mk nm args].length = 1 from rfl] at *
  by_cases hl2 : args.length = 1
  rotate_left
  · have e2 : ((args.length : Int) != 1) = true := by simp; omega
    clear hav hel3 hl2
    go_wp2_with fail
    go_ret
    exact ⟨rfl, HB6.out⟩
  obtain ⟨⟨kk, xv, pp, tt⟩, rfl⟩ : ∃ s, args = [s] := List.length_eq_one_iff.1 hl2
  obtain ⟨g2, u2, hg2, hgS2, hcu2, harg⟩ := hel3 0 (Nat.succ_pos _)
  subst hg2
  obtain ⟨ak, bb, nn, ff, ss, vA, vl, vc, op, oA, ol, oc, kA, kl, kc, tA, tl, tc, rfl, hxv, -, -⟩ := RdArg.look (n := 12) harg
  have z0 : w6.cell? ⟨g2, 0, none⟩ = some (.int .i64 kk) := hcu2 0 _ rfl
  have z1 : w6.cell? ⟨g2, 1, none⟩ = some (.int .i64 ak) := hcu2 1 _ rfl
  have z2 : w6.cell? ⟨g2, 2, none⟩ = some (.bool bb) := hcu2 2 _ rfl
  have z3 : w6.cell? ⟨g2, 3, none⟩ = some (.int .i64 nn) := hcu2 3 _ rfl
  have z4 : w6.cell? ⟨g2, 4, none⟩ = some (.float .f64 ff) := hcu2 4 _ rfl
  have z5 : w6.cell? ⟨g2, 5, none⟩ = some (.string ss) := hcu2 5 _ rfl
  have z6 : w6.cell? ⟨g2, 6, none⟩ = some (.slice vA vl vc) := hcu2 6 _ rfl
  have e2 : (([Ag.mk kk xv pp tt].length : Int) != 1) = false := rfl
  have HXV : Hid (Rd w6 w6.heap.size xv (.agg #[.int .i64 ak, .bool bb, .int .i64 nn, .float .f64 ff, .string ss, .slice vA vl vc])) := Lib.hid (RdS.keepS (fun _ _ => rfl) (fun b hb => ⟨Nat.zero_le _, hb.2⟩) hxv)
  clear hav hel3 hcu2 harg hxv
  rw [show [Ag.mk kk xv pp tt].length = 1 from rfl] at *
  by_cases hk : kk = 1
  rotate_left
  · have e3 : (kk != 1) = true := by simpa using hk
    clear hk
    go_wp2_with fail
    go_ret
    exact ⟨rfl, HB6.out⟩
  subst hk
  have hsame := HK.out nm xv pp tt rfl
  have HS := Lib.hid (fun W (hb : Below w6.heap.size w6 W) => rsame_any (RdS.on HXV.out hb) (RdS.on (H0.out.on HB6.out) hb))
  rw [hsame] at HS
  obtain ⟨y0, y1, y2, y3, y4, y5⟩ := six_ofb HX6.out
  clear hsame
  go_wp2_with fail
  go_still_tail 8, (by kernel_rfl)
  go_wp2_with fail
  refine (HS.out _ ((Below.refl _ _).drew)).mono ?_
  rintro e w7 ⟨rfl, hb7⟩
  have HB7 := Lib.hid (HB6.out.trans (((Below.refl w6.heap.size w6).drew.trans hb7).mono HB6.out.size))
  clear hb7
  go_wp2_with fail
  go_ret
  exact ⟨rfl, HB7.out⟩

end Go.Proofs.YtgmjhoppjjjilaaDoor

/- a law whose row lists variables: as Shp, and what the variables hold is handed to the walk -/
namespace Go.Proofs.YtgmjhoppjjjilaaDoor
open Go
variable {H : Type} {enc : TypeId × Value → H}

theorem laid_told {a : Assume} {C : Checked} {os : Os} {f : FuncId} {fn : Func} {s : ChangeSpec} {conds : List PathCond} {apart fresh handsOn again : Bool} {X : World → Array Value → Prop}
    (hX : ∀ w b, X w.memory b → X w b) (own : ownKnob C.prog.godebug = none) (started : os.Started) (noInit : C.prog.inits.idxOf? f = none) (hfn : C.prog.funcs[f]? = some fn)
    (witness : ∃ (w : World) (tape : Tape) (i : Input), w.os = os ∧ (w.forCall tape i).Shaped C.prog ∧ i.vars = [] ∧ Input.okWide C.prog (w.forCall tape i) .any w.heap.size f i ∧
      ((s.pre enc C.prog fn conds apart (w.forCall tape i).memory i.args ∧ X (w.forCall tape i).memory i.args) ∧ sizedMet enc C.prog fn (OpenSpec.ofChange s) apart (w.forCall tape i).memory i.args) ∧ a.holds C.prog (lone (Frame.enter C.prog f i.args .normal) [] (w.forCall tape i)))
    (contract : ∀ (W : World) (base : Nat) (args : Array Value) (ds gs : List (DataW H)) (before : List MemPlace),
      (∀ (j : Nat) t v, fn.params[j]? = some t → args[j]? = some v → Value.okWide C.prog W .any base t v) →
      DataW.Whole enc C.prog fn.params.toList s.vars apart W args.toList ds gs before →
      (DataW.weightsEach C.prog (fn.params.toList ++ s.plain.varTypes C.prog) (ds ++ gs)).all (· ≤ reachBytes) = true →
      W.ShapedOpen C.prog → X W args →
      Calls C.prog f args W fun e W' => ∃ v, e = .returned v ∧ s.post enc C.prog fn apart fresh handsOn again W args v W') :
    ReturnsInHanded a C os f .any (fun w args => (s.pre enc C.prog fn conds apart w args ∧ X w args) ∧ sizedMet enc C.prog fn (OpenSpec.ofChange s) apart w args) (s.post enc C.prog fn apart fresh handsOn again) := by
  refine returnsInHanded_of_calls own started noInit witness ?_
  intro w tape i _ hsh _ hok hpre _
  obtain ⟨_, _, _, fn', hfn', _, _, _, _, hval⟩ := hok
  obtain rfl : fn' = fn := Option.some.inj (hfn'.symm.trans hfn)
  obtain ⟨⟨⟨ds, gs, before, hw, _⟩, hx⟩, hz⟩ := hpre
  exact (contract (w.forCall tape i) w.heap.size i.args ds gs before hval (DataW.Whole.of_heap (w' := w.forCall tape i) (by rfl) hw) (hz.weights hw) hsh (hX _ _ hx)).mono fun e W' ⟨v, he, hp⟩ => by
    subst he
    exact ChangeSpec.post_blind hp

end Go.Proofs.YtgmjhoppjjjilaaDoor
