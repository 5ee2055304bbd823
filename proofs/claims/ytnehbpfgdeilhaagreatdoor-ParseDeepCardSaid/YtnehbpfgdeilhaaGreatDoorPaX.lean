/- parse: arguments and steps in memory -/
import Derived.Test.YtnehbpfgdeilhaaGreatDoorPaQ

namespace Go.Proofs.YtnehbpfgdeilhaaGreatDoor
open Go.ChangeShapes Go.WideShapes Go.ChangeAt Go.RowKit

/-- an argument, whose steps read by R -/
def RdArg (R : World → (Nat → Prop) → List Sp → Value → Prop) (w : World) (S : Nat → Prop) : Ag → Value → Prop
  | .mk k v p t, u => ∃ v0 v1 v2 v3 v4 v5 p0 p1 p2 tv, u = .agg #[.int .i64 k, v0, v1, v2, v3, v4, v5, p0, p1, p2, tv] ∧ RdS w S v (.agg #[v0, v1, v2, v3, v4, v5]) ∧ RdP w S p (.agg #[p0, p1, p2]) ∧ R w S t tv

/-- a step -/
def RdStp (R : World → (Nat → Prop) → List Sp → Value → Prop) (w : World) (S : Nat → Prop) : Sp → Value → Prop
  | .mk name args, u => ∃ av, u = .agg #[.string name, av] ∧ LstS (RdArg R) 11 w S args av

/-- steps, of no more than n within one another -/
def RdTr : Nat → World → (Nat → Prop) → List Sp → Value → Prop
  | 0, _, _, l, v => l = [] ∧ v = .slice none 0 0
  | n + 1, w, S, l, v => LstS (RdStp (RdTr n)) 2 w S l v

theorem keepS_Arg {R : World → (Nat → Prop) → List Sp → Value → Prop} (hR : KeepS R) : KeepS (RdArg R) := by
  rintro w w' S S' ⟨k, v, p, t⟩ u hw hS ⟨v0, v1, v2, v3, v4, v5, p0, p1, p2, tv, h1, h2, h3, h4⟩
  exact ⟨v0, v1, v2, v3, v4, v5, p0, p1, p2, tv, h1, keepS_T _ _ _ _ _ _ hw hS h2, keepS_Pd _ _ _ _ _ _ hw hS h3, hR _ _ _ _ _ _ hw hS h4⟩

theorem keepS_Stp {R : World → (Nat → Prop) → List Sp → Value → Prop} (hR : KeepS R) : KeepS (RdStp R) := by
  rintro w w' S S' ⟨name, args⟩ u hw hS ⟨av, h1, h2⟩
  exact ⟨av, h1, h2.keep (keepS_Arg hR) hw hS⟩

theorem keepS_Tr : ∀ n, KeepS (RdTr n)
  | 0 => fun _ _ _ _ _ _ _ _ h => h
  | n + 1 => keepS_L (keepS_Stp (keepS_Tr n))

theorem rdTr_nil : ∀ (n : Nat) (w : World) (S : Nat → Prop), RdTr n w S [] (.slice none 0 0)
  | 0, _, _ => ⟨rfl, rfl⟩
  | _ + 1, _, _ => .inl ⟨rfl, rfl⟩

theorem rdTr_shape : ∀ (n : Nat) (w : World) (S : Nat → Prop) (l : List Sp) (v : Value), RdTr n w S l v → ∃ A c, v = .slice A l.length c
  | 0, _, _, _, _, h => by obtain ⟨rfl, rfl⟩ := h; exact ⟨none, 0, rfl⟩
  | _ + 1, _, _, _, _, h => LstS.shape h

end Go.Proofs.YtnehbpfgdeilhaaGreatDoor

namespace Go.Proofs.YtnehbpfgdeilhaaGreatDoor
open Go.ChangeShapes Go.WideShapes Go.ChangeAt Go.RowKit Go.Fl
open Go.Shelf

theorem info_arg : (Tryz.prog.info? 51).map (fun i => (i.zero, i.size, i.bytes)) = some (some (.agg #[.int .i64 0, .int .i64 0, .bool false, .int .i64 0, .float .f64 0, .string ⟨#[]⟩, .slice none 0 0, .string ⟨#[]⟩, .slice none 0 0, .slice none 0 0, .slice none 0 0]), 11, 168) := by kernel_rfl

set_option maxHeartbeats 4000000 in
set_option maxRecDepth 100000 in
theorem sevA_any {RT : World → (Nat → Prop) → List Sp → Value → Prop} (hRT : KeepS RT) (hsh : ∀ w S l v, RT w S l v → ∃ A c, v = .slice A l.length c) {pb g cap : Nat} {ws : List Wd} {d : Nat} (hG : Gd ws) {w : World} (ok : Nat → Prop) (hok : ok pb) (J : Nat → World → Prop) (hJ : ∀ c w1 w2, J c w1 → Only (fun b => b = pb ∨ w.heap.size ≤ b) w1 w2 → J c w2)
    (en : UInt8) (Ok : Nat → Prop) (F : FuncId) (fst cp : Array Value) (rd : Nat → Ps → Rs Ag)
    (hF : ∀ W : World, (callFunc F (fst ++ cp)).run Tryz.prog W = .ok (.enter F (fst ++ cp)) W)
    (hOk : ∀ c i n v s, Ok n → rd c ⟨i, n⟩ = .ok v s → Ok s.n)
    (hread : ∀ c w i n x, c < 12 → Ok n → J c w → PB w pb g cap ws i d n → ws[i]? = some x → argA x = true → Calls Tryz.prog F (fst ++ cp) w (OneP pb g cap ws d ok J (RdArg RT) c (rd c ⟨i, n⟩) w))
    (hokB : ∀ b, ok b → b < w.heap.size) {i n : Nat} (h : PB w pb g cap ws i d n) (hj : J 0 w) (hn : Ok n) :
    Calls Tryz.prog 45 #[.pointer (some ⟨pb, 0, none⟩), .string ⟨#[en]⟩, .func (.func 46) #[.pointer (some ⟨pb, 0, none⟩)] #[], .func (.func F) fst cp] w (SevP pb g cap ws d ok J (RdArg RT) 11 (sev (gx ws) en argA rd ⟨i, n⟩) w) := by
  obtain ⟨x, hx⟩ := h.get
  have HT := Lib.hid (take_any h hG hx en)
  have hgx := gx_of hx
  have HG := Lib.hid hG
  have HJ := Lib.hid hJ
  have HRd := Lib.hid hread
  have HOk := Lib.hid hOk
  have HN0 := Lib.hid hn
  have HOB := Lib.hid hokB
  have Hj := Lib.hid hj
  have H := Lib.hid h
  cases hs : isSgn x en
  · have HV : Hid (sev (gx ws) en argA rd ⟨i, n⟩ = sevL (gx ws) en argA rd 13 [] ⟨i, n⟩) := Lib.hid (by unfold sev; rw [hgx]; exact if_neg (by show ¬ isSgn x en = true; rw [hs]; decide))
    have HS := Lib.hid hs
    obtain ⟨i0, hi0, hz0, hz1, hz2⟩ := info_parts info_arg
    clear h hG hx hgx hJ hread hokB hj hs hOk hn
    go_enter Tryz.func45, Tryz.ntmps45
    go_wp2_with fail
    refine HT.out.mono ?_
    rintro e w1 (⟨h1, -⟩ | ⟨-, rfl, hb1⟩)
    · rw [HS.out] at h1; cases h1
    have HB1 := Lib.hid hb1
    clear hb1 HT
    go_wp2_with fail
    go_loopw [9] (fun sl wr => ∃ (l : List Ag) (A : Option Addr) (c f i1 n1 : Nat), sl = .slice A l.length c ∧ l.length ≤ 12 ∧ Hid (sev (gx ws) en argA rd ⟨i, n⟩ = sevL (gx ws) en argA rd f l ⟨i1, n1⟩ ∧ l.length + f = 13 ∧ Ok n1) ∧ Hid (PB wr pb g cap ws i1 d n1 ∧ J l.length wr ∧ Row (RdArg RT) 51 11 w.heap.size wr l (.slice A l.length c) ∧ Only ok w wr)) (fun sl _ => 13 - sliceLen sl)
    case atStart => exact ⟨[], none, 0, 13, i, n, rfl, Nat.zero_le _, Lib.hid ⟨HV.out, rfl, HN0.out⟩, Lib.hid ⟨H.out.on HB1.out, HJ.out _ _ _ Hj.out (Only.of_below HB1.out), Row.nil, Only.of_below HB1.out⟩⟩
    case round =>
      obtain ⟨l, A, c, f, i1, n1, rfl, hl, Hv, Hw⟩ := hrel
      obtain ⟨f, rfl⟩ : ∃ q, f = q + 1 := ⟨f - 1, by have := Hv.out.2.1; omega⟩
      obtain ⟨y, hy⟩ := Hw.out.1.get
      have hgy := gx_of hy
      have hat := getD_of hy
      have HA := Lib.hid (fun W (hb : Below wr.heap.size wr W) => argAhead_any (Hw.out.1.on hb) HG.out hy)
      have HM := Lib.hid (fun W (hb : Below wr.heap.size wr W) b => must_any (Hw.out.1.on hb) HG.out hy b)
      cases hb : argA y
      · have HV2 : Hid (sev (gx ws) en argA rd ⟨i, n⟩ = .bad i1 120) := Lib.hid (Hv.out.1.trans (by rw [sevL, hgy]; exact if_pos hb))
        have HE := Lib.hid hb
        have HAt := Lib.hid (congrArg Wd.at_ hat)
        clear hb hy hgy hat
        go_wp2_with fail
        refine (HA.out _ (Below.refl _ _)).mono ?_
        rintro e w2 ⟨rfl, hb2⟩
        have HB2 := Lib.hid hb2; clear hb2
        rw [HE.out]
        go_wp2_with fail
        refine (HM.out _ HB2.out false).mono ?_
        rintro e w3 (⟨h1, -⟩ | ⟨-, rfl, hb3⟩)
        · cases h1
        have hb := HB2.out.trans (hb3.mono HB2.out.size)
        exact ⟨rfl, SevP.bad HV2.out HAt.out (Hw.out.1.on hb) (Hw.out.2.2.2.trans (Only.of_below hb))⟩
      · have HE := Lib.hid hb
        have HAt := Lib.hid (congrArg Wd.at_ hat)
        have HW1 := Lib.hid (fun W (hb : Below wr.heap.size wr W) => word_any (Hw.out.1.on hb) HG.out hy)
        have HF := Lib.hid (fun W => fail_any y 3 W)
        have hbw := Hw.out.2.2.2.size
        by_cases h12 : l.length = 12
        · have d12 : ((l.length : Int) == 12) = true := by rw [beq_iff_eq]; omega
          have HV2 : Hid (sev (gx ws) en argA rd ⟨i, n⟩ = .bad i1 3) := Lib.hid (Hv.out.1.trans (by rw [sevL, hgy, if_neg (by show ¬ argA y = false; rw [hb]; decide)]; exact if_pos h12))
          clear hb hy hgy hat h12 hbw
          go_wp2_with fail
          refine (HA.out _ (Below.refl _ _)).mono ?_
          rintro e w2 ⟨rfl, hb2⟩
          have HB2 := Lib.hid hb2; clear hb2
          rw [HE.out]
          go_wp2_with fail
          refine (must_yes _).mono ?_
          rintro e w' ⟨rfl, rfl⟩
          go_wp2_with fail
          refine (HW1.out _ HB2.out).mono ?_
          rintro e w3 ⟨rfl, hb3⟩
          have HB3 := Lib.hid (HB2.out.trans (hb3.mono HB2.out.size)); clear hb3
          go_wp2_with fail
          refine (HF.out _).mono ?_
          rintro e w4 ⟨rfl, hb4⟩
          have hb := HB3.out.trans (hb4.mono HB3.out.size)
          exact ⟨rfl, SevP.bad HV2.out HAt.out (Hw.out.1.on hb) (Hw.out.2.2.2.trans (Only.of_below hb))⟩
        · have d12 : ((l.length : Int) == 12) = false := by rw [beq_eq_false_iff_ne]; omega
          have hl12 : l.length < 12 := by omega
          have HVr : Hid (argA (gx ws i1) = true ∧ l.length ≠ 12) := Lib.hid ⟨by rw [hgy]; exact hb, h12⟩
          have HRy := Lib.hid (fun W (hb' : Below wr.heap.size wr W) => HRd.out l.length W i1 n1 y hl12 Hv.out.2.2 (HJ.out _ _ _ Hw.out.2.1 (Only.of_below hb')) (Hw.out.1.on hb') hy hb)
          clear hb hy hgy hat h12
          cases hr : rd l.length ⟨i1, n1⟩ with
          | bad j0 c0 =>
            have HV2 : Hid (sev (gx ws) en argA rd ⟨i, n⟩ = .bad j0 c0) := Lib.hid (Hv.out.1.trans (sevL_bad HVr.out.1 HVr.out.2 hr))
            have HR := Lib.hid hr
            clear hr hbw
            go_wp2_with fail
            refine (HA.out _ (Below.refl _ _)).mono ?_
            rintro e w2 ⟨rfl, hb2⟩
            have HB2 := Lib.hid hb2; clear hb2
            rw [HE.out]
            go_wp2_with fail
            refine (must_yes _).mono ?_
            rintro e w' ⟨rfl, rfl⟩
            go_wp2_with fail
            refine (HRy.out _ HB2.out).mono ?_
            rintro e w3 ho
            rw [HR.out] at ho
            obtain ⟨⟨rfl, ⟨i', n', hp3⟩, ho3⟩, -⟩ := ho
            exact ⟨rfl, SevP.bad HV2.out rfl hp3 ((Hw.out.2.2.2.trans (Only.of_below HB2.out)).trans ho3)⟩
          | ok x1 s1 =>
            have HR := Lib.hid hr
            clear hr
            go_wp2_with fail
            refine (HA.out _ (Below.refl _ _)).mono ?_
            rintro e w2 ⟨rfl, hb2⟩
            have HB2 := Lib.hid hb2; clear hb2
            rw [HE.out]
            go_wp2_with fail
            refine (must_yes _).mono ?_
            rintro e w' ⟨rfl, rfl⟩
            go_wp2_with fail
            refine (HRy.out _ HB2.out).mono ?_
            rintro e w3 ho
            rw [HR.out] at ho
            obtain ⟨⟨v1, rfl, hv1, hp3, ho3⟩, hj3⟩ := ho
            have hj3' := hj3 _ _ rfl
            clear hj3
            have hvk := hv1
            obtain ⟨ak, av, ap, aq⟩ := x1
            obtain ⟨v0, v1, v2, v3, v4, v5, p0, p1, p2, tv, rfl, ha1, ha2, ha3⟩ := hvk
            obtain ⟨xk, xb, xn, xf, xs, xl⟩ := av
            obtain ⟨xA, xc, hxe, -⟩ := RdS.open ha1
            obtain ⟨pop, pl, pk⟩ := ap
            obtain ⟨pA, pc, pB, pe, hpe⟩ := ha2.shape
            obtain ⟨tA, tc, rfl⟩ := hsh _ _ _ _ ha3
            injection hxe with hxe
            injection hpe with hpe
            simp only [Array.mk.injEq, List.cons.injEq, and_true] at hxe hpe
            obtain ⟨rfl, rfl, rfl, rfl, rfl, rfl⟩ := hxe
            obtain ⟨rfl, rfl, rfl⟩ := hpe
            clear ha1 ha2 ha3
            have hB2 := HB2.out
            have hvx := Hv.out.1
            have hs3 := ho3.size
            have hs2 := hB2.size
            obtain ⟨A', c', w4, hr4, hrow4, hb4⟩ := Hw.out.2.2.1.more (keepS_Arg hRT) 40 51 i0 _ 11 168 Tryz.underlying40 hi0 hz0 hz1 hz2 rfl (by decide) (by decide) HOB.out hbw hB2 ho3 hv1 (#[.int .i64 ak, .int .i64 xk, .bool xb, .int .i64 xn, .float .f64 xf, .string xs, .slice xA xl.length xc, .string pop, .slice pA pl.length pc, .slice pB pk.length pe, .slice tA aq.length tc]) rfl rfl (fun u hu => by simp at hu; rcases hu with rfl | rfl | rfl | rfl | rfl | rfl | rfl | rfl | rfl | rfl | rfl <;> rfl) (by omega)
            have hs4 := hb4.size
            have hp4 : PB w4 pb g cap ws s1.i d s1.n := hp3.under hb4 H.out.box.lt H.out.lt
            have ho4 : Only ok w w4 := ((Hw.out.2.2.2.trans (Only.of_below hB2)).trans ho3).far hb4 (Nat.le_refl _)
            have hj4 : J (l.length + 1) w4 := HJ.out _ _ _ hj3' ⟨hb4.os, hb4.tape, hb4.output, hb4.size, fun k _ hk => hb4.block k (by
              rcases Nat.lt_or_ge k w.heap.size with h | h
              · exact h
              · exact absurd (.inr h) hk)⟩
            obtain ⟨y2, hy2⟩ := hp4.get
            have hgy2 := gx_of hy2
            have HT4 := Lib.hid (take_any hp4 HG.out hy2 en)
            have HT5 := Lib.hid (fun W (hb : Below w4.heap.size w4 W) => take_any (hp4.on hb) HG.out hy2 44)
            have HM5 := Lib.hid (fun W (hb : Below w4.heap.size w4 W) => must_any (hp4.on hb) HG.out hy2 false)
            have HRun := Lib.hid hr4
            have Hx : Hid (Row (RdArg RT) 51 11 w.heap.size w4 (l ++ [(Ag.mk ak (.mk xk xb xn xf xs xl) (.mk pop pl pk) aq)]) (.slice A' (l.length + 1) c') ∧ PB w4 pb g cap ws s1.i d s1.n ∧ Only ok w w4 ∧ J (l.length + 1) w4 ∧ gx ws s1.i = { y2 with at_ := 0 } ∧ (ws.getD s1.i wdNone).at_ = y2.at_ ∧ w.heap.size ≤ w4.heap.size) := Lib.hid ⟨hrow4, hp4, ho4, hj4, hgy2, congrArg Wd.at_ (getD_of hy2), by omega⟩
            clear hr4 hrow4 hb4 hp4 ho4 hj4 hgy2 hy2 hs2 hs3 hs4 hv1 hp3 ho3 hj3' hB2 hvx hbw
            go_wp2_with (at_builtin; refine Lib.wpList_append_run_sl _ rfl _ _ 40 rfl _ _ rfl rfl HRun.out ?_)
            refine HT4.out.mono ?_
            rintro e w5 (⟨h1, rfl, hp5, ho5⟩ | ⟨h1, rfl, hb5⟩)
            · have HV2 : Hid (sev (gx ws) en argA rd ⟨i, n⟩ = .ok (l ++ [(Ag.mk ak (.mk xk xb xn xf xs xl) (.mk pop pl pk) aq)]) ⟨s1.i + 1, s1.n⟩) := Lib.hid (Hv.out.1.trans (sevL_end HVr.out.1 HVr.out.2 HR.out (by rw [Hx.out.2.2.2.2.1]; exact h1)))
              have Hf := Lib.hid (And.intro hp5 ho5)
              clear h1 hp5 ho5
              go_wp2_with fail
              go_ret
              have hk5 := Hx.out.1.kept (keepS_Arg hRT) Hf.out.2.size (fun b hb hbl => Hf.out.2.block b hbl (fun e => by have := H.out.box.lt; omega))
              rw [HV2.out]
              exact ⟨⟨_, rfl, hk5.all (keepS_Arg hRT), Hf.out.1, Hx.out.2.2.1.trans (FR.ok Hf.out.2 hok)⟩, fun l' s' hls => by
                cases hls
                rw [List.length_append]
                exact HJ.out _ _ _ Hx.out.2.2.2.1 (Hf.out.2.mono fun _ _ hb => .inl hb)⟩
            · have HB5 := Lib.hid hb5
              have HE5 : Hid (isSgn (gx ws s1.i) en = false) := Lib.hid (by rw [Hx.out.2.2.2.2.1]; exact h1)
              clear h1 hb5
              go_wp2_with fail
              refine (HT5.out _ HB5.out).mono ?_
              rintro e w6 (⟨h1, rfl, hp6, ho6⟩ | ⟨h1, rfl, hb6⟩)
              · have HV2 := Lib.hid (Hv.out.1.trans (sevL_go HVr.out.1 HVr.out.2 HR.out HE5.out (by rw [Hx.out.2.2.2.2.1]; exact h1)))
                have Hf := Lib.hid (And.intro hp6 ((FR.of HB5.out).trans ho6))
                clear h1 hp6 ho6
                go_wp2_with fail
                refine (must_yes _).mono ?_
                rintro e w' ⟨rfl, rfl⟩
                go_wp2_with fail
                have hk6 := Hx.out.1.kept (keepS_Arg hRT) Hf.out.2.size (fun b hb hbl => Hf.out.2.block b hbl (fun e => by have := H.out.box.lt; omega))
                go_roundw
                case rel => exact ⟨l ++ [(Ag.mk ak (.mk xk xb xn xf xs xl) (.mk pop pl pk) aq)], A', c', f, s1.i + 1, s1.n, by rw [List.length_append]; rfl, by rw [List.length_append]; exact hl12, Lib.hid ⟨HV2.out, by have := Hv.out.2.1; rw [List.length_append, List.length_singleton]; omega, HOk.out _ _ _ _ _ Hv.out.2.2 HR.out⟩, Lib.hid ⟨Hf.out.1, by rw [List.length_append]; exact HJ.out _ _ _ Hx.out.2.2.2.1 (Hf.out.2.mono fun _ _ hb => .inl hb), by rw [List.length_append]; exact hk6, Hx.out.2.2.1.trans (FR.ok Hf.out.2 hok)⟩⟩
                case measure => simp [sliceLen]; omega
              · have HV2 := Lib.hid (Hv.out.1.trans (sevL_no HVr.out.1 HVr.out.2 HR.out HE5.out (by rw [Hx.out.2.2.2.2.1]; exact h1)))
                have HB6 := Lib.hid (HB5.out.trans (hb6.mono HB5.out.size))
                clear h1 hb6
                go_wp2_with fail
                refine (HM5.out _ HB6.out).mono ?_
                rintro e w7 (⟨h1, -⟩ | ⟨-, rfl, hb7⟩)
                · cases h1
                have hb := HB6.out.trans (hb7.mono HB6.out.size)
                exact ⟨rfl, SevP.bad HV2.out Hx.out.2.2.2.2.2.1 (Hx.out.2.1.on hb) (Hx.out.2.2.1.trans (Only.of_below hb))⟩
  · have HV : Hid (sev (gx ws) en argA rd ⟨i, n⟩ = .ok [] ⟨i + 1, n⟩) := Lib.hid (by unfold sev; rw [hgx]; exact if_pos hs)
    have HS := Lib.hid hs
    clear h hG hx hgx hJ hread hokB hj hs hOk hn
    go_enter Tryz.func45, Tryz.ntmps45
    go_wp2_with fail
    refine HT.out.mono ?_
    rintro e w1 (⟨-, rfl, hp1, ho1⟩ | ⟨h0, -⟩)
    · have HP1 := Lib.hid hp1
      have HO1 := Lib.hid ho1
      clear hp1 ho1
      go_wp2_with fail
      go_ret
      rw [HV.out]
      exact ⟨⟨_, rfl, .inl ⟨rfl, rfl⟩, HP1.out, HO1.out.ok hok⟩, fun l s hls => by cases hls; exact HJ.out _ _ _ Hj.out (HO1.out.mono fun _ _ hb => .inl hb)⟩
    · rw [HS.out] at h0; cases h0

end Go.Proofs.YtnehbpfgdeilhaaGreatDoor

namespace Go.Proofs.YtnehbpfgdeilhaaGreatDoor
open Go

/-- no step is taken back, and there are no more than may be -/
def Up (s s' : Ps) : Prop := s.n ≤ s'.n ∧ (s.n ≤ 150 → s'.n ≤ 150)

theorem Up.refl (s : Ps) : Up s s := ⟨Nat.le_refl _, fun h => h⟩

theorem Up.trans {a b c : Ps} (h : Up a b) (k : Up b c) : Up a c := ⟨Nat.le_trans h.1 k.1, fun q => k.2 (h.2 q)⟩

theorem Up.at_ {s s' : Ps} (h : Up s s') (i : Nat) : Up s ⟨i, s'.n⟩ := h

section
variable {G : Nat → Wd}

theorem sevL_up {α : Type} {en : UInt8} {b : Wd → Bool} {rd : Nat → Ps → Rs α} (hrd : ∀ c s x s', rd c s = .ok x s' → Up s s') : ∀ (f : Nat) (l : List α) (s : Ps) (l' : List α) (s' : Ps), sevL G en b rd f l s = .ok l' s' → Up s s'
  | 0, _, _, _, _, h => by cases h
  | f + 1, l, s, l', s', h => by
    rw [sevL] at h
    split at h
    · cases h
    · split at h
      · cases h
      · split at h
        · cases h
        · rename_i hx
          have hu := hrd _ _ _ _ hx
          split at h
          · cases h; exact hu
          · split at h
            · have hv := sevL_up hrd f _ _ _ _ h
              exact ⟨Nat.le_trans hu.1 hv.1, fun q => hv.2 (hu.2 q)⟩
            · cases h

theorem sev_up {α : Type} {en : UInt8} {b : Wd → Bool} {rd : Nat → Ps → Rs α} (hrd : ∀ c s x s', rd c s = .ok x s' → Up s s') {s s' : Ps} {l : List α} (h : sev G en b rd s = .ok l s') : Up s s' := by
  unfold sev at h
  split at h
  · cases h; exact Up.refl _
  · exact sevL_up hrd _ _ _ _ _ h

theorem pVal_up : ∀ (k : Nat) (s : Ps) (t : T) (s' : Ps), pVal G k s = .ok t s' → Up s s'
  | 0, s, t, s', h => by
    rw [pVal] at h
    split at h
    · cases h
    · cases h; exact Up.refl _
  | k + 1, s, t, s', h => by
    rw [pVal] at h
    split at h
    · split at h
      · cases h
      · rename_i hs
        cases h
        exact (sev_up (fun _ s x s' hx => pVal_up k s x s' hx) hs : Up ⟨s.i + 1, s.n⟩ _)
    · cases h; exact Up.refl _

theorem pInner_up (k : Nat) (s : Ps) (t : T) (s' : Ps) (h : pInner G k s = .ok t s') : Up s s' := by
  cases k with
  | zero => cases h
  | succ k => exact pVal_up k s t s' h

theorem pArgV_up {k j : Nat} {most : Int} (c : Nat) (s : Ps) (t : T) (s' : Ps) (h : pArgV G k j most c s = .ok t s') : Up s s' := by
  unfold pArgV at h
  split at h
  · cases h
  · rename_i hs
    split at h
    · cases h
    · cases h; exact pInner_up _ _ _ _ hs

theorem pPlain_up {k : Nat} {s s' : Ps} {q : Pd} (h : pPlain G k s = .ok q s') : Up s s' := by
  unfold pPlain at h
  split at h
  · cases h
  · split at h
    · cases h
    · rename_i hs
      split at h
      · cases h
      · cases h; exact (sev_up pArgV_up hs : Up ⟨s.i + 2, s.n⟩ _)

theorem pJoin_up : ∀ (k : Nat) (out : Pd) (s : Ps) (q : Pd) (s' : Ps), pJoin G k out s = .ok q s' → Up s s'
  | 0, out, s, q, s', h => by
    rw [pJoin] at h
    split at h
    · cases h; exact Up.refl _
    · split at h <;> cases h
  | k + 1, out, s, q, s', h => by
    rw [pJoin] at h
    split at h
    · cases h; exact Up.refl _
    · split at h
      · cases h
      · split at h
        · cases h
        · split at h
          · split at h
            · cases h
            · exact pJoin_up k _ ⟨s.i + 4, s.n⟩ _ _ h
          · split at h
            · cases h
            · split at h
              · cases h
              · rename_i hp
                split at h
                · cases h
                · rename_i hq
                  split at h
                  · cases h
                  · have h1 : Up s _ := pPlain_up (s := ⟨s.i + 3, s.n⟩) hp
                    have h2 := pJoin_up k _ _ _ _ hq
                    have h3 := pJoin_up k _ _ _ _ h
                    exact ⟨Nat.le_trans (Nat.le_trans h1.1 h2.1) h3.1, fun q => h3.2 (h2.2 (h1.2 q))⟩

theorem pPred_up {k : Nat} {s s' : Ps} {q : Pd} (h : pPred G k s = .ok q s') : Up s s' := by
  unfold pPred at h
  split at h
  · cases h
  · rename_i hs
    exact (pPlain_up hs).trans (pJoin_up _ _ _ _ _ h)

theorem pStep_up {arg : Ps → Rs Ag} (ha : ∀ s x s', arg s = .ok x s' → Up s s') {s s' : Ps} {x : Sp} (h : pStep G arg s = .ok x s') : s.n + 1 ≤ s'.n ∧ (s.n ≤ 150 → s'.n ≤ 150) := by
  unfold pStep at h
  split at h
  · cases h
  · split at h
    · cases h
    · rename_i hn
      split at h
      · cases h
      · split at h
        · cases h
        · rename_i hs
          cases h
          have hu : Up ⟨s.i + 2, s.n + 1⟩ _ := sev_up (fun _ => ha) hs
          exact ⟨hu.1, fun hq => hu.2 (by show s.n + 1 ≤ 150; omega)⟩

theorem pChainL_up {arg : Ps → Rs Ag} (ha : ∀ s x s', arg s = .ok x s' → Up s s') : ∀ (f : Nat) (l : List Sp) (s : Ps) (l' : List Sp) (s' : Ps), pChainL G arg f l s = .ok l' s' → Up s s'
  | 0, _, _, _, _, h => by cases h
  | f + 1, l, s, l', s', h => by
    rw [pChainL] at h
    split at h
    · cases h; exact Up.refl _
    · split at h
      · cases h
      · rename_i hs
        have hu := pStep_up ha hs
        have hv := pChainL_up ha f _ _ _ _ h
        exact ⟨by have := hv.1; have := hu.1; simp at this; omega, fun hq => hv.2 (hu.2 hq)⟩

theorem pChain_up {arg : Ps → Rs Ag} (ha : ∀ s x s', arg s = .ok x s' → Up s s') {s s' : Ps} {l : List Sp} (h : pChain G arg s = .ok l s') : Up s s' := by
  unfold pChain at h
  split at h
  · cases h
  · rename_i hs
    have hu := pStep_up ha hs
    have hv := pChainL_up ha _ _ _ _ _ h
    exact ⟨by have := hv.1; have := hu.1; omega, fun hq => hv.2 (hu.2 hq)⟩

theorem pArg_up {k : Nat} {trav : Ps → Rs (List Sp)} (ht : ∀ s x s', trav s = .ok x s' → Up s s') (s : Ps) (x : Ag) (s' : Ps) (h : pArg G k trav s = .ok x s') : Up s s' := by
  unfold pArg at h
  split at h
  · split at h
    · cases h
    · rename_i hs; cases h; exact pVal_up _ _ _ _ hs
  · split at h
    · split at h
      · cases h
      · rename_i hs; cases h; exact pPred_up hs
    · split at h
      · cases h; exact Up.refl _
      · split at h
        · cases h
        · rename_i hs; cases h; exact ht _ _ _ hs

theorem pTrav_up : ∀ (k : Nat) (s : Ps) (l : List Sp) (s' : Ps), pTrav G k s = .ok l s' → Up s s'
  | 0, _, _, _, h => by cases h
  | k + 1, s, l, s', h => by
    rw [pTrav] at h
    have hu := pChain_up (fun s x s' => pArg_up (fun s x s' => pTrav_up k s x s') s x s') h
    split at hu
    · exact hu
    · exact hu

end

end Go.Proofs.YtnehbpfgdeilhaaGreatDoor

namespace Go.Proofs.YtnehbpfgdeilhaaGreatDoor
open Go.ChangeShapes Go.WideShapes Go.ChangeAt Go.RowKit Go.Fl
open Go.Shelf

/-- the parser's arg, traversal, step, chain, where k more may stand around it -/
def ArgAt (pb g cap : Nat) (ws : List Wd) (k : Nat) : Prop := ∀ (w : World) (i d n : Nat) (x : Wd), PB w pb g cap ws i d n → ws[i]? = some x → argA x = true → d + k = 12 → n ≤ 150 →
  Calls Tryz.prog 47 #[.pointer (some ⟨pb, 0, none⟩)] w (Got pb g cap ws d (fun b => b = pb) (RdArg (RdTr k)) (pArg (gx ws) k (pTrav (gx ws) k) ⟨i, n⟩) w)

def StepAt (pb g cap : Nat) (ws : List Wd) (k : Nat) : Prop := ∀ (w : World) (i d n : Nat), PB w pb g cap ws i d n → d + k = 12 → n ≤ 150 →
  Calls Tryz.prog 30 #[.pointer (some ⟨pb, 0, none⟩)] w (Got pb g cap ws d (fun b => b = pb) (RdStp (RdTr k)) (pStep (gx ws) (pArg (gx ws) k (pTrav (gx ws) k)) ⟨i, n⟩) w)

def ChainAt (pb g cap : Nat) (ws : List Wd) (k : Nat) : Prop := ∀ (w : World) (i d n : Nat), PB w pb g cap ws i d n → d + k = 12 → n ≤ 150 →
  Calls Tryz.prog 19 #[.pointer (some ⟨pb, 0, none⟩)] w (Got pb g cap ws d (fun b => b = pb) (RdTr (k + 1)) (pChain (gx ws) (pArg (gx ws) k (pTrav (gx ws) k)) ⟨i, n⟩) w)

def TravAt (pb g cap : Nat) (ws : List Wd) (k : Nat) : Prop := ∀ (w : World) (i d n : Nat) (x : Wd), PB w pb g cap ws i d n → ws[i]? = some x → x.k = 1 → d + k = 12 → n ≤ 150 →
  Calls Tryz.prog 64 #[.pointer (some ⟨pb, 0, none⟩)] w (Got pb g cap ws d (fun b => b = pb) (RdTr k) (pTrav (gx ws) k ⟨i, n⟩) w)

section
variable {G : Nat → Wd} {arg : Ps → Rs Ag} {s s' : Ps} {l : List Ag}

theorem pStep_name (h : (G s.i).k ≠ 1) : pStep G arg s = .bad s.i 120 := by unfold pStep; exact if_pos h

theorem pStep_most (h : (G s.i).k = 1) (hn : s.n = 150) : pStep G arg s = .bad s.i 3 := by
  unfold pStep; rw [if_neg (by rw [h]; decide), if_pos hn]

theorem pStep_open (h : (G s.i).k = 1) (hn : s.n ≠ 150) (ho : isSgn (G (s.i + 1)) 40 = false) : pStep G arg s = .bad (s.i + 1) 120 := by
  unfold pStep; rw [if_neg (by rw [h]; decide), if_neg hn, if_pos ho]

theorem pStep_bad (h : (G s.i).k = 1) (hn : s.n ≠ 150) (ho : isSgn (G (s.i + 1)) 40 = true) {i : Nat} {e : Int} (hs : sev G 41 argA (fun _ => arg) ⟨s.i + 2, s.n + 1⟩ = .bad i e) : pStep G arg s = .bad i e := by
  unfold pStep; rw [if_neg (by rw [h]; decide), if_neg hn, if_neg (by rw [ho]; decide), hs]

theorem pStep_ok (h : (G s.i).k = 1) (hn : s.n ≠ 150) (ho : isSgn (G (s.i + 1)) 40 = true) (hs : sev G 41 argA (fun _ => arg) ⟨s.i + 2, s.n + 1⟩ = .ok l s') : pStep G arg s = .ok (.mk (G s.i).s l) s' := by
  unfold pStep; rw [if_neg (by rw [h]; decide), if_neg hn, if_neg (by rw [ho]; decide), hs]

end

/-- within a function that has a word in a box and a result's box -/
structure PL (pb g cap : Nat) (ws : List Wd) (w : World) (rt : TypeId) (rc : Array Value) (tb : Nat) (y : Wd) (i d n : Nat) (W : World) : Prop where
  p : PB W pb g cap ws i d n
  t : Blk W tb 56 #[.int .i64 y.k, .string y.s, .int .i64 y.n, .float .f64 y.f, .int .i64 (y.at_ : Nat)]
  rb : Blk W w.heap.size rt rc
  f : FR pb w W
  lt : (pb < w.heap.size ∧ g < w.heap.size) ∧ w.heap.size < tb

section
variable {pb g cap : Nat} {ws : List Wd} {w : World} {rt : TypeId} {rc : Array Value} {tb : Nat} {y : Wd} {i d n i' d' n' : Nat} {W W' : World}

theorem PL.go (h : PL pb g cap ws w rt rc tb y i d n W) (hp : PB W' pb g cap ws i' d' n') (ho : FR pb W W') : PL pb g cap ws w rt rc tb y i' d' n' W' := by
  obtain ⟨⟨h1, h0⟩, h2⟩ := h.lt
  exact ⟨hp, (ho.block _ h.t.lt (by omega)).trans h.t, (ho.block _ h.rb.lt (by omega)).trans h.rb, h.f.trans ho, h.lt⟩

theorem PL.on (h : PL pb g cap ws w rt rc tb y i d n W) (hb : Below W.heap.size W W') : PL pb g cap ws w rt rc tb y i d n W' := h.go (h.p.on hb) (FR.of hb)

theorem PL.word (h : PL pb g cap ws w rt rc tb y i d n W) : W.cell? ⟨tb, 0, none⟩ = some (.int .i64 y.k) ∧ W.cell? ⟨tb, 1, none⟩ = some (.string y.s) ∧ W.cell? ⟨tb, 2, none⟩ = some (.int .i64 y.n) ∧ W.cell? ⟨tb, 3, none⟩ = some (.float .f64 y.f) ∧ W.cell? ⟨tb, 4, none⟩ = some (.int .i64 (y.at_ : Nat)) :=
  ⟨h.t.cell 0, h.t.cell 1, h.t.cell 2, h.t.cell 3, h.t.cell 4⟩

theorem PL.start {w0 w1 w2 : World} (h : PB w pb g cap ws i d n) (h0 : Below w.heap.size w w0) (hr : Blk w0 w.heap.size rt rc) (hb1 : Below w0.heap.size w0 w1) (hb2 : Below w1.heap.size w1 w2) (ht : Blk w2 w1.heap.size 56 #[.int .i64 y.k, .string y.s, .int .i64 y.n, .float .f64 y.f, .int .i64 (y.at_ : Nat)]) :
    PL pb g cap ws w rt rc w1.heap.size y i d n w2 := by
  have h02 := hb1.trans (hb2.mono hb1.size)
  have h12 := hb1.size
  have hrl := hr.lt
  exact ⟨(h.on h0).on h02, ht, (h02.block _ hrl).trans hr, (FR.of h0).trans (FR.of h02), ⟨⟨h.box.lt, h.lt⟩, by omega⟩⟩

end

set_option maxHeartbeats 8000000 in
set_option maxRecDepth 100000 in
theorem step_at {pb g cap : Nat} {ws : List Wd} (hG : Gd ws) (k : Nat) (ha : ArgAt pb g cap ws k) : StepAt pb g cap ws k := by
  intro w i d n h hd hn
  have hmf : ∀ (fn : Fn) (first cap : Array Value) (w : World), (Instr.makeFunc fn first cap).run Tryz.prog w = .ok (.func fn first cap) w := fun _ _ _ _ => rfl
  obtain ⟨x, hx⟩ := h.get
  obtain ⟨w0, hw0⟩ : ∃ w0, w.alloc (.cells #[.string ⟨#[]⟩, .slice none 0 0] 42) = w0 := ⟨_, rfl⟩
  have hb0 : Below w.heap.size w w0 := by rw [← hw0]; exact (Below.refl _ _).alloc (Nat.le_refl _) _
  have hrb0 : Blk w0 w.heap.size 42 #[.string ⟨#[]⟩, .slice none 0 0] := by rw [← hw0]; exact Blk.new _ _ _
  have HW := Lib.hid (word_any (h.on hb0) hG hx)
  have H0 := Lib.hid (And.intro hb0 hrb0)
  have H := Lib.hid h
  have HG := Lib.hid hG
  have Hx := Lib.hid hx
  have HAt := Lib.hid (congrArg Wd.at_ (getD_of hx))
  have hgx : gx ws (Ps.mk i n).i = { x with at_ := 0 } := gx_of hx
  have hf := hG.few
  have hi := h.at_
  clear h hb0 hrb0 hG
  by_cases hk : x.k = 1
  · have hgk : (gx ws (Ps.mk i n).i).k = 1 := by rw [hgx]; exact hk
    have d1 : (x.k == 1) = true := by simpa using hk
    by_cases h150 : n = 150
    · have HV : Hid (pStep (gx ws) (pArg (gx ws) k (pTrav (gx ws) k)) ⟨i, n⟩ = .bad i 3) := Lib.hid (pStep_most (s := ⟨i, n⟩) hgk h150)
      have e150 : ((n : Int) == 150) = true := by rw [beq_iff_eq]; omega
      have HF := Lib.hid (fun W => fail_any x 3 W)
      clear hx hgx hgk hk h150 hd
      go_enter Tryz.func30, Tryz.ntmps30
      go_wp2_with fail
      refine HW.out.mono ?_
      rintro e w1 ⟨rfl, hb1⟩
      obtain ⟨w2, hw2⟩ : ∃ w2, w1.alloc (.cells #[.int .i64 x.k, .string x.s, .int .i64 x.n, .float .f64 x.f, .int .i64 (x.at_ : Nat)] 56) = w2 := ⟨_, rfl⟩
      have HL := Lib.hid (PL.start H.out H0.out.1 H0.out.2 hb1 (w2 := w2) (by rw [← hw2]; exact (Below.refl _ _).alloc (Nat.le_refl _) _) (by rw [← hw2]; exact Blk.new _ _ _))
      obtain ⟨t0, t1, t2, t3, t4⟩ := HL.out.word
      obtain ⟨-, -, -, c3, -, -, -, -⟩ := HL.out.p.cells
      clear hb1
      go_wp2_with fail
      refine (must_yes _).mono ?_
      rintro e w' ⟨rfl, rfl⟩
      go_wp2_with fail
      refine (HF.out _).mono ?_
      rintro e w3 ⟨rfl, hb3⟩
      exact ⟨rfl, Got.bad HV.out HAt.out (HL.out.p.on hb3) (HL.out.f.trans (FR.of hb3))⟩
    · have e150 : ((n : Int) == 150) = false := by rw [beq_eq_false_iff_ne]; omega
      obtain ⟨y, hy⟩ := HG.out.next hx (by rw [hk]; decide)
      have Hy := Lib.hid hy
      have hi2l := (List.getElem?_eq_some_iff.1 hy).1
      have Hi2l := Lib.hid hi2l
      obtain ⟨i2, hi2⟩ : ∃ q, i + 1 = q := ⟨_, rfl⟩
      obtain ⟨n2, hn2⟩ : ∃ q, n + 1 = q := ⟨_, rfl⟩
      have hgy : gx ws ((Ps.mk i n).i + 1) = { y with at_ := 0 } := gx_of hy
      have HAy : Hid ((ws.getD ((Ps.mk i n).i + 1) wdNone).at_ = y.at_) := Lib.hid (congrArg Wd.at_ (getD_of hy))
      rw [hi2] at Hy
      have Hi2 := Lib.hid hi2
      have Hn2 := Lib.hid hn2
      cases hs40 : isSgn y 40
      · have Hs40 := Lib.hid hs40
        have HV : Hid (pStep (gx ws) (pArg (gx ws) k (pTrav (gx ws) k)) ⟨i, n⟩ = .bad ((Ps.mk i n).i + 1) 120) := Lib.hid (pStep_open (s := ⟨i, n⟩) hgk h150 (by rw [hgy]; exact hs40))
        clear hx hgx hgk hk h150 hd hy hi2l hi2 hn2 hgy hs40
        go_enter Tryz.func30, Tryz.ntmps30
        go_wp2_with fail
        refine HW.out.mono ?_
        rintro e w1 ⟨rfl, hb1⟩
        obtain ⟨w2, hw2⟩ : ∃ w2, w1.alloc (.cells #[.int .i64 x.k, .string x.s, .int .i64 x.n, .float .f64 x.f, .int .i64 (x.at_ : Nat)] 56) = w2 := ⟨_, rfl⟩
        have HL := Lib.hid (PL.start H.out H0.out.1 H0.out.2 hb1 (w2 := w2) (by rw [← hw2]; exact (Below.refl _ _).alloc (Nat.le_refl _) _) (by rw [← hw2]; exact Blk.new _ _ _))
        obtain ⟨t0, t1, t2, t3, t4⟩ := HL.out.word
        obtain ⟨-, c1, -, c3, z1, -, z3, -⟩ := HL.out.p.cells
        clear hb1
        go_wp2_with fail
        refine (must_yes _).mono ?_
        rintro e w' ⟨rfl, rfl⟩
        go_wp2_with fail
        have HL3 := Lib.hid (HL.out.go (HL.out.p.one.next Hi2l.out) (fr_put (fr_put (Only.refl _ _) 3 _) 1 _))
        obtain ⟨w3, hw3⟩ : ∃ W, (w2.setCell ⟨pb, 3, none⟩ (.int .i64 ((n : Int) + 1))).setCell ⟨pb, 1, none⟩ (.int .i64 ((i : Int) + 1)) = W := ⟨_, rfl⟩
        rw [hw3] at HL3 ⊢
        rw [Hi2.out, Hn2.out] at HL3
        refine (take_no HL3.out.p HG.out Hy.out Hs40.out).mono ?_
        rintro e w4 ⟨rfl, hb4⟩
        have HL4 := Lib.hid (HL3.out.on hb4)
        clear hb4
        go_wp2_with fail
        refine (must_no HL4.out.p HG.out Hy.out).mono ?_
        rintro e w5 ⟨rfl, hb5⟩
        have hk := HL4.out.on hb5
        exact ⟨rfl, Got.bad HV.out HAy.out hk.p hk.f⟩
      · have Hs40 := Lib.hid hs40
        have hg40 : isSgn (gx ws ((Ps.mk i n).i + 1)) 40 = true := by rw [hgy]; exact hs40
        obtain ⟨i3, hi3⟩ : ∃ q, i2 + 1 = q := ⟨_, rfl⟩
        have Hi3 := Lib.hid hi3
        have hss : (gx ws (Ps.mk i n).i).s = x.s := by rw [hgx]
        have HVb : Hid (∀ j c, sev (gx ws) 41 argA (fun _ => pArg (gx ws) k (pTrav (gx ws) k)) ⟨i3, n2⟩ = .bad j c → pStep (gx ws) (pArg (gx ws) k (pTrav (gx ws) k)) ⟨i, n⟩ = .bad j c) := Lib.hid (fun j c hs => pStep_bad (s := ⟨i, n⟩) hgk h150 hg40 (by rw [show (Ps.mk i n).i + 2 = i3 by show i + 2 = i3; omega, show (Ps.mk i n).n + 1 = n2 from hn2]; exact hs))
        have HVo : Hid (∀ l s', sev (gx ws) 41 argA (fun _ => pArg (gx ws) k (pTrav (gx ws) k)) ⟨i3, n2⟩ = .ok l s' → pStep (gx ws) (pArg (gx ws) k (pTrav (gx ws) k)) ⟨i, n⟩ = .ok (.mk x.s l) s') := Lib.hid (fun l s' hs => by
          have := pStep_ok (s := ⟨i, n⟩) hgk h150 hg40 (by rw [show (Ps.mk i n).i + 2 = i3 by show i + 2 = i3; omega, show (Ps.mk i n).n + 1 = n2 from hn2]; exact hs)
          rw [hss] at this
          exact this)
        have hn2' : n2 ≤ 150 := by omega
        have HSev := Lib.hid (fun W (hp : PB W pb g cap ws i3 d n2) => sevA_any (keepS_Tr k) (rdTr_shape k) HG.out (w := W) (fun b => b = pb) rfl (fun _ _ => True) (fun _ _ _ _ _ => trivial) 41 (fun n => n ≤ 150) 47 #[.pointer (some ⟨pb, 0, none⟩)] #[] (fun _ => pArg (gx ws) k (pTrav (gx ws) k)) (enters_of rfl (by decide) rfl _)
          (fun c i n v s hn hr => (pArg_up (pTrav_up k) ⟨i, n⟩ v s hr).2 hn)
          (fun c v1 i1 n1 x1 _ hn _ hp hx1 hv1 => (ha v1 i1 d n1 x1 hp hx1 hv1 hd hn).mono fun e w' hg => ⟨hg, fun _ _ _ => trivial⟩) (fun b hb => by rw [hb]; exact hp.box.lt) hp trivial hn2')
        clear hx hgx hgk hk h150 hd hy hi2l hi2 hn2 hgy hs40 hg40 hi3 hss hn2'
        cases hr : sev (gx ws) 41 argA (fun _ => pArg (gx ws) k (pTrav (gx ws) k)) ⟨i3, n2⟩ with
        | bad j c =>
          have HV := Lib.hid (HVb.out _ _ hr)
          have HR := Lib.hid hr
          clear hr
          go_enter Tryz.func30, Tryz.ntmps30
          go_wp2_with fail
          refine HW.out.mono ?_
          rintro e w1 ⟨rfl, hb1⟩
          obtain ⟨w2, hw2⟩ : ∃ w2, w1.alloc (.cells #[.int .i64 x.k, .string x.s, .int .i64 x.n, .float .f64 x.f, .int .i64 (x.at_ : Nat)] 56) = w2 := ⟨_, rfl⟩
          have HL := Lib.hid (PL.start H.out H0.out.1 H0.out.2 hb1 (w2 := w2) (by rw [← hw2]; exact (Below.refl _ _).alloc (Nat.le_refl _) _) (by rw [← hw2]; exact Blk.new _ _ _))
          obtain ⟨t0, t1, t2, t3, t4⟩ := HL.out.word
          obtain ⟨-, c1, -, c3, z1, -, z3, -⟩ := HL.out.p.cells
          clear hb1
          go_wp2_with fail
          refine (must_yes _).mono ?_
          rintro e w' ⟨rfl, rfl⟩
          go_wp2_with fail
          have HL3 := Lib.hid (HL.out.go (HL.out.p.one.next Hi2l.out) (fr_put (fr_put (Only.refl _ _) 3 _) 1 _))
          obtain ⟨w3, hw3⟩ : ∃ W, (w2.setCell ⟨pb, 3, none⟩ (.int .i64 ((n : Int) + 1))).setCell ⟨pb, 1, none⟩ (.int .i64 ((i : Int) + 1)) = W := ⟨_, rfl⟩
          rw [hw3] at HL3 ⊢
          rw [Hi2.out, Hn2.out] at HL3
          refine (take_yes HL3.out.p HG.out Hy.out Hs40.out).mono ?_
          rintro e w4 ⟨rfl, hp4, ho4⟩
          rw [Hi3.out] at hp4
          have HL4 := Lib.hid (HL3.out.go hp4 ho4)
          obtain ⟨t40, t41, t42, t43, t44⟩ := HL4.out.word
          clear hp4 ho4
          go_wp2_with fail
          refine (must_yes _).mono ?_
          rintro e w' ⟨rfl, rfl⟩
          go_wp2_with fail
          refine wp_region_any (by kernel_rfl) ?_
          try (change wpAny _ _ _ _ _ _ _ (World.drew _))
          refine wpAny_take (i := 0) (v := .pointer (some ⟨w1.heap.size, 1, none⟩)) rfl (by kernel_rfl) (by kernel_rfl) (by kernel_rfl) (fun _ _ _ h => h) (Or.inl ⟨by rfl, ?_⟩) ?_
          · intro wq
            go_simp
          refine wpAny_take (i := 2) (v := .pointer (some ⟨pb, 0, none⟩)) rfl (by kernel_rfl) (by kernel_rfl) (by kernel_rfl) (fun _ _ _ h => h) (Or.inl ⟨by rfl, ?_⟩) ?_
          · intro wq
            go_simp
          refine wpAny_take (i := 3) (v := .pointer (some ⟨pb, 0, none⟩)) rfl (by kernel_rfl) (by kernel_rfl) (by kernel_rfl) (fun _ _ _ h => h) (Or.inl ⟨by rfl, ?_⟩) ?_
          · intro wq
            go_simp
          refine wpAny_take (i := 4) (v := .func (.func 46) #[.pointer (some ⟨pb, 0, none⟩)] #[]) rfl (by kernel_rfl) (by kernel_rfl) (by kernel_rfl) (fun _ _ _ h => h) (Or.inl ⟨by rfl, ?_⟩) ?_
          · intro wq
            go_simp
          refine wpAny_take (i := 5) (v := .pointer (some ⟨pb, 0, none⟩)) rfl (by kernel_rfl) (by kernel_rfl) (by kernel_rfl) (fun _ _ _ h => h) (Or.inl ⟨by rfl, ?_⟩) ?_
          · intro wq
            go_simp
          refine wpAny_take (i := 6) (v := .func (.func 47) #[.pointer (some ⟨pb, 0, none⟩)] #[]) rfl (by kernel_rfl) (by kernel_rfl) (by kernel_rfl) (fun _ _ _ h => h) (Or.inl ⟨by rfl, ?_⟩) ?_
          · intro wq
            go_simp
          refine wpAny_ready (rs := [1, 7]) (by kernel_rfl) (by simp) ?_
          refine AllReady.cons rfl (fun K hK => ?_) ?_
          · go_simp
            refine hK _ _ ?_
            clear hK K
            refine wpAny_ready (rs := [7]) (by kernel_rfl) (by simp) ?_
            refine AllReady.cons rfl (fun K hK => ?_) ?_
            · go_simp
              refine (HSev.out _ (HL4.out.p.on (drewN_below _ 1))).mono ?_
              rintro e w6 hg
              rw [HR.out] at hg
              obtain ⟨⟨rfl, ⟨i', n', hp6⟩, ho6⟩, -⟩ := hg
              exact ⟨rfl, Got.bad HV.out rfl hp6 ((HL4.out.f.trans (FR.of (drewN_below _ 1))).trans ho6)⟩
            exact AllReady.nil
          refine AllReady.cons rfl (fun K hK => ?_) ?_
          · go_simp
            refine (HSev.out _ (HL4.out.p.on (drewN_below _ 1))).mono ?_
            rintro e w6 hg
            rw [HR.out] at hg
            obtain ⟨⟨rfl, ⟨i', n', hp6⟩, ho6⟩, -⟩ := hg
            exact ⟨rfl, Got.bad HV.out rfl hp6 ((HL4.out.f.trans (FR.of (drewN_below _ 1))).trans ho6)⟩
          exact AllReady.nil
        | ok l s' =>
          have HV := Lib.hid (HVo.out _ _ hr)
          have HR := Lib.hid hr
          clear hr
          go_enter Tryz.func30, Tryz.ntmps30
          go_wp2_with fail
          refine HW.out.mono ?_
          rintro e w1 ⟨rfl, hb1⟩
          obtain ⟨w2, hw2⟩ : ∃ w2, w1.alloc (.cells #[.int .i64 x.k, .string x.s, .int .i64 x.n, .float .f64 x.f, .int .i64 (x.at_ : Nat)] 56) = w2 := ⟨_, rfl⟩
          have HL := Lib.hid (PL.start H.out H0.out.1 H0.out.2 hb1 (w2 := w2) (by rw [← hw2]; exact (Below.refl _ _).alloc (Nat.le_refl _) _) (by rw [← hw2]; exact Blk.new _ _ _))
          obtain ⟨t0, t1, t2, t3, t4⟩ := HL.out.word
          obtain ⟨-, c1, -, c3, z1, -, z3, -⟩ := HL.out.p.cells
          clear hb1
          go_wp2_with fail
          refine (must_yes _).mono ?_
          rintro e w' ⟨rfl, rfl⟩
          go_wp2_with fail
          have HL3 := Lib.hid (HL.out.go (HL.out.p.one.next Hi2l.out) (fr_put (fr_put (Only.refl _ _) 3 _) 1 _))
          obtain ⟨w3, hw3⟩ : ∃ W, (w2.setCell ⟨pb, 3, none⟩ (.int .i64 ((n : Int) + 1))).setCell ⟨pb, 1, none⟩ (.int .i64 ((i : Int) + 1)) = W := ⟨_, rfl⟩
          rw [hw3] at HL3 ⊢
          rw [Hi2.out, Hn2.out] at HL3
          refine (take_yes HL3.out.p HG.out Hy.out Hs40.out).mono ?_
          rintro e w4 ⟨rfl, hp4, ho4⟩
          rw [Hi3.out] at hp4
          have HL4 := Lib.hid (HL3.out.go hp4 ho4)
          obtain ⟨t40, t41, t42, t43, t44⟩ := HL4.out.word
          clear hp4 ho4
          go_wp2_with fail
          refine (must_yes _).mono ?_
          rintro e w' ⟨rfl, rfl⟩
          go_wp2_with fail
          refine wp_region_any (by kernel_rfl) ?_
          try (change wpAny _ _ _ _ _ _ _ (World.drew _))
          refine wpAny_take (i := 0) (v := .pointer (some ⟨w1.heap.size, 1, none⟩)) rfl (by kernel_rfl) (by kernel_rfl) (by kernel_rfl) (fun _ _ _ h => h) (Or.inl ⟨by rfl, ?_⟩) ?_
          · intro wq
            go_simp
          refine wpAny_take (i := 2) (v := .pointer (some ⟨pb, 0, none⟩)) rfl (by kernel_rfl) (by kernel_rfl) (by kernel_rfl) (fun _ _ _ h => h) (Or.inl ⟨by rfl, ?_⟩) ?_
          · intro wq
            go_simp
          refine wpAny_take (i := 3) (v := .pointer (some ⟨pb, 0, none⟩)) rfl (by kernel_rfl) (by kernel_rfl) (by kernel_rfl) (fun _ _ _ h => h) (Or.inl ⟨by rfl, ?_⟩) ?_
          · intro wq
            go_simp
          refine wpAny_take (i := 4) (v := .func (.func 46) #[.pointer (some ⟨pb, 0, none⟩)] #[]) rfl (by kernel_rfl) (by kernel_rfl) (by kernel_rfl) (fun _ _ _ h => h) (Or.inl ⟨by rfl, ?_⟩) ?_
          · intro wq
            go_simp
          refine wpAny_take (i := 5) (v := .pointer (some ⟨pb, 0, none⟩)) rfl (by kernel_rfl) (by kernel_rfl) (by kernel_rfl) (fun _ _ _ h => h) (Or.inl ⟨by rfl, ?_⟩) ?_
          · intro wq
            go_simp
          refine wpAny_take (i := 6) (v := .func (.func 47) #[.pointer (some ⟨pb, 0, none⟩)] #[]) rfl (by kernel_rfl) (by kernel_rfl) (by kernel_rfl) (fun _ _ _ h => h) (Or.inl ⟨by rfl, ?_⟩) ?_
          · intro wq
            go_simp
          refine wpAny_ready (rs := [1, 7]) (by kernel_rfl) (by simp) ?_
          refine AllReady.cons rfl (fun K hK => ?_) ?_
          · go_simp
            refine hK _ _ ?_
            clear hK K
            refine wpAny_ready (rs := [7]) (by kernel_rfl) (by simp) ?_
            refine AllReady.cons rfl (fun K hK => ?_) ?_
            · go_simp
              refine (HSev.out _ (HL4.out.p.on (drewN_below _ 1))).mono ?_
              rintro e w6 hg
              rw [HR.out] at hg
              obtain ⟨⟨v6, rfl, hv6, hp6, ho6⟩, -⟩ := hg
              obtain ⟨lA, lc, rfl⟩ := hv6.shape
              have HL6 := Lib.hid (HL4.out.go hp6 ((FR.of (drewN_below _ 1)).trans ho6))
              have HLv := Lib.hid hv6
              obtain ⟨t60, t61, t62, t63, t64⟩ := HL6.out.word
              have r0 : w6.cell? ⟨w.heap.size, 0, none⟩ = some (.string ⟨#[]⟩) := HL6.out.rb.cell 0
              have r1 : w6.cell? ⟨w.heap.size, 1, none⟩ = some (.slice none 0 0) := HL6.out.rb.cell 1
              have z0 : w6.frozen? ⟨w.heap.size, 0, none⟩ = false := HL6.out.rb.frozen 0
              have z1 : w6.frozen? ⟨w.heap.size, 1, none⟩ = false := HL6.out.rb.frozen 1
              clear hv6 hp6 ho6
              refine hK _ _ ?_
              clear hK K
              refine wpAny_ready (rs := [8]) (by kernel_rfl) (by simp) ?_
              refine AllReady.cons rfl (fun K hK => ?_) ?_
              · go_simp
                refine hK _ _ ?_
                clear hK K
                refine wpAny_ready (rs := [9]) (by kernel_rfl) (by simp) ?_
                refine AllReady.cons rfl (fun K hK => ?_) ?_
                · go_simp
                  refine hK _ _ ?_
                  clear hK K
                  refine wpAny_done (by kernel_rfl) ?_ _
                  go_wp2_with fail
                  have hfl : Below w.heap.size w6 ((w6.setCell ⟨w.heap.size, 0, none⟩ (.string x.s)).setCell ⟨w.heap.size, 1, none⟩ (.slice lA l.length lc)) := ((Below.refl _ _).setCell (by simp) _).setCell (by simp) _
                  have hsz : ((w6.setCell ⟨w.heap.size, 0, none⟩ (.string x.s)).setCell ⟨w.heap.size, 1, none⟩ (.slice lA l.length lc)).heap.size = w6.heap.size := by simp [World.setCell]
                  have f0 : (w6.setCell ⟨w.heap.size, 0, none⟩ (.string x.s)).cell? ⟨w.heap.size, 0, none⟩ = some (.string x.s) := (HL6.out.rb.set_ 0 _).cell 0
                  have f1 : ((w6.setCell ⟨w.heap.size, 0, none⟩ (.string x.s)).setCell ⟨w.heap.size, 1, none⟩ (.slice lA l.length lc)).cell? ⟨w.heap.size, 1, none⟩ = some (.slice lA l.length lc) := ((HL6.out.rb.set_ 0 _).set_ 1 _).cell 1
                  have h45 := HL4.out.f.size
                  refine bodyPost_ret (v := .agg #[.string x.s, .slice lA l.length lc]) (by simp [results, Tryz.results30, go_sem, f0, f1]) rfl
                    (Got.ok_ HV.out ⟨_, rfl, HLv.out.keep (keepS_Arg (keepS_Tr k)) (fun q hq => World.cell?_of_block ?_) (fun b hb => ⟨by have := hb.1; simp at this; omega, by rw [hsz]; exact hb.2⟩)⟩ (HL6.out.p.under hfl HL6.out.lt.1.1 HL6.out.lt.1.2) (HL6.out.f.far hfl (Nat.le_refl _)))
                  have hq1 : w.heap.size ≠ q.block := by have := hq.1; have := HL4.out.t.lt; have := HL4.out.lt.2; simp at *; omega
                  exact (Below.heap_setCell _ ⟨w.heap.size, 1, none⟩ _ q.block (fun e => hq1 e.symm)).trans (Below.heap_setCell _ ⟨w.heap.size, 0, none⟩ _ q.block (fun e => hq1 e.symm))
                exact AllReady.nil
              exact AllReady.nil
            exact AllReady.nil
          refine AllReady.cons rfl (fun K hK => ?_) ?_
          · go_simp
            refine (HSev.out _ (HL4.out.p.on (drewN_below _ 1))).mono ?_
            rintro e w6 hg
            rw [HR.out] at hg
            obtain ⟨⟨v6, rfl, hv6, hp6, ho6⟩, -⟩ := hg
            obtain ⟨lA, lc, rfl⟩ := hv6.shape
            have HL6 := Lib.hid (HL4.out.go hp6 ((FR.of (drewN_below _ 1)).trans ho6))
            have HLv := Lib.hid hv6
            obtain ⟨t60, t61, t62, t63, t64⟩ := HL6.out.word
            have r0 : w6.cell? ⟨w.heap.size, 0, none⟩ = some (.string ⟨#[]⟩) := HL6.out.rb.cell 0
            have r1 : w6.cell? ⟨w.heap.size, 1, none⟩ = some (.slice none 0 0) := HL6.out.rb.cell 1
            have z0 : w6.frozen? ⟨w.heap.size, 0, none⟩ = false := HL6.out.rb.frozen 0
            have z1 : w6.frozen? ⟨w.heap.size, 1, none⟩ = false := HL6.out.rb.frozen 1
            clear hv6 hp6 ho6
            refine hK _ _ ?_
            clear hK K
            refine wpAny_ready (rs := [1]) (by kernel_rfl) (by simp) ?_
            refine AllReady.cons rfl (fun K hK => ?_) ?_
            · go_simp
              refine hK _ _ ?_
              clear hK K
              refine wpAny_ready (rs := [8]) (by kernel_rfl) (by simp) ?_
              refine AllReady.cons rfl (fun K hK => ?_) ?_
              · go_simp
                refine hK _ _ ?_
                clear hK K
                refine wpAny_ready (rs := [9]) (by kernel_rfl) (by simp) ?_
                refine AllReady.cons rfl (fun K hK => ?_) ?_
                · go_simp
                  refine hK _ _ ?_
                  clear hK K
                  refine wpAny_done (by kernel_rfl) ?_ _
                  go_wp2_with fail
                  have hfl : Below w.heap.size w6 ((w6.setCell ⟨w.heap.size, 0, none⟩ (.string x.s)).setCell ⟨w.heap.size, 1, none⟩ (.slice lA l.length lc)) := ((Below.refl _ _).setCell (by simp) _).setCell (by simp) _
                  have hsz : ((w6.setCell ⟨w.heap.size, 0, none⟩ (.string x.s)).setCell ⟨w.heap.size, 1, none⟩ (.slice lA l.length lc)).heap.size = w6.heap.size := by simp [World.setCell]
                  have f0 : (w6.setCell ⟨w.heap.size, 0, none⟩ (.string x.s)).cell? ⟨w.heap.size, 0, none⟩ = some (.string x.s) := (HL6.out.rb.set_ 0 _).cell 0
                  have f1 : ((w6.setCell ⟨w.heap.size, 0, none⟩ (.string x.s)).setCell ⟨w.heap.size, 1, none⟩ (.slice lA l.length lc)).cell? ⟨w.heap.size, 1, none⟩ = some (.slice lA l.length lc) := ((HL6.out.rb.set_ 0 _).set_ 1 _).cell 1
                  have h45 := HL4.out.f.size
                  refine bodyPost_ret (v := .agg #[.string x.s, .slice lA l.length lc]) (by simp [results, Tryz.results30, go_sem, f0, f1]) rfl
                    (Got.ok_ HV.out ⟨_, rfl, HLv.out.keep (keepS_Arg (keepS_Tr k)) (fun q hq => World.cell?_of_block ?_) (fun b hb => ⟨by have := hb.1; simp at this; omega, by rw [hsz]; exact hb.2⟩)⟩ (HL6.out.p.under hfl HL6.out.lt.1.1 HL6.out.lt.1.2) (HL6.out.f.far hfl (Nat.le_refl _)))
                  have hq1 : w.heap.size ≠ q.block := by have := hq.1; have := HL4.out.t.lt; have := HL4.out.lt.2; simp at *; omega
                  exact (Below.heap_setCell _ ⟨w.heap.size, 1, none⟩ _ q.block (fun e => hq1 e.symm)).trans (Below.heap_setCell _ ⟨w.heap.size, 0, none⟩ _ q.block (fun e => hq1 e.symm))
                exact AllReady.nil
              exact AllReady.nil
            exact AllReady.nil
          exact AllReady.nil
  · have HV : Hid (pStep (gx ws) (pArg (gx ws) k (pTrav (gx ws) k)) ⟨i, n⟩ = .bad i 120) := Lib.hid (pStep_name (s := ⟨i, n⟩) (by rw [hgx]; exact hk))
    have d1 : (x.k == 1) = false := by simpa using hk
    clear hx hgx hk hd
    go_enter Tryz.func30, Tryz.ntmps30
    go_wp2_with fail
    refine HW.out.mono ?_
    rintro e w1 ⟨rfl, hb1⟩
    obtain ⟨w2, hw2⟩ : ∃ w2, w1.alloc (.cells #[.int .i64 x.k, .string x.s, .int .i64 x.n, .float .f64 x.f, .int .i64 (x.at_ : Nat)] 56) = w2 := ⟨_, rfl⟩
    have HL := Lib.hid (PL.start H.out H0.out.1 H0.out.2 hb1 (w2 := w2) (by rw [← hw2]; exact (Below.refl _ _).alloc (Nat.le_refl _) _) (by rw [← hw2]; exact Blk.new _ _ _))
    obtain ⟨t0, t1, t2, t3, t4⟩ := HL.out.word
    clear hb1
    go_wp2_with fail
    refine (must_no HL.out.p HG.out Hx.out).mono ?_
    rintro e w5 ⟨rfl, hb5⟩
    have hk := HL.out.on hb5
    exact ⟨rfl, Got.bad HV.out HAt.out hk.p hk.f⟩

end Go.Proofs.YtnehbpfgdeilhaaGreatDoor
