/- SrG, SsZ -/
import Derived.Test.YtgmjhoppjjjilaaDoorQ49
import Derived.Test.YtgmjhoppjjjilaaDoorQ50
import Derived.Test.YtgmjhoppjjjilaaDoorQ41
import Derived.Test.YtgmjhoppjjjilaaDoorQ48
import Derived.Test.YtgmjhoppjjjilaaDoorTie
import Derived.Test.YtgmjhoppjjjilaaDoorQ01
import Derived.Test.YtgmjhoppjjjilaaDoorQ02
import Derived.Test.YtgmjhoppjjjilaaDoorQ03
import Derived.Test.YtgmjhoppjjjilaaDoorQ04
import Derived.Test.YtgmjhoppjjjilaaDoorQ05
import Derived.Test.YtgmjhoppjjjilaaDoorQ06
import Derived.Test.YtgmjhoppjjjilaaDoorQ07
import Derived.Test.YtgmjhoppjjjilaaDoorQ08
import Derived.Test.YtgmjhoppjjjilaaDoorQ09
import Derived.Test.YtgmjhoppjjjilaaDoorQ10
import Derived.Test.YtgmjhoppjjjilaaDoorQ11
import Derived.Test.YtgmjhoppjjjilaaDoorQ12
import Derived.Test.YtgmjhoppjjjilaaDoorQ13
import Derived.Test.YtgmjhoppjjjilaaDoorQ14
import Derived.Test.YtgmjhoppjjjilaaDoorQ15
import Derived.Test.YtgmjhoppjjjilaaDoorQ16
import Derived.Test.YtgmjhoppjjjilaaDoorQ17
import Derived.Test.YtgmjhoppjjjilaaDoorQ18
import Derived.Test.YtgmjhoppjjjilaaDoorQ19
import Derived.Test.YtgmjhoppjjjilaaDoorQ20
import Derived.Test.YtgmjhoppjjjilaaDoorQ21
import Derived.Test.YtgmjhoppjjjilaaDoorQ22
import Derived.Test.YtgmjhoppjjjilaaDoorQ23
import Derived.Test.YtgmjhoppjjjilaaDoorQ24
import Derived.Test.YtgmjhoppjjjilaaDoorQ25
import Derived.Test.YtgmjhoppjjjilaaDoorQ26
import Derived.Test.YtgmjhoppjjjilaaDoorQ27
import Derived.Test.YtgmjhoppjjjilaaDoorQ28
import Derived.Test.YtgmjhoppjjjilaaDoorQ29
import Derived.Test.YtgmjhoppjjjilaaDoorQ30
import Derived.Test.YtgmjhoppjjjilaaDoorQ31
import Derived.Test.YtgmjhoppjjjilaaDoorQ32
import Derived.Test.YtgmjhoppjjjilaaDoorQ33
import Derived.Test.YtgmjhoppjjjilaaDoorQ34
import Derived.Test.YtgmjhoppjjjilaaDoorQ35
import Derived.Test.YtgmjhoppjjjilaaDoorQ36
import Derived.Test.YtgmjhoppjjjilaaDoorQ37
import Derived.Test.YtgmjhoppjjjilaaDoorQ38
import Derived.Test.YtgmjhoppjjjilaaDoorQ39
import Derived.Test.YtgmjhoppjjjilaaDoorQ40
import Derived.Test.YtgmjhoppjjjilaaDoorQ42
import Derived.Test.YtgmjhoppjjjilaaDoorQ43
import Derived.Test.YtgmjhoppjjjilaaDoorQ44
import Derived.Test.YtgmjhoppjjjilaaDoorQ45
import Derived.Test.YtgmjhoppjjjilaaDoorQ46
import Derived.Test.YtgmjhoppjjjilaaDoorQ47

/- the walk of ShowPreds -/
namespace Go.Proofs.YtgmjhoppjjjilaaDoor
open Go.ChangeShapes Go.WideShapes Go.ChangeAt Go.RowKit Go.Fl
open Go.Shelf

theorem p4_keep {V w1 w2 : World} {b : Nat} {v0 v7 v8 v9 : Value} (hb : Below w1.heap.size w1 w2) (h : (w1.cell? ⟨b, 0, none⟩ = some v0 ∧ w1.cell? ⟨b, 7, none⟩ = some v7 ∧ w1.cell? ⟨b, 8, none⟩ = some v8 ∧ w1.cell? ⟨b, 9, none⟩ = some v9) ∧ Below V.heap.size V w1) :
    (w2.cell? ⟨b, 0, none⟩ = some v0 ∧ w2.cell? ⟨b, 7, none⟩ = some v7 ∧ w2.cell? ⟨b, 8, none⟩ = some v8 ∧ w2.cell? ⟨b, 9, none⟩ = some v9) ∧ Below V.heap.size V w2 := by
  obtain ⟨⟨h0, h1, h2, h4⟩, h3⟩ := h
  have k : ∀ {p : Addr} {u : Value}, w1.cell? p = some u → w2.cell? p = some u := fun h => (hb.cell (World.block_lt_of_cell? w1 _ h)).trans h
  exact ⟨⟨k h0, k h1, k h2, k h4⟩, h3.trans (hb.mono h3.size)⟩

set_option maxHeartbeats 8000000 in
set_option maxRecDepth 100000 in
theorem showp_walk (S : ByteArray) (w : World) (he : EnvT w) :
    Calls Tryd.prog 4 #[.string S] w fun e w' => e = .returned (.bool true) ∧ Below w.heap.size w w' := by
  have HC := Lib.hid (rparse_any S w)
  have HE := Lib.hid he
  clear he
  go_enter Tryd.func4, Tryd.ntmps4
  go_wp2_with fail
  refine HC.out.mono ?_
  rintro e w1 ⟨lA, ll, lc, at_, er, rfl, hb1, hor⟩
  have HB1 := Lib.hid hb1
  clear hb1
  go_wp2_with fail
  refine (saw_any _ (HE.out.on HB1.out)).mono ?_
  rintro e w2 ⟨rfl, hb2⟩
  have HB12 := Lib.hid hb2
  have HB2 := Lib.hid (HB1.out.trans (hb2.mono HB1.out.size))
  clear hb2
  rcases hor with ⟨st, hst, rfl, hrd⟩ | ⟨-, her⟩
  rotate_left
  · have e1 : (er != 0) = true := by simpa using her
    clear her
    go_wp2_with fail
    refine (saw_any _ (HE.out.on HB2.out)).mono ?_
    rintro e w3 ⟨rfl, hb3⟩
    have HB3 := Lib.hid (HB2.out.trans (hb3.mono HB2.out.size))
    clear hb3
    go_wp2_with fail
    go_ret
    exact ⟨rfl, HB3.out⟩
  have hrd' : LstS (RdStp (RdTr 12)) 2 w1 (fun b => w.heap.size ≤ b ∧ b < w1.heap.size) st (.slice lA ll lc) := hrd
  obtain ⟨A0, c0, hA, hcc, hcm, hel⟩ := LstS.look hrd'
  injection hA with h1 h2 h3
  subst h1; subst h2; subst h3
  have HEL := Lib.hid hel
  have HST := Lib.hid hst
  clear hrd hrd' hel hst
  go_wp2_with fail
  go_loopw [6] (fun si wr => ∃ i : Nat, i ≤ st.length ∧ si = .int .i64 i ∧ Hid (Below w1.heap.size w1 wr)) (fun si _ => st.length - (intOf si).toNat)
  case atStart => exact ⟨0, by omega, rfl, HB12⟩
  case round =>
    obtain ⟨i, hi, rfl, Hbr⟩ := hrel
    by_cases hlt : i < st.length
    · obtain ⟨g, u, rfl, hSg, hcu, hru⟩ := HEL.out i hlt
      rcases hli : st[i] with ⟨nm, args⟩
      have hmem : Sp.mk nm args ∈ st := hli ▸ List.getElem_mem hlt
      rw [hli] at hru
      obtain ⟨a, ac, rfl, hag⟩ := stp_look hru
      have v1 : wr.cell? ⟨g, i * 2 + 1, none⟩ = some (.slice a args.length ac) := (Hbr.out.cell (p := ⟨g, i * 2 + 1, none⟩) hSg.2).trans (hcu 1 _ rfl)
      have hltI : (i : Int) < (st.length : Int) := by omega
      have hga := hSg.2
      obtain ⟨A2, c2, hA2, hc2, hc2m, hel2⟩ := LstS.look hag
      injection hA2 with h1 h2 h3
      subst h1; subst h3
      have HL2 := Lib.hid hel2
      have HM := Lib.hid hmem
      have HV1 := Lib.hid (hcu 1 _ rfl)
      clear hcu hru hag hli hel2 hmem h2
      go_wp2_with fail
      rename World => wo
      go_loopw [7] (fun sj wr => ∃ j : Nat, j ≤ args.length ∧ sj = .int .i64 j ∧ Hid (Below w1.heap.size w1 wr)) (fun sj _ => args.length - (intOf sj).toNat)
      case atStart => exact ⟨0, by omega, rfl, Hbr⟩
      case round =>
        obtain ⟨j, hj, rfl, Hbs⟩ := hrel
        have v1 : wr.cell? ⟨g, i * 2 + 1, none⟩ = some (.slice a args.length ac) := (Hbs.out.cell (p := ⟨g, i * 2 + 1, none⟩) hga).trans HV1.out
        by_cases hltj : j < args.length
        · obtain ⟨f, u, rfl, hSf, hcf, hrf⟩ := HL2.out j hltj
          have hltJ : (j : Int) < (args.length : Int) := by omega
          rcases haj : args[j] with ⟨ak, av, ap, aq⟩
          have hmem : Ag.mk ak av ap aq ∈ args := haj ▸ List.getElem_mem hltj
          rw [haj] at hrf
          obtain ⟨kk, bb, nn, ff, ss, vA, vl, vc, op, oA, ol, oc, kA, kl, kc, tA, tl, tc, rfl, -, hxp, -⟩ := RdArg.look (n := 12) hrf
          have hfl := hSf.2
          have z0 : wr.cell? ⟨f, j * 11, none⟩ = some (.int .i64 ak) := (Hbs.out.cell (p := ⟨f, j * 11, none⟩) hfl).trans (hcf 0 _ rfl)
          have z1 : wr.cell? ⟨f, j * 11 + 1, none⟩ = some (.int .i64 kk) := (Hbs.out.cell (p := ⟨f, j * 11 + 1, none⟩) hfl).trans (hcf 1 _ rfl)
          have z2 : wr.cell? ⟨f, j * 11 + 2, none⟩ = some (.bool bb) := (Hbs.out.cell (p := ⟨f, j * 11 + 2, none⟩) hfl).trans (hcf 2 _ rfl)
          have z3 : wr.cell? ⟨f, j * 11 + 3, none⟩ = some (.int .i64 nn) := (Hbs.out.cell (p := ⟨f, j * 11 + 3, none⟩) hfl).trans (hcf 3 _ rfl)
          have z4 : wr.cell? ⟨f, j * 11 + 4, none⟩ = some (.float .f64 ff) := (Hbs.out.cell (p := ⟨f, j * 11 + 4, none⟩) hfl).trans (hcf 4 _ rfl)
          have z5 : wr.cell? ⟨f, j * 11 + 5, none⟩ = some (.string ss) := (Hbs.out.cell (p := ⟨f, j * 11 + 5, none⟩) hfl).trans (hcf 5 _ rfl)
          have z6 : wr.cell? ⟨f, j * 11 + 6, none⟩ = some (.slice vA vl vc) := (Hbs.out.cell (p := ⟨f, j * 11 + 6, none⟩) hfl).trans (hcf 6 _ rfl)
          have z7 : wr.cell? ⟨f, j * 11 + 7, none⟩ = some (.string op) := (Hbs.out.cell (p := ⟨f, j * 11 + 7, none⟩) hfl).trans (hcf 7 _ rfl)
          have z8 : wr.cell? ⟨f, j * 11 + 8, none⟩ = some (.slice oA ol oc) := (Hbs.out.cell (p := ⟨f, j * 11 + 8, none⟩) hfl).trans (hcf 8 _ rfl)
          have z9 : wr.cell? ⟨f, j * 11 + 9, none⟩ = some (.slice kA kl kc) := (Hbs.out.cell (p := ⟨f, j * 11 + 9, none⟩) hfl).trans (hcf 9 _ rfl)
          have z10 : wr.cell? ⟨f, j * 11 + 10, none⟩ = some (.slice tA tl tc) := (Hbs.out.cell (p := ⟨f, j * 11 + 10, none⟩) hfl).trans (hcf 10 _ rfl)
          obtain ⟨X, hX⟩ : ∃ X, wr.alloc (.cells #[.int .i64 ak, .int .i64 kk, .bool bb, .int .i64 nn, .float .f64 ff, .string ss, .slice vA vl vc, .string op, .slice oA ol oc, .slice kA kl kc, .slice tA tl tc] 40) = X := ⟨_, rfl⟩
          have hbX : Below wr.heap.size wr X := hX ▸ (Below.refl _ wr).alloc (Nat.le_refl _) _
          have zX : X.heap[wr.heap.size]? = some (.cells #[.int .i64 ak, .int .i64 kk, .bool bb, .int .i64 nn, .float .f64 ff, .string ss, .slice vA vl vc, .string op, .slice oA ol oc, .slice kA kl kc, .slice tA tl tc] 40 (0, 0)) := hX ▸ heap_alloc_new wr _
          have hB1X : Below w1.heap.size w1 X := Hbs.out.trans (hbX.mono Hbs.out.size)
          obtain ⟨⟨x0, x1, x2, x3, x4, x5, x6, x7, x8, x9, x10⟩, -, xl⟩ := ele_cells zX
          have HX := Lib.hid hX
          by_cases hk : ak = 2
          · subst hk
            obtain ⟨hgood, hplen⟩ := preds_good HST.out HM.out hmem
            have hxp1 : RdP w1 (fun q => q < w1.heap.size) ap (.agg #[.string op, .slice oA ol oc, .slice kA kl kc]) := keepS_Pd _ _ _ _ _ _ (fun _ _ => rfl) (fun _ hq => hq.2) hxp
            have HS := Lib.hid (fun W (hb : Below w1.heap.size w1 W) => show_pred hgood (HE.out.on (HB1.out.trans (hb.mono HB1.out.size))) (rd_on hxp1 hb) (by omega))
            have HR := Lib.hid (fun W (hb : Below w1.heap.size w1 W) => rpred_told hgood W _ (rd_on hxp1 hb) (by omega))
            obtain ⟨N, hN⟩ : ∃ N, ofL (shPd ap) = N := ⟨_, rfl⟩
            rw [hN] at HS HR
            have hne : (N.toList != N.toList) = false := by simp
            clear hgood hplen hxp1 hxp hrf hcf hN hbX zX hX haj hmem
            go_upto_region 11 with fail
            rw [HX.out]
            go_wp2_with fail
            go_region_held3 (fun w' => (w'.cell? ⟨wr.heap.size, 0, none⟩ = some (.int .i64 2) ∧ w'.cell? ⟨wr.heap.size, 7, none⟩ = some (.string op) ∧ w'.cell? ⟨wr.heap.size, 8, none⟩ = some (.slice oA ol oc) ∧ w'.cell? ⟨wr.heap.size, 9, none⟩ = some (.slice kA kl kc)) ∧ Below w1.heap.size w1 w')
              (first | (exact p4_keep ((Below.refl X.heap.size X).drew) ⟨⟨x0, x7, x8, x9⟩, hB1X⟩) | (exact p4_keep (by assumption) (by assumption)))
              (first
                | (go_at_call 12; (with_reducible refine (HS.out _ ?hh).mono ?_); (case hh => first | exact hB1X.drew | (go_split_ands; assumption)); rintro e wn ⟨rfl, hbn⟩)
                | (go_at_call 13; (with_reducible refine (HR.out _ ?hh).mono ?_); (case hh => first | exact hB1X.drew | (go_split_ands; assumption)); rintro e wn ⟨rfl, hbn⟩))
            all_goals
              go_wp2_with fail
              go_roundw
              case rel => exact ⟨j + 1, by omega, by go_num, Lib.hid (And.right (by assumption))⟩
              case measure => simp [intOf]; omega
          · have hkb : (ak == 2) = false := by simpa using hk
            have HB : Hid (Below w1.heap.size w1 X) := Lib.hid hB1X
            clear hk hxp hrf hcf hbX zX hX haj hmem hB1X
            go_upto_region 11 with fail
            rw [HX.out]
            go_wp2_with fail
            go_big_quiet (fail)
            go_wp2_with fail
            go_roundw
            case rel => exact ⟨j + 1, by omega, by go_num, Lib.hid (below_drewN HB.out _)⟩
            case measure => simp [intOf]; omega
        · have hltJ : decide ((j : Int) < (args.length : Int)) = false := by rw [decide_eq_false_iff_not]; omega
          go_wp2_with fail
          go_roundw
          case rel => exact ⟨i + 1, by omega, by go_num, Hbs⟩
          case measure => simp [intOf]; omega
    · have hltI : decide ((i : Int) < (st.length : Int)) = false := by rw [decide_eq_false_iff_not]; omega
      go_wp2_with fail
      go_ret
      exact ⟨rfl, HB1.out.trans (Hbr.out.mono HB1.out.size)⟩

end Go.Proofs.YtgmjhoppjjjilaaDoor

/- what the rows of layer 13 list, as the walks take it; ShowPreds -/
namespace Go.Proofs.YtgmjhoppjjjilaaDoor
open Go.ChangeShapes Go.WideShapes Go.ChangeAt Go.RowKit Go.Fl
open Go.Shelf

theorem envt_of_laidP {w : World} (h : laidMetH Tryd.prog Rows.showPredsRow.laid w) : EnvT w := by
  rw [MakeChecks.laidMetH_plain _ _ _ (by kernel_rfl)] at h
  have h0 : laidMet Tryd.prog [("math/bits.deBruijn32tab", Rows.laid_math_bits_deBruijn32tab), ("math/bits.deBruijn64tab", Rows.laid_math_bits_deBruijn64tab), ("internal/strconv.uint64pow10", Rows.laid_internal_strconv_uint64pow10)] w := h
  have h1 := h0.tail
  have h2 := h1.tail
  refine ⟨?_, ?_⟩
  · exact Lib.tabIs_of_head (g := 1) (t := 150) (e := 49) (n := 20) (by kernel_rfl) (by kernel_rfl) (by kernel_rfl) (by kernel_rfl) (by kernel_rfl) (by kernel_rfl) h2
  · exact Lib.tabIs_of_head (g := 4) (t := 157) (e := 5) (n := 64) (by kernel_rfl) (by kernel_rfl) (by kernel_rfl) (by kernel_rfl) (by kernel_rfl) (by kernel_rfl) h1

end Go.Proofs.YtgmjhoppjjjilaaDoor
