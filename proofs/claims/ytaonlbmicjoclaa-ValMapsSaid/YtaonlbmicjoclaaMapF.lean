/- the document's Map, walked (written by tools/laws02r.py) -/
import Derived.Test.YtaonlbmicjoclaaMapE
import Derived.Test.YtaonlbmicjoclaaCmpS
import Derived.BigRegion
import Derived.Deep.LoopGhost
namespace Go.Proofs.Ytaonlbmicjoclaa
open Go.ChangeShapes Go.WideShapes Go.ChangeAt Go.RowKit Go.Fl

set_option maxHeartbeats 4000000 in
set_option maxRecDepth 100000 in
theorem rmap_any (l : List T) (A : Option Addr) (cap : Nat) (w : World) (h : RdL w w.heap.size l A) (hl : l.length ≤ 12) :
    Calls Try.prog 8 #[.slice A l.length cap] w fun e w' => ∃ v, e = .returned v ∧ Rd w' w'.heap.size (.mk 6 false 0 0 ⟨#[]⟩ (flat (mapR (prs l)))) v ∧ Below w.heap.size w w' := by
  obtain ⟨m, hm⟩ : ∃ m, l.length = m := ⟨_, rfl⟩
  have H := Lib.hid h; have HM := Lib.hid hm
  rw [hm] at hl ⊢
  have hbox := Blk.new w 26 #[.int .i64 0, .bool false, .int .i64 0, .float .f64 0, .string ⟨#[]⟩, .slice none 0 0]
  have hmade := (RV.made (w.alloc (.cells #[.int .i64 0, .bool false, .int .i64 0, .float .f64 0, .string ⟨#[]⟩, .slice none 0 0] 26)) (B := w.heap.size) (by simp)).low (M := w.heap.size + 1) (by simp) (Nat.le_succ _)
  rw [World.size_alloc] at hmade
  have hb1 := ((Below.refl (w.heap.size + 1) (w.alloc (.cells #[.int .i64 0, .bool false, .int .i64 0, .float .f64 0, .string ⟨#[]⟩, .slice none 0 0] 26))).alloc (by simp) (.cells #[] 26))
  have hb0 := (Below.refl w.heap.size w).alloc (Nat.le_refl _) (.cells #[.int .i64 0, .bool false, .int .i64 0, .float .f64 0, .string ⟨#[]⟩, .slice none 0 0] 26)
  have HBX := Lib.hid hbox; have HMD := Lib.hid hmade; have HB1 := Lib.hid hb1; have HBW := Lib.hid hb0
  clear h hm hbox hmade hb1 hb0
  go_enter Try.func8, Try.ntmps8
  go_wp2_with fail
  go_loopg [3, 4] m (fun g ov iv wr => ∃ (e k n c G : Nat), iv = .int .i64 e ∧ ov = .slice (some ⟨G, 0, none⟩) n c ∧ m - e ≤ g ∧ Hid (e = 2 * k ∧ k ≤ (prs l).length ∧ n = 2 * (mapR ((prs l).take k)).length) ∧ Hid (RV wr w.heap.size (w.heap.size + 1) (.slice (some ⟨G, 0, none⟩) n c) (flat (mapR ((prs l).take k)))) ∧ Hid (Below (w.heap.size + 1) (w.alloc (.cells #[.int .i64 0, .bool false, .int .i64 0, .float .f64 0, .string ⟨#[]⟩, .slice none 0 0] 26)) wr))
  case atStart => exact ⟨0, 0, 0, 0, w.heap.size + 1, rfl, rfl, by omega, ⟨rfl, Nat.zero_le _, rfl⟩, HMD.out, HB1.out⟩
  case round =>
    obtain ⟨e, k, n, c, G, rfl, rfl, hg, HE, HRV, HBR⟩ := hrel
    have HB0 : Hid (Below w.heap.size w wr) := Lib.hid (HBW.out.trans (HBR.out.mono (Nat.le_succ _)))
    by_cases hlt : e + 1 < m
    · have hpl := prs_len l
      have hkl : k < (prs l).length := by have := HE.out; have := HM.out; omega
      obtain ⟨ka, va, ha1, ha2, ha3⟩ := prs_get l k hkl
      obtain ⟨e1, he1⟩ : ∃ e1, e + 1 = e1 := ⟨_, rfl⟩
      rw [← HE.out.1] at ha1 ha2
      rw [he1] at ha2
      have hel : e < l.length := (List.getElem?_eq_some_iff.1 ha1).1
      have he1l : e1 < l.length := (List.getElem?_eq_some_iff.1 ha2).1
      have hx1 : l[e] = ka := (List.getElem?_eq_some_iff.1 ha1).2
      have hx2 : l[e1] = va := (List.getElem?_eq_some_iff.1 ha2).2
      obtain ⟨a, k1, b1, n1, f1, s1, q1, D1, c1, rfl, -, hk1, hr1, hs1⟩ := H.out.item hel
      obtain ⟨a', k2, b2, n2, f2, s2, q2, D2, c2, ea, -, hk2, hr2, hs2⟩ := H.out.item he1l
      cases ea
      rw [hx1] at hr1; rw [hx2] at hr2
      have Hr1 := Lib.hid hr1; have Hr2 := Lib.hid hr2; have Hs1 := Lib.hid hs1; have Hs2 := Lib.hid hs2
      have hTK : mapR ((prs l).take (k + 1)) = insR (ka, va) (mapR ((prs l).take k)) := by
        rw [List.take_succ_eq_append_getElem hkl, mapR_snoc, (List.getElem?_eq_some_iff.1 ha3).2]
      have HRL : Hid ((mapR ((prs l).take k)).length ≤ 6) := Lib.hid (by
        have h1 := mapR_len ((prs l).take k)
        rw [List.length_take] at h1
        have := HM.out
        omega)
      obtain ⟨R, hR⟩ : ∃ R, mapR ((prs l).take k) = R := ⟨_, rfl⟩
      rw [hR] at hTK HRL HRV
      have HTK := Lib.hid hTK
      have HN : Hid (n = 2 * R.length) := Lib.hid (by rw [← hR]; exact HE.out.2.2)
      have HKL := Lib.hid hkl
      have HW2 : Hid (IntKind.i64.wrap ((e : Int) + 1) = (e1 : Int)) := Lib.hid (by rw [IntKind.wrap_i64]; omega)
      have HW4 : Hid (IntKind.i64.wrap (e1 : Int) = (e1 : Int)) := Lib.hid (by rw [IntKind.wrap_i64]; omega)
      have HME : Hid (m - (e + 2) < m - e) := Lib.hid (by omega)
      have hlz : (e1 : Int) < (m : Int) := by omega
      have hlz0 : (e : Int) < (m : Int) := by omega
      have HE1 := Lib.hid he1
      have hn12 : n ≤ 12 := by have := HN.out; have := HRL.out; omega
      clear hr1 hr2 hs1 hs2 hk1 hk2 hx1 hx2 ha1 ha2 ha3 hel he1l hTK hR hkl hpl he1
      rename World => W0
      have hde : (e : Int) + 1 = (e1 : Int) := by have := HE1.out; omega
      go_wp2_with fail
      go_loopg [5, 6] (R.length + 1) (fun g5 atv sv wr => Hid (Below W0.heap.size W0 wr) ∧ ((∃ (X Y : List (T × T)) (at_ : Nat), sv = .bool false ∧ atv = .int .i64 at_ ∧ Y.length + 1 ≤ g5 ∧ Hid (R = X ++ Y ∧ (∀ q ∈ X, cmpT q.1 ka < 0) ∧ at_ = 2 * X.length)) ∨
        (∃ (X Y : List (T × T)) (q : T × T) (at_ : Nat), sv = .bool true ∧ atv = .int .i64 at_ ∧ Hid (R = X ++ q :: Y ∧ (∀ q ∈ X, cmpT q.1 ka < 0) ∧ cmpT q.1 ka = 0 ∧ at_ = 2 * X.length + 2))))
      case atStart => exact ⟨Below.refl _ _, .inl ⟨[], R, 0, rfl, rfl, Nat.le_refl _, rfl, by simp, rfl⟩⟩
      case round =>
        obtain ⟨HBQ, hst⟩ := hrel
        rcases hst with ⟨X, Y, at_, rfl, rfl, hgm, HX⟩ | ⟨X, Y, q, at_, rfl, rfl, HX⟩
        · cases Y with
          | nil =>
            have HYY : Hid (∀ q r, ([] : List (T × T)) = q :: r → 0 < cmpT q.1 ka) := Lib.hid (by intro q r h; cases h)
            have hdz : decide ((at_ : Int) < (n : Int)) = false := by have h1 := HX.out; have h2 := HN.out; rw [h1.1] at h2; simp at h2 ⊢; omega
            have hdz2 : ¬ at_ < n := by have h1 := HX.out; have h2 := HN.out; rw [h1.1] at h2; simp at h2 ⊢; omega
            have hdz3 : decide (at_ < n) = false := by simpa using hdz2
            go_wp2_with fail
            go_quiet (fail)
            rename Nat => nq
            obtain ⟨Wq, hWq⟩ : ∃ Wq, wr.drewN nq = Wq := ⟨_, rfl⟩
            have hbq : Below W0.heap.size W0 Wq := hWq ▸ below_drewN HBQ.out nq
            rw [hWq]
            clear HBQ
            have HAT : Hid (at_ ≤ n) := Lib.hid (by have h1 := HX.out.1; have h2 := HN.out; have h3 := HX.out.2.2; rw [h1, List.length_append] at h2; omega)
            have HBQ : Hid (Below W0.heap.size W0 Wq) := Lib.hid hbq
            obtain ⟨u0, u1, u2, u3, u4, u5⟩ := (Hs1.out.on HB0.out).on hbq
            obtain ⟨v0, v1, v2, v3, v4, v5⟩ := (Hs2.out.on HB0.out).on hbq
            have hrvq := (HRV.out.on hbq).on (Below.refl Wq.heap.size Wq).drew
            have hB0q : Below w.heap.size w Wq.drew := (HB0.out.trans (hbq.mono HB0.out.size)).drew
            have hins := ins_runs (at_ := at_) hrvq HAT.out (by have := HN.out; have := HRL.out; omega)
              (Hr1.out.keepS (w' := Wq.drew) (S' := fun b => b < w.heap.size) (fun p hp => hB0q.cell hp.2) (fun b hb => hb.2)) (Hr2.out.keepS (w' := Wq.drew) (S' := fun b => b < w.heap.size) (fun p hp => hB0q.cell hp.2) (fun b hb => hb.2))
            obtain ⟨o, hR3, hR1, hA, hB, hC⟩ := hins
            obtain ⟨p1a, c1a, w1a, hra1, bwa, p2a, c2a, w2a, p3a, c3a, w3a, hra2, hra3, RVa, Ba⟩ := hA
            obtain ⟨p1b, c1b, w1b, hrb1, -, p2b, c2b, w2b, p3b, c3b, w3b, hrb2, hrb3, RVb, Bb⟩ := hB
            obtain ⟨p1c, c1c, w1c, hrc1, -, p2c, c2c, w2c, p3c, c3c, w3c, hrc2, hrc3, RVc, Bc⟩ := hC
            simp only [if_true, if_false, Bool.false_eq_true] at hra2 hrb2 hrc2
            obtain ⟨Ga, rfl⟩ := RVa.ptr (by omega)
            obtain ⟨Gb, rfl⟩ := RVb.ptr (by omega)
            obtain ⟨Gc, rfl⟩ := RVc.ptr (by omega)
            have HZB : Hid (w.heap.size + 1 ≤ W0.heap.size) := Lib.hid (by have := HBR.out.size; rw [World.size_alloc] at this; exact this)
            have HNEW : Hid (flat (mapR ((prs l).take (k + 1))) = (flat R).take at_ ++ [ka, va] ++ (flat R).drop at_ ∧ n + 2 = 2 * (mapR ((prs l).take (k + 1))).length) := Lib.hid (by
              rw [HTK.out, HX.out.1, insR_here HX.out.2.1 HYY.out, HX.out.2.2]
              refine ⟨flat_here _ _ _, ?_⟩
              have h1 := HN.out
              rw [HX.out.1] at h1
              simp at h1 ⊢; omega)
            have HRVa := Lib.hid RVa; have HRVb := Lib.hid RVb; have HRVc := Lib.hid RVc
            have HBa : Hid (Below W0.heap.size W0 w3a) := Lib.hid ((hbq.drew).trans (Ba.mono hbq.size)); have HBb : Hid (Below W0.heap.size W0 w3b) := Lib.hid ((hbq.drew).trans (Bb.mono hbq.size)); have HBc : Hid (Below W0.heap.size W0 w3c) := Lib.hid ((hbq.drew).trans (Bc.mono hbq.size))
            have hatn : (at_ : Int) ≤ (n : Int) := by have := HAT.out; omega
            obtain ⟨ue0, ue1, ue2, ue3, ue4, ue5⟩ := ((Hs1.out.on HB0.out).on hbq).alloc (.cells #[] 26)
            obtain ⟨ve0, ve1, ve2, ve3, ve4, ve5⟩ := ((Hs2.out.on HB0.out).on hbq).alloc (.cells #[] 26)
            obtain ⟨ua0, ua1, ua2, ua3, ua4, ua5⟩ := ((Hs1.out.on HB0.out).on hbq).on ((Below.refl Wq.heap.size Wq).drew.trans bwa)
            obtain ⟨va0, va1, va2, va3, va4, va5⟩ := ((Hs2.out.on HB0.out).on hbq).on ((Below.refl Wq.heap.size Wq).drew.trans bwa)
            clear RVa RVb RVc Ba Bb Bc hrvq hB0q hbq bwa
            have hw2 := HW2.out
            have hw4 := HW4.out
            go_wp2_with fail
            have mixed : Try.prog.follows Departure.mixedOrders = true := by kernel_rfl
            go_region_law_o (first
              | (with_reducible refine step_append_runM rfl _ _ 22 22 rfl _ _ (by simp [Act.eval]) (by simp [Act.eval]) (hra1 _) ?_)
              | (with_reducible refine step_append_runM rfl _ _ 22 22 rfl _ _ (by simp [Act.eval]) (by simp [Act.eval]) (hra2 _) ?_)
              | (with_reducible refine step_append_runM rfl _ _ 22 22 rfl _ _ (by simp [Act.eval]) (by simp [Act.eval]) (hra3 _) ?_)
              | (with_reducible refine step_append_runM rfl _ _ 22 22 rfl _ _ (by simp [Act.eval]) (by simp [Act.eval]) (hrb1 _) ?_)
              | (with_reducible refine step_append_runM rfl _ _ 22 22 rfl _ _ (by simp [Act.eval]) (by simp [Act.eval]) (hrb2 _) ?_)
              | (with_reducible refine step_append_runM rfl _ _ 22 22 rfl _ _ (by simp [Act.eval]) (by simp [Act.eval]) (hrb3 _) ?_)
              | (with_reducible refine step_append_runM rfl _ _ 22 22 rfl _ _ (by simp [Act.eval]) (by simp [Act.eval]) (hrc1 _) ?_)
              | (with_reducible refine step_append_runM rfl _ _ 22 22 rfl _ _ (by simp [Act.eval]) (by simp [Act.eval]) (hrc2 _) ?_)
              | (with_reducible refine step_append_runM rfl _ _ 22 22 rfl _ _ (by simp [Act.eval]) (by simp [Act.eval]) (hrc3 _) ?_)
              | fail)
            all_goals
              go_wp2_with fail
              clear hw2 hw4
              go_roundg (m - (e + 2))
              case measure => exact Nat.lt_of_lt_of_le HME.out hg
              case rel =>
                first
                  | exact ⟨e + 2, k + 1, n + 2, c3a, Ga, by go_num, rfl, Nat.le_refl _, ⟨by have := HE.out.1; omega, HKL.out, HNEW.out.2⟩, Lib.hid (by rw [HNEW.out.1]; exact HRVa.out), Lib.hid (HBR.out.trans (HBa.out.mono HZB.out))⟩
                  | exact ⟨e + 2, k + 1, n + 2, c3b, Gb, by go_num, rfl, Nat.le_refl _, ⟨by have := HE.out.1; omega, HKL.out, HNEW.out.2⟩, Lib.hid (by rw [HNEW.out.1]; exact HRVb.out), Lib.hid (HBR.out.trans (HBb.out.mono HZB.out))⟩
                  | exact ⟨e + 2, k + 1, n + 2, c3c, Gc, by go_num, rfl, Nat.le_refl _, ⟨by have := HE.out.1; omega, HKL.out, HNEW.out.2⟩, Lib.hid (by rw [HNEW.out.1]; exact HRVc.out), Lib.hid (HBR.out.trans (HBc.out.mono HZB.out))⟩
          | cons q Y' =>
            have HEL : Hid (at_ < (flat R).length) := Lib.hid (by have h1 := HX.out; rw [h1.1, flat_len, List.length_append]; simp; omega)
            have HEX : Hid ((flat R)[at_]'HEL.out = q.1) := Lib.hid (by
              have h1 := flat_key X Y' q
              rw [← HX.out.2.2, ← HX.out.1] at h1
              exact (List.getElem?_eq_some_iff.1 h1).2)
            have hatn : (at_ : Int) < (n : Int) := by have h1 := HEL.out; have h2 := HN.out; rw [flat_len] at h1; omega
            have hatd : decide ((at_ : Int) < (n : Int)) = true := by simpa using hatn
            have hatd2 : decide (at_ < n) = true := by rw [decide_eq_true_iff]; omega
            obtain ⟨z, hz⟩ : ∃ z, cmpT q.1 ka = z := ⟨_, rfl⟩
            have HZ := Lib.hid hz
            clear hz
            obtain ⟨hLx, -, -, -, hrlx⟩ := (HRV.out.on HBQ.out).list
            obtain ⟨ax, k3, b3, n3, f3, s3, q3, D3, c3, eax, -, -, hr3x, hs3x⟩ := hrlx.item HEL.out
            rw [HEX.out] at hr3x
            cases eax
            obtain ⟨w0x, w1x, w2x, w3x, w4x, w5x⟩ := hs3x
            simp only [adr_add, Nat.zero_add] at w0x w1x w2x w3x w4x w5x
            obtain ⟨u0, u1, u2, u3, u4, u5⟩ := (Hs1.out.on HB0.out).on HBQ.out
            have HR3 := Lib.hid hr3x
            clear hrlx hr3x hLx
            by_cases hz0 : z ≤ 0
            · have hzd : decide (z ≤ 0) = true := by simpa using hz0
              go_wp2_with fail
              have mixed : Try.prog.follows Departure.mixedOrders = true := by kernel_rfl
              refine region_tail 17 mixed (by kernel_rfl) ?_
              simp only [List.take_succ_cons, List.take_zero, List.drop_succ_cons, List.drop_zero]
              repeat still_step
              refine wpStill_nil ?_
              go_wp2_with fail
              refine (rfcmp_any (HR3.out.on (Below.refl _ _).drew) ((Hr1.out.on (HB0.out.trans (HBQ.out.mono HB0.out.size))).on (Below.refl _ _).drew)).mono ?_
              rw [HZ.out]
              rintro e' wc ⟨rfl, hbc⟩
              have HBC : Hid (Below W0.heap.size W0 wc) := Lib.hid (HBQ.out.drew.trans (hbc.mono HBQ.out.size))
              clear hbc w0x w1x w2x w3x w4x w5x u0 u1 u2 u3 u4 u5
              obtain ⟨hLy, -, -, -, hrly⟩ := (HRV.out.on HBC.out).list
              obtain ⟨ay, k3, b3, n3, f3, s3, q3, D3, c3, eay, -, -, hr3y, hs3y⟩ := hrly.item HEL.out
              rw [HEX.out] at hr3y
              cases eay
              obtain ⟨w0y, w1y, w2y, w3y, w4y, w5y⟩ := hs3y
              simp only [adr_add, Nat.zero_add] at w0y w1y w2y w3y w4y w5y
              obtain ⟨u0, u1, u2, u3, u4, u5⟩ := (Hs1.out.on HB0.out).on HBC.out
              have HR3 := Lib.hid hr3y
              clear hrly hr3y hLy
              by_cases hze : z = 0
              · have hzz : (z == 0) = true := by simpa using hze
                go_wp2_with fail
                refine region_tail 8 mixed (by kernel_rfl) ?_
                simp only [List.take_succ_cons, List.take_zero, List.drop_succ_cons, List.drop_zero]
                repeat still_step
                refine wpStill_nil ?_
                go_wp2_with fail
                refine (rfcmp_any (HR3.out.on (Below.refl _ _).drew) ((Hr1.out.on (HB0.out.trans (HBC.out.mono HB0.out.size))).on (Below.refl _ _).drew)).mono ?_
                rw [HZ.out]
                rintro e' wd ⟨rfl, hbd⟩
                have HBD : Hid (Below W0.heap.size W0 wd) := Lib.hid (HBC.out.drew.trans (hbd.mono HBC.out.size))
                clear hbd w0y w1y w2y w3y w4y w5y u0 u1 u2 u3 u4 u5
                go_wp2_with fail
                go_roundg 0
                case measure => omega
                case rel => exact ⟨HBD.out, .inr ⟨X, Y', q, at_ + 2, by first | rfl | simp [hze], by go_num, HX.out.1, HX.out.2.1, by rw [HZ.out]; exact hze, by have := HX.out.2.2; omega⟩⟩
              · have hzz : (z == 0) = false := by simpa using hze
                go_wp2_with fail
                refine region_tail 8 mixed (by kernel_rfl) ?_
                simp only [List.take_succ_cons, List.take_zero, List.drop_succ_cons, List.drop_zero]
                repeat still_step
                refine wpStill_nil ?_
                go_wp2_with fail
                refine (rfcmp_any (HR3.out.on (Below.refl _ _).drew) ((Hr1.out.on (HB0.out.trans (HBC.out.mono HB0.out.size))).on (Below.refl _ _).drew)).mono ?_
                rw [HZ.out]
                rintro e' wd ⟨rfl, hbd⟩
                have HBD : Hid (Below W0.heap.size W0 wd) := Lib.hid (HBC.out.drew.trans (hbd.mono HBC.out.size))
                clear hbd w0y w1y w2y w3y w4y w5y u0 u1 u2 u3 u4 u5
                go_wp2_with fail
                go_roundg (Y'.length + 1)
                case measure => simp at hgm; omega
                case rel => exact ⟨HBD.out, .inl ⟨X ++ [q], Y', at_ + 2, by first | rfl | simp [hze], by go_num, Nat.le_refl _, by rw [HX.out.1]; simp, fun x hx => by
                  rcases List.mem_append.1 hx with hx | hx
                  · exact HX.out.2.1 x hx
                  · simp at hx; subst hx; have := HZ.out; omega, by have := HX.out.2.2; simp; omega⟩⟩
            · have hzd : decide (z ≤ 0) = false := by simpa using hz0
              have HYY : Hid (∀ q' r, (q :: Y') = q' :: r → 0 < cmpT q'.1 ka) := Lib.hid (by intro q' r h; cases h; have := HZ.out; omega)
              go_wp2_with fail
              have mixed : Try.prog.follows Departure.mixedOrders = true := by kernel_rfl
              refine region_tail 17 mixed (by kernel_rfl) ?_
              simp only [List.take_succ_cons, List.take_zero, List.drop_succ_cons, List.drop_zero]
              repeat still_step
              refine wpStill_nil ?_
              go_wp2_with fail
              refine (rfcmp_any (HR3.out.on (Below.refl _ _).drew) ((Hr1.out.on (HB0.out.trans (HBQ.out.mono HB0.out.size))).on (Below.refl _ _).drew)).mono ?_
              rw [HZ.out]
              rintro e' wc ⟨rfl, hbc⟩
              have HBC : Hid (Below W0.heap.size W0 wc) := Lib.hid (HBQ.out.drew.trans (hbc.mono HBQ.out.size))
              clear hbc w0x w1x w2x w3x w4x w5x u0 u1 u2 u3 u4 u5
              have hbq := HBC.out
              clear HBQ HEX HEL hatn hatd hatd2
              rename World => Wq
              have HAT : Hid (at_ ≤ n) := Lib.hid (by have h1 := HX.out.1; have h2 := HN.out; have h3 := HX.out.2.2; rw [h1, List.length_append] at h2; omega)
              have HBQ : Hid (Below W0.heap.size W0 Wq) := Lib.hid hbq
              obtain ⟨u0, u1, u2, u3, u4, u5⟩ := (Hs1.out.on HB0.out).on hbq
              obtain ⟨v0, v1, v2, v3, v4, v5⟩ := (Hs2.out.on HB0.out).on hbq
              have hrvq := (HRV.out.on hbq).on (Below.refl Wq.heap.size Wq).drew
              have hB0q : Below w.heap.size w Wq.drew := (HB0.out.trans (hbq.mono HB0.out.size)).drew
              have hins := ins_runs (at_ := at_) hrvq HAT.out (by have := HN.out; have := HRL.out; omega)
                (Hr1.out.keepS (w' := Wq.drew) (S' := fun b => b < w.heap.size) (fun p hp => hB0q.cell hp.2) (fun b hb => hb.2)) (Hr2.out.keepS (w' := Wq.drew) (S' := fun b => b < w.heap.size) (fun p hp => hB0q.cell hp.2) (fun b hb => hb.2))
              obtain ⟨o, hR3, hR1, hA, hB, hC⟩ := hins
              obtain ⟨p1a, c1a, w1a, hra1, bwa, p2a, c2a, w2a, p3a, c3a, w3a, hra2, hra3, RVa, Ba⟩ := hA
              obtain ⟨p1b, c1b, w1b, hrb1, -, p2b, c2b, w2b, p3b, c3b, w3b, hrb2, hrb3, RVb, Bb⟩ := hB
              obtain ⟨p1c, c1c, w1c, hrc1, -, p2c, c2c, w2c, p3c, c3c, w3c, hrc2, hrc3, RVc, Bc⟩ := hC
              simp only [if_true, if_false, Bool.false_eq_true] at hra2 hrb2 hrc2
              obtain ⟨Ga, rfl⟩ := RVa.ptr (by omega)
              obtain ⟨Gb, rfl⟩ := RVb.ptr (by omega)
              obtain ⟨Gc, rfl⟩ := RVc.ptr (by omega)
              have HZB : Hid (w.heap.size + 1 ≤ W0.heap.size) := Lib.hid (by have := HBR.out.size; rw [World.size_alloc] at this; exact this)
              have HNEW : Hid (flat (mapR ((prs l).take (k + 1))) = (flat R).take at_ ++ [ka, va] ++ (flat R).drop at_ ∧ n + 2 = 2 * (mapR ((prs l).take (k + 1))).length) := Lib.hid (by
                rw [HTK.out, HX.out.1, insR_here HX.out.2.1 HYY.out, HX.out.2.2]
                refine ⟨flat_here _ _ _, ?_⟩
                have h1 := HN.out
                rw [HX.out.1] at h1
                simp at h1 ⊢; omega)
              have HRVa := Lib.hid RVa; have HRVb := Lib.hid RVb; have HRVc := Lib.hid RVc
              have HBa : Hid (Below W0.heap.size W0 w3a) := Lib.hid ((hbq.drew).trans (Ba.mono hbq.size)); have HBb : Hid (Below W0.heap.size W0 w3b) := Lib.hid ((hbq.drew).trans (Bb.mono hbq.size)); have HBc : Hid (Below W0.heap.size W0 w3c) := Lib.hid ((hbq.drew).trans (Bc.mono hbq.size))
              have hatn : (at_ : Int) ≤ (n : Int) := by have := HAT.out; omega
              obtain ⟨ue0, ue1, ue2, ue3, ue4, ue5⟩ := ((Hs1.out.on HB0.out).on hbq).alloc (.cells #[] 26)
              obtain ⟨ve0, ve1, ve2, ve3, ve4, ve5⟩ := ((Hs2.out.on HB0.out).on hbq).alloc (.cells #[] 26)
              obtain ⟨ua0, ua1, ua2, ua3, ua4, ua5⟩ := ((Hs1.out.on HB0.out).on hbq).on ((Below.refl Wq.heap.size Wq).drew.trans bwa)
              obtain ⟨va0, va1, va2, va3, va4, va5⟩ := ((Hs2.out.on HB0.out).on hbq).on ((Below.refl Wq.heap.size Wq).drew.trans bwa)
              clear RVa RVb RVc Ba Bb Bc hrvq hB0q hbq bwa
              have hw2 := HW2.out
              have hw4 := HW4.out
              go_wp2_with fail
              have mixed : Try.prog.follows Departure.mixedOrders = true := by kernel_rfl
              go_region_law_o (first
                | (with_reducible refine step_append_runM rfl _ _ 22 22 rfl _ _ (by simp [Act.eval]) (by simp [Act.eval]) (hra1 _) ?_)
                | (with_reducible refine step_append_runM rfl _ _ 22 22 rfl _ _ (by simp [Act.eval]) (by simp [Act.eval]) (hra2 _) ?_)
                | (with_reducible refine step_append_runM rfl _ _ 22 22 rfl _ _ (by simp [Act.eval]) (by simp [Act.eval]) (hra3 _) ?_)
                | (with_reducible refine step_append_runM rfl _ _ 22 22 rfl _ _ (by simp [Act.eval]) (by simp [Act.eval]) (hrb1 _) ?_)
                | (with_reducible refine step_append_runM rfl _ _ 22 22 rfl _ _ (by simp [Act.eval]) (by simp [Act.eval]) (hrb2 _) ?_)
                | (with_reducible refine step_append_runM rfl _ _ 22 22 rfl _ _ (by simp [Act.eval]) (by simp [Act.eval]) (hrb3 _) ?_)
                | (with_reducible refine step_append_runM rfl _ _ 22 22 rfl _ _ (by simp [Act.eval]) (by simp [Act.eval]) (hrc1 _) ?_)
                | (with_reducible refine step_append_runM rfl _ _ 22 22 rfl _ _ (by simp [Act.eval]) (by simp [Act.eval]) (hrc2 _) ?_)
                | (with_reducible refine step_append_runM rfl _ _ 22 22 rfl _ _ (by simp [Act.eval]) (by simp [Act.eval]) (hrc3 _) ?_)
                | fail)
              all_goals
                go_wp2_with fail
                clear hw2 hw4
                go_roundg (m - (e + 2))
                case measure => exact Nat.lt_of_lt_of_le HME.out hg
                case rel =>
                  first
                    | exact ⟨e + 2, k + 1, n + 2, c3a, Ga, by go_num, rfl, Nat.le_refl _, ⟨by have := HE.out.1; omega, HKL.out, HNEW.out.2⟩, Lib.hid (by rw [HNEW.out.1]; exact HRVa.out), Lib.hid (HBR.out.trans (HBa.out.mono HZB.out))⟩
                    | exact ⟨e + 2, k + 1, n + 2, c3b, Gb, by go_num, rfl, Nat.le_refl _, ⟨by have := HE.out.1; omega, HKL.out, HNEW.out.2⟩, Lib.hid (by rw [HNEW.out.1]; exact HRVb.out), Lib.hid (HBR.out.trans (HBb.out.mono HZB.out))⟩
                    | exact ⟨e + 2, k + 1, n + 2, c3c, Gc, by go_num, rfl, Nat.le_refl _, ⟨by have := HE.out.1; omega, HKL.out, HNEW.out.2⟩, Lib.hid (by rw [HNEW.out.1]; exact HRVc.out), Lib.hid (HBR.out.trans (HBc.out.mono HZB.out))⟩
        · have HD : Hid (at_ ≤ n ∧ 2 ≤ n ∧ 1 ≤ at_) := Lib.hid (by have h1 := HX.out; have h2 := HN.out; rw [h1.1] at h2; simp at h2; omega)
          obtain ⟨d, hd⟩ : ∃ d, at_ - 1 = d := ⟨_, rfl⟩
          have HDE : Hid (d = 2 * X.length + 1 ∧ d < n ∧ d < (flat R).length) := Lib.hid (by have h1 := HX.out; have h2 := HN.out; have h3 := HD.out; rw [flat_len]; rw [h1.1] at h2 ⊢; simp at h2 ⊢; omega)
          have HDZ : Hid ((at_ : Int) - 1 = (d : Int)) := Lib.hid (by have h3 := HD.out; omega)
          have HNEW : Hid (flat (mapR ((prs l).take (k + 1))) = (flat R).set d va ∧ n = 2 * (mapR ((prs l).take (k + 1))).length) := Lib.hid (by
            have h1 := HX.out; have h2 := HN.out
            rw [HTK.out, h1.1, insR_same h1.2.1 h1.2.2.1, HDE.out.1]
            refine ⟨flat_same _ _ _ _, ?_⟩
            rw [h1.1] at h2
            simp at h2 ⊢; omega)
          have hdn : (d : Int) < (n : Int) := by have := HDE.out; omega
          clear hd
          obtain ⟨hcd, hcd2⟩ | ⟨hcd, hcd2⟩ : (decide ((at_ : Int) < (n : Int)) = true ∧ decide (at_ < n) = true) ∨ (decide ((at_ : Int) < (n : Int)) = false ∧ decide (at_ < n) = false) := by
            by_cases hq : at_ < n
            · exact .inl ⟨by simpa using hq, by simpa using hq⟩
            · exact .inr ⟨by simpa using hq, by simpa using hq⟩
          all_goals
            go_wp2_with fail
            go_quiet (fail)
            rename Nat => nq
            obtain ⟨Wq, hWq⟩ : ∃ Wq, wr.drewN nq = Wq := ⟨_, rfl⟩
            have hbq : Below W0.heap.size W0 Wq := hWq ▸ below_drewN HBQ.out nq
            rw [hWq]
            have hrv := HRV.out.on hbq
            obtain ⟨hL, hnc, xs, hxs, hone, hxl, hsrc⟩ := hrv.src
            obtain ⟨hgl, hcell⟩ : G < Wq.heap.size ∧ ∀ j u, xs[j]? = some u → Wq.cell? ⟨G, j, none⟩ = some u := by
              rcases hsrc with ⟨e, -⟩ | ⟨g', e, h1, h2⟩
              · cases e
              · cases e; exact ⟨h1, h2⟩
            have hB0q : Below w.heap.size w Wq := HB0.out.trans (hbq.mono HB0.out.size)
            have hbe : Below Wq.heap.size Wq (Wq.alloc (.cells #[] 26)) := (Below.refl _ Wq).alloc (Nat.le_refl _) _
            obtain ⟨p1, c1', w10, hr10, R10, b10, -⟩ := ((RV.made Wq (B := w.heap.size) hB0q.size).app (q := flat R) (m := n) (k := n) rfl (hxs.keepB hbe hB0q.size) hone ⟨G, 0, none⟩ c hL (fun j u hj => by
              rw [adr_add, Nat.zero_add]; exact (hbe.cell (p := ⟨G, j, none⟩) hgl).trans (hcell _ _ hj)) (by omega) (by omega))
            have R10' := R10.low (M := w.heap.size + 1) (hrv.2.2) (Nat.le_succ _)
            rw [List.nil_append] at R10'
            obtain ⟨G1, rfl⟩ := R10'.ptr (by have := HD.out; omega)
            have hb10 := hbe.trans b10
            obtain ⟨v0, v1, v2, v3, v4, v5⟩ := ((Hs2.out.on HB0.out).on hbq).on hb10
            obtain ⟨hbg, cs, hblk, hcs⟩ := R10'.1.blk
            have hin : d * 6 + 6 ≤ cs.size := by have h1 := Nat.mul_le_mul_right 6 (show d + 1 ≤ (flat R).length from HDE.out.2.2); omega
            have hcy : ∀ j, j < 6 → w10.cell? ⟨G1, d * 6 + j, none⟩ = some (cs[d * 6 + j]?.getD (.bool false)) ∧ w10.frozen? ⟨G1, d * 6 + j, none⟩ = false := fun j hj =>
              ⟨by rw [hblk.cell, Array.getElem?_eq_getElem (by omega)]; rfl, hblk.frozen _⟩
            obtain ⟨y0, z0⟩ := hcy 0 (by decide)
            obtain ⟨y1, z1⟩ := hcy 1 (by decide)
            obtain ⟨y2, z2⟩ := hcy 2 (by decide)
            obtain ⟨y3, z3⟩ := hcy 3 (by decide)
            obtain ⟨y4, z4⟩ := hcy 4 (by decide)
            obtain ⟨y5, z5⟩ := hcy 5 (by decide)
            replace y0 : w10.cell? ⟨G1, d * 6, none⟩ = some _ := y0
            replace z0 : w10.frozen? ⟨G1, d * 6, none⟩ = false := z0
            have HR10 := Lib.hid R10'; have HB10 : Hid (Below W0.heap.size W0 w10) := Lib.hid (hbq.trans (hb10.mono hbq.size)); have HG1 := Lib.hid hbg
            have HVA : Hid (RdS w10 (fun b => b < w.heap.size) va (.agg #[.int .i64 k2, .bool b2, .int .i64 n2, .float .f64 f2, .string s2, .slice D2 q2.length c2])) := Lib.hid (Hr2.out.keepS (w' := w10) (S' := fun b => b < w.heap.size) (fun p hp => (hB0q.trans (hb10.mono hB0q.size)).cell hp.2) (fun b hb => hb.2))
            clear hrv hL hnc hxs hone hxl hsrc hgl hcell hB0q hbe R10 R10' b10 hb10 hbg hblk hcs hin hcy hbq HBQ
            have hdz := HDZ.out
            go_wp2_with (first
              | (at_builtin; refine Lib.wpList_append_run _ rfl _ _ _ _ rfl _ _ rfl rfl _ _ (hr10 _) ?_)
              | fail)
            clear hdz
            go_roundg (m - (e + 2))
            case measure => exact Nat.lt_of_lt_of_le HME.out hg
            case rel =>
              refine ⟨e + 2, k + 1, n, c1', G1, by go_num, rfl, Nat.le_refl _, ⟨by have := HE.out.1; omega, HKL.out, HNEW.out.2⟩, Lib.hid ?_, Lib.hid ?_⟩
              · rw [HNEW.out.1]
                refine ⟨?_, Nat.le_succ _, ?_⟩
                · exact HR10.out.1.set_ (fun _ h => h) (fun b hb => ⟨by have := HR10.out.2; omega, by have := HG1.out; omega⟩) HVA.out d HDE.out.2.2
                · exact Nat.le_trans HR10.out.2.2 (Nat.le_of_eq (set6_size w10 G1 (d * 6) (.int .i64 k2) (.bool b2) (.int .i64 n2) (.float .f64 f2) (.string s2) (.slice D2 q2.length c2)).symm)
              · exact HBR.out.trans (set6_below (B := w.heap.size + 1) (o := d * 6) (HB10.out.mono (by have := HBR.out.size; rw [World.size_alloc] at this; exact this)) HG1.out (.int .i64 k2) (.bool b2) (.int .i64 n2) (.float .f64 f2) (.string s2) (.slice D2 q2.length c2))
    · obtain ⟨c0, c1, c2, c3, c4, c5⟩ := six_of (HBX.out.below HBR.out (by simp))
      obtain ⟨z0, z1, z2, z3, z4, z5⟩ := six_frozen (HBX.out.below HBR.out (by simp))
      have hw1' : ¬ ((e : Int) + 1 < (m : Int)) := by omega
      have hem : e ≤ 12 := by have := HE.out; have := prs_len l; have := HM.out; omega
      have HS6 : Hid (Blk (set6 wr w.heap.size 0 (.int .i64 6) (.bool false) (.int .i64 0) (.float .f64 0) (.string ⟨#[]⟩) (.slice (some ⟨G, 0, none⟩) n c)) w.heap.size 26 #[.int .i64 6, .bool false, .int .i64 0, .float .f64 0, .string ⟨#[]⟩, .slice (some ⟨G, 0, none⟩) n c]) := Lib.hid (set6_blk (HBX.out.below HBR.out (by simp)) _ _ _ _ _ _)
      have HFIN : Hid ((prs l).take k = prs l ∧ (flat (mapR (prs l))).length ≤ 1000) := Lib.hid (by
        have h1 := HE.out; have h2 := prs_len l; have h3 := HM.out
        refine ⟨List.take_of_length_le (by omega), ?_⟩
        have := mapR_len (prs l)
        rw [flat_len]; omega)
      go_wp2_with fail
      obtain ⟨s0, s1, s2, s3, s4, s5⟩ := six_of HS6.out
      change bodyPost _ _ _ _ _ (set6 wr w.heap.size 0 (.int .i64 6) (.bool false) (.int .i64 0) (.float .f64 0) (.string ⟨#[]⟩) (.slice (some ⟨G, 0, none⟩) n c))
      refine bodyPost_ret (v := .agg #[.int .i64 6, .bool false, .int .i64 0, .float .f64 0, .string ⟨#[]⟩, .slice (some ⟨G, 0, none⟩) n c]) (by simp [results, Try.results8, go_sem, s0, s1, s2, s3, s4, s5]) rfl ?_
      have hrv := HRV.out
      rw [HFIN.out.1] at hrv
      exact ⟨_, rfl, rmap_end hrv HFIN.out.2 _ _ _ _ _ _, set6_below HB0.out (Nat.le_refl _) _ _ _ _ _ _⟩

end Go.Proofs.Ytaonlbmicjoclaa
