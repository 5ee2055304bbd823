/- an entry is laid -/
import Derived.Test.YtaoaidjbpfdgmaaLogA
namespace Go.Proofs.Ytaoaidjbpfdgmaa
open Go.ChangeShapes Go.WideShapes Go.ChangeAt Go.RowKit

/-- the sectors behind an entry's first -/
def layL : Nat → Nat → Sec → Dv → Dv × Int
  | 0, _, _, d => (d, 0)
  | k + 1, i, r, d => if (writeD d i (fillS (r.take 128) 128)).2 = 0 then layL k (i + 1) (r.drop 128) (writeD d i (fillS (r.take 128) 128)).1 else writeD d i (fillS (r.take 128) 128)

theorem layL_len : ∀ (k i : Nat) (r : Sec) (d : Dv), (layL k i r d).1.sure.length = d.sure.length
  | 0, _, _, _ => rfl
  | k + 1, i, r, d => by
    unfold layL
    split
    · rw [layL_len k, writeD_len]
    · rw [writeD_len]

theorem layL_succ (k i : Nat) (r : Sec) (d : Dv) : layL (k + 1) i r d = if (writeD d i (fillS (r.take 128) 128)).2 = 0 then layL k (i + 1) (r.drop 128) (writeD d i (fillS (r.take 128) 128)).1 else writeD d i (fillS (r.take 128) 128) := by
  rw [layL]

theorem layL_step {K i : Nat} (h : i < K) (r : Sec) (d : Dv) : layL (K - i) i r d = if (writeD d i (fillS (r.take 128) 128)).2 = 0 then layL (K - (i + 1)) (i + 1) (r.drop 128) (writeD d i (fillS (r.take 128) 128)).1 else writeD d i (fillS (r.take 128) 128) := by
  obtain ⟨k, rfl⟩ : ∃ k, K = i + 1 + k := ⟨K - (i + 1), by omega⟩
  have e1 : i + 1 + k - i = k + 1 := by omega
  have e2 : i + 1 + k - (i + 1) = k := by omega
  rw [e1, e2, layL_succ]

/-- an entry's first sector -/
def headS (number : Nat) (s : Sec) : Sec := eightL number ++ eightL s.length ++ fillS (s.take 104) 104 ++ eightL number

/-- an entry is laid -/
def layG (d : Dv) (g : Lg) (s : Sec) : Dv × Int :=
  if (layL (min (g.at_ + sectN s.length + 1) g.to_ - (g.at_ + 1)) (g.at_ + 1) (s.drop 104) d).2 = 0 then
    (if (flushX (layL (min (g.at_ + sectN s.length + 1) g.to_ - (g.at_ + 1)) (g.at_ + 1) (s.drop 104) d).1).2 = 0 then
      sureG (flushX (layL (min (g.at_ + sectN s.length + 1) g.to_ - (g.at_ + 1)) (g.at_ + 1) (s.drop 104) d).1).1 g.at_ (headS g.next s)
    else flushX (layL (min (g.at_ + sectN s.length + 1) g.to_ - (g.at_ + 1)) (g.at_ + 1) (s.drop 104) d).1)
  else layL (min (g.at_ + sectN s.length + 1) g.to_ - (g.at_ + 1)) (g.at_ + 1) (s.drop 104) d

theorem sectN_pos (n : Nat) : 1 ≤ sectN n := by unfold sectN; split <;> omega

set_option maxRecDepth 100000 in
set_option maxHeartbeats 4000000 in
theorem lay_any {n : Nat → Prop} {a w : World} {G B S M : Nat} {d : Dv} {g : Lg} (h : LD n a w G B S M d g) (s : Sec) (hs : s.length ≤ 8388608) (hfit : g.at_ + sectN s.length ≤ g.to_) :
    Calls Try.prog 46 #[.pointer (some ⟨G, 0, none⟩), .string ⟨s.toArray⟩] w fun e w' => e = .returned (.int .i64 (layG d g s).2) ∧ LD n a w' G B S M (layG d g s).1 g := by
  obtain ⟨pv, hdv⟩ := h.now.dev
  have hm := hdv.most
  have hlt := h.lt
  have hnx := h.next
  clear hdv
  have hp := sectN_pos s.length
  have hc1 : Calls Try.prog 63 #[.string ⟨s.toArray⟩, .int .i64 104] w fun e w' => e = .returned (.tuple #[.string ⟨(s.take 104).toArray⟩, .string ⟨(s.drop 104).toArray⟩]) ∧ LD n a w' G B S M d g :=
    (cut_any s 104 w).mono fun e w' p => ⟨p.1, h.on p.2⟩
  have HC1 := Lib.hid hc1
  have hsn := fun W => sect_any s.length (by omega) W
  have HSN := Lib.hid hsn
  have hl := fun W => len_str s 3 W
  have hsum : wrap64 ((g.at_ : Int) + (sectN s.length : Int)) = ((g.at_ + sectN s.length : Nat) : Int) := by rw [wrap64_id (is64_iff.2 (by omega))]; omega
  have hone : wrap64 ((g.at_ : Int) + 1) = ((g.at_ + 1 : Nat) : Int) := by rw [wrap64_id (is64_iff.2 (by omega))]; omega
  have HE := Lib.hid (show layG d g s = if (layL (min (g.at_ + sectN s.length + 1) g.to_ - (g.at_ + 1)) (g.at_ + 1) (s.drop 104) d).2 = 0 then
    (if (flushX (layL (min (g.at_ + sectN s.length + 1) g.to_ - (g.at_ + 1)) (g.at_ + 1) (s.drop 104) d).1).2 = 0 then
      sureG (flushX (layL (min (g.at_ + sectN s.length + 1) g.to_ - (g.at_ + 1)) (g.at_ + 1) (s.drop 104) d).1).1 g.at_ (headS g.next s)
    else flushX (layL (min (g.at_ + sectN s.length + 1) g.to_ - (g.at_ + 1)) (g.at_ + 1) (s.drop 104) d).1)
  else layL (min (g.at_ + sectN s.length + 1) g.to_ - (g.at_ + 1)) (g.at_ + 1) (s.drop 104) d from rfl)
  generalize layG d g s = res at HE ⊢
  clear h hc1 hsn
  generalize hA : g.at_ + sectN s.length = en at hsum hfit HE
  generalize sectN s.length = sn at hsum HSN hA hp
  generalize hr0 : s.drop 104 = r0 at HC1 HE
  go_enter Try.func46, Try.ntmps46
  go_wp2_with (first
    | (go_at_call 63; refine HC1.out.mono ?_; rintro e w1 ⟨rfl, hl1⟩; obtain ⟨k0, k1, k2, k3, k4⟩ := hl1.log.cells)
    | fail)
  go_quiet ((go_at_call 21; with_reducible exact quiet_left (HSN.out _)))
  have hl2 := hl1.drewN nq
  obtain ⟨q0, q1, q2, q3, q4⟩ := hl2.log.cells
  clear k0 k1 k2 k3 k4
  have HL2 := Lib.hid hl2
  generalize w1.drewN nq = w2 at q0 q1 q2 q3 q4 HL2 ⊢
  go_wp2_with fail
  generalize hK : min (en + 1) g.to_ = K at HE
  have hen : (g.at_ : Int) + (sn : Int) = (en : Int) := by omega
  simp only [hen]
  clear hen
  go_loopw [6, 8] (fun sr si wr => ∃ (i : Nat) (r : Sec) (d' : Dv), g.at_ + 1 ≤ i ∧ i ≤ K ∧ sr = .string ⟨r.toArray⟩ ∧ si = .int .i64 i ∧ Hid (layL (K - (g.at_ + 1)) (g.at_ + 1) r0 d = layL (K - i) i r d') ∧ Hid (LD n a wr G B S M d' g)) (fun _ si _ => K - (intOf si).toNat)
  case atStart => exact ⟨g.at_ + 1, r0, d, Nat.le_refl _, by omega, rfl, by congr 1, Lib.hid rfl, HL2⟩
  case round =>
    obtain ⟨i, r, d', hi1, hiK, rfl, rfl, HQ, HLD⟩ := hrel
    obtain ⟨m0, m1, m2, m3, m4⟩ := HLD.out.log.cells
    by_cases hiK' : i < K
    · have c1 : i ≤ en := by omega
      have c2 : i < g.to_ := by omega
      have hinc : wrap64 ((i : Int) + 1) = ((i + 1 : Nat) : Int) := by rw [wrap64_id (is64_iff.2 (by omega))]; omega
      have hst := layL_step hiK' r d'
      have hcu : ∀ wn, LD n a wn G B S M d' g → Calls Try.prog 63 #[.string ⟨r.toArray⟩, .int .i64 128] wn fun e w' => e = .returned (.tuple #[.string ⟨(r.take 128).toArray⟩, .string ⟨(r.drop 128).toArray⟩]) ∧ LD n a w' G B S M d' g := fun wn hb =>
        (cut_any r 128 wn).mono fun e w' p => ⟨p.1, hb.on p.2⟩
      have hf : ∀ wn, LD n a wn G B S M d' g → Calls Try.prog 64 #[.string ⟨(r.take 128).toArray⟩, .int .i64 128] wn fun e w' => e = .returned (.string ⟨(fillS (r.take 128) 128).toArray⟩) ∧ LD n a w' G B S M d' g := fun wn hb =>
        (fill_any (r.take 128) 128 (by rw [List.length_take]; omega) (Nat.le_refl _) wn).mono fun e w' p => ⟨p.1, hb.on p.2⟩
      have hwr := fun wn (hb : LD n a wn G B S M d' g) => ld_write hb i (fillS (r.take 128) 128)
      rw [hst] at HQ
      clear hst
      generalize writeD d' i (fillS (r.take 128) 128) = wd1 at HQ hwr
      obtain ⟨d1, e1⟩ := wd1
      simp only at HQ hwr
      generalize fillS (r.take 128) 128 = fs at hf hwr
      generalize r.take 128 = rt at hcu hf
      generalize r.drop 128 = rd at hcu HQ
      have HCU := Lib.hid hcu; have HF := Lib.hid hf; have HWR := Lib.hid hwr
      clear hcu hf hwr
      have hld := HLD.out
      have hi2 : g.at_ + 1 ≤ i + 1 := Nat.le_succ_of_le hi1
      have hi3 : i + 1 ≤ K := hiK'
      have HI2 := Lib.hid hi2; have HI3 := Lib.hid hi3
      clear hi2 hi3 hA hK hfit hm hlt hnx hsum hone hp hs hi1 hiK hiK' hl HSN HC1 HL2 q0 q1 q2 q3 q4

      go_wp2_with (first
        | (go_at_call 63; (with_reducible refine (HCU.out _ hld).mono ?_); rintro e w3 ⟨rfl, hl3⟩; obtain ⟨o0, o1, o2, o3, o4⟩ := hl3.log.cells)
        | fail)
      clear hld
      have hl3d := hl3.drew
      go_cut [11] from 50 to 57 (fun x wx => x = .int .i64 e1 ∧ Hid (LD n a wx G B S M d1 g))
      case first =>
        go_region_with (first
          | (go_at_call 64; (with_reducible refine (HF.out _ (by assumption)).mono ?_); rintro e wf ⟨rfl, hlf⟩; obtain ⟨q0', q1', q2', q3', q4'⟩ := hlf.log.cells)
          | (go_at_call 31; (with_reducible refine (HWR.out _ (by assumption)).mono ?_); rintro e ww ⟨rfl, hlw⟩))
        all_goals (go_wp2_with fail; go_meet; exact ⟨rfl, hlw⟩)
      case rest =>
        obtain ⟨rfl, HLW⟩ := hcut
        by_cases he : e1 = 0
        · have b1 : (e1 != 0) = false := by simp [he]
          rw [if_pos he] at HQ
          clear he
          go_wp2_with fail
          go_roundw
          case rel => exact ⟨i + 1, rd, d1, HI2.out, HI3.out, rfl, by congr 1, HQ, HLW⟩
          case measure =>
            have := HI3.out
            show K - (intOf (.int .i64 (wrap64 ((i : Int) + 1)))).toNat < K - (intOf (.int .i64 (i : Int))).toNat
            rw [hinc]
            clear hinc
            simp only [intOf, Int.toNat_natCast]
            omega
        · have b1 : (e1 != 0) = true := by simp [he]
          have e0 := HE.out
          rw [if_neg he] at HQ
          rw [HQ.out] at e0
          simp only [he, if_false] at e0
          subst e0
          go_wp2_with fail
          go_ret
          exact ⟨rfl, HLW.out⟩
    · obtain rfl : i = K := by omega
      have hq0 : layL (i - i) i r d' = (d', 0) := by rw [Nat.sub_self]; rfl
      rw [hq0] at HQ
      have e0 := HE.out
      rw [HQ.out] at e0
      simp only [if_true] at e0
      have HLD2 := HLD
      have hfl := ld_flush HLD.out
      have hoff : (i : Int) ≤ (en : Int) → ¬ i < g.to_ := by omega
      have hii : ¬ i ≤ en ∨ (i ≤ en ∧ ¬ i < g.to_) := by omega
      clear hq0 HQ hK hA hone hsum hfit HSN HC1 HL2 q0 q1 q2 q3 q4 HLD hoff
      generalize flushX d' = fx at e0 hfl
      obtain ⟨d2, e2⟩ := fx
      simp only at e0 hfl
      have hhl : (headS g.next s).length ≤ 128 := by
        unfold headS fillS
        simp only [List.length_append, eightL_len, List.length_replicate, List.length_take]
        omega
      have a1 : ∀ W, (Op.stringOp .add ⟨(eightL g.next).toArray⟩ ⟨(eightL s.length).toArray⟩).run Try.prog W = .ok (.string ⟨(eightL g.next ++ eightL s.length).toArray⟩) W := fun W => by
        rw [run_string_add W _ _ (by rw [str_size, eightL_len]; omega) (by rw [str_size, eightL_len]; omega), str_cat]
      have hfll : (fillS (s.take 104) 104).length = 104 := by
        unfold fillS
        simp only [List.length_append, List.length_replicate, List.length_take]
        omega
      have a2 : ∀ W, (Op.stringOp .add ⟨(eightL g.next ++ eightL s.length).toArray⟩ ⟨(fillS (s.take 104) 104).toArray⟩).run Try.prog W = .ok (.string ⟨(eightL g.next ++ eightL s.length ++ fillS (s.take 104) 104).toArray⟩) W := fun W => by
        rw [run_string_add W _ _ (by rw [str_size]; simp only [List.length_append, eightL_len]; omega) (by rw [str_size, hfll]; omega), str_cat]
      have a3 : ∀ W, (Op.stringOp .add ⟨(eightL g.next ++ eightL s.length ++ fillS (s.take 104) 104).toArray⟩ ⟨(eightL g.next).toArray⟩).run Try.prog W = .ok (.string ⟨(headS g.next s).toArray⟩) W := fun W => by
        rw [run_string_add W _ _ (by rw [str_size]; simp only [List.length_append, eightL_len, hfll]; omega) (by rw [str_size, eightL_len]; omega), str_cat]; rfl
      have h8 : ∀ wn, LD n a wn G B S M d2 g → Calls Try.prog 65 #[.int .u64 g.next] wn fun e w' => e = .returned (.string ⟨(eightL g.next).toArray⟩) ∧ LD n a w' G B S M d2 g := fun wn hb =>
        (eight_any g.next wn).mono fun e w' p => ⟨by rw [p.1, eightL_str], hb.on p.2⟩
      have h8s : ∀ wn, LD n a wn G B S M d2 g → Calls Try.prog 65 #[.int .u64 s.length] wn fun e w' => e = .returned (.string ⟨(eightL s.length).toArray⟩) ∧ LD n a w' G B S M d2 g := fun wn hb =>
        (eight_any s.length wn).mono fun e w' p => ⟨by rw [p.1, eightL_str], hb.on p.2⟩
      have hfi : ∀ wn, LD n a wn G B S M d2 g → Calls Try.prog 64 #[.string ⟨(s.take 104).toArray⟩, .int .i64 104] wn fun e w' => e = .returned (.string ⟨(fillS (s.take 104) 104).toArray⟩) ∧ LD n a w' G B S M d2 g := fun wn hb =>
        (fill_any (s.take 104) 104 (by rw [List.length_take]; omega) (by omega) wn).mono fun e w' p => ⟨p.1, hb.on p.2⟩
      have hsu : ∀ wn, LD n a wn G B S M d2 g → Calls Try.prog 62 #[.pointer (some ⟨G, 0, none⟩), .int .i64 g.at_, .string ⟨(headS g.next s).toArray⟩] wn fun e w' => e = .returned (.int .i64 (sureG d2 g.at_ (headS g.next s)).2) ∧ LD n a w' G B S M (sureG d2 g.at_ (headS g.next s)).1 g := fun wn hb =>
        sure_any hb g.at_ _ hhl
      have hcv : IntKind.u64.wrap (s.length : Int) = (s.length : Int) := IntWalk.u64_in _ (by omega)
      clear hhl hfll
      generalize sureG d2 g.at_ (headS g.next s) = sg at e0 hsu
      generalize headS g.next s = hd at a3 hsu
      generalize eightL g.next ++ eightL s.length ++ fillS (s.take 104) 104 = z2 at a2 a3
      generalize eightL g.next ++ eightL s.length = z1 at a1 a2
      generalize eightL g.next = x8 at a1 a3 h8
      generalize eightL s.length = y8 at a1 h8s
      generalize fillS (s.take 104) 104 = fs at a2 hfi
      generalize s.take 104 = st at hfi ⊢
      have H8 := Lib.hid h8; have H8s := Lib.hid h8s; have HFI := Lib.hid hfi; have HSU := Lib.hid hsu; have HFL := Lib.hid hfl; have HE2 := Lib.hid e0
      clear h8 h8s hfi hsu hfl e0 HE hs hm hlt hnx hp hiK'
      by_cases he : e2 = 0
      · have b1 : (e2 != 0) = false := by simp [he]
        have e0 := HE2.out
        rw [if_pos he] at e0
        subst e0
        clear he
        rcases hii with c1 | ⟨c1, c2⟩
        all_goals
          clear hi1 hiK
          go_wp2_with (first
            | (go_at_call 33; (with_reducible refine HFL.out.mono ?_); rintro e w4 ⟨rfl, hl4⟩; obtain ⟨o0, o1, o2, o3, o4⟩ := hl4.log.cells)
            | (go_at_call 65; (with_reducible refine (H8.out _ (by assumption)).mono ?_); rintro e w5 ⟨rfl, hl5⟩; obtain ⟨p0, p1, p2, p3, p4⟩ := hl5.log.cells)
            | fail)
          have hl5d := hl5.drew
          clear o0 o1 o2 o3 o4 hl4
          go_region_with (first
            | (go_at_call 64; (with_reducible refine (HFI.out _ (by assumption)).mono ?_); rintro e wf ⟨rfl, hlf⟩; obtain ⟨q0', q1', q2', q3', q4'⟩ := hlf.log.cells)
            | (go_at_call 65; (with_reducible refine (H8s.out _ (by assumption)).mono ?_); rintro e wg ⟨rfl, hlg⟩; obtain ⟨r0', r1', r2', r3', r4'⟩ := hlg.log.cells)
            | (go_at_call 62; (with_reducible refine (HSU.out _ (by assumption)).mono ?_); rintro e ww ⟨rfl, hlw⟩))
          all_goals (go_wp2_with fail; go_ret; exact ⟨rfl, hlw⟩)
      · have b1 : (e2 != 0) = true := by simp [he]
        have e0 := HE2.out
        rw [if_neg he] at e0
        subst e0
        clear he
        rcases hii with c1 | ⟨c1, c2⟩
        all_goals
          clear hi1 hiK
          go_wp2_with (first
            | (go_at_call 33; (with_reducible refine HFL.out.mono ?_); rintro e w4 ⟨rfl, hl4⟩)
            | fail)
          go_ret
          exact ⟨rfl, hl4⟩

end Go.Proofs.Ytaoaidjbpfdgmaa
