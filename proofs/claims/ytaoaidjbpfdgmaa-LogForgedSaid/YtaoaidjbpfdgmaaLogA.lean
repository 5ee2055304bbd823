/- a log's sector for sure, wipe -/
import Derived.Test.YtaoaidjbpfdgmaaLogS
namespace Go.Proofs.Ytaoaidjbpfdgmaa
open Go.ChangeShapes Go.WideShapes Go.ChangeAt Go.RowKit

/-- a sector that is written and flushed -/
def sureG (d : Dv) (i : Int) (s : Sec) : Dv × Int :=
  if (writeD d i (fillS s 128)).2 = 0 then flushX (writeD d i (fillS s 128)).1 else writeD d i (fillS s 128)

theorem sureG_len (d : Dv) (i : Int) (s : Sec) : (sureG d i s).1.sure.length = d.sure.length := by
  unfold sureG
  split
  · rw [flushX_len, writeD_len]
  · rw [writeD_len]

set_option maxRecDepth 100000 in
set_option maxHeartbeats 1000000 in
theorem sure_any {n : Nat → Prop} {a w : World} {G B S M : Nat} {d : Dv} {g : Lg} (h : LD n a w G B S M d g) (i : Int) (s : Sec) (hs : s.length ≤ 128) :
    Calls Try.prog 62 #[.pointer (some ⟨G, 0, none⟩), .int .i64 i, .string ⟨s.toArray⟩] w fun e w' => e = .returned (.int .i64 (sureG d i s).2) ∧ LD n a w' G B S M (sureG d i s).1 g := by
  obtain ⟨k0, k1, k2, k3, k4⟩ := h.log.cells
  have hf : ∀ wn, LD n a wn G B S M d g → Calls Try.prog 64 #[.string ⟨s.toArray⟩, .int .i64 128] wn fun e w' => e = .returned (.string ⟨(fillS s 128).toArray⟩) ∧ LD n a w' G B S M d g := fun wn hb =>
    (fill_any s 128 hs (Nat.le_refl _) wn).mono fun e w' p => ⟨p.1, hb.on p.2⟩
  have HF := Lib.hid hf
  clear hf
  have HW := Lib.hid (fun wn (hb : LD n a wn G B S M d g) => ld_write hb i (fillS s 128))
  have hfl := fun wn (hb : LD n a wn G B S M (writeD d i (fillS s 128)).1 g) => ld_flush hb
  have he0 : sureG d i s = if (writeD d i (fillS s 128)).2 = 0 then flushX (writeD d i (fillS s 128)).1 else writeD d i (fillS s 128) := rfl
  generalize sureG d i s = res at he0 ⊢
  generalize writeD d i (fillS s 128) = wd1 at he0 HW hfl
  obtain ⟨d1, e1⟩ := wd1
  simp only at he0 HW hfl
  have HFL := Lib.hid hfl
  have HE := Lib.hid he0; clear k1 k2 k3 k4
  have H := Lib.hid h
  clear hfl he0
  generalize fillS s 128 = fs at HF HW
  have hd1 := h.drew
  clear h
  go_enter Try.func62, Try.ntmps62
  go_upto_region 1 with fail
  go_cut [7] from 8 to 15 (fun x wx => x = .int .i64 e1 ∧ LD n a wx G B S M d1 g)
  case first =>
    go_region_with (first
      | (go_at_call 64; (with_reducible refine (HF.out _ (by assumption)).mono ?_); rintro e wf ⟨rfl, hlf⟩; obtain ⟨q0, q1, q2, q3, q4⟩ := hlf.log.cells)
      | (go_at_call 31; (with_reducible refine (HW.out _ (by assumption)).mono ?_); rintro e ww ⟨rfl, hlw⟩))
    all_goals (go_wp2_with fail; go_meet; exact ⟨rfl, hlw⟩)
  case rest =>
    obtain ⟨rfl, hlw⟩ := hcut
    by_cases he : e1 = 0
    · have b1 : (e1 != 0) = false := by simp [he]
      have e0 := HE.out
      rw [if_pos he] at e0
      subst e0
      clear he
      obtain ⟨m0, m1, m2, m3, m4⟩ := hlw.log.cells
      go_wp2_with (first
        | (go_at_call 33; (with_reducible refine (HFL.out _ (by assumption)).mono ?_); rintro e wz ⟨rfl, hlz⟩)
        | fail)
      go_ret
      exact ⟨rfl, hlz⟩
    · have b1 : (e1 != 0) = true := by simp [he]
      have e0 := HE.out
      rw [if_neg he] at e0
      subst e0
      clear he
      go_wp2_with fail
      go_ret
      exact ⟨rfl, hlw⟩

/-- the entry taken away that an Add left that failed -/
def wipeG (d : Dv) (g : Lg) : Dv × Int := if (standsG d g).isSome = true then sureG d g.at_ [] else (d, 0)

theorem wipeG_len (d : Dv) (g : Lg) : (wipeG d g).1.sure.length = d.sure.length := by
  unfold wipeG
  split
  · exact sureG_len _ _ _
  · rfl

set_option maxRecDepth 100000 in
set_option maxHeartbeats 1000000 in
theorem wipe_any {n : Nat → Prop} {a w : World} {G B S M : Nat} {d : Dv} {g : Lg} (h : LD n a w G B S M d g) :
    Calls Try.prog 45 #[.pointer (some ⟨G, 0, none⟩)] w fun e w' => e = .returned (.int .i64 (wipeG d g).2) ∧ LD n a w' G B S M (wipeG d g).1 g := by
  have HS := Lib.hid (stands_any h)
  have hsu : ∀ wn, LD n a wn G B S M d g → Calls Try.prog 62 #[.pointer (some ⟨G, 0, none⟩), .int .i64 g.at_, .string ⟨#[]⟩] wn fun e w' => e = .returned (.int .i64 (sureG d g.at_ []).2) ∧ LD n a w' G B S M (sureG d g.at_ []).1 g := fun wn hb => sure_any hb g.at_ [] (Nat.zero_le _)
  have HSu := Lib.hid hsu
  have he0 : wipeG d g = if (standsG d g).isSome = true then sureG d g.at_ [] else (d, 0) := rfl
  clear hsu h
  cases hst : standsG d g with
  | none =>
    rw [hst] at he0 HS
    rw [he0]
    clear he0 hst HSu
    go_enter Try.func45, Try.ntmps45
    go_wp2_with (first
      | (go_at_call 42; refine HS.out.mono ?_; rintro e w1 ⟨rfl, hl1⟩)
      | fail)
    go_ret
    exact ⟨rfl, hl1⟩
  | some k =>
    rw [hst] at he0 HS
    rw [he0]
    clear he0 hst
    simp only [Option.isSome_some, if_true, Option.getD_some] at HS ⊢
    go_enter Try.func45, Try.ntmps45
    go_wp2_with (first
      | (go_at_call 42; refine HS.out.mono ?_; rintro e w1 ⟨rfl, hl1⟩; obtain ⟨q0, q1, q2, q3, q4⟩ := hl1.log.cells)
      | (go_at_call 62; (with_reducible refine (HSu.out _ (by assumption)).mono ?_); rintro e w2 ⟨rfl, hl2⟩)
      | fail)
    go_ret
    exact ⟨rfl, hl2⟩

end Go.Proofs.Ytaoaidjbpfdgmaa
