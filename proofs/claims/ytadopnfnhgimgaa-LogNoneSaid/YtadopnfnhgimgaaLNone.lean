/- LogNone -/
import Derived.Test.YtadopnfnhgimgaaLSec
namespace Go.Proofs.Ytadopnfnhgimgaa
open Go.ChangeShapes Go.WideShapes Go.ChangeAt Go.RowKit

/-! a log that is not there -/

theorem nl_reset (w : World) : Calls Try.prog 17 #[.pointer none] w fun e w' => e = .returned (.tuple #[]) ∧ w = w' := by
  go_enter Try.func17, Try.ntmps17
  go_wp2_with fail
  go_end0
  exact ⟨rfl, rfl⟩

theorem nl_next (w : World) : Calls Try.prog 25 #[.pointer none] w fun e w' => e = .returned (.int .u64 0) ∧ w = w' := by
  go_enter Try.func25, Try.ntmps25
  go_wp2_with fail
  go_ret
  exact ⟨rfl, rfl⟩

theorem nl_room (w : World) : Calls Try.prog 26 #[.pointer none] w fun e w' => e = .returned (.int .i64 0) ∧ w = w' := by
  go_enter Try.func26, Try.ntmps26
  go_wp2_with fail
  go_ret
  exact ⟨rfl, rfl⟩

theorem nl_add (s : Sec) (w : World) : Calls Try.prog 20 #[.pointer none, .string ⟨s.toArray⟩] w fun e w' => e = .returned (.int .i64 7) ∧ w = w' := by
  go_enter Try.func20, Try.ntmps20
  go_wp2_with fail
  go_ret
  exact ⟨rfl, rfl⟩

/-! what is no log -/

theorem open_nil (fr hi : Int) (nx : Nat) (w : World) :
    Calls Try.prog 15 #[.pointer none, .int .i64 fr, .int .i64 hi, .int .u64 nx] w fun e w' => e = .returned (.tuple #[.pointer none, .slice none 0 0, .int .i64 1]) ∧ w = w' := by
  go_enter Try.func15, Try.ntmps15
  go_wp2_with fail
  go_ret3
  exact ⟨rfl, rfl⟩

section
variable {n : Nat → Prop} {a w : World} {G B S M : Nat} {d : Dv} {g : Lg}

theorem open_use (h : NowK n a w B S M d) (fr hi : Int) (nx : Nat) (hc : fr < 0 ∨ hi < fr ∨ (d.sure.length : Int) < hi ∨ nx = 0) :
    Calls Try.prog 15 #[.pointer (some ⟨B, 0, none⟩), .int .i64 fr, .int .i64 hi, .int .u64 nx] w fun e w' => e = .returned (.tuple #[.pointer none, .slice none 0 0, .int .i64 1]) ∧ w = w' := by
  obtain ⟨pv, hd⟩ := h.dev
  have HLN := Lib.hid (len_any hd)
  clear h hd
  generalize d.sure.length = L at HLN hc
  by_cases h1 : fr < 0
  · have c1 : decide (fr < 0) = true := by simp [h1]
    clear h1 hc
    go_enter Try.func15, Try.ntmps15
    go_wp2_with fail
    go_ret3
    exact ⟨rfl, rfl⟩
  · have c1 : decide (fr < 0) = false := by simp; omega
    by_cases h2 : hi < fr
    · have c2 : decide (hi < fr) = true := by simp [h2]
      clear h1 h2 hc
      go_enter Try.func15, Try.ntmps15
      go_wp2_with fail
      go_ret3
      exact ⟨rfl, rfl⟩
    · have c2 : decide (hi < fr) = false := by simp; omega
      by_cases h3 : (L : Int) < hi
      · have c3 : decide ((L : Int) < hi) = true := by simp [h3]
        clear h1 h2 h3 hc
        go_enter Try.func15, Try.ntmps15
        go_wp2_with (first
          | (go_at_call 40; (with_reducible refine HLN.out.mono ?_); rintro e w1 ⟨rfl, rfl⟩)
          | fail)
        go_ret3
        exact ⟨rfl, rfl⟩
      · have c3 : decide ((L : Int) < hi) = false := by simp; omega
        have h4 : nx = 0 := by omega
        subst h4
        have c4 : (((0 : Nat) : Int) == 0) = true := rfl
        clear h1 h2 h3 hc
        go_enter Try.func15, Try.ntmps15
        go_wp2_with (first
          | (go_at_call 40; (with_reducible refine HLN.out.mono ?_); rintro e w1 ⟨rfl, rfl⟩)
          | fail)
        go_ret3
        exact ⟨rfl, rfl⟩

theorem open_off (h : NowK n a w B S M d) (ho : d.off = true) (fr hi : Nat) (hft : fr ≤ hi) (hto : hi ≤ d.sure.length) (nx : Nat) (hn0 : nx ≠ 0) :
    Calls Try.prog 15 #[.pointer (some ⟨B, 0, none⟩), .int .i64 fr, .int .i64 hi, .int .u64 nx] w fun e w' => e = .returned (.tuple #[.pointer none, .slice none 0 0, .int .i64 7]) ∧ w = w' := by
  obtain ⟨pv, hd⟩ := h.dev
  have HLN := Lib.hid (len_any hd)
  have hof := off_any hd
  rw [ho] at hof
  have HOF := Lib.hid hof
  have c1 : decide ((fr : Int) < 0) = false := by simp
  have c2 : ¬ hi < fr := by omega
  have c3 : ¬ d.sure.length < hi := by omega
  have c4 : ((nx : Int) == 0) = false := by rw [beq_eq_false_iff_ne]; omega
  clear h hd hof hft hto hn0
  go_enter Try.func15, Try.ntmps15
  go_wp2_with (first
    | (go_at_call 40; (with_reducible refine HLN.out.mono ?_); rintro e w1 ⟨rfl, rfl⟩)
    | (go_at_call 38; (with_reducible refine HOF.out.mono ?_); rintro e w1 ⟨rfl, rfl⟩)
    | fail)
  go_ret3
  exact ⟨rfl, rfl⟩

end

theorem LD.nowW {n : Nat → Prop} {a w w' : World} {G B S M : Nat} {d : Dv} {g : Lg} (h : LD n a w G B S M d g) (hb : Below w.heap.size w w') : LD n a w' G B S M d g := h.on hb

set_option maxRecDepth 100000 in
set_option maxHeartbeats 2000000 in
theorem lnone_walk (s : Sec) (fr hi : Int) (w : World) : Calls Try.prog 7 #[.string ⟨s.toArray⟩, .int .i64 fr, .int .i64 hi] w fun e w' => e = .returned (.bool true) ∧ Below w.heap.size w w' := by
  have hN := nk_new (n := fun k => w.heap.size ≤ k) (a := w) w 10 (by decide) (Only.refl _ _) (fun k hk => hk)
  rw [show ((10 : Nat) : Int) = 10 from rfl] at hN
  have HFW := Lib.hid (fun W => few_any s W)
  have HRS := Lib.hid nl_reset; have HNX := Lib.hid nl_next; have HRM := Lib.hid nl_room; have HAD := Lib.hid nl_add
  have HAW := Lib.hid awake4
  have hnl := fun W => open_nil 0 0 1 W
  rw [show ((1 : Nat) : Int) = 1 from rfl] at hnl
  have HNL := Lib.hid hnl
  clear hnl
  by_cases hok : 0 ≤ fr ∧ fr ≤ hi ∧ hi ≤ 10
  · obtain ⟨h1, h2, h3⟩ := hok
    have c1 : decide (0 ≤ fr) = true := by simp [h1]
    have c2 : decide (fr ≤ hi) = true := by simp [h2]
    have c3 : decide (hi ≤ 10) = true := by simp [h3]
    obtain ⟨f, rfl⟩ := Int.eq_ofNat_of_zero_le h1
    obtain ⟨t, rfl⟩ := Int.eq_ofNat_of_zero_le (Int.le_trans h1 h2)
    have k1 : f ≤ t := by omega
    have k2 : t ≤ 10 := by omega
    have HK : Hid (f ≤ t ∧ t ≤ 10) := Lib.hid ⟨k1, k2⟩
    clear h1 h2 h3
    go_enter Try.func7, Try.ntmps7
    go_wp2_with (first
      | (go_at_call 17; (with_reducible refine (HRS.out _).mono ?_); rintro e w1 ⟨rfl, rfl⟩)
      | fail)
    refine hN.mono ?_
    rintro e w0 ⟨rfl, h⟩
    clear hN
    go_wp2_with fail
    have hc := open_any h rfl f t HK.out.1 (by rw [new_len]; exact HK.out.2) 1 (by decide) (by decide) h.below.size
    rw [open_new HK.out.2] at hc
    refine hc.mono ?_
    clear h hc; rintro e w1 ⟨v1, rfl, h⟩
    have h := h.ld.now
    generalize w0.heap.size = G0
    go_wp2_with (first
      | (go_at_call 15; (with_reducible refine (HNL.out _).mono ?_); rintro e w2 ⟨rfl, rfl⟩)
      | fail)
    have hc := open_any h rfl 0 10 (by decide) (by rw [new_len]; exact Nat.le_refl _) 1 (by decide) (by decide) h.below.size
    rw [open_new (by decide)] at hc
    refine hc.mono ?_
    clear h hc; rintro e w3 ⟨v3, rfl, h⟩
    have h := h.ld
    generalize w1.heap.size = G at h ⊢
    go_wp2_with fail
    refine (ld_crash h (keep := 0) (by decide) 0).mono ?_
    clear h; rintro e w4 ⟨rfl, h⟩
    have hcr : crashD (newD 10) 0 0 = { newD 10 with off := true } := rfl
    rw [hcr] at h
    clear hcr
    go_wp2_with fail
    have hc := open_off h.now rfl 0 10 (by decide) (by show 10 ≤ (newD 10).sure.length; rw [new_len]; exact Nat.le_refl _) 1 (by decide)
    refine hc.mono ?_
    clear hc; rintro e w5 ⟨rfl, rfl⟩
    have HAY := Lib.hid (fun wn (hb : LD (fun k => w.heap.size ≤ k) w wn G (w.heap.size + 2) w.heap.size (w.heap.size + 1) { newD 10 with off := true } ⟨0, 10, 0, 1⟩) => add_any hb (s.take 500) (by rw [List.length_take]; omega))
    rw [off_add rfl] at HAY
    have HL := Lib.hid h
    clear h
    go_wp2_with (first
      | (go_at_call 16; (with_reducible refine (HAW.out _).mono ?_); rintro e w6 ⟨rfl, hb⟩; have hl6 := HL.out.on hb; clear hb)
      | (go_at_call 18; (with_reducible refine (HFW.out _).mono ?_); rintro e w7 ⟨rfl, rfl⟩)
      | (go_at_call 20; (with_reducible refine (HAD.out _ _).mono ?_); rintro e w8 ⟨rfl, rfl⟩)
      | (go_at_call 20; (with_reducible refine (HAY.out _ hl6).mono ?_); rintro e w8 ⟨rfl, hl8⟩)
      | (go_at_call 25; (with_reducible refine (HNX.out _).mono ?_); rintro e w8 ⟨rfl, rfl⟩)
      | (go_at_call 26; (with_reducible refine (HRM.out _).mono ?_); rintro e w8 ⟨rfl, rfl⟩)
      | fail)
    go_ret
    exact ⟨rfl, hl8.now.below.below (Nat.le_refl _) (fun k hk => hk)⟩
  · have hbad : fr < 0 ∨ hi < fr ∨ ((newD 10).sure.length : Int) < hi ∨ 1 = 0 := by rw [new_len]; omega
    have HBAD := Lib.hid hbad
    have hways : decide (0 ≤ fr) = false ∨ (decide (0 ≤ fr) = true ∧ decide (fr ≤ hi) = false) ∨ (decide (0 ≤ fr) = true ∧ decide (fr ≤ hi) = true ∧ decide (hi ≤ 10) = false) := by
      simp only [decide_eq_true_eq, decide_eq_false_iff_not]
      omega
    clear hbad hok
    rcases hways with c1 | ⟨c1, c2⟩ | ⟨c1, c2, c3⟩
    all_goals
      go_enter Try.func7, Try.ntmps7
      go_wp2_with (first
        | (go_at_call 17; (with_reducible refine (HRS.out _).mono ?_); rintro e w1 ⟨rfl, rfl⟩)
        | fail)
      refine hN.mono ?_
      rintro e w0 ⟨rfl, h⟩
      clear hN
      go_wp2_with fail
      have hc := open_use h fr hi 1 HBAD.out
      refine hc.mono ?_
      clear hc; rintro e w1 ⟨rfl, rfl⟩
      go_wp2_with (first
        | (go_at_call 15; (with_reducible refine (HNL.out _).mono ?_); rintro e w2 ⟨rfl, rfl⟩)
        | fail)
      have hc := open_any h rfl 0 10 (by decide) (by rw [new_len]; exact Nat.le_refl _) 1 (by decide) (by decide) h.below.size
      rw [open_new (by decide)] at hc
      refine hc.mono ?_
      clear h hc; rintro e w3 ⟨v3, rfl, h⟩
      have h := h.ld
      generalize w0.heap.size = G at h ⊢
      go_wp2_with fail
      refine (ld_crash h (keep := 0) (by decide) 0).mono ?_
      clear h; rintro e w4 ⟨rfl, h⟩
      have hcr : crashD (newD 10) 0 0 = { newD 10 with off := true } := rfl
      rw [hcr] at h
      clear hcr
      go_wp2_with fail
      have hc := open_off h.now rfl 0 10 (by decide) (by show 10 ≤ (newD 10).sure.length; rw [new_len]; exact Nat.le_refl _) 1 (by decide)
      refine hc.mono ?_
      clear hc; rintro e w5 ⟨rfl, rfl⟩
      have HAY := Lib.hid (fun wn (hb : LD (fun k => w.heap.size ≤ k) w wn G (w.heap.size + 2) w.heap.size (w.heap.size + 1) { newD 10 with off := true } ⟨0, 10, 0, 1⟩) => add_any hb (s.take 500) (by rw [List.length_take]; omega))
      rw [off_add rfl] at HAY
      have HL := Lib.hid h
      clear h
      go_wp2_with (first
        | (go_at_call 16; (with_reducible refine (HAW.out _).mono ?_); rintro e w6 ⟨rfl, hb⟩; have hl6 := HL.out.on hb; clear hb)
        | (go_at_call 18; (with_reducible refine (HFW.out _).mono ?_); rintro e w7 ⟨rfl, rfl⟩)
        | (go_at_call 20; (with_reducible refine (HAD.out _ _).mono ?_); rintro e w8 ⟨rfl, rfl⟩)
        | (go_at_call 20; (with_reducible refine (HAY.out _ hl6).mono ?_); rintro e w8 ⟨rfl, hl8⟩)
        | (go_at_call 25; (with_reducible refine (HNX.out _).mono ?_); rintro e w8 ⟨rfl, rfl⟩)
        | (go_at_call 26; (with_reducible refine (HRM.out _).mono ?_); rintro e w8 ⟨rfl, rfl⟩)
        | fail)
      go_ret
      exact ⟨rfl, hl8.now.below.below (Nat.le_refl _) (fun k hk => hk)⟩

end Go.Proofs.Ytadopnfnhgimgaa
