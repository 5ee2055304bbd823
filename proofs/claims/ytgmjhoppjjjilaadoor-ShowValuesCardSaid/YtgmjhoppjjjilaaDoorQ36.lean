/- SpZ, SqA, Ord -/
import Derived.Test.YtgmjhoppjjjilaaDoorQ35
import Derived.Test.YtgmjhoppjjjilaaDoorQ17
import Derived.Test.YtgmjhoppjjjilaaDoorQ07
import Derived.Test.YtgmjhoppjjjilaaDoorQ18

/- show: the document's Value -/
namespace Go.Proofs.YtgmjhoppjjjilaaDoor
open Go.ChangeShapes Go.WideShapes Go.ChangeAt Go.RowKit Go.Fl
open Go.Shelf

set_option maxHeartbeats 8000000 in
set_option maxRecDepth 100000 in
/-- every value, if floats are told -/
theorem rvalue_but (hfl : ∀ bb n f s l, RVT (.mk 3 bb n f s l)) {x : T} (hsm : smT' x) : RVT x := by
  induction x using T.ind with | h k bb n f s l ih => _
  intro w v hr hlen
  have hV : ∀ i (hi : i < l.length), RVT l[i] := fun i hi => ih i hi (by
    rw [smT'] at hsm
    exact smTs_get hsm.2 _ (List.getElem_mem hi))
  by_cases h3 : k = 3
  · subst h3; exact hfl bb n f s l w v hr hlen
  obtain ⟨A, cap, rfl, hk64, hn64, hf64, hsz, hcap, ⟨hcm, hlm⟩, hA0, hl⟩ := hr.open
  obtain ⟨hn1, hn2⟩ := is64_iff.1 hn64
  have hil := itoa_len n hn1 (by omega)
  have hss : s.size ≤ 100000 := by have := hsm; rw [smT'] at this; exact this.1
  have HV := Lib.hid hV; have HL := Lib.hid hlen
  have hb0 := (Below.refl w.heap.size w).alloc (Nat.le_refl _) (.cells #[.int .i64 k, .bool bb, .int .i64 n, .float .f64 f, .string s, .slice A l.length cap] 25)
  have HR := Lib.hid ((RdSL.keepS (fun p hp => hb0.cell hp) (fun _ hq => Nat.lt_of_lt_of_le hq hb0.size) hl) : RdSL _ (fun q => q < (w.alloc (.cells #[.int .i64 k, .bool bb, .int .i64 n, .float .f64 f, .string s, .slice A l.length cap] 25)).heap.size) l A)
  have HB0 := Lib.hid hb0
  clear hb0
  have e3 : (k == 3) = false := by simpa using h3
  clear hr hk64 hf64 hn64 hcap hcm hA0 hsm hlen hV hl ih h3
  by_cases hk : k = 0
  · -- 0
    subst hk
    have HT : Hid (shT (.mk 0 bb n f s l) = txNull) := Lib.hid (by rw [shT]; rfl)
    go_enter Tryd.func9, Tryd.ntmps9
    go_wp2_with fail
    go_ret
    exact ⟨by rw [HT.out]; rfl, HB0.out⟩
  have n0 : (k == 0) = false := by simpa using hk
  have m0 := hk
  clear hk
  by_cases hk : k = 1
  · -- 1
    subst hk
    have HT : Hid (shT (.mk 1 bb n f s l) = if bb then txTrue else txFalse) := Lib.hid (by rw [shT]; rfl)
    cases bb
    · go_enter Tryd.func9, Tryd.ntmps9
      go_wp2_with fail
      go_ret
      exact ⟨by rw [HT.out]; rfl, HB0.out⟩
    · go_enter Tryd.func9, Tryd.ntmps9
      go_wp2_with fail
      go_ret
      exact ⟨by rw [HT.out]; rfl, HB0.out⟩
  have n1 : (k == 1) = false := by simpa using hk
  have m1 := hk
  clear hk
  by_cases hk : k = 2
  · -- 2
    subst hk
    have HT : Hid (shT (.mk 2 bb n f s l) = Lib.itoa n) := Lib.hid (by rw [shT]; rfl)
    have HC := Lib.hid (fun W => rnum_any n W hn1 (by omega))
    go_enter Tryd.func9, Tryd.ntmps9
    go_wp2_with fail
    refine (HC.out _).mono ?_
    rintro e w2 ⟨rfl, hb2⟩
    have HB2 := Lib.hid (HB0.out.trans (hb2.mono HB0.out.size))
    clear hb2
    go_wp2_with fail
    go_ret
    exact ⟨by rw [HT.out]; rfl, HB2.out⟩
  have n2 : (k == 2) = false := by simpa using hk
  have m2 := hk
  clear hk
  by_cases hk : k = 4
  · -- 4
    subst hk
    have HT : Hid (shT (.mk 4 bb n f s l) = textL s.data.toList) := Lib.hid (by rw [shT]; rfl)
    have HC := Lib.hid (fun W => rtext_any s W hss)
    go_enter Tryd.func9, Tryd.ntmps9
    go_wp2_with fail
    refine (HC.out _).mono ?_
    rintro e w2 ⟨rfl, hb2⟩
    have HB2 := Lib.hid (HB0.out.trans (hb2.mono HB0.out.size))
    clear hb2
    go_wp2_with fail
    go_ret
    exact ⟨by rw [HT.out]; rfl, HB2.out⟩
  have n4 : (k == 4) = false := by simpa using hk
  have m4 := hk
  clear hk
  by_cases hk : k = 5
  · -- 5
    subst hk
    have HT : Hid (shT (.mk 5 bb n f s l) = 91 :: (joinF [44, 32] shT l ++ [93])) := Lib.hid (by rw [shT, shTs_join]; rfl)
    have hjl : (joinF [44, 32] shT l).length + 2 ≤ 99999999000 := by have := HL.out; rw [HT.out] at this; simpa using this
    have HC := Lib.hid (rvals_val (cap := cap) HV.out HR.out (by omega) (by omega))
    obtain ⟨J, hJ⟩ : ∃ J, joinF [44, 32] shT l = J := ⟨_, rfl⟩
    rw [hJ] at HT HC hjl
    have r1 : ∀ W, (Op.stringOp .add ⟨#[91]⟩ (ofL J)).run Tryd.prog W = .ok (.string (ofL (91 :: J))) W := fun W => ofL_addB [91] J (by rw [List.length_singleton]; omega) W
    have r2 : ∀ W, (Op.stringOp .add (ofL (91 :: J)) ⟨#[93]⟩).run Tryd.prog W = .ok (.string (ofL (91 :: J ++ [93]))) W := fun W => ofL_addB (91 :: J) [93] (by rw [List.length_singleton, List.length_cons]; omega) W
    clear hJ hjl
    go_enter Tryd.func9, Tryd.ntmps9
    go_wp2_with fail
    refine HC.out.mono ?_
    rintro e w2 ⟨rfl, hb2⟩
    have HB2 := Lib.hid (HB0.out.trans (hb2.mono HB0.out.size))
    clear hb2
    go_wp2_with fail
    go_ret
    exact ⟨by rw [HT.out]; rfl, HB2.out⟩
  have n5 : (k == 5) = false := by simpa using hk
  have m5 := hk
  clear hk
  by_cases hk : k = 6
  · -- 6
    subst hk
    have HT : Hid (shT (.mk 6 bb n f s l) = 123 :: (joinF [44, 32] shT l ++ [125])) := Lib.hid (by rw [shT, shTs_join]; rfl)
    have hjl : (joinF [44, 32] shT l).length + 2 ≤ 99999999000 := by have := HL.out; rw [HT.out] at this; simpa using this
    have HC := Lib.hid (rvals_val (cap := cap) HV.out HR.out (by omega) (by omega))
    obtain ⟨J, hJ⟩ : ∃ J, joinF [44, 32] shT l = J := ⟨_, rfl⟩
    rw [hJ] at HT HC hjl
    have r1 : ∀ W, (Op.stringOp .add ⟨#[123]⟩ (ofL J)).run Tryd.prog W = .ok (.string (ofL (123 :: J))) W := fun W => ofL_addB [123] J (by rw [List.length_singleton]; omega) W
    have r2 : ∀ W, (Op.stringOp .add (ofL (123 :: J)) ⟨#[125]⟩).run Tryd.prog W = .ok (.string (ofL (123 :: J ++ [125]))) W := fun W => ofL_addB (123 :: J) [125] (by rw [List.length_singleton, List.length_cons]; omega) W
    clear hJ hjl
    go_enter Tryd.func9, Tryd.ntmps9
    go_wp2_with fail
    refine HC.out.mono ?_
    rintro e w2 ⟨rfl, hb2⟩
    have HB2 := Lib.hid (HB0.out.trans (hb2.mono HB0.out.size))
    clear hb2
    go_wp2_with fail
    go_ret
    exact ⟨by rw [HT.out]; rfl, HB2.out⟩
  have n6 : (k == 6) = false := by simpa using hk
  have m6 := hk
  clear hk
  by_cases hk : k = 7
  · -- 7
    subst hk
    have HT : Hid (shT (.mk 7 bb n f s l) = [118, 40] ++ Lib.itoa n ++ [41]) := Lib.hid (by rw [shT]; rfl)
    have HC := Lib.hid (fun W => rnum_any n W hn1 (by omega))
    obtain ⟨J, hJ⟩ : ∃ J, Lib.itoa n = J := ⟨_, rfl⟩
    rw [hJ] at HT HC hil
    have r1 : ∀ W, (Op.stringOp .add ⟨#[118, 40]⟩ (ofL J)).run Tryd.prog W = .ok (.string (ofL (118 :: 40 :: J))) W := fun W => ofL_addB [118, 40] J (by simp; omega) W
    have r2 : ∀ W, (Op.stringOp .add (ofL (118 :: 40 :: J)) ⟨#[41]⟩).run Tryd.prog W = .ok (.string (ofL (118 :: 40 :: J ++ [41]))) W := fun W => ofL_addB (118 :: 40 :: J) [41] (by simp; omega) W
    clear hJ
    go_enter Tryd.func9, Tryd.ntmps9
    go_wp2_with fail
    refine (HC.out _).mono ?_
    rintro e w2 ⟨rfl, hb2⟩
    have HB2 := Lib.hid (HB0.out.trans (hb2.mono HB0.out.size))
    clear hb2
    go_wp2_with fail
    go_ret
    exact ⟨by rw [HT.out]; rfl, HB2.out⟩
  have n7 : (k == 7) = false := by simpa using hk
  have m7 := hk
  clear hk
  by_cases hk : k = 8
  · -- 8
    subst hk
    have HT : Hid (shT (.mk 8 bb n f s l) = [101, 40] ++ Lib.itoa n ++ [41]) := Lib.hid (by rw [shT]; rfl)
    have HC := Lib.hid (fun W => rnum_any n W hn1 (by omega))
    obtain ⟨J, hJ⟩ : ∃ J, Lib.itoa n = J := ⟨_, rfl⟩
    rw [hJ] at HT HC hil
    have r1 : ∀ W, (Op.stringOp .add ⟨#[101, 40]⟩ (ofL J)).run Tryd.prog W = .ok (.string (ofL (101 :: 40 :: J))) W := fun W => ofL_addB [101, 40] J (by simp; omega) W
    have r2 : ∀ W, (Op.stringOp .add (ofL (101 :: 40 :: J)) ⟨#[41]⟩).run Tryd.prog W = .ok (.string (ofL (101 :: 40 :: J ++ [41]))) W := fun W => ofL_addB (101 :: 40 :: J) [41] (by simp; omega) W
    clear hJ
    go_enter Tryd.func9, Tryd.ntmps9
    go_wp2_with fail
    refine (HC.out _).mono ?_
    rintro e w2 ⟨rfl, hb2⟩
    have HB2 := Lib.hid (HB0.out.trans (hb2.mono HB0.out.size))
    clear hb2
    go_wp2_with fail
    go_ret
    exact ⟨by rw [HT.out]; rfl, HB2.out⟩
  have n8 : (k == 8) = false := by simpa using hk
  have m8 := hk
  clear hk
  have m3 : ¬ k = 3 := by simpa using e3
  have HT : Hid (shT (.mk k bb n f s l) = txQ) := Lib.hid (by rw [shT]; simp [m0, m1, m2, m3, m4, m5, m6, m7, m8])
  clear m0 m1 m2 m3 m4 m5 m6 m7 m8
  go_enter Tryd.func9, Tryd.ntmps9
  go_wp2_with fail
  go_ret
  exact ⟨by rw [HT.out]; rfl, HB0.out⟩

end Go.Proofs.YtgmjhoppjjjilaaDoor

/- show: the document's Value of a float -/
namespace Go.Proofs.YtgmjhoppjjjilaaDoor
open Go.ChangeShapes Go.WideShapes Go.ChangeAt Go.RowKit Go.Fl
open Go.Shelf

theorem hex16_two (n k : Nat) : hex16 n (2 * (k + 1)) = hex16 (n / 256) (2 * k) ++ [hexC (n % 256 / 16), hexC (n % 256 % 16)] := by
  show hex16 n (2 * k + 1 + 1) = _
  rw [hex16, hex16, List.append_assoc]
  rw [show n / 16 / 16 = n / 256 by omega, show n / 16 % 16 = n % 256 / 16 by omega, show n % 16 = n % 256 % 16 by omega]
  rfl

/-- the byte at place i of eight, as hex has it -/
def byA (n i : Nat) : UInt8 := UInt8.ofNat (n / 256 ^ (7 - i) % 256)

theorem hex16_at (n i : Nat) (hi : i < 8) : hex16 (n / 256 ^ (8 - (i + 1))) (2 * (i + 1)) = hex16 (n / 256 ^ (8 - i)) (2 * i) ++ [hexC ((byA n i).toNat / 16), hexC ((byA n i).toNat % 16)] := by
  have hb : (byA n i).toNat = n / 256 ^ (7 - i) % 256 := by
    unfold byA
    rw [UInt8.toNat_ofNat', Nat.mod_eq_of_lt (by omega)]
  rw [hex16_two, hb, show 8 - (i + 1) = 7 - i by omega, Nat.div_div_eq_div_mul]
  rw [show 256 ^ (7 - i) * 256 = 256 ^ (8 - i) by rw [← Nat.pow_succ]; congr 1; omega]

theorem eightS_at (n i : Nat) (hi : i < (eightS n).size) : (eightS n)[i] = byA n i := by
  have h8 : i < 8 := hi
  have : i = 0 ∨ i = 1 ∨ i = 2 ∨ i = 3 ∨ i = 4 ∨ i = 5 ∨ i = 6 ∨ i = 7 := by omega
  rcases this with rfl | rfl | rfl | rfl | rfl | rfl | rfl | rfl <;> (show UInt8.ofNat _ = UInt8.ofNat _; first | rfl | (congr 1; done) | (congr 1; simp; done) | (congr 1; simp; omega))

set_option maxHeartbeats 8000000 in
set_option maxRecDepth 100000 in
theorem rvalue_flt (bb : Bool) (n : Int) (f : Nat) (s : ByteArray) (l : List T) : RVT (.mk 3 bb n f s l) := by
  intro w v hr hlen
  obtain ⟨A, cap, rfl, hk64, hn64, hf64, hsz, hcap, ⟨hcm, hlm⟩, hA0, hl⟩ := hr.open
  have HB0 := Lib.hid ((Below.refl w.heap.size w).alloc (Nat.le_refl _) (.cells #[.int .i64 3, .bool bb, .int .i64 n, .float .f64 f, .string s, .slice A l.length cap] 25))
  have HT : Hid (shT (.mk 3 bb n f s l) = fltL (canonN f)) := Lib.hid (by rw [shT]; rfl)
  have hcl := canonN_lt f hf64
  have HC := Lib.hid (fun W => rcanon_any f W)
  obtain ⟨u, hu⟩ : ∃ u, canonN f = u := ⟨_, rfl⟩
  rw [hu] at HC HT hcl
  have HE := Lib.hid (fun W => reight_any u W hcl)
  obtain ⟨E, hE⟩ : ∃ E, eightS u = E := ⟨_, rfl⟩
  have hE8 : E.size = 8 := by rw [← hE]; rfl
  have HX : Hid (∀ i (hi : i < E.size), E[i] = byA u i) := Lib.hid (by subst hE; exact fun i hi => eightS_at u i hi)
  rw [hE] at HE
  clear hE
  clear hr hk64 hn64 hsz hcap hcm hlm hA0 hl hlen hu hcl hf64
  go_enter Tryd.func9, Tryd.ntmps9
  go_wp2_with fail
  refine (HC.out _).mono ?_
  rintro e w1 ⟨rfl, rfl⟩
  go_wp2_with fail
  refine (HE.out _).mono ?_
  rintro e w2 ⟨rfl, hb2⟩
  have HB2 := Lib.hid (HB0.out.trans (hb2.mono HB0.out.size))
  clear hb2
  go_wp2_with fail
  go_loopw [4, 5] (fun so si wr => ∃ (i : Nat) (X : List UInt8), so = .string (ofL X) ∧ si = .int .i64 i ∧ i ≤ 8 ∧ X.length = 2 * i ∧ Hid (X = hex16 (u / 256 ^ (8 - i)) (2 * i)) ∧ Hid (Below w.heap.size w wr)) (fun _ si _ => 8 - (intOf si).toNat)
  case atStart => exact ⟨0, [], rfl, rfl, Nat.zero_le _, rfl, Lib.hid rfl, HB2⟩
  case round =>
    obtain ⟨i, X, rfl, rfl, hi, hX, HX2, HB⟩ := hrel
    rename World => wr
    by_cases hlt : i < 8
    · have hlz : decide ((i : Int) < 8) = true := by rw [decide_eq_true_eq]; omega
      have hlE : i < E.size := by omega
      have HH := Lib.hid (fun W => rhex_any E[i] W)
      have HJ := Lib.hid (hex16_at u i hlt)
      obtain ⟨T2, hT2⟩ : ∃ T2, [hexC (E[i].toNat / 16), hexC (E[i].toNat % 16)] = T2 := ⟨_, rfl⟩
      have hTl : T2.length = 2 := by rw [← hT2]; rfl
      have HJ2 : Hid (X ++ T2 = hex16 (u / 256 ^ (8 - (i + 1))) (2 * (i + 1))) := Lib.hid (by rw [HJ.out, HX2.out, ← hT2, HX.out i hlE])
      rw [hT2] at HH
      have r1 : ∀ W, (Op.stringOp .add (ofL X) (ofL T2)).run Tryd.prog W = .ok (.string (ofL (X ++ T2))) W := fun W => ofL_addB X T2 (by omega) W
      have HTL : Hid ((X ++ T2).length = 2 * (i + 1)) := Lib.hid (by rw [List.length_append]; omega)
      clear hT2 hTl HJ HX2 hX
      go_wp2_with fail
      refine (HH.out _).mono ?_
      rintro e w3 ⟨rfl, hb3⟩
      have HB3 := Lib.hid (HB.out.trans (hb3.mono HB.out.size))
      clear hb3
      go_wp2_with fail
      go_roundw
      case rel => exact ⟨i + 1, X ++ T2, rfl, by go_num, by omega, HTL.out, HJ2, HB3⟩
      case measure => simp [intOf]; omega
    · have hlz : decide ((i : Int) < 8) = false := by rw [decide_eq_false_iff_not]; omega
      obtain rfl : i = 8 := by omega
      have HT3 : Hid (fltL u = 102 :: 39 :: X ++ [39]) := Lib.hid (by
        unfold fltL
        rw [HX2.out]
        simp)
      have r1 : ∀ W, (Op.stringOp .add ⟨#[102, 39]⟩ (ofL X)).run Tryd.prog W = .ok (.string (ofL (102 :: 39 :: X))) W := fun W => ofL_addB [102, 39] X (by simp; omega) W
      have r2 : ∀ W, (Op.stringOp .add (ofL (102 :: 39 :: X)) ⟨#[39]⟩).run Tryd.prog W = .ok (.string (ofL (102 :: 39 :: X ++ [39]))) W := fun W => ofL_addB (102 :: 39 :: X) [39] (by simp; omega) W
      clear HX2 hX
      go_wp2_with fail
      go_ret
      exact ⟨by rw [HT.out, HT3.out]; rfl, HB.out⟩

/-- every value is told by the document as it is -/
theorem rvalue_any {x : T} (hsm : smT' x) : RVT x := rvalue_but rvalue_flt hsm

end Go.Proofs.YtgmjhoppjjjilaaDoor

/- the order of values, plain mathematics -/
namespace Go.Proofs.YtgmjhoppjjjilaaDoor
open Go.ChangeShapes Go.WideShapes Go.ChangeAt Go.RowKit Go.Fl

/-- three answers of one order -/
def Tr (a b c : Int) : Prop := (a ≤ 0 → b ≤ 0 → c ≤ 0 ∧ (a < 0 ∨ b < 0 → c < 0)) ∧ (0 ≤ a → 0 ≤ b → 0 ≤ c ∧ (0 < a ∨ 0 < b → 0 < c))

/-- first the one, then the other -/
def lex (c d : Int) : Int := if c = 0 then d else c

theorem lex_neg {c d c' d' : Int} (h : c' = -c) (h' : c = 0 → d' = -d) : lex c' d' = -lex c d := by
  unfold lex; subst h
  by_cases hc : c = 0
  · rw [if_pos hc, if_pos (by omega), h' hc]
  · rw [if_neg hc, if_neg (by omega)]

theorem lex_tr {a b c d e f : Int} (h : Tr a b c) (h' : a = 0 → b = 0 → Tr d e f) : Tr (lex a d) (lex b e) (lex c f) := by
  obtain ⟨h1, h2⟩ := h
  by_cases ha : a = 0
  · by_cases hb : b = 0
    · have hc : c = 0 := by have := h1 (by omega) (by omega); have := h2 (by omega) (by omega); omega
      unfold lex; rw [if_pos ha, if_pos hb, if_pos hc]; exact h' ha hb
    · unfold lex; rw [if_pos ha, if_neg hb]
      have hc : c ≠ 0 := by
        intro hc
        rcases Int.lt_trichotomy b 0 with hb' | hb' | hb'
        · have := (h1 (by omega) (by omega)).2 (.inr hb'); omega
        · exact hb hb'
        · have := (h2 (by omega) (by omega)).2 (.inr hb'); omega
      rw [if_neg hc]
      exact ⟨fun _ hb' => ⟨(h1 (by omega) hb').1, fun _ => (h1 (by omega) hb').2 (.inr (by omega))⟩, fun _ hb' => ⟨(h2 (by omega) hb').1, fun _ => (h2 (by omega) hb').2 (.inr (by omega))⟩⟩
  · by_cases hb : b = 0
    · unfold lex; rw [if_neg ha, if_pos hb]
      have hc : c ≠ 0 := by
        intro hc
        rcases Int.lt_trichotomy a 0 with ha' | ha' | ha'
        · have := (h1 (by omega) (by omega)).2 (.inl ha'); omega
        · exact ha ha'
        · have := (h2 (by omega) (by omega)).2 (.inl ha'); omega
      rw [if_neg hc]
      exact ⟨fun ha' _ => ⟨(h1 ha' (by omega)).1, fun _ => (h1 ha' (by omega)).2 (.inl (by omega))⟩, fun ha' _ => ⟨(h2 ha' (by omega)).1, fun _ => (h2 ha' (by omega)).2 (.inl (by omega))⟩⟩
    · unfold lex; rw [if_neg ha, if_neg hb]
      refine ⟨fun ha' hb' => ?_, fun ha' hb' => ?_⟩
      · have := h1 ha' hb'
        have h3 := this.2 (.inl (by omega))
        rw [if_neg (by omega)]; exact this
      · have := h2 ha' hb'
        have h3 := this.2 (.inl (by omega))
        rw [if_neg (by omega)]; exact this

theorem cmpI_neg (a b : Int) : cmpI b a = -cmpI a b := by
  unfold cmpI
  rcases Int.lt_trichotomy a b with h | h | h
  · rw [if_neg (by omega), if_pos h, if_pos h]; rfl
  · subst h; simp
  · rw [if_pos h, if_neg (by omega), if_pos h]

theorem cmpI_iff (a b : Int) : (cmpI a b < 0 ↔ a < b) ∧ (cmpI a b = 0 ↔ a = b) ∧ (0 < cmpI a b ↔ b < a) := by
  unfold cmpI
  split
  · omega
  · split <;> omega

theorem cmpI_tr (a b c : Int) : Tr (cmpI a b) (cmpI b c) (cmpI a c) := by
  have h1 := cmpI_iff a b; have h2 := cmpI_iff b c; have h3 := cmpI_iff a c
  unfold Tr; omega

theorem cmpBo_neg (a b : Bool) : cmpBo b a = -cmpBo a b := by cases a <;> cases b <;> decide

theorem cmpBo_tr (a b c : Bool) : Tr (cmpBo a b) (cmpBo b c) (cmpBo a c) := by cases a <;> cases b <;> cases c <;> (unfold Tr; decide)

/-- where a number stands: its float's key, and what is over -/
def posK (k n : Int) (f : Nat) : Int × Int := if k = 2 then (keyN (fw (flo n)), if n - flo n = 0 then -1 else n - flo n) else (keyN f, 0)

def cmpP (a b : Int × Int) : Int := lex (cmpI a.1 b.1) (cmpI a.2 b.2)

theorem cmpP_neg (a b : Int × Int) : cmpP b a = -cmpP a b := lex_neg (cmpI_neg _ _) fun _ => cmpI_neg _ _

theorem cmpP_tr (a b c : Int × Int) : Tr (cmpP a b) (cmpP b c) (cmpP a c) := lex_tr (cmpI_tr _ _ _) fun _ _ => cmpI_tr _ _ _

/-- texts, byte by byte -/
def cmpBs : List UInt8 → List UInt8 → Int
  | [], [] => 0
  | [], _ :: _ => -1
  | _ :: _, [] => 1
  | a :: x, b :: y => lex (cmpI a.toNat b.toNat) (cmpBs x y)

theorem cmpBs_neg : ∀ x y, cmpBs y x = -cmpBs x y
  | [], [] => rfl
  | [], _ :: _ => rfl
  | _ :: _, [] => rfl
  | _ :: x, _ :: y => lex_neg (cmpI_neg _ _) fun _ => cmpBs_neg x y

theorem cmpBs_tr : ∀ x y z, Tr (cmpBs x y) (cmpBs y z) (cmpBs x z)
  | [], [], [] => by unfold Tr; simp [cmpBs]
  | [], [], _ :: _ => by unfold Tr; simp [cmpBs]
  | [], _ :: _, [] => by unfold Tr; simp [cmpBs]
  | [], _ :: _, _ :: _ => by unfold Tr; simp [cmpBs]
  | _ :: _, [], [] => by unfold Tr; simp [cmpBs]
  | _ :: _, [], _ :: _ => by unfold Tr; simp [cmpBs]
  | _ :: _, _ :: _, [] => by unfold Tr; simp [cmpBs]
  | _ :: x, _ :: y, _ :: z => lex_tr (cmpI_tr _ _ _) fun _ _ => cmpBs_tr x y z

theorem cmpBs_eq : ∀ x y, cmpBs x y = if Op.bytesLess x y = true then -1 else if (x == y) = true then 0 else 1
  | [], [] => rfl
  | [], _ :: _ => rfl
  | _ :: _, [] => rfl
  | a :: x, b :: y => by
    rw [cmpBs, cmpBs_eq x y, Op.bytesLess]
    have ha : a < b ↔ a.toNat < b.toNat := UInt8.lt_iff_toNat_lt
    have he : a = b ↔ a.toNat = b.toNat := ⟨fun h => by rw [h], UInt8.toNat_inj.1⟩
    rcases Nat.lt_trichotomy a.toNat b.toNat with h | h | h
    · have h1 : cmpI a.toNat b.toNat = -1 := by unfold cmpI; rw [if_pos (by omega)]
      simp [lex, h1, ha, h]
    · have h1 : cmpI a.toNat b.toNat = 0 := by unfold cmpI; rw [h]; simp
      have h2 : a = b := he.2 h
      subst h2
      simp [lex, h1]
    · have h1 : cmpI a.toNat b.toNat = 1 := by unfold cmpI; rw [if_neg (by omega), if_pos (by omega)]
      have h2 : ¬ a = b := by rw [he]; omega
      have h3 : ¬ a < b := by rw [ha]; omega
      simp [lex, h1, h2, h3]

theorem cmpS_bs (a b : ByteArray) : cmpS a b = cmpBs a.toList b.toList := (cmpBs_eq _ _).symm

theorem cmpS_neg (a b : ByteArray) : cmpS b a = -cmpS a b := by rw [cmpS_bs, cmpS_bs]; exact cmpBs_neg _ _

theorem cmpS_tr (a b c : ByteArray) : Tr (cmpS a b) (cmpS b c) (cmpS a c) := by rw [cmpS_bs, cmpS_bs, cmpS_bs]; exact cmpBs_tr _ _ _

mutual
/-- how values are ordered -/
def cmpT : T → T → Int
  | .mk k b n f s l, .mk k' b' n' f' s' l' =>
    lex (cmpI (rk k) (rk k')) (if k = 1 then cmpBo b b' else if k = 2 ∨ k = 3 then cmpP (posK k n f) (posK k' n' f') else if k = 4 then cmpS s s' else if k = 5 ∨ k = 6 then cmpL l l' else cmpI n n')
def cmpL : List T → List T → Int
  | [], [] => 0
  | [], _ :: _ => -1
  | _ :: _, [] => 1
  | x :: r, y :: q => lex (cmpT x y) (cmpL r q)
end

theorem rk_same {k k' : Int} (h : cmpI (rk k) (rk k') = 0) : (k = 1 ↔ k' = 1) ∧ (k = 2 ∨ k = 3 ↔ k' = 2 ∨ k' = 3) ∧ (k = 4 ↔ k' = 4) ∧ (k = 5 ∨ k = 6 ↔ k' = 5 ∨ k' = 6) := by
  rw [(cmpI_iff _ _).2.1] at h
  unfold rk at h
  split at h <;> split at h <;> omega

theorem cmpL_neg (l : List T) (ih : ∀ i (hi : i < l.length), ∀ b, cmpT b l[i] = -cmpT l[i] b) : ∀ l', cmpL l' l = -cmpL l l' := by
  induction l with
  | nil => intro l'; cases l' <;> simp [cmpL]
  | cons x r ihr =>
    intro l'
    cases l' with
    | nil => simp [cmpL]
    | cons y q =>
      rw [cmpL, cmpL]
      exact lex_neg (ih 0 (by simp) y) fun _ => ihr (fun i hi b => by have := ih (i + 1) (by simpa using hi) b; simpa using this) q

theorem cmpT_neg (a : T) : ∀ b, cmpT b a = -cmpT a b := by
  induction a using T.ind with | h k b n f s l ih => _
  rintro ⟨k', b', n', f', s', l'⟩
  rw [cmpT, cmpT]
  refine lex_neg (cmpI_neg _ _) fun h => ?_
  obtain ⟨h1, h2, h3, h4⟩ := rk_same h
  simp only [← h1, ← h2, ← h3, ← h4]
  split
  · exact cmpBo_neg _ _
  · split
    · exact cmpP_neg _ _
    · split
      · exact cmpS_neg _ _
      · split
        · exact cmpL_neg l ih l'
        · exact cmpI_neg _ _

theorem cmpL_tr (l : List T) (ih : ∀ i (hi : i < l.length), ∀ b c, Tr (cmpT l[i] b) (cmpT b c) (cmpT l[i] c)) : ∀ l' l'', Tr (cmpL l l') (cmpL l' l'') (cmpL l l'') := by
  induction l with
  | nil =>
    intro l' l''
    cases l' <;> cases l'' <;> (unfold Tr; simp [cmpL])
  | cons x r ihr =>
    intro l' l''
    cases l' with
    | nil => cases l'' <;> (unfold Tr; simp [cmpL])
    | cons y q =>
      cases l'' with
      | nil => unfold Tr; simp [cmpL]
      | cons z u =>
        rw [cmpL, cmpL, cmpL]
        exact lex_tr (ih 0 (by simp) y z) fun _ _ => ihr (fun i hi b c => by have := ih (i + 1) (by simpa using hi) b c; simpa using this) q u

theorem cmpT_tr (a : T) : ∀ b c, Tr (cmpT a b) (cmpT b c) (cmpT a c) := by
  induction a using T.ind with | h k b n f s l ih => _
  rintro ⟨k', b', n', f', s', l'⟩ ⟨k'', b'', n'', f'', s'', l''⟩
  rw [cmpT, cmpT, cmpT]
  refine lex_tr (cmpI_tr _ _ _) fun h h' => ?_
  obtain ⟨h1, h2, h3, h4⟩ := rk_same h
  simp only [← h1, ← h2, ← h3, ← h4]
  split
  · exact cmpBo_tr _ _ _
  · split
    · exact cmpP_tr _ _ _
    · split
      · exact cmpS_tr _ _ _
      · split
        · exact cmpL_tr l ih l' l''
        · exact cmpI_tr _ _ _

/-- the numbers' order, as the program has it -/
def cmpNum (k n : Int) (f : Nat) (k' n' : Int) (f' : Nat) : Int :=
  if k = 2 then (if k' = 2 then cmpI n n' else mixN n f') else if k' = 2 then -mixN n' f else cmpN f f'

theorem cmpN_eq (a b : Nat) : cmpN a b = cmpI (keyN a) (keyN b) := by
  unfold cmpN cmpI
  split
  · rw [if_pos (by omega)]
  · split
    · rw [if_neg (by omega), if_pos (by omega)]
    · rw [if_neg (by omega), if_neg (by omega)]

theorem mix_pos {n : Int} (hn : is64 n = true) (f : Nat) (k' n' : Int) (h : k' ≠ 2) : mixN n f = cmpP (posK 2 n 0) (posK k' n' f) := by
  obtain ⟨n1, n2⟩ := is64_iff.1 hn
  have ho := (over_range n1 n2).1
  unfold mixN cmpP posK
  rw [if_pos rfl, if_neg h, ← cmpN_eq]
  unfold lex
  by_cases hc : cmpN (fw (flo n)) f = 0
  · rw [if_pos hc, if_pos hc]
    by_cases h0 : n - flo n = 0
    · rw [if_neg (by omega)]
      simp [h0, cmpI]
    · rw [if_pos (by omega)]
      show _ = cmpI (if n - flo n = 0 then -1 else n - flo n) 0
      rw [if_neg h0]
      unfold cmpI; rw [if_neg (by omega), if_pos (by omega)]
  · rw [if_neg hc, if_neg hc]

theorem two_ints {n n' z z' K K' : Int} (kl : K < K' ↔ z < z') (kr : K' < K ↔ z' < z) (on : 0 ≤ n - z) (om : 0 ≤ n' - z')
    (pl : (z < z' ∨ (z = z' ∧ n - z < n' - z')) ↔ n < n') (pr : (z' < z ∨ (z' = z ∧ n' - z' < n - z)) ↔ n' < n) :
    cmpI n n' = lex (cmpI K K') (cmpI (if n - z = 0 then -1 else n - z) (if n' - z' = 0 then -1 else n' - z')) := by
  unfold lex
  rcases Int.lt_trichotomy z z' with h | h | h
  · have h2 : n < n' := pl.1 (.inl h)
    have e1 : cmpI K K' = -1 := by unfold cmpI; rw [if_pos (kl.2 h)]
    rw [e1, if_neg (by decide)]
    unfold cmpI; rw [if_pos h2]
  · have e1 : cmpI K K' = 0 := by
      unfold cmpI; rw [if_neg (by rw [kl]; omega), if_neg (by rw [kr]; omega)]
    rw [e1, if_pos rfl]
    clear e1 kl kr pl pr
    subst h
    unfold cmpI
    by_cases h1 : n - z = 0 <;> by_cases h2 : n' - z = 0
    · rw [if_pos h1, if_pos h2]; have : n = n' := by omega
      subst this; simp
    · rw [if_pos h1, if_neg h2, if_pos (by omega), if_pos (by omega)]
    · rw [if_neg h1, if_pos h2, if_neg (by omega), if_pos (by omega), if_neg (by omega), if_pos (by omega)]
    · rw [if_neg h1, if_neg h2]
      rcases Int.lt_trichotomy n n' with h | h | h
      · rw [if_pos h, if_pos (by omega)]
      · subst h; simp
      · rw [if_neg (by omega), if_pos h, if_neg (by omega), if_pos (by omega)]
  · have h2 : n' < n := pr.1 (.inl h)
    have e1 : cmpI K K' = 1 := by unfold cmpI; rw [if_neg (by rw [kl]; omega), if_pos (kr.2 h)]
    rw [e1, if_neg (by decide)]
    unfold cmpI; rw [if_neg (by omega), if_pos h2]

theorem cmpNum_ii {n n' : Int} {f f' : Nat} (hn : is64 n = true) (hn' : is64 n' = true) : cmpI n n' = cmpP (posK 2 n f) (posK 2 n' f') := by
  obtain ⟨n1, n2⟩ := is64_iff.1 hn
  obtain ⟨m1, m2⟩ := is64_iff.1 hn'
  have fn := flo_fit n1 n2
  have fm := flo_fit m1 m2
  unfold cmpP posK
  rw [if_pos rfl, if_pos rfl]
  exact two_ints (by rw [Int.ofNat_lt]; exact key_fw_lt fn fm) (by rw [Int.ofNat_lt]; exact key_fw_lt fm fn) (over_range n1 n2).1 (over_range m1 m2).1 parts_lt.1 parts_lt.1

theorem posK_two {n : Int} {f : Nat} : posK 2 n f = posK 2 n 0 := by unfold posK; rw [if_pos rfl, if_pos rfl]

theorem cmpNum_eq {k n k' n' : Int} {f f' : Nat} (hn : is64 n = true) (hn' : is64 n' = true) : cmpNum k n f k' n' f' = cmpP (posK k n f) (posK k' n' f') := by
  unfold cmpNum
  by_cases hk : k = 2
  · rw [if_pos hk]
    by_cases hk' : k' = 2
    · rw [if_pos hk', hk, hk']
      exact cmpNum_ii hn hn'
    · rw [if_neg hk', mix_pos hn f' k' n' hk', hk, posK_two (f := f)]
  · rw [if_neg hk]
    by_cases hk' : k' = 2
    · rw [if_pos hk', mix_pos hn' f k n hk, ← cmpP_neg, hk', posK_two (f := f')]
    · rw [if_neg hk', cmpN_eq]
      unfold cmpP posK lex
      rw [if_neg hk, if_neg hk']
      split
      · next h => simp only at h; rw [h]; simp [cmpI]
      · rfl

end Go.Proofs.YtgmjhoppjjjilaaDoor
