/- SpX, SpY -/
import Derived.Test.YtgmjhoppjjjilaaDoorQ34
import Derived.Test.YtgmjhoppjjjilaaDoorQ13

/- show: the document's Number -/
namespace Go.Proofs.YtgmjhoppjjjilaaDoor
open Go.ChangeShapes Go.WideShapes Go.ChangeAt Go.RowKit Go.Fl
open Go.Shelf

/-- the digits so far: D; still to tell: u -/
def NumI (U g u : Nat) (D : List UInt8) : Prop :=
  1 ≤ g ∧ u < 10 ^ (g - 1) ∧ D.length + g ≤ 21 ∧ (D = [] → u = U ∧ g = 21) ∧ (D ≠ [] → (0 < u → Lib.decDigits U = Lib.decDigits u ++ D) ∧ (u = 0 → Lib.decDigits U = D))

theorem NumI.start {U : Nat} (h : U < 18446744073709551616) : NumI U 21 U [] :=
  ⟨by decide, Nat.lt_trans h (by decide), by decide, fun _ => ⟨rfl, rfl⟩, fun h => absurd rfl h⟩

theorem NumI.step {U g u : Nat} {D : List UInt8} (h : NumI U (g + 1) u D) (hu : 0 < u ∨ D = []) : NumI U g (u / 10) (UInt8.ofNat (48 + u % 10) :: D) := by
  obtain ⟨h1, h2, h3, h4, h5⟩ := h
  rw [Nat.add_sub_cancel] at h2
  have hg : 1 ≤ g := by
    rcases hu with hu | hu
    · rcases Nat.eq_zero_or_pos g with rfl | h
      · simp at h2; omega
      · exact h
    · have := (h4 hu).2; omega
  refine ⟨hg, ?_, by rw [List.length_cons]; omega, fun h => by simp at h, fun _ => ?_⟩
  · have : 10 ^ g = 10 * 10 ^ (g - 1) := by
      obtain ⟨k, rfl⟩ : ∃ k, g = k + 1 := ⟨g - 1, by omega⟩
      rw [Nat.add_sub_cancel, Nat.pow_succ, Nat.mul_comm]
    rw [this] at h2
    exact Nat.div_lt_of_lt_mul h2
  · have hd : Lib.decDigits U = Lib.decDigits u ++ D := by
      by_cases hD : D = []
      · rw [hD, List.append_nil, (h4 hD).1]
      · rcases hu with hu | hu
        · exact (h5 hD).1 hu
        · exact absurd hu hD
    constructor
    · intro h0
      rw [hd, decDigits_big (u := u) (by omega), List.append_assoc]; rfl
    · intro h0
      have hlt : u < 10 := by omega
      rw [hd, Lib.decDigits_one hlt, Nat.mod_eq_of_lt hlt]; rfl

theorem NumI.fin {U g : Nat} {D : List UInt8} (h : NumI U g 0 D) (hD : D ≠ []) : Lib.decDigits U = D := (h.2.2.2.2 hD).2 rfl

theorem NumI.len {U g u : Nat} {D : List UInt8} (h : NumI U g u D) : D.length ≤ 21 := by have := h.2.2.1; omega

set_option maxRecDepth 100000 in
theorem conv_dig (u : Nat) (wr : World) : (convert 47 9 (.slice (some ⟨wr.heap.size, 0, none⟩) 1 1)).run Tryd.prog (wr.alloc (.cells #[.int .u8 (48 + (u : Int) % 10)] 5)) = .ok (.string (ofL [UInt8.ofNat (48 + u % 10)])) (wr.alloc (.cells #[.int .u8 (48 + (u : Int) % 10)] 5)) := by
  have hv : (48 + (u : Int) % 10) = (((UInt8.ofNat (48 + u % 10)).toNat : Nat) : Int) := by
    rw [UInt8.toNat_ofNat', Nat.mod_eq_of_lt (by omega)]; omega
  rw [hv]
  refine run_convert_bytes_back (P := Tryd.prog) _ 47 9 5 ⟨wr.heap.size, 0, none⟩ 1 [UInt8.ofNat (48 + u % 10)] Tryd.underlying47 Tryd.underlying5 Tryd.underlying9 (fun j hj => ?_)
  obtain rfl : j = 0 := by simpa using hj
  simp [go_sem]

set_option maxHeartbeats 4000000 in
set_option maxRecDepth 100000 in
theorem rnum_pos (n : Nat) (w : World) (hn : n < 9223372036854775808) :
    Calls Tryd.prog 22 #[.int .i64 (n : Nat)] w fun e w' => e = .returned (.string (ofL (Lib.itoa n))) ∧ Below w.heap.size w w' := by
  have HE : Hid (Lib.itoa (n : Int) = Lib.decDigits n) := Lib.hid (Lib.itoa_nonneg n)
  have c1 : IntKind.u64.wrap (n : Int) = (n : Int) := by rw [IntKind.wrap_u64]; omega
  have c2 : decide ((n : Int) < 0) = false := by rw [decide_eq_false_iff_not]; omega
  have HS := Lib.hid (NumI.start (U := n) (by omega))
  go_enter Tryd.func22, Tryd.ntmps22
  go_wp2_with fail
  clear c1 c2
  go_loopg [3, 5] 21 (fun gg su ss wr => ∃ (u : Nat) (D : List UInt8), su = .int .u64 u ∧ ss = .string (ofL D) ∧ u ≤ n ∧ Hid (NumI n gg u D) ∧ Hid (Below w.heap.size w wr))
  case atStart => exact ⟨n, [], rfl, rfl, Nat.le_refl _, HS.out, Lib.hid (Below.refl _ _)⟩
  case round =>
    obtain ⟨u, D, rfl, rfl, hu, HN, HB⟩ := hrel
    rename World => wr
    have hg1 := HN.out.1
    obtain ⟨g, rfl⟩ : ∃ g, gk = g + 1 := ⟨gk - 1, by omega⟩
    clear hg1
    obtain ⟨q, hq⟩ : ∃ q, ((ofL D).toList == []) = q := ⟨_, rfl⟩
    have HQ : Hid (q = decide (D = [])) := Lib.hid (by
      rw [← hq, toL]
      by_cases h : D = []
      · rw [decide_eq_true h, h]; rfl
      · rw [decide_eq_false h, beq_eq_false_iff_ne]; simpa [ofL] using h)
    by_cases hgo : 0 < u ∨ D = []
    · have HY := Lib.hid (HN.out.step hgo)
      have HYL := Lib.hid (HN.out.len)
      have f1 : decide ((0 : Int) < (u : Int)) = decide (0 < u) := by rw [decide_eq_decide]; omega
      by_cases hu0 : 0 < u
      · have f2 : decide (0 < u) = true := decide_eq_true hu0
        rw [f2] at f1
        have cv := conv_dig u wr
        obtain ⟨C, hC⟩ : ∃ C, UInt8.ofNat (48 + u % 10) = C := ⟨_, rfl⟩
        rw [hC] at cv HY
        have r1 : ∀ W, (Op.stringOp .add (ofL [C]) (ofL D)).run Tryd.prog W = .ok (.string (ofL (C :: D))) W := fun W => ofL_add [C] D (by have := HYL.out; rw [List.length_singleton]; omega) W
        clear hC HQ
        go_wp2_with fail
        go_roundg g
        case measure => omega
        case rel => exact ⟨u / 10, C :: D, by go_num, rfl, by omega, HY, Lib.hid (HB.out.alloc HB.out.size _)⟩
      · have f2 : decide (0 < u) = false := decide_eq_false hu0
        rw [f2] at f1
        have hq1 : q = true := by rw [HQ.out, decide_eq_true_eq]; exact hgo.resolve_left hu0
        rw [hq1] at hq
        clear hq1
        have cv := conv_dig u wr
        obtain ⟨C, hC⟩ : ∃ C, UInt8.ofNat (48 + u % 10) = C := ⟨_, rfl⟩
        rw [hC] at cv HY
        have r1 : ∀ W, (Op.stringOp .add (ofL [C]) (ofL D)).run Tryd.prog W = .ok (.string (ofL (C :: D))) W := fun W => ofL_add [C] D (by have := HYL.out; rw [List.length_singleton]; omega) W
        clear hC HQ
        go_wp2_with fail
        go_roundg g
        case measure => omega
        case rel => exact ⟨u / 10, C :: D, by go_num, rfl, by omega, HY, Lib.hid (HB.out.alloc HB.out.size _)⟩
    · have hu0 : u = 0 := by omega
      have hD : D ≠ [] := fun h => hgo (.inr h)
      subst hu0
      have HF := Lib.hid (HN.out.fin hD)
      have hq1 : q = false := by rw [HQ.out, decide_eq_false_iff_not]; exact hD
      rw [hq1] at hq
      clear hq1 HQ hgo hD
      go_wp2_with fail
      go_ret
      exact ⟨by rw [HE.out, HF.out]; rfl, HB.out⟩

set_option maxHeartbeats 4000000 in
set_option maxRecDepth 100000 in
theorem rnum_neg (n : Nat) (w : World) (hn : n ≤ 9223372036854775808) (h1 : 1 ≤ n) :
    Calls Tryd.prog 22 #[.int .i64 (-(n : Nat) : Int)] w fun e w' => e = .returned (.string (ofL (Lib.itoa (-(n : Nat) : Int)))) ∧ Below w.heap.size w w' := by
  have HE : Hid (Lib.itoa (-(n : Int)) = 45 :: Lib.decDigits n) := Lib.hid (Lib.itoa_neg n h1)
  have c1 : IntKind.u64.wrap (-(n : Int)) = 18446744073709551616 - (n : Int) := by rw [IntKind.wrap_u64]; omega
  have c2 : decide (-(n : Int) < 0) = true := by rw [decide_eq_true_eq]; omega
  have c3 : IntKind.u64.wrap (-(18446744073709551616 - (n : Int))) = (n : Int) := by rw [IntKind.wrap_u64]; omega
  have HS := Lib.hid (NumI.start (U := n) (by omega))
  go_enter Tryd.func22, Tryd.ntmps22
  go_wp2_with fail
  clear c1 c2 c3
  go_loopg [3, 5] 21 (fun gg su ss wr => ∃ (u : Nat) (D : List UInt8), su = .int .u64 u ∧ ss = .string (ofL D) ∧ u ≤ n ∧ Hid (NumI n gg u D) ∧ Hid (Below w.heap.size w wr))
  case atStart => exact ⟨n, [], rfl, rfl, Nat.le_refl _, HS.out, Lib.hid (Below.refl _ _)⟩
  case round =>
    obtain ⟨u, D, rfl, rfl, hu, HN, HB⟩ := hrel
    rename World => wr
    have hg1 := HN.out.1
    obtain ⟨g, rfl⟩ : ∃ g, gk = g + 1 := ⟨gk - 1, by omega⟩
    clear hg1
    obtain ⟨q, hq⟩ : ∃ q, ((ofL D).toList == []) = q := ⟨_, rfl⟩
    have HQ : Hid (q = decide (D = [])) := Lib.hid (by
      rw [← hq, toL]
      by_cases h : D = []
      · rw [decide_eq_true h, h]; rfl
      · rw [decide_eq_false h, beq_eq_false_iff_ne]; simpa [ofL] using h)
    by_cases hgo : 0 < u ∨ D = []
    · have HY := Lib.hid (HN.out.step hgo)
      have HYL := Lib.hid (HN.out.len)
      have f1 : decide ((0 : Int) < (u : Int)) = decide (0 < u) := by rw [decide_eq_decide]; omega
      by_cases hu0 : 0 < u
      · have f2 : decide (0 < u) = true := decide_eq_true hu0
        rw [f2] at f1
        have cv := conv_dig u wr
        obtain ⟨C, hC⟩ : ∃ C, UInt8.ofNat (48 + u % 10) = C := ⟨_, rfl⟩
        rw [hC] at cv HY
        have r1 : ∀ W, (Op.stringOp .add (ofL [C]) (ofL D)).run Tryd.prog W = .ok (.string (ofL (C :: D))) W := fun W => ofL_add [C] D (by have := HYL.out; rw [List.length_singleton]; omega) W
        clear hC HQ
        go_wp2_with fail
        go_roundg g
        case measure => omega
        case rel => exact ⟨u / 10, C :: D, by go_num, rfl, by omega, HY, Lib.hid (HB.out.alloc HB.out.size _)⟩
      · have f2 : decide (0 < u) = false := decide_eq_false hu0
        rw [f2] at f1
        have hq1 : q = true := by rw [HQ.out, decide_eq_true_eq]; exact hgo.resolve_left hu0
        rw [hq1] at hq
        clear hq1
        have cv := conv_dig u wr
        obtain ⟨C, hC⟩ : ∃ C, UInt8.ofNat (48 + u % 10) = C := ⟨_, rfl⟩
        rw [hC] at cv HY
        have r1 : ∀ W, (Op.stringOp .add (ofL [C]) (ofL D)).run Tryd.prog W = .ok (.string (ofL (C :: D))) W := fun W => ofL_add [C] D (by have := HYL.out; rw [List.length_singleton]; omega) W
        clear hC HQ
        go_wp2_with fail
        go_roundg g
        case measure => omega
        case rel => exact ⟨u / 10, C :: D, by go_num, rfl, by omega, HY, Lib.hid (HB.out.alloc HB.out.size _)⟩
    · have hu0 : u = 0 := by omega
      have hD : D ≠ [] := fun h => hgo (.inr h)
      subst hu0
      have HF := Lib.hid (HN.out.fin hD)
      have hq1 : q = false := by rw [HQ.out, decide_eq_false_iff_not]; exact hD
      rw [hq1] at hq
      clear hq1 HQ hgo hD
      have r1 : ∀ W, (Op.stringOp .add ⟨#[45]⟩ (ofL D)).run Tryd.prog W = .ok (.string (ofL (45 :: D))) W := fun W => ofL_add [45] D (by have := HN.out.len; rw [List.length_singleton]; omega) W
      clear HN
      go_wp2_with fail
      go_ret
      exact ⟨by rw [HE.out, HF.out]; rfl, HB.out⟩

theorem rnum_any (v : Int) (w : World) (h1 : -9223372036854775808 ≤ v) (h2 : v ≤ 9223372036854775807) :
    Calls Tryd.prog 22 #[.int .i64 v] w fun e w' => e = .returned (.string (ofL (Lib.itoa v))) ∧ Below w.heap.size w w' := by
  by_cases hv : v < 0
  · obtain ⟨n, rfl⟩ : ∃ n : Nat, v = -(n : Int) := ⟨v.natAbs, by omega⟩
    exact rnum_neg n w (by omega) (by omega)
  · obtain ⟨n, rfl⟩ : ∃ n : Nat, v = (n : Int) := ⟨v.toNat, by omega⟩
    exact rnum_pos n w (by omega)

end Go.Proofs.YtgmjhoppjjjilaaDoor

/- show: the document's Values -/
namespace Go.Proofs.YtgmjhoppjjjilaaDoor
open Go.ChangeShapes Go.WideShapes Go.ChangeAt Go.RowKit Go.Fl
open Go.Shelf

theorem ofL_addB {P : Program} (a b : List UInt8) (h : a.length + b.length ≤ 9223372036854775807) (W : World) : (Op.stringOp .add (ofL a) (ofL b)).run P W = .ok (.string (ofL (a ++ b))) W := by
  rw [run_string_add_sum W _ _ (by rw [ofL_size, ofL_size]; omega), ofL_cat]

/-- a value is told by the document -/
def RVT (x : T) : Prop := ∀ (w : World) (v : Value), RdS w (fun q => q < w.heap.size) x v → (shT x).length ≤ 99999999000 →
  Calls Tryd.prog 9 #[v] w fun z w' => z = .returned (.string (ofL (shT x))) ∧ Below w.heap.size w w'

set_option maxHeartbeats 4000000 in
set_option maxRecDepth 100000 in
theorem rvals_val {l : List T} {w : World} {cap : Nat} {A : Option Addr} (hV : ∀ i (h : i < l.length), RVT l[i]) (hr : RdSL w (fun q => q < w.heap.size) l A) (hlen : (joinF [44, 32] shT l).length ≤ 99999999000) (hll : l.length ≤ 9223372036854775806) :
    Calls Tryd.prog 25 #[.slice A l.length cap] w fun z w' => z = .returned (.string (ofL (joinF [44, 32] shT l))) ∧ Below w.heap.size w w' := by
  have HR := Lib.hid hr; have HVV := Lib.hid hV; have HL := Lib.hid hlen
  clear hr hV hlen
  go_enter Tryd.func25, Tryd.ntmps25
  go_wp2_with fail
  go_loopw [3, 4] (fun so si wr => ∃ (i : Nat) (X : List UInt8), so = .string (ofL X) ∧ si = .int .i64 i ∧ i ≤ l.length ∧ Hid (X = joinF [44, 32] shT (l.take i)) ∧ Hid (Below w.heap.size w wr)) (fun _ si _ => l.length - (intOf si).toNat)
  case atStart => exact ⟨0, [], rfl, rfl, Nat.zero_le _, Lib.hid (by simp [joinF]), Lib.hid (Below.refl _ _)⟩
  case round =>
    obtain ⟨i, X, rfl, rfl, hi, HX, HB⟩ := hrel
    rename World => wr
    by_cases hlt : i < l.length
    · have hrw : RdSL wr (fun q => q < w.heap.size) l A := RdSL.keepS (fun p hp => HB.out.cell hp) (fun _ hq => hq) HR.out
      obtain ⟨a, k, bb, n, f, s, q, D, capi, rfl, hab, hx, hrd, e0, e1, e2, e3, e4, e5⟩ := hrw.item hlt
      have hlz : (i : Int) < (l.length : Int) := by omega
      have hrX : RdS wr (fun q => q < wr.heap.size) l[i] (.agg #[.int .i64 k, .bool bb, .int .i64 n, .float .f64 f, .string s, .slice D q.length capi]) := RdS.keepS (fun _ _ => rfl) (fun _ hq => Nat.lt_of_lt_of_le hq HB.out.size) hrd
      have htk := take_more hlt
      have hjl := joinF_take [44, 32] shT l (i + 1)
      have HJ : Hid (joinF [44, 32] shT (l.take (i + 1)) = X ++ (if i = 0 then [] else [44, 32]) ++ shT l[i]) := Lib.hid (by
        rw [htk, joinF_snoc, HX.out, show (l.take i).length = i by rw [List.length_take]; omega])
      have hjl2 : X.length + (if i = 0 then [] else [44, 32] : List UInt8).length + (shT l[i]).length ≤ 99999999000 := by
        have h1 := HL.out
        rw [HJ.out, List.length_append, List.length_append] at hjl
        omega
      have HC := Lib.hid (HVV.out i hlt wr _ hrX (by omega))
      obtain ⟨Y, hY⟩ : ∃ Y, shT l[i] = Y := ⟨_, rfl⟩
      rw [hY] at HC HJ hjl2
      clear hrw hrX hrd htk hjl HX
      by_cases h0 : i = 0
      · have hz : ¬ (0 : Int) < (i : Int) := by omega
        rw [if_pos h0, List.append_nil] at HJ
        rw [if_pos h0] at hjl2
        have r2 : ∀ W, (Op.stringOp .add (ofL X) (ofL Y)).run Tryd.prog W = .ok (.string (ofL (X ++ Y))) W := fun W => ofL_addB X Y (by omega) W
        clear hjl2 h0 hY
        go_wp2_with fail
        refine HC.out.mono ?_
        rintro e w2 ⟨rfl, hb2⟩
        have HB2 := Lib.hid (HB.out.trans (hb2.mono HB.out.size))
        clear hb2
        go_wp2_with fail
        go_roundw
        case rel => exact ⟨i + 1, X ++ Y, rfl, by go_num, hlt, Lib.hid HJ.out.symm, HB2⟩
        case measure => simp [intOf]; omega
      · have hz : (0 : Int) < (i : Int) := by omega
        rw [if_neg h0] at HJ hjl2
        have r1 : ∀ W, (Op.stringOp .add (ofL X) ⟨#[44, 32]⟩).run Tryd.prog W = .ok (.string (ofL (X ++ [44, 32]))) W := fun W => ofL_addB X [44, 32] (by simp at hjl2 ⊢; omega) W
        have r2 : ∀ W, (Op.stringOp .add (ofL (X ++ [44, 32])) (ofL Y)).run Tryd.prog W = .ok (.string (ofL (X ++ [44, 32] ++ Y))) W := fun W => ofL_addB (X ++ [44, 32]) Y (by rw [List.length_append]; omega) W
        clear hjl2 h0 hY
        obtain ⟨Z, hZ⟩ : ∃ Z, X ++ [44, 32] = Z := ⟨_, rfl⟩
        rw [hZ] at HJ r1 r2
        clear hZ
        go_wp2_with fail
        refine HC.out.mono ?_
        rintro e w2 ⟨rfl, hb2⟩
        have HB2 := Lib.hid (HB.out.trans (hb2.mono HB.out.size))
        clear hb2
        go_wp2_with fail
        go_roundw
        case rel => exact ⟨i + 1, Z ++ Y, rfl, by go_num, hlt, Lib.hid HJ.out.symm, HB2⟩
        case measure => simp [intOf]; omega
    · have hlz : ¬ (i : Int) < (l.length : Int) := by omega
      have HT : Hid (joinF [44, 32] shT l = X) := Lib.hid (by rw [HX.out, List.take_of_length_le (by omega)])
      clear HX
      go_wp2_with fail
      go_ret
      exact ⟨by rw [HT.out]; rfl, HB.out⟩

end Go.Proofs.YtgmjhoppjjjilaaDoor
