/- num.Sum and the law NumSums -/
import Derived.Test.YtmkgjammkjmooaaD
import Derived.Deep.Slices
import Derived.Deep.Draws
namespace Go.Fl
/-- the word of a result that is no number, as the tape has it -/
def nanDrawn (w : World) (x y : Nat) : Nat := (Question.nanBits .f64 x y).cut (w.tape w.drawn (.nanBits .f64 x y))
theorem nanDrawn_nan (w : World) (x y : Nat) : nanDrawn w x y < 18446744073709551616 ∧ nanB (nanDrawn w x y) = true := by
  have h : nanDrawn w x y < 18446744073709551616 ∧ 9218868437227405312 < rung (nanDrawn w x y) := by
    unfold nanDrawn rung Question.cut
    generalize w.tape w.drawn (.nanBits .f64 x y) = t
    simp only
    have e1 : (2 : Nat) ^ 63 = 9223372036854775808 := by decide
    have e2 : (2 : Nat) ^ 52 - 1 = 4503599627370495 := by decide
    rw [e1, e2]
    have h1 : t % 2 < 2 := Nat.mod_lt _ (by decide)
    have h2 : t / 2 % 4503599627370495 < 4503599627370495 := Nat.mod_lt _ (by decide)
    generalize t / 2 % 4503599627370495 = v at *
    have h3 : t % 2 = 0 ∨ t % 2 = 1 := by omega
    rcases h3 with h3 | h3 <;> rw [h3] <;> omega
  exact ⟨h.1, (nan_iff h.1).2 h.2⟩
theorem run_float_add_nan {P : Program} (w : World) (t : TypeId) (x y : Nat) (h : floatBits .add .f64 x y = none) : (binOp .add t (.float .f64 x) (.float .f64 y)).run P w = .ok (.float .f64 (nanDrawn w x y)) w.drew := by
  unfold floatBits at h
  simp only at h
  simp [binOp, Op.floatArith, h]
  rfl
theorem add_nan_l {x y : Nat} (hx : x < 18446744073709551616) (h : nanB x = true) : floatBits .add .f64 x y = none := by
  show Ieee.double.add x y = none
  unfold Ieee.Format.add
  rw [read_nan hx ((nan_iff hx).1 h)]
  rfl
/-- the sum of the first k -/
def sumS (fs : Nat → Nat) : Nat → Option Nat
  | 0 => some 0
  | k + 1 => (sumS fs k).bind fun s => floatBits .add .f64 s (fs k)
/-- a word stands for it: it is just that; or any that is no number -/
def okS (o : Option Nat) (z : Nat) : Prop := match o with
  | some s => z = s
  | none => nanB z = true ∧ z < 18446744073709551616
def canS (o : Option Nat) : Nat := match o with
  | some s => canonN s
  | none => 9221120237041090561
theorem okS_can {o : Option Nat} {z : Nat} (h : okS o z) : canonN z = canS o := by
  cases o with
  | some s => unfold okS at h; subst h; rfl
  | none => unfold canonN canS; rw [h.1]; rfl
/-- one more: either it is known, or it is no number and drawn -/
theorem sum_step {fs : Nat → Nat} {k z : Nat} (h : okS (sumS fs k) z) :
    (∃ r, floatBits .add .f64 z (fs k) = some r ∧ okS (sumS fs (k + 1)) r) ∨ (floatBits .add .f64 z (fs k) = none ∧ sumS fs (k + 1) = none) := by
  rcases ho : sumS fs k with _ | s
  · rw [ho] at h
    refine Or.inr ⟨add_nan_l h.2 h.1, ?_⟩
    show (sumS fs k).bind _ = none
    rw [ho]; rfl
  · rw [ho] at h
    have hz : z = s := h
    subst hz
    have hs : sumS fs (k + 1) = floatBits .add .f64 z (fs k) := by
      show (sumS fs k).bind _ = _
      rw [ho]; rfl
    rcases hf : floatBits .add .f64 z (fs k) with _ | r
    · exact Or.inr ⟨rfl, by rw [hs, hf]⟩
    · exact Or.inl ⟨r, rfl, by rw [hs, hf]; rfl⟩
theorem okS_drawn {o : Option Nat} (w : World) (x y : Nat) (h : o = none) : okS o (nanDrawn w x y) := by
  subst h; exact ⟨(nanDrawn_nan w x y).2, (nanDrawn_nan w x y).1⟩
/-- a slice of floats that came in -/
def IsFloats (w : World) (a : Option Addr) (len cap : Nat) (fs : Nat → Nat) : Prop :=
  (len = 0 ∨ ∃ b off, a = some ⟨b, off, none⟩ ∧ ∀ i, i < len → w.cell? ⟨b, off + i, none⟩ = some (.float .f64 (fs i))) ∧ len ≤ cap ∧ len ≤ 9223372036854775807
end Go.Fl
namespace Go.Proofs.Ytmkgjammkjmooaa
open Go.ChangeShapes Go.WideShapes Go.ChangeAt Go.RowKit Go.Fl

theorem sum_any (a : Option Addr) (len cap : Nat) (fs : Nat → Nat) (w : World) (h : IsFloats w a len cap fs) :
    Calls Try.prog 33 #[.slice a len cap] w fun e w' => e = .returned (.float .f64 (canS (sumS fs len))) ∧ ∃ n, w' = w.drewN n := by
  obtain ⟨h1, hcap, hlen⟩ := h
  rcases h1 with rfl | ⟨b, off, rfl, hc⟩
  · go_enter Try.func33, Try.ntmps33
    go_wp2
    go_loopw [3, 8] (fun s i wr => s = .float .f64 0 ∧ i = .int .i64 0 ∧ wr = w) (fun _ _ _ => 0)
    case atStart => exact ⟨rfl, rfl, rfl⟩
    case round =>
      obtain ⟨rfl, rfl, rfl⟩ := hrel
      go_wp2_with (go_at_call 24; refine (canon_any _ _).mono ?_; rintro e w' ⟨rfl, rfl⟩)
      go_ret
      exact ⟨rfl, 0, rfl⟩
  · go_enter Try.func33, Try.ntmps33
    go_wp2
    go_loopw [3, 8] (fun s i wr => ∃ k z n : Nat, k ≤ len ∧ okS (sumS fs k) z ∧ s = .float .f64 z ∧ i = .int .i64 k ∧ wr = w.drewN n) (fun _ i _ => len - (intOf i).toNat)
    case atStart => exact ⟨0, 0, 0, Nat.zero_le _, rfl, rfl, rfl, rfl⟩
    case round =>
      obtain ⟨k, z, n, hk, hok, rfl, rfl, rfl⟩ := hrel
      by_cases hlt : k < len
      · have hck := hc k hlt
        rcases sum_step hok with ⟨r, hf, hr⟩ | ⟨hf, hr⟩
        · have hadd : ∀ w, (binOp .add 27 (.float .f64 z) (.float .f64 (fs k))).run Try.prog w = .ok (.float .f64 r) w := fun w => run_float_arith w .add 27 .f64 _ _ _ hf
          have Hr := Lib.hid hr
          clear hc hok hf hr
          go_wp2
          go_roundw
          case rel => exact ⟨k + 1, r, n, hlt, Hr.out, rfl, by go_num, rfl⟩
          case measure => simp [intOf]; omega
        · have hadd : ∀ w, (binOp .add 27 (.float .f64 z) (.float .f64 (fs k))).run Try.prog w = .ok (.float .f64 (nanDrawn w z (fs k))) w.drew := fun w => run_float_add_nan w 27 _ _ hf
          have Hr := Lib.hid hr
          clear hc hok hf hr
          go_wp2
          go_roundw
          case rel => exact ⟨k + 1, _, n + 1, hlt, okS_drawn _ _ _ Hr.out, rfl, by go_num, rfl⟩
          case measure => simp [intOf]; omega
      · have hkk : k = len := by omega
        have Hok := Lib.hid (okS_can hok)
        have Hkk := Lib.hid hkk
        clear hok hkk hc
        go_wp2_with (go_at_call 24; refine (canon_any _ _).mono ?_; rintro e w' ⟨rfl, rfl⟩)
        go_ret
        exact ⟨ret_flt (by rw [Hok.out, Hkk.out]), n, rfl⟩

theorem sums_any (a : Option Addr) (len cap : Nat) (fs : Nat → Nat) (w : World) (h : IsFloats w a len cap fs) :
    Calls Try.prog 10 #[.slice a len cap] w fun e w' => e = .returned (.bool true) ∧ Below w.heap.size w w' := by
  have hsum : ∀ n, IsFloats (w.drewN n) a len cap fs := fun n => h
  have Hs := Lib.hid hsum
  obtain ⟨h1, hcap, hlen⟩ := h
  have hg := call_bits
  rcases h1 with rfl | ⟨b, off, rfl, hc⟩
  · go_enter Try.func10, Try.ntmps10
    go_wp2
    go_loopw [3, 4] (fun s i wr => s = .float .f64 0 ∧ i = .int .i64 0 ∧ wr = w) (fun _ _ _ => 0)
    case atStart => exact ⟨rfl, rfl, rfl⟩
    case round =>
      obtain ⟨rfl, rfl, rfl⟩ := hrel
      go_wp2_with fail
      refine (awake_any _).mono ?_
      rintro e w' ⟨rfl, rfl⟩
      go_wp2_with fail
      refine (sum_any _ _ _ _ _ (Hs.out 0)).mono ?_
      rintro e w' ⟨rfl, m, rfl⟩
      go_wp2_with fail
      refine (rcanon_any _ _).mono ?_
      rintro e w' ⟨rfl, rfl⟩
      go_wp2
      go_ret
      exact ⟨rfl, below_drewN (Below.refl _ _) _⟩
  · go_enter Try.func10, Try.ntmps10
    go_wp2
    go_loopw [3, 4] (fun s i wr => ∃ k z n : Nat, k ≤ len ∧ okS (sumS fs k) z ∧ s = .float .f64 z ∧ i = .int .i64 k ∧ wr = w.drewN n) (fun _ i _ => len - (intOf i).toNat)
    case atStart => exact ⟨0, 0, 0, Nat.zero_le _, rfl, rfl, rfl, rfl⟩
    case round =>
      obtain ⟨k, z, n, hk, hok, rfl, rfl, rfl⟩ := hrel
      by_cases hlt : k < len
      · have hck := hc k hlt
        rcases sum_step hok with ⟨r, hf, hr⟩ | ⟨hf, hr⟩
        · have hadd : ∀ w, (binOp .add 27 (.float .f64 z) (.float .f64 (fs k))).run Try.prog w = .ok (.float .f64 r) w := fun w => run_float_arith w .add 27 .f64 _ _ _ hf
          have Hr := Lib.hid hr
          clear hc hok hf hr
          go_wp2
          go_roundw
          case rel => exact ⟨k + 1, r, n, hlt, Hr.out, rfl, by go_num, rfl⟩
          case measure => simp [intOf]; omega
        · have hadd : ∀ w, (binOp .add 27 (.float .f64 z) (.float .f64 (fs k))).run Try.prog w = .ok (.float .f64 (nanDrawn w z (fs k))) w.drew := fun w => run_float_add_nan w 27 _ _ hf
          have Hr := Lib.hid hr
          clear hc hok hf hr
          go_wp2
          go_roundw
          case rel => exact ⟨k + 1, _, n + 1, hlt, okS_drawn _ _ _ Hr.out, rfl, by go_num, rfl⟩
          case measure => simp [intOf]; omega
      · have hkk : k = len := by omega
        have hcan := okS_can hok
        rw [hkk] at hcan
        have Hok := Lib.hid hcan
        clear hok hkk hc hcan
        go_wp2_with fail
        refine (awake_any _).mono ?_
        rintro e w' ⟨rfl, rfl⟩
        go_wp2_with fail
        refine (sum_any _ _ _ _ _ (Hs.out _)).mono ?_
        rintro e w' ⟨rfl, m, rfl⟩
        go_wp2_with fail
        refine (rcanon_any _ _).mono ?_
        rw [Hok.out]
        rintro e w' ⟨rfl, rfl⟩
        go_wp2
        go_ret
        exact ⟨rfl, below_drewN (Below.refl _ _) _⟩

section
variable {H : Type} {enc : TypeId × Value → H} {base : Nat} {spare : Nat → Bool} {held : Bool}
theorem trod_float {P : Program} {w : World} {t : TypeId} {k : FloatKind} {fuel : Nat} {cs : List Value} {x : DataW H × List MemPlace} (ht : P.underlying t = some (.float k)) (h : DataW.trod enc P w base spare held fuel t cs = some x) :
    ∃ n, cs = [.float k n] ∧ x = (.lit (.float k n), []) ∧ (Lit.float k n).wf = true := by
  cases fuel with
  | zero => simp [DataW.trod] at h
  | succ n =>
    unfold DataW.trod at h
    rw [ht] at h
    split at h <;> simp_all
/-- a slice of floats that came in, opened -/
theorem open_floats {w : World} {b0 : Nat} {v : Value} {d : DataW H} {p : List MemPlace} (hv : Value.okWide Try.prog w .any b0 46 v) (h : DataW.Trod enc Try.prog w base spare held 46 v d p) :
    ∃ a len cap fs, v = .slice a len cap ∧ IsFloats w a len cap fs := by
  obtain ⟨a0, len, cap, rfl⟩ := okWide_slice Try.underlying46 hv
  obtain ⟨fuel, hf⟩ := h
  refine ⟨a0, len, cap, ?_⟩
  rcases Go.Deep.open_slice1 Try.underlying46 (by kernel_rfl) hf with ⟨hcs, _⟩ | ⟨x, l, c, m, n, V, D, Pl, hcs, _, hl, hm, hmm, _, hcell⟩
  · simp [Value.cells] at hcs
    obtain ⟨rfl, rfl, rfl⟩ := hcs
    exact ⟨fun _ => 0, rfl, Or.inl rfl, Nat.le_refl _, by omega⟩
  · simp [Value.cells] at hcs
    obtain ⟨rfl, rfl, rfl⟩ := hcs
    have hlm : len ≤ m := by rw [hmm]; split <;> omega
    have hfl : ∀ i, i < len → ∃ z, V i = .float .f64 z := by
      intro i hi
      obtain ⟨h1, h2⟩ := hcell i (by omega)
      obtain ⟨z, hz, -, -⟩ := trod_float Try.underlying27 h2
      simp at hz
      exact ⟨z, hz⟩
    unfold maxLen at hm
    refine ⟨fun i => match V i with | .float _ z => z | _ => 0, rfl, ?_, hl, by omega⟩
    by_cases h0 : len = 0
    · exact Or.inl h0
    · right
      obtain ⟨b, off, spot⟩ := x
      have hspot : spot = none := by simpa [Addr.add] using World.cell?_spot (hcell 0 (by omega)).1
      subst hspot
      refine ⟨b, off, rfl, fun i hi => ?_⟩
      rw [← Go.WideShapes.add_plain, (hcell i (by omega)).1]
      obtain ⟨z, hz⟩ := hfl i hi
      simp [hz]
end
end Go.Proofs.Ytmkgjammkjmooaa
