/- sums of floats, whatever is drawn where they are no number -/
import Derived.Test.YtigepnhnccfpiaaDoorInts
namespace Go.Fl
/-- the word of a result that is no number, as the tape has it -/
def nanDrawn (w : World) (x y : Nat) : Nat := (Question.nanBits .f64 x y).cut (w.tape w.drawn (.nanBits .f64 x y))

theorem nanDrawn_nan (w : World) (x y : Nat) : nanDrawn w x y < 18446744073709551616 ∧ nanB (nanDrawn w x y) = true := by
  have h : nanDrawn w x y < 18446744073709551616 ∧ 9218868437227405312 < rung (nanDrawn w x y) := by
    unfold nanDrawn rung Question.cut
    generalize w.tape w.drawn (.nanBits .f64 x y) = t
    simp only
    have e1 : (2 : Nat) ^ 63 = 9223372036854775808 := by decide
    have e2 : (2 : Nat) ^ 52 - 1 = 4503599627370495 := by decide
    rw [e1, e2]
    have h1 : t % 2 < 2 := Nat.mod_lt _ (by decide)
    have h2 : t / 2 % 4503599627370495 < 4503599627370495 := Nat.mod_lt _ (by decide)
    generalize t / 2 % 4503599627370495 = v at *
    have h3 : t % 2 = 0 ∨ t % 2 = 1 := by omega
    rcases h3 with h3 | h3 <;> rw [h3] <;> omega
  exact ⟨h.1, (nan_iff h.1).2 h.2⟩

theorem run_float_add_nan {P : Program} (w : World) (t : TypeId) (x y : Nat) (h : floatBits .add .f64 x y = none) : (binOp .add t (.float .f64 x) (.float .f64 y)).run P w = .ok (.float .f64 (nanDrawn w x y)) w.drew := by
  unfold floatBits at h
  simp only at h
  simp [binOp, Op.floatArith, h]
  rfl

theorem add_nan_l {x y : Nat} (hx : x < 18446744073709551616) (h : nanB x = true) : floatBits .add .f64 x y = none := by
  show Ieee.double.add x y = none
  unfold Ieee.Format.add
  rw [read_nan hx ((nan_iff hx).1 h)]
  rfl

/-- the sum of the first k -/
def sumS (fs : Nat → Nat) : Nat → Option Nat
  | 0 => some 0
  | k + 1 => (sumS fs k).bind fun s => floatBits .add .f64 s (fs k)

/-- a word stands for it: it is just that; or any that is no number -/
def okS (o : Option Nat) (z : Nat) : Prop := match o with
  | some s => z = s
  | none => nanB z = true ∧ z < 18446744073709551616

def canS (o : Option Nat) : Nat := match o with
  | some s => canonN s
  | none => 9221120237041090561

theorem okS_can {o : Option Nat} {z : Nat} (h : okS o z) : canonN z = canS o := by
  cases o with
  | some s => unfold okS at h; subst h; rfl
  | none => unfold canonN canS; rw [h.1]; rfl

/-- one more: either it is known, or it is no number and drawn -/
theorem sum_step {fs : Nat → Nat} {k z : Nat} (h : okS (sumS fs k) z) :
    (∃ r, floatBits .add .f64 z (fs k) = some r ∧ okS (sumS fs (k + 1)) r) ∨ (floatBits .add .f64 z (fs k) = none ∧ sumS fs (k + 1) = none) := by
  rcases ho : sumS fs k with _ | s
  · rw [ho] at h
    refine Or.inr ⟨add_nan_l h.2 h.1, ?_⟩
    show (sumS fs k).bind _ = none
    rw [ho]; rfl
  · rw [ho] at h
    have hz : z = s := h
    subst hz
    have hs : sumS fs (k + 1) = floatBits .add .f64 z (fs k) := by
      show (sumS fs k).bind _ = _
      rw [ho]; rfl
    rcases hf : floatBits .add .f64 z (fs k) with _ | r
    · exact Or.inr ⟨rfl, by rw [hs, hf]⟩
    · exact Or.inl ⟨r, rfl, by rw [hs, hf]; rfl⟩

theorem okS_drawn {o : Option Nat} (w : World) (x y : Nat) (h : o = none) : okS o (nanDrawn w x y) := by
  subst h; exact ⟨(nanDrawn_nan w x y).2, (nanDrawn_nan w x y).1⟩

/-- a slice of floats that came in -/
def IsFloats (w : World) (a : Option Addr) (len cap : Nat) (fs : Nat → Nat) : Prop :=
  (len = 0 ∨ ∃ b off, a = some ⟨b, off, none⟩ ∧ ∀ i, i < len → w.cell? ⟨b, off + i, none⟩ = some (.float .f64 (fs i))) ∧ len ≤ cap ∧ len ≤ 9223372036854775807

end Go.Fl
