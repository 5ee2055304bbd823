/- val.Check -/
import Derived.Test.YtigepnhnccfpiaaDoorCmpB
import Derived.Test.YtigepnhnccfpiaaDoorChkS
import Derived.StillTailTactics
namespace Go.Proofs.YtigepnhnccfpiaaDoor
open Go.ChangeShapes Go.WideShapes Go.ChangeAt Go.RowKit Go.Fl

mutual
/-- how many of n bytes are left behind those of a value -/
def lfT : T → Int → Int
  | .mk k _ _ _ s l, n => if k = 5 ∨ k = 6 then lfL l (n - hdT k s) else n - hdT k s
def lfL : List T → Int → Int
  | [], m => m
  | t :: r, m => if m < 0 then m else lfL r (lfT t m)
end

theorem lfT_le (t : T) (ht : ∃ w B v, Rd w B t v) : ∀ n : Int, lfT t n ≤ n ∧ (0 ≤ n → -140737488351235 ≤ lfT t n) := by
  obtain ⟨w, B, v, h⟩ := ht
  induction t using T.ind generalizing v with | h k b n f s l ih => _
  intro n
  obtain ⟨A, cap, rfl, hk, hn, hf, hs, hc, hm, hA, hl⟩ := h.open
  have hh := hdT_le k s hs
  rw [lfT]
  split
  · suffices hs : ∀ (r : List T) (m : Int), (∀ i (hi : i < r.length), ∀ n : Int, lfT r[i] n ≤ n ∧ (0 ≤ n → -140737488351235 ≤ lfT r[i] n)) → lfL r m ≤ m ∧ (-140737488351235 ≤ m → -140737488351235 ≤ lfL r m) by
      have := hs l (n - hdT k s) (fun i hi => by obtain ⟨a, u, -, -, -, hu⟩ := hl i hi; exact ih i hi u hu)
      exact ⟨by omega, fun h0 => this.2 (by omega)⟩
    intro r
    induction r with
    | nil => intro m _; rw [lfL]; exact ⟨Int.le_refl _, id⟩
    | cons t r ihr =>
      intro m hr
      rw [lfL]
      split
      · exact ⟨Int.le_refl _, id⟩
      · have h0 := hr 0 (by simp) m
        have h1 := ihr (lfT t m) (fun i hi => by have := hr (i + 1) (by simpa using hi); simpa using this)
        simp only [List.getElem_cons_zero] at h0
        exact ⟨by omega, fun hm => h1.2 (h0.2 (by omega))⟩
  · omega

theorem lfL_step {l : List T} {i : Nat} (hi : i < l.length) (m : Int) : lfL (l.drop i) m = if m < 0 then m else lfL (l.drop (i + 1)) (lfT l[i] m) := by
  rw [List.drop_eq_getElem_cons hi, lfL]

theorem lfL_end {l : List T} {i : Nat} (hi : l.length ≤ i) (m : Int) : lfL (l.drop i) m = m := by
  rw [List.drop_eq_nil_of_le hi, lfL]

end Go.Proofs.YtigepnhnccfpiaaDoor
