/- what a value that may be is made of: plain -/
import Derived.Test.YtaonlbmicjoclaaSize
import Derived.Lib.Strings
namespace Go.Proofs.Ytaonlbmicjoclaa
open Go.ChangeShapes Go.WideShapes Go.ChangeAt Go.RowKit Go.Fl

theorem chk_parts {k : Int} {b : Bool} {n : Int} {f : Nat} {s : ByteArray} {l : List T} {d : Nat} (h : chkT (.mk k b n f s l) d = 0) : d ≤ 13 ∧ shpT k b n f s l.length = true ∧ s.size ≤ 500 ∧ l.length ≤ 1000 ∧ chkL l (d + 1) = 0 ∧ (k = 6 → risesB l = true) := by
  rw [chkT] at h
  by_cases h1 : 13 < d
  · rw [if_pos h1] at h; exact absurd h (by decide)
  rw [if_neg h1] at h
  by_cases h2 : shpT k b n f s l.length = false
  · rw [if_pos h2] at h; exact absurd h (by decide)
  rw [if_neg h2] at h
  by_cases h3 : 500 < s.size ∨ 1000 < l.length
  · rw [if_pos h3] at h; exact absurd h (by decide)
  rw [if_neg h3] at h
  unfold lex at h
  by_cases h4 : chkL l (d + 1) = 0
  · rw [if_pos h4] at h
    refine ⟨by omega, by simpa using h2, by omega, by omega, h4, fun h6 => ?_⟩
    by_cases hr : risesB l = false
    · rw [if_pos ⟨h6, hr⟩] at h; exact absurd h (by decide)
    · simpa using hr
  · rw [if_neg h4] at h; exact absurd h h4

theorem chkL_all {l : List T} {d : Nat} (h : chkL l d = 0) : ∀ i (hi : i < l.length), chkT l[i] d = 0 := by
  induction l with
  | nil => intro i hi; exact absurd hi (Nat.not_lt_zero _)
  | cons t r ih =>
    rw [chkL] at h
    unfold lex at h
    by_cases h0 : chkT t d = 0
    · rw [if_pos h0] at h
      intro i hi
      match i with
      | 0 => exact h0
      | i + 1 => simpa using ih h i (by simpa using hi)
    · rw [if_neg h0] at h; exact absurd h h0

theorem shp_parts {k : Int} {b : Bool} {n : Int} {f : Nat} {s : ByteArray} {m : Nat} (h : shpT k b n f s m = true) : 0 ≤ k ∧ k ≤ 8 ∧ (b = true → k = 1) ∧ (n ≠ 0 → k = 2 ∨ k = 7 ∨ k = 8) ∧ (k = 7 ∨ k = 8 → 1 ≤ n) ∧ (f ≠ 0 → k = 3) ∧ (s.toList ≠ [] → k = 4) ∧ (m ≠ 0 → k = 5 ∨ k = 6) := by
  unfold shpT at h; exact of_decide_eq_true h

/-- of a tree that came in: its numbers -/
def NumsT (t : T) : Prop := ∃ w B v, Rd w B t v

theorem NumsT.parts {k : Int} {b : Bool} {n : Int} {f : Nat} {s : ByteArray} {l : List T} (h : NumsT (.mk k b n f s l)) : is64 n = true ∧ f < 18446744073709551616 ∧ ∀ i (hi : i < l.length), NumsT l[i] := by
  obtain ⟨w, B, v, h⟩ := h
  obtain ⟨A, cap, rfl, hk, hn, hf, hs, hc, hm, hA, hl⟩ := h.open
  exact ⟨hn, hf, fun i hi => by obtain ⟨a, u, -, -, -, hu⟩ := hl i hi; exact ⟨w, B, u, hu⟩⟩

theorem chkF_two {t : T} (h : chkF t = 0) : chkT t 1 = 0 := by
  unfold chkF at h
  by_cases h6 : 60000 < tot t
  · rw [if_pos h6] at h; exact absurd h (by decide)
  · rwa [if_neg h6] at h

theorem shp_mk {k : Int} {b : Bool} {n : Int} {f : Nat} {s : ByteArray} {m : Nat} (h : 0 ≤ k ∧ k ≤ 8 ∧ (b = true → k = 1) ∧ (n ≠ 0 → k = 2 ∨ k = 7 ∨ k = 8) ∧ (k = 7 ∨ k = 8 → 1 ≤ n) ∧ (f ≠ 0 → k = 3) ∧ (s.toList ≠ [] → k = 4) ∧ (m ≠ 0 → k = 5 ∨ k = 6)) : shpT k b n f s m = true := by
  unfold shpT; exact decide_eq_true h

theorem chk_mk {k : Int} {b : Bool} {n : Int} {f : Nat} {s : ByteArray} {l : List T} {d : Nat} (hd : d ≤ 13) (hsh : shpT k b n f s l.length = true) (hs : s.size ≤ 500) (hlen : l.length ≤ 1000) (hL : chkL l (d + 1) = 0) (h6 : k = 6 → risesB l = true) : chkT (.mk k b n f s l) d = 0 := by
  rw [chkT, if_neg (by omega), if_neg (by rw [hsh]; decide), if_neg (by omega), hL]
  unfold lex
  rw [if_pos rfl, if_neg]
  rintro ⟨h, hr⟩
  rw [h6 h] at hr
  exact absurd hr (by decide)

theorem empty_list : (⟨#[]⟩ : ByteArray).toList = [] := by rw [Lib.toList_data]

end Go.Proofs.Ytaonlbmicjoclaa
