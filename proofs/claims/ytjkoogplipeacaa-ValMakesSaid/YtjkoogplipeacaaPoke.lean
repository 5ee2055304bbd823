/- the laws' poked -/
import Derived.Test.YtjkoogplipeacaaVal
namespace Go.Proofs.Ytjkoogplipeacaa
open Go.ChangeShapes Go.WideShapes Go.ChangeAt Go.RowKit

mutual
/-- how many parts stand in a value, on so many levels -/
def pkT : T → Int → Int
  | .mk _ _ _ _ _ l, lv => pkL l 0 lv
def pkL : List T → Int → Int → Int
  | [], n, _ => n
  | t :: r, n, lv => if 0 < lv then pkL r (wrap64 (n + wrap64 (1 + pkT t (lv - 1)))) lv else n
end

theorem pkL_step {l : List T} {i : Nat} (hi : i < l.length) (n lv : Int) : pkL (l.drop i) n lv = if 0 < lv then pkL (l.drop (i + 1)) (wrap64 (n + wrap64 (1 + pkT l[i] (lv - 1)))) lv else n := by
  rw [List.drop_eq_getElem_cons hi, pkL]

theorem pkL_end {l : List T} {i : Nat} (hi : l.length ≤ i) (n lv : Int) : pkL (l.drop i) n lv = n := by
  rw [List.drop_eq_nil_of_le hi, pkL]

theorem pkL_over {l : List T} {i : Nat} {n lv : Int} (h : ¬ 0 < lv) : pkL (l.drop i) n lv = n := by
  rcases hl : l.drop i with _ | ⟨t, r⟩
  · rw [pkL]
  · rw [pkL, if_neg h]

theorem poked_any (t : T) : ∀ (v : Value) (lv : Int) (w : World), Rd w w.heap.size t v → 0 ≤ lv → lv ≤ 9 →
    Calls Try.prog 39 #[v, .int .i64 lv] w fun e w' => e = .returned (.int .i64 (pkT t lv)) ∧ Below w.heap.size w w' := by
  induction t using T.ind with | h k b n f s l ih => _
  intro v lv w hr h0 h1
  obtain ⟨A, cap, rfl, hk, hn, hf, hs, hc, hm, hA, hl⟩ := hr.open
  have HW := Lib.hid (show pkT (.mk k b n f s l) lv = pkL (l.drop 0) 0 lv by rw [pkT]; rfl)
  have Hk := Lib.hid hk; have Hn := Lib.hid hn; have HA := Lib.hid hA
  clear hk hn hA hr
  have IH := Lib.hid ih; clear ih
  go_enter Try.func39, Try.ntmps39
  go_wp2_with fail
  go_loopw [5, 6] (fun sn si wr => ∃ (i : Nat) (m : Int), i ≤ l.length ∧ sn = .int .i64 m ∧ si = .int .i64 i ∧ Hid (pkT (.mk k b n f s l) lv = pkL (l.drop i) m lv) ∧
      Below (w.heap.size + 1) (w.alloc (.cells #[.int .i64 k, .bool b, .int .i64 n, .float .f64 f, .string s, .slice A l.length cap] 25)) wr) (fun _ si _ => l.length - (intOf si).toNat)
  case atStart => exact ⟨0, 0, by omega, rfl, rfl, HW, Below.refl _ _⟩
  case round =>
    obtain ⟨i, m, hi, rfl, rfl, HE, hb⟩ := hrel
    have hcell := hb.cell (p := ⟨w.heap.size, 5, none⟩) (by simp)
    have hb0 := bel1 hb
    have hsz := hb.size
    have hsz' : w.heap.size < wr.heap.size := by have := hb.size; simp at this; omega
    clear hsz
    by_cases hlt : i < l.length
    · obtain ⟨a, c0, c1, c2, c3, c4, c5, rfl, hab, hrd, e0, e1, e2, e3, e4, e5⟩ := (hl.on hb0).at_ hlt
      have ih := Lib.hid (IH.out i hlt)
      by_cases hmm : 0 < lv
      · go_wp2_with fail
        refine (ih.out _ _ _ hrd (by omega) (by omega)).mono ?_
        rintro e w' ⟨rfl, hb'⟩
        have HS : Hid (pkL (l.drop i) m lv = pkL (l.drop (i + 1)) (wrap64 (m + wrap64 (1 + pkT l[i] (lv - 1)))) lv) := by rw [pkL_step hlt, if_pos hmm]; rfl
        generalize hgg : pkT l[i] (lv - 1) = g at *
        clear hgg
        go_wp2
        go_roundw
        case rel => exact ⟨i + 1, wrap64 (m + wrap64 (1 + g)), by omega, rfl, by go_num, HE.out.trans HS.out, hb.trans (hb'.mono hsz')⟩
        case measure => simp [intOf]; omega
      · have hd : decide (0 < lv) = false := by simpa using hmm
        go_wp2_with fail
        go_ret
        exact ⟨ret_int (by rw [HE.out, pkL_over (by omega)]), hb0⟩
    · go_wp2_with fail
      go_ret
      exact ⟨ret_int (by rw [HE.out, pkL_end (by omega)]), hb0⟩

end Go.Proofs.Ytjkoogplipeacaa
