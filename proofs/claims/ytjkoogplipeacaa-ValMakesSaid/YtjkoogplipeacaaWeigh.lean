/- the laws' weigh -/
import Derived.Test.YtjkoogplipeacaaVal
namespace Go.Proofs.Ytjkoogplipeacaa
open Go.ChangeShapes Go.WideShapes Go.ChangeAt Go.RowKit

mutual
/-- how many values stand in one, counted up to so many -/
def wgh : T → Int → Int
  | .mk _ _ _ _ _ l, most => wghL l 1 most
def wghL : List T → Int → Int → Int
  | [], n, _ => n
  | t :: r, n, most => if n ≤ most then wghL r (n + wgh t (most - n)) most else n
end

theorem wgh_le (t : T) : ∀ most : Int, 0 ≤ most → 1 ≤ wgh t most ∧ wgh t most ≤ most + 1 := by
  refine T.ind (p := fun t => ∀ most : Int, 0 ≤ most → 1 ≤ wgh t most ∧ wgh t most ≤ most + 1) ?_ t
  intro k b n f s l ih most hm
  suffices hs : ∀ (r : List T) (n : Int), (∀ i (hi : i < r.length), ∀ most : Int, 0 ≤ most → 1 ≤ wgh r[i] most ∧ wgh r[i] most ≤ most + 1) → 1 ≤ n → n ≤ most + 1 → 1 ≤ wghL r n most ∧ wghL r n most ≤ most + 1 by
    rw [wgh]; exact hs l 1 ih (by omega) (by omega)
  intro r
  induction r with
  | nil => intro n _ h1 h2; rw [wghL]; exact ⟨h1, h2⟩
  | cons t r ihr =>
    intro n h h1 h2
    rw [wghL]
    split
    · have h0 := h 0 (by simp) (most - n) (by omega)
      simp only [List.getElem_cons_zero] at h0
      exact ihr _ (fun i hi => by have := h (i + 1) (by simpa using hi); simpa using this) (by omega) (by omega)
    · exact ⟨h1, h2⟩

theorem wghL_step {l : List T} {i : Nat} (hi : i < l.length) (n most : Int) : wghL (l.drop i) n most = if n ≤ most then wghL (l.drop (i + 1)) (n + wgh l[i] (most - n)) most else n := by
  rw [List.drop_eq_getElem_cons hi, wghL]

theorem wghL_end {l : List T} {i : Nat} (hi : l.length ≤ i) (n most : Int) : wghL (l.drop i) n most = n := by
  rw [List.drop_eq_nil_of_le hi, wghL]

theorem wghL_over {l : List T} {i : Nat} {n most : Int} (h : ¬ n ≤ most) : wghL (l.drop i) n most = n := by
  rcases hl : l.drop i with _ | ⟨t, r⟩
  · rw [wghL]
  · rw [wghL, if_neg h]

theorem weigh_any (t : T) : ∀ (v : Value) (most : Int) (w : World), Rd w w.heap.size t v → 0 ≤ most → most ≤ 3000 →
    Calls Try.prog 11 #[v, .int .i64 most] w fun e w' => e = .returned (.int .i64 (wgh t most)) ∧ Below w.heap.size w w' := by
  induction t using T.ind with | h k b n f s l ih => _
  intro v most w hr h0 h1
  obtain ⟨A, cap, rfl, hk, hn, hf, hs, hc, hm, hA, hl⟩ := hr.open
  have HW := Lib.hid (show wgh (.mk k b n f s l) most = wghL (l.drop 0) 1 most by rw [wgh]; rfl)
  have Hk := Lib.hid hk; have Hn := Lib.hid hn; have HA := Lib.hid hA
  clear hk hn hA hr
  have IH := Lib.hid ih; clear ih
  go_enter Try.func11, Try.ntmps11
  go_wp2_with fail
  go_loopw [5, 6] (fun sn si wr => ∃ (i : Nat) (m : Int), i ≤ l.length ∧ 1 ≤ m ∧ m ≤ most + 1 ∧ sn = .int .i64 m ∧ si = .int .i64 i ∧ Hid (wgh (.mk k b n f s l) most = wghL (l.drop i) m most) ∧
      Below (w.heap.size + 1) (w.alloc (.cells #[.int .i64 k, .bool b, .int .i64 n, .float .f64 f, .string s, .slice A l.length cap] 25)) wr) (fun _ si _ => l.length - (intOf si).toNat)
  case atStart => exact ⟨0, 1, by omega, by omega, by omega, rfl, rfl, HW, Below.refl _ _⟩
  case round =>
    obtain ⟨i, m, hi, hm1, hm2, rfl, rfl, HE, hb⟩ := hrel
    have hcell := hb.cell (p := ⟨w.heap.size, 5, none⟩) (by simp)
    have hb0 := bel1 hb
    have hsz := hb.size
    have hsz' : w.heap.size < wr.heap.size := by have := hb.size; simp at this; omega
    clear hsz
    by_cases hlt : i < l.length
    · obtain ⟨a, c0, c1, c2, c3, c4, c5, rfl, hab, hrd, e0, e1, e2, e3, e4, e5⟩ := (hl.on hb0).at_ hlt
      have ih := Lib.hid (IH.out i hlt)
      by_cases hmm : m ≤ most
      · go_wp2_with fail
        refine (ih.out _ _ _ hrd (by omega) (by omega)).mono ?_
        rintro e w' ⟨rfl, hb'⟩
        have hg := wgh_le l[i] (most - m) (by omega)
        have HS : Hid (wghL (l.drop i) m most = wghL (l.drop (i + 1)) (m + wgh l[i] (most - m)) most) := by rw [wghL_step hlt, if_pos hmm]; rfl
        generalize hgg : wgh l[i] (most - m) = g at *
        clear hgg
        obtain ⟨g1, g2⟩ := hg
        go_wp2
        go_roundw
        case rel => exact ⟨i + 1, m + g, by omega, by omega, by omega, rfl, by go_num, HE.out.trans HS.out, hb.trans (hb'.mono hsz')⟩
        case measure => simp [intOf]; omega
      · have hd : decide (m ≤ most) = false := by simpa using hmm
        go_wp2_with fail
        go_ret
        exact ⟨ret_int (by rw [HE.out, wghL_over (by omega)]), hb0⟩
    · go_wp2_with fail
      go_ret
      exact ⟨ret_int (by rw [HE.out, wghL_end (by omega)]), hb0⟩

end Go.Proofs.Ytjkoogplipeacaa
