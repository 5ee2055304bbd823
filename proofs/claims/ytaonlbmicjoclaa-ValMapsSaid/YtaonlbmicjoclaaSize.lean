/- sizes; val.Check; the reference's size -/
import Derived.Test.YtaonlbmicjoclaaChk
namespace Go.Proofs.Ytaonlbmicjoclaa
open Go.ChangeShapes Go.WideShapes Go.ChangeAt Go.RowKit Go.Fl

mutual
/-- how many bytes a value has -/
def tot : T → Int
  | .mk k _ _ _ s l => hdT k s + if k = 5 ∨ k = 6 then totL l else 0
def totL : List T → Int
  | [] => 0
  | t :: r => tot t + totL r
end

theorem hdT_pos (k : Int) (s : ByteArray) : 1 ≤ hdT k s := by
  unfold hdT; split
  · omega
  · split
    · omega
    · split
      · omega
      · split <;> omega

theorem totL_pos (l : List T) (ih : ∀ i (hi : i < l.length), 1 ≤ tot l[i]) : 0 ≤ totL l := by
  induction l with
  | nil => rw [totL]; omega
  | cons t r ihr =>
    have h0 := ih 0 (by simp)
    have h1 := ihr fun i hi => by have := ih (i + 1) (by simpa using hi); simpa using this
    simp only [List.getElem_cons_zero] at h0
    rw [totL]; omega

theorem tot_pos (t : T) : 1 ≤ tot t := by
  induction t using T.ind with | h k b n f s l ih => _
  have h1 := hdT_pos k s
  have h2 := totL_pos l ih
  rw [tot]; split <;> omega

theorem lfT_tot (t : T) : ∀ n : Int, (0 ≤ lfT t n → lfT t n = n - tot t) ∧ (lfT t n < 0 → n < tot t) := by
  induction t using T.ind with | h k b z f s l ih => _
  intro n
  rw [lfT, tot]
  split
  · suffices hs : ∀ (r : List T) (m : Int), (∀ i (hi : i < r.length), ∀ n : Int, (0 ≤ lfT r[i] n → lfT r[i] n = n - tot r[i]) ∧ (lfT r[i] n < 0 → n < tot r[i])) → (0 ≤ lfL r m → lfL r m = m - totL r) ∧ (lfL r m < 0 → m < totL r) by
      have := hs l (n - hdT k s) ih
      omega
    intro r
    induction r with
    | nil => intro m _; rw [lfL, totL]; omega
    | cons t r ihr =>
      intro m hr
      have hp := tot_pos t
      have hq := totL_pos r fun i _ => tot_pos _
      rw [lfL, totL]
      split
      · omega
      · have h0 := hr 0 (by simp) m
        have h1 := ihr (lfT t m) (fun i hi => by have := hr (i + 1) (by simpa using hi); simpa using this)
        simp only [List.getElem_cons_zero] at h0
        omega
  · omega

mutual
/-- a value's bytes, counted up to so many -/
def sizT : T → Int → Int
  | .mk k _ _ _ s l, most => if k = 5 ∨ k = 6 then sizL l 3 most else hdT k s
def sizL : List T → Int → Int → Int
  | [], n, _ => n
  | t :: r, n, most => if n ≤ most then sizL r (n + sizT t (most - n)) most else n
end

theorem sizT_tot (t : T) : ∀ most : Int, (sizT t most ≤ most → sizT t most = tot t) ∧ (most < sizT t most → most < tot t) := by
  induction t using T.ind with | h k b z f s l ih => _
  intro most
  rw [sizT, tot]
  by_cases h56 : k = 5 ∨ k = 6
  · rw [if_pos h56, if_pos h56]
    have h3 : hdT k s = 3 := by unfold hdT; rcases h56 with rfl | rfl <;> simp
    suffices hs : ∀ (r : List T) (n : Int), (∀ i (hi : i < r.length), ∀ n : Int, (sizT r[i] n ≤ n → sizT r[i] n = tot r[i]) ∧ (n < sizT r[i] n → n < tot r[i])) → (sizL r n most ≤ most → sizL r n most = n + totL r) ∧ (most < sizL r n most → most < n + totL r) by
      have := hs l 3 ih
      omega
    intro r
    induction r with
    | nil => intro n _; rw [sizL, totL]; omega
    | cons t r ihr =>
      intro n hr
      have hp := tot_pos t
      have hq := totL_pos r fun i _ => tot_pos _
      rw [sizL, totL]
      split
      · have h0 := hr 0 (by simp) (most - n)
        have h1 := ihr (n + sizT t (most - n)) (fun i hi => by have := hr (i + 1) (by simpa using hi); simpa using this)
        simp only [List.getElem_cons_zero] at h0
        by_cases hc : sizT t (most - n) ≤ most - n
        · have := h0.1 hc; omega
        · have h2 := h0.2 (by omega)
          have h3 : most < n + sizT t (most - n) := by omega
          have h4 : sizL r (n + sizT t (most - n)) most = n + sizT t (most - n) := by
            cases r with
            | nil => rw [sizL]
            | cons u r => rw [sizL, if_neg (by omega)]
          omega
      · omega
  · rw [if_neg h56, if_neg h56]; omega

theorem sizL_step {l : List T} {i : Nat} (hi : i < l.length) (n most : Int) : sizL (l.drop i) n most = if n ≤ most then sizL (l.drop (i + 1)) (n + sizT l[i] (most - n)) most else n := by
  rw [List.drop_eq_getElem_cons hi, sizL]

theorem sizL_end {l : List T} {i : Nat} (hi : l.length ≤ i) (n most : Int) : sizL (l.drop i) n most = n := by
  rw [List.drop_eq_nil_of_le hi, sizL]

theorem sizT_le (t : T) (ht : ∃ w B v, Rd w B t v) : ∀ most : Int, 0 ≤ most → 1 ≤ sizT t most ∧ sizT t most ≤ most + 140737488351235 := by
  obtain ⟨w, B, v, h⟩ := ht
  induction t using T.ind generalizing v with | h k b n f s l ih => _
  intro most h0
  obtain ⟨A, cap, rfl, hk, hn, hf, hs, hc, hm, hA, hl⟩ := h.open
  have hh := hdT_le k s hs
  rw [sizT]
  split
  · suffices hs : ∀ (r : List T) (n : Int), (∀ i (hi : i < r.length), ∀ m : Int, 0 ≤ m → 1 ≤ sizT r[i] m ∧ sizT r[i] m ≤ m + 140737488351235) → 1 ≤ n → n ≤ most + 140737488351235 → 1 ≤ sizL r n most ∧ sizL r n most ≤ most + 140737488351235 from
      hs l 3 (fun i hi => by obtain ⟨a, u, -, -, -, hu⟩ := hl i hi; exact ih i hi u hu) (by omega) (by omega)
    intro r
    induction r with
    | nil => intro n _ h1 h2; rw [sizL]; exact ⟨h1, h2⟩
    | cons t r ihr =>
      intro n hr h1 h2
      rw [sizL]
      split
      · have h0 := hr 0 (by simp) (most - n) (by omega)
        simp only [List.getElem_cons_zero] at h0
        exact ihr _ (fun i hi => by have := hr (i + 1) (by simpa using hi); simpa using this) (by omega) (by omega)
      · exact ⟨h1, h2⟩
  · omega

/-- what Check answers -/
def chkF (t : T) : Int := if 60000 < tot t then 3 else chkT t 1

theorem vcheck_any {t : T} {v : Value} {w : World} (h : Rd w w.heap.size t v) :
    Calls Try.prog 26 #[v] w fun e w' => e = .returned (.int .i64 (chkF t)) ∧ Below w.heap.size w w' := by
  have ht := lfT_tot t 60000
  have HL := fun W (hW : Rd W W.heap.size t v) => left_any t v 60000 W hW (by decide) (by decide)
  have HC := fun W (hW : Rd W W.heap.size t v) => check_any t v 1 W hW (by decide)
  have HL := Lib.hid HL; have HC := Lib.hid HC
  have H := Lib.hid h
  obtain ⟨k, b, z, f, s, l⟩ := t
  obtain ⟨A, cap, rfl, -⟩ := h.open
  have hbox := (Below.refl w.heap.size w).alloc (Nat.le_refl _) (.cells #[.int .i64 k, .bool b, .int .i64 z, .float .f64 f, .string s, .slice A l.length cap] 26)
  clear h
  generalize T.mk k b z f s l = t at *
  by_cases hc : 60000 < tot t
  · have HE := Lib.hid (show chkF t = 3 by unfold chkF; rw [if_pos hc])
    have hn : lfT t 60000 < 0 := by omega
    clear ht hc
    generalize lfT t 60000 = q at *
    go_enter Try.func26, Try.ntmps26
    go_wp2_with fail
    refine (HL.out _ (H.out.on hbox)).mono ?_
    rintro e w1 ⟨rfl, hb1⟩
    go_wp2_with fail
    go_ret
    exact ⟨ret_int HE.out.symm, hbox.trans (hb1.mono hbox.size)⟩
  · have HE := Lib.hid (show chkF t = chkT t 1 by unfold chkF; rw [if_neg hc])
    have hn : ¬ lfT t 60000 < 0 := by omega
    clear ht hc
    generalize lfT t 60000 = q at *
    go_enter Try.func26, Try.ntmps26
    go_wp2_with fail
    refine (HL.out _ (H.out.on hbox)).mono ?_
    rintro e w1 ⟨rfl, hb1⟩
    have hb2 := hbox.trans (hb1.mono hbox.size)
    have hb1' : Below (w.heap.size + 1) (w.alloc (.cells #[.int .i64 k, .bool b, .int .i64 z, .float .f64 f, .string s, .slice A l.length cap] 26)) w1 := by simpa using hb1
    have hc0 := hb1'.cell (p := ⟨w.heap.size, 0, none⟩) (by simp)
    have hc1 := hb1'.cell (p := ⟨w.heap.size, 1, none⟩) (by simp)
    have hc2 := hb1'.cell (p := ⟨w.heap.size, 2, none⟩) (by simp)
    have hc3 := hb1'.cell (p := ⟨w.heap.size, 3, none⟩) (by simp)
    have hc4 := hb1'.cell (p := ⟨w.heap.size, 4, none⟩) (by simp)
    have hc5 := hb1'.cell (p := ⟨w.heap.size, 5, none⟩) (by simp)
    clear hb1 hb1'
    go_wp2_with fail
    refine (HC.out _ (H.out.on hb2)).mono ?_
    rintro e w2 ⟨rfl, hb3⟩
    go_wp2_with fail
    go_ret
    exact ⟨ret_int HE.out.symm, hb2.trans (hb3.mono hb2.size)⟩

end Go.Proofs.Ytaonlbmicjoclaa
