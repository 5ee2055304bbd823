/- val.Check -/
import Derived.Test.YtaonlbmicjoclaaCmpB
import Derived.Test.YtaonlbmicjoclaaChkS
import Derived.StillTailTactics
namespace Go.Proofs.Ytaonlbmicjoclaa
open Go.ChangeShapes Go.WideShapes Go.ChangeAt Go.RowKit Go.Fl

mutual
/-- how many of n bytes are left behind those of a value -/
def lfT : T → Int → Int
  | .mk k _ _ _ s l, n => if k = 5 ∨ k = 6 then lfL l (n - hdT k s) else n - hdT k s
def lfL : List T → Int → Int
  | [], m => m
  | t :: r, m => if m < 0 then m else lfL r (lfT t m)
end

theorem lfT_le (t : T) (ht : ∃ w B v, Rd w B t v) : ∀ n : Int, lfT t n ≤ n ∧ (0 ≤ n → -140737488351235 ≤ lfT t n) := by
  obtain ⟨w, B, v, h⟩ := ht
  induction t using T.ind generalizing v with | h k b n f s l ih => _
  intro n
  obtain ⟨A, cap, rfl, hk, hn, hf, hs, hc, hm, hA, hl⟩ := h.open
  have hh := hdT_le k s hs
  rw [lfT]
  split
  · suffices hs : ∀ (r : List T) (m : Int), (∀ i (hi : i < r.length), ∀ n : Int, lfT r[i] n ≤ n ∧ (0 ≤ n → -140737488351235 ≤ lfT r[i] n)) → lfL r m ≤ m ∧ (-140737488351235 ≤ m → -140737488351235 ≤ lfL r m) by
      have := hs l (n - hdT k s) (fun i hi => by obtain ⟨a, u, -, -, -, hu⟩ := hl i hi; exact ih i hi u hu)
      exact ⟨by omega, fun h0 => this.2 (by omega)⟩
    intro r
    induction r with
    | nil => intro m _; rw [lfL]; exact ⟨Int.le_refl _, id⟩
    | cons t r ihr =>
      intro m hr
      rw [lfL]
      split
      · exact ⟨Int.le_refl _, id⟩
      · have h0 := hr 0 (by simp) m
        have h1 := ihr (lfT t m) (fun i hi => by have := hr (i + 1) (by simpa using hi); simpa using this)
        simp only [List.getElem_cons_zero] at h0
        exact ⟨by omega, fun hm => h1.2 (h0.2 (by omega))⟩
  · omega

theorem lfL_step {l : List T} {i : Nat} (hi : i < l.length) (m : Int) : lfL (l.drop i) m = if m < 0 then m else lfL (l.drop (i + 1)) (lfT l[i] m) := by
  rw [List.drop_eq_getElem_cons hi, lfL]

theorem lfL_end {l : List T} {i : Nat} (hi : l.length ≤ i) (m : Int) : lfL (l.drop i) m = m := by
  rw [List.drop_eq_nil_of_le hi, lfL]

theorem left_any (t : T) : ∀ (v : Value) (n : Int) (w : World), Rd w w.heap.size t v → 0 ≤ n → n ≤ 60000 →
    Calls Try.prog 44 #[v, .int .i64 n] w fun e w' => e = .returned (.int .i64 (lfT t n)) ∧ Below w.heap.size w w' := by
  induction t using T.ind with | h k b z f s l ih => _
  intro v n w h h0 h1
  obtain ⟨A, cap, rfl, hk, hn, hf, hs, hc, hm, hA, hl⟩ := h.open
  have hh := hdT_le k s hs
  have Hs := Lib.hid hs; have IH := Lib.hid ih
  clear hk hn hf hs hA ih h
  obtain ⟨hh1, hh2⟩ := hh
  by_cases hk : k = 5 ∨ k = 6
  · have HE := Lib.hid (show lfT (.mk k b z f s l) n = lfL (l.drop 0) (n - hdT k s) by rw [lfT, if_pos hk]; rfl)
    have go : Calls Try.prog 44 #[.agg #[.int .i64 k, .bool b, .int .i64 z, .float .f64 f, .string s, .slice A l.length cap], .int .i64 n] w fun e w' => e = .returned (.int .i64 (lfT (.mk k b z f s l) n)) ∧ Below w.heap.size w w' := by
      have hd : ((k != 5) = false ∧ (k == 5) = true) ∨ ((k != 5) = true ∧ (k == 5) = false ∧ (k != 6) = false ∧ (k == 6) = true) := by
        rcases hk with rfl | rfl <;> simp
      clear hk
      have HH0 : Hid (∀ W, Calls Try.prog 65 #[.agg #[.int .i64 k, .bool b, .int .i64 z, .float .f64 f, .string s, .slice A l.length cap]] W fun e w' => e = .returned (.int .i64 (hdT k s)) ∧ Below W.heap.size W w') := fun W => head_any k z b f s _ W Hs.out
      generalize hdT k s = z0 at *
      rcases hd with ⟨d1, d2⟩ | ⟨d1, d2, d3, d4⟩
      · have HH : Hid (∀ W, Calls Try.prog 65 #[.agg #[.int .i64 k, .bool b, .int .i64 z, .float .f64 f, .string s, .slice A l.length cap]] W fun e w' => e = .returned (.int .i64 z0) ∧ Below W.heap.size W w') := HH0
        go_enter Try.func44, Try.ntmps44
        go_wp2_with fail
        refine (HH.out _).mono ?_
        rintro e w1 ⟨rfl, hb1⟩
        have hb1' : Below (w.heap.size + 1) (w.alloc (.cells #[.int .i64 k, .bool b, .int .i64 z, .float .f64 f, .string s, .slice A l.length cap] 26)) w1 := by simpa using hb1
        clear hb1
        have hcell := hb1'.cell (p := ⟨w.heap.size, 0, none⟩) (by simp)
        have hcell5 := hb1'.cell (p := ⟨w.heap.size, 5, none⟩) (by simp)
        have hbx := bel1 hb1'
        have hsz : w.heap.size + 1 ≤ w1.heap.size := by have := hb1'.size; simpa using this
        go_wp2_with fail
        go_loopw [1, 23] (fun sm si wr => ∃ (i : Nat) (m : Int), i ≤ l.length ∧ m ≤ 60000 ∧ -140737488351235 ≤ m ∧ sm = .int .i64 m ∧ si = .int .i64 i ∧ Hid (lfT (.mk k b z f s l) n = lfL (l.drop i) m) ∧ Below w.heap.size w wr) (fun _ si _ => l.length - (intOf si).toNat)
        case atStart => exact ⟨0, n - z0, by omega, by omega, by omega, rfl, rfl, HE, hbx⟩
        case round =>
          obtain ⟨i, m, hi, hm1, hm2, rfl, rfl, HI, hb⟩ := hrel
          have hz := hb.size
          by_cases hlt : i < l.length
          · obtain ⟨a, k, b, q0, f, s, q, D, capi, rfl, hab, hx, hrd, e0, e1, e2, e3, e4, e5⟩ := (hl.on hb).item hlt
            have Hx := Lib.hid hx; clear hx
            have hle := lfT_le l[i] ⟨_, _, _, hrd⟩ m
            have IHi := Lib.hid (IH.out i hlt)
            have HS := Lib.hid (lfL_step hlt m)
            by_cases hneg : m < 0
            · have dd : decide (m < 0) = true := by simpa using hneg
              have HS' : Hid (lfL (l.drop i) m = m) := by have := HS.out; rw [if_pos hneg] at this; exact this
              clear HS hneg
              go_wp2_with fail
              go_ret
              exact ⟨ret_int (HI.out.trans HS'.out).symm, hb.alloc hz _⟩
            · have dd : decide (m < 0) = false := by simpa using hneg
              have HS' : Hid (lfL (l.drop i) m = lfL (l.drop (i + 1)) (lfT l[i] m)) := by have := HS.out; rw [if_neg hneg] at this; exact this
              clear HS
              have hba := (Below.refl wr.heap.size wr).alloc (Nat.le_refl _) (.cells #[.int .i64 k, .bool b, .int .i64 q0, .float .f64 f, .string s, .slice D q.length capi] 26)
              go_wp2_with fail
              refine (IHi.out _ _ _ (hrd.on hba) (by omega) (by omega)).mono ?_
              rintro e w2 ⟨rfl, hb2⟩
              have hb3 := hb.trans ((hba.trans (hb2.mono hba.size)).mono hz)
              have hl2 := hle.2 (by omega)
              have hl1 := hle.1
              generalize hg : lfT l[i] m = g at *
              have Hg := Lib.hid hg; clear hg hle
              go_wp2_with fail
              go_roundw
              case rel => exact ⟨i + 1, g, by omega, by omega, by omega, rfl, by go_num, HI.out.trans HS'.out, hb3⟩
              case measure => simp [intOf]; omega
          · go_wp2_with fail
            go_ret
            exact ⟨ret_int (by rw [HI.out, lfL_end (by omega)]), hb⟩
      · have HH : Hid (∀ W, Calls Try.prog 65 #[.agg #[.int .i64 k, .bool b, .int .i64 z, .float .f64 f, .string s, .slice A l.length cap]] W fun e w' => e = .returned (.int .i64 z0) ∧ Below W.heap.size W w') := HH0
        go_enter Try.func44, Try.ntmps44
        go_wp2_with fail
        refine (HH.out _).mono ?_
        rintro e w1 ⟨rfl, hb1⟩
        have hb1' : Below (w.heap.size + 1) (w.alloc (.cells #[.int .i64 k, .bool b, .int .i64 z, .float .f64 f, .string s, .slice A l.length cap] 26)) w1 := by simpa using hb1
        clear hb1
        have hcell := hb1'.cell (p := ⟨w.heap.size, 0, none⟩) (by simp)
        have hcell5 := hb1'.cell (p := ⟨w.heap.size, 5, none⟩) (by simp)
        have hbx := bel1 hb1'
        have hsz : w.heap.size + 1 ≤ w1.heap.size := by have := hb1'.size; simpa using this
        go_wp2_with fail
        go_loopw [1, 23] (fun sm si wr => ∃ (i : Nat) (m : Int), i ≤ l.length ∧ m ≤ 60000 ∧ -140737488351235 ≤ m ∧ sm = .int .i64 m ∧ si = .int .i64 i ∧ Hid (lfT (.mk k b z f s l) n = lfL (l.drop i) m) ∧ Below w.heap.size w wr) (fun _ si _ => l.length - (intOf si).toNat)
        case atStart => exact ⟨0, n - z0, by omega, by omega, by omega, rfl, rfl, HE, hbx⟩
        case round =>
          obtain ⟨i, m, hi, hm1, hm2, rfl, rfl, HI, hb⟩ := hrel
          have hz := hb.size
          by_cases hlt : i < l.length
          · obtain ⟨a, k, b, q0, f, s, q, D, capi, rfl, hab, hx, hrd, e0, e1, e2, e3, e4, e5⟩ := (hl.on hb).item hlt
            have Hx := Lib.hid hx; clear hx
            have hle := lfT_le l[i] ⟨_, _, _, hrd⟩ m
            have IHi := Lib.hid (IH.out i hlt)
            have HS := Lib.hid (lfL_step hlt m)
            by_cases hneg : m < 0
            · have dd : decide (m < 0) = true := by simpa using hneg
              have HS' : Hid (lfL (l.drop i) m = m) := by have := HS.out; rw [if_pos hneg] at this; exact this
              clear HS hneg
              go_wp2_with fail
              go_ret
              exact ⟨ret_int (HI.out.trans HS'.out).symm, hb.alloc hz _⟩
            · have dd : decide (m < 0) = false := by simpa using hneg
              have HS' : Hid (lfL (l.drop i) m = lfL (l.drop (i + 1)) (lfT l[i] m)) := by have := HS.out; rw [if_neg hneg] at this; exact this
              clear HS
              have hba := (Below.refl wr.heap.size wr).alloc (Nat.le_refl _) (.cells #[.int .i64 k, .bool b, .int .i64 q0, .float .f64 f, .string s, .slice D q.length capi] 26)
              go_wp2_with fail
              refine (IHi.out _ _ _ (hrd.on hba) (by omega) (by omega)).mono ?_
              rintro e w2 ⟨rfl, hb2⟩
              have hb3 := hb.trans ((hba.trans (hb2.mono hba.size)).mono hz)
              have hl2 := hle.2 (by omega)
              have hl1 := hle.1
              generalize hg : lfT l[i] m = g at *
              have Hg := Lib.hid hg; clear hg hle
              go_wp2_with fail
              go_roundw
              case rel => exact ⟨i + 1, g, by omega, by omega, by omega, rfl, by go_num, HI.out.trans HS'.out, hb3⟩
              case measure => simp [intOf]; omega
          · go_wp2_with fail
            go_ret
            exact ⟨ret_int (by rw [HI.out, lfL_end (by omega)]), hb⟩
    exact go
  · have HE := Lib.hid (show lfT (.mk k b z f s l) n = n - hdT k s by rw [lfT, if_neg hk])
    have d1 : (k != 5) = true := by simp; omega
    have d2 : (k == 5) = false := by simp; omega
    have d3 : (k != 6) = true := by simp; omega
    have d4 : (k == 6) = false := by simp; omega
    clear hk
    have HH : Hid (∀ W, Calls Try.prog 65 #[.agg #[.int .i64 k, .bool b, .int .i64 z, .float .f64 f, .string s, .slice A l.length cap]] W fun e w' => e = .returned (.int .i64 (hdT k s)) ∧ Below W.heap.size W w') := fun W => head_any k z b f s _ W Hs.out
    generalize hdT k s = z0 at *
    go_enter Try.func44, Try.ntmps44
    go_wp2_with fail
    refine (HH.out _).mono ?_
    rintro e w1 ⟨rfl, hb1⟩
    have hcell := hb1.cell (p := ⟨w.heap.size, 0, none⟩) (by simp)
    have hbx := bel1 (o := .cells #[.int .i64 k, .bool b, .int .i64 z, .float .f64 f, .string s, .slice A l.length cap] 26) (by simpa using hb1)
    go_wp2_with fail
    go_ret
    exact ⟨ret_int HE.out.symm, hbx⟩

end Go.Proofs.Ytaonlbmicjoclaa
