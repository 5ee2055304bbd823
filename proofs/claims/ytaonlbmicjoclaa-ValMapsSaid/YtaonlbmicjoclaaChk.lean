/- val.check, val.Check -/
import Derived.Test.YtaonlbmicjoclaaRis
import Derived.Test.YtaonlbmicjoclaaChkL
namespace Go.Proofs.Ytaonlbmicjoclaa
open Go.ChangeShapes Go.WideShapes Go.ChangeAt Go.RowKit Go.Fl

mutual
/-- why a value that stands so deep may not be -/
def chkT : T → Nat → Int
  | .mk k b n f s l, d => if 13 < d then 3 else if shpT k b n f s l.length = false then 6 else if 500 < s.size ∨ 1000 < l.length then 3 else lex (chkL l (d + 1)) (if k = 6 ∧ risesB l = false then 6 else 0)
def chkL : List T → Nat → Int
  | [], _ => 0
  | t :: r, d => lex (chkT t d) (chkL r d)
end

theorem chkL_step {l : List T} {i : Nat} (hi : i < l.length) (d : Nat) : chkL (l.drop i) d = lex (chkT l[i] d) (chkL (l.drop (i + 1)) d) := by
  rw [List.drop_eq_getElem_cons hi, chkL]

theorem chkL_end {l : List T} {i : Nat} (hi : l.length ≤ i) (d : Nat) : chkL (l.drop i) d = 0 := by
  rw [List.drop_eq_nil_of_le hi, chkL]

theorem check_any (t : T) : ∀ (v : Value) (d : Nat) (w : World), Rd w w.heap.size t v → d ≤ 14 →
    Calls Try.prog 45 #[v, .int .i64 d] w fun e w' => e = .returned (.int .i64 (chkT t d)) ∧ Below w.heap.size w w' := by
  induction t using T.ind with | h k b z f s l ih => _
  intro v d w h hd
  obtain ⟨A, cap, rfl, hk, hn, hf, hs, hc, hm, hA, hl⟩ := h.open
  have IH := Lib.hid ih
  have hm2 := hm.2
  clear hk hn hf hA ih h hm hc
  have hbox := (Below.refl w.heap.size w).alloc (Nat.le_refl _) (.cells #[.int .i64 k, .bool b, .int .i64 z, .float .f64 f, .string s, .slice A l.length cap] 26)
  by_cases h13 : 13 < d
  · have HE := Lib.hid (show chkT (.mk k b z f s l) d = 3 by rw [chkT, if_pos h13])
    have hd' : decide ((13 : Int) < (d : Int)) = true := by simp; omega
    clear h13 hd
    go_enter Try.func45, Try.ntmps45
    go_wp2_with fail
    go_ret
    exact ⟨ret_int HE.out.symm, hbox⟩
  have hd' : decide ((13 : Int) < (d : Int)) = false := by simp; omega
  rcases hsh : shpT k b z f s l.length with _ | _
  · have HE := Lib.hid (show chkT (.mk k b z f s l) d = 6 by rw [chkT, if_neg h13, if_pos hsh])
    have Hsh := Lib.hid hsh
    clear h13 hsh
    go_enter Try.func45, Try.ntmps45
    go_wp2_with fail
    refine (shaped_any _ _ _ _ _ _ _ _ _).mono ?_
    rw [Hsh.out]
    rintro e w1 ⟨rfl, hb1⟩
    go_wp2_with fail
    go_ret
    exact ⟨ret_int HE.out.symm, hbox.trans (hb1.mono hbox.size)⟩
  have Hsh := Lib.hid hsh
  by_cases hlong : 500 < s.size ∨ 1000 < l.length
  · have HE := Lib.hid (show chkT (.mk k b z f s l) d = 3 by rw [chkT, if_neg h13, if_neg (by rw [hsh]; decide), if_pos hlong])
    clear h13 hsh
    by_cases h5 : 500 < s.size
    all_goals
      go_enter Try.func45, Try.ntmps45
      go_wp2_with fail
      refine (shaped_any _ _ _ _ _ _ _ _ _).mono ?_
      rw [Hsh.out]
      rintro e w1 ⟨rfl, hb1⟩
      have hb1' : Below (w.heap.size + 1) (w.alloc (.cells #[.int .i64 k, .bool b, .int .i64 z, .float .f64 f, .string s, .slice A l.length cap] 26)) w1 := by simpa using hb1
      have hcell4 := hb1'.cell (p := ⟨w.heap.size, 4, none⟩) (by simp)
      have hcell5 := hb1'.cell (p := ⟨w.heap.size, 5, none⟩) (by simp)
      clear hb1'
      go_wp2_with fail
      go_ret
      exact ⟨ret_int HE.out.symm, hbox.trans (hb1.mono hbox.size)⟩
  have HE := Lib.hid (show chkT (.mk k b z f s l) d = lex (chkL (l.drop 0) (d + 1)) (if k = 6 ∧ risesB l = false then 6 else 0) by rw [chkT, if_neg h13, if_neg (by rw [hsh]; decide), if_neg hlong]; rfl)
  have h5 : ¬ 500 < s.size := fun h => hlong (.inl h)
  have h6 : ¬ 1000 < l.length := fun h => hlong (.inr h)
  clear hsh hlong
  go_enter Try.func45, Try.ntmps45
  go_wp2_with fail
  refine (shaped_any _ _ _ _ _ _ _ _ _).mono ?_
  rw [Hsh.out]
  rintro e w1 ⟨rfl, hb1⟩
  have hb1' : Below (w.heap.size + 1) (w.alloc (.cells #[.int .i64 k, .bool b, .int .i64 z, .float .f64 f, .string s, .slice A l.length cap] 26)) w1 := by simpa using hb1
  clear hb1
  have hcell4 := hb1'.cell (p := ⟨w.heap.size, 4, none⟩) (by simp)
  have hcell5 := hb1'.cell (p := ⟨w.heap.size, 5, none⟩) (by simp)
  go_wp2_with fail
  clear hcell4 hcell5
  go_loopw [29] (fun si wr => ∃ i : Nat, i ≤ l.length ∧ si = .int .i64 i ∧ Hid (chkL (l.drop 0) (d + 1) = chkL (l.drop i) (d + 1)) ∧
    Below (w.heap.size + 1) (w.alloc (.cells #[.int .i64 k, .bool b, .int .i64 z, .float .f64 f, .string s, .slice A l.length cap] 26)) wr) (fun si _ => l.length - (intOf si).toNat)
  case atStart => exact ⟨0, by omega, rfl, rfl, hb1'⟩
  case round =>
    obtain ⟨i, hi, rfl, HI, hbr⟩ := hrel
    have hb := bel1 hbr
    have hz1 : w.heap.size + 1 ≤ wr.heap.size := by have := hbr.size; simpa using this
    by_cases hlt : i < l.length
    · obtain ⟨a, k', b', q0, f', s', q, D, capi, rfl, hab, hx, hrd, e0, e1, e2, e3, e4, e5⟩ := (hl.on hb).item hlt
      have Hx := Lib.hid hx; clear hx
      have IHi := Lib.hid (IH.out i hlt)
      have HS := Lib.hid (chkL_step hlt (d + 1))
      have hba := (Below.refl wr.heap.size wr).alloc (Nat.le_refl _) (.cells #[.int .i64 k', .bool b', .int .i64 q0, .float .f64 f', .string s', .slice D q.length capi] 26)
      have hdd : ((d : Int) + 1) = ((d + 1 : Nat) : Int) := by omega
      have Hdd := Lib.hid hdd; clear hdd
      go_wp2_with fail
      rw [Hdd.out]
      refine (IHi.out _ (d + 1) _ (hrd.on hba) (by omega)).mono ?_
      rintro e w2 ⟨rfl, hb2⟩
      have hb3 := hbr.trans ((hba.trans (hb2.mono hba.size)).mono hz1)
      by_cases hc0 : chkT l[i] (d + 1) = 0
      · have HS' : Hid (chkL (l.drop 0) (d + 1) = chkL (l.drop (i + 1)) (d + 1)) := by
          have := HS.out; unfold lex at this; rw [if_pos hc0] at this; exact HI.out.trans this
        go_wp2_with fail
        go_roundw
        case rel => exact ⟨i + 1, by omega, by go_num, HS', hb3⟩
        case measure => simp [intOf]; omega
      · have d1 : (chkT l[i] (d + 1) != 0) = true := by simpa using hc0
        have d2 : (chkT l[i] (d + 1) == 0) = false := by simpa using hc0
        have HS' : Hid (chkT (.mk k b z f s l) d = chkT l[i] (d + 1)) := by
          have h1 := HS.out; unfold lex at h1; rw [if_neg hc0] at h1
          have h2 := HE.out; rw [HI.out, h1] at h2; unfold lex at h2; rw [if_neg hc0] at h2; exact h2
        clear hc0
        go_wp2_with fail
        go_ret
        exact ⟨ret_int HS'.out.symm, bel1 hb3⟩
    · have h0 : chkL (l.drop 0) (d + 1) = 0 := by rw [HI.out, chkL_end (by omega)]
      have HE2 : Hid (chkT (.mk k b z f s l) d = if k = 6 ∧ risesB l = false then 6 else 0) := by
        have := HE.out; unfold lex at this; rw [if_pos h0] at this; exact this
      clear h0
      have hcell0 := hbr.cell (p := ⟨w.heap.size, 0, none⟩) (by simp)
      have hcell5 := hbr.cell (p := ⟨w.heap.size, 5, none⟩) (by simp)
      by_cases k6 : k = 6
      · have d6 : (k == 6) = true := by simpa using k6
        rcases hr : risesB l with _ | _
        · have HE3 : Hid (chkT (.mk k b z f s l) d = 6) := by have := HE2.out; rw [if_pos ⟨k6, hr⟩] at this; exact this
          have Hr := Lib.hid hr
          clear k6 hr
          go_wp2_with fail
          refine (rises_any l A cap _ (hl.on hb) hm2).mono ?_
          rw [Hr.out]
          rintro e w2 ⟨rfl, hb2⟩
          go_wp2_with fail
          go_ret
          exact ⟨ret_int HE3.out.symm, hb.trans (hb2.mono hb.size)⟩
        · have HE3 : Hid (chkT (.mk k b z f s l) d = 0) := by have := HE2.out; rw [if_neg (by rw [hr]; simp)] at this; exact this
          have Hr := Lib.hid hr
          clear k6 hr
          go_wp2_with fail
          refine (rises_any l A cap _ (hl.on hb) hm2).mono ?_
          rw [Hr.out]
          rintro e w2 ⟨rfl, hb2⟩
          go_wp2_with fail
          go_ret
          exact ⟨ret_int HE3.out.symm, hb.trans (hb2.mono hb.size)⟩
      · have d6 : (k == 6) = false := by simpa using k6
        have HE3 : Hid (chkT (.mk k b z f s l) d = 0) := by have := HE2.out; rw [if_neg (by simp [k6])] at this; exact this
        clear k6
        go_wp2_with fail
        go_ret
        exact ⟨ret_int HE3.out.symm, hb⟩

end Go.Proofs.Ytaonlbmicjoclaa
