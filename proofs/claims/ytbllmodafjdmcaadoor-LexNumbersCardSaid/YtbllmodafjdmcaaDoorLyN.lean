/- the walk of LexNumbers -/
import Derived.Test.YtbllmodafjdmcaaDoorLyR
import Derived.Test.YtbllmodafjdmcaaDoorRefB
namespace Go.Proofs.YtbllmodafjdmcaaDoor
open Go.ChangeShapes Go.WideShapes Go.ChangeAt Go.RowKit Go.Fl
open Go.Shelf

theorem hexU_fin : ∀ i : Fin 16, hexU (hexC i.val) = some i.val := by decide +kernel

theorem hexGo_snoc : ∀ (l : List UInt8) (a b d : Nat) (c : UInt8), hexGo l a = some b → hexU c = some d → hexGo (l ++ [c]) a = some (b * 16 + d)
  | [], a, b, d, c, h, hc => by
    injection h with h; subst h
    show hexGo [c] a = _
    rw [hexGo_let hc]; rfl
  | e :: r, a, b, d, c, h, hc => by
    rw [List.cons_append]
    cases he : hexU e with
    | none => rw [hexGo_bad he] at h; cases h
    | some x =>
      rw [hexGo_let he] at h ⊢
      exact hexGo_snoc r _ b d c h hc

theorem hexGo_hex16 : ∀ (k v : Nat), v < 16 ^ k → hexGo (hex16 v k) 0 = some v
  | 0, v, h => by
    have : v = 0 := by simpa using h
    subst this; rfl
  | k + 1, v, h => by
    rw [hex16, hexGo_snoc (hex16 (v / 16) k) 0 (v / 16) (v % 16) (hexC (v % 16)) (hexGo_hex16 k (v / 16) (by rw [Nat.pow_succ] at h; omega)) (hexU_fin ⟨v % 16, by omega⟩)]
    congr 1; omega

theorem fltL_len (n : Nat) : (fltL n).length = 19 := by unfold fltL; simp [hex16_len]

theorem read_flt (cn : Nat → Nat) (v : Nat) (hv : v < 18446744073709551616) (hc : cn v = v) : readO cn (fltL v) = some (⟨3, ofL (fltL v), 0, v, 0⟩, 19) := by
  have h1 : readO cn (fltL v) = fltO cn (fltL v) := by
    unfold fltL readO
    simp only [List.cons_append, List.nil_append]
    rw [if_pos (by simp [List.isPrefixOf])]
  rw [h1]
  unfold fltO
  have hl := fltL_len v
  rw [if_neg (by omega)]
  have h2 : ((fltL v).take 18).drop 2 = hex16 v 16 := by
    unfold fltL
    have h16 := hex16_len 16 v
    generalize hex16 v 16 = H at h16
    simp only [List.cons_append, List.nil_append, List.take_succ_cons, List.drop_succ_cons, List.drop_zero]
    rw [List.take_append_of_le_length (by omega), List.take_of_length_le (by omega)]
  have h3 := hexGo_hex16 16 v (by have : (16 : Nat) ^ 16 = 18446744073709551616 := by decide
                                  omega)
  rw [h2, h3]
  simp only []
  rw [hc, List.take_of_length_le (by omega), if_pos rfl]

theorem itoa_dgs (n : Int) : Dgs (Lib.itoa n) ∧ Lib.itoa n ≠ [] := by
  unfold Lib.itoa
  split
  · exact ⟨⟨by simpa using dec_all n.natAbs, fun c r h => by injection h with h _; exact .inl h.symm⟩, by simp⟩
  · have ha := dec_all n.toNat
    cases hd : Lib.decDigits n.toNat with
    | nil => exact absurd hd (dec_ne _)
    | cons c r =>
      rw [hd, List.all_cons, Bool.and_eq_true] at ha
      exact ⟨⟨by simpa using ha.2, fun b q h => by injection h with h _; subst h; exact .inr ha.1⟩, by simp⟩

theorem takeWhile_stop {P : UInt8 → Bool} {c : UInt8} (hc : P c = false) : ∀ (a b : List UInt8), a.all P = true → (a ++ c :: b).takeWhile P = a
  | [], b, _ => by rw [List.nil_append, List.takeWhile_cons_of_neg (by simp [hc])]
  | x :: a, b, h => by
    rw [List.all_cons, Bool.and_eq_true] at h
    rw [List.cons_append, List.takeWhile_cons_of_pos h.1, takeWhile_stop hc a b h.2]

theorem read_num (cn : Nat → Nat) (n : Int) (h1 : -9223372036854775808 ≤ n) (h2 : n ≤ 9223372036854775807) (rest : List UInt8) : readO cn (Lib.itoa n ++ 32 :: rest) = some (⟨2, ofL (Lib.itoa n), n, 0, 0⟩, (Lib.itoa n).length) := by
  obtain ⟨hd, hne⟩ := itoa_dgs n
  have hp := parse_itoa n h1 h2
  obtain ⟨l, hl⟩ : ∃ l, Lib.itoa n = l := ⟨_, rfl⟩
  have hI := hl
  rw [hl] at hd hne hp ⊢
  cases l with
  | nil => exact absurd rfl hne
  | cons c r =>
    rw [List.cons_append, read_dgs cn (hd.2 c r rfl)]
    have hr : runP digB (c :: (r ++ 32 :: rest)) 1 = (c :: r).length := by
      unfold runP
      simp only [List.drop_succ_cons, List.drop_zero]
      rw [takeWhile_stop (by decide) r rest (by simpa using hd.1), List.length_cons]
      omega
    have hn : numL (c :: (r ++ 32 :: rest)) = c :: r := by
      unfold numL
      rw [hr, ← List.cons_append, List.take_append_of_le_length (Nat.le_refl _), List.take_of_length_le (Nat.le_refl _)]
    unfold numO
    rw [hn, hr, hp]
    simp only []
    rw [if_pos hI]

theorem itoa_short (n : Int) (h1 : -9223372036854775808 ≤ n) (h2 : n ≤ 9223372036854775807) : (Lib.itoa n).length ≤ 21 := by
  have hlen : ∀ u : Nat, u ≤ 9223372036854775808 → (Lib.decDigits u).length ≤ 19 := fun u hu => dec_len 18 u (Nat.lt_of_le_of_lt hu (by decide))
  unfold Lib.itoa
  split
  · have := hlen n.natAbs (by omega); rw [List.length_cons]; omega
  · have := hlen n.toNat (by omega); omega

theorem words_numbers (cn : Nat → Nat) (n : Int) (h1 : -9223372036854775808 ≤ n) (h2 : n ≤ 9223372036854775807) (v : Nat) (hv : v < 18446744073709551616) (hc : cn v = v) :
    wdsO cn (Lib.itoa n ++ [32] ++ fltL v) = ([⟨2, ofL (Lib.itoa n), n, 0, 0⟩, ⟨3, ofL (fltL v), 0, v, (Lib.itoa n).length + 1⟩, ⟨0, ⟨#[]⟩, 0, 0, (Lib.itoa n).length + 20⟩], 0, 0) := by
  obtain ⟨hd, hne⟩ := itoa_dgs n
  have hs := itoa_short n h1 h2
  have hf := fltL_len v
  have hr := read_num cn n h1 h2 (fltL v)
  have hL : Lib.itoa n ++ [32] ++ fltL v = Lib.itoa n ++ 32 :: fltL v := by simp
  rw [hL]
  have hlen : (Lib.itoa n ++ 32 :: fltL v).length = (Lib.itoa n).length + 20 := by rw [List.length_append, List.length_cons, hf]
  generalize Lib.itoa n = l at *
  have hb : runP spcB (l ++ 32 :: fltL v) (0 + l.length) = l.length + 1 := by
    rw [Nat.zero_add]
    have e1 : l.length < (l ++ 32 :: fltL v).length := by rw [hlen]; omega
    rw [runP_step e1 (by rw [List.getElem_append_right (Nat.le_refl _)]; simp; decide)]
    have e2 : l.length + 1 < (l ++ 32 :: fltL v).length := by rw [hlen]; omega
    refine runP_stop e2 ?_
    rw [List.getElem_append_right (by omega)]
    simp only [Nat.add_sub_cancel_left, List.getElem_cons_succ]
    show spcB ((fltL v)[0]'(by omega)) = false
    have : (fltL v)[0]'(by omega) = 102 := rfl
    rw [this]; decide
  have h0 : runP spcB (l ++ 32 :: fltL v) 0 = 0 := by
    cases l with
    | nil => exact absurd rfl hne
    | cons c r =>
      have h32 : c ≠ 32 := by rintro rfl; rcases hd.2 _ _ rfl with h | h <;> exact absurd h (by decide)
      exact spc_first h32
  have hdr : (l ++ 32 :: fltL v).drop (l.length + 1) = fltL v := by
    rw [← List.drop_drop, List.drop_append_of_le_length (Nat.le_refl _), List.drop_eq_nil_of_le (Nat.le_refl _)]
    rfl
  unfold wdsO
  rw [if_neg (by rw [hlen]; omega), h0, hlen]
  rw [wdsGo_step (a := 0) (x := ⟨2, ofL l, n, 0, 0⟩) (n := l.length) (b := l.length + 1) (by rw [hlen]; omega) (by rw [List.drop_zero]; exact hr) hb]
  rw [wdsGo_step (a := l.length + 1) (x := ⟨3, ofL (fltL v), 0, v, 0⟩) (n := 19) (b := (l ++ 32 :: fltL v).length) (by rw [hlen]; omega) (by rw [hdr]; exact read_flt cn v hv hc) (by rw [show l.length + 1 + 19 = (l ++ 32 :: fltL v).length by rw [hlen], runP_end (Nat.le_refl _)])]
  have hE := wdsGo_end (cn := cn) (l := l ++ 32 :: fltL v) (fu := l.length + 18) (acc := [] ++ [({ (⟨2, ofL l, n, 0, 0⟩ : Wd) with at_ := 0 })] ++ [({ (⟨3, ofL (fltL v), 0, v, 0⟩ : Wd) with at_ := l.length + 1 })]) (by simp)
  rw [show l.length + 19 = l.length + 18 + 1 from rfl, hE, hlen]
  rfl

theorem canon_twice (f : Nat) : canonN (canonN f) = canonN f := by
  unfold canonN
  cases h : nanB f
  · simp [h]
  · simp only [if_true]
    have : nanB 9221120237041090561 = true := by decide +kernel
    rw [this]; rfl

set_option maxHeartbeats 8000000 in
set_option maxRecDepth 100000 in
theorem numbers_walk (n : Int) (f : Nat) (w : World) (hn : is64 n = true) (hf : f < 18446744073709551616) (he : Env w) :
    Calls Tryd.prog 4 #[.int .i64 n, .float .f64 f] w fun e w' => e = .returned (.bool true) ∧ Below w.heap.size w w' := by
  obtain ⟨h1, h2⟩ := is64_iff.1 hn
  have hcl := canonN_lt f hf
  have hs := itoa_short n h1 h2
  have hw := words_numbers canonN n h1 h2 (canonN f) hcl (canon_twice f)
  have HN := Lib.hid (fun W (h : Env W) => number_any n W hn h)
  have HF := Lib.hid (fun W (h : Env W) => float_any f hf W h)
  have HI := Lib.hid (fun W => rint_any (ofL (Lib.itoa n)) W (by rw [ofL_size]; omega))
  have HW := Lib.hid (fun W (h : Env W) => words_good (ofL (Lib.itoa n ++ [32] ++ fltL (canonN f))) _ W (by rw [ofL_size, List.length_append, List.length_append, fltL_len]; unfold maxLen; simp; omega) h hw)
  have HI2 : Hid (∀ W, Calls Tryd.prog 13 #[.string (ofL (Lib.itoa n))] W fun e w' => e = .returned (.tuple #[.int .i64 n, .bool true]) ∧ W = w') := Lib.hid (fun W => by
    have := HI.out W
    rw [show (ofL (Lib.itoa n)).data.toList = Lib.itoa n from rfl, intO_itoa n h1 h2] at this
    exact this)
  have a1 := fun W => ofL_add (P := Tryd.prog) (Lib.itoa n) [32] (by simp; omega) W
  have a2 := fun W => ofL_add (P := Tryd.prog) (Lib.itoa n ++ [32]) (fltL (canonN f)) (by rw [fltL_len, List.length_append]; simp; omega) W
  have hfs : (ofL (fltL (canonN f))).size = 19 := by rw [ofL_size, fltL_len]
  have hcb := call_bits (canonN f)
  obtain ⟨cf, hcf⟩ : ∃ cf, canonN f = cf := ⟨_, rfl⟩
  have HC := Lib.hid (fun W => rcanon_any f W)
  rw [hcf] at HW HF a2 hfs hcb HC
  obtain ⟨SN, hSN⟩ : ∃ SN, ofL (Lib.itoa n) = SN := ⟨_, rfl⟩
  obtain ⟨S1, hS1⟩ : ∃ S1, ofL (Lib.itoa n ++ [32]) = S1 := ⟨_, rfl⟩
  obtain ⟨SF, hSF⟩ : ∃ SF, ofL (fltL cf) = SF := ⟨_, rfl⟩
  obtain ⟨SW, hSW⟩ : ∃ SW, ofL (Lib.itoa n ++ [32] ++ fltL cf) = SW := ⟨_, rfl⟩
  rw [hSN, hSF, hSW] at HW
  rw [hSN] at HN HI2
  rw [hSF] at HF hfs
  rw [hSN, hS1] at a1
  rw [hS1, hSF, hSW] at a2
  have a1 : ∀ W, (Op.stringOp .add SN ⟨#[32]⟩).run Tryd.prog W = .ok (.string S1) W := a1
  have He := Lib.hid he
  have Hfs := Lib.hid hfs
  obtain ⟨m1, hm1⟩ : ∃ m1, (Lib.itoa n).length + 1 = m1 := ⟨_, rfl⟩
  obtain ⟨m2, hm2⟩ : ∃ m2, (Lib.itoa n).length + 20 = m2 := ⟨_, rfl⟩
  rw [hm1, hm2] at HW
  have dfs : ((SF.size : Int) == 19) = true := by rw [hfs]; rfl
  clear hw HI hSN hS1 hSF hSW hcf hs hcl hn hf he hfs hm1 hm2 h1 h2
  go_enter Tryd.func4, Tryd.ntmps4
  go_wp2_with fail
  refine (HN.out w He.out).mono ?_
  rintro e w1 ⟨rfl, hb1⟩
  have Hb1 := Lib.hid hb1; clear hb1
  go_wp2_with fail
  refine (HF.out w1 (He.out.on Hb1.out)).mono ?_
  rintro e w2 ⟨rfl, hb2⟩
  have Hb2 := Lib.hid (Hb1.out.trans (hb2.mono Hb1.out.size)); clear hb2
  go_wp2_with fail
  refine (HW.out w2 (He.out.on Hb2.out)).mono ?_
  rintro e w3 ⟨g, cap, rfl, hc, hg, hcl, hb3⟩
  rw [show ([⟨2, SN, n, 0, 0⟩, ⟨3, SF, 0, cf, m1⟩, ⟨0, ⟨#[]⟩, 0, 0, m2⟩] : List Wd).length = 3 from rfl] at hc ⊢
  have Hb3 := Lib.hid (Hb2.out.trans (hb3.mono Hb2.out.size)); clear hb3
  have Hcl := Lib.hid hcl; clear hcl
  go_wp2_with fail
  refine (HN.out w3 (He.out.on Hb3.out)).mono ?_
  rintro e w4 ⟨rfl, hb4⟩
  have Hs4 := Lib.hid hb4
  have Hb4 := Lib.hid (Hb3.out.trans (hb4.mono Hb3.out.size)); clear hb4
  go_wp2_with fail
  refine (HI2.out w4).mono ?_
  rintro e w' ⟨rfl, rfl⟩
  go_wp2_with fail
  refine (awake_any w4 (He.out.on Hb4.out)).mono ?_
  rintro e w5 ⟨rfl, hb5⟩
  have Hg5 : Hid (∀ j q (hj : j < ([⟨2, SN, n, 0, 0⟩, ⟨3, SF, 0, cf, m1⟩, ⟨0, ⟨#[]⟩, 0, 0, m2⟩] : List Wd).length), q < 5 → w5.cell? ⟨g, j * 5 + q, none⟩ = (wdC ([⟨2, SN, n, 0, 0⟩, ⟨3, SF, 0, cf, m1⟩, ⟨0, ⟨#[]⟩, 0, 0, m2⟩] : List Wd)[j])[q]?) := Lib.hid (fun j q hj hq => ((hb5.cell (p := ⟨g, j * 5 + q, none⟩) (Nat.lt_of_lt_of_le hg Hs4.out.size)).trans (Hs4.out.cell (p := ⟨g, j * 5 + q, none⟩) hg)).trans (Hcl.out j q hj hq))
  have c0 : w5.cell? ⟨g, 0, none⟩ = some (.int .i64 2) := Hg5.out 0 0 (by simp) (by decide)
  have c2 : w5.cell? ⟨g, 2, none⟩ = some (.int .i64 n) := Hg5.out 0 2 (by simp) (by decide)
  have c5 : w5.cell? ⟨g, 5, none⟩ = some (.int .i64 3) := Hg5.out 1 0 (by simp) (by decide)
  have c8 : w5.cell? ⟨g, 8, none⟩ = some (.float .f64 cf) := Hg5.out 1 3 (by simp) (by decide)
  have Hb5 := Lib.hid (Hb4.out.trans (hb5.mono Hb4.out.size)); clear hb5
  go_wp2_with fail
  refine (HC.out w5).mono ?_
  rintro e w' ⟨rfl, rfl⟩
  go_wp2_with fail
  refine (HF.out w5 (He.out.on Hb5.out)).mono ?_
  rintro e w6 ⟨rfl, hb6⟩
  have Hb6 := Lib.hid (Hb5.out.trans (hb6.mono Hb5.out.size)); clear hb6
  go_wp2_with fail
  go_ret
  exact ⟨rfl, Hb6.out⟩

end Go.Proofs.YtbllmodafjdmcaaDoor
