/- a page's bytes -/
import Derived.Test.YtdfkahkomcfoeaaPgE
import Derived.Test.YtdfkahkomcfoeaaStr
namespace Go.Proofs.Ytdfkahkomcfoeaa
open Go.ChangeShapes Go.WideShapes Go.ChangeAt Go.RowKit

theorem bods_app : ∀ a b : Pg, bodsP (a ++ b) = bodsP b ++ bodsP a
  | [], b => by simp [bodsP]
  | r :: t, b => by simp only [List.cons_append, bodsP, bods_app t b, List.append_assoc]

theorem slots_app : ∀ (a b : Pg) (e : Nat), slotsP (a ++ b) e = slotsP a e ++ slotsP b (e - (bodsP a).length)
  | [], b, e => by simp [slotsP, bodsP]
  | r :: t, b, e => by
    simp only [List.cons_append, slotsP, bodsP, slots_app t b, List.append_assoc, List.length_append]
    rw [show e - r.2.length - (bodsP t).length = e - ((bodsP t).length + r.2.length) by omega]

theorem two_str (n : Nat) (w : World) : Calls Try.prog 25 #[.int .i64 (n : Int)] w fun e w' => e = .returned (.string ⟨(twoL n).toArray⟩) ∧ Below w.heap.size w w' := by
  have := two_any (n : Int) w
  rw [twoL_str] at this
  exact this

theorem eight_str (n : Nat) (w : World) : Calls Try.prog 26 #[.int .u64 (n : Int)] w fun e w' => e = .returned (.string ⟨(eightL n).toArray⟩) ∧ Below w.heap.size w w' := by
  have := eight_any n w
  rw [eightL_str] at this
  exact this

theorem add_str (a b : List UInt8) (h : a.length + b.length ≤ 1000000) (W : World) : (Op.stringOp .add ⟨a.toArray⟩ ⟨b.toArray⟩).run Try.prog W = .ok (.string ⟨(a ++ b).toArray⟩) W := by
  rw [run_string_add W _ _ (by rw [str_size]; omega) (by rw [str_size]; omega), str_cat]

set_option maxHeartbeats 2000000 in
set_option maxRecDepth 100000 in
theorem pg_encode {n : Nat} {w : World} {P : Nat} {v : Value} {l : Pg} (h : IsPg n w P v l) :
    Calls Try.prog 12 #[.pointer (some ⟨P, 0, none⟩)] w fun e w' => e = .returned (.string ⟨(encP l).toArray⟩) ∧ Below w.heap.size w w' := by
  have H := Lib.hid h
  have hlen := h.ok.len
  have hfit := h.ok.fit
  have hbl := bods_len l
  obtain ⟨A, c, b, rfl, hc, hA, hrow⟩ := h.form
  have c0 : w.cell? ⟨P, 0, none⟩ = some (.slice A l.length c) := by rw [cell_of_row _ _ _ _ _ _ h.blk]; rfl
  have HP : Hid (∀ w1, Below w.heap.size w w1 → w1.cell? ⟨P, 0, none⟩ = some (.slice A l.length c)) := Lib.hid fun w1 hb => by rw [cell_of_row _ _ _ _ _ _ (h.on hb).blk]; rfl
  have HA := Lib.hid hA; have HR := Lib.hid hrow; have HF := Lib.hid hfit
  have HT := Lib.hid (two_str l.length w)
  clear h hA hrow hfit
  go_enter Try.func12, Try.ntmps12
  go_wp2_with (first
    | (go_at_call 25; (with_reducible refine HT.out.mono ?_); rintro e w1 ⟨rfl, hb1⟩; have k0 := HP.out _ hb1; have HB1 := Lib.hid hb1; clear hb1)
    | fail)
  go_loopg [3, 4, 20] l.length (fun g ss sb si wr => ∃ i : Nat, si = .int .i64 i ∧ i ≤ l.length ∧ l.length - i ≤ g ∧ ss = .string ⟨(twoL l.length ++ slotsP (l.take i) 512).toArray⟩ ∧ sb = .string ⟨(bodsP (l.take i)).toArray⟩ ∧ Hid (Below w.heap.size w wr))
  case atStart => exact ⟨0, rfl, Nat.zero_le _, by omega, by simp [slotsP], by simp [bodsP], HB1.out⟩
  case round =>
    obtain ⟨i, rfl, hi, hg, rfl, rfl, HB⟩ := hrel
    by_cases hlt : i < l.length
    · obtain ⟨j0, j1⟩ := (HR.out.below HB.out).at hlt
      have eA := HA.out (by rintro rfl; simp at hlt)
      subst eA
      have htk : l.take (i + 1) = l.take i ++ [l[i]] := List.take_succ_eq_append_getElem hlt
      have hle := Nat.le_trans (used_sub (List.take_sublist (i + 1) l)) HF.out
      have hbl2 := bods_len (l.take (i + 1))
      have hsl := slots_len (l.take i) 512
      have hb2 : bodsP (l.take (i + 1)) = l[i].2 ++ bodsP (l.take i) := by rw [htk, bods_app]; simp [bodsP]
      have hs2 : slotsP (l.take (i + 1)) 512 = slotsP (l.take i) 512 ++ (eightL l[i].1 ++ twoL (512 - (bodsP (l.take (i + 1))).length) ++ twoL l[i].2.length) := by
        rw [hb2, List.length_append, htk, slots_app]
        simp only [slotsP, List.append_nil]
        rw [show 512 - (bodsP (l.take i)).length - l[i].2.length = 512 - (l[i].2.length + (bodsP (l.take i)).length) by omega]
      have htl : (l.take i).length ≤ 42 := by rw [List.length_take]; omega
      obtain ⟨x, hx⟩ : ∃ x, l[i] = x := ⟨_, rfl⟩
      rw [hx] at j0 j1 hb2 hs2
      clear hx htk
      have hblen : (bodsP (l.take (i + 1))).length = x.2.length + (bodsP (l.take i)).length := by rw [hb2, List.length_append]
      have ha1 := fun W => add_str x.2 (bodsP (l.take i)) (by omega) W
      rw [← hb2] at ha1
      have hln := fun W => len_str (bodsP (l.take (i + 1))) 3 W
      have hln2 := fun W => len_str x.2 3 W
      have hw : IntKind.i64.wrap ((512 : Int) - ((bodsP (l.take (i + 1))).length : Int)) = (512 : Int) - ((bodsP (l.take (i + 1))).length : Int) := by rw [IntKind.wrap_i64]; omega
      have hwn : ((512 - (bodsP (l.take (i + 1))).length : Nat) : Int) = (512 : Int) - ((bodsP (l.take (i + 1))).length : Int) := by omega
      have h8 := eightL_len x.1
      have ha2 := fun W => add_str (eightL x.1) (twoL (512 - (bodsP (l.take (i + 1))).length)) (by rw [h8, twoL_len]; omega) W
      have ha3 := fun W => add_str (eightL x.1 ++ twoL (512 - (bodsP (l.take (i + 1))).length)) (twoL x.2.length) (by rw [List.length_append, h8, twoL_len, twoL_len]; omega) W
      have ha4 := fun W => add_str (twoL l.length ++ slotsP (l.take i) 512) (eightL x.1 ++ twoL (512 - (bodsP (l.take (i + 1))).length) ++ twoL x.2.length) (by simp only [List.length_append, h8, twoL_len, hsl]; omega) W
      rw [List.append_assoc (twoL l.length), ← hs2] at ha4
      obtain ⟨w1, hw1⟩ : ∃ w1, w1 = wr.alloc (.cells #[.int .u64 (x.1 : Int), .string ⟨x.2.toArray⟩] 47) := ⟨_, rfl⟩
      have hbx : w1.heap[wr.heap.size]? = some (.cells #[.int .u64 (x.1 : Int), .string ⟨x.2.toArray⟩] 47 (0, 0)) := by rw [hw1]; exact heap_alloc_new wr _
      have HY : Hid (∀ wn, Below w1.heap.size w1 wn → wn.cell? ⟨wr.heap.size, 0, none⟩ = some (.int .u64 (x.1 : Int)) ∧ wn.cell? ⟨wr.heap.size, 1, none⟩ = some (.string ⟨x.2.toArray⟩)) := Lib.hid fun wn hb => by
        have hk := (hb.block wr.heap.size (Array.getElem?_eq_some_iff.1 hbx).1).trans hbx
        exact ⟨by rw [cell_of_row _ _ _ _ _ _ hk]; rfl, by rw [cell_of_row _ _ _ _ _ _ hk]; rfl⟩
      have HE : Hid (∀ wn, Below w1.heap.size w1 wn → Calls Try.prog 26 #[.int .u64 (x.1 : Int)] wn fun e w' => e = .returned (.string ⟨(eightL x.1).toArray⟩) ∧ Below w1.heap.size w1 w') := Lib.hid fun wn hb =>
        (eight_str x.1 wn).mono fun e w' p => ⟨p.1, hb.trans (p.2.mono hb.size)⟩
      have HT1 : Hid (∀ wn, Below w1.heap.size w1 wn → Calls Try.prog 25 #[.int .i64 ((512 - (bodsP (l.take (i + 1))).length : Nat) : Int)] wn fun e w' => e = .returned (.string ⟨(twoL (512 - (bodsP (l.take (i + 1))).length)).toArray⟩) ∧ Below w1.heap.size w1 w') := Lib.hid fun wn hb =>
        (two_str _ wn).mono fun e w' p => ⟨p.1, hb.trans (p.2.mono hb.size)⟩
      rw [hwn] at HT1
      have HT2 : Hid (∀ wn, Below w1.heap.size w1 wn → Calls Try.prog 25 #[.int .i64 (x.2.length : Int)] wn fun e w' => e = .returned (.string ⟨(twoL x.2.length).toArray⟩) ∧ Below w1.heap.size w1 w') := Lib.hid fun wn hb =>
        (two_str _ wn).mono fun e w' p => ⟨p.1, hb.trans (p.2.mono hb.size)⟩
      have hdr : Below w1.heap.size w1 w1.drew := (Below.refl _ w1).drew
      have HOUT : Hid (∀ wn, Below w1.heap.size w1 wn → Below w.heap.size w wn) := Lib.hid fun wn hb => by
        have h1 : Below w.heap.size w w1 := by rw [hw1]; exact HB.out.alloc HB.out.size _
        exact h1.trans (hb.mono h1.size)
      obtain ⟨y0, y1⟩ := HY.out _ (Below.refl _ w1)
      subst hw1
      clear hwn hle hbl2 hsl hb2 hs2 hblen hbx h8 htl
      generalize hB1 : bodsP (l.take (i + 1)) = B1 at ha1 ha2 ha3 ha4 hln hw HT1
      generalize hS1 : slotsP (l.take (i + 1)) 512 = S1 at ha4
      have HB1' := Lib.hid hB1; have HS1 := Lib.hid hS1
      clear hB1 hS1
      generalize twoL (512 - B1.length) = T1 at ha2 ha3 ha4 HT1
      generalize eightL x.1 ++ T1 = Q1 at ha2 ha3 ha4
      generalize Q1 ++ twoL x.2.length = Q2 at ha3 ha4
      generalize hQ3 : twoL l.length ++ S1 = Q3 at ha4
      have HQ3 := Lib.hid hQ3
      clear hQ3
      generalize twoL l.length ++ slotsP (l.take i) 512 = Q0 at ha4 ⊢
      go_upto_region 8 with fail
      go_region_with (first
        | (go_at_call 26; (with_reducible refine (HE.out _ (by assumption)).mono ?_); rintro e wf ⟨rfl, hbf⟩; obtain ⟨y0, y1⟩ := HY.out _ hbf)
        | (go_at_call 25; (with_reducible refine (HT1.out _ (by assumption)).mono ?_); rintro e wf ⟨rfl, hbf⟩; obtain ⟨y0, y1⟩ := HY.out _ hbf)
        | (go_at_call 25; (with_reducible refine (HT2.out _ (by assumption)).mono ?_); rintro e wf ⟨rfl, hbf⟩; obtain ⟨y0, y1⟩ := HY.out _ hbf))
      all_goals
        go_wp2_with fail
        go_roundg (l.length - (i + 1))
        case measure => omega
        case rel => exact ⟨i + 1, by go_num, by omega, Nat.le_refl _, by rw [HS1.out, HQ3.out], by rw [HB1'.out], HOUT.out _ (by assumption)⟩
    · obtain rfl : i = l.length := by omega
      have eT : l.take l.length = l := List.take_length
      rw [eT]
      have hfr : Hid (Calls Try.prog 17 #[.pointer (some ⟨P, 0, none⟩)] wr fun e w' => e = .returned (.int .i64 ((512 - usedP l : Nat) : Int)) ∧ Below w.heap.size w w') := Lib.hid
        ((pg_free (H.out.on HB.out)).mono fun e w' p => ⟨p.1, HB.out.trans (p.2.mono HB.out.size)⟩)
      have hrep : Hid (∀ wn, Below w.heap.size w wn → Calls Try.prog 27 #[.string ⟨#[0]⟩, .int .i64 ((512 - usedP l : Nat) : Int)] wn fun e w' => e = .returned (.string ⟨(List.replicate (512 - usedP l) (0 : UInt8)).toArray⟩) ∧ Below w.heap.size w w') := Lib.hid fun wn hb => by
        have := repeat_any ⟨#[0]⟩ (512 - usedP l) wn (by show 1 * _ ≤ _; omega) (by omega)
        rw [show (⟨#[0]⟩ : ByteArray).data.toList = [0] from rfl, repeat_nought] at this
        exact this.mono fun e w' p => ⟨p.1, hb.trans (p.2.mono hb.size)⟩
      have hsl := slots_len l 512
      have hb2 := bods_len l
      have hfo := HF.out
      have hrl : (List.replicate (512 - usedP l) (0 : UInt8)).length = 512 - usedP l := List.length_replicate
      have ha1 := fun W => add_str (twoL l.length ++ slotsP l 512) (List.replicate (512 - usedP l) 0) (by rw [List.length_append, twoL_len, hsl, hrl]; omega) W
      have ha2 := fun W => add_str (twoL l.length ++ slotsP l 512 ++ List.replicate (512 - usedP l) 0) (bodsP l) (by rw [List.length_append, List.length_append, twoL_len, hsl, hrl]; omega) W
      have he : twoL l.length ++ slotsP l 512 ++ List.replicate (512 - usedP l) 0 ++ bodsP l = encP l := rfl
      rw [he] at ha2
      clear hsl hb2 hfo hrl he
      generalize List.replicate (512 - usedP l) (0 : UInt8) = R1 at ha1 ha2 hrep
      generalize twoL l.length ++ slotsP l 512 = R0 at ha1 ha2 ⊢
      generalize R0 ++ R1 = R2 at ha1 ha2
      generalize bodsP l = R3 at ha2 ⊢
      go_wp2_with (first
        | (go_at_call 17; (with_reducible refine hfr.out.mono ?_); rintro e w2 ⟨rfl, hb2⟩)
        | (go_at_call 27; (with_reducible refine (hrep.out _ (by assumption)).mono ?_); rintro e w3 ⟨rfl, hb3⟩)
        | fail)
      go_ret
      exact ⟨rfl, hb3⟩

end Go.Proofs.Ytdfkahkomcfoeaa
