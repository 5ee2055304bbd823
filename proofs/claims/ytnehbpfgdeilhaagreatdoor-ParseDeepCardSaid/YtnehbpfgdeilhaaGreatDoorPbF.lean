/- parse: the texts of ParseDeep, their words and what they come to -/
import Derived.Test.YtnehbpfgdeilhaaGreatDoorPaB
import Derived.Test.YtnehbpfgdeilhaaGreatDoorPaX
import Derived.Test.YtnehbpfgdeilhaaGreatDoorLxX
import Derived.Test.YtnehbpfgdeilhaaGreatDoorPbA
import Derived.Test.YtnehbpfgdeilhaaGreatDoorPbZ

namespace Go.Proofs.YtnehbpfgdeilhaaGreatDoor
open Go.Fl

/-- what words come to: nothing, or the error's number -/
def prsC (r : List Wd × Nat × Int) : Int := if r.2.2 = 0 then (match pText (gx r.1) with | .ok _ _ => 0 | .bad _ c => c) else r.2.2

def rep {α : Type} (k : Nat) (x : List α) : List α := match k with | 0 => [] | k + 1 => x ++ rep k x

theorem rep_snoc {α : Type} (x : List α) : ∀ k, rep k x ++ x = rep (k + 1) x
  | 0 => by simp [rep]
  | k + 1 => by
    have := rep_snoc x k
    rw [rep, List.append_assoc, this]
    rfl

def tS (k : Nat) : List UInt8 := [103, 46, 86, 40, 41] ++ (rep k [46, 119, 104, 101, 114, 101, 40, 111, 117, 116, 40, 41] ++ rep k [41])
def tT (k : Nat) : List UInt8 := [103, 46, 105, 110, 106, 101, 99, 116, 40] ++ (rep k [91] ++ (rep k [93] ++ [41]))
def tU (m : Nat) : List UInt8 := [103, 46, 86, 40, 41] ++ rep m [46, 105, 100, 40, 41]

set_option maxRecDepth 1000000 in
theorem code_S : ∀ k : Fin 16, prsC (wdsO canonN (tS k)) = if k.val ≤ 12 then 0 else 3 := by decide +kernel

set_option maxRecDepth 1000000 in
theorem code_T : ∀ k : Fin 16, prsC (wdsO canonN (tT k)) = if k.val ≤ 12 then 0 else 3 := by decide +kernel

def sgD (c : UInt8) : Wd := ⟨5, ofL [c], 0, 0, 0⟩
def W5 : List Wd := [⟨1, ofL [103], 0, 0, 0⟩, sgD 46, ⟨1, ofL [86], 0, 0, 0⟩, sgD 40, sgD 41]
def W4 : List Wd := [sgD 46, ⟨1, ofL [105, 100], 0, 0, 0⟩, sgD 40, sgD 41]
def zW (x : Wd) : Wd := { x with at_ := 0 }

theorem go_one {cn : Nat → Nat} {l : List UInt8} {a n : Nat} {x : Wd} {p : List UInt8} (acc : List Wd) (fu : Nat) (hd : l.drop a = p) (hp : p ≠ []) (hr : readO cn p = some (x, n)) (hs : (p.drop n).takeWhile spcB = []) :
    wdsGo cn l (fu + 1) a acc = wdsGo cn l fu (a + n) (acc ++ [{ x with at_ := a }]) := by
  have hlt : a < l.length := by
    rcases Nat.lt_or_ge a l.length with h | h
    · exact h
    · exact absurd (hd.symm.trans (List.drop_eq_nil_of_le h)) hp
  have hq : runP spcB l (a + n) = a + n := by
    unfold runP
    rw [← List.drop_drop, hd, hs]
    rfl
  rw [wdsGo, if_pos hlt, hd, hr]
  show wdsGo cn l fu (runP spcB l (a + n)) _ = _
  rw [hq]

theorem rep_head (m : Nat) : (rep m ([46, 105, 100, 40, 41] : List UInt8)).takeWhile spcB = [] := by
  cases m with
  | zero => rfl
  | succ m => rfl

theorem go_id {cn : Nat → Nat} {l : List UInt8} {a m : Nat} (acc : List Wd) (fu : Nat) (h : l.drop a = rep (m + 1) [46, 105, 100, 40, 41]) :
    ∃ L : List Wd, L.map zW = W4 ∧ wdsGo cn l (fu + 4) a acc = wdsGo cn l fu (a + 5) (acc ++ L) ∧ l.drop (a + 5) = rep m [46, 105, 100, 40, 41] := by
  have h0 : l.drop a = 46 :: 105 :: 100 :: 40 :: 41 :: rep m [46, 105, 100, 40, 41] := h
  have h1 : l.drop (a + 1) = 105 :: 100 :: 40 :: 41 :: rep m [46, 105, 100, 40, 41] := by rw [← List.drop_drop, h0]; rfl
  have h3 : l.drop (a + 1 + 2) = 40 :: 41 :: rep m [46, 105, 100, 40, 41] := by rw [← List.drop_drop, h1]; rfl
  have h4 : l.drop (a + 1 + 2 + 1) = 41 :: rep m [46, 105, 100, 40, 41] := by rw [← List.drop_drop, h3]; rfl
  have h5 : l.drop (a + 1 + 2 + 1 + 1) = rep m [46, 105, 100, 40, 41] := by rw [← List.drop_drop, h4]; rfl
  refine ⟨[{ sgD 46 with at_ := a }, { (⟨1, ofL [105, 100], 0, 0, 0⟩ : Wd) with at_ := a + 1 }, { sgD 40 with at_ := a + 1 + 2 }, { sgD 41 with at_ := a + 1 + 2 + 1 }], rfl, ?_, h5⟩
  · rw [go_one acc (fu + 3) h0 (by simp) (x := sgD 46) (n := 1) (by kernel_rfl) (by kernel_rfl),
      go_one _ (fu + 2) h1 (by simp) (x := ⟨1, ofL [105, 100], 0, 0, 0⟩) (n := 2) (by kernel_rfl) (by kernel_rfl),
      go_one _ (fu + 1) h3 (by simp) (x := sgD 40) (n := 1) (by kernel_rfl) (by kernel_rfl),
      go_one _ fu h4 (by simp) (x := sgD 41) (n := 1) (by kernel_rfl) (rep_head m)]
    simp only [List.append_assoc, List.cons_append, List.nil_append]

theorem go_ids {cn : Nat → Nat} {l : List UInt8} : ∀ (m a fu : Nat) (acc : List Wd), l.drop a = rep m [46, 105, 100, 40, 41] → acc.length + 4 * m ≤ 1500 → 4 * m + 1 ≤ fu →
    ∃ L, wdsGo cn l fu a acc = (L, 0, 0) ∧ L.map zW = acc.map zW ++ (rep m W4 ++ [wdNone])
  | 0, a, fu, acc, h, ha, hf => by
    obtain ⟨fu, rfl⟩ : ∃ f, fu = f + 1 := ⟨fu - 1, by omega⟩
    have hge : ¬ a < l.length := by
      intro hlt
      have := List.drop_eq_nil_iff.1 (h : l.drop a = [])
      omega
    refine ⟨acc ++ [⟨0, ⟨#[]⟩, 0, 0, l.length⟩], ?_, ?_⟩
    · rw [wdsGo, if_neg hge, if_neg (by omega)]
    · rw [List.map_append]; rfl
  | m + 1, a, fu, acc, h, ha, hf => by
    obtain ⟨fu, rfl⟩ : ∃ f, fu = f + 4 := ⟨fu - 4, by omega⟩
    obtain ⟨L, hL, hg, hd⟩ := go_id (cn := cn) acc fu h
    have hl : L.length = 4 := by rw [← List.length_map (f := zW), hL]; rfl
    obtain ⟨R, h1, h2⟩ := go_ids m (a + 5) fu (acc ++ L) hd (by rw [List.length_append, hl]; omega) (by omega)
    refine ⟨R, hg.trans h1, ?_⟩
    rw [h2, List.map_append, hL, rep]
    simp only [List.append_assoc]

theorem rep_len {α : Type} (x : List α) : ∀ m, (rep m x).length = m * x.length
  | 0 => by simp [rep]
  | m + 1 => by rw [rep, List.length_append, rep_len x m, Nat.succ_mul]; omega

theorem words_U {cn : Nat → Nat} {m : Nat} (hm : m ≤ 300) : ∃ L, wdsO cn (tU m) = (L, 0, 0) ∧ L.map zW = W5 ++ (rep m W4 ++ [wdNone]) := by
  have hlen : (tU m).length = 5 + m * 5 := by unfold tU; rw [List.length_append, rep_len]; rfl
  have h0 : (tU m).drop 0 = 103 :: 46 :: 86 :: 40 :: 41 :: rep m [46, 105, 100, 40, 41] := rfl
  have h1 : (tU m).drop (0 + 1) = 46 :: 86 :: 40 :: 41 :: rep m [46, 105, 100, 40, 41] := rfl
  have h2 : (tU m).drop (0 + 1 + 1) = 86 :: 40 :: 41 :: rep m [46, 105, 100, 40, 41] := rfl
  have h3 : (tU m).drop (0 + 1 + 1 + 1) = 40 :: 41 :: rep m [46, 105, 100, 40, 41] := rfl
  have h4 : (tU m).drop (0 + 1 + 1 + 1 + 1) = 41 :: rep m [46, 105, 100, 40, 41] := rfl
  have h5 : (tU m).drop (0 + 1 + 1 + 1 + 1 + 1) = rep m [46, 105, 100, 40, 41] := rfl
  have hr0 : runP spcB (tU m) 0 = 0 := by unfold runP; rw [h0]; rfl
  obtain ⟨fu, hfu⟩ : ∃ fu, (tU m).length + 1 = fu + 5 := ⟨m * 5 + 1, by omega⟩
  unfold wdsO
  rw [if_neg (by omega), hr0, hfu,
    go_one [] (fu + 4) h0 (by simp) (x := ⟨1, ofL [103], 0, 0, 0⟩) (n := 1) (by kernel_rfl) (by kernel_rfl),
    go_one _ (fu + 3) h1 (by simp) (x := sgD 46) (n := 1) (by kernel_rfl) (by kernel_rfl),
    go_one _ (fu + 2) h2 (by simp) (x := ⟨1, ofL [86], 0, 0, 0⟩) (n := 1) (by kernel_rfl) (by kernel_rfl),
    go_one _ (fu + 1) h3 (by simp) (x := sgD 40) (n := 1) (by kernel_rfl) (by kernel_rfl),
    go_one _ fu h4 (by simp) (x := sgD 41) (n := 1) (by kernel_rfl) (rep_head m)]
  obtain ⟨L, q1, q2⟩ := go_ids (cn := cn) m _ fu (((((([] ++ [_]) ++ [_]) ++ [_]) ++ [_]) ++ [_]) : List Wd) h5 (by simp only [List.length_append, List.length_singleton, List.length_nil]; omega) (by omega)
  refine ⟨L, q1, q2.trans ?_⟩
  rfl

/-- the words of tU, by their number -/
def GU (m i : Nat) : Wd := if i < 5 then W5.getD i wdNone else if i < 5 + 4 * m then W4.getD ((i - 5) % 4) wdNone else wdNone

theorem getD_left {α : Type} (a b : List α) (d : α) (i : Nat) (h : i < a.length) : (a ++ b).getD i d = a.getD i d := by
  rw [List.getD_eq_getElem?_getD, List.getD_eq_getElem?_getD, List.getElem?_append_left h]

theorem getD_right {α : Type} (a b : List α) (d : α) (i : Nat) (h : a.length ≤ i) : (a ++ b).getD i d = b.getD (i - a.length) d := by
  rw [List.getD_eq_getElem?_getD, List.getD_eq_getElem?_getD, List.getElem?_append_right h]

theorem rep_W4 : ∀ (m j : Nat), (rep m W4 ++ [wdNone]).getD j wdNone = if j < 4 * m then W4.getD (j % 4) wdNone else wdNone
  | 0, j => by
    rw [if_neg (by omega)]
    cases j with
    | zero => rfl
    | succ j => rfl
  | m + 1, j => by
    rw [rep, List.append_assoc]
    by_cases h : j < 4
    · rw [if_pos (by omega), Nat.mod_eq_of_lt h, getD_left _ _ _ _ (by show j < 4; exact h)]
    · rw [getD_right _ _ _ _ (by show 4 ≤ j; omega), rep_W4 m]
      have : (j - W4.length) = j - 4 := rfl
      rw [this]
      have e : (j - 4) % 4 = j % 4 := by omega
      rw [e]
      by_cases h2 : j - 4 < 4 * m
      · rw [if_pos h2, if_pos (by omega)]
      · rw [if_neg h2, if_neg (by omega)]

theorem gx_U {L : List Wd} {m : Nat} (h : L.map zW = W5 ++ (rep m W4 ++ [wdNone])) : gx L = GU m := by
  funext i
  have e : gx L i = (L.map zW).getD i wdNone := by
    unfold gx
    rw [List.getD_eq_getElem?_getD, List.getD_eq_getElem?_getD, List.getElem?_map]
    cases L[i]? with
    | none => rfl
    | some x => rfl
  rw [e, h]
  unfold GU
  by_cases h5 : i < 5
  · rw [if_pos h5, getD_left _ _ _ _ (by show i < 5; exact h5)]
  · rw [if_neg h5, getD_right _ _ _ _ (by show 5 ≤ i; omega), rep_W4 m]
    have : (i - W5.length) = i - 5 := rfl
    rw [this]
    by_cases h2 : i - 5 < 4 * m
    · rw [if_pos h2, if_pos (by omega)]
    · rw [if_neg h2, if_neg (by omega)]

def prsG (G : Nat → Wd) : Int := match pText G with | .ok _ _ => 0 | .bad _ c => c

set_option maxRecDepth 1000000 in
theorem code_G : ∀ k : Fin 4, prsG (GU (148 + k)) = if k.val ≤ 1 then 0 else 3 := by decide +kernel

theorem code_U (k : Fin 4) : prsC (wdsO canonN (tU (148 + k))) = if k.val ≤ 1 then 0 else 3 := by
  obtain ⟨L, h1, h2⟩ := words_U (cn := canonN) (m := 148 + k) (by omega)
  rw [h1]
  unfold prsC
  rw [if_pos rfl]
  show (match pText (gx L) with | .ok _ _ => (0 : Int) | .bad _ c => c) = _
  rw [gx_U h2]
  exact code_G k

end Go.Proofs.YtnehbpfgdeilhaaGreatDoor

namespace Go.Proofs.YtnehbpfgdeilhaaGreatDoor
open Go.ChangeShapes Go.WideShapes Go.ChangeAt Go.RowKit Go.Fl
open Go.Shelf

theorem i64_and15 (n : Int) : ∃ r : Nat, r ≤ 15 ∧ bits .and .i64 n 15 = r := by
  have h3 : (BitVec.ofInt 64 15).toNat = 2 ^ 4 - 1 := by decide
  have key : (BitVec.ofInt 64 n &&& BitVec.ofInt 64 15).toNat = (n % ((2 ^ 64 : Nat) : Int)).toNat % 2 ^ 4 := by
    rw [BitVec.toNat_and, BitVec.toNat_ofInt, h3, Nat.and_two_pow_sub_one_eq_mod]
  refine ⟨(n % ((2 ^ 64 : Nat) : Int)).toNat % 2 ^ 4, by omega, ?_⟩
  show IntKind.i64.wrap ((BitVec.ofInt 64 n &&& BitVec.ofInt 64 15).toNat : Nat) = _
  rw [key, IntKind.wrap_i64]
  omega

theorem i64_and3 (n : Int) : ∃ r : Nat, r ≤ 3 ∧ bits .and .i64 n 3 = r := by
  have h3 : (BitVec.ofInt 64 3).toNat = 2 ^ 2 - 1 := by decide
  have key : (BitVec.ofInt 64 n &&& BitVec.ofInt 64 3).toNat = (n % ((2 ^ 64 : Nat) : Int)).toNat % 2 ^ 2 := by
    rw [BitVec.toNat_and, BitVec.toNat_ofInt, h3, Nat.and_two_pow_sub_one_eq_mod]
  refine ⟨(n % ((2 ^ 64 : Nat) : Int)).toNat % 2 ^ 2, by omega, ?_⟩
  show IntKind.i64.wrap ((BitVec.ofInt 64 n &&& BitVec.ofInt 64 3).toNat : Nat) = _
  rw [key, IntKind.wrap_i64]
  omega

theorem ofL_app (l r : List UInt8) : ofL l ++ (⟨r.toArray⟩ : ByteArray) = ofL (l ++ r) := by
  apply ByteArray.ext
  unfold ofL
  simp

/-- a text with so many ends -/
def rB (g x : List UInt8) (i : Nat) : ByteArray := ofL (g ++ rep i x)

theorem rB_succ (g x : List UInt8) (i : Nat) : rB g x i ++ (⟨x.toArray⟩ : ByteArray) = rB g x (i + 1) := by
  unfold rB
  rw [ofL_app, List.append_assoc, rep_snoc]

theorem rB_size (g x : List UInt8) (i : Nat) : (rB g x i).size = g.length + i * x.length := by
  unfold rB ofL
  show (g ++ rep i x).toArray.size = _
  rw [List.size_toArray, List.length_append, rep_len]

theorem rB_le (g x : List UInt8) (i : Nat) (hi : i ≤ 200) (hg : g.length ≤ 500) (hx : x.length ≤ 12) : (rB g x i).size ≤ 2900 := by
  rw [rB_size]
  have : i * x.length ≤ 200 * 12 := Nat.mul_le_mul hi hx
  omega

/-- what the first two loops keep -/
def DRel (k : Nat) (gs xs gt xt : List UInt8) (W : World) (ss st si : Value) (wr : World) : Prop :=
  ∃ (i : Nat) (S T : ByteArray), i ≤ k ∧ ss = .string S ∧ st = .string T ∧ si = .int .i64 i ∧ wr = W ∧ S.size ≤ 2900 ∧ T.size ≤ 2900 ∧ Hid (S = rB gs xs i ∧ T = rB gt xt i)

/-- .. and the third -/
def URel (M : Nat) (W : World) (us si : Value) (wr : World) : Prop :=
  ∃ (i : Nat) (U : ByteArray), i ≤ M ∧ us = .string U ∧ si = .int .i64 i ∧ wr = W ∧ U.size ≤ 2900 ∧ Hid (U = rB [103, 46, 86, 40, 41] [46, 105, 100, 40, 41] i)

set_option maxHeartbeats 4000000 in
set_option maxRecDepth 100000 in
theorem deep_core (n st : Int) (W : World)
    (HP : Hid (∀ w S, Below W.heap.size W w → S.size ≤ maxLen → Calls Tryz.prog 5 #[.string S] w fun e w' => Below w.heap.size w w' ∧ ∃ v a, e = .returned (.tuple #[v, .int .i64 a, .int .i64 (prsC (wdsO canonN S.data.toList))])))
    (HA : Hid (∀ w, Below W.heap.size W w → Calls Tryz.prog 6 #[] w fun e w' => e = .returned (.bool true) ∧ Below w.heap.size w w')) :
    Calls Tryz.prog 3 #[.int .i64 n, .int .i64 st] W fun e w' => e = .returned (.bool true) ∧ Below W.heap.size W w' := by
  obtain ⟨k, hk, hk15⟩ := i64_and15 n
  obtain ⟨m, hm, hm3⟩ := i64_and3 st
  go_enter Tryz.func3, Tryz.ntmps3
  go_wp2_with fail
  go_loopw [6, 7, 8] (fun ss st si wr => DRel k [103, 46, 86, 40, 41] [46, 119, 104, 101, 114, 101, 40, 111, 117, 116, 40, 41] [103, 46, 105, 110, 106, 101, 99, 116, 40] [91] W ss st si wr) (fun _ _ si _ => k - (intOf si).toNat)
  case atStart => exact ⟨0, _, _, Nat.zero_le _, rfl, rfl, rfl, rfl, by decide, by decide, Lib.hid ⟨by kernel_rfl, by kernel_rfl⟩⟩
  case round =>
    obtain ⟨i, S, T, hi, rfl, rfl, rfl, rfl, hSs, hTs, HST⟩ := hrel
    by_cases hlt : i < k
    · have hlt1 : decide ((i : Int) < (k : Int)) = true := by rw [decide_eq_true_eq]; omega
      go_wp2_with fail
      have e1 := rB_succ [103, 46, 86, 40, 41] [46, 119, 104, 101, 114, 101, 40, 111, 117, 116, 40, 41] i
      have e2 := rB_succ [103, 46, 105, 110, 106, 101, 99, 116, 40] [91] i
      rw [← HST.out.1] at e1
      rw [← HST.out.2] at e2
      go_roundw
      case rel => exact ⟨i + 1, _, _, by omega, rfl, rfl, by go_num, rfl, by rw [e1]; exact rB_le _ _ _ (by omega) (by decide) (by decide), by rw [e2]; exact rB_le _ _ _ (by omega) (by decide) (by decide), Lib.hid ⟨e1, e2⟩⟩
      case measure => show k - ((i : Int) + 1).toNat < k - (i : Int).toNat; omega
    · have hlt0 : decide ((i : Int) < (k : Int)) = false := by rw [decide_eq_false_iff_not]; omega
      obtain rfl : i = k := by omega
      go_wp2_with fail
      go_loopw [6, 7, 9] (fun ss st si wr1 => DRel i ([103, 46, 86, 40, 41] ++ rep i [46, 119, 104, 101, 114, 101, 40, 111, 117, 116, 40, 41]) [41] ([103, 46, 105, 110, 106, 101, 99, 116, 40] ++ rep i [91]) [93] wr ss st si wr1) (fun _ _ si _ => i - (intOf si).toNat)
      case atStart => exact ⟨0, _, _, Nat.zero_le _, rfl, rfl, rfl, rfl, hSs, hTs, Lib.hid ⟨by rw [HST.out.1]; simp [rB, rep], by rw [HST.out.2]; simp [rB, rep]⟩⟩
      case round =>
        obtain ⟨j, S2, T2, hj, rfl, rfl, rfl, rfl, hSs2, hTs2, HST2⟩ := hrel
        clear hSs hTs HST hlt0 hlt
        by_cases hlt : j < i
        · have hlt1 : decide ((j : Int) < (i : Int)) = true := by rw [decide_eq_true_eq]; omega
          go_wp2_with fail
          have e1 := rB_succ ([103, 46, 86, 40, 41] ++ rep i [46, 119, 104, 101, 114, 101, 40, 111, 117, 116, 40, 41]) [41] j
          have e2 := rB_succ ([103, 46, 105, 110, 106, 101, 99, 116, 40] ++ rep i [91]) [93] j
          rw [← HST2.out.1] at e1
          rw [← HST2.out.2] at e2
          go_roundw
          case rel => exact ⟨j + 1, _, _, by omega, rfl, rfl, by go_num, rfl, by rw [e1]; exact rB_le _ _ _ (by omega) (by rw [List.length_append, rep_len]; simp; omega) (by decide), by rw [e2]; exact rB_le _ _ _ (by omega) (by rw [List.length_append, rep_len]; simp; omega) (by decide), Lib.hid ⟨e1, e2⟩⟩
          case measure => show i - ((j : Int) + 1).toNat < i - (j : Int).toNat; omega
        · have hlt0 : decide ((j : Int) < (i : Int)) = false := by rw [decide_eq_false_iff_not]; omega
          obtain rfl : j = i := by omega
          go_wp2_with fail
          go_loopw [10, 12] (fun us si wr1 => URel (148 + m) wr us si wr1) (fun _ si _ => 148 + m - (intOf si).toNat)
          case atStart => exact ⟨0, _, Nat.zero_le _, rfl, rfl, rfl, by decide, Lib.hid (by kernel_rfl)⟩
          case round =>
            obtain ⟨q, U, hq, rfl, rfl, rfl, hUs, HU⟩ := hrel
            by_cases hlt : q < 148 + m
            · have hlt1 : decide ((q : Int) < 148 + (m : Int)) = true := by rw [decide_eq_true_eq]; omega
              go_wp2_with fail
              have e1 := rB_succ [103, 46, 86, 40, 41] [46, 105, 100, 40, 41] q
              rw [← HU.out] at e1
              go_roundw
              case rel => exact ⟨q + 1, _, by omega, rfl, by go_num, rfl, by rw [e1]; exact rB_le _ _ _ (by omega) (by decide) (by decide), Lib.hid e1⟩
              case measure => show 148 + m - ((q : Int) + 1).toNat < 148 + m - (q : Int).toNat; omega
            · have hlt0 : decide ((q : Int) < 148 + (m : Int)) = false := by rw [decide_eq_false_iff_not]; omega
              have hqm : q = 148 + m := by omega
              have t1 : (⟨#[41]⟩ : ByteArray).size = 1 := rfl
              have t2 : (T2 ++ ⟨#[41]⟩ : ByteArray).size ≤ maxLen := by rw [ByteArray.size_append, t1]; unfold maxLen; omega
              have P1 := Lib.hid (fun w (h : Below wr.heap.size wr w) => HP.out w S2 h (by unfold maxLen; omega))
              have P2 := Lib.hid (fun w (h : Below wr.heap.size wr w) => HP.out w (T2 ++ ⟨#[41]⟩) h t2)
              have P3 := Lib.hid (fun w (h : Below wr.heap.size wr w) => HP.out w U h (by unfold maxLen; omega))
              have l1 : S2.data.toList = tS j := by rw [HST2.out.1]; unfold rB ofL tS; simp
              have l2 : (T2 ++ ⟨#[41]⟩ : ByteArray).data.toList = tT j := by rw [HST2.out.2]; unfold rB ofL tT; simp
              have l3 : U.data.toList = tU (148 + m) := by rw [HU.out, hqm]; unfold rB ofL tU; simp
              rw [l1, code_S ⟨j, by omega⟩] at P1
              rw [l2, code_T ⟨j, by omega⟩] at P2
              rw [l3, code_U ⟨m, by omega⟩] at P3
              clear l1 l2 l3 t2 HST2 HU HP hqm
              have B : ∃ c d : Int, (∃ x : Bool, x = decide ((j : Int) ≤ 12) ∧ ((x = true ∧ c = 0) ∨ (x = false ∧ c = 3))) ∧ (∃ x : Bool, x = decide (148 + (m : Int) + 1 ≤ 150) ∧ ((x = true ∧ d = 0) ∨ (x = false ∧ d = 3))) ∧ c = (if j ≤ 12 then 0 else 3) ∧ d = (if m ≤ 1 then 0 else 3) := by
                refine ⟨_, _, ⟨_, rfl, ?_⟩, ⟨_, rfl, ?_⟩, rfl, rfl⟩
                · by_cases h : j ≤ 12
                  · left; exact ⟨by rw [decide_eq_true_eq]; omega, if_pos h⟩
                  · right; exact ⟨by rw [decide_eq_false_iff_not]; omega, if_neg h⟩
                · by_cases h : m ≤ 1
                  · left; exact ⟨by rw [decide_eq_true_eq]; omega, if_pos h⟩
                  · right; exact ⟨by rw [decide_eq_false_iff_not]; omega, if_neg h⟩
              obtain ⟨c, d, ⟨x, hx, hc⟩, ⟨y, hy, hd⟩, ec, ed⟩ := B
              replace P1 := P1.out
              replace P2 := P2.out
              replace P3 := P3.out
              simp only [] at P1 P2 P3
              rw [← ec] at P1 P2
              rw [← ed] at P3
              replace P1 := Lib.hid P1
              replace P2 := Lib.hid P2
              replace P3 := Lib.hid P3
              clear ec ed
              go_wp2_with fail
              refine (P1.out _ (Below.refl _ _)).mono ?_
              rintro e w1 ⟨hb1, v1, a1, rfl⟩
              have H1 := Lib.hid hb1
              clear hb1
              go_wp2_with fail
              refine (P2.out _ H1.out).mono ?_
              rintro e w2 ⟨hb2, v2, a2, rfl⟩
              have H2 := Lib.hid (H1.out.trans (hb2.mono H1.out.size))
              clear hb2
              go_wp2_with fail
              refine (P3.out _ H2.out).mono ?_
              rintro e w3 ⟨hb3, v3, a3, rfl⟩
              have H3 := Lib.hid (H2.out.trans (hb3.mono H2.out.size))
              clear hb3
              go_wp2_with fail
              refine (HA.out _ H3.out).mono ?_
              rintro e w4 ⟨rfl, hb4⟩
              have H4 := Lib.hid (H3.out.trans (hb4.mono H3.out.size))
              clear hb4
              have f0 : ((j : Int) == 0) = true ∨ ((j : Int) == 0) = false := by cases ((j : Int) == 0) <;> simp
              rcases hc with ⟨rfl, rfl⟩ | ⟨rfl, rfl⟩ <;> rcases hd with ⟨rfl, rfl⟩ | ⟨rfl, rfl⟩ <;> rcases f0 with f0 | f0
              all_goals
                have hx1 := hx.symm
                have hy1 := hy.symm
                clear hx hy
                go_wp2_with fail
                go_ret
                exact ⟨rfl, H4.out⟩

end Go.Proofs.YtnehbpfgdeilhaaGreatDoor

namespace Go.Proofs.YtnehbpfgdeilhaaGreatDoor
open Go.ChangeShapes Go.WideShapes Go.ChangeAt Go.RowKit Go.Fl
open Go.Shelf

theorem parse_code (S : ByteArray) (w : World) (hs : S.size ≤ maxLen) (he : Env w) :
    Calls Tryz.prog 5 #[.string S] w fun e w' => Below w.heap.size w w' ∧ ∃ v a, e = .returned (.tuple #[v, .int .i64 a, .int .i64 (prsC (wdsO canonN S.data.toList))]) := by
  refine (parse_any S w hs he).mono ?_
  rintro e w' ⟨hb, h⟩
  refine ⟨hb, ?_⟩
  unfold parseO at h
  unfold prsC
  split at h
  · rename_i a l heq
    split at heq
    · rename_i h0
      rw [if_pos h0]
      unfold prsW at heq
      split at heq
      · rename_i hp
        rw [hp]
        obtain ⟨v, rfl, -⟩ := h
        exact ⟨v, 0, rfl⟩
      · cases heq
    · cases heq
  · rename_i a b c heq
    subst h
    split at heq
    · rename_i h0
      rw [if_pos h0]
      unfold prsW at heq
      split at heq
      · cases heq
      · rename_i hp
        rw [hp]
        cases heq
        exact ⟨_, _, rfl⟩
    · rename_i h0
      rw [if_neg h0]
      cases heq
      exact ⟨_, _, rfl⟩

theorem deep_walk (n st : Int) (W : World) (he : Env W) :
    Calls Tryz.prog 3 #[.int .i64 n, .int .i64 st] W fun e w' => e = .returned (.bool true) ∧ Below W.heap.size W w' :=
  deep_core n st W (Lib.hid fun w S hb hs => parse_code S w hs (he.on hb)) (Lib.hid fun w hb => pawake_any w (he.on hb))

end Go.Proofs.YtnehbpfgdeilhaaGreatDoor
