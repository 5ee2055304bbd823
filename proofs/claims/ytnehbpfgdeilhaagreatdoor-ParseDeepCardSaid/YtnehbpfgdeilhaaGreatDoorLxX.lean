/- Words, told for the laws; awake -/
import Derived.Test.YtnehbpfgdeilhaaGreatDoorLxW
namespace Go.Proofs.YtnehbpfgdeilhaaGreatDoor
open Go.ChangeShapes Go.WideShapes Go.ChangeAt Go.RowKit Go.Fl
open Go.Shelf

theorem words_good (S : ByteArray) (ws : List Wd) (w : World) (hs : S.size ≤ maxLen) (he : Env w) (h : wdsO canonN S.data.toList = (ws, 0, 0)) :
    Calls Tryz.prog 8 #[.string S] w fun e w' => ∃ g cap, e = .returned (.tuple #[.slice (some ⟨g, 0, none⟩) ws.length cap, .int .i64 0, .int .i64 0]) ∧ ws.length ≤ cap ∧ g < w'.heap.size ∧ (∀ j k (hj : j < ws.length), k < 5 → w'.cell? ⟨g, j * 5 + k, none⟩ = (wdC ws[j])[k]?) ∧ Below w.heap.size w w' := by
  refine (words_any S w hs he).mono ?_
  rintro e w' ⟨v, he1, h1, hb⟩
  rw [h] at he1 h1
  rcases h1 with ⟨-, g, cap, rfl, hc, hg, hcl⟩ | ⟨h0, -⟩
  · exact ⟨g, cap, he1, hc, hg, hcl, hb⟩
  · exact absurd rfl h0

theorem words_bad (S : ByteArray) (a : Nat) (er : Int) (ws : List Wd) (w : World) (hs : S.size ≤ maxLen) (he : Env w) (h : wdsO canonN S.data.toList = (ws, a, er)) (h0 : er ≠ 0) :
    Calls Tryz.prog 8 #[.string S] w fun e w' => e = .returned (.tuple #[.slice none 0 0, .int .i64 (a : Nat), .int .i64 er]) ∧ Below w.heap.size w w' := by
  refine (words_any S w hs he).mono ?_
  rintro e w' ⟨v, he1, h1, hb⟩
  rw [h] at he1 h1
  rcases h1 with ⟨h2, -⟩ | ⟨-, rfl⟩
  · exact absurd h2 h0
  · exact ⟨he1, hb⟩

theorem wdsGo_step {cn : Nat → Nat} {l : List UInt8} {fu a n b : Nat} {acc : List Wd} {x : Wd} (ha : a < l.length) (hr : readO cn (l.drop a) = some (x, n)) (hb : runP spcB l (a + n) = b) :
    wdsGo cn l (fu + 1) a acc = wdsGo cn l fu b (acc ++ [{ x with at_ := a }]) := by
  rw [wdsGo, if_pos ha, hr]
  show wdsGo cn l fu (runP spcB l (a + n)) _ = _
  rw [hb]

theorem wdsGo_end {cn : Nat → Nat} {l : List UInt8} {fu : Nat} {acc : List Wd} (h : acc.length ≤ 1500) : wdsGo cn l (fu + 1) l.length acc = (acc ++ [⟨0, ⟨#[]⟩, 0, 0, l.length⟩], 0, 0) := by
  rw [wdsGo, if_neg (Nat.lt_irrefl _), if_neg (by omega)]

theorem itoa_5 : Lib.itoa (-5) = [45, 53] := by
  unfold Lib.itoa
  rw [if_pos (by decide), show (-5 : Int).natAbs = 5 by decide, Lib.decDigits_one (by decide)]
  rfl

def awL : List UInt8 := [86, 40, 39, 97, 92, 120, 48, 48, 39, 44, 32, 45, 53, 41]

theorem aw_num : readO canonN (awL.drop 11) = some (⟨2, ofL [45, 53], -5, 0, 0⟩, 2) := by
  have h : readO canonN (awL.drop 11) = numO [45, 53, 41] := by kernel_rfl
  rw [h]
  unfold numO
  rw [show Lib.parseIntB 64 (numL [45, 53, 41]) = .ok (-5) by decide +kernel]
  simp only []
  rw [show numL [45, 53, 41] = [45, 53] by decide +kernel, itoa_5, if_pos rfl]
  rfl

def awW : List Wd := [⟨1, ofL [86], 0, 0, 0⟩, ⟨5, ofL [40], 0, 0, 1⟩, ⟨4, ofL [97, 0], 0, 0, 2⟩, ⟨5, ofL [44], 0, 0, 9⟩, ⟨2, ofL [45, 53], -5, 0, 11⟩, ⟨5, ofL [41], 0, 0, 13⟩, ⟨0, ⟨#[]⟩, 0, 0, 14⟩]

theorem aw_words : wdsO canonN awL = (awW, 0, 0) := by
  unfold wdsO
  rw [if_neg (by decide), show runP spcB awL 0 = 0 by decide, show awL.length + 1 = 15 from rfl]
  rw [wdsGo_step (a := 0) (x := ⟨1, ofL [86], 0, 0, 0⟩) (n := 1) (b := 1) (by decide) (by kernel_rfl) (by decide)]
  rw [wdsGo_step (a := 1) (x := ⟨5, ofL [40], 0, 0, 0⟩) (n := 1) (b := 2) (by decide) (by kernel_rfl) (by decide)]
  rw [wdsGo_step (a := 2) (x := ⟨4, ofL [97, 0], 0, 0, 0⟩) (n := 7) (b := 9) (by decide) (by kernel_rfl) (by decide)]
  rw [wdsGo_step (a := 9) (x := ⟨5, ofL [44], 0, 0, 0⟩) (n := 1) (b := 11) (by decide) (by kernel_rfl) (by decide)]
  rw [wdsGo_step (a := 11) (x := ⟨2, ofL [45, 53], -5, 0, 0⟩) (n := 2) (b := 13) (by decide) aw_num (by decide)]
  rw [wdsGo_step (a := 13) (x := ⟨5, ofL [41], 0, 0, 0⟩) (n := 1) (b := 14) (by decide) (by kernel_rfl) (by decide)]
  rw [show (14 : Nat) = awL.length from rfl, wdsGo_end (by decide)]
  rfl

end Go.Proofs.YtnehbpfgdeilhaaGreatDoor
