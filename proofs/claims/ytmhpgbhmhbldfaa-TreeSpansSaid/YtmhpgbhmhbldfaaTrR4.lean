/- awake of layer 8; a list of texts that came in -/
import Derived.Test.YtmhpgbhmhbldfaaTrR1
namespace Go.Proofs.Ytmhpgbhmhbldfaa
open Go.ChangeShapes Go.WideShapes Go.ChangeAt Go.RowKit Go.Shelf Go.Deep

theorem TSt.ris {w : World} {N t next root : Nat} {m : List ByteArray} (h : TSt w N t next root m) : RisK ltS m := by
  rcases h with ⟨-, ⟨rfl, -⟩ | ⟨M, G, laid, T, -, -, -, -, -, -, -, hi, rfl⟩⟩
  · exact List.Pairwise.nil
  · exact hi.ris

def keyK : ByteArray := ⟨#[107, 101, 121]⟩
def keyJ : ByteArray := ⟨#[107]⟩
theorem keyKJ : keyJ ≠ keyK := by decide

set_option maxHeartbeats 2000000 in
set_option maxRecDepth 100000 in
theorem awake8 (w : World) : Calls Try.prog 5 #[] w fun e w' => e = .returned (.bool true) ∧ Below w.heap.size w w' := by
  have HC0 := Lib.hid (new_c 0 1 w)
  go_enter Try.func5, Try.ntmps5
  go_wp2_with fail
  refine HC0.out.mono ?_
  rintro e w1 ⟨rfl, hT, hb1⟩
  have HB1 := Lib.hid hb1
  have HC1 := Lib.hid (add_no (N := w.heap.size) (k := keyK) ⟨Nat.le_refl _, .inl ⟨rfl, rfl, hT⟩⟩ hb1.size (by decide) (by decide) (Nat.le_refl _) (by decide) (by simp))
  clear hT hb1
  go_wp2_with fail
  refine HC1.out.mono ?_
  rintro e w2 ⟨rfl, next', root', -, -, h0, hT2, -, hb2⟩
  obtain ⟨rfl, rfl⟩ := h0 rfl
  have hins : insK ltS keyK [] = [keyK] := rfl
  rw [hins] at hT2
  have HB2 := Lib.hid hb2
  have HC2 := Lib.hid (add_yes (k := keyK) hT2 (by decide) (by decide) (by decide) (List.mem_singleton.2 rfl))
  clear hb2 hT2
  go_wp2_with fail
  refine HC2.out.mono ?_
  rintro e w3 ⟨rfl, hb3, hT3⟩
  have HB3 := Lib.hid hb3; have HT3 := Lib.hid hT3
  have HC3 := Lib.hid (has_key hT3 (by decide) (by decide) keyK)
  clear hb3 hT3
  go_wp2_with fail
  refine HC3.out.mono ?_
  rintro e w4 ⟨⟨b, rfl, hx⟩, hb4⟩
  obtain rfl : b = true := hx.2 (List.mem_singleton.2 rfl)
  have hT4 := HT3.out.on hb4
  have HB4 := Lib.hid hb4; have HT4 := Lib.hid hT4
  have HC4 := Lib.hid (has_key hT4 (by decide) (by decide) keyJ)
  clear hx hb4 hT4
  go_wp2_with fail
  refine HC4.out.mono ?_
  rintro e w5 ⟨⟨b, rfl, hx⟩, hb5⟩
  obtain rfl : b = false := by
    cases b with
    | false => rfl
    | true => exact absurd (List.mem_singleton.1 (hx.1 rfl)) keyKJ
  have hT5 := HT4.out.on hb5
  obtain ⟨la, go, hI⟩ := hT5.isT
  have HB5 := Lib.hid hb5
  have HC5 := Lib.hid (root_c hI)
  clear hx hb5 hT5 hI
  go_wp2_with fail
  refine HC5.out.mono ?_
  rintro e w6 ⟨rfl, hb6⟩
  have HF : Hid (Below w.heap.size w w6) := Lib.hid (by
    have q1 := HB1.out.size
    have h2 := HB1.out.trans HB2.out
    have h3 := h2.trans (HB3.out.mono h2.size)
    have h4 := h3.trans (HB4.out.mono h3.size)
    have h5 := h4.trans (HB5.out.mono h4.size)
    exact h5.trans (hb6.mono h5.size))
  clear hb6
  go_wp2_with fail
  go_ret
  exact ⟨rfl, HF.out⟩

/-- few, of any text -/
theorem few_c2 (s : ByteArray) (w : World) (hs : s.size ≤ 9223372036854775807) : Calls Try.prog 7 #[.string s] w fun e w' => e = .returned (.string (fewS s)) ∧ Below w.heap.size w w' := by
  unfold fewS
  by_cases h : 100 < s.size
  · rw [if_pos h]
    have h1 : (100 : Int) < (s.size : Int) := by omega
    go_enter Try.func7, Try.ntmps7
    go_wp2_with fail
    go_ret
    exact ⟨by simp, Below.refl _ _⟩
  · rw [if_neg h]
    have h1 : ¬ (100 : Int) < (s.size : Int) := by omega
    go_enter Try.func7, Try.ntmps7
    go_wp2_with fail
    go_ret
    exact ⟨rfl, Below.refl _ _⟩

section
variable {H : Type} {enc : TypeId × Value → H} {w : World} {spare : Nat → Bool} {held : Bool}

set_option maxRecDepth 100000 in
theorem open_keys {v : Value} {b0 : Nat} {d : DataW H} {p : List MemPlace} (hv : Value.okWide Try.prog w .any b0 22 v) (h : DataW.Trod enc Try.prog w 0 spare held 22 v d p) :
    ∃ (A : Option Addr) (cap : Nat) (l : List ByteArray), v = .slice A l.length cap ∧ SAt w w.heap.size A l ∧ l.length ≤ 9223372036854775807 ∧ ∀ s ∈ l, s.size ≤ 9223372036854775807 := by
  obtain ⟨a0, len, cap, rfl⟩ := okWide_slice Try.underlying22 hv
  obtain ⟨fuel, hf⟩ := h
  rcases Go.Deep.open_slice1 Try.underlying22 (by kernel_rfl) hf with ⟨hcs, _⟩ | ⟨x, l, c, m, n, V, D, Pl, hcs, _, hl, hm, hmm, _, hcell⟩
  · simp [Value.cells] at hcs
    obtain ⟨rfl, rfl, rfl⟩ := hcs
    exact ⟨none, 0, [], rfl, fun i s h => by simp at h, by simp, by simp⟩
  · simp [Value.cells] at hcs
    obtain ⟨rfl, rfl, rfl⟩ := hcs
    have hlm : len ≤ m := by rw [hmm]; split <;> omega
    have hlc : len ≤ cap := hl
    have hfl : ∀ i, i < len → ∃ z : ByteArray, V i = .string z ∧ z.size ≤ 9223372036854775807 := by
      intro i hi
      obtain ⟨h1, h2⟩ := hcell i (by omega)
      obtain ⟨z, hz, -, hs⟩ := DataW.trod_string Try.underlying9 h2
      simp at hz
      unfold maxLen at hs
      exact ⟨z, hz, hs⟩
    unfold maxLen at hm
    have hll : ((List.range len).map fun i => match V i with | .string z => z | _ => ByteArray.empty).length = len := by simp
    have hat : ∀ i s, ((List.range len).map fun i => match V i with | .string z => z | _ => ByteArray.empty)[i]? = some s → i < len ∧ V i = .string s ∧ s.size ≤ 9223372036854775807 := by
      intro i s hi
      have hil : i < len := by have := (List.getElem?_eq_some_iff.1 hi).1; rwa [hll] at this
      obtain ⟨y, hy, hsz⟩ := hfl i hil
      rw [List.getElem?_map, List.getElem?_range hil] at hi
      simp only [Option.map_some, hy, Option.some.injEq] at hi
      subst hi
      exact ⟨hil, hy, hsz⟩
    refine ⟨some x, cap, (List.range len).map fun i => match V i with | .string z => z | _ => ByteArray.empty, by rw [hll], fun i s hi => ?_, by rw [hll]; omega, fun s hs => ?_⟩
    · obtain ⟨hil, hV, -⟩ := hat i s hi
      obtain ⟨b, off, spot⟩ := x
      have hspot : spot = none := by simpa [Addr.add] using World.cell?_spot (hcell 0 (by omega)).1
      subst hspot
      have h1 := (hcell i (by omega)).1
      rw [Go.WideShapes.add_plain] at h1
      exact ⟨b, off, rfl, World.block_lt_of_cell? w _ h1, by rw [h1, hV]⟩
    · obtain ⟨i, hi⟩ := List.getElem?_of_mem hs
      exact (hat i s hi).2.2
end

end Go.Proofs.Ytmhpgbhmhbldfaa
