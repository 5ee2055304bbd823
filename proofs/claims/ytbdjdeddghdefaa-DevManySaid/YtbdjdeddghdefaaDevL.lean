/- what the laws of the device call: Write, Crash in all cases; a sector of one letter -/
import Derived.Test.YtbdjdeddghdefaaDevC
namespace Go.Proofs.Ytbdjdeddghdefaa
open Go.ChangeShapes Go.WideShapes Go.ChangeAt Go.RowKit

theorem crash_any {w : World} {B S M : Nat} {pv : Oth} {d : Dv} (h : IsDev w B S M pv d) {keep : Nat} (hk : keep < 18446744073709551616) (torn : Int) :
    Calls Try.prog 30 #[.pointer (some ⟨B, 0, none⟩), .int .u64 keep, .int .i64 torn] w fun e w' =>
      e = .returned (.tuple #[]) ∧ IsDev w' B S M pv (crashD d keep torn) ∧ Only (dev3 B S M) w w' := by
  cases ho : d.off
  · exact crash_in h ho hk torn
  · have e0 : crashD d keep torn = d := by simp only [crashD, ho]; rfl
    have HO := Lib.hid (off_any h)
    rw [ho] at HO
    rw [e0]
    have H := Lib.hid h
    clear h e0 ho hk
    go_enter Try.func30, Try.ntmps30
    go_wp2_with (first
      | (go_at_call 38; refine HO.out.mono ?_; rintro e w' ⟨rfl, rfl⟩)
      | fail)
    refine bodyPost_ret (results_none rfl _ _ _) rfl ?_
    exact ⟨rfl, H.out, Only.refl _ _⟩

set_option maxRecDepth 100000 in
theorem write_any {w : World} {B S M : Nat} {pv : Oth} {d : Dv} (h : IsDev w B S M pv d) (hst : StepC d) (a : Int) (s : ByteArray) :
    Calls Try.prog 31 #[.pointer (some ⟨B, 0, none⟩), .int .i64 a, .string s] w fun e w' =>
      e = .returned (.int .i64 (writeD d a s.data.toList).2) ∧ (∃ pv', IsDev w' B S M pv' (writeD d a s.data.toList).1) ∧ Only (dev3 B S M) w w' := by
  have hsl : s.data.toList.length = s.size := by rw [Array.length_toList]; rfl
  have H := Lib.hid h
  have HO := Lib.hid (off_any h)
  have HH := Lib.hid (has_any h a)
  cases ho : d.off
  · by_cases hh : 0 ≤ a ∧ a < d.sure.length
    · obtain ⟨n, rfl⟩ : ∃ n : Nat, a = n := ⟨a.toNat, by omega⟩
      by_cases hs : s.size = 128
      · exact write_in h ho hst (by omega) hs
      · have e0 : writeD d n s.data.toList = (d, 1) := by
          simp only [writeD, ho]
          rw [if_neg (by simp), if_neg (by rw [hsl]; exact fun e => hs e.2.2)]
        rw [e0]
        rw [ho] at HO
        have e1 : (decide (0 ≤ (n : Int)) && decide ((n : Int) < d.sure.length)) = true := by simpa using hh.2
        rw [e1] at HH
        have hln : (Builtin.len_ #[9] 3 #[.string s]).run Try.prog w = .ok (.int .i64 (s.size : Int)) w := by simp [Builtin.len_, goInt]
        have hb : ((s.size : Int) == 128) = false := by
          rw [beq_eq_false_iff_ne]; omega
        clear h hst e0 hh hsl hs e1 ho
        go_enter Try.func31, Try.ntmps31
        go_wp2_with (first
          | (go_at_call 38; refine HO.out.mono ?_; rintro e w' ⟨rfl, rfl⟩)
          | (go_at_call 54; refine HH.out.mono ?_; rintro e w' ⟨rfl, rfl⟩)
          | fail)
        go_ret
        exact ⟨rfl, ⟨_, H.out⟩, Only.refl _ _⟩
    · have e0 : writeD d a s.data.toList = (d, 1) := by
        simp only [writeD, ho]
        rw [if_neg (by simp), if_neg (fun e => hh ⟨e.1, e.2.1⟩)]
      rw [e0]
      rw [ho] at HO
      have e1 : (decide (0 ≤ a) && decide (a < d.sure.length)) = false := by
        rw [Bool.eq_false_iff]; intro e; simp at e; exact hh ⟨e.1, e.2⟩
      rw [e1] at HH
      clear h hst e0 hh hsl e1 ho
      go_enter Try.func31, Try.ntmps31
      go_wp2_with (first
        | (go_at_call 38; refine HO.out.mono ?_; rintro e w' ⟨rfl, rfl⟩)
        | (go_at_call 54; refine HH.out.mono ?_; rintro e w' ⟨rfl, rfl⟩)
        | fail)
      go_ret
      exact ⟨rfl, ⟨_, H.out⟩, Only.refl _ _⟩
  · have e0 : writeD d a s.data.toList = (d, 7) := by simp only [writeD, ho]; rfl
    rw [ho] at HO
    rw [e0]
    clear h hst e0 ho hsl
    go_enter Try.func31, Try.ntmps31
    go_wp2_with (first
      | (go_at_call 38; refine HO.out.mono ?_; rintro e w' ⟨rfl, rfl⟩)
      | fail)
    go_ret
    exact ⟨rfl, ⟨_, H.out⟩, Only.refl _ _⟩

/-- a sector of one letter -/
def letter (c : UInt8) : Sec := List.replicate 128 c

theorem letter_len (c : UInt8) : (letter c).length = 128 := List.length_replicate

/-- so far -/
def soFar (c : UInt8) (i : Nat) : Array Value := (Lib.byteCells (List.replicate i c ++ List.replicate (128 - i) 0)).toArray

theorem soFar_size (c : UInt8) {i : Nat} (hi : i ≤ 128) : (soFar c i).size = 128 := by
  simp only [soFar, List.size_toArray, Lib.byteCells_length, List.length_append, List.length_replicate]; omega

theorem soFar_set (c : UInt8) {i : Nat} (hi : i < 128) : (soFar c i).setIfInBounds i (.int .u8 (c.toNat : Int)) = soFar c (i + 1) := by
  have e : ∀ k j : Nat, k ≤ 128 → (soFar c k)[j]? = if j < k then some (Value.int .u8 (c.toNat : Int)) else if j < 128 then some (.int .u8 0) else none := by
    intro k j hk
    simp only [soFar, List.getElem?_toArray, Lib.byteCells, List.getElem?_map, List.getElem?_append, List.length_replicate, List.getElem?_replicate]
    by_cases h1 : j < k
    · rw [if_pos h1, if_pos h1, if_pos h1]; rfl
    · rw [if_neg h1, if_neg h1]
      by_cases h2 : j < 128
      · rw [if_pos h2, if_pos (by omega)]; rfl
      · rw [if_neg h2, if_neg (by omega)]; rfl
  apply Array.ext_getElem?
  intro j
  rw [Array.getElem?_setIfInBounds, e _ _ (by omega), e _ _ (by omega), soFar_size c (by omega)]
  by_cases h1 : i = j
  · subst h1
    rw [if_pos rfl, if_pos hi, if_pos (by omega)]
  · rw [if_neg h1]
    by_cases h2 : j < i
    · rw [if_pos h2, if_pos (by omega)]
    · rw [if_neg h2, if_neg (show ¬ j < i + 1 by omega)]

theorem info_u8 : (Try.prog.info? 5).map (fun i => (i.zero, i.size, i.bytes)) = some (some (.int .u8 0), 1, 1) := by kernel_rfl

set_option maxRecDepth 100000 in
theorem sector_any (c : UInt8) (w : World) :
    Calls Try.prog 32 #[.int .u8 (c.toNat : Int)] w fun e w' => e = .returned (.string ⟨(letter c).toArray⟩) ∧ Below w.heap.size w w' := by
  obtain ⟨i0, hi0, hz0, hz1, hz2⟩ := info_parts info_u8
  have hmk := fun W => make_row (P := Try.prog) 64 5 i0 _ Try.underlying64 hi0 hz0 .i64 .i64 128 128 (Nat.le_refl _) (by rw [hz2]; decide) (by decide) W
  have e0 : madeCells (Value.int .u8 0).cells (128 * 1) = soFar c 0 := by
    have e1 : (Value.int .u8 0).cells = #[.int .u8 0] := rfl
    rw [e1]
    apply Array.ext_getElem?
    intro j
    simp only [madeCells, soFar, Array.getElem?_map, List.getElem?_toArray, Lib.byteCells, List.getElem?_map, List.replicate_zero, List.nil_append, List.getElem?_replicate, Array.getElem?_range]
    by_cases hj : j < 128
    · rw [if_pos (by omega), if_pos (by omega)]
      simp only [Option.map_some]
      rw [getElem!_pos _ _ (by simp; omega)]
      simp [Nat.mod_one]
    · rw [if_neg (by omega), if_neg (by omega)]; rfl
  rw [hz1, e0] at hmk
  clear hi0 hz0 hz1 hz2 e0
  have hmk' : ∀ W, (Instr.makeSlice 64 (.int .i64 128) (.int .i64 128)).run Try.prog W = .ok (.slice (some ⟨W.heap.size, 0, none⟩) 128 128) (W.alloc (.cells (soFar c 0) 5)) := hmk
  clear hmk
  go_enter Try.func32, Try.ntmps32
  go_wp2_with fail
  go_loopw [4] (fun si wr => ∃ i : Nat, i ≤ 128 ∧ si = .int .i64 i ∧ Hid (Below w.heap.size w wr) ∧ Hid (wr.heap[w.heap.size]? = some (.cells (soFar c i) 5 (0, 0)))) (fun si _ => 128 - (intOf si).toNat)
  case atStart => exact ⟨0, by omega, rfl, (Below.refl _ _).alloc (Nat.le_refl _) _, heap_alloc_last w _⟩
  case round =>
    obtain ⟨i, hi, rfl, hb, hh⟩ := hrel
    by_cases hlt : i < 128
    · have hc : wr.cell? ⟨w.heap.size, i, none⟩ = (soFar c i)[i]? := cell_of_row wr _ _ _ _ _ hh.out
      obtain ⟨u, hu⟩ : ∃ u, (soFar c i)[i]? = some u := ⟨_, Array.getElem?_eq_getElem (by rw [soFar_size c hi]; exact hlt)⟩
      rw [hu] at hc
      have hf : wr.frozen? ⟨w.heap.size, i, none⟩ = false := by simp [World.frozen?, hh.out]
      have hn : (wr.setCell ⟨w.heap.size, i, none⟩ (.int .u8 (c.toNat : Int))).heap[w.heap.size]? = some (.cells (soFar c (i + 1)) 5 (0, 0)) := by
        rw [heap_setCell_same wr _ _ _ _ _ hh.out, soFar_set c hlt]
      have HN := Lib.hid hn
      clear hn hu
      go_wp2_with fail
      go_roundw
      case rel => exact ⟨i + 1, hlt, by congr 1, (hb.out.setCell (Nat.le_refl _) _), HN⟩
      case measure => simp [intOf]; omega
    · obtain rfl : i = 128 := by omega
      have hcv : (convert 64 9 (.slice (some ⟨w.heap.size, 0, none⟩) 128 128)).run Try.prog wr = .ok (.string ⟨(letter c).toArray⟩) wr := by
        have := run_convert_bytes_back (P := Try.prog) wr 64 9 5 ⟨w.heap.size, 0, none⟩ 128 (letter c) Try.underlying64 Try.underlying5 Try.underlying9 (fun j hj => by
          rw [Addr.add_mid, Nat.zero_add, cell_of_row _ _ _ _ _ _ hh.out]
          have hj' : j < 128 := by rw [letter_len] at hj; exact hj
          simp only [soFar, List.getElem?_toArray, Lib.byteCells, List.getElem?_map, Nat.sub_self, List.replicate_zero, List.append_nil, List.getElem?_replicate, if_pos hj', letter, List.getElem_replicate]
          rfl)
        rwa [letter_len] at this
      clear hlt
      go_wp2_with fail
      go_ret
      exact ⟨rfl, hb.out⟩

end Go.Proofs.Ytbdjdeddghdefaa
