/- the log's small functions -/
import Derived.Test.YtaoaidjbpfdgmaaDevP
import Derived.Test.YtaoaidjbpfdgmaaStr
namespace Go.Proofs.Ytaoaidjbpfdgmaa
open Go.ChangeShapes Go.WideShapes Go.ChangeAt Go.RowKit
open Go.Shelf

/-- a text of at most so many bytes, noughts behind it -/
def fillS (s : Sec) (n : Nat) : Sec := s ++ List.replicate (n - s.length) 0

theorem fill_any (s : Sec) (n : Nat) (hn : s.length ≤ n) (h128 : n ≤ 128) (w : World) :
    Calls Try.prog 64 #[.string ⟨s.toArray⟩, .int .i64 n] w fun e w' => e = .returned (.string ⟨(fillS s n).toArray⟩) ∧ Below w.heap.size w w' := by
  have hl := fun W => len_str s 3 W
  have hs : wrap64 ((n : Int) - (s.length : Int)) = ((n - s.length : Nat) : Int) := by rw [wrap64_id (is64_iff.2 (by omega))]; omega
  have hrep := repeat_any ⟨#[0]⟩ (n - s.length) w (by show 1 * _ ≤ _; omega) (by omega)
  have e0 : (⟨#[0]⟩ : ByteArray).data.toList = [0] := rfl
  rw [e0, repeat_nought] at hrep
  have hadd : ∀ W, (Op.stringOp .add ⟨s.toArray⟩ ⟨(List.replicate (n - s.length) (0 : UInt8)).toArray⟩).run Try.prog W = .ok (.string ⟨(fillS s n).toArray⟩) W := fun W => by
    rw [run_string_add W _ _ (by rw [str_size]; omega) (by rw [str_size, List.length_replicate]; omega), str_cat]; rfl
  have HR := Lib.hid hrep
  clear hrep e0 hn h128
  generalize List.replicate (n - s.length) (0 : UInt8) = z at hadd HR
  generalize fillS s n = r at hadd ⊢
  go_enter Try.func64, Try.ntmps64
  go_wp2_with (first
    | (go_at_call 72; (with_reducible refine HR.out.mono ?_); rintro e w' ⟨rfl, hb⟩)
    | fail)
  go_ret
  exact ⟨rfl, hb⟩

theorem cut_any (s : Sec) (n : Nat) (w : World) :
    Calls Try.prog 63 #[.string ⟨s.toArray⟩, .int .i64 n] w fun e w' => e = .returned (.tuple #[.string ⟨(s.take n).toArray⟩, .string ⟨(s.drop n).toArray⟩]) ∧ Below w.heap.size w w' := by
  have hl := fun W => len_str s 3 W
  have hmin := fun W => min_nat (P := Try.prog) n s.length 3 #[3, 3] W
  have hh := fun W => sl_head (s := s) (n := ((min n s.length : Nat) : Int)) rfl (Nat.min_le_right _ _) W
  have ht := fun W => sl_tail (s := s) (n := ((min n s.length : Nat) : Int)) rfl (Nat.min_le_right _ _) W
  have e1 : s.take (min n s.length) = s.take n := by
    rcases Nat.le_total n s.length with h | h
    · rw [Nat.min_eq_left h]
    · rw [Nat.min_eq_right h, List.take_length, List.take_of_length_le h]
  have e2 : s.drop (min n s.length) = s.drop n := by
    rcases Nat.le_total n s.length with h | h
    · rw [Nat.min_eq_left h]
    · rw [Nat.min_eq_right h, List.drop_length, List.drop_of_length_le h]
  rw [e1] at hh
  rw [e2] at ht
  clear e1 e2
  generalize min n s.length = m at hmin hh ht
  generalize s.take n = x at hh ⊢
  generalize s.drop n = y at ht ⊢
  go_enter Try.func63, Try.ntmps63
  go_wp2_with fail
  go_region
  all_goals go_wp2_with fail
  go_ret2
  exact ⟨rfl, (Below.refl _ _).drew⟩

/-- how many sectors -/
def sectN (n : Nat) : Nat := if n ≤ 104 then 1 else 2 + (n - 105) / 128

theorem sect_any (n : Nat) (hn : n ≤ 281474976710656) (w : World) :
    Calls Try.prog 21 #[.int .i64 n] w fun e w' => e = .returned (.int .i64 (sectN n)) ∧ w = w' := by
  have d0 : decide ((n : Int) < 0) = false := by simp
  by_cases h : n ≤ 104
  · have d1 : decide ((n : Int) ≤ 104) = true := by simp; omega
    have e : sectN n = 1 := by unfold sectN; rw [if_pos h]
    rw [e]
    clear h hn e
    go_enter Try.func21, Try.ntmps21
    go_wp2_with fail
    go_ret
    exact ⟨rfl, rfl⟩
  · have d1 : decide ((n : Int) ≤ 104) = false := by simp; omega
    have e : sectN n = 2 + (n - 105) / 128 := by unfold sectN; rw [if_neg h]
    have w1 : wrap64 ((n : Int) - 104) = (n : Int) - 104 := wrap64_id (is64_iff.2 (by omega))
    have w2 : wrap64 ((n : Int) - 104 - 1) = ((n - 105 : Nat) : Int) := by rw [wrap64_id (is64_iff.2 (by omega))]; omega
    have w3 : wrap64 (((n - 105 : Nat) : Int) / 128) = (((n - 105) / 128 : Nat) : Int) := by
      rw [wrap64_id (is64_iff.2 (by omega))]
      omega
    have w4 : wrap64 (2 + (((n - 105) / 128 : Nat) : Int)) = ((2 + (n - 105) / 128 : Nat) : Int) := by rw [wrap64_id (is64_iff.2 (by omega))]; omega
    rw [e]
    clear h hn e
    generalize 2 + (n - 105) / 128 = r at w4 ⊢
    generalize (n - 105) / 128 = q at w3 w4
    generalize n - 105 = z at w2 w3
    have W3 := Lib.hid w3; have W4 := Lib.hid w4
    clear w3 w4
    go_enter Try.func21, Try.ntmps21
    go_wp2_with fail
    go_ret
    refine ⟨?_, rfl⟩
    show Ending.returned (.int .i64 (wrap64 (2 + wrap64 ((z : Int) / 128)))) = _
    rw [W3.out, W4.out]

/-- a log -/
structure Lg where
  from_ : Nat
  to_ : Nat
  at_ : Nat
  next : Nat

/-- a log in memory: its own block -/
def LogAt (w : World) (G B : Nat) (g : Lg) : Prop := w.heap[G]? = some (.cells #[.pointer (some ⟨B, 0, none⟩), .int .i64 g.from_, .int .i64 g.to_, .int .i64 g.at_, .int .u64 g.next] 83 (0, 0))

section
variable {w : World} {G B : Nat} {g : Lg}

theorem LogAt.cells (h : LogAt w G B g) : w.cell? ⟨G, 0, none⟩ = some (.pointer (some ⟨B, 0, none⟩)) ∧ w.cell? ⟨G, 1, none⟩ = some (.int .i64 g.from_) ∧ w.cell? ⟨G, 2, none⟩ = some (.int .i64 g.to_) ∧ w.cell? ⟨G, 3, none⟩ = some (.int .i64 g.at_) ∧ w.cell? ⟨G, 4, none⟩ = some (.int .u64 g.next) := by
  have h' : w.heap[G]? = some (.cells #[.pointer (some ⟨B, 0, none⟩), .int .i64 g.from_, .int .i64 g.to_, .int .i64 g.at_, .int .u64 g.next] 83 (0, 0)) := h
  simp only [cell_of_row _ _ _ _ _ _ h']
  exact ⟨rfl, rfl, rfl, rfl, rfl⟩

theorem LogAt.frozen (h : LogAt w G B g) (j : Nat) : w.frozen? ⟨G, j, none⟩ = false := by
  have h' : w.heap[G]? = some (.cells #[.pointer (some ⟨B, 0, none⟩), .int .i64 g.from_, .int .i64 g.to_, .int .i64 g.at_, .int .u64 g.next] 83 (0, 0)) := h
  simp [World.frozen?, h']

theorem LogAt.lt (h : LogAt w G B g) : G < w.heap.size := (Array.getElem?_eq_some_iff.1 h).1

theorem LogAt.on {w' : World} (h : LogAt w G B g) (hb : Below w.heap.size w w') : LogAt w' G B g := (hb.block _ (LogAt.lt h)).trans h

theorem room_any (h : LogAt w G B g) (hle : g.at_ ≤ g.to_) (hto : g.to_ ≤ 65536) : Calls Try.prog 26 #[.pointer (some ⟨G, 0, none⟩)] w fun e w' => e = .returned (.int .i64 ((g.to_ - g.at_ : Nat) : Int)) ∧ Below w.heap.size w w' := by
  obtain ⟨c0, c1, c2, c3, c4⟩ := h.cells
  have hw : wrap64 ((g.to_ : Int) - (g.at_ : Int)) = ((g.to_ - g.at_ : Nat) : Int) := by rw [wrap64_id (is64_iff.2 (by omega))]; omega
  clear h hle hto
  generalize g.to_ - g.at_ = r at hw ⊢
  have HW := Lib.hid hw
  clear hw
  go_enter Try.func26, Try.ntmps26
  go_wp2_with fail
  go_region
  all_goals go_wp2_with fail
  go_ret
  refine ⟨?_, (Below.refl _ _).drew⟩
  show Ending.returned (.int .i64 (wrap64 ((g.to_ : Int) - (g.at_ : Int)))) = _
  rw [HW.out]

theorem next_any (h : LogAt w G B g) : Calls Try.prog 25 #[.pointer (some ⟨G, 0, none⟩)] w fun e w' => e = .returned (.int .u64 g.next) ∧ w = w' := by
  obtain ⟨c0, c1, c2, c3, c4⟩ := h.cells
  clear h
  go_enter Try.func25, Try.ntmps25
  go_wp2_with fail
  go_ret
  exact ⟨rfl, rfl⟩

theorem reset_any (h : LogAt w G B g) : Calls Try.prog 17 #[.pointer (some ⟨G, 0, none⟩)] w fun e w' => e = .returned (.tuple #[]) ∧ LogAt w' G B { g with at_ := g.from_ } ∧ Only (fun k => k = G) w w' := by
  obtain ⟨c0, c1, c2, c3, c4⟩ := h.cells
  have z3 := h.frozen 3
  have H := Lib.hid h
  clear h
  go_enter Try.func17, Try.ntmps17
  go_wp2_with fail
  go_end0
  exact ⟨rfl, (heap_setCell_same w G 3 _ _ _ H.out).trans rfl, (Only.refl (fun k => k = G) w).setCell (p := ⟨G, 3, none⟩) (.inl rfl) _⟩

end

end Go.Proofs.Ytaoaidjbpfdgmaa
