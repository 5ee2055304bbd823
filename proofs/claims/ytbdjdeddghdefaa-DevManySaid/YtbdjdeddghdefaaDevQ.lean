/- Plan of one fall, or of none -/
import Derived.Test.YtbdjdeddghdefaaDevP
import Derived.Test.YtbdjdeddghdefaaLay2
namespace Go.Proofs.Ytbdjdeddghdefaa
open Go.ChangeShapes Go.WideShapes Go.ChangeAt Go.RowKit
open Go.Shelf

theorem isortF (v f : Value) (m : Nat) (hm : m ≤ 1) (w : World) :
    Calls Try.prog 73 #[v, .int .i64 0, .int .i64 m, f] w fun e w' => e = .returned (.tuple #[]) ∧ w = w' := by
  have h1 : ¬ (1 : Int) < (m : Int) := by omega
  go_enter Try.func73, Try.ntmps73
  go_wp2_with fail
  go_loopg [8] 0 (fun _ va wr => va = .int .i64 1 ∧ wr = w)
  case atStart => exact ⟨rfl, rfl⟩
  case round =>
    obtain ⟨rfl, rfl⟩ := hrel
    go_wp2_with fail
    go_end0
    exact ⟨rfl, rfl⟩

theorem stableF (v f : Value) (m : Nat) (hm : m ≤ 1) (w : World) :
    Calls Try.prog 66 #[v, .int .i64 m, f] w fun e w' => e = .returned (.tuple #[]) ∧ w = w' := by
  have H := Lib.hid (isortF v f m hm w)
  have h1 : ¬ (20 : Int) ≤ (m : Int) := by omega
  have h2 : ¬ (20 : Int) < (m : Int) := by omega
  clear hm
  go_enter Try.func66, Try.ntmps66
  go_wp2_with fail
  go_loopg [7, 8] 0 (fun _ va vb wr => va = .int .i64 0 ∧ vb = .int .i64 20 ∧ wr = w)
  case atStart => exact ⟨rfl, rfl, rfl⟩
  case round =>
    obtain ⟨rfl, rfl, rfl⟩ := hrel
    go_wp2_with fail
    refine H.out.mono ?_
    rintro e w1 ⟨rfl, rfl⟩
    go_wp2_with fail
    go_loopg [6] 0 (fun _ va w2 => va = .int .i64 20 ∧ w2 = wr)
    case atStart => exact ⟨rfl, rfl⟩
    case round =>
      obtain ⟨rfl, rfl⟩ := hrel
      go_wp2_with fail
      go_end0
      exact ⟨rfl, rfl⟩

theorem sortF (A : Option Addr) (f : Value) (m c : Nat) (hm : m ≤ 1) (w : World) :
    Calls Try.prog 49 #[.slice A m c, f] w fun e w' => e = .returned (.tuple #[]) ∧ w = w' := by
  have H := Lib.hid (stableF (.slice A m c) f m hm w)
  go_enter Try.func49, Try.ntmps49
  go_wp2_with fail
  refine H.out.mono ?_
  rintro e w1 ⟨rfl, rfl⟩
  go_wp2_with fail
  go_end0
  exact ⟨rfl, rfl⟩

theorem info_fall : (Try.prog.info? 40).map (fun i => (i.zero, i.size, i.bytes)) = some (some (.agg #[.int .i64 0, .int .u64 0, .int .i64 0]), 3, 24) := by kernel_rfl

/-- a fall's cells -/
def cellsF (f : Fal) : List Value := [.int .i64 f.at_, .int .u64 (f.keep : Int), .int .i64 f.torn]

theorem cloneF {w : World} {b : Nat} {f : Fal} (hw : w.heap[b]? = some (.cells (cellsF f).toArray 40 (0, 0))) (c : Nat) :
    Calls Try.prog 48 #[.slice (some ⟨b, 0, none⟩) 1 c] w fun e w' => ∃ v', e = .returned v' ∧ w'.ownsRow w.heap.size 40 3 v' 1 (cellsF f) ∧ v' ≠ .slice none 0 0 ∧ Below w.heap.size w w' := by
  obtain ⟨i0, hi0, hz0, hz1, hz2⟩ := info_parts info_fall
  have hsz : ∀ w, (Go.sizeOf 40).run Try.prog w = .ok 3 w := fun w => by simp [sizeOf, typeInfo, hi0, hz1]
  refine AnyE.slices_Clone cloneFall i0 (.agg #[.int .i64 0, .int .u64 0, .int .i64 0]) 3 24 hi0 hz0 hz1 hz2 rfl (by decide) hsz b 0 1 c (cellsF f) w rfl (by unfold maxLen; omega) (by omega) (fun j x hj => ?_) (by intro u hu; simp only [cellsF, List.mem_cons, List.not_mem_nil, or_false] at hu; rcases hu with rfl | rfl | rfl <;> rfl)
  rw [Nat.zero_add, cell_of_row w b _ _ _ _ hw]
  simpa using hj

theorem cloneF_nil (w : World) : Calls Try.prog 48 #[.slice none 0 0] w fun e w' => e = .returned (.slice none 0 0) ∧ w = w' := by
  refine (AnyE.slices_Clone_nil cloneFall 0 0 w).mono ?_
  rintro e w' ⟨h1, h2⟩
  exact ⟨h1, h2.symm⟩

theorem owns_plan {w : World} {n : Nat} {v : Value} {f : Fal} (h : w.ownsRow n 40 3 v 1 (cellsF f)) (hk : f.keep < 18446744073709551616) : IsPlan w v [f] ∧ ∃ A c, v = .slice A 1 c := by
  rcases h.2 with ⟨-, h0⟩ | ⟨g, cap, cur, rfl, -, hg, hc, hm, -, ht⟩
  · cases h0
  · refine ⟨⟨_, cap, rfl, hc, by unfold maxLen at hm; omega, .inr ⟨g, 0, cur, rfl, hg, fun i hi => ?_⟩⟩, _, _, rfl⟩
    have hi0 : i = 0 := by simp at hi; omega
    subst hi0
    have e (j : Nat) (hj : j < 3) : cur[j]? = (cellsF f)[j]? := by
      rw [← ht, List.getElem?_take, if_pos (by omega), Array.getElem?_toList]
    refine ⟨?_, ?_, ?_, hk⟩
    · rw [show 0 + 0 * 3 = 0 from rfl, e 0 (by omega)]; rfl
    · rw [show 0 + (0 * 3 + 1) = 1 from rfl, e 1 (by omega)]; rfl
    · rw [show 0 + (0 * 3 + 2) = 2 from rfl, e 2 (by omega)]; rfl


end Go.Proofs.Ytbdjdeddghdefaa
