/- a row of at most 12 numbers, sorted -/
import Derived.Test.YtkhhmmblkfogcaaSeqU
import Derived.BigRegion
import Derived.Deep.LoopGhost
import Derived.Deep.RegionHeld3
import Derived.LoopN
namespace Go.Proofs.Ytkhhmmblkfogcaa
open Go.ChangeShapes Go.WideShapes Go.ChangeAt Go.RowKit

theorem isnan_u (x : Int) (w : World) : Calls Try.prog 49 #[.int .u64 x] w fun e w' => e = .returned (.bool false) ∧ w' = w := by
  go_enter Try.func49, Try.ntmps49
  go_wp2_with fail
  go_ret
  exact ⟨by simp, rfl⟩

theorem less_u (x y : Int) (w : World) : Calls Try.prog 39 #[.int .u64 x, .int .u64 y] w fun e w' => e = .returned (.bool (decide (x < y))) ∧ w' = w := by
  have HN := Lib.hid (isnan_u x w)
  go_enter Try.func39, Try.ntmps39
  go_wp2_with (first
    | (go_at_call 49; refine HN.out.mono ?_; rintro e w' ⟨rfl, rfl⟩)
    | fail)
  go_ret
  exact ⟨by simp, rfl⟩

/-- block g holds these numbers, and more behind them -/
def RowN (g : Nat) (sp : List Value) (l : List Nat) (w : World) : Prop := w.heap[g]? = some (.cells (l.map encU ++ sp).toArray 22 (0, 0))

theorem RowN.at {g : Nat} {sp : List Value} {l : List Nat} {w : World} (h : RowN g sp l w) {i x : Nat} (hx : l[i]? = some x) : w.cell? ⟨g, i, none⟩ = some (.int .u64 (x : Int)) := by
  rw [cell_of_row w g _ _ _ _ h]
  have hi := (List.getElem?_eq_some_iff.1 hx).1
  simp only [List.getElem?_toArray]
  rw [List.getElem?_append_left (by simpa using hi), List.getElem?_map, hx]; rfl

theorem RowN.frozen {g : Nat} {sp : List Value} {l : List Nat} {w : World} (h : RowN g sp l w) (i : Nat) : w.frozen? ⟨g, i, none⟩ = false := by
  unfold RowN at h
  simp [World.frozen?, h]

theorem RowN.swap {g : Nat} {sp : List Value} {A R : List Nat} {a x : Nat} {w : World} (h : RowN g sp (A ++ [a] ++ x :: R) w) {j : Nat} (hj : A.length = j) :
    RowN g sp (A ++ x :: (a :: R)) ((w.setCell ⟨g, j + 1, none⟩ (.int .u64 (a : Int))).setCell ⟨g, j, none⟩ (.int .u64 (x : Int))) := by
  have h1 := heap_setCell_same w g (j + 1) _ _ (.int .u64 (a : Int)) h
  have h2 := heap_setCell_same _ g j _ _ (.int .u64 (x : Int)) h1
  refine h2.trans ?_
  congr 2
  subst hj
  apply Array.toList_inj.1
  simp only [List.setIfInBounds_toArray]
  have e : (A ++ [a] ++ x :: R).map encU ++ sp = A.map encU ++ (encU a :: encU x :: (R.map encU ++ sp)) := by simp
  have e' : (A ++ x :: (a :: R)).map encU ++ sp = A.map encU ++ (encU x :: encU a :: (R.map encU ++ sp)) := by simp
  rw [e, e']
  have hl : A.length = (A.map encU).length := by simp
  rw [hl, List.set_append_right _ _ (by omega), List.set_append_right _ _ (by omega)]
  have s1 : (A.map encU).length + 1 - (A.map encU).length = 1 := by omega
  have s2 : (A.map encU).length - (A.map encU).length = 0 := by omega
  rw [s1, s2]
  rfl

theorem pw_mid {A Bs : List Nat} {x : Nat} (h : (A ++ Bs).Pairwise (· ≤ ·)) (h1 : ∀ b ∈ Bs, x ≤ b) (h2 : ∀ a ∈ A, a ≤ x) : (A ++ x :: Bs).Pairwise (· ≤ ·) := by
  obtain ⟨p1, p2, p3⟩ := List.pairwise_append.1 h
  refine List.pairwise_append.2 ⟨p1, List.pairwise_cons.2 ⟨h1, p2⟩, fun a ha b hb => ?_⟩
  rcases List.mem_cons.1 hb with rfl | hb
  · exact h2 a ha
  · exact p3 a ha b hb

set_option maxHeartbeats 4000000 in
set_option maxRecDepth 100000 in
theorem isort_u (xs : List Nat) (sp : List Value) (g cap : Nat) (w : World) (hrow : RowN g sp xs w) (hl : xs.length ≤ 12) :
    Calls Try.prog 33 #[.slice (some ⟨g, 0, none⟩) xs.length cap, .int .i64 0, .int .i64 xs.length] w fun e w' => e = .returned (.tuple #[]) ∧ ∃ ys, ys.Perm xs ∧ ys.Pairwise (· ≤ ·) ∧ RowN g sp ys w' ∧ Only (fun k => k = g) w w' := by
  have Hrow := Lib.hid hrow
  obtain ⟨n, hn⟩ : ∃ n, xs.length = n := ⟨_, rfl⟩
  rw [hn] at hl ⊢
  have HN := Lib.hid hn
  clear hrow hn
  go_enter Try.func33, Try.ntmps33
  go_wp2_with fail
  go_loopg [6] n (fun g1 vi wr => ∃ (i : Nat) (S D : List Nat), vi = .int .i64 i ∧ 1 ≤ i ∧ Hid (i ≤ n ∨ n = 0) ∧ n + 1 - i ≤ g1 + 1 ∧ Hid (i ≤ n → S.length = i) ∧ Hid (S.length ≤ i ∧ (S ++ D).Perm xs ∧ S.Pairwise (· ≤ ·) ∧ RowN g sp (S ++ D) wr) ∧ Hid (Only (fun k => k = g) w wr))
  case atStart =>
    refine ⟨1, xs.take 1, xs.drop 1, by go_num, by omega, Lib.hid (by omega), by omega, fun _ => ?_, ⟨?_, ?_, ?_, ?_⟩, Only.refl _ _⟩
    · have := HN.out; rw [List.length_take]; omega
    · rw [List.length_take]; omega
    · rw [List.take_append_drop]
    · cases xs <;> simp
    · rw [List.take_append_drop]; exact Hrow.out
  case round =>
    obtain ⟨i, S, D, rfl, hi1, hi2, hg1, HI, HS, HO⟩ := hrel
    by_cases hlt : i < n
    · obtain ⟨x, D', rfl⟩ : ∃ x D', D = x :: D' := by
        have h1 := HS.out.2.1.length_eq
        have h2 := HI.out (by omega)
        have h3 := HN.out
        cases D with
        | nil => simp at h1; omega
        | cons x D' => exact ⟨x, D', rfl⟩
      go_wp2_with fail
      go_loopg [7] i (fun g2 vj wr2 => ∃ (j : Nat) (A Bs : List Nat), vj = .int .i64 j ∧ j ≤ i ∧ j ≤ g2 ∧ Hid (A.length = j ∧ A.length + Bs.length = i ∧ (A ++ Bs).Pairwise (· ≤ ·) ∧ (∀ b ∈ Bs, x ≤ b) ∧ (A ++ x :: (Bs ++ D')).Perm xs ∧ RowN g sp (A ++ x :: (Bs ++ D')) wr2) ∧ Hid (Only (fun k => k = g) w wr2))
      case atStart =>
        refine ⟨i, S, [], rfl, Nat.le_refl _, Nat.le_refl _, ⟨HI.out (by omega), by simpa using HI.out (by omega), by simpa using HS.out.2.2.1, by simp, by simpa using HS.out.2.1, by simpa using HS.out.2.2.2⟩, HO⟩
      case round =>
        obtain ⟨j, A, Bs, rfl, hji, hg2, HM, HO2⟩ := hrel
        by_cases hj0 : 0 < j
        · obtain ⟨jp, rfl⟩ : ∃ jp, j = jp + 1 := ⟨j - 1, by omega⟩
          obtain ⟨A', a, hA⟩ : ∃ A' a, A = A' ++ [a] := by
            rcases List.eq_nil_or_concat A with h | ⟨A', a, h⟩
            · have := HM.out.1; rw [h] at this; simp at this
            · exact ⟨A', a, by simpa using h⟩
          subst hA
          have hAl : A'.length = jp := by have := HM.out.1; simpa using this
          have c1 : wr.cell? ⟨g, jp + 1, none⟩ = some (.int .u64 (x : Int)) := HM.out.2.2.2.2.2.at (by rw [← hAl]; simp)
          have c0 : wr.cell? ⟨g, jp, none⟩ = some (.int .u64 (a : Int)) := HM.out.2.2.2.2.2.at (by rw [← hAl]; simp)
          have f1 := HM.out.2.2.2.2.2.frozen (jp + 1)
          have f0 := HM.out.2.2.2.2.2.frozen jp
          have HL := fun W => less_u (x : Int) (a : Int) W
          have HAL := Lib.hid hAl
          have hjz : (0 : Int) < (jp : Int) + 1 := by omega
          have hjl : (jp : Int) + 1 < (n : Int) := by omega
          have hw1 : IntKind.i64.wrap ((jp : Int) + 1 - 1) = (jp : Int) := by rw [IntKind.wrap_i64]; omega
          have hw2 : IntKind.i64.wrap (jp : Int) = (jp : Int) := by rw [IntKind.wrap_i64]; omega
          have hjl1 : (jp : Int) < (n : Int) := by omega
          have hj00 : (0 : Int) ≤ (jp : Int) + 1 := by omega
          have hjn : ((jp : Int) + 1).toNat = jp + 1 := by omega
          clear hAl
          by_cases hlz : x < a
          · have hlz' : decide ((x : Int) < (a : Int)) = true := by simpa using hlz
            go_wp2_with fail
            go_quiet ((go_at_call 39; exact Calls.quiet_of_same (HL _)))
            go_wp2_with fail
            go_big_region
            all_goals
              go_wp2_with fail
              go_roundg jp
              case measure => omega
              case rel =>
                refine ⟨jp, A', a :: Bs, by first | rfl | go_num | (congr 1; omega), by omega, Nat.le_refl _, ⟨HAL.out, ?_, ?_, ?_, ?_, ?_⟩, ?_⟩
                · have := HM.out.2.1; simp at this ⊢; omega
                · simpa using HM.out.2.2.1
                · intro b hb
                  rcases List.mem_cons.1 hb with rfl | hb
                  · omega
                  · exact HM.out.2.2.2.1 b hb
                · have := HM.out.2.2.2.2.1
                  refine List.Perm.trans ?_ this
                  rw [List.append_assoc]
                  exact (List.Perm.swap a x _).append_left A'
                · exact RowN.swap HM.out.2.2.2.2.2 HAL.out
                · exact ((HO2.out.trans (Only.of_below (below_drewN (Below.refl _ _) _))).setCell (p := ⟨g, jp + 1, none⟩) (.inl rfl) _).setCell (p := ⟨g, jp, none⟩) (.inl rfl) _
          · have hlz' : decide ((x : Int) < (a : Int)) = false := by simpa using hlz
            go_wp2_with fail
            go_quiet ((go_at_call 39; exact Calls.quiet_of_same (HL _)))
            go_wp2_with fail
            go_roundg (n - (i + 1))
            case measure => omega
            case rel =>
              refine ⟨i + 1, A' ++ [a] ++ x :: Bs, D', by go_num, by omega, Lib.hid (.inl (by omega)), by omega, fun _ => ?_, ⟨?_, ?_, ?_, ?_⟩, ?_⟩
              · have := HM.out.2.1; simp at this ⊢; omega
              · have := HM.out.2.1; simp at this ⊢; omega
              · have := HM.out.2.2.2.2.1; simpa using this
              · refine pw_mid HM.out.2.2.1 HM.out.2.2.2.1 fun b hb => ?_
                have h1 := HM.out.2.2.1
                rw [List.append_assoc] at h1
                obtain ⟨-, h2, h3⟩ := List.pairwise_append.1 h1
                rcases List.mem_append.1 hb with hb | hb
                · have := h3 b hb a (by simp); omega
                · simp at hb; omega
              · have := HM.out.2.2.2.2.2; simpa [RowN] using this
              · exact HO2.out.trans (Only.of_below (below_drewN (Below.refl _ _) _))
        · obtain rfl : j = 0 := by omega
          obtain rfl : A = [] := by have := HM.out.1; simpa using this
          have hd0 : decide ((0 : Int) < ((0 : Nat) : Int)) = false := by decide
          have hd1 : decide ((0 : Int) < 0) = false := by decide
          go_wp2_with fail
          go_quiet (fail)
          go_wp2_with fail
          go_roundg (n - (i + 1))
          case measure => omega
          case rel =>
            refine ⟨i + 1, x :: Bs, D', by go_num, by omega, Lib.hid (.inl (by omega)), by omega, fun _ => ?_, ⟨?_, ?_, ?_, ?_⟩, ?_⟩
            · have := HM.out.2.1; simp at this ⊢; omega
            · have := HM.out.2.1; simp at this ⊢; omega
            · have := HM.out.2.2.2.2.1; simpa using this
            · exact pw_mid (A := []) HM.out.2.2.1 HM.out.2.2.2.1 (by simp)
            · have := HM.out.2.2.2.2.2; simpa [RowN] using this
            · exact HO2.out.trans (Only.of_below (below_drewN (Below.refl _ _) _))
    · have hltz : ¬ (i : Int) < (n : Int) := by omega
      have HGE : Hid (n ≤ i) := Lib.hid (by omega)
      go_wp2_with fail
      go_end0
      have e : D = [] := by
        have h1 := HS.out.2.1.length_eq
        have h2 := HN.out
        rw [List.length_append] at h1
        apply List.eq_nil_of_length_eq_zero
        have h4 := HGE.out
        rcases hi2.out with h3 | h3
        · have := HI.out h3; omega
        · omega
      subst e
      refine ⟨rfl, S, by simpa using HS.out.2.1, HS.out.2.2.1, by simpa using HS.out.2.2.2, HO.out⟩

/-! slices.Sort -/

set_option maxRecDepth 100000 in
theorem len64_u (n : Nat) (hn : n < 256) (w : World) : Calls Try.prog 43 #[.int .u64 (n : Int)] w fun e w' => (∃ k : Int, e = .returned (.int .i64 k)) ∧ w' = w := by
  have h1 : ¬ (4294967296 : Int) ≤ (n : Int) := by omega
  have h2 : ¬ (65536 : Int) ≤ (n : Int) := by omega
  have h3 : ¬ (256 : Int) ≤ (n : Int) := by omega
  go_enter Try.func43, Try.ntmps43
  go_wp2_with fail
  go_ret
  exact ⟨⟨_, rfl⟩, rfl⟩

end Go.Proofs.Ytkhhmmblkfogcaa
