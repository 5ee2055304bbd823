/- slices.Clone of texts and of numbers (written by tools/clone1.py) -/
import Derived.Test.YtmhpgbhmhbldfaaTrI
import Derived.Test.YtmhpgbhmhbldfaaTrJ
namespace Go.Proofs.Ytmhpgbhmhbldfaa
open Go.ChangeShapes Go.WideShapes Go.ChangeAt Go.RowKit

theorem SAt.up {w : World} {B B' : Nat} {A : Option Addr} {l : List ByteArray} (h : SAt w B A l) (hB : B ≤ B') : SAt w B' A l := by
  intro i s hi
  obtain ⟨b, o, e, h1, h2⟩ := h i s hi
  exact ⟨b, o, e, Nat.lt_of_lt_of_le h1 hB, h2⟩

theorem SAt.on {w w' : World} {A : Option Addr} {l : List ByteArray} (h : SAt w w.heap.size A l) (hb : Below w.heap.size w w') : SAt w' w'.heap.size A l := (h.keep hb (Nat.le_refl _)).up hb.size

theorem SAt.cells {w : World} {B : Nat} {a : Addr} {l : List ByteArray} (h : SAt w B (some a) l) : ∀ j u, (cellsS l)[j]? = some u → w.cell? (a.add j) = some u := by
  intro j u hu
  unfold cellsS at hu
  rw [List.getElem?_map, Option.map_eq_some_iff] at hu
  obtain ⟨s, hs, rfl⟩ := hu
  obtain ⟨b, o, e, -, h2⟩ := h j s hs
  cases e
  rw [adr_add]
  exact h2

/-- a row of one's own reads as a row -/
theorem own_SAt {w : World} {base : Nat} {v : Value} {l : List ByteArray} (h : w.ownsRow base 9 1 v l.length (cellsS l)) : ∃ A c, v = .slice A l.length c ∧ l.length ≤ c ∧ c ≤ 9223372036854775807 ∧ SAt w w.heap.size A l := by
  have hcl := fun g hg => h.cells (g := g) hg
  rcases h.2 with ⟨rfl, hn⟩ | ⟨g, cap, cur, rfl, -, hg, hnc, hcm, -⟩
  · obtain rfl : l = [] := List.eq_nil_of_length_eq_zero hn
    exact ⟨none, 0, rfl, Nat.le_refl _, by decide, fun i s hi => by simp at hi⟩
  · refine ⟨_, cap, rfl, hnc, by unfold maxLen at hcm; omega, fun i s hi => ⟨g, 0, rfl, (Array.getElem?_eq_some_iff.1 hg).1, ?_⟩⟩
    have := hcl g rfl i (.string s) (by unfold cellsS; rw [List.getElem?_map, hi]; rfl)
    rwa [adr_add] at this

theorem eql_slS (p : Option Addr) (n c : Nat) (W : World) : (binOp .eql 22 (.slice p n c) (.slice none 0 0)).run Try.prog W = .ok (.bool p.isNone) W := by
  have hq : ∀ d, (Op.equalIn (d + 1) 22 (.slice p n c) (.slice none 0 0)).run Try.prog W = .ok p.isNone W := fun d => by
    cases p <;> simp [Op.equalIn, run_underlying Try.underlying22]
  simp only [binOp]
  simp [show Op.equal 22 (.slice p n c) (.slice none 0 0) = Op.equalIn (9999 + 1) 22 (.slice p n c) (.slice none 0 0) from rfl, hq 9999]

set_option maxHeartbeats 1000000 in
set_option maxRecDepth 100000 in
/-- slices.Clone -/
theorem clone_SAt (l : List ByteArray) (A : Option Addr) (c : Nat) (w : World) (h : SAt w w.heap.size A l) (hn : l.length ≤ 1000) (hA : A = none → c = 0) :
    Calls Try.prog 53 #[.slice A l.length c] w fun e w' => ∃ v', e = .returned v' ∧ w'.ownsRow w.heap.size 9 1 v' l.length (cellsS l) ∧ Below w.heap.size w w' := by
  cases A with
  | none =>
    obtain rfl : l = [] := by
      cases l with
      | nil => rfl
      | cons s r => obtain ⟨b, o, e, -⟩ := h 0 s rfl; cases e
    obtain rfl := hA rfl
    have he := fun W => eql_slS none 0 0 W
    clear hA
    go_enter Try.func53, Try.ntmps53
    go_wp2_with fail
    go_ret
    exact ⟨_, rfl, ⟨rfl, .inl ⟨rfl, rfl⟩⟩, Below.refl _ _⟩
  | some a =>
    obtain ⟨i0, hi0, hz0, hz1, hz2⟩ := info_parts info_bodyS
    have hb0 : Below w.heap.size w (w.alloc (.cells #[] 9)) := (Below.refl _ _).alloc (Nat.le_refl _) _
    have hmade : (w.alloc (.cells #[] 9)).ownsRow w.heap.size 9 1 (.slice (some ⟨w.heap.size, 0, none⟩) 0 0) 0 [] := World.ownsRow_made w #[] 0 (Nat.le_refl _) (Nat.zero_le _) (by simp)
    have hc := (SAt.keep h hb0 (Nat.le_refl _)).cells
    obtain ⟨v', w', hr, ho, hg, -⟩ := run_append_own (P := Try.prog) (w.alloc (.cells #[] 9)) w.heap.size 22 0 9 i0 _ 1 16 Try.underlying22 hi0 hz0 hz1 hz2 rfl (by decide) _ 0 [] hmade a l.length c (cellsS l) (by rw [cellsS_len, Nat.mul_one]) hc (cellsS_one l) (by unfold maxLen; omega) (by omega) (by simp)
    have hbel : Below w.heap.size (w.alloc (.cells #[] 9)) w' := (Below.refl w.heap.size _).grown hg (by simp) fun k e => (hmade.lt k e).1
    have HO := Lib.hid ho; have HB := Lib.hid (hb0.trans hbel)
    have he := fun W => eql_slS (some a) l.length c W
    clear hA ho hg hmade hc hb0 hbel hi0 hz0 hz1 hz2
    go_enter Try.func53, Try.ntmps53
    go_wp2_with (first | (at_builtin; refine Lib.wpList_append_run _ rfl _ _ _ _ rfl _ _ rfl rfl _ _ hr ?_) | fail)
    go_ret
    exact ⟨_, rfl, by simpa using HO.out, HB.out⟩

/-- numbers in a row, in blocks below B -/
def NAt (w : World) (B : Nat) (A : Option Addr) (l : List Nat) : Prop := ∀ (i s : Nat), l[i]? = some s → ∃ b o, A = some ⟨b, o, none⟩ ∧ b < B ∧ w.cell? ⟨b, o + i, none⟩ = some (.int .u64 (s : Int))

theorem NAt.keep {w w' : World} {B : Nat} {A : Option Addr} {l : List Nat} (h : NAt w B A l) {n : Nat} (hb : Below n w w') (hB : B ≤ n) : NAt w' B A l := by
  intro i s hi
  obtain ⟨b, o, rfl, h1, h2⟩ := h i s hi
  exact ⟨b, o, rfl, h1, (hb.cell (p := ⟨b, o + i, none⟩) (Nat.lt_of_lt_of_le h1 hB)).trans h2⟩

theorem NAt.up {w : World} {B B' : Nat} {A : Option Addr} {l : List Nat} (h : NAt w B A l) (hB : B ≤ B') : NAt w B' A l := by
  intro i s hi
  obtain ⟨b, o, e, h1, h2⟩ := h i s hi
  exact ⟨b, o, e, Nat.lt_of_lt_of_le h1 hB, h2⟩

theorem NAt.on {w w' : World} {A : Option Addr} {l : List Nat} (h : NAt w w.heap.size A l) (hb : Below w.heap.size w w') : NAt w' w'.heap.size A l := (h.keep hb (Nat.le_refl _)).up hb.size

theorem NAt.cells {w : World} {B : Nat} {a : Addr} {l : List Nat} (h : NAt w B (some a) l) : ∀ j u, (cellsN l)[j]? = some u → w.cell? (a.add j) = some u := by
  intro j u hu
  unfold cellsN at hu
  rw [List.getElem?_map, Option.map_eq_some_iff] at hu
  obtain ⟨s, hs, rfl⟩ := hu
  obtain ⟨b, o, e, -, h2⟩ := h j s hs
  cases e
  rw [adr_add]
  exact h2

/-- a row of one's own reads as a row -/
theorem own_NAt {w : World} {base : Nat} {v : Value} {l : List Nat} (h : w.ownsRow base 26 1 v l.length (cellsN l)) : ∃ A c, v = .slice A l.length c ∧ l.length ≤ c ∧ c ≤ 9223372036854775807 ∧ NAt w w.heap.size A l := by
  have hcl := fun g hg => h.cells (g := g) hg
  rcases h.2 with ⟨rfl, hn⟩ | ⟨g, cap, cur, rfl, -, hg, hnc, hcm, -⟩
  · obtain rfl : l = [] := List.eq_nil_of_length_eq_zero hn
    exact ⟨none, 0, rfl, Nat.le_refl _, by decide, fun i s hi => by simp at hi⟩
  · refine ⟨_, cap, rfl, hnc, by unfold maxLen at hcm; omega, fun i s hi => ⟨g, 0, rfl, (Array.getElem?_eq_some_iff.1 hg).1, ?_⟩⟩
    have := hcl g rfl i (.int .u64 (s : Int)) (by unfold cellsN; rw [List.getElem?_map, hi]; rfl)
    rwa [adr_add] at this

theorem eql_slN (p : Option Addr) (n c : Nat) (W : World) : (binOp .eql 58 (.slice p n c) (.slice none 0 0)).run Try.prog W = .ok (.bool p.isNone) W := by
  have hq : ∀ d, (Op.equalIn (d + 1) 58 (.slice p n c) (.slice none 0 0)).run Try.prog W = .ok p.isNone W := fun d => by
    cases p <;> simp [Op.equalIn, run_underlying Try.underlying58]
  simp only [binOp]
  simp [show Op.equal 58 (.slice p n c) (.slice none 0 0) = Op.equalIn (9999 + 1) 58 (.slice p n c) (.slice none 0 0) from rfl, hq 9999]

set_option maxHeartbeats 1000000 in
set_option maxRecDepth 100000 in
/-- slices.Clone -/
theorem clone_NAt (l : List Nat) (A : Option Addr) (c : Nat) (w : World) (h : NAt w w.heap.size A l) (hn : l.length ≤ 1000) (hA : A = none → c = 0) :
    Calls Try.prog 55 #[.slice A l.length c] w fun e w' => ∃ v', e = .returned v' ∧ w'.ownsRow w.heap.size 26 1 v' l.length (cellsN l) ∧ Below w.heap.size w w' := by
  cases A with
  | none =>
    obtain rfl : l = [] := by
      cases l with
      | nil => rfl
      | cons s r => obtain ⟨b, o, e, -⟩ := h 0 s rfl; cases e
    obtain rfl := hA rfl
    have he := fun W => eql_slN none 0 0 W
    clear hA
    go_enter Try.func55, Try.ntmps55
    go_wp2_with fail
    go_ret
    exact ⟨_, rfl, ⟨rfl, .inl ⟨rfl, rfl⟩⟩, Below.refl _ _⟩
  | some a =>
    obtain ⟨i0, hi0, hz0, hz1, hz2⟩ := info_parts info_bodyN
    have hb0 : Below w.heap.size w (w.alloc (.cells #[] 26)) := (Below.refl _ _).alloc (Nat.le_refl _) _
    have hmade : (w.alloc (.cells #[] 26)).ownsRow w.heap.size 26 1 (.slice (some ⟨w.heap.size, 0, none⟩) 0 0) 0 [] := World.ownsRow_made w #[] 0 (Nat.le_refl _) (Nat.zero_le _) (by simp)
    have hc := (NAt.keep h hb0 (Nat.le_refl _)).cells
    obtain ⟨v', w', hr, ho, hg, -⟩ := run_append_own (P := Try.prog) (w.alloc (.cells #[] 26)) w.heap.size 58 0 26 i0 _ 1 8 Try.underlying58 hi0 hz0 hz1 hz2 rfl (by decide) _ 0 [] hmade a l.length c (cellsN l) (by rw [cellsN_len, Nat.mul_one]) hc (cellsN_one l) (by unfold maxLen; omega) (by omega) (by simp)
    have hbel : Below w.heap.size (w.alloc (.cells #[] 26)) w' := (Below.refl w.heap.size _).grown hg (by simp) fun k e => (hmade.lt k e).1
    have HO := Lib.hid ho; have HB := Lib.hid (hb0.trans hbel)
    have he := fun W => eql_slN (some a) l.length c W
    clear hA ho hg hmade hc hb0 hbel hi0 hz0 hz1 hz2
    go_enter Try.func55, Try.ntmps55
    go_wp2_with (first | (at_builtin; refine Lib.wpList_append_run _ rfl _ _ _ _ rfl _ _ rfl rfl _ _ hr ?_) | fail)
    go_ret
    exact ⟨_, rfl, by simpa using HO.out, HB.out⟩

end Go.Proofs.Ytmhpgbhmhbldfaa
