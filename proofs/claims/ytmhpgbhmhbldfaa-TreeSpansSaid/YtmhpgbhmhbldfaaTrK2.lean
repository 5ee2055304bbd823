/- slices.Backward over the steps of a way -/
import Derived.Test.YtmhpgbhmhbldfaaTrX
import Derived.RangeFuncNested
import Derived.RangeFuncBound
import Derived.RangeFuncCalls
import Derived.RangeFuncLeaves
import Derived.RangeFuncBox
import Derived.Shelf.Abstract
import Derived.Shelf.RegionOpen
import Derived.WalkKit
import Derived.OwnWalkIn
import Derived.TacticsInMore
import Derived.LoopNIn
import Derived.LoopIn
namespace Go.Proofs.Ytmhpgbhmhbldfaa
open Go.ChangeShapes Go.WideShapes Go.ChangeAt Go.RowKit Go.Shelf

attribute [local go_sem] Oper.semAt_some

/-- a step as a value -/
def St.val (s : St) : Value := .agg #[.int .u64 (s.id : Int), .slice s.A s.n s.c, .slice s.A' s.n' s.c', .int .i64 (s.at_ : Int)]

/-- the places of a row, the last one first -/
def Down (m : Nat) (l : List (Fin m)) : Prop := ∀ (j : Nat) (i : Fin m), l[j]? = some i → i.val + j + 1 = m

theorem Down.nil (m : Nat) : Down m [] := fun j i h => by simp at h
theorem Down.snoc {m : Nat} {l : List (Fin m)} (h : Down m l) {i : Fin m} (hi : i.val + l.length + 1 = m) : Down m (l ++ [i]) := by
  intro j x hx
  rcases Nat.lt_trichotomy j l.length with hj | rfl | hj
  · rw [List.getElem?_append_left hj] at hx; exact h j x hx
  · rw [List.getElem?_append_right (Nat.le_refl _)] at hx
    simp at hx; subst hx; exact hi
  · rw [List.getElem?_eq_none (by simp; omega)] at hx; cases hx
theorem Down.init {m : Nat} {l : List (Fin m)} {i : Fin m} (h : Down m (l ++ [i])) : Down m l ∧ i.val + l.length + 1 = m := by
  refine ⟨fun j x hx => h j x ?_, h l.length i (by simp)⟩
  rw [List.getElem?_append_left (List.getElem?_eq_some_iff.1 hx).1]; exact hx

/-- what the body of a loop over them must keep: the slice's box and the row -/
def KeepsRow (Bs g : Nat) (A B : World) : Prop := A.heap.size ≤ B.heap.size ∧ ∀ b, b = Bs ∨ b = g → b < A.heap.size → B.heap[b]? = A.heap[b]?

theorem KeepsRow.refl (Bs g : Nat) (A : World) : KeepsRow Bs g A A := ⟨Nat.le_refl _, fun _ _ _ => rfl⟩
theorem KeepsRow.trans {Bs g : Nat} {A B C : World} (h : KeepsRow Bs g A B) (k : KeepsRow Bs g B C) : KeepsRow Bs g A C := ⟨Nat.le_trans h.1 k.1, fun b hb hl => (k.2 b hb (Nat.lt_of_lt_of_le hl h.1)).trans (h.2 b hb hl)⟩

theorem backward_c (A : Option Addr) (n c : Nat) (w : World) : Calls Try.prog 32 #[.slice A n c] w fun e w' => e = .returned (.func (.func 51) #[] #[.pointer (some ⟨w.heap.size, 0, none⟩)]) ∧ w' = w.alloc (.cells #[.slice A n c] 51) := by
  go_enter Try.func32, Try.ntmps32
  go_wp2_with fail
  go_ret
  exact ⟨rfl, rfl⟩

set_option maxRecDepth 100000 in
set_option maxHeartbeats 2000000 in
theorem backward_stops {r : List St} {m : Nat} (sv : Fin m → St) (hsv : ∀ i : Fin m, r[i.val]? = some (sv i)) (Bs g c : Nat) (A : Option Addr) (w : World) (hBs : Bs < w.heap.size) (hbox : w.cell? ⟨Bs, 0, none⟩ = some (.slice A m c)) (hr : 0 < m → A = some ⟨g, 0, none⟩ ∧ StAt w g r) (hm : m ≤ 1000) :
    SeqStopsK Fence.wide 4 Try.prog 51 #[.pointer (some ⟨Bs, 0, none⟩)] (fun i : Fin m => #[Value.int .i64 (i.val : Int), (sv i).val]) (KeepsRow Bs g) (fun l => Down m l ∧ l.length = m) (fun l => Down m l) m w := fun la J Jx W hW hJ hJx hY h0 => by
  have hb0 : W.cell? ⟨Bs, 0, none⟩ = some (.slice A m c) := (hW.cell (p := ⟨Bs, 0, none⟩) hBs).trans hbox
  have hBsW : Bs < W.heap.size := Nat.lt_of_lt_of_le hBs hW.size
  have HR : Hid (0 < m → A = some ⟨g, 0, none⟩ ∧ StAt W g r) := Lib.hid (fun h => ⟨(hr h).1, (hr h).2.on hW⟩)
  have HB0 := Lib.hid hb0
  have HJ := Lib.hid hJ; have HY := Lib.hid hY
  have HSV := Lib.hid hsv
  clear hr hW hbox hBs hJ hJx hY hsv
  refine callsIn_of_wp Try.func51 rfl trivial ?_ rfl
  simp only [Try.ntmps51, List.size_toArray, List.length_cons, List.length_nil, Nat.reduceAdd, Nat.reduceSub, Array.replicate_succ, Array.replicate_zero, List.push_toArray, List.append_toArray, List.nil_append, List.cons_append]
  gi_wp2
  gi_loopw [3] (fun v wr => ∃ (q : Nat) (pre : List (Fin m)), q ≤ m ∧ v = .int .i64 ((q : Int) - 1) ∧ Hid (pre.length + q = m ∧ Down m pre ∧ J pre wr ∧ KeepsRow Bs g W wr))
    (fun v _ => (intOf v + 1).toNat)
  case atStart => exact ⟨m, [], Nat.le_refl _, rfl, Lib.hid ⟨by simp, Down.nil _, h0, KeepsRow.refl _ _ _⟩⟩
  case round =>
    obtain ⟨q, pre, hq, rfl, HP⟩ := hrel
    cases q with
    | zero =>
      gi_wp2
      go_end0
      exact ⟨⟨_, rfl⟩, .inl ⟨pre, ⟨HP.out.2.1, by have := HP.out.1; omega⟩, HP.out.2.2.1⟩⟩
    | succ p =>
      have hpl : p < m := by omega
      have hne : 0 < m := by omega
      obtain ⟨hA, hst⟩ := HR.out hne
      subst hA
      obtain ⟨s, hs⟩ : ∃ s, sv ⟨p, hpl⟩ = s := ⟨_, rfl⟩
      obtain ⟨o, ho⟩ : ∃ o, p * 4 = o := ⟨_, rfl⟩
      have hst' : StAt wr g r := ⟨Nat.lt_of_lt_of_le hst.1 HP.out.2.2.2.1, fun j u hu => (World.cell?_of_block (a := ⟨g, j, none⟩) (HP.out.2.2.2.2 g (.inr rfl) hst.1)).trans (hst.2 j u hu)⟩
      obtain ⟨c0, c1, c2, c3⟩ := hst'.four (i := p) (s := s) (by rw [← hs]; exact HSV.out ⟨p, hpl⟩) ho
      have hbr : wr.cell? ⟨Bs, 0, none⟩ = some (.slice (some ⟨g, 0, none⟩) m c) := (World.cell?_of_block (a := ⟨Bs, 0, none⟩) (HP.out.2.2.2.2 Bs (.inl rfl) hBsW)).trans HB0.out
      obtain ⟨fn, tmps, assign, body, hy, hR⟩ := HY.out pre ⟨p, hpl⟩ wr HP.out.2.2.1 (by have := HP.out.1; omega)
      have hv : (sv ⟨p, hpl⟩).val = .agg #[.int .u64 (s.id : Int), .slice s.A s.n s.c, .slice s.A' s.n' s.c', .int .i64 (s.at_ : Int)] := by
        rw [hs]; rfl
      simp only [hv] at hy
      have HV := Lib.hid hv
      have HD : Hid (Down m (pre ++ [⟨p, hpl⟩])) := Lib.hid (HP.out.2.1.snoc (by have := HP.out.1; simp; omega))
      have hsub : ((p + 1 : Nat) : Int) - 1 = (p : Int) := by omega
      have HS := Lib.hid hs
      clear hs hst hst' hv hne
      rw [hsub]
      gi_wp2
      refine hR.mono ?_
      rintro e W3 (⟨rfl, hJ3, hk3⟩ | ⟨rfl, hJx3⟩)
      · gi_wp2
        go_roundw
        case rel => exact ⟨p, _, by omega, rfl, Lib.hid ⟨by have := HP.out.1; simp; omega, HD.out, hJ3, HP.out.2.2.2.trans hk3⟩⟩
        case measure => simp [intOf]
      · gi_wp2
        refine bodyPost_ret (results_none rfl _ _ _) rfl ?_
        exact ⟨⟨_, rfl⟩, .inr ⟨_, HD.out, hJx3⟩⟩

end Go.Proofs.Ytmhpgbhmhbldfaa
