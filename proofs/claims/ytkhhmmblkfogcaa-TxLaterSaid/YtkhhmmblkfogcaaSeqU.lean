/- the keys of a map from uint64, collected -/
import Derived.Test.YtkhhmmblkfogcaaMpU
import Derived.RangeFuncNested
import Derived.RangeFuncBound
import Derived.RangeFuncCalls
import Derived.RangeFuncLeaves
import Derived.RangeFuncBox
import Derived.Shelf.Abstract
import Derived.Shelf.RegionOpen
import Derived.WalkKit
import Derived.OwnWalkIn
import Derived.TacticsInMore
import Derived.LoopNIn
import Derived.LoopIn
import Derived.Maps.AppendAt
import Derived.Maps.OwnIn
namespace Go.Proofs.Ytkhhmmblkfogcaa
open Go.ChangeShapes Go.WideShapes Go.ChangeAt Go.RowKit Go.Shelf
open Go.Maps (Keyed)

attribute [local go_sem] Oper.semAt_some

/-- a number as the memory has it -/
def encU (a : Nat) : Value := .int .u64 (a : Int)

section
variable {β : Type}

/-- what has come, when of the entries these are left -/
def CollU (l : List (Nat × β)) (left : Lit → Bool) (ss : List Nat) : Prop := ss.Nodup ∧ ∀ a : Nat, a ∈ ss ↔ ((getU a l).isSome = true ∧ left (.int .u64 (a : Int)) = false)

theorem CollU.start {V : Nat → β → Value} (l : List (Nat × β)) : CollU l (Maps.has (Du V l)) [] :=
  ⟨List.nodup_nil, fun a => by rw [du_has]; cases getU a l <;> simp⟩

theorem CollU.step {l : List (Nat × β)} {left : Lit → Bool} {ss : List Nat} (h : CollU l left ss) {a : Nat} {s : β} (hlk : left (.int .u64 (a : Int)) = true) (hg : getU a l = some s) :
    CollU l (fun z => left z && !z.sameKey (.int .u64 (a : Int))) (ss ++ [a]) := by
  have hnew : a ∉ ss := fun hx => by have := ((h.2 a).1 hx).2; rw [hlk] at this; cases this
  refine ⟨List.nodup_append.2 ⟨h.1, by simp, fun b hb c hc => by simp at hc; subst hc; exact fun e => hnew (e ▸ hb)⟩, fun b => ?_⟩
  have e : (Lit.int .u64 (b : Int)).sameKey (.int .u64 (a : Int)) = decide (b = a) := sameU b a
  simp only [e, List.mem_append, List.mem_singleton, h.2 b]
  by_cases hb : b = a
  · subst hb; simp [hg]
  · simp [hb]

theorem CollU.perm {l : List (Nat × β)} {left : Lit → Bool} {ss : List Nat} (h : CollU l left ss) (hr : RisU l) (hl : ∀ z, left z = false) : ss.Perm (l.map (·.1)) := by
  have hn : (l.map (·.1)).Nodup := by
    rw [List.Nodup, List.pairwise_map]
    exact hr.imp fun h => by omega
  refine (List.perm_ext_iff_of_nodup h.1 hn).2 fun a => ?_
  rw [h.2 a, hl, getU_some_iff]
  simp

theorem du_key {V : Nat → β → Value} {l : List (Nat × β)} {x : Int} {v : Value} (h : ∀ z, (Du V l).atKey (.int .u64 x) z = .held v) : ∃ (a : Nat) (s : β), x = a ∧ getU a l = some s := by
  by_cases hx : 0 ≤ x
  · obtain ⟨a, rfl⟩ : ∃ a : Nat, x = a := ⟨x.toNat, by omega⟩
    have := h .nil
    rw [du_at] at this
    cases hg : getU a l with
    | none => rw [hg] at this; cases this
    | some t => exact ⟨a, t, rfl, hg⟩
  · exfalso
    have := h .nil
    unfold Du DataW.atKey at this
    have hn : (l.map (entU V)).find? (fun p => p.1.sameKey (.int .u64 x)) = none := by
      rw [List.find?_eq_none]
      intro q hq
      obtain ⟨p, hp, rfl⟩ := List.mem_map.1 hq
      show ¬ decide (IntKind.u64 = IntKind.u64 ∧ (p.1 : Int) = x) = true
      rw [decide_eq_true_eq]
      rintro ⟨-, e⟩; omega
    simp only [hn] at this
    cases this

end

theorem keys_calls (mb : Option Nat) (w : World) : Calls Try.prog 21 #[.map mb] w fun e w' => e = .returned (.func (.func 28) #[] #[.pointer (some ⟨w.heap.size, 0, none⟩)]) ∧ w' = w.alloc (.cells #[.map mb] 43) := by
  go_enter Try.func21, Try.ntmps21
  go_wp2_with fail
  go_ret
  exact ⟨rfl, rfl⟩

set_option maxRecDepth 100000 in
set_option maxHeartbeats 1000000 in
theorem keys_stops_c {β : Type} {V : Nat → β → Value} {l : List (Nat × β)} (Bm b : Nat) (w : World) (hBm : Bm < w.heap.size) (hm : w.cell? ⟨Bm, 0, none⟩ = some (.map (some b))) (hown : OwnU w b V l) :
    SeqStopsK Fence.wide 1 Try.prog 28 #[.pointer (some ⟨Bm, 0, none⟩)] (fun a : Nat => #[Value.int .u64 (a : Int)]) KeepsWalks (fun ss => ss.Perm (l.map (·.1))) (fun _ => True) l.length w := fun la J Jx W hW hJ hJx hY h0 => by
  have hown' : OwnU W b V l := hown.keep (hW.block b hown.lt)
  have hm' : W.cell? ⟨Bm, 0, none⟩ = some (.map (some b)) := (hW.cell (p := ⟨Bm, 0, none⟩) hBm).trans hm
  have hris := hown.ris
  refine callsIn_of_wp Try.func28 rfl trivial ?_ rfl
  simp only [Try.ntmps28, List.size_toArray, List.length_cons, List.length_nil, Nat.reduceAdd, Nat.reduceSub, Array.replicate_succ, Array.replicate_zero, List.push_toArray, List.append_toArray, List.nil_append, List.cons_append]
  gi_wp2_with (first
    | (gi_at_range; refine wpListIn_range_own _ rfl _ 43 rfl 22 38 keyed_u64 Try.underlying43 RH b _ _ rfl hown' ?_; intro w0 hrg0 hg0 hs0)
    | gi_in)
  gi_loopw [3] (fun _ wr => ∃ (left : Lit → Bool) (cnt : Nat) (ss : List Nat), wr.ranges Try.prog 22 RH b W.heap.size l.length (Du V l) left cnt ∧ ss.length + cnt ≤ l.length ∧ CollU l left ss ∧ J ss wr)
    (fun _ wr => wr.rangeLeft b W.heap.size)
  case atStart =>
    exact ⟨_, _, [], hrg0, by simp [du_size], CollU.start l, hJ [] W w0 none h0 hg0 (fun r e => by cases e)⟩
  case round =>
    obtain ⟨left, cnt, ss, hrg, hcs, hC, hJs⟩ := hrel
    gi_wp2_with (first
      | (gi_at_next; refine wpListIn_next_ranges _ rfl _ rfl 22 keyed_u64 RH (fun x : Int => Value.int .u64 x) id (fun key kl hk => by obtain ⟨x, h1, -, -⟩ := Maps.keyOf_int_inv Try.underlying22 hk; exact ⟨x, h1⟩) (fun v _ _ => ⟨v, rfl⟩) b W.heap.size _ _ _ _ rfl hrg ?_ ?_)
      | gi_in)
    · intro hc0 hl0
      gi_wp2
      go_end0
      exact ⟨⟨_, rfl⟩, .inl ⟨ss, hC.perm hris hl0, hJs⟩⟩
    · intro x c kl yd yp w2 cnt2 hkey hlk hv hat hrg2 hlt hg2 hs2 hen
      obtain ⟨x', ex, rfl, _⟩ := Maps.keyOf_int_inv Try.underlying22 hkey
      simp only [Value.int.injEq, true_and] at ex
      obtain rfl : x = x' := ex
      unfold RH at hv
      cases hv
      obtain ⟨a, s, rfl, hga⟩ := du_key hat
      have hJ2 : J ss w2 := hJ ss wr w2 (some W.heap.size) hJs hg2 (fun r e => by cases e; exact ⟨Nat.le_refl _, hrg.iter_walk⟩)
      obtain ⟨fn, tmps, assign, body, hy, hR⟩ := hY ss a w2 hJ2 (by omega)
      have hC2 := hC.step hlk hga
      clear hs2 hat
      gi_wp2
      refine hR.mono ?_
      rintro e W3 (⟨rfl, hJ3, hk3⟩ | ⟨rfl, hJx3⟩)
      · gi_wp2
        have hrg3 := hrg2.of_walks hk3
        go_roundw
        case rel => exact ⟨_, cnt2, ss ++ [a], hrg3, by simp; omega, hC2, hJ3⟩
        case measure => rw [hrg3.left_eq, hrg.left_eq]; exact hlt
      · gi_wp2
        refine bodyPost_ret (results_none rfl _ _ _) rfl ?_
        exact ⟨⟨_, rfl⟩, .inr ⟨ss ++ [a], trivial, hJx3⟩⟩

/-- of the nil map: nothing -/
theorem keys_stops_nc (Bm : Nat) (w : World) (hBm : Bm < w.heap.size) (hm : w.cell? ⟨Bm, 0, none⟩ = some (.map none)) :
    SeqStopsK Fence.wide 1 Try.prog 28 #[.pointer (some ⟨Bm, 0, none⟩)] (fun a : Nat => #[Value.int .u64 (a : Int)]) KeepsWalks (fun ss => ss = []) (fun _ => True) 0 w := fun la J Jx W hW hJ hJx hY h0 => by
  have hm' : W.cell? ⟨Bm, 0, none⟩ = some (.map none) := (hW.cell (p := ⟨Bm, 0, none⟩) hBm).trans hm
  refine callsIn_of_wp Try.func28 rfl trivial ?_ rfl
  simp only [Try.ntmps28, List.size_toArray, List.length_cons, List.length_nil, Nat.reduceAdd, Nat.reduceSub, Array.replicate_succ, Array.replicate_zero, List.push_toArray, List.append_toArray, List.nil_append, List.cons_append]
  have hrg := run_range_nilMap (P := Try.prog) W 43 22 38 Try.underlying43
  have hnx : ∀ ty, (Instr.next (.pointer (some ⟨W.heap.size, 0, none⟩)) false ty).run Try.prog (W.alloc (.mapIter none 0 #[] 0)) = _ := fun ty => run_next_nilMap _ ty 0 0 #[]
  gi_wp2
  refine wpIn_loop_rounds 1 ?_
  rw [roundsIn_succ]
  gi_wp2
  go_end0
  exact ⟨⟨_, rfl⟩, .inl ⟨[], rfl, hJ [] W _ none h0 (World.grownBy_alloc W _ none) (fun r e => by cases e)⟩⟩

theorem infoU : (Try.prog.info? 22).map (fun i => (i.zero, i.size, i.bytes)) = some (some (.int .u64 0), 1, 8) := by kernel_rfl

set_option maxRecDepth 100000 in
set_option maxHeartbeats 2000000 in
/-- slices.Collect -/
theorem appendSeq_any {g : Nat} {lb : Array Value} (eg : ∀ args w, (callFunc g args).run Try.prog w = .ok (.enter g args) w) {S : List Nat → Prop} {N : Nat} (hN : N ≤ 1000000) {w : World}
    (hseq : SeqStopsK Fence.wide 1 Try.prog g lb (fun a : Nat => #[Value.int .u64 (a : Int)]) KeepsWalks S (fun _ => True) N w) :
    CallsIn Fence.wide 2 Try.prog 30 #[.slice none 0 0, .func (.func g) #[] lb] w fun e w' => ∃ (v : Value) (ss : List Nat), e = .returned v ∧ S ss ∧ w'.ownsRow w.heap.size 22 1 v ss.length (ss.map encU) ∧ (v = .slice none 0 0 ↔ ss = []) ∧ Below w.heap.size w w' := by
  obtain ⟨i0, hi, hz0, hz1, hz2⟩ := info_parts infoU
  refine callsIn_of_wp_marks Try.func30 rfl trivial ?_ rfl
  simp only [Try.ntmps30, List.size_toArray, List.length_cons, List.length_nil, Nat.reduceAdd, Nat.reduceSub, Array.replicate_succ, Array.replicate_zero, List.push_toArray, List.append_toArray, List.nil_append, List.cons_append]
  gi_wp2
  have bO := Boxed.new w 51 (.slice none 0 0)
  have hB0 : Below w.heap.size w (w.alloc (.cells #[.slice none 0 0] 51)) := (Below.refl _ w).alloc (Nat.le_refl _) _
  refine wpIn_rangeFunc_ownG rfl (by decide) (gf := g) (lb := lb) rfl trivial eg hseq walksK_t walksK_b hB0 (fun _ => rfl)
    (fun pre W => (∃ v, Boxed W w.heap.size 51 v ∧ W.ownsRow w.heap.size 22 1 v pre.length (pre.map encU) ∧ (v = .slice none 0 0 ↔ pre = [])) ∧ Below w.heap.size w W)
    (fun _ _ _ => False)
    (OwnFrom.and (Own.from (holdsRow_own w.heap.size w.heap.size 51 22 1 (fun pre => pre.length) (fun pre => pre.map encU) (fun pre v => v = .slice none 0 0 ↔ pre = [])) _) (ownFrom_below (Nat.le_refl _) (by simp)))
    (fun _ _ _ _ _ hs _ _ => hs)
    ⟨⟨_, bO, World.ownsRow_nil _ _ _ _, by simp⟩, hB0⟩
    (fun x => { tmps := #[.slice none 0 0, .func (.func g) #[] lb, .pointer (some ⟨w.heap.size, 0, none⟩), undef, .slice none 0 0, .int .u64 (x : Int), .func (.func g) #[] lb, .int .u64 (x : Int), undef, undef, undef, undef, undef], defers := [] }) ?assign ?body ?done ?stop
  case assign =>
    intro l x W K hK
    gi_wp2
    exact hK
  case body =>
    rintro l pre x W ⟨⟨v, hv, hrow, hnil⟩, hB⟩ hlt
    have hc := hv.cell
    gi_wp2_with (gi_at_builtin; refine wpListIn_append_own _ rfl _ _ 51 rfl w.heap.size 22 i0 (.int .u64 0) 1 8 Try.underlying51 hi hz0 hz1 hz2 rfl (by decide) _ _ _ rfl (hrow.alloc _) ⟨W.heap.size, 0, none⟩ 1 1 [.int .u64 (x : Int)] rfl rfl (cell_one_new _ _ _) (by simp [Value.oneCell']) (by unfold maxLen; omega) (by omega) (by have := hB.size; simp; omega) ?_; intro v' w1 hown' hgrow _; obtain ⟨g', cap', rfl⟩ := ownsRow_succ hown'; obtain ⟨hv1, hv2, hr2, hk2, hb2⟩ := hv.appended (by decide) hrow hB.size (Nat.le_refl _) hown' hgrow; have hc1 := hv1.cell; have hf1 := hv1.frozen)
    exact ⟨hk2.from _, hk2.walks, ⟨_, hv2, by simpa [encU] using hr2, by simp⟩, hB.trans hb2⟩
  case done =>
    rintro D ys W hD hS ⟨⟨v, hv, hrow, hnil⟩, hB⟩ hK
    have hc := hv.cell
    gi_wp2
    refine ⟨by simp, .inl ⟨_, _, rfl, run_takeDeferred hK, ?_⟩⟩
    exact ⟨_, results_tmp rfl _ _ _, v, ys, rfl, hS, ownsRow_putObj hrow _ hK rfl, hnil, hB.trans (belowK_b (w := w) (Nat.le_refl _) W D _ _ (by simp at hD; omega) hK rfl rfl)⟩
  case stop =>
    rintro D c pre W _ _ h _
    exact h.elim

theorem collect_any {g : Nat} {lb : Array Value} (eg : ∀ args w, (callFunc g args).run Try.prog w = .ok (.enter g args) w) {S : List Nat → Prop} {N : Nat} (hN : N ≤ 1000000) {w : World}
    (hseq : SeqStopsK Fence.wide 1 Try.prog g lb (fun a : Nat => #[Value.int .u64 (a : Int)]) KeepsWalks S (fun _ => True) N w) :
    Calls Try.prog 26 #[.func (.func g) #[] lb] w fun e w' => ∃ (v : Value) (ss : List Nat), e = .returned v ∧ S ss ∧ w'.ownsRow w.heap.size 22 1 v ss.length (ss.map encU) ∧ (v = .slice none 0 0 ↔ ss = []) ∧ Below w.heap.size w w' := by
  have HA := Lib.hid ((callsIn_wide (n := 2)).1 (appendSeq_any eg hN hseq))
  clear hseq
  go_enter Try.func26, Try.ntmps26
  go_wp2_with (first
    | (go_at_call 30; refine HA.out.mono ?_; rintro e w' ⟨v, ss, rfl, h1, h2, h3, h4⟩)
    | fail)
  go_ret
  exact ⟨v, ss, rfl, h1, h2, h3, h4⟩

end Go.Proofs.Ytkhhmmblkfogcaa
