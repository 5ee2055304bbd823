/- slices.Delete of one record, slices.Clone of records -/
import Derived.Test.YtdfkahkomcfoeaaPgB
namespace Go.Proofs.Ytdfkahkomcfoeaa
open Go.ChangeShapes Go.WideShapes Go.ChangeAt Go.RowKit

theorem run_clear_at {P : Program} (w : World) (t e ty : TypeId) (z : Value) (ht : P.underlying t = some (.slice e)) (hv : ∀ w, (zeroValue e).run P w = .ok z w) (g o : Nat) (cur : Array Value) (hg : w.heap[g]? = some (.cells cur e (0, 0)))
    (n c : Nat) (zs : List Value) (hz : (Builtin.zeroCells z.cells (n + 1)).toList = zs) (h1 : ∀ u ∈ zs, u.oneCell' = true) (hfit : o + zs.length ≤ cur.size) :
    (Builtin.clear_ #[t] ty #[.slice (some ⟨g, o, none⟩) (n + 1) c]).run P w = .ok (.tuple #[]) (w.setRow g (cur.toList.take o ++ zs ++ cur.toList.drop (o + zs.length)).toArray) := by
  have hst := run_storeCells_at P g o e zs 0 cur w hg (by simpa using hfit) h1
  simp only [Nat.add_zero] at hst
  simp [Builtin.clear_, run_underlying ht, hv, hz, hst]

theorem zero_body : (Builtin.zeroCells (Value.agg #[.int .u64 0, .string ⟨#[]⟩]).cells (0 + 1)).toList = [.int .u64 0, .string ⟨#[]⟩] := by
  simp [Builtin.zeroCells, Value.cells]
  rfl

/-- append whose run is known, as one step of a region that draws -/
theorem step_append_runI {P : Program} {ops : Array Oper} {o : Oper} {a : Act} {w : World} {K : Act → World → Prop} {Q : Exit → Act → World → Prop} {E : Prop}
    (hg : o.guard = none) (d x : Operand) (dT sT : TypeId) (hop : o.op = Op.call { callee := Callee.builtin Builtin.append, args := #[d, x], argTypes := #[dT, sT] })
    (v u : Value) (hd : a.eval d = v) (hx : a.eval x = u) {v' : Value} {w' : World} (hr : (Builtin.append_ #[dT, sT] o.type #[v, u]).run P w = .ok v' w') (hK : K (a.put o.dst v') w') :
    if Region.wanted o (yielded ops a.tmps) = true then Oper.wp P o a w K Q else E := by
  have hw : Region.wanted o (yielded ops a.tmps) = true := by simp [Region.wanted, hg]
  rw [if_pos hw]
  unfold Oper.wp
  simp [execOp, hop, resolve, invoke, builtin, hd, hx, hr, Result.andThen]
  exact hK

theorem body_three (A : Option Addr) (n c i : Nat) (h : i < n) (hc : n ≤ c) : ∃ nv, ∀ W,
    (Instr.sliceAt 25 (.slice A n c) (some (.int .i64 i)) (some (.int .i64 ((i : Int) + 1))) (some (.int .i64 n))).run Try.prog W = .ok nv W := by
  have e2 : Try.prog.elem 25 = 47 := by kernel_rfl
  have hu : Try.prog.underlying 25 = some (.slice (Try.prog.elem 25)) := by rw [e2]; exact Try.underlying25
  have hs : ∀ W, (sizeOf (Try.prog.elem 25)).run Try.prog W = .ok 2 W := fun W => by rw [e2]; exact Try.sizeOf47 W
  refine ⟨sliced A (i : Int).toNat ((i : Int) + 1).toNat (n : Int).toNat 2, fun W => ?_⟩
  rw [run_sliceAt_slice W 25 _ _ _ _ hu, run_slice_lhm W 25 A n c hu .i64 .i64 .i64 i ((i : Int) + 1) n (by omega) (by omega) (by omega) (by omega), hs]
  simp only [Result.andThen_ok]

theorem body_last (g n c : Nat) (hn : 0 < n) (hc : n ≤ c) (W : World) :
    (Instr.sliceAt 25 (.slice (some ⟨g, 0, none⟩) (n - 1) c) (some (.int .i64 ((n - 1 : Nat) : Int))) (some (.int .i64 n)) none).run Try.prog W = .ok (.slice (some ⟨g, (n - 1) * 2, none⟩) (0 + 1) (c - (n - 1))) W := by
  have e2 : Try.prog.elem 25 = 47 := by kernel_rfl
  have hu : Try.prog.underlying 25 = some (.slice (Try.prog.elem 25)) := by rw [e2]; exact Try.underlying25
  have hs : ∀ W, (sizeOf (Try.prog.elem 25)).run Try.prog W = .ok 2 W := fun W => by rw [e2]; exact Try.sizeOf47 W
  rw [run_sliceAt_slice W 25 _ _ _ _ hu, run_slice_lh W 25 _ _ c hu .i64 .i64 ((n - 1 : Nat) : Int) n (by omega) (by omega) (by omega), hs]
  simp only [Result.andThen_ok, sliced, Int.toNat_natCast]
  rw [if_neg (by omega)]
  simp only [Option.map_some, adr_add, Nat.zero_add]
  congr 2
  omega

/-- the cells behind the copy and the noughts -/
theorem del_cells (cur : List Value) (l : Pg) (i : Nat) (hi : i < l.length) (htake : cur.take (l.length * 2) = cellsB l) (hcap : l.length * 2 ≤ cur.length) {c1 : List Value} (h1 : c1 = cur.take (i * 2) ++ cellsB (l.drop (i + 1)) ++ cur.drop (i * 2 + (cellsB (l.drop (i + 1))).length)) (z : List Value) (hz : z.length = 2) :
    (c1.take ((l.length - 1) * 2) ++ z ++ c1.drop ((l.length - 1) * 2 + z.length)).take ((l.length - 1) * 2) = cellsB (l.take i ++ l.drop (i + 1)) ∧ (c1.take ((l.length - 1) * 2) ++ z ++ c1.drop ((l.length - 1) * 2 + z.length)).length = cur.length ∧ c1.length = cur.length := by
  have hdl : (cellsB (l.drop (i + 1))).length = (l.length - (i + 1)) * 2 := by rw [cellsB_len, List.length_drop]
  have htl : (cellsB (l.take i)).length = i * 2 := by rw [cellsB_len, List.length_take]; omega
  have hc1 : c1.length = cur.length := by
    rw [h1]; simp only [List.length_append, List.length_take, List.length_drop, hdl]; omega
  have e0 : cur.take (i * 2) = cellsB (l.take i) := by
    rw [← cellsB_take l i, ← htake, List.take_take]
    congr 1
    omega
  have e1 : c1.take ((l.length - 1) * 2) = cellsB (l.take i ++ l.drop (i + 1)) := by
    rw [h1, e0, ← cellsB_app, List.take_append_of_le_length (by rw [cellsB_len]; simp only [List.length_append, List.length_take, List.length_drop]; omega)]
    exact List.take_of_length_le (by rw [cellsB_len]; simp only [List.length_append, List.length_take, List.length_drop]; omega)
  have hl : (cellsB (l.take i ++ l.drop (i + 1))).length = (l.length - 1) * 2 := by rw [cellsB_len]; simp only [List.length_append, List.length_take, List.length_drop]; omega
  rw [e1]
  refine ⟨?_, ?_, hc1⟩
  · rw [List.append_assoc, List.take_append_of_le_length (by omega), List.take_of_length_le (by omega)]
  · simp only [List.length_append, List.length_drop, hl, hz, hc1]; omega

set_option maxHeartbeats 4000000 in
set_option maxRecDepth 100000 in
/-- slices.Delete of one record -/
theorem delete_any {base : Nat} {v : Value} {l : Pg} {w : World} (hown : w.ownsRow base 47 2 v l.length (cellsB l)) (i : Nat) (hi : i < l.length) (hl : l.length ≤ 1000) :
    Calls Try.prog 23 #[v, .int .i64 i, .int .i64 ((i : Int) + 1)] w (Inserted base w v (l.take i ++ l.drop (i + 1))) := by
  obtain ⟨i0, hi0, hz0, hz1, hz2⟩ := info_parts info_body
  have hn0 : l.length ≠ 0 := by omega
  have hin : i ≤ l.length := by omega
  have hi1 : i + 1 ≤ l.length := by omega
  have hp : 0 < l.length := by omega
  obtain ⟨A, cap, rfl, hnc, hx⟩ := owns_form hown
  obtain ⟨g, cur, rfl, hb, hg, hcm, hcs, ht⟩ := hx hn0
  clear hx hn0 hown
  have hrow : ∀ j u, (cellsB l)[j]? = some u → w.cell? ⟨g, j, none⟩ = some u := fun j u hu => by
    rw [cell_of_row _ _ _ _ _ _ hg, ← Array.getElem?_toList]
    rw [← ht, List.getElem?_take] at hu
    split at hu
    · exact hu
    · cases hu
  have hdl : (cellsB (l.drop (i + 1))).length = (l.length - (i + 1)) * 2 := by rw [cellsB_len, List.length_drop]
  obtain ⟨c1, hc1⟩ : ∃ c1, c1 = cur.toList.take (i * 2) ++ cellsB (l.drop (i + 1)) ++ cur.toList.drop (i * 2 + (cellsB (l.drop (i + 1))).length) := ⟨_, rfl⟩
  have hcl0 : l.length * 2 ≤ cur.toList.length := by
    have e : cur.toList.length = cap * 2 := by rw [Array.length_toList, hcs]
    omega
  obtain ⟨f1, f2, f3⟩ := del_cells cur.toList l i hi ht hcl0 hc1 [.int .u64 0, .string ⟨#[]⟩] rfl
  obtain ⟨A, hA, hsrc⟩ : ∃ A : Addr, (if cap = i + 1 then some (⟨g, 0, none⟩ : Addr) else (some (⟨g, 0, none⟩ : Addr)).map (·.add ((i + 1) * 2))) = some A ∧ (∀ t u, (cellsB (l.drop (i + 1)))[t]? = some u → w.drew.cell? (A.add t) = some u) := by
    by_cases h : cap = i + 1
    · refine ⟨⟨g, 0, none⟩, by simp [h], fun t u hu => ?_⟩
      have h0 : (cellsB (l.drop (i + 1))).length = 0 := by rw [hdl]; omega
      rw [List.length_eq_zero_iff.1 h0] at hu
      simp at hu
    · refine ⟨⟨g, (i + 1) * 2, none⟩, by simp [h, adr_add], fun t u hu => ?_⟩
      rw [adr_add]
      exact hrow _ u (by rw [← cellsB_drop, List.getElem?_drop] at hu; exact hu)
  have hap := fun ty => run_append_room (P := Try.prog) w.drew 25 ty 47 i0 Try.underlying25 hi0 g i cap cur hg A (l.length - (i + 1)) (cap - (i + 1)) (cellsB (l.drop (i + 1))) (by rw [hdl, hz1]) hsrc (cellsB_one _) (by omega) (by rw [hz1, hdl, hcs]; omega)
  rw [hz1, ← hc1, show i + (l.length - (i + 1)) = l.length - 1 by omega] at hap
  have hcl := fun ty c => run_clear_at (P := Try.prog) (w.drew.setRow g c1.toArray) 25 47 ty _ Try.underlying25 Try.zeroValue47 g ((l.length - 1) * 2) c1.toArray (setRow_heap _ _ cur _ _ _ hg) 0 c [.int .u64 0, .string ⟨#[]⟩] zero_body (by intro u hu; simp only [List.mem_cons, List.not_mem_nil, or_false] at hu; rcases hu with rfl | rfl <;> rfl) (by simp only [List.size_toArray, f3, Array.length_toList, hcs, List.length_cons, List.length_nil]; omega)
  obtain ⟨nv, hs1⟩ := body_three (some ⟨g, 0, none⟩) l.length cap i hi hnc
  have hs2 := fun W => body_head (some ⟨g, 0, none⟩) l.length cap i (by omega) W
  have hs3 := fun W => body_tail (some ⟨g, 0, none⟩) l.length cap (i + 1) hi1 W
  rw [hA, show ((i + 1 : Nat) : Int) = (i : Int) + 1 by omega] at hs3
  have hs4 := fun W => body_last g l.length cap hp hnc W
  have mixed : Try.prog.follows Departure.mixedOrders = true := by kernel_rfl
  have q1 : (0 : Int) ≤ (i : Int) + 1 := by omega
  have q2 : (i : Int) + 1 ≤ (l.length : Int) := by omega
  have q3 : ((i : Int) + 1).toNat = i + 1 := by omega
  have q7 : (i : Int) ≤ (l.length : Int) := by omega
  have q8 : IntKind.i64.wrap ((i : Int) + 1) = (i : Int) + 1 := by rw [IntKind.wrap_i64]; omega
  have b1 : (((i : Int)) == (i : Int) + 1) = false := by simp; omega
  have b3 : ¬ ((i : Int) = (i : Int) + 1) := by omega
  have hr1 := hap
  have HF1 := Lib.hid f1; have HF2 := Lib.hid f2; have HB := Lib.hid hb; have HI := Lib.hid hi; have HC := Lib.hid hcm; have HN := Lib.hid hnc; have HG := Lib.hid hg; have HCS := Lib.hid hcs
  generalize hc2 : c1.take ((l.length - 1) * 2) ++ [Value.int .u64 0, .string ⟨#[]⟩] ++ c1.drop ((l.length - 1) * 2 + [Value.int .u64 0, .string ⟨#[]⟩].length) = c2 at hcl HF1 HF2
  clear f1 f2 f3 hc1 hc2 hrow hdl ht hg hcm hb hi0 hz0 hz1 hz2 hcs hap hsrc
  go_enter Try.func23, Try.ntmps23
  go_wp2_with fail
  go_region_law_o (refine step_append_runI rfl _ _ 25 25 rfl (.slice (some ⟨g, 0, none⟩) i cap) (.slice (some A) (l.length - (i + 1)) (cap - (i + 1))) (by simp [Act.eval, Act.put]) (by simp [Act.eval, Act.put]) (hr1 _) ?_)
  go_wp2_with fail
  go_ret
  have hfin : ((w.drew.setRow g c1.toArray).setRow g c2.toArray).heap[g]? = some (.cells c2.toArray 47 (0, 0)) := setRow_heap _ g c1.toArray _ _ _ (setRow_heap w.drew g cur _ _ _ HG.out)
  have hlen : (l.take i ++ l.drop (i + 1)).length = l.length - 1 := by simp only [List.length_append, List.length_take, List.length_drop]; have := HI.out; omega
  refine ⟨_, rfl, ⟨cellsB_len _, .inr ⟨g, cap, c2.toArray, ?_, HB.out, hfin, ?_, HC.out, ?_, ?_⟩⟩, ?_, .inl rfl⟩
  · rw [hlen]
    rfl
  · rw [hlen]; have := HN.out; omega
  · have := HF2.out; simp only [List.size_toArray, Array.length_toList] at this ⊢; rw [this, HCS.out]
  · rw [hlen]; simpa using HF1.out
  · have ho : Only (fun k => k = g) w ((w.drew.setRow g c1.toArray).setRow g c2.toArray) := (((Only.refl (fun k => k = g) w).drew).setRow (g := g) (.inl rfl) _).setRow (g := g) (.inl rfl) _
    exact ho.mono fun k _ hk => by rw [hk]; rfl

end Go.Proofs.Ytdfkahkomcfoeaa
