/- a device in memory -/
import Derived.Test.YtbdjdeddghdefaaDevM
import Derived.Test.YtbdjdeddghdefaaRowL
import Derived.Maps.OwnOps
import Derived.Maps.RangeWalk
import Derived.Deep.MidRow
import Derived.Deep.WholeRow
import Derived.Laws.CopyRow
import Derived.Laws.IdiomStrings
import Derived.Lib.BufferWrite
import Derived.StillTailTactics
namespace Go.Proofs.Ytbdjdeddghdefaa
open Go.ChangeShapes Go.WideShapes Go.ChangeAt Go.RowKit
open Go.Maps (Keyed)

/-- a sector's value -/
def secA (s : Sec) : Array Value := (Lib.byteCells s).toArray
def secV (s : Sec) : Value := .agg (secA s)

/-- noughts -/
def zer : Sec := List.replicate 128 0

theorem zer_len : zer.length = 128 := List.length_replicate

theorem secA_size (s : Sec) : (secA s).size = s.length := by simp [secA, Lib.byteCells_length]

theorem Lib.byteCells_inj {s t : Sec} (h : Lib.byteCells s = Lib.byteCells t) : s = t := by
  unfold Lib.byteCells at h
  refine (List.map_inj_right ?_).1 h
  intro a b e
  simp only [Value.int.injEq, true_and] at e
  exact UInt8.toNat_inj.1 (by omega)

theorem secV_inj {s t : Sec} (h : secV s = secV t) : s = t := by
  unfold secV secA at h
  simp only [Value.agg.injEq] at h
  exact Lib.byteCells_inj (by simpa using congrArg Array.toList h)

theorem info_sec : (Try.prog.info? 99).map (fun i => (i.zero, i.size)) = some (some (secV zer), 128) := by kernel_rfl

theorem zero_sec (w : World) : (zeroValue 99).run Try.prog w = .ok (secV zer) w := (zero_of_info info_sec).1 w

theorem size_sec : (Try.prog.info? 99).map (·.size) = some 128 := (zero_of_info info_sec).2

open Classical in
/-- what a sector in the map reads as -/
noncomputable def RSec (v : Value) : Option (DataW Unit × List MemPlace) := if h : ∃ s : Sec, s.length = 128 ∧ v = secV s then some (.lit (.string h.choose), []) else none

theorem rsec_of {s : Sec} (h : s.length = 128) : RSec (secV s) = some (.lit (.string s), []) := by
  have hx : ∃ s' : Sec, s'.length = 128 ∧ secV s = secV s' := ⟨s, h, rfl⟩
  unfold RSec
  rw [dif_pos hx, ← secV_inj hx.choose_spec.2]

theorem rsec_inv {v : Value} {y : DataW Unit × List MemPlace} (h : RSec v = some y) : ∃ s : Sec, s.length = 128 ∧ v = secV s ∧ y = (.lit (.string s), []) := by
  unfold RSec at h
  split at h
  · rename_i hx
    cases h
    exact ⟨_, hx.choose_spec.1, hx.choose_spec.2, rfl⟩
  · cases h

theorem key_of (a : Nat) (ha : a ≤ 65536) : keyOf Try.prog 3 (.int .i64 (a : Int)) = some (.int .i64 (a : Int)) :=
  Maps.keyOf_int_mk Try.underlying3 (by
    have e1 : IntKind.i64.min = -9223372036854775808 := by decide
    have e2 : IntKind.i64.max = 9223372036854775807 := by decide
    simp [Lit.wf, e1, e2]; omega)

theorem keyed : Keyed Try.prog 3 := Maps.int_keyed Try.underlying3

/-- 's, ok := m[at]' -/
theorem look_ok {w : World} {M n : Nat} {l : List (Nat × Sec)} (h : w.ownsMap Try.prog 3 RSec M n (Dm l)) (a : Nat) (ha : a ≤ 65536) (c : Bool) :
    (Instr.lookup 67 (.map (some M)) (.int .i64 (a : Int)) c).run Try.prog w = .ok (if c then .tuple #[secV ((getL a l).getD zer), .bool (getL a l).isSome] else secV ((getL a l).getD zer)) w := by
  obtain ⟨es, clock, hb, F, _, hD⟩ := h
  rcases Maps.fit_look c keyed Try.underlying67 (zero_sec w) hb F (key_of a ha) with ⟨hrun, _, hat⟩ | ⟨e0, y, _, _, hrun, hRv, hat, _⟩
  · have h1 := hat (.lit (.bool true))
    rw [← hD, dm_at] at h1
    cases hg : getL a l with
    | some s => rw [hg] at h1; cases h1
    | none => rw [hrun]; rfl
  · obtain ⟨s, hs, hv, rfl⟩ := rsec_inv hRv
    have h1 := hat (.lit (.bool true))
    rw [← hD, dm_at] at h1
    cases hg : getL a l with
    | none => rw [hg] at h1; cases h1
    | some s' =>
      rw [hg] at h1
      simp only [DataW.lit.injEq, Lit.string.injEq] at h1
      subst h1
      rw [hrun, hv]; rfl

/-- the map has just its entries -/
theorem own_exact {w : World} {M n : Nat} {l : List (Nat × Sec)} (h : w.ownsMap Try.prog 3 RSec M n (Dm l)) : w.ownsMap Try.prog 3 RSec M l.length (Dm l) := by
  obtain ⟨es, clock, hb, F, _, hD⟩ := h
  refine ⟨es, clock, hb, F, ?_, hD⟩
  have h1 := congrArg Maps.size hD
  rw [dm_size, Maps.size_eq, length_sorted] at h1
  simp at h1; omega

/-- 'm[at] = s' -/
theorem put_ok {w : World} {M : Nat} {l : List (Nat × Sec)} (h : w.ownsMap Try.prog 3 RSec M l.length (Dm l)) (hl : l.length ≤ 65536) (hr : RisL l) (a : Nat) (ha : a ≤ 65536) {s : Sec} (hs : s.length = 128) :
    ∃ w', (Instr.mapUpdate 67 (.map (some M)) (.int .i64 (a : Int)) (secV s)).run Try.prog w = .ok () w' ∧ w'.ownsMap Try.prog 3 RSec M (putL a s l).length (Dm (putL a s l)) ∧ w.grownBy w' (some M) := by
  obtain ⟨w', h1, h2, h3⟩ := h.update keyed Try.underlying67 (by unfold maxLen; omega) (key_of a ha) (rsec_of hs)
  rw [dm_put hr] at h2
  exact ⟨w', h1, own_exact h2, h3⟩

/-! the row of those that are sure -/

/-- its cells -/
def flatS (u : List Sec) : List Value := u.flatMap Lib.byteCells
/-- .. and what lies spare behind it -/
def cellsOf (u : List Sec) (sp : List Value) : Array Value := (flatS u ++ sp).toArray

theorem flat_len {u : List Sec} (h : ∀ s ∈ u, s.length = 128) : (flatS u).length = u.length * 128 := by
  induction u with
  | nil => rfl
  | cons s u ih =>
    have := ih (fun s hs => h s (List.mem_cons_of_mem _ hs))
    have h1 := h s (by simp)
    simp only [flatS, List.flatMap_cons, List.length_append, Lib.byteCells_length, h1] at this ⊢
    simp only [List.length_cons]; omega

theorem flat_part {u : List Sec} (sp : List Value) (h : ∀ s ∈ u, s.length = 128) {a : Nat} (ha : a < u.length) :
    ∃ F1 F2, flatS u ++ sp = F1 ++ (Lib.byteCells u[a] ++ F2) ∧ F1.length = a * 128 ∧ ∀ s, flatS (u.set a s) ++ sp = F1 ++ (Lib.byteCells s ++ F2) := by
  refine ⟨flatS (u.take a), flatS (u.drop (a + 1)) ++ sp, ?_, ?_, fun s => ?_⟩
  · have e : u = u.take a ++ (u[a] :: u.drop (a + 1)) := by simp
    conv => lhs; rw [e]
    simp only [flatS, List.flatMap_append, List.flatMap_cons, List.append_assoc]
  · rw [flat_len (fun s hs => h s (List.mem_of_mem_take hs)), List.length_take]
    rw [Nat.min_eq_left (Nat.le_of_lt ha)]
  · rw [List.set_eq_take_append_cons_drop, if_pos ha]
    simp only [flatS, List.flatMap_append, List.flatMap_cons, List.append_assoc]

theorem cells_one (u : List Sec) : ∀ v ∈ flatS u, v.oneCell' = true := by
  intro v hv
  obtain ⟨s, _, hs⟩ := List.mem_flatMap.1 hv
  exact Lib.byteCells_one _ v hs

/-- 'x = d.sure[at]' -/
theorem load_sure {w : World} {S : Nat} {u : List Sec} {sp : List Value} (hw : w.heap[S]? = some (.cells (cellsOf u sp) 99 (0, 0))) (h : ∀ s ∈ u, s.length = 128) {a : Nat} (ha : a < u.length) :
    (Instr.loadAt 99 (.pointer (some ⟨S, a * 128, none⟩))).run Try.prog w = .ok (secV u[a]) w := by
  obtain ⟨F1, F2, e, hl, -⟩ := flat_part sp h ha
  refine run_loadAt_mid w S (a * 128) 99 (Lib.byteCells u[a]) _ (fun j v hj => ?_) Try.underlying99 rfl (by rw [size_sec, Lib.byteCells_length, h _ (List.getElem_mem ha)])
  rw [cell_of_row w S _ _ _ _ hw]
  have hj' := (List.getElem?_eq_some_iff.1 hj).1
  simp only [cellsOf, List.getElem?_toArray, e]
  rw [List.getElem?_append_right (by omega), List.getElem?_append_left (by omega), ← hj]
  congr 1; omega

theorem load_at {w : World} {S : Nat} {u : List Sec} {sp : List Value} (hw : w.heap[S]? = some (.cells (cellsOf u sp) 99 (0, 0))) (h : ∀ s ∈ u, s.length = 128) {a : Nat} {x : Sec} (hx : u[a]? = some x) :
    (Instr.loadAt 99 (.pointer (some ⟨S, a * 128, none⟩))).run Try.prog w = .ok (secV x) w := by
  obtain ⟨ha, rfl⟩ := List.getElem?_eq_some_iff.1 hx
  exact load_sure hw h ha

/-- as the walk leaves it -/
theorem load_cells {w : World} {S : Nat} {u : List Sec} {sp : List Value} (hw : w.heap[S]? = some (.cells (cellsOf u sp) 99 (0, 0))) (h : ∀ s ∈ u, s.length = 128) {a : Nat} {x : Sec} (hx : u[a]? = some x) :
    (loadCellsFrom ⟨S, a * 128, none⟩ 0 128 #[]).run Try.prog w = .ok (secA x) w := by
  obtain ⟨ha, rfl⟩ := List.getElem?_eq_some_iff.1 hx
  obtain ⟨F1, F2, e, hl, -⟩ := flat_part sp h ha
  have hb : (Lib.byteCells u[a]).length = 128 := by rw [Lib.byteCells_length, h _ (List.getElem_mem ha)]
  have := run_loadCells_list (P := Try.prog) w ⟨S, a * 128, none⟩ (Lib.byteCells u[a]) (fun j v hj => by
    rw [Addr.add_mid, cell_of_row w S _ _ _ _ hw]
    have hj' := (List.getElem?_eq_some_iff.1 hj).1
    simp only [cellsOf, List.getElem?_toArray, e]
    rw [List.getElem?_append_right (by omega), List.getElem?_append_left (by omega), ← hj]
    congr 1; omega)
  rw [hb] at this
  exact this

/-- 'd.sure[at] = x' -/
theorem store_sure {w : World} {S : Nat} {u : List Sec} {sp : List Value} (hw : w.heap[S]? = some (.cells (cellsOf u sp) 99 (0, 0))) (h : ∀ s ∈ u, s.length = 128) {a : Nat} (ha : a < u.length) {s : Sec} (hs : s.length = 128) :
    (Instr.storeAt 99 (.pointer (some ⟨S, a * 128, none⟩)) (secV s)).run Try.prog w = .ok () (w.setRow S (cellsOf (u.set a s) sp)) := by
  obtain ⟨F1, F2, e, hl, hset⟩ := flat_part sp h ha
  have hsz : (flatS u ++ sp).length = u.length * 128 + sp.length := by rw [List.length_append, flat_len h]
  have hb : (Lib.byteCells s).length = 128 := by rw [Lib.byteCells_length, hs]
  have hst := run_storeCells_at Try.prog S (a * 128) 99 (Lib.byteCells s) 0 (cellsOf u sp) w hw (by simp only [cellsOf, List.size_toArray, hsz, hb]; omega) (Lib.byteCells_one _)
  have hcu : (Lib.byteCells u[a]).length = 128 := by rw [Lib.byteCells_length, h _ (List.getElem_mem ha)]
  have e2 : ((cellsOf u sp).toList.take (a * 128 + 0) ++ Lib.byteCells s ++ (cellsOf u sp).toList.drop (a * 128 + 0 + (Lib.byteCells s).length)).toArray = cellsOf (u.set a s) sp := by
    simp only [cellsOf, e, hset, hb, Nat.add_zero]
    rw [List.take_append_of_le_length (by omega), List.take_of_length_le (by omega), List.drop_append, List.drop_of_length_le (by omega), List.drop_append, List.drop_of_length_le (by omega)]
    have : a * 128 + 128 - F1.length - (Lib.byteCells u[a]).length = 0 := by omega
    rw [this]; simp
  rw [e2] at hst
  have hi := size_sec
  cases hq : Try.prog.info? 99 with
  | none => simp [hq] at hi
  | some i =>
    have hs' : i.size = 128 := by simpa [hq] using hi
    have hc : (secA s).size = 128 := by rw [secA_size, hs]
    have hc' : (secA s).toList = Lib.byteCells s := by simp [secA]
    simp only [Instr.storeAt, Instr.sureAddr, Sem.run_bind, Sem.run_pure, Result.andThen_ok]
    unfold secV storeVar
    simp [sizeOf, typeInfo, hq, Value.cells, hs', hc, hc', hst]

/-- a piece of it -/
theorem piece_sure {w : World} {S : Nat} {u : List Sec} {sp : List Value} (hw : w.heap[S]? = some (.cells (cellsOf u sp) 99 (0, 0))) (h : ∀ s ∈ u, s.length = 128) {a : Nat} (ha : a < u.length) {s : Sec} (hs : s.length = 128) {g : Nat}
    (hg : w.heap[g]? = some (.cells (secA s) 99 (0, 0))) (left : Nat) (hleft : left ≤ 128) (cap : Nat) :
    (Builtin.copy_ #[64, 64] 3 #[.slice (some ⟨S, a * 128, none⟩) left cap, .slice (some ⟨g, 0, none⟩) 128 128]).run Try.prog w = .ok (goInt left) (w.setRow S (cellsOf (u.set a (s.take left ++ (u[a]).drop left)) sp)) := by
  obtain ⟨F1, F2, e, hl, hset⟩ := flat_part sp h ha
  have hsz : (flatS u ++ sp).length = u.length * 128 + sp.length := by rw [List.length_append, flat_len h]
  have hcu : (Lib.byteCells u[a]).length = 128 := by rw [Lib.byteCells_length, h _ (List.getElem_mem ha)]
  have htl : (Lib.byteCells (s.take left)).length = left := by rw [Lib.byteCells_length, List.length_take, hs]; omega
  have hst := run_copy_row Try.prog w 64 64 3 5 S (a * 128) left cap ⟨g, 0, none⟩ 128 128 (cellsOf u sp) 99 (Lib.byteCells (s.take left)) Try.underlying64
    (by kernel_rfl) hw (by rw [htl]; exact (Nat.min_eq_right hleft).symm) (fun j v hj => by
      have hj' := (List.getElem?_eq_some_iff.1 hj).1
      rw [Addr.add_mid, cell_of_row w g _ _ _ _ hg, Nat.zero_add, ← hj]
      simp only [secA, List.getElem?_toArray, Lib.byteCells, List.getElem?_map]
      rw [List.getElem?_take_of_lt (by omega)])
    (by simp only [cellsOf, List.size_toArray, hsz, htl]; omega) (Lib.byteCells_one _)
  have e2 : ((cellsOf u sp).toList.take (a * 128) ++ Lib.byteCells (s.take left) ++ (cellsOf u sp).toList.drop (a * 128 + (Lib.byteCells (s.take left)).length)).toArray = cellsOf (u.set a (s.take left ++ (u[a]).drop left)) sp := by
    simp only [cellsOf, e, hset, htl]
    rw [List.take_append_of_le_length (by omega), List.take_of_length_le (by omega), List.drop_append, List.drop_of_length_le (by omega), List.drop_append_of_le_length (by omega)]
    have e3 : a * 128 + left - F1.length = left := by omega
    rw [e3]
    simp only [Lib.byteCells, List.map_append, List.map_drop, List.nil_append, List.append_assoc]
  rw [e2, htl] at hst
  exact hst

/-! whole values, at the operations -/

theorem list_load {P : Program} {ops : Array Oper} {rest : List Oper} {op : Oper} {a : Act} {w : World} {Q : Exit → Act → World → Prop} (hgd : op.guard = none) (ty : TypeId) (x : Operand) (ho : op.op = .load ty x)
    (p : Value) (hx : a.eval x = p) (v : Value) (hr : (Instr.loadAt ty p).run P w = .ok v w) (h : wpList P ops Q rest (a.put op.dst v) w) : wpList P ops Q (op :: rest) a w :=
  wpList_plain hgd fun _ hK => by
    unfold Oper.wp execOp
    simp only [ho, hx, hr, Sem.run_bind, Sem.run_pure, Result.andThen_ok]
    exact hK _ _ h

theorem list_store {P : Program} {ops : Array Oper} {rest : List Oper} {op : Oper} {a : Act} {w w' : World} {Q : Exit → Act → World → Prop} (hgd : op.guard = none) (ty : TypeId) (x y : Operand) (ho : op.op = .store ty x y)
    (p v : Value) (hx : a.eval x = p) (hy : a.eval y = v) (hr : (Instr.storeAt ty p v).run P w = .ok () w') (hd : op.dst = none) (h : wpList P ops Q rest a w') : wpList P ops Q (op :: rest) a w :=
  wpList_plain hgd fun _ hK => by
    unfold Oper.wp execOp
    simp only [ho, hx, hy, hr, Sem.run_bind, Sem.run_pure, Result.andThen_ok]
    refine hK _ _ ?_
    rw [hd]
    exact h

theorem list_put {P : Program} {ops : Array Oper} {rest : List Oper} {op : Oper} {a : Act} {w w' : World} {Q : Exit → Act → World → Prop} (hgd : op.guard = none) (t : TypeId) (m x y : Operand) (ho : op.op = .mapUpdate t m x y)
    (p k v : Value) (hm : a.eval m = p) (hx : a.eval x = k) (hy : a.eval y = v) (hr : (Instr.mapUpdate t p k v).run P w = .ok () w') (h : wpList P ops Q rest (a.put op.dst undef) w') : wpList P ops Q (op :: rest) a w :=
  wpList_plain hgd fun _ hK => by
    unfold Oper.wp execOp
    simp only [ho, hm, hx, hy, hr, Sem.run_bind, Sem.run_pure, Result.andThen_ok]
    exact hK _ _ h

/-- a load in a region that draws, all of whose operations ahead of the last ones only read -/
theorem still_load {P : Program} {ops : Array Oper} {rest : List Oper} {op : Oper} {a : Act} {w : World} {Q : Act → Prop} (hgd : op.guard = none) (ty : TypeId) (x : Operand) (ho : op.op = .load ty x)
    (p : Value) (hx : a.eval x = p) (v : Value) (hr : (Instr.loadAt ty p).run P w = .ok v w) (h : wpStill P ops w Q rest (a.put op.dst v)) : wpStill P ops w Q (op :: rest) a := by
  unfold wpStill
  rw [if_pos (by simp [Region.wanted, hgd])]
  unfold Oper.still execOp
  simp only [ho, hx, hr, Sem.run_bind, Sem.run_pure, Result.andThen_ok]
  exact ⟨rfl, h⟩

end Go.Proofs.Ytbdjdeddghdefaa
