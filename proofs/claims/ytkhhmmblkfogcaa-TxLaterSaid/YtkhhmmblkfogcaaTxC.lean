/- a transaction in memory: lay, New, Put, Drop -/
import Derived.Test.YtkhhmmblkfogcaaTxB
namespace Go.Proofs.Ytkhhmmblkfogcaa
open Go.ChangeShapes Go.WideShapes Go.ChangeAt Go.RowKit

theorem equalIn_mapU {t k e : TypeId} (d : Nat) (p : Option Nat) (W : World) (ht : Try.prog.underlying t = some (.map k e)) : (Op.equalIn (d + 1) t (.map p) (.map none)).run Try.prog W = .ok p.isNone W := by
  cases p <;> simp [Op.equalIn, run_underlying ht]

theorem eql_mapU {t k e : TypeId} (p : Option Nat) (W : World) (ht : Try.prog.underlying t = some (.map k e)) : (binOp .eql t (.map p) (.map none)).run Try.prog W = .ok (.bool p.isNone) W := by
  simp only [binOp]
  simp [show Op.equal t (.map p) (.map none) = Op.equalIn (9999 + 1) t (.map p) (.map none) from rfl, equalIn_mapU 9999 p W ht]

theorem list_putU {P : Program} {ops : Array Oper} {rest : List Oper} {op : Oper} {a : Act} {w w' : World} {Q : Exit → Act → World → Prop} (hgd : op.guard = none) (t : TypeId) (m x y : Operand) (ho : op.op = .mapUpdate t m x y)
    (p k v : Value) (hm : a.eval m = p) (hx : a.eval x = k) (hy : a.eval y = v) (hr : (Instr.mapUpdate t p k v).run P w = .ok () w') (h : wpList P ops Q rest (a.put op.dst undef) w') : wpList P ops Q (op :: rest) a w :=
  wpList_plain hgd fun _ hK => by
    unfold Oper.wp execOp
    simp only [ho, hm, hx, hy, hr, Sem.run_bind, Sem.run_pure, Result.andThen_ok]
    exact hK _ _ h

/-- what a change of a transaction may turn -/
def TxOnly (w w' : World) (T : Nat) (M : Option Nat) : Prop := Only (fun k => k = T ∨ some k = M) w w'

theorem IsBase.tx {w w' : World} {b : Value} {f : Nat → Option ByteArray} {T : Nat} {M : Option Nat} {b' : Value} {l : List (Nat × Ch)} (h : IsBase w b f) (ht : IsTx w T M b' l) (ho : TxOnly w w' T M) : IsBase w' b f :=
  h.keep fun k cs t hk hc => (ho.block k (Array.getElem?_eq_some_iff.1 hc).1 (by
    rintro (rfl | hm)
    · have := ht.box.symm.trans hc
      rcases hk with rfl | rfl <;> simp at this
    · rcases ht.map with ⟨rfl, -⟩ | ⟨m, rfl, hw⟩
      · cases hm
      · cases hm; exact hw.no_cells hc)).trans hc

theorem IsTx.lt {w : World} {T : Nat} {M : Option Nat} {b : Value} {l : List (Nat × Ch)} (h : IsTx w T M b l) : T < w.heap.size := (Array.getElem?_eq_some_iff.1 h.box).1

theorem IsTx.on {w w' : World} {T : Nat} {M : Option Nat} {b : Value} {l : List (Nat × Ch)} (h : IsTx w T M b l) (hb : Below w.heap.size w w') : IsTx w' T M b l :=
  ⟨(hb.block T h.lt).trans h.box, by
    rcases h.map with h | ⟨m, e, ho⟩
    · exact .inl h
    · exact .inr ⟨m, e, ho.keep (hb.block m ho.lt)⟩, h.ris, h.ok, h.few⟩

/-- others' doings leave a transaction alone -/
theorem IsTx.beside {w w' : World} {T : Nat} {M : Option Nat} {b : Value} {l : List (Nat × Ch)} (h : IsTx w T M b l) {ok : Nat → Prop} (ho : Only ok w w') (hT : ¬ ok T) (hM : ∀ m, M = some m → ¬ ok m) : IsTx w' T M b l :=
  ⟨(ho.block T h.lt hT).trans h.box, by
    rcases h.map with h | ⟨m, e, hm⟩
    · exact .inl h
    · exact .inr ⟨m, e, hm.keep (ho.block m hm.lt (hM m e))⟩, h.ris, h.ok, h.few⟩

theorem IsTx.neM {w : World} {T m : Nat} {b : Value} {l : List (Nat × Ch)} (h : IsTx w T (some m) b l) : T ≠ m := by
  rintro rfl
  rcases h.map with ⟨h1, -⟩ | ⟨m, e, ho⟩
  · cases h1
  · cases e; exact ho.no_cells h.box

theorem new_any (b : Value) (hb : b = .nilFunc ∨ ∃ f a c, b = .func f a c) (w : World) : Calls Try.prog 7 #[b] w fun e w' => e = .returned (.pointer (some ⟨w.heap.size, 0, none⟩)) ∧ IsTx w' w.heap.size none b [] ∧ Below w.heap.size w w' := by
  have h0 : IsTx (w.alloc (.cells #[b, .map none] 45)) w.heap.size none b [] := ⟨heap_alloc_last w _, .inl ⟨rfl, rfl⟩, List.Pairwise.nil, by simp, by simp⟩
  have H0 := Lib.hid h0
  clear h0
  rcases hb with rfl | ⟨f, a, c, rfl⟩
  all_goals
    go_enter Try.func7, Try.ntmps7
    go_wp2_with fail
    go_ret
    exact ⟨rfl, H0.out, (Below.refl _ w).alloc (Nat.le_refl _) _⟩

/-- a change that may be -/
structure ChOk (a : Nat) (c : Ch) : Prop where
  key : a < 18446744073709551616
  size : c.s.size ≤ 281474976710656
  gone : c.gone = true → c.s = noB

theorem put_ok {l : List (Nat × Ch)} (h : ∀ p ∈ l, p.1 < 18446744073709551616 ∧ p.2.s.size ≤ 281474976710656 ∧ (p.2.gone = true → p.2.s = noB)) {a : Nat} {c : Ch} (hc : ChOk a c) :
    ∀ p ∈ putU a c l, p.1 < 18446744073709551616 ∧ p.2.s.size ≤ 281474976710656 ∧ (p.2.gone = true → p.2.s = noB) := fun p hp => by
  rcases mem_putU hp with rfl | hp
  · exact ⟨hc.key, hc.size, hc.gone⟩
  · exact h p hp

set_option maxRecDepth 100000 in
theorem lay_any {w : World} {T : Nat} {M : Option Nat} {b : Value} {l : List (Nat × Ch)} (h : IsTx w T M b l) {a : Nat} {s : ByteArray} {g : Bool} (hc : ChOk a ⟨s, g⟩) (hl : l.length < 1000) :
    Calls Try.prog 18 #[.pointer (some ⟨T, 0, none⟩), .agg #[.int .u64 (a : Int), .string s, .bool g]] w fun e w' => e = .returned (.tuple #[]) ∧ ∃ M', IsTx w' T M' b (putU a ⟨s, g⟩ l) ∧ TxOnly w w' T M ∧ (M' = M ∨ ∃ m, M' = some m ∧ w.heap.size ≤ m) := by
  have c1 : w.cell? ⟨T, 1, none⟩ = some (.map M) := by rw [cell_of_row _ _ _ _ _ _ h.box]; rfl
  have f1 : w.frozen? ⟨T, 1, none⟩ = false := by simp [World.frozen?, h.box]
  have hq := fun p W => eql_mapU p W Try.underlying43
  have hmk := fun W => run_makeMap (P := Try.prog) 43 W
  have hTlt := h.lt
  have hne : T ≠ w.heap.size := by omega
  have hb1 : Below w.heap.size w (w.alloc (.cells #[.int .u64 (a : Int), .string s, .bool g] 38)) := (Below.refl _ w).alloc (Nat.le_refl _) _
  rcases h.map with ⟨rfl, rfl⟩ | ⟨m, rfl, hm⟩
  · have h0 : (w.setCell ⟨T, 1, none⟩ (.map (some (w.heap.size + 1)))).heap[T]? = some (.cells #[b, .map (some (w.heap.size + 1))] 45 (0, 0)) := (heap_setCell_same _ T 1 _ _ _ h.box).trans rfl
    have hz : (w.setCell ⟨T, 1, none⟩ (.map (some (w.heap.size + 1)))).heap.size = w.heap.size := by simp [World.setCell]
    have hm2 : OwnU ((((w.setCell ⟨T, 1, none⟩ (.map (some (w.heap.size + 1)))).alloc (.cells #[.int .u64 (a : Int), .string s, .bool g] 38)).alloc (.map #[] 0)).drew) (w.heap.size + 1) chV [] := by
      have := OwnU.made (V := chV) ((w.setCell ⟨T, 1, none⟩ (.map (some (w.heap.size + 1)))).alloc (.cells #[.int .u64 (a : Int), .string s, .bool g] 38))
      simp only [World.size_alloc, hz] at this
      exact this
    obtain ⟨w4, hrun, hown, hgrow⟩ := put_u hm2 Try.underlying43 (by simp [maxLen]) List.Pairwise.nil hc.key ⟨s, g⟩
    have hb2 : Below (w.setCell ⟨T, 1, none⟩ (.map (some (w.heap.size + 1)))).heap.size (w.setCell ⟨T, 1, none⟩ (.map (some (w.heap.size + 1)))) (((w.setCell ⟨T, 1, none⟩ (.map (some (w.heap.size + 1)))).alloc (.cells #[.int .u64 (a : Int), .string s, .bool g] 38)).alloc (.map #[] 0)).drew := (((Below.refl _ _).alloc (Nat.le_refl _) _).alloc (by simp) _).drew
    have hbx3 : (((w.setCell ⟨T, 1, none⟩ (.map (some (w.heap.size + 1)))).alloc (.cells #[.int .u64 (a : Int), .string s, .bool g] 38)).alloc (.map #[] 0)).drew.heap[T]? = some (.cells #[b, .map (some (w.heap.size + 1))] 45 (0, 0)) := (hb2.block T (by rw [hz]; exact hTlt)).trans h0
    have HF : Hid (∃ M', IsTx w4 T M' b (putU a ⟨s, g⟩ []) ∧ TxOnly w w4 T none ∧ (M' = none ∨ ∃ m, M' = some m ∧ w.heap.size ≤ m)) := Lib.hid ⟨some (w.heap.size + 1), ⟨(hgrow.block T (Array.getElem?_eq_some_iff.1 hbx3).1 (by simp; omega)).trans hbx3, .inr ⟨_, rfl, hown⟩, ris_putU List.Pairwise.nil, put_ok h.ok hc, by simp [putU]⟩,
      (((Only.refl _ w).setCell (p := ⟨T, 1, none⟩) (.inl (.inl rfl)) _).trans (Only.of_below hb2)).grown hgrow (.inr (by omega)), .inr ⟨_, rfl, by omega⟩⟩
    unfold chV at hrun
    simp only at hrun
    clear h hc hb1 hb2 hm2 hown hgrow hbx3 h0 hz
    go_enter Try.func18, Try.ntmps18
    go_wp2_with fail
    refine region_tail 7 (by kernel_rfl) (by kernel_rfl) ?_
    simp only [List.take_succ_cons, List.take_zero, List.drop_succ_cons, List.drop_zero]
    iterate 7 still_step
    refine wpStill_nil ?_
    refine list_putU rfl 43 _ _ _ rfl _ _ _ rfl rfl rfl hrun ?_
    go_wp2_with fail
    go_end0
    exact ⟨rfl, HF.out⟩
  · have hm3 : OwnU (w.alloc (.cells #[.int .u64 (a : Int), .string s, .bool g] 38)).drew m chV l := hm.keep (hb1.block m hm.lt)
    obtain ⟨w4, hrun, hown, hgrow⟩ := put_u hm3 Try.underlying43 (by simp [maxLen]; omega) h.ris hc.key ⟨s, g⟩
    have hbx3 : (w.alloc (.cells #[.int .u64 (a : Int), .string s, .bool g] 38)).drew.heap[T]? = some (.cells #[b, .map (some m)] 45 (0, 0)) := (hb1.block T hTlt).trans h.box
    have hnm := h.neM
    have HF : Hid (∃ M', IsTx w4 T M' b (putU a ⟨s, g⟩ l) ∧ TxOnly w w4 T (some m) ∧ (M' = some m ∨ ∃ m, M' = some m ∧ w.heap.size ≤ m)) := Lib.hid ⟨some m, ⟨(hgrow.block T (Array.getElem?_eq_some_iff.1 hbx3).1 (by simp; omega)).trans hbx3, .inr ⟨_, rfl, hown⟩, ris_putU h.ris, put_ok h.ok hc, by have := putU_len (a := a) (s := (⟨s, g⟩ : Ch)) (l := l); omega⟩,
      ((Only.of_below hb1).drew).grown hgrow (.inl (.inr rfl)), .inl rfl⟩
    unfold chV at hrun
    simp only at hrun
    clear h hc hb1 hm hm3 hown hgrow hbx3
    go_enter Try.func18, Try.ntmps18
    go_wp2_with fail
    refine region_tail 7 (by kernel_rfl) (by kernel_rfl) ?_
    simp only [List.take_succ_cons, List.take_zero, List.drop_succ_cons, List.drop_zero]
    iterate 7 still_step
    refine wpStill_nil ?_
    refine list_putU rfl 43 _ _ _ rfl _ _ _ rfl rfl rfl hrun ?_
    go_wp2_with fail
    go_end0
    exact ⟨rfl, HF.out⟩

/-- a transaction behind Put -/
def putT (f : Nat → Option ByteArray) (l : List (Nat × Ch)) (a : Nat) (s : ByteArray) : List (Nat × Ch) := if f a = some s then delU a l else putU a ⟨s, false⟩ l

/-- behind Drop, and whether it was there -/
def dropT (f : Nat → Option ByteArray) (l : List (Nat × Ch)) (a : Nat) : List (Nat × Ch) :=
  match getT f l a with
  | none => l
  | some _ => if (f a).isSome then putU a ⟨noB, true⟩ l else delU a l

theorem bytes_eq (x y : ByteArray) : (x.toList == y.toList) = decide (x = y) := by
  rw [← beq_toListBytes]
  cases x with | mk a => cases y with | mk b =>
  have : (ByteArray.mk a == ByteArray.mk b) = (a == b) := rfl
  rw [this, Bool.eq_iff_iff]; simp

/-- the map without a record -/
theorem IsTx.del {w : World} {T : Nat} {M : Option Nat} {b : Value} {l : List (Nat × Ch)} (h : IsTx w T M b l) {a : Nat} (ha : a < 18446744073709551616) (ty : TypeId) :
    ∃ w', (Builtin.delete_ #[43, 22] ty #[.map M, .int .u64 (a : Int)]).run Try.prog w = .ok (.tuple #[]) w' ∧ IsTx w' T M b (delU a l) ∧ TxOnly w w' T M := by
  have hok : ∀ p ∈ delU a l, p ∈ l := fun p hp => (List.mem_filter.1 hp).1
  rcases h.map with ⟨rfl, rfl⟩ | ⟨m, rfl, hm⟩
  · exact ⟨w, del_nu Try.underlying43 ha ty, ⟨h.box, .inl ⟨rfl, rfl⟩, ris_delU h.ris, fun p hp => h.ok p (hok p hp), by simp [delU]⟩, Only.refl _ _⟩
  · obtain ⟨w', hrun, hown, hgrow⟩ := del_u hm Try.underlying43 ha ty
    have hnm := h.neM
    exact ⟨w', hrun, ⟨(hgrow.block T h.lt (by simp; omega)).trans h.box, .inr ⟨_, rfl, hown⟩, ris_delU h.ris, fun p hp => h.ok p (hok p hp), Nat.le_trans delU_len h.few⟩, (Only.refl _ w).grown hgrow (.inl (.inr rfl))⟩

theorem TxOnly.after {w w1 w' : World} {T : Nat} {M : Option Nat} (hb : Below w.heap.size w w1) (h : TxOnly w1 w' T M) : TxOnly w w' T M := (Only.of_below hb).trans h

theorem put_any {w : World} {T : Nat} {M : Option Nat} {b : Value} {f : Nat → Option ByteArray} {l : List (Nat × Ch)} (h : IsTx w T M b l) (hb : IsBase w b f) {a : Nat} (ha : a < 18446744073709551616) {s : ByteArray} (hs : s.size ≤ 281474976710656) (hl : l.length < 1000) :
    Calls Try.prog 5 #[.pointer (some ⟨T, 0, none⟩), .int .u64 (a : Int), .string s] w fun e w' => e = .returned (.tuple #[]) ∧ ∃ M', IsTx w' T M' b (putT f l a s) ∧ TxOnly w w' T M ∧ (M' = M ∨ ∃ m, M' = some m ∧ w.heap.size ≤ m) := by
  have HW := Lib.hid (was_any h.box hb a)
  have HT := Lib.hid h
  have HC := Lib.hid (fun W => cloneB s W hs)
  have HL : Hid (∀ W, IsTx W T M b l → Calls Try.prog 18 #[.pointer (some ⟨T, 0, none⟩), .agg #[.int .u64 (a : Int), .string s, .bool false]] W fun e w' => e = .returned (.tuple #[]) ∧ ∃ M', IsTx w' T M' b (putU a ⟨s, false⟩ l) ∧ TxOnly W w' T M ∧ (M' = M ∨ ∃ m, M' = some m ∧ W.heap.size ≤ m)) :=
    Lib.hid fun W hW => lay_any hW ⟨ha, hs, fun h => by cases h⟩ hl
  have HD := Lib.hid (fun W (hW : IsTx W T M b l) => hW.del ha)
  unfold putT
  by_cases hf : f a = some s
  · rw [if_pos hf]
    rw [hf] at HW
    clear h hb hf
    go_enter Try.func5, Try.ntmps5
    go_wp2_with (first
      | (go_at_call 17; refine HW.out.mono ?_; rintro e w1 ⟨rfl, hb1⟩; have h1 := HT.out.on hb1; have c1 : w1.cell? ⟨T, 1, none⟩ = some (.map M) := (by rw [cell_of_row _ _ _ _ _ _ h1.box]; rfl); obtain ⟨w2, hrun, h2, ho2⟩ := HD.out w1 h1 0; have H2 := Lib.hid h2; have HO2 := Lib.hid ho2; have HB1 := Lib.hid hb1; clear h1 h2 ho2 hb1)
      | fail)
    refine bodyPost_ret (results_none rfl _ _ _) rfl ?_
    exact ⟨rfl, M, H2.out, TxOnly.after HB1.out HO2.out, .inl rfl⟩
  · rw [if_neg hf]
    have HF : Hid (∀ (w1 w2 w3 : World) (M' : Option Nat), Below w.heap.size w w1 → Below w1.heap.size w1 w2 → IsTx w3 T M' b (putU a ⟨s, false⟩ l) → TxOnly w2 w3 T M → (M' = M ∨ ∃ m, M' = some m ∧ w2.heap.size ≤ m) →
        ∃ M', IsTx w3 T M' b (putU a ⟨s, false⟩ l) ∧ TxOnly w w3 T M ∧ (M' = M ∨ ∃ m, M' = some m ∧ w.heap.size ≤ m)) := Lib.hid fun w1 w2 w3 M' k1 k2 k3 k4 k5 => by
      have kb := k1.trans (k2.mono k1.size)
      refine ⟨M', k3, TxOnly.after kb k4, ?_⟩
      rcases k5 with k5 | ⟨m, k5, k6⟩
      · exact .inl k5
      · exact .inr ⟨m, k5, Nat.le_trans kb.size k6⟩
    cases hfa : f a with
    | none =>
      rw [hfa] at HW
      clear h hb hf hfa HD
      go_enter Try.func5, Try.ntmps5
      go_wp2_with (first
        | (go_at_call 17; refine HW.out.mono ?_; rintro e w1 ⟨rfl, hb1⟩; have HB1 := Lib.hid hb1; clear hb1)
        | (go_at_call 19; refine (HC.out _).mono ?_; rintro e w2 ⟨rfl, hb2⟩; have HB2 := Lib.hid hb2; clear hb2)
        | (go_at_call 18; refine (HL.out _ ((HT.out.on HB1.out).on HB2.out)).mono ?_; rintro e w3 ⟨rfl, M', h3, ho3, hm3⟩; have H3 := Lib.hid h3; have HO3 := Lib.hid ho3; have HM3 := Lib.hid hm3; clear h3 ho3 hm3)
        | fail)
      go_end0
      exact ⟨rfl, HF.out _ _ _ M' HB1.out HB2.out H3.out HO3.out HM3.out⟩
    | some o =>
      rw [hfa] at HW hf
      have hos : (o.toList == s.toList) = false := by
        rw [bytes_eq]; simp; rintro rfl; exact hf rfl
      clear h hb hf hfa HD
      go_enter Try.func5, Try.ntmps5
      go_wp2_with (first
        | (go_at_call 17; refine HW.out.mono ?_; rintro e w1 ⟨rfl, hb1⟩; have HB1 := Lib.hid hb1; clear hb1)
        | (go_at_call 19; refine (HC.out _).mono ?_; rintro e w2 ⟨rfl, hb2⟩; have HB2 := Lib.hid hb2; clear hb2)
        | (go_at_call 18; refine (HL.out _ ((HT.out.on HB1.out).on HB2.out)).mono ?_; rintro e w3 ⟨rfl, M', h3, ho3, hm3⟩; have H3 := Lib.hid h3; have HO3 := Lib.hid ho3; have HM3 := Lib.hid hm3; clear h3 ho3 hm3)
        | fail)
      go_end0
      exact ⟨rfl, HF.out _ _ _ M' HB1.out HB2.out H3.out HO3.out HM3.out⟩

theorem drop_any {w : World} {T : Nat} {M : Option Nat} {b : Value} {f : Nat → Option ByteArray} {l : List (Nat × Ch)} (h : IsTx w T M b l) (hb : IsBase w b f) {a : Nat} (ha : a < 18446744073709551616) (hl : l.length < 1000) :
    Calls Try.prog 9 #[.pointer (some ⟨T, 0, none⟩), .int .u64 (a : Int)] w fun e w' => e = .returned (.bool (getT f l a).isSome) ∧ ∃ M', IsTx w' T M' b (dropT f l a) ∧ TxOnly w w' T M ∧ (M' = M ∨ ∃ m, M' = some m ∧ w.heap.size ≤ m) := by
  have HT := Lib.hid h
  have HG := Lib.hid (get_any h hb ha)
  have HW := Lib.hid (fun W (hW : Below w.heap.size w W) => was_any ((hW.block T h.lt).trans h.box) (hb.on hW) a)
  have HL : Hid (∀ W, IsTx W T M b l → Calls Try.prog 18 #[.pointer (some ⟨T, 0, none⟩), .agg #[.int .u64 (a : Int), .string noB, .bool true]] W fun e w' => e = .returned (.tuple #[]) ∧ ∃ M', IsTx w' T M' b (putU a ⟨noB, true⟩ l) ∧ TxOnly W w' T M ∧ (M' = M ∨ ∃ m, M' = some m ∧ W.heap.size ≤ m)) :=
    Lib.hid fun W hW => lay_any hW ⟨ha, by decide, fun _ => rfl⟩ hl
  have HD := Lib.hid (fun W (hW : IsTx W T M b l) => hW.del ha)
  unfold dropT
  cases hg : getT f l a with
  | none =>
    rw [hg] at HG
    clear h hb hg HW HL HD
    go_enter Try.func9, Try.ntmps9
    go_wp2_with (first
      | (go_at_call 6; refine HG.out.mono ?_; rintro e w1 ⟨rfl, hb1⟩; have HB1 := Lib.hid hb1; clear hb1)
      | fail)
    go_ret
    exact ⟨rfl, M, HT.out.on HB1.out, Only.of_below HB1.out, .inl rfl⟩
  | some s =>
    rw [hg] at HG
    cases hf : f a with
    | none =>
      rw [hf] at HW
      clear h hb hg hf HL
      go_enter Try.func9, Try.ntmps9
      go_wp2_with (first
        | (go_at_call 6; refine HG.out.mono ?_; rintro e w1 ⟨rfl, hb1⟩; have HB1 := Lib.hid hb1; clear hb1)
        | (go_at_call 17; refine (HW.out _ HB1.out).mono ?_; rintro e w2 ⟨rfl, hb2⟩; have h2 := (HT.out.on HB1.out).on hb2; have c1 : w2.cell? ⟨T, 1, none⟩ = some (.map M) := (by rw [cell_of_row _ _ _ _ _ _ h2.box]; rfl); obtain ⟨w3, hrun, h3, ho3⟩ := HD.out w2 h2 0; have H3 := Lib.hid h3; have HO3 := Lib.hid ho3; have HB2 := Lib.hid (HB1.out.trans (hb2.mono HB1.out.size)); clear h2 hb2 h3 ho3)
        | fail)
      go_ret
      exact ⟨rfl, M, H3.out, TxOnly.after HB2.out HO3.out, .inl rfl⟩
    | some o =>
      rw [hf] at HW
      clear h hb hg hf HD
      go_enter Try.func9, Try.ntmps9
      go_wp2_with (first
        | (go_at_call 6; refine HG.out.mono ?_; rintro e w1 ⟨rfl, hb1⟩; have HB1 := Lib.hid hb1; clear hb1)
        | (go_at_call 17; refine (HW.out _ HB1.out).mono ?_; rintro e w2 ⟨rfl, hb2⟩; have HB2 := Lib.hid (HB1.out.trans (hb2.mono HB1.out.size)); clear hb2)
        | (go_at_call 18; refine (HL.out _ (HT.out.on HB2.out)).mono ?_; rintro e w3 ⟨rfl, M', h3, ho3, hm3⟩; have H3 := Lib.hid h3; have HO3 := Lib.hid ho3; have HM3 := Lib.hid hm3; clear h3 ho3 hm3)
        | fail)
      go_ret
      refine ⟨rfl, M', H3.out, TxOnly.after HB2.out HO3.out, ?_⟩
      rcases HM3.out with k | ⟨m, k, k2⟩
      · exact .inl k
      · exact .inr ⟨m, k, Nat.le_trans HB2.out.size k2⟩

end Go.Proofs.Ytkhhmmblkfogcaa
