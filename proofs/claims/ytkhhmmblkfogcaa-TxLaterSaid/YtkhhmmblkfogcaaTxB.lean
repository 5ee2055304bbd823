/- a transaction in memory: Get -/
import Derived.Test.YtkhhmmblkfogcaaTxA
import Derived.Deep.WholeRow
import Derived.Deep.RegionHeld3
namespace Go.Proofs.Ytkhhmmblkfogcaa
open Go.ChangeShapes Go.WideShapes Go.ChangeAt Go.RowKit

/-- a getter of records: what it answers -/
def IsBase (w : World) (b : Value) (f : Nat → Option ByteArray) : Prop :=
  (b = .nilFunc ∧ f = fun _ => none) ∨ ∃ (B : Nat) (v : Value) (L : List (Nat × ByteArray)), b = .func (.func 23) #[] #[.pointer (some ⟨B, 0, none⟩)] ∧ w.heap[B]? = some (.cells #[v] 34 (0, 0)) ∧ IsRecs w v L ∧ f = findR L ∧ ∀ p ∈ L, p.2.size ≤ 281474976710656

theorem IsBase.size {w : World} {b : Value} {f : Nat → Option ByteArray} (h : IsBase w b f) {a : Nat} {s : ByteArray} (hs : f a = some s) : s.size ≤ 281474976710656 := by
  rcases h with ⟨-, rfl⟩ | ⟨B, v, L, -, -, -, rfl, hl⟩
  · cases hs
  · unfold findR at hs
    cases hf : L.find? fun r => r.1 == a with
    | none => rw [hf] at hs; cases hs
    | some p => rw [hf] at hs; cases hs; exact hl p (List.mem_of_find?_eq_some hf)

theorem IsBase.keep {w w' : World} {b : Value} {f : Nat → Option ByteArray} (h : IsBase w b f) (hb : ∀ (k : Nat) (cs : Array Value) (t : TypeId), t = 50 ∨ t = 34 → w.heap[k]? = some (Obj.cells cs t (0, 0)) → w'.heap[k]? = some (Obj.cells cs t (0, 0))) : IsBase w' b f := by
  rcases h with h | ⟨B, v, L, h1, h2, h3, h4, h5⟩
  · exact .inl h
  · exact .inr ⟨B, v, L, h1, hb _ _ _ (.inr rfl) h2, h3.keep fun k cs hk => hb k cs _ (.inl rfl) hk, h4, h5⟩

theorem IsBase.on {w w' : World} {b : Value} {f : Nat → Option ByteArray} (h : IsBase w b f) (hb : Below w.heap.size w w') : IsBase w' b f :=
  h.keep fun k _ _ _ hk => (hb.block k (Array.getElem?_eq_some_iff.1 hk).1).trans hk

theorem getter_any (A : Option Addr) (n c : Nat) (w : World) : Calls Try.prog 13 #[.slice A n c] w fun e w' => e = .returned (.func (.func 23) #[] #[.pointer (some ⟨w.heap.size, 0, none⟩)]) ∧ w' = w.alloc (.cells #[.slice A n c] 34) := by
  go_enter Try.func13, Try.ntmps13
  go_wp2_with fail
  go_ret
  exact ⟨rfl, rfl⟩

theorem getter_calls {w : World} {B : Nat} {v : Value} {L : List (Nat × ByteArray)} (h : w.heap[B]? = some (.cells #[v] 34 (0, 0))) (hL : IsRecs w v L) (a : Nat) :
    Calls Try.prog 23 #[.int .u64 (a : Int), .pointer (some ⟨B, 0, none⟩)] w fun e w' => e = .returned (.tuple #[.string ((findR L a).getD noB), .bool (findR L a).isSome]) ∧ w = w' := by
  have c0 : w.cell? ⟨B, 0, none⟩ = some v := by rw [cell_of_row _ _ _ _ _ _ h]; rfl
  have HF := Lib.hid (find_any hL a)
  obtain ⟨A, cap, rfl, -⟩ := hL
  clear h
  go_enter Try.func23, Try.ntmps23
  go_wp2_with (first
    | (go_at_call 24; refine HF.out.mono ?_; rintro e w' ⟨rfl, rfl⟩)
    | fail)
  go_ret2
  exact ⟨rfl, rfl⟩

theorem equalIn_funcs (d : Nat) (W : World) : (Op.equalIn (d + 1) 26 .nilFunc .nilFunc).run Try.prog W = .ok true W := by
  simp [Op.equalIn, run_underlying Try.underlying26]

theorem equalIn_func (d : Nat) (f : Fn) (a c : Array Value) (W : World) : (Op.equalIn (d + 1) 26 (.func f a c) .nilFunc).run Try.prog W = .ok false W := by
  simp [Op.equalIn, run_underlying Try.underlying26]

theorem eql_funcs (W : World) : (binOp .eql 26 .nilFunc .nilFunc).run Try.prog W = .ok (.bool true) W := by
  simp only [binOp]
  simp [show Op.equal 26 .nilFunc .nilFunc = Op.equalIn (9999 + 1) 26 .nilFunc .nilFunc from rfl, equalIn_funcs 9999 W]

theorem eql_func (f : Fn) (a c : Array Value) (W : World) : (binOp .eql 26 (.func f a c) .nilFunc).run Try.prog W = .ok (.bool false) W := by
  simp only [binOp]
  simp [show Op.equal 26 (.func f a c) .nilFunc = Op.equalIn (9999 + 1) 26 (.func f a c) .nilFunc from rfl, equalIn_func 9999 f a c W]

theorem bcell {W w1 : World} {n : Nat} (hn : n = W.heap.size) (hb : Below n W w1) : (∀ b o, b < W.heap.size → w1.cell? ⟨b, o, none⟩ = W.cell? ⟨b, o, none⟩) ∧ (∀ b o, b < W.heap.size → w1.frozen? ⟨b, o, none⟩ = W.frozen? ⟨b, o, none⟩) := by
  subst hn
  exact ⟨fun b o h => hb.cell (p := ⟨b, o, none⟩) h, fun b o h => hb.frozen (p := ⟨b, o, none⟩) h⟩

theorem was_any {w : World} {T : Nat} {b mv : Value} {f : Nat → Option ByteArray} (hT : w.heap[T]? = some (.cells #[b, mv] 45 (0, 0))) (hb : IsBase w b f) (a : Nat) :
    Calls Try.prog 17 #[.pointer (some ⟨T, 0, none⟩), .int .u64 (a : Int)] w fun e w' => e = .returned (.tuple #[.string ((f a).getD noB), .bool (f a).isSome]) ∧ Below w.heap.size w w' := by
  have c0 : w.cell? ⟨T, 0, none⟩ = some b := by rw [cell_of_row _ _ _ _ _ _ hT]; rfl
  have hsz := fun s (hs : f a = some s) => hb.size hs
  have hq1 := fun W => eql_funcs W
  have hq2 := fun f a c W => eql_func f a c W
  rcases hb with ⟨rfl, rfl⟩ | ⟨B, v, L, rfl, h2, h3, rfl, h5⟩
  · clear hT
    go_enter Try.func17, Try.ntmps17
    go_wp2_with fail
    go_ret2
    exact ⟨rfl, Below.refl _ _⟩
  · have HG := Lib.hid (getter_calls h2 h3 a)
    cases hf : findR L a with
    | none =>
      rw [hf] at HG
      clear hT h2 h3 h5 hsz hf
      go_enter Try.func17, Try.ntmps17
      go_wp2_with (first
        | (go_at_call 23; refine HG.out.mono ?_; rintro e w' ⟨rfl, rfl⟩)
        | fail)
      go_ret2
      exact ⟨rfl, Below.refl _ _⟩
    | some s =>
      rw [hf] at HG
      have HC := Lib.hid (cloneB s w (hsz s hf))
      clear hT h2 h3 h5 hsz hf
      go_enter Try.func17, Try.ntmps17
      go_wp2_with (first
        | (go_at_call 23; refine HG.out.mono ?_; rintro e w' ⟨rfl, rfl⟩)
        | (go_at_call 19; refine HC.out.mono ?_; rintro e w' ⟨rfl, hb⟩)
        | fail)
      go_ret2
      exact ⟨rfl, hb⟩

/-- a transaction in memory: its own block, its map -/
structure IsTx (w : World) (T : Nat) (M : Option Nat) (b : Value) (l : List (Nat × Ch)) : Prop where
  box : w.heap[T]? = some (.cells #[b, .map M] 45 (0, 0))
  map : (M = none ∧ l = []) ∨ ∃ m, M = some m ∧ OwnU w m chV l
  ris : RisU l
  ok : ∀ p ∈ l, p.1 < 18446744073709551616 ∧ p.2.s.size ≤ 281474976710656 ∧ (p.2.gone = true → p.2.s = noB)
  few : l.length ≤ 1000

/-- what a record is -/
def getT (f : Nat → Option ByteArray) (l : List (Nat × Ch)) (a : Nat) : Option ByteArray :=
  match getU a l with
  | some c => if c.gone then none else some c.s
  | none => f a

theorem zero_ch (w : World) : (zeroValue 38).run Try.prog w = .ok (.agg #[.int .u64 0, .string noB, .bool false]) w :=
  (zero_of_info (n := 3) (P := Try.prog) (t := 38) (v := .agg #[.int .u64 0, .string noB, .bool false]) (by kernel_rfl)).1 w

/-- the look into its map -/
theorem IsTx.look {w : World} {T : Nat} {M : Option Nat} {b : Value} {l : List (Nat × Ch)} (h : IsTx w T M b l) {a : Nat} (ha : a < 18446744073709551616) :
    (Instr.lookup 43 (.map M) (.int .u64 (a : Int)) true).run Try.prog w = .ok (.tuple #[((getU a l).map (chV a)).getD (.agg #[.int .u64 0, .string noB, .bool false]), .bool (getU a l).isSome]) w := by
  rcases h.map with ⟨rfl, rfl⟩ | ⟨m, rfl, hm⟩
  · have := look_nu (w := w) Try.underlying43 (zero_ch w) ha true
    rw [this]; rfl
  · have := look_u hm Try.underlying43 (zero_ch w) ha true
    rw [this]; rfl

theorem got_keep {n w w' : World} {g : Nat} {u1 u2 : Value} (hb : Below w.heap.size w w') (h : w.cell? ⟨g, 1, none⟩ = some u1 ∧ w.cell? ⟨g, 2, none⟩ = some u2 ∧ Below n.heap.size n w) :
    w'.cell? ⟨g, 1, none⟩ = some u1 ∧ w'.cell? ⟨g, 2, none⟩ = some u2 ∧ Below n.heap.size n w' := by
  have k : ∀ {p : Addr} {u : Value}, w.cell? p = some u → w'.cell? p = some u := fun h => (hb.cell (World.block_lt_of_cell? w _ h)).trans h
  exact ⟨k h.1, k h.2.1, h.2.2.trans (hb.mono h.2.2.size)⟩

theorem get_any {w : World} {T : Nat} {M : Option Nat} {b : Value} {f : Nat → Option ByteArray} {l : List (Nat × Ch)} (h : IsTx w T M b l) (hb : IsBase w b f) {a : Nat} (ha : a < 18446744073709551616) :
    Calls Try.prog 6 #[.pointer (some ⟨T, 0, none⟩), .int .u64 (a : Int)] w fun e w' => e = .returned (.tuple #[.string ((getT f l a).getD noB), .bool (getT f l a).isSome]) ∧ Below w.heap.size w w' := by
  have c1 : w.cell? ⟨T, 1, none⟩ = some (.map M) := by rw [cell_of_row _ _ _ _ _ _ h.box]; rfl
  have hl := h.look ha
  unfold getT
  cases hg : getU a l with
  | none =>
    rw [hg] at hl
    have hb1 : Below w.heap.size w (w.alloc (.cells #[.int .u64 0, .string noB, .bool false] 38)) := (Below.refl _ w).alloc (Nat.le_refl _) _
    have HW := Lib.hid (was_any ((hb1.block T (Array.getElem?_eq_some_iff.1 h.box).1).trans h.box) (hb.on hb1) a)
    have HB1 := Lib.hid hb1
    simp only [Option.map_none, Option.getD_none, Option.isSome_none] at hl
    clear h hb hb1 hg
    go_enter Try.func6, Try.ntmps6
    go_wp2_with (first
      | (go_at_call 17; refine HW.out.mono ?_; rintro e w' ⟨rfl, hb⟩)
      | fail)
    go_ret2
    exact ⟨rfl, HB1.out.trans (hb.mono HB1.out.size)⟩
  | some c =>
    rw [hg] at hl
    obtain ⟨s, g⟩ := c
    have hok := h.ok _ (getU_mem hg)
    simp only [Option.map_some, Option.getD_some, Option.isSome_some, chV] at hl
    have HC := Lib.hid (fun W => cloneB s W hok.2.1)
    have hgs := hok.2.2
    simp only at hgs
    have hy : (w.alloc (.cells #[.int .u64 (a : Int), .string s, .bool g] 38)).heap[w.heap.size]? = some (.cells #[.int .u64 (a : Int), .string s, .bool g] 38 (0, 0)) := heap_alloc_last w _
    have hk1 := got_keep (w := (w.alloc (.cells #[.int .u64 (a : Int), .string s, .bool g] 38))) (w' := (w.alloc (.cells #[.int .u64 (a : Int), .string s, .bool g] 38)).drew) (n := w) (g := w.heap.size) (u1 := .string s) (u2 := .bool g) ((Below.refl _ _).drew) ⟨by rw [cell_of_row _ _ _ _ _ _ hy]; rfl, by rw [cell_of_row _ _ _ _ _ _ hy]; rfl, (Below.refl _ w).alloc (Nat.le_refl _) _⟩
    have HG := Lib.hid hgs
    clear h hb hg hok hgs hy
    cases g
    · go_enter Try.func6, Try.ntmps6
      go_wp2_with fail
      go_region_held3 (fun w' => w'.cell? ⟨w.heap.size, 1, none⟩ = some (.string s) ∧ w'.cell? ⟨w.heap.size, 2, none⟩ = some (.bool false) ∧ Below w.heap.size w w')
        (first | exact hk1 | (exact got_keep (by assumption) (by assumption)))
        (first
          | (go_at_call 19; (with_reducible refine (HC.out _).mono ?_); rintro e wn ⟨rfl, hbn⟩))
      all_goals
        go_wp2_with fail
        go_ret2
        exact ⟨rfl, And.right (And.right (by assumption))⟩
    · go_enter Try.func6, Try.ntmps6
      go_wp2_with fail
      go_region_held3 (fun w' => w'.cell? ⟨w.heap.size, 1, none⟩ = some (.string s) ∧ w'.cell? ⟨w.heap.size, 2, none⟩ = some (.bool true) ∧ Below w.heap.size w w')
        (first | exact hk1 | (exact got_keep (by assumption) (by assumption)))
        (first
          | (go_at_call 19; (with_reducible refine (HC.out _).mono ?_); rintro e wn ⟨rfl, hbn⟩))
      all_goals
        go_wp2_with fail
        go_ret2
        exact ⟨by rw [HG.out trivial]; rfl, And.right (And.right (by assumption))⟩

end Go.Proofs.Ytkhhmmblkfogcaa
