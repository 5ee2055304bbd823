/- Ints, Drw, RowL -/
import Derived.Test.YtgmjhoppjjjilaaDoorRows
import Derived.WalkKit
import Derived.WalkLawsBesides
import Derived.ProofKit
import Derived.OpenShut
import Derived.Outline
import Derived.Lib.Hide
import Derived.Laws.FloatArith
import Derived.Laws.BitsAllLaws
import Derived.Laws.Bits64b
import Derived.Laws.StructEq
import Derived.Deep.Slices
import Derived.Deep.Draws
import Derived.Deep.QuietTactic
import Derived.BigQuiet
import Derived.Below
import Derived.Test.YtgmjhoppjjjilaaDoorQ03
import Derived.Laws.AppendOwn
import Derived.Laws.CopyRow
import Derived.Lib.SlFresh
import Derived.Lib.AppendZerosOnto
import Derived.Lib.Overlaps
import Derived.Shelf.Spec.SlicesInsert
import Derived.StillTailTactics

/- int64 and uint64: what every seat needs; the imports of all walks -/
namespace Go.Proofs.YtgmjhoppjjjilaaDoor
open Go.ChangeShapes Go.WideShapes Go.ChangeAt Go.RowKit Go.Fl

/-- an int64 -/
def is64 (n : Int) : Bool := decide (-9223372036854775808 ≤ n) && decide (n ≤ 9223372036854775807)

/-- it, or 0 -/
def cut64 (n : Int) : Int := if is64 n then n else 0

theorem is64_yes {n : Int} (h1 : -9223372036854775808 ≤ n) (h2 : n ≤ 9223372036854775807) : is64 n = true := by simp [is64, h1, h2]

theorem is64_iff {n : Int} : is64 n = true ↔ -9223372036854775808 ≤ n ∧ n ≤ 9223372036854775807 := by simp [is64]

theorem is64_no {n : Int} : is64 n = false ↔ ¬ (-9223372036854775808 ≤ n ∧ n ≤ 9223372036854775807) := by
  rw [← is64_iff]; simp

theorem wrap64_is (n : Int) : is64 (wrap64 n) = true := by unfold is64 wrap64; simp; omega

theorem wrap64_id {n : Int} (h : is64 n = true) : wrap64 n = n := by obtain ⟨x, y⟩ := is64_iff.1 h; unfold wrap64; omega

theorem is64_wf {a : Int} (h : (Lit.int .i64 a).wf = true) : is64 a = true := by
  have e1 : IntKind.i64.min = -9223372036854775808 := by decide
  have e2 : IntKind.i64.max = 9223372036854775807 := by decide
  simpa [Lit.wf, is64, e1, e2] using h

theorem f64_wf {b : Nat} (h : (Lit.float .f64 b).wf = true) : b < 18446744073709551616 := by simpa [Lit.wf] using h

theorem stillB {P : Program} {f : FuncId} {args : Array Value} {w : World} {q : Ending → Prop} (h : Calls P f args w fun e w' => q e ∧ w = w') : Calls P f args w fun e w' => q e ∧ Below w.heap.size w w' := h.mono fun _ _ ⟨x, y⟩ => ⟨x, y ▸ Below.refl _ _⟩
theorem still {P : Program} {f : FuncId} {args : Array Value} {w : World} (h : Calls P f args w fun e w' => e = .returned (.bool true) ∧ w = w') :
    Calls P f args w fun e w' => e = .returned (.bool true) ∧ Grown w w' := h.mono fun _ _ ⟨x, y⟩ => ⟨x, y ▸ Grown.refl _⟩

theorem ret2 {a b : Int} {c d : Bool} (h : a = b) (h' : c = d) : Ending.returned (.tuple #[.int .i64 a, .bool c]) = .returned (.tuple #[.int .i64 b, .bool d]) := by rw [h, h']

theorem ret1b {c d : Bool} (h : c = d) : Ending.returned (.bool c) = .returned (.bool d) := by rw [h]

theorem cut_yes {n : Int} (h : is64 n = true) : cut64 n = n := by unfold cut64; rw [h]; rfl

theorem cut_no {n : Int} (h : is64 n = false) : cut64 n = 0 := by unfold cut64; rw [h]; rfl

theorem nat_and_hi (c : Nat) (h : c < 18446744073709551616) : c &&& 9223372036854775808 = if 9223372036854775808 ≤ c then 9223372036854775808 else 0 := by
  have := nat_bit 63 c
  rw [show (9223372036854775808 : Nat) = 2 ^ 63 from by decide, this]
  split <;> rename_i hc
  · have e : c / 2 ^ 63 = 1 := by simp at hc ⊢; omega
    rw [e]
  · have e : c / 2 ^ 63 = 0 := by simp at hc ⊢; omega
    rw [e]

theorem and_hi (c : Nat) (h : c < 18446744073709551616) : bits .and .u64 (c : Int) 9223372036854775808 = if 9223372036854775808 ≤ c then 9223372036854775808 else 0 := by
  have := u64_and_nat c 9223372036854775808 h (by decide)
  rw [nat_and_hi c h] at this
  refine Eq.trans this ?_
  split <;> rfl

theorem or_hi (c : Nat) (h : c < 9223372036854775808) : bits .or .u64 (c : Int) 9223372036854775808 = ((c + 9223372036854775808 : Nat) : Int) := by
  have := u64_or_nat c 9223372036854775808 (by omega) (by decide)
  rw [Nat.or_comm, nat_join 63 9223372036854775808 c (by decide) (by simpa using h), Nat.add_comm] at this
  exact this

theorem xor_hi (c : Nat) (h : c < 18446744073709551616) (h' : 9223372036854775808 ≤ c) : bits .xor .u64 (c : Int) 9223372036854775808 = ((c - 9223372036854775808 : Nat) : Int) := by
  have := u64_xor_nat c 9223372036854775808 (by omega) (by decide)
  obtain ⟨d, rfl⟩ : ∃ d, c = d + 9223372036854775808 := ⟨c - 9223372036854775808, by omega⟩
  refine this.trans ?_
  have e : d + 9223372036854775808 = 9223372036854775808 ^^^ d := by
    have hd : d < 2 ^ 63 := by simp; omega
    have e1 := nat_join 63 9223372036854775808 d (by decide) hd
    rw [Nat.add_comm, ← e1]
    apply Nat.eq_of_testBit_eq; intro i
    rw [Nat.testBit_or, Nat.testBit_xor]
    by_cases hi : i < 63
    · have : Nat.testBit 9223372036854775808 i = false := by
        rw [show (9223372036854775808 : Nat) = 2 ^ 63 from by decide, Nat.testBit_two_pow]; simp; omega
      simp [this]
    · have : d.testBit i = false := Nat.testBit_lt_two_pow (Nat.lt_of_lt_of_le hd (Nat.pow_le_pow_right (by decide) (by omega)))
      simp [this]
  rw [e, Nat.xor_comm 9223372036854775808 d, Nat.xor_assoc, Nat.xor_self, Nat.xor_zero, Nat.xor_comm d, ← e]; simp

theorem not_u64 (c : Nat) (h : c < 18446744073709551616) : bits .xor .u64 IntKind.u64.max (c : Int) = ((18446744073709551615 - c : Nat) : Int) := by
  have e0 : IntKind.u64.max = ((18446744073709551615 : Nat) : Int) := by decide
  rw [e0, u64_xor_nat _ c (by decide) h]
  congr 1
  have e1 : (18446744073709551615 : Nat) = 2 ^ 64 - 1 := by decide
  rw [e1]
  apply Nat.eq_of_testBit_eq; intro i
  rw [Nat.testBit_xor, Nat.testBit_two_pow_sub_one, show 2 ^ 64 - 1 - c = 2 ^ 64 - (c + 1) from by omega, Nat.testBit_two_pow_sub_succ (by simpa using h)]
  by_cases hi : i < 64
  · simp [hi]
  · have : c.testBit i = false := Nat.testBit_lt_two_pow (Nat.lt_of_lt_of_le (by simpa using h) (Nat.pow_le_pow_right (by decide) (Nat.le_of_not_lt hi)))
    simp [hi, this]

theorem ret_int {k : IntKind} {a b : Int} (h : a = b) : Ending.returned (.int k a) = .returned (.int k b) := by rw [h]

theorem ret_flt {a b : Nat} (h : a = b) : Ending.returned (.float .f64 a) = .returned (.float .f64 b) := by rw [h]

theorem nat_beq (f c : Nat) (d : Int) (h : (c : Int) = d) : (f == c) = ((f : Int) == d) := by
  subst h; rw [Bool.eq_iff_iff]; simp only [beq_iff_eq]; omega

theorem big_no : ((9221120237041090561 : Nat) : Int) = 9221120237041090561 := by decide

theorem ret_fi {f : Nat} {a b : Int} (h : a = b) : Ending.returned (.tuple #[.float .f64 f, .int .i64 a]) = .returned (.tuple #[.float .f64 f, .int .i64 b]) := by rw [h]

@[go_sem] theorem run_store_float (P : Program) (w : World) (a : Addr) (m : Mode) (k : FloatKind) (b : Nat) : (store a (.float k b) m).run P w = stored P w a (.float k b) m := run_store P w a _ m rfl

theorem run_equalIn_float {P : Program} (w : World) (d : Nat) (t : TypeId) (k : FloatKind) (a b : Nat) (h : P.underlying t = some (.float k)) : (Op.equalIn (d + 1) t (.float k a) (.float k b)).run P w = .ok (k.format.order a b == some .eq) w := by
  simp [Op.equalIn, run_underlying h]; rfl

end Go.Proofs.YtgmjhoppjjjilaaDoor

/- a world that drew is as it was -/
namespace Go.Proofs.YtgmjhoppjjjilaaDoor
open Go.ChangeShapes Go.WideShapes Go.ChangeAt Go.RowKit

theorem drewN_below (w : World) (n : Nat) : Below w.heap.size w (w.drewN n) := ⟨rfl, rfl, rfl, Nat.le_refl _, fun _ _ => rfl⟩

end Go.Proofs.YtgmjhoppjjjilaaDoor

/- rows of memory: what alone has changed; append and copy of elements of any size -/
namespace Go.Proofs.YtgmjhoppjjjilaaDoor
open Go.ChangeShapes Go.WideShapes Go.ChangeAt Go.RowKit

/-- of the blocks that were there those alone turn of which ok holds -/
structure Only (ok : Nat → Prop) (w w' : World) : Prop where
  os : w'.os = w.os
  tape : w'.tape = w.tape
  output : w'.output = w.output
  size : w.heap.size ≤ w'.heap.size
  block : ∀ k, k < w.heap.size → ¬ ok k → w'.heap[k]? = w.heap[k]?

theorem Only.refl (ok : Nat → Prop) (w : World) : Only ok w w := ⟨rfl, rfl, rfl, Nat.le_refl _, fun _ _ _ => rfl⟩

theorem Only.trans {ok : Nat → Prop} {a b c : World} (h : Only ok a b) (k : Only ok b c) : Only ok a c :=
  ⟨k.os.trans h.os, k.tape.trans h.tape, k.output.trans h.output, Nat.le_trans h.size k.size, fun i hi hn => (k.block i (Nat.lt_of_lt_of_le hi h.size) hn).trans (h.block i hi hn)⟩

theorem Only.of_below {ok : Nat → Prop} {a b : World} (h : Below a.heap.size a b) : Only ok a b := ⟨h.os, h.tape, h.output, h.size, fun i hi _ => h.block i hi⟩

theorem Only.below {ok : Nat → Prop} {a b : World} {n : Nat} (h : Only ok a b) (hn : n ≤ a.heap.size) (hk : ∀ k, ok k → n ≤ k) : Below n a b :=
  ⟨h.os, h.tape, h.output, h.size, fun i hi => h.block i (Nat.lt_of_lt_of_le hi hn) fun ho => absurd (hk i ho) (by omega)⟩

theorem Only.mono {ok ok' : Nat → Prop} {a b : World} (h : Only ok a b) (hk : ∀ k, k < a.heap.size → ok k → ok' k) : Only ok' a b :=
  ⟨h.os, h.tape, h.output, h.size, fun i hi hn => h.block i hi fun ho => hn (hk i hi ho)⟩

theorem Only.alloc {ok : Nat → Prop} {a w : World} (h : Only ok a w) (o : Obj) : Only ok a (w.alloc o) := h.trans (Only.of_below ((Below.refl _ w).alloc (Nat.le_refl _) o))

theorem Only.drew {ok : Nat → Prop} {a w : World} (h : Only ok a w) : Only ok a w.drew := ⟨h.os, h.tape, h.output, h.size, h.block⟩

theorem Only.setCell {ok : Nat → Prop} {a w : World} (h : Only ok a w) {p : Addr} (hp : ok p.block ∨ a.heap.size ≤ p.block) (u : Value) : Only ok a (w.setCell p u) := by
  refine ⟨h.os, h.tape, h.output, by simpa [World.setCell] using h.size, fun i hi hn => ?_⟩
  rw [Below.heap_setCell w p u i (by rintro rfl; rcases hp with hp | hp; exact hn hp; omega)]
  exact h.block i hi hn

theorem Only.grown {ok : Nat → Prop} {a w w' : World} (h : Only ok a w) {b : Nat} (hg : w.grownBy w' (some b)) (hb : ok b ∨ a.heap.size ≤ b) : Only ok a w' :=
  ⟨hg.os.trans h.os, hg.tape.trans h.tape, hg.output.trans h.output, Nat.le_trans h.size hg.size, fun i hi hn => (hg.block i (Nat.lt_of_lt_of_le hi h.size) (by
    intro e; simp only [Option.some.injEq] at e; subst e
    rcases hb with hb | hb
    · exact hn hb
    · omega)).trans (h.block i hi hn)⟩

theorem heap_setRow_other (w : World) (g k : Nat) (c : Array Value) (h : k ≠ g) : (w.setRow g c).heap[k]? = w.heap[k]? := by
  simp only [World.setRow]
  rw [Array.getElem?_modify, if_neg (fun e => h e.symm)]

theorem size_setRow (w : World) (g : Nat) (c : Array Value) : (w.setRow g c).heap.size = w.heap.size := by simp [World.setRow]

theorem Only.setRow {ok : Nat → Prop} {a w : World} (h : Only ok a w) {g : Nat} (hg : ok g ∨ a.heap.size ≤ g) (c : Array Value) : Only ok a (w.setRow g c) := by
  refine ⟨h.os, h.tape, h.output, by rw [size_setRow]; exact h.size, fun i hi hn => ?_⟩
  rw [heap_setRow_other _ _ _ _ (by rintro rfl; rcases hg with hg | hg; exact hn hg; omega)]
  exact h.block i hi hn

/-- append to a row of one's own: its new block is the old one or a new one -/
theorem run_append_fresh {P : Program} (w : World) (base : Nat) (t ty e : TypeId) (i : TypeInfo) (z : Value) (size bytes : Nat) (ht : P.underlying t = some (.slice e)) (hi : P.info? e = some i) (hz : i.zero = some z)
    (hsize : i.size = size) (hby : i.bytes = bytes) (hzs : z.cells.size = size) (hsz : 0 < size)
    (v : Value) (n : Nat) (xs : List Value) (hown : w.ownsRow base e size v n xs)
    (a : Addr) (m c : Nat) (news : List Value) (hl : news.length = m * size) (hnews : ∀ j u, news[j]? = some u → w.cell? (a.add j) = some u) (h1 : ∀ u ∈ news, u.oneCell' = true)
    (h63 : n + m ≤ maxLen) (hbytes : (n + m) * bytes ≤ 140737488355328) (hbase : base ≤ w.heap.size) (hm : 0 < m) :
    ∃ v' w', (Builtin.append_ #[t, t] ty #[v, .slice (some a) m c]).run P w = .ok v' w' ∧ w'.ownsRow base e size v' (n + m) (xs ++ news) ∧ w.grownBy w' v.ownBlock ∧
      (v'.ownBlock = v.ownBlock ∨ v'.ownBlock = some w.heap.size) := by
  obtain ⟨v', w', hr, h2, h3, -⟩ := run_append_own (P := P) w base t ty e i z size bytes ht hi hz hsize hby hzs hsz v n xs hown a m c news hl hnews h1 h63 hbytes hbase
  refine ⟨v', w', hr, h2, h3, ?_⟩
  have hsmall : n + m ≤ 9223372036854775807 := by simp only [maxLen] at h63; omega
  subst hsize
  subst hby
  rcases hown.2 with ⟨rfl, rfl⟩ | ⟨g, cap, cur, rfl, hbg, hg, hnc, hcm, hcs, htake⟩
  · have hr' := run_append_nil (P := P) w t ty e i z ht hi hz a m c news hl hnews hm (by omega) (by have hb := hbytes; simp only [Nat.zero_add] at hb; omega)
    rw [hr] at hr'
    cases hr'
    exact .inr rfl
  · by_cases hroom : n + m ≤ cap
    · have hfit : n * i.size + news.length ≤ cur.size := by rw [hl, hcs, ← Nat.add_mul]; exact Nat.mul_le_mul_right _ hroom
      have hr' := run_append_room (P := P) w t ty e i ht hi g n cap cur hg a m c news hl hnews h1 hroom hfit
      rw [hr] at hr'
      cases hr'
      exact .inl rfl
    · have holds : ∀ j u, xs[j]? = some u → w.cell? ((⟨g, 0, none⟩ : Addr).add j) = some u := hown.cells (g := g) rfl
      have hr' := run_append_grow (P := P) w t ty e i z ht hi hz ⟨g, 0, none⟩ n cap xs hown.1 holds a m c news hl hnews (by omega) (by omega) (growslice_fits (by omega) hbytes)
      rw [hr] at hr'
      cases hr'
      exact .inr rfl

/-- wp_region_still_tail, its world by name -/
theorem region_tail {P : Program} {id : Nat} {Q : Exit → Act → World → Prop} {a : Act} {w : World} {l : List Oper} (n : Nat) (hm : P.follows .mixedOrders = true) (hB : Region.lexTailB .any l.toArray n = true)
    (h : wpStill P l.toArray w.drew (fun a' => wpList P l.toArray Q (l.drop n) a' w.drew) (l.take n) a) : (Code.region id l.toArray true).wp P Q a w := wp_region_still_tail n hm hB h

theorem adr_add (g o k : Nat) : (⟨g, o, none⟩ : Addr).add k = ⟨g, o + k, none⟩ := by unfold Addr.add; split <;> simp_all

/-- copy, where the target's block is known -/
theorem run_copy_at {P : Program} (w : World) (dT sT ty e : TypeId) (i : TypeInfo) (hu : P.underlying dT = some (.slice e)) (hi : P.info? e = some i) (g o : Nat) (cur : Array Value) (hg : w.heap[g]? = some (.cells cur e (0, 0)))
    (m dLen dCap : Nat) (a : Addr) (sLen sCap : Nat) (hn : Nat.min sLen dLen = m) (news : List Value) (hl : news.length = m * i.size) (hnews : ∀ j u, news[j]? = some u → w.cell? (a.add j) = some u) (h1 : ∀ u ∈ news, u.oneCell' = true)
    (hfit : o + news.length ≤ cur.size) :
    (Builtin.copy_ #[dT, sT] ty #[.slice (some ⟨g, o, none⟩) dLen dCap, .slice (some a) sLen sCap]).run P w = .ok (goInt m) (w.setRow g (cur.toList.take o ++ news ++ cur.toList.drop (o + news.length)).toArray) := by
  have hf := run_firstCells_some (P := P) w i.size m a sLen sCap news hl hnews
  have hst := run_storeCells_at P g o e news 0 cur w hg (by simpa using hfit) h1
  simp only [Nat.add_zero] at hst
  simp [Builtin.copy_, run_underlying hu, Builtin.lenOf, sizeOf, typeInfo, hi, hn, hf, hst]

end Go.Proofs.YtgmjhoppjjjilaaDoor
