/- LxA, Val -/
import Derived.Test.YtgmjhoppjjjilaaDoorQ04
import Derived.Test.YtgmjhoppjjjilaaDoorQ05
import Derived.Laws.Cells
import Derived.Deep.Slices

/- lex's small functions -/
namespace Go.Proofs.YtgmjhoppjjjilaaDoor
open Go.ChangeShapes Go.WideShapes Go.ChangeAt Go.RowKit Go.Fl
open Go.Shelf

set_option maxRecDepth 100000 in
theorem plainB_any (c : UInt8) (w : World) : Calls Tryd.prog 83 #[.int .u8 (c.toNat : Nat)] w fun e w' => e = .returned (.bool (plnB c)) ∧ w = w' := by
  unfold plnB
  by_cases h : 32 ≤ c.toNat
  · have h1 : decide (32 ≤ (c.toNat : Int)) = true := by rw [decide_eq_true_eq]; omega
    by_cases h2 : c.toNat ≤ 126
    · have h3 : decide ((c.toNat : Int) ≤ 126) = true := by rw [decide_eq_true_eq]; omega
      rw [decide_eq_true h, decide_eq_true h2]
      clear h h2
      go_enter Tryd.func83, Tryd.ntmps83
      go_wp2_with fail
      go_ret
      exact ⟨rfl, rfl⟩
    · have h3 : decide ((c.toNat : Int) ≤ 126) = false := by rw [decide_eq_false_iff_not]; omega
      rw [decide_eq_true h, decide_eq_false h2]
      clear h h2
      go_enter Tryd.func83, Tryd.ntmps83
      go_wp2_with fail
      go_ret
      exact ⟨rfl, rfl⟩
  · have h1 : decide (32 ≤ (c.toNat : Int)) = false := by rw [decide_eq_false_iff_not]; omega
    rw [decide_eq_false h]
    clear h
    go_enter Tryd.func83, Tryd.ntmps83
    go_wp2_with fail
    go_ret
    exact ⟨rfl, rfl⟩

theorem get_list (s : ByteArray) (k : Nat) (h : k < s.size) : s.data.toList[k]'(by simpa using h) = s[k] := rfl

theorem len_list (s : ByteArray) : s.data.toList.length = s.size := rfl

theorem prefix_any (s p : ByteArray) (w : World) : Calls Tryd.prog 80 #[.string s, .string p] w fun e w' => e = .returned (.bool (Lib.hasPrefix s.data.toList p.data.toList)) ∧ w = w' :=
  (Any.strings_HasPrefix prefixA s p w).mono fun _ _ ⟨h1, h2⟩ => ⟨h1, h2.symm⟩

end Go.Proofs.YtgmjhoppjjjilaaDoor

/- values as trees: what a value reads as, in whatever world -/
namespace Go.Proofs.YtgmjhoppjjjilaaDoor
open Go.ChangeShapes Go.WideShapes Go.ChangeAt Go.RowKit

theorem bel1 {W wr : World} {o : Obj} (hb : Below (W.heap.size + 1) (W.alloc o) wr) : Below W.heap.size W wr := ((Below.refl _ _).alloc (Nat.le_refl _) o).trans (hb.mono (Nat.le_succ _))

/-- a value of package api: its kind, B, N, F's word, S, L -/
inductive T where
  | mk (k : Int) (b : Bool) (n : Int) (f : Nat) (s : ByteArray) (l : List T) : T

theorem T.sz {l : List T} {i : Nat} (hi : i < l.length) (k b n f s) : SizeOf.sizeOf l[i] < SizeOf.sizeOf (T.mk k b n f s l) := by
  have := List.sizeOf_lt_of_mem (List.getElem_mem hi)
  simp only [T.mk.sizeOf_spec]; omega

theorem T.ind {p : T → Prop} (h : ∀ k b n f s (l : List T), (∀ i (hi : i < l.length), p l[i]) → p (.mk k b n f s l)) (t : T) : p t := by
  suffices hs : ∀ m (t : T), SizeOf.sizeOf t < m → p t from hs _ t (Nat.lt_succ_self _)
  intro m
  induction m with
  | zero => intro t ht; exact absurd ht (Nat.not_lt_zero _)
  | succ m ih =>
    intro t ht
    obtain ⟨k, b, n, f, s, l⟩ := t
    exact h k b n f s l fun i hi => ih _ (by have := T.sz hi k b n f s; omega)

/-- the value 'v' reads as the tree, its lists in blocks of the set S -/
inductive RdS (w : World) (S : Nat → Prop) : T → Value → Prop
  | mk {k : Int} {b : Bool} {n : Int} {f : Nat} {s : ByteArray} {l : List T} (A : Option Addr) (cap : Nat) (V : Nat → Value)
      (hk : is64 k = true) (hn : is64 n = true) (hf : f < 18446744073709551616) (hs : s.size ≤ 140737488351232)
      (hc : l.length ≤ cap) (hm : cap ≤ 9223372036854775807 ∧ l.length ≤ 1954687338211) (h0 : A = none → cap = 0)
      (hA : ∀ i, i < l.length → ∃ a, A = some a ∧ S a.block ∧ ∀ j v, (V i).cells[j]? = some v → w.cell? (a.add (i * 6 + j)) = some v)
      (hr : ∀ i (h : i < l.length), RdS w S l[i] (V i)) :
      RdS w S (.mk k b n f s l) (.agg #[.int .i64 k, .bool b, .int .i64 n, .float .f64 f, .string s, .slice A l.length cap])

/-- a list's cells -/
def RdSL (w : World) (S : Nat → Prop) (l : List T) (A : Option Addr) : Prop :=
  ∀ i (h : i < l.length), ∃ a v, A = some a ∧ S a.block ∧ (∀ j u, v.cells[j]? = some u → w.cell? (a.add (i * 6 + j)) = some u) ∧ RdS w S l[i] v

/-- .. its lists in blocks from L on, below B -/
abbrev RdX (w : World) (L B : Nat) : T → Value → Prop := RdS w fun b => L ≤ b ∧ b < B

abbrev RdXL (w : World) (L B : Nat) : List T → Option Addr → Prop := RdSL w fun b => L ≤ b ∧ b < B

/-- .. its lists in blocks below B -/
abbrev Rd (w : World) (B : Nat) : T → Value → Prop := RdX w 0 B

abbrev RdL (w : World) (B : Nat) : List T → Option Addr → Prop := RdXL w 0 B

theorem add_block (a : Addr) (k : Nat) : (a.add k).block = a.block := by unfold Addr.add; split <;> rfl

theorem RdS.keepS {w w' : World} {S S' : Nat → Prop} (hw : ∀ p : Addr, S p.block → w'.cell? p = w.cell? p) (hS : ∀ b, S b → S' b) {t : T} {v : Value} (h : RdS w S t v) : RdS w' S' t v := by
  induction h with
  | mk A cap V hk hn hf hs hc hm h0 hA hr ih =>
    refine .mk A cap V hk hn hf hs hc hm h0 (fun i hi => ?_) ih
    obtain ⟨a, ha, hb, hcell⟩ := hA i hi
    refine ⟨a, ha, hS _ hb, fun j v hv => ?_⟩
    rw [hw _ (by rw [add_block]; exact hb)]
    exact hcell j v hv

theorem RdSL.keepS {w w' : World} {S S' : Nat → Prop} (hw : ∀ p : Addr, S p.block → w'.cell? p = w.cell? p) (hS : ∀ b, S b → S' b) {l : List T} {A : Option Addr} (h : RdSL w S l A) : RdSL w' S' l A := by
  intro i hi
  obtain ⟨a, v, ha, hb, hc, hr⟩ := h i hi
  refine ⟨a, v, ha, hS _ hb, fun j u hu => ?_, hr.keepS hw hS⟩
  rw [hw _ (by rw [add_block]; exact hb)]
  exact hc j u hu

theorem RdS.keep {w w' : World} {L L' B B' : Nat} (hw : ∀ p : Addr, L ≤ p.block → p.block < B → w'.cell? p = w.cell? p) (hL : L' ≤ L) (hB : B ≤ B') {t : T} {v : Value} (h : RdX w L B t v) : RdX w' L' B' t v :=
  RdS.keepS (fun p hp => hw p hp.1 hp.2) (fun _ hb => ⟨Nat.le_trans hL hb.1, Nat.lt_of_lt_of_le hb.2 hB⟩) h

theorem RdS.under {w w' : World} {L L' B B' : Nat} {t : T} {v : Value} (h : RdX w L B t v) (hb : Below B w w') (hL : L' ≤ L) (hB : B ≤ B') : RdX w' L' B' t v := RdS.keep (fun _ _ hp => hb.cell hp) hL hB h

theorem RdSL.keep {w w' : World} {L L' B B' : Nat} (hw : ∀ p : Addr, L ≤ p.block → p.block < B → w'.cell? p = w.cell? p) (hL : L' ≤ L) (hB : B ≤ B') {l : List T} {A : Option Addr} (h : RdXL w L B l A) : RdXL w' L' B' l A :=
  RdSL.keepS (fun p hp => hw p hp.1 hp.2) (fun _ hb => ⟨Nat.le_trans hL hb.1, Nat.lt_of_lt_of_le hb.2 hB⟩) h

theorem RdSL.under {w w' : World} {L L' B B' : Nat} {l : List T} {A : Option Addr} (h : RdXL w L B l A) (hb : Below B w w') (hL : L' ≤ L) (hB : B ≤ B') : RdXL w' L' B' l A := RdSL.keep (fun _ _ hp => hb.cell hp) hL hB h

theorem RdS.up {w : World} {L L' B B' : Nat} {t : T} {v : Value} (h : RdX w L B t v) (hL : L' ≤ L) (hB : B ≤ B') : RdX w L' B' t v := RdS.keep (fun _ _ _ => rfl) hL hB h

theorem RdSL.up {w : World} {L L' B B' : Nat} {l : List T} {A : Option Addr} (h : RdXL w L B l A) (hL : L' ≤ L) (hB : B ≤ B') : RdXL w L' B' l A := RdSL.keep (fun _ _ _ => rfl) hL hB h

/-- behind a call: what read, reads -/
theorem RdS.on {w w' : World} {L : Nat} {t : T} {v : Value} (h : RdX w L w.heap.size t v) (hb : Below w.heap.size w w') : RdX w' L w'.heap.size t v := RdS.under h hb (Nat.le_refl _) hb.size

theorem RdSL.on {w w' : World} {L : Nat} {l : List T} {A : Option Addr} (h : RdXL w L w.heap.size l A) (hb : Below w.heap.size w w') : RdXL w' L w'.heap.size l A := RdSL.under h hb (Nat.le_refl _) hb.size

/-- a tree's fields as a value's -/
theorem RdS.open {w : World} {S : Nat → Prop} {k : Int} {b : Bool} {n : Int} {f : Nat} {s : ByteArray} {l : List T} {v : Value} (h : RdS w S (.mk k b n f s l) v) :
    ∃ A cap, v = .agg #[.int .i64 k, .bool b, .int .i64 n, .float .f64 f, .string s, .slice A l.length cap] ∧ is64 k = true ∧ is64 n = true ∧ f < 18446744073709551616 ∧ s.size ≤ 140737488351232 ∧
      l.length ≤ cap ∧ (cap ≤ 9223372036854775807 ∧ l.length ≤ 1954687338211) ∧ (A = none → cap = 0) ∧ RdSL w S l A := by
  cases h with
  | mk A cap V hk hn hf hs hc hm h0 hA hr =>
    refine ⟨A, cap, rfl, hk, hn, hf, hs, hc, hm, h0, fun i hi => ?_⟩
    obtain ⟨a, ha, hb, hcell⟩ := hA i hi
    exact ⟨a, V i, ha, hb, hcell, hr i hi⟩

theorem RdS.of {w : World} {S : Nat → Prop} {k : Int} {b : Bool} {n : Int} {f : Nat} {s : ByteArray} {l : List T} (A : Option Addr) (cap : Nat) (hk : is64 k = true) (hn : is64 n = true) (hf : f < 18446744073709551616)
    (hs : s.size ≤ 140737488351232) (hc : l.length ≤ cap) (hm : cap ≤ 9223372036854775807 ∧ l.length ≤ 1954687338211) (h0 : A = none → cap = 0) (hl : RdSL w S l A) :
    RdS w S (.mk k b n f s l) (.agg #[.int .i64 k, .bool b, .int .i64 n, .float .f64 f, .string s, .slice A l.length cap]) := by
  obtain ⟨V, hV⟩ := Go.Deep.choose_lt (n := l.length) (p := fun i (v : Value) => ∃ a, A = some a ∧ S a.block ∧ (∀ j u, v.cells[j]? = some u → w.cell? (a.add (i * 6 + j)) = some u) ∧ ∀ h : i < l.length, RdS w S l[i] v)
    (fun i hi => by obtain ⟨a, v, h1, h2, h3, h4⟩ := hl i hi; exact ⟨v, a, h1, h2, h3, fun _ => h4⟩)
  refine .mk A cap V hk hn hf hs hc hm h0 (fun i hi => ?_) (fun i hi => ?_)
  · obtain ⟨a, h1, h2, h3, -⟩ := hV i hi
    exact ⟨a, h1, h2, h3⟩
  · obtain ⟨a, -, -, -, h4⟩ := hV i hi
    exact h4 hi

theorem RdX.of {w : World} {L B : Nat} {k : Int} {b : Bool} {n : Int} {f : Nat} {s : ByteArray} {l : List T} (A : Option Addr) (cap : Nat) (hk : is64 k = true) (hn : is64 n = true) (hf : f < 18446744073709551616)
    (hs : s.size ≤ 140737488351232) (hc : l.length ≤ cap) (hm : cap ≤ 9223372036854775807 ∧ l.length ≤ 1954687338211) (h0 : A = none → cap = 0) (hl : RdXL w L B l A) :
    RdX w L B (.mk k b n f s l) (.agg #[.int .i64 k, .bool b, .int .i64 n, .float .f64 f, .string s, .slice A l.length cap]) := RdS.of A cap hk hn hf hs hc hm h0 hl

theorem add_in (a : Addr) (k j : Nat) (hj : 0 < j) : a.add (k + j) = ⟨(a.add k).block, (a.add k).off + j, none⟩ := by
  unfold Addr.add
  rw [if_neg (by omega)]
  by_cases hk : k = 0
  · simp [hk]
  · simp [hk, Nat.add_assoc]

/-- six cells in a row, as a walk reads them -/
def Six (w : World) (p : Addr) (c0 c1 c2 c3 c4 c5 : Value) : Prop :=
  w.cell? p = some c0 ∧ w.cell? ⟨p.block, p.off + 1, none⟩ = some c1 ∧ w.cell? ⟨p.block, p.off + 2, none⟩ = some c2 ∧ w.cell? ⟨p.block, p.off + 3, none⟩ = some c3 ∧ w.cell? ⟨p.block, p.off + 4, none⟩ = some c4 ∧ w.cell? ⟨p.block, p.off + 5, none⟩ = some c5

theorem Six.keep {w w' : World} {p : Addr} {c0 c1 c2 c3 c4 c5 : Value} (h : Six w p c0 c1 c2 c3 c4 c5) (hw : ∀ q : Addr, q.block = p.block → w'.cell? q = w.cell? q) : Six w' p c0 c1 c2 c3 c4 c5 := by
  obtain ⟨h0, h1, h2, h3, h4, h5⟩ := h
  exact ⟨(hw p rfl).trans h0, (hw ⟨p.block, p.off + 1, none⟩ rfl).trans h1, (hw ⟨p.block, p.off + 2, none⟩ rfl).trans h2, (hw ⟨p.block, p.off + 3, none⟩ rfl).trans h3, (hw ⟨p.block, p.off + 4, none⟩ rfl).trans h4, (hw ⟨p.block, p.off + 5, none⟩ rfl).trans h5⟩

theorem Six.lt {w : World} {p : Addr} {c0 c1 c2 c3 c4 c5 : Value} (h : Six w p c0 c1 c2 c3 c4 c5) : p.block < w.heap.size := World.block_lt_of_cell? w p h.1

theorem Six.on {w w' : World} {p : Addr} {c0 c1 c2 c3 c4 c5 : Value} (h : Six w p c0 c1 c2 c3 c4 c5) (hb : Below w.heap.size w w') : Six w' p c0 c1 c2 c3 c4 c5 :=
  h.keep fun _ hq => hb.cell (by rw [hq]; exact h.lt)

theorem Six.alloc {w : World} {p : Addr} {c0 c1 c2 c3 c4 c5 : Value} (h : Six w p c0 c1 c2 c3 c4 c5) (o : Obj) : Six (w.alloc o) p c0 c1 c2 c3 c4 c5 := h.on ((Below.refl _ _).alloc (Nat.le_refl _) o)

/-- an element: its address, its six cells -/
theorem RdSL.at_ {w : World} {S : Nat → Prop} {l : List T} {A : Option Addr} (h : RdSL w S l A) {i : Nat} (hi : i < l.length) :
    ∃ (a : Addr) (c0 c1 c2 c3 c4 c5 : Value), A = some a ∧ S a.block ∧ RdS w S l[i] (.agg #[c0, c1, c2, c3, c4, c5]) ∧ Six w (a.add (i * 6)) c0 c1 c2 c3 c4 c5 := by
  obtain ⟨a, v, ha, hb, hc, hr⟩ := h i hi
  rcases hx : l[i] with ⟨k, b, n, f, s, l'⟩
  rw [hx] at hr
  obtain ⟨A', cap, rfl, -⟩ := hr.open
  refine ⟨a, _, _, _, _, _, _, ha, hb, hr, hc 0 _ rfl, ?_, ?_, ?_, ?_, ?_⟩
  · rw [← add_in _ _ _ (by decide)]; exact hc 1 _ rfl
  · rw [← add_in _ _ _ (by decide)]; exact hc 2 _ rfl
  · rw [← add_in _ _ _ (by decide)]; exact hc 3 _ rfl
  · rw [← add_in _ _ _ (by decide)]; exact hc 4 _ rfl
  · rw [← add_in _ _ _ (by decide)]; exact hc 5 _ rfl

/-- .. with its fields -/
theorem RdSL.item {w : World} {S : Nat → Prop} {l : List T} {A : Option Addr} (h : RdSL w S l A) {i : Nat} (hi : i < l.length) :
    ∃ (a : Addr) (k : Int) (b : Bool) (n : Int) (f : Nat) (s : ByteArray) (q : List T) (D : Option Addr) (cap : Nat), A = some a ∧ S a.block ∧ l[i] = .mk k b n f s q ∧
      RdS w S l[i] (.agg #[.int .i64 k, .bool b, .int .i64 n, .float .f64 f, .string s, .slice D q.length cap]) ∧
      Six w (a.add (i * 6)) (.int .i64 k) (.bool b) (.int .i64 n) (.float .f64 f) (.string s) (.slice D q.length cap) := by
  obtain ⟨a, c0, c1, c2, c3, c4, c5, ha, hb, hr, h6⟩ := h.at_ hi
  rcases hx : l[i] with ⟨k, b, n, f, s, q⟩
  rw [hx] at hr
  have hr' := hr
  obtain ⟨D, cap, e, -⟩ := hr.open
  simp only [Value.agg.injEq, Array.mk.injEq, List.cons.injEq, and_true] at e
  obtain ⟨rfl, rfl, rfl, rfl, rfl, rfl⟩ := e
  exact ⟨a, k, b, n, f, s, q, D, cap, ha, hb, rfl, hr', h6⟩

/-- a block that is known whole -/
def Blk (w : World) (g : Nat) (t : TypeId) (cs : Array Value) : Prop := w.heap[g]? = some (.cells cs t (0, 0))

theorem Blk.lt {w : World} {g : Nat} {t : TypeId} {cs : Array Value} (h : Blk w g t cs) : g < w.heap.size := by
  rcases Nat.lt_or_ge g w.heap.size with hlt | hge
  · exact hlt
  · unfold Blk at h; rw [Array.getElem?_eq_none hge] at h; cases h
theorem Blk.cell {w : World} {g : Nat} {t : TypeId} {cs : Array Value} (h : Blk w g t cs) (i : Nat) : w.cell? ⟨g, i, none⟩ = cs[i]? := cell_of_row w g i cs t (0, 0) h
theorem Blk.frozen {w : World} {g : Nat} {t : TypeId} {cs : Array Value} (h : Blk w g t cs) (i : Nat) : w.frozen? ⟨g, i, none⟩ = false := by
  unfold Blk at h
  simp [World.frozen?, h]
theorem Blk.new (w : World) (t : TypeId) (cs : Array Value) : Blk (w.alloc (.cells cs t)) w.heap.size t cs := heap_alloc_new w _
theorem Blk.set_ {w : World} {g : Nat} {t : TypeId} {cs : Array Value} (h : Blk w g t cs) (i : Nat) (u : Value) : Blk (w.setCell ⟨g, i, none⟩ u) g t (cs.setIfInBounds i u) := by
  unfold Blk at h ⊢
  simp [World.setCell, Array.getElem?_modify, h]
theorem Blk.below {B : Nat} {w w' : World} {g : Nat} {t : TypeId} {cs : Array Value} (h : Blk w g t cs) (hb : Below B w w') (hg : g < B) : Blk w' g t cs := (hb.block g hg).trans h

/-- six cells laid -/
def put6 (cs : Array Value) (o : Nat) (v0 v1 v2 v3 v4 v5 : Value) : Array Value :=
  (((((cs.setIfInBounds o v0).setIfInBounds (o + 1) v1).setIfInBounds (o + 2) v2).setIfInBounds (o + 3) v3).setIfInBounds (o + 4) v4).setIfInBounds (o + 5) v5

def set6 (w : World) (g o : Nat) (v0 v1 v2 v3 v4 v5 : Value) : World :=
  (((((w.setCell ⟨g, o, none⟩ v0).setCell ⟨g, o + 1, none⟩ v1).setCell ⟨g, o + 2, none⟩ v2).setCell ⟨g, o + 3, none⟩ v3).setCell ⟨g, o + 4, none⟩ v4).setCell ⟨g, o + 5, none⟩ v5

theorem set6_blk {w : World} {g o : Nat} {t : TypeId} {cs : Array Value} (h : Blk w g t cs) (v0 v1 v2 v3 v4 v5 : Value) : Blk (set6 w g o v0 v1 v2 v3 v4 v5) g t (put6 cs o v0 v1 v2 v3 v4 v5) :=
  (((((h.set_ o v0).set_ (o + 1) v1).set_ (o + 2) v2).set_ (o + 3) v3).set_ (o + 4) v4).set_ (o + 5) v5

theorem set6_size (w : World) (g o : Nat) (v0 v1 v2 v3 v4 v5 : Value) : (set6 w g o v0 v1 v2 v3 v4 v5).heap.size = w.heap.size := by simp [set6, World.setCell]

theorem set6_below {B : Nat} {a w : World} {g o : Nat} (h : Below B a w) (hg : B ≤ g) (v0 v1 v2 v3 v4 v5 : Value) : Below B a (set6 w g o v0 v1 v2 v3 v4 v5) :=
  (((((h.setCell (p := ⟨g, o, none⟩) hg v0).setCell (p := ⟨g, o + 1, none⟩) hg v1).setCell (p := ⟨g, o + 2, none⟩) hg v2).setCell (p := ⟨g, o + 3, none⟩) hg v3).setCell (p := ⟨g, o + 4, none⟩) hg v4).setCell (p := ⟨g, o + 5, none⟩) hg v5

theorem set6_far {w : World} {g o : Nat} (v0 v1 v2 v3 v4 v5 : Value) {b : Nat} (hb : b ≠ g) : (set6 w g o v0 v1 v2 v3 v4 v5).heap[b]? = w.heap[b]? := by
  unfold set6
  rw [Below.heap_setCell _ _ _ _ hb, Below.heap_setCell _ _ _ _ hb, Below.heap_setCell _ _ _ _ hb, Below.heap_setCell _ _ _ _ hb, Below.heap_setCell _ _ _ _ hb, Below.heap_setCell _ _ _ _ hb]

theorem put6_size (cs : Array Value) (o : Nat) (v0 v1 v2 v3 v4 v5 : Value) : (put6 cs o v0 v1 v2 v3 v4 v5).size = cs.size := by simp [put6]

theorem put6_far {cs : Array Value} {o i : Nat} (v0 v1 v2 v3 v4 v5 : Value) (h : i < o ∨ o + 6 ≤ i) : (put6 cs o v0 v1 v2 v3 v4 v5)[i]? = cs[i]? := by
  unfold put6
  rw [Array.getElem?_setIfInBounds_ne (by omega), Array.getElem?_setIfInBounds_ne (by omega), Array.getElem?_setIfInBounds_ne (by omega), Array.getElem?_setIfInBounds_ne (by omega), Array.getElem?_setIfInBounds_ne (by omega), Array.getElem?_setIfInBounds_ne (by omega)]

theorem put6_at {cs : Array Value} {o : Nat} (v0 v1 v2 v3 v4 v5 : Value) (h : o + 6 ≤ cs.size) {k : Nat} {u : Value} (hu : (#[v0, v1, v2, v3, v4, v5] : Array Value)[k]? = some u) : (put6 cs o v0 v1 v2 v3 v4 v5)[o + k]? = some u := by
  have hk : k < 6 := by have := (Array.getElem?_eq_some_iff.1 hu).1; simpa using this
  match k, hk with
  | 0, _ =>
    obtain rfl : v0 = u := by simpa using hu
    unfold put6
    rw [Array.getElem?_setIfInBounds_ne (by omega), Array.getElem?_setIfInBounds_ne (by omega), Array.getElem?_setIfInBounds_ne (by omega), Array.getElem?_setIfInBounds_ne (by omega), Array.getElem?_setIfInBounds_ne (by omega)]
    exact Array.getElem?_setIfInBounds_self_of_lt (by first | omega | (simp only [Array.size_setIfInBounds]; omega))
  | 1, _ =>
    obtain rfl : v1 = u := by simpa using hu
    unfold put6
    rw [Array.getElem?_setIfInBounds_ne (by omega), Array.getElem?_setIfInBounds_ne (by omega), Array.getElem?_setIfInBounds_ne (by omega), Array.getElem?_setIfInBounds_ne (by omega)]
    exact Array.getElem?_setIfInBounds_self_of_lt (by first | omega | (simp only [Array.size_setIfInBounds]; omega))
  | 2, _ =>
    obtain rfl : v2 = u := by simpa using hu
    unfold put6
    rw [Array.getElem?_setIfInBounds_ne (by omega), Array.getElem?_setIfInBounds_ne (by omega), Array.getElem?_setIfInBounds_ne (by omega)]
    exact Array.getElem?_setIfInBounds_self_of_lt (by first | omega | (simp only [Array.size_setIfInBounds]; omega))
  | 3, _ =>
    obtain rfl : v3 = u := by simpa using hu
    unfold put6
    rw [Array.getElem?_setIfInBounds_ne (by omega), Array.getElem?_setIfInBounds_ne (by omega)]
    exact Array.getElem?_setIfInBounds_self_of_lt (by first | omega | (simp only [Array.size_setIfInBounds]; omega))
  | 4, _ =>
    obtain rfl : v4 = u := by simpa using hu
    unfold put6
    rw [Array.getElem?_setIfInBounds_ne (by omega)]
    exact Array.getElem?_setIfInBounds_self_of_lt (by first | omega | (simp only [Array.size_setIfInBounds]; omega))
  | 5, _ =>
    obtain rfl : v5 = u := by simpa using hu
    unfold put6
    exact Array.getElem?_setIfInBounds_self_of_lt (by first | omega | (simp only [Array.size_setIfInBounds]; omega))

/-- a result's cells, as its load asks for them -/
theorem set6_load {w : World} {g : Nat} {t : TypeId} {cs : Array Value} (h : Blk w g t cs) (hs : 6 ≤ cs.size) (v0 v1 v2 v3 v4 v5 : Value) :
    (w.setCell ⟨g, 0, none⟩ v0).cell? ⟨g, 0, none⟩ = some v0 ∧
    ((w.setCell ⟨g, 0, none⟩ v0).setCell ⟨g, 1, none⟩ v1).cell? ⟨g, 1, none⟩ = some v1 ∧
    (((w.setCell ⟨g, 0, none⟩ v0).setCell ⟨g, 1, none⟩ v1).setCell ⟨g, 2, none⟩ v2).cell? ⟨g, 2, none⟩ = some v2 ∧
    ((((w.setCell ⟨g, 0, none⟩ v0).setCell ⟨g, 1, none⟩ v1).setCell ⟨g, 2, none⟩ v2).setCell ⟨g, 3, none⟩ v3).cell? ⟨g, 3, none⟩ = some v3 ∧
    (((((w.setCell ⟨g, 0, none⟩ v0).setCell ⟨g, 1, none⟩ v1).setCell ⟨g, 2, none⟩ v2).setCell ⟨g, 3, none⟩ v3).setCell ⟨g, 4, none⟩ v4).cell? ⟨g, 4, none⟩ = some v4 ∧
    ((((((w.setCell ⟨g, 0, none⟩ v0).setCell ⟨g, 1, none⟩ v1).setCell ⟨g, 2, none⟩ v2).setCell ⟨g, 3, none⟩ v3).setCell ⟨g, 4, none⟩ v4).setCell ⟨g, 5, none⟩ v5).cell? ⟨g, 5, none⟩ = some v5 :=
  ⟨by rw [(h.set_ 0 v0).cell]; exact Array.getElem?_setIfInBounds_self_of_lt (by first | omega | (simp only [Array.size_setIfInBounds]; omega)),
   by rw [((h.set_ 0 v0).set_ 1 v1).cell]; exact Array.getElem?_setIfInBounds_self_of_lt (by first | omega | (simp only [Array.size_setIfInBounds]; omega)),
   by rw [(((h.set_ 0 v0).set_ 1 v1).set_ 2 v2).cell]; exact Array.getElem?_setIfInBounds_self_of_lt (by first | omega | (simp only [Array.size_setIfInBounds]; omega)),
   by rw [((((h.set_ 0 v0).set_ 1 v1).set_ 2 v2).set_ 3 v3).cell]; exact Array.getElem?_setIfInBounds_self_of_lt (by first | omega | (simp only [Array.size_setIfInBounds]; omega)),
   by rw [(((((h.set_ 0 v0).set_ 1 v1).set_ 2 v2).set_ 3 v3).set_ 4 v4).cell]; exact Array.getElem?_setIfInBounds_self_of_lt (by first | omega | (simp only [Array.size_setIfInBounds]; omega)),
   by rw [((((((h.set_ 0 v0).set_ 1 v1).set_ 2 v2).set_ 3 v3).set_ 4 v4).set_ 5 v5).cell]; exact Array.getElem?_setIfInBounds_self_of_lt (by first | omega | (simp only [Array.size_setIfInBounds]; omega))⟩

theorem Blk.far {w : World} {g : Nat} {t : TypeId} {cs : Array Value} (h : Blk w g t cs) {p : Addr} (hp : g ≠ p.block) (u : Value) : Blk (w.setCell p u) g t cs := (Below.heap_setCell w p u g hp).trans h

end Go.Proofs.YtgmjhoppjjjilaaDoor
