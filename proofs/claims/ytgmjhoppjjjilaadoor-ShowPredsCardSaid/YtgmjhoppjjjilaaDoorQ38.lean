/- PaH, SqB -/
import Derived.Test.YtgmjhoppjjjilaaDoorQ27
import Derived.Test.YtgmjhoppjjjilaaDoorQ37
import Derived.Deep.RegionHeld3
import Derived.Test.YtgmjhoppjjjilaaDoorQ34

/- parse: the same predicates, the same steps, by the reference -/
namespace Go.Proofs.YtgmjhoppjjjilaaDoor
open Go.ChangeShapes Go.WideShapes Go.ChangeAt Go.RowKit Go.Fl

mutual
theorem smT_self : ∀ t : T, smT t t = true
  | .mk k b n f s l => by
    rw [smT, smL_self l, Bool.and_true]
    unfold hdB
    simp
theorem smL_self : ∀ l : List T, smL l l = true
  | [] => rfl
  | x :: r => by rw [smL, smT_self x, smL_self r]; rfl
end

/-- the same tree on both sides: Same -/
theorem same_self {t : T} {v v' : Value} {w : World} (h : Rd w w.heap.size t v) (h' : Rd w w.heap.size t v') : Calls Tryd.prog 11 #[v, v'] w fun e w' => e = .returned (.bool true) ∧ Below w.heap.size w w' := by
  have := sm_at t t v v' w h h'
  rw [smT_self] at this
  exact this

/-- all blocks -/
abbrev Al (w : World) : Nat → Prop := fun b => 0 ≤ b ∧ b < w.heap.size

theorem Al.on {α : Type} {R : World → (Nat → Prop) → α → Value → Prop} (hK : KeepS R) {w w' : World} {x : α} {v : Value} (h : R w (Al w) x v) (hb : Below w.heap.size w w') : R w' (Al w') x v :=
  hK _ _ _ _ _ _ (fun _ hp => hb.cell hp.2) (fun _ hp => ⟨Nat.zero_le _, Nat.lt_of_lt_of_le hp.2 hb.size⟩) h

/-- a row's slice, and its elements' cells -/
theorem LstS.look {α : Type} {R : World → (Nat → Prop) → α → Value → Prop} {sz : Nat} {w : World} {S : Nat → Prop} {l : List α} {v : Value} (h : LstS R sz w S l v) : ∃ A c, v = .slice A l.length c ∧ l.length ≤ c ∧ c ≤ 9223372036854775807 ∧
    ∀ j (hj : j < l.length), ∃ g u, A = some ⟨g, 0, none⟩ ∧ S g ∧ (∀ k x, u.cells[k]? = some x → w.cell? ⟨g, j * sz + k, none⟩ = some x) ∧ R w S l[j] u := by
  rcases h with ⟨rfl, rfl⟩ | ⟨g, cap, rfl, h1, h2, h3, h5⟩
  · exact ⟨none, 0, rfl, Nat.le_refl _, by decide, fun j hj => absurd hj (Nat.not_lt_zero _)⟩
  · exact ⟨some ⟨g, 0, none⟩, cap, rfl, h1, h2, fun j hj => by obtain ⟨u, h6, h7⟩ := h5 j hj; exact ⟨g, u, rfl, h3, h6, h7⟩⟩

end Go.Proofs.YtgmjhoppjjjilaaDoor

namespace Go.Proofs.YtgmjhoppjjjilaaDoor
open Go.ChangeShapes Go.WideShapes Go.ChangeAt Go.RowKit Go.Fl

theorem stp_look {R : World → (Nat → Prop) → List Sp → Value → Prop} {w : World} {S : Nat → Prop} {nm : ByteArray} {args : List Ag} {u : Value} (h : RdStp R w S (.mk nm args) u) : ∃ A c, u = .agg #[.string nm, .slice A args.length c] ∧ LstS (RdArg R) 11 w S args (.slice A args.length c) := by
  obtain ⟨av, rfl, h2⟩ := h
  obtain ⟨A, c, rfl⟩ := h2.shape
  exact ⟨A, c, rfl, h2⟩

theorem blk_drew {w : World} {g : Nat} {t : TypeId} {cs : Array Value} (h : Blk w g t cs) : Blk w.drew g t cs := h

theorem cells11 {w : World} {g : Nat} {t : TypeId} {v0 v1 v2 v3 v4 v5 v6 v7 v8 v9 v10 : Value} (h : Blk w g t #[v0, v1, v2, v3, v4, v5, v6, v7, v8, v9, v10]) :
    (w.cell? ⟨g, 0, none⟩ = some v0 ∧ w.cell? ⟨g, 1, none⟩ = some v1 ∧ w.cell? ⟨g, 2, none⟩ = some v2 ∧ w.cell? ⟨g, 3, none⟩ = some v3 ∧ w.cell? ⟨g, 4, none⟩ = some v4 ∧ w.cell? ⟨g, 5, none⟩ = some v5 ∧ w.cell? ⟨g, 6, none⟩ = some v6 ∧ w.cell? ⟨g, 7, none⟩ = some v7 ∧ w.cell? ⟨g, 8, none⟩ = some v8 ∧ w.cell? ⟨g, 9, none⟩ = some v9 ∧ w.cell? ⟨g, 10, none⟩ = some v10) ∧ True :=
  ⟨⟨h.cell 0, h.cell 1, h.cell 2, h.cell 3, h.cell 4, h.cell 5, h.cell 6, h.cell 7, h.cell 8, h.cell 9, h.cell 10⟩, trivial⟩

end Go.Proofs.YtgmjhoppjjjilaaDoor

/- show: predicates, arguments, steps as texts; their rows; join over them (written by tools/laws13c.py) -/
namespace Go.Proofs.YtgmjhoppjjjilaaDoor
open Go.ChangeShapes Go.WideShapes Go.ChangeAt Go.RowKit Go.Fl
open Go.Shelf

/-- .negate() -/
def txNgt : List UInt8 := [46, 110, 101, 103, 97, 116, 101, 40, 41]

/-- a predicate as a text -/
def shPd : Pd → List UInt8
  | .mk op l [] => op.data.toList ++ (40 :: (shTs l ++ [41]))
  | .mk _ _ [a] => shPd a ++ txNgt
  | .mk op _ (a :: b :: _) => shPd a ++ (46 :: op.data.toList) ++ (40 :: (shPd b ++ [41]))

/-- a predicate as parsers make them -/
inductive Pgd : Pd → Prop
  | plain {op : ByteArray} {l : List T} (h : prdN op.data.toList ≠ none) (hl : smTs' l) : Pgd (.mk op l [])
  | join {op : ByteArray} {l : List T} {a b : Pd} (h : op.data.toList = [97, 110, 100] ∨ op.data.toList = [111, 114]) (ha : Pgd a) (hb : Pgd b) : Pgd (.mk op l [a, b])
  | neg {op : ByteArray} {l : List T} {a : Pd} (h : op.data.toList = [110, 111, 116]) (ha : Pgd a) : Pgd (.mk op l [a])

/-- a value's own text -/
def strT : T → List UInt8
  | .mk _ _ _ _ s _ => s.data.toList

mutual
/-- an argument as a text -/
def shAg : Ag → List UInt8
  | .mk k v p t => if k = 1 then shT v else if k = 2 then shPd p else if k = 3 then [95, 95, 46] ++ shSs t else if k = 4 then strT v else txQ
def shSp : Sp → List UInt8
  | .mk name args => name.data.toList ++ (40 :: (shAs args ++ [41]))
def shSs : List Sp → List UInt8
  | [] => []
  | x :: r => shSp x ++ shSt r
def shSt : List Sp → List UInt8
  | [] => []
  | x :: r => [46] ++ shSp x ++ shSt r
def shAs : List Ag → List UInt8
  | [] => []
  | x :: r => shAg x ++ shAt r
def shAt : List Ag → List UInt8
  | [] => []
  | x :: r => [44, 32] ++ shAg x ++ shAt r
end

theorem shSt_tail : ∀ l : List Sp, shSt l = tailF [46] shSp l
  | [] => by rw [shSt, tailF]
  | x :: r => by rw [shSt, tailF, shSt_tail r]

theorem shSs_join : ∀ l : List Sp, shSs l = joinF [46] shSp l
  | [] => by rw [shSs, joinF]
  | x :: r => by rw [shSs, joinF, shSt_tail r]

theorem shAt_tail : ∀ l : List Ag, shAt l = tailF [44, 32] shAg l
  | [] => by rw [shAt, tailF]
  | x :: r => by rw [shAt, tailF, shAt_tail r]

theorem shAs_join : ∀ l : List Ag, shAs l = joinF [44, 32] shAg l
  | [] => by rw [shAs, joinF]
  | x :: r => by rw [shAs, joinF, shAt_tail r]

theorem tail_count : ∀ l : List T, 2 * l.length ≤ (tailF [44, 32] shT l).length
  | [] => Nat.zero_le _
  | x :: r => by
    have := tail_count r
    rw [tailF, List.length_append, List.length_append, List.length_cons, List.length_cons, List.length_cons, List.length_nil]
    omega

theorem sh_count (l : List T) : l.length ≤ (shTs l).length + 1 := by
  rw [shTs_join]
  cases l with
  | nil => exact Nat.zero_le _
  | cons x r =>
    have := tail_count r
    rw [joinF, List.length_append, List.length_cons]
    omega

/-- things in a row, wherever it begins -/
def RowA {α : Type} (R : World → (Nat → Prop) → α → Value → Prop) (sz : Nat) (w : World) (S : Nat → Prop) (l : List α) (A : Option Addr) : Prop :=
  ∀ j (hj : j < l.length), ∃ a u, A = some a ∧ S a.block ∧ (∀ k c, u.cells[k]? = some c → w.cell? (a.add (j * sz + k)) = some c) ∧ R w S l[j] u

theorem RowA.keep {α : Type} {R : World → (Nat → Prop) → α → Value → Prop} (hK : KeepS R) {sz : Nat} {w w' : World} {S S' : Nat → Prop} {l : List α} {A : Option Addr} (hw : ∀ p : Addr, S p.block → w'.cell? p = w.cell? p) (hS : ∀ b, S b → S' b) (h : RowA R sz w S l A) : RowA R sz w' S' l A := by
  intro j hj
  obtain ⟨a, u, h1, h2, h3, h4⟩ := h j hj
  exact ⟨a, u, h1, hS _ h2, fun k c hc => (hw _ (by rw [add_block]; exact h2)).trans (h3 k c hc), hK _ _ _ _ _ _ hw hS h4⟩

theorem LstS.rowA {α : Type} {R : World → (Nat → Prop) → α → Value → Prop} {sz : Nat} {w : World} {S : Nat → Prop} {l : List α} {A : Option Addr} {n c : Nat} (h : LstS R sz w S l (.slice A n c)) : RowA R sz w S l A ∧ n = l.length ∧ l.length ≤ c ∧ c ≤ 9223372036854775807 := by
  rcases h with ⟨rfl, h⟩ | ⟨g, cap, h, h1, h2, h3, h5⟩
  · injection h with e1 e2 e3
    subst e1; subst e2; subst e3
    exact ⟨fun j hj => absurd hj (Nat.not_lt_zero _), rfl, Nat.le_refl _, by decide⟩
  · injection h with e1 e2 e3
    subst e1; subst e2; subst e3
    refine ⟨fun j hj => ?_, rfl, h1, h2⟩
    obtain ⟨u, h6, h7⟩ := h5 j hj
    exact ⟨_, u, rfl, h3, fun k c hc => by rw [adr_add, Nat.zero_add]; exact h6 k c hc, h7⟩

/-- a predicate's cells -/
theorem RdP.look {w : World} {S : Nat → Prop} {op : ByteArray} {l : List T} {kids : List Pd} {v : Value} (h : RdP w S (.mk op l kids) v) : ∃ A c B d, v = .agg #[.string op, .slice A l.length c, .slice B kids.length d] ∧ LstS RdS 6 w S l (.slice A l.length c) ∧ LstS RdP 3 w S kids (.slice B kids.length d) := by
  obtain ⟨n, h⟩ := h
  cases n with
  | zero =>
    obtain ⟨lv, rfl, h2, rfl⟩ := h
    obtain ⟨A, c, rfl⟩ := h2.shape
    exact ⟨A, c, none, 0, rfl, h2, .inl ⟨rfl, rfl⟩⟩
  | succ n =>
    obtain ⟨lv, kv, rfl, h2, h3⟩ := h
    obtain ⟨A, c, rfl⟩ := h2.shape
    obtain ⟨B, d, rfl⟩ := h3.shape
    exact ⟨A, c, B, d, rfl, h2, h3.imp fun x u _ hx => ⟨n, hx⟩⟩

/-- three cells in a row, as a walk reads them -/
def Three (w : World) (p : Addr) (c0 c1 c2 : Value) : Prop :=
  w.cell? p = some c0 ∧ w.cell? ⟨p.block, p.off + 1, none⟩ = some c1 ∧ w.cell? ⟨p.block, p.off + 2, none⟩ = some c2

theorem RowA.itemP {w : World} {S : Nat → Prop} {l : List Pd} {A : Option Addr} (h : RowA RdP 3 w S l A) {i : Nat} (hi : i < l.length) :
    ∃ (a : Addr) (op : ByteArray) (LA : Option Addr) (ll lc : Nat) (KA : Option Addr) (kl kc : Nat), A = some a ∧ S a.block ∧ RdP w S l[i] (.agg #[.string op, .slice LA ll lc, .slice KA kl kc]) ∧
      Three w (a.add (i * 3)) (.string op) (.slice LA ll lc) (.slice KA kl kc) := by
  obtain ⟨a, v, ha, hb, hc, hr⟩ := h i hi
  rcases hx : l[i] with ⟨op, q, kids⟩
  rw [hx] at hr
  obtain ⟨LA, lc, KA, kc, rfl, -, -⟩ := hr.look
  refine ⟨a, op, LA, q.length, lc, KA, kids.length, kc, ha, hb, hr, hc 0 _ rfl, ?_, ?_⟩
  · rw [← add_in _ _ _ (by decide)]; exact hc 1 _ rfl
  · rw [← add_in _ _ _ (by decide)]; exact hc 2 _ rfl

/-- two cells in a row -/
def TwoC (w : World) (p : Addr) (c0 c1 : Value) : Prop := w.cell? p = some c0 ∧ w.cell? ⟨p.block, p.off + 1, none⟩ = some c1

theorem RowA.itemS {R : World → (Nat → Prop) → List Sp → Value → Prop} {w : World} {S : Nat → Prop} {l : List Sp} {A : Option Addr} (h : RowA (RdStp R) 2 w S l A) {i : Nat} (hi : i < l.length) :
    ∃ (a : Addr) (nm : ByteArray) (LA : Option Addr) (ll lc : Nat), A = some a ∧ S a.block ∧ RdStp R w S l[i] (.agg #[.string nm, .slice LA ll lc]) ∧ TwoC w (a.add (i * 2)) (.string nm) (.slice LA ll lc) := by
  obtain ⟨a, v, ha, hb, hc, hr⟩ := h i hi
  rcases hx : l[i] with ⟨nm, args⟩
  rw [hx] at hr
  obtain ⟨LA, lc, rfl, -⟩ := stp_look hr
  refine ⟨a, nm, LA, args.length, lc, ha, hb, hr, hc 0 _ rfl, ?_⟩
  rw [← add_in _ _ _ (by decide)]; exact hc 1 _ rfl

/-- eleven cells in a row -/
def Elev (w : World) (p : Addr) (c0 c1 c2 c3 c4 c5 c6 c7 c8 c9 c10 : Value) : Prop :=
  w.cell? p = some c0 ∧ w.cell? ⟨p.block, p.off + 1, none⟩ = some c1 ∧ w.cell? ⟨p.block, p.off + 2, none⟩ = some c2 ∧ w.cell? ⟨p.block, p.off + 3, none⟩ = some c3 ∧ w.cell? ⟨p.block, p.off + 4, none⟩ = some c4 ∧ w.cell? ⟨p.block, p.off + 5, none⟩ = some c5 ∧ w.cell? ⟨p.block, p.off + 6, none⟩ = some c6 ∧ w.cell? ⟨p.block, p.off + 7, none⟩ = some c7 ∧ w.cell? ⟨p.block, p.off + 8, none⟩ = some c8 ∧ w.cell? ⟨p.block, p.off + 9, none⟩ = some c9 ∧ w.cell? ⟨p.block, p.off + 10, none⟩ = some c10

/-- an argument's cells -/
theorem RdArg.look {n : Nat} {w : World} {S : Nat → Prop} {k : Int} {v : T} {p : Pd} {t : List Sp} {u : Value} (h : RdArg (RdTr n) w S (.mk k v p t) u) :
    ∃ (kk : Int) (bb : Bool) (nn : Int) (ff : Nat) (ss : ByteArray) (lA : Option Addr) (ll lc : Nat) (op : ByteArray) (oA : Option Addr) (ol oc : Nat) (kA : Option Addr) (kl kc : Nat) (tA : Option Addr) (tl tc : Nat),
      u = .agg #[.int .i64 k, .int .i64 kk, .bool bb, .int .i64 nn, .float .f64 ff, .string ss, .slice lA ll lc, .string op, .slice oA ol oc, .slice kA kl kc, .slice tA tl tc] ∧
      RdS w S v (.agg #[.int .i64 kk, .bool bb, .int .i64 nn, .float .f64 ff, .string ss, .slice lA ll lc]) ∧ RdP w S p (.agg #[.string op, .slice oA ol oc, .slice kA kl kc]) ∧ RdTr n w S t (.slice tA tl tc) := by
  obtain ⟨v0, v1, v2, v3, v4, v5, p0, p1, p2, tv, rfl, h2, h3, h4⟩ := h
  obtain ⟨kk, bb, nn, ff, ss, l⟩ := v
  obtain ⟨A, cap, e, -⟩ := h2.open
  simp only [Value.agg.injEq, Array.mk.injEq, List.cons.injEq, and_true] at e
  obtain ⟨rfl, rfl, rfl, rfl, rfl, rfl⟩ := e
  obtain ⟨op, q, kids⟩ := p
  obtain ⟨LA, lc, KA, kc, e, -, -⟩ := h3.look
  simp only [Value.agg.injEq, Array.mk.injEq, List.cons.injEq, and_true] at e
  obtain ⟨rfl, rfl, rfl⟩ := e
  obtain ⟨TA, tc, rfl⟩ := rdTr_shape _ _ _ _ _ h4
  exact ⟨_, _, _, _, _, _, _, _, _, _, _, _, _, _, _, _, _, _, rfl, h2, h3, h4⟩

theorem RowA.itemA {n : Nat} {w : World} {S : Nat → Prop} {l : List Ag} {A : Option Addr} (h : RowA (RdArg (RdTr n)) 11 w S l A) {i : Nat} (hi : i < l.length) :
    ∃ (a : Addr) (k kk : Int) (bb : Bool) (nn : Int) (ff : Nat) (ss : ByteArray) (lA : Option Addr) (ll lc : Nat) (op : ByteArray) (oA : Option Addr) (ol oc : Nat) (kA : Option Addr) (kl kc : Nat) (tA : Option Addr) (tl tc : Nat), A = some a ∧ S a.block ∧
      RdArg (RdTr n) w S l[i] (.agg #[.int .i64 k, .int .i64 kk, .bool bb, .int .i64 nn, .float .f64 ff, .string ss, .slice lA ll lc, .string op, .slice oA ol oc, .slice kA kl kc, .slice tA tl tc]) ∧
      Elev w (a.add (i * 11)) (.int .i64 k) (.int .i64 kk) (.bool bb) (.int .i64 nn) (.float .f64 ff) (.string ss) (.slice lA ll lc) (.string op) (.slice oA ol oc) (.slice kA kl kc) (.slice tA tl tc) := by
  obtain ⟨a, v, ha, hb, hc, hr⟩ := h i hi
  rcases hx : l[i] with ⟨k, x, p, t⟩
  rw [hx] at hr
  obtain ⟨kk, bb, nn, ff, ss, lA, ll, lc, op, oA, ol, oc, kA, kl, kc, tA, tl, tc, rfl, -⟩ := hr.look
  refine ⟨a, k, kk, bb, nn, ff, ss, lA, ll, lc, op, oA, ol, oc, kA, kl, kc, tA, tl, tc, ha, hb, hr, hc 0 _ rfl, ?_, ?_, ?_, ?_, ?_, ?_, ?_, ?_, ?_, ?_⟩
  · rw [← add_in _ _ _ (by decide)]; exact hc 1 _ rfl
  · rw [← add_in _ _ _ (by decide)]; exact hc 2 _ rfl
  · rw [← add_in _ _ _ (by decide)]; exact hc 3 _ rfl
  · rw [← add_in _ _ _ (by decide)]; exact hc 4 _ rfl
  · rw [← add_in _ _ _ (by decide)]; exact hc 5 _ rfl
  · rw [← add_in _ _ _ (by decide)]; exact hc 6 _ rfl
  · rw [← add_in _ _ _ (by decide)]; exact hc 7 _ rfl
  · rw [← add_in _ _ _ (by decide)]; exact hc 8 _ rfl
  · rw [← add_in _ _ _ (by decide)]; exact hc 9 _ rfl
  · rw [← add_in _ _ _ (by decide)]; exact hc 10 _ rfl

/-- a predicate is told -/
def PT (x : Pd) : Prop := ∀ (w0 w : World) (b : Nat) (acc : List UInt8) (v : Value), RBx w0 b acc w → EnvT w0 → RdP w (fun q => q < b) x v → acc.length + (shPd x).length ≤ 99999999000 →
  Calls Tryd.prog 31 #[.pointer (some ⟨b, 0, none⟩), v] w (TellP w0 w b (acc ++ shPd x))

/-- an argument is told -/
def AT (n : Nat) (x : Ag) : Prop := ∀ (w0 w : World) (b : Nat) (acc : List UInt8) (v : Value), RBx w0 b acc w → EnvT w0 → RdArg (RdTr n) w (fun q => q < b) x v → acc.length + (shAg x).length ≤ 99999999000 →
  Calls Tryd.prog 88 #[.pointer (some ⟨b, 0, none⟩), v] w (TellP w0 w b (acc ++ shAg x))

/-- a step is told -/
def ST (n : Nat) (x : Sp) : Prop := ∀ (w0 w : World) (b : Nat) (acc : List UInt8) (v : Value), RBx w0 b acc w → EnvT w0 → RdStp (RdTr n) w (fun q => q < b) x v → acc.length + (shSp x).length ≤ 99999999000 →
  Calls Tryd.prog 74 #[.pointer (some ⟨b, 0, none⟩), v] w (TellP w0 w b (acc ++ shSp x))

theorem three_cells {w : World} {b : Nat} {T : TypeId} {x0 x1 x2 : Value} (h : w.heap[b]? = some (.cells #[x0, x1, x2] T (0, 0))) : (w.cell? ⟨b, 0, none⟩ = some x0 ∧ w.cell? ⟨b, 1, none⟩ = some x1 ∧ w.cell? ⟨b, 2, none⟩ = some x2) ∧ b < w.heap.size := by
  refine ⟨⟨?_, ?_, ?_⟩, (Array.getElem?_eq_some_iff.1 h).1⟩
  all_goals (rw [cell_of_row _ _ _ _ _ _ h]; rfl)

theorem two_cells' {w : World} {b : Nat} {T : TypeId} {x0 x1 : Value} (h : w.heap[b]? = some (.cells #[x0, x1] T (0, 0))) : (w.cell? ⟨b, 0, none⟩ = some x0 ∧ w.cell? ⟨b, 1, none⟩ = some x1) ∧ b < w.heap.size := by
  refine ⟨⟨?_, ?_⟩, (Array.getElem?_eq_some_iff.1 h).1⟩
  all_goals (rw [cell_of_row _ _ _ _ _ _ h]; rfl)

end Go.Proofs.YtgmjhoppjjjilaaDoor
