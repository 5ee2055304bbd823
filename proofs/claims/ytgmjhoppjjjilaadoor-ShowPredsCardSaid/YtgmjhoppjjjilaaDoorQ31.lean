/- SpM -/
import Derived.Test.YtgmjhoppjjjilaaDoorQ28
import Derived.Deep.CutBlock

/- the document's parser: steps (written by tools/laws13m.py) -/
namespace Go.Proofs.YtgmjhoppjjjilaaDoor
open Go.ChangeShapes Go.WideShapes Go.ChangeAt Go.RowKit Go.Fl
open Go.Shelf

theorem info_arg13 : (Tryd.prog.info? 40).map (fun i => (i.zero, i.size, i.bytes)) = some (some (.agg #[.int .i64 0, .int .i64 0, .bool false, .int .i64 0, .float .f64 0, .string ⟨#[]⟩, .slice none 0 0, .string ⟨#[]⟩, .slice none 0 0, .slice none 0 0, .slice none 0 0]), 11, 168) := by kernel_rfl

theorem info_step13 : (Tryd.prog.info? 35).map (fun i => (i.zero, i.size, i.bytes)) = some (some (.agg #[.string ⟨#[]⟩, .slice none 0 0]), 2, 40) := by kernel_rfl

section
variable {α : Type} (G : Nat → Wd) (en : UInt8) (b : Wd → Bool) (rd : Ps → Rs α)

/-- what is left to take behind l -/
def headB (f : Nat) (l : List α) (s : Ps) : Rs (List α) :=
  if isSgn (G s.i) en then .ok l ⟨s.i + 1, s.n⟩
  else if l.length = 0 then sevL G en b (fun _ => rd) f [] s
  else if isSgn (G s.i) 44 then sevL G en b (fun _ => rd) f l ⟨s.i + 1, s.n⟩
  else .bad s.i 120

theorem headB_sev (s : Ps) : sev G en b (fun _ => rd) s = headB G en b rd 13 [] s := by
  unfold sev headB
  rw [if_pos (show ([] : List α).length = 0 from rfl)]

end

section
variable {α : Type} {G : Nat → Wd} {en : UInt8} {b : Wd → Bool} {rd : Ps → Rs α} {f : Nat} {l : List α} {s s' : Ps} {x : α}

theorem sevL_headB (hb : b (G s.i) = true) (hl : l.length ≠ 12) (hr : rd s = .ok x s') : sevL G en b (fun _ => rd) (f + 1) l s = headB G en b rd f (l ++ [x]) s' := by
  have hne : ¬ (l ++ [x]).length = 0 := by simp
  unfold headB
  rw [if_neg hne]
  by_cases h1 : isSgn (G s'.i) en = true
  · rw [if_pos h1]; exact sevL_end hb hl hr h1
  · have h1' : isSgn (G s'.i) en = false := by simpa using h1
    rw [if_neg h1]
    by_cases h2 : isSgn (G s'.i) 44 = true
    · rw [if_pos h2]; exact sevL_go hb hl hr h1' h2
    · rw [if_neg h2]; exact sevL_no hb hl hr h1' (by simpa using h2)

theorem sevL_none (hl : l.length ≠ 12) {j : Nat} {c : Int} (hr : rd s = .bad j c) : ∃ j c, sevL G en b (fun _ => rd) (f + 1) l s = .bad j c := by
  cases hb : b (G s.i)
  · exact ⟨_, _, by rw [sevL]; exact if_pos hb⟩
  · exact ⟨_, _, sevL_bad hb hl hr⟩

theorem sevL_full (h : l.length = 12) : ∃ j c, sevL G en b (fun _ => rd) f l s = .bad j c := by
  cases f with
  | zero => exact ⟨_, _, rfl⟩
  | succ f =>
    rw [sevL]
    split
    · exact ⟨_, _, rfl⟩
    · exact ⟨_, _, rfl⟩

theorem headB_go {i2 : Nat} (hen : isSgn (G s.i) en = false) (hj : l.length = 0 ∧ i2 = s.i ∨ l.length ≠ 0 ∧ isSgn (G s.i) 44 = true ∧ i2 = s.i + 1) : headB G en b rd f l s = sevL G en b (fun _ => rd) f l ⟨i2, s.n⟩ := by
  unfold headB
  rw [if_neg (by rw [hen]; decide)]
  rcases hj with ⟨h, rfl⟩ | ⟨h, h44, rfl⟩
  · rw [if_pos h, List.length_eq_zero_iff.1 h]
  · rw [if_neg h, if_pos h44]

theorem headB_no (hen : isSgn (G s.i) en = false) (hl : l.length ≠ 0) (h44 : isSgn (G s.i) 44 = false) : ∃ j c, headB G en b rd f l s = .bad j c := by
  unfold headB
  rw [if_neg (by rw [hen]; decide), if_neg hl, if_neg (by rw [h44]; decide)]
  exact ⟨_, _, rfl⟩

end

/-- a step with these arguments -/
def stR (nm : ByteArray) : Rs (List Ag) → Rs Sp
  | .bad i e => .bad i e
  | .ok l s' => .ok (.mk nm l) s'

theorem stR_bad {nm : ByteArray} {r : Rs (List Ag)} (h : ∃ j c, r = .bad j c) : ∃ j c, stR nm r = .bad j c := by
  obtain ⟨j, c, rfl⟩ := h
  exact ⟨_, _, rfl⟩

theorem pStep_stR {G : Nat → Wd} {arg : Ps → Rs Ag} {s : Ps} (h1 : (G s.i).k = 1) (hn : s.n ≠ 150) (h40 : isSgn (G (s.i + 1)) 40 = true) : pStep G arg s = stR (G s.i).s (headB G 41 argA arg 13 [] ⟨s.i + 2, s.n + 1⟩) := by
  unfold pStep
  rw [if_neg (by rw [h1]; decide), if_neg hn, if_neg (by rw [h40]; decide), headB_sev]
  cases headB G 41 argA arg 13 [] ⟨s.i + 2, s.n + 1⟩ <;> rfl

theorem pStep_bad3 {G : Nat → Wd} {arg : Ps → Rs Ag} {s : Ps} (h : (G s.i).k ≠ 1 ∨ s.n = 150 ∨ isSgn (G (s.i + 1)) 40 = false) : ∃ j c, pStep G arg s = .bad j c := by
  unfold pStep
  split
  · exact ⟨_, _, rfl⟩
  · rename_i h1
    split
    · exact ⟨_, _, rfl⟩
    · rename_i h2
      split
      · exact ⟨_, _, rfl⟩
      · rename_i h3
        rcases h with h | h | h
        · exact absurd h h1
        · exact absurd h h2
        · exact absurd h h3

/-- the rest of a chain: a step, then what follows -/
def headC (G : Nat → Wd) (arg : Ps → Rs Ag) (f : Nat) (l : List Sp) (s : Ps) : Rs (List Sp) :=
  match pStep G arg s with
  | .bad i e => .bad i e
  | .ok x s' => pChainL G arg f (l ++ [x]) s'

theorem headC_chain (G : Nat → Wd) (arg : Ps → Rs Ag) (s : Ps) : pChain G arg s = headC G arg 151 [] s := by
  unfold pChain headC
  rfl

theorem headC_bad {G : Nat → Wd} {arg : Ps → Rs Ag} {f : Nat} {l : List Sp} {s : Ps} (h : ∃ j c, pStep G arg s = .bad j c) : ∃ j c, headC G arg f l s = .bad j c := by
  obtain ⟨j, c, h⟩ := h
  unfold headC
  rw [h]
  exact ⟨_, _, rfl⟩

theorem headC_end {G : Nat → Wd} {arg : Ps → Rs Ag} {f : Nat} {l : List Sp} {s s' : Ps} {x : Sp} (h : pStep G arg s = .ok x s') (h46 : isSgn (G s'.i) 46 = false) : headC G arg (f + 1) l s = .ok (l ++ [x]) s' := by
  unfold headC
  rw [h]
  show pChainL G arg (f + 1) (l ++ [x]) s' = _
  rw [pChainL]
  exact if_pos h46

theorem headC_go {G : Nat → Wd} {arg : Ps → Rs Ag} {f : Nat} {l : List Sp} {s s' : Ps} {x : Sp} (h : pStep G arg s = .ok x s') (h46 : isSgn (G s'.i) 46 = true) : headC G arg (f + 1) l s = headC G arg f (l ++ [x]) ⟨s'.i + 1, s'.n⟩ := by
  unfold headC
  rw [h]
  show pChainL G arg (f + 1) (l ++ [x]) s' = _
  rw [pChainL, if_neg (by rw [h46]; decide)]
  cases pStep G arg ⟨s'.i + 1, s'.n⟩ <;> rfl

/-- what a call's own boxes are: a zero state -/
def Fr2 (w X : World) : Prop := Below w.heap.size w X ∧ X.heap[w.heap.size + 1]? = some (.cells #[.slice none 0 0, .int .i64 0, .int .i64 0, .int .i64 0, .int .i64 0, .int .i64 0] 63 (0, 0)) ∧ w.heap.size + 2 ≤ X.heap.size

theorem Fr2.on {w X Y : World} (h : Fr2 w X) (hb : Below X.heap.size X Y) : Fr2 w Y := by
  obtain ⟨h1, h2, h4⟩ := h
  exact ⟨h1.trans (hb.mono h1.size), (hb.block _ (Array.getElem?_eq_some_iff.1 h2).1).trans h2, Nat.le_trans h4 hb.size⟩

theorem Fr2.only {w X Y : World} {P : Nat → Prop} (h : Fr2 w X) (ho : Only P X Y) (hP : ∀ b, P b → b = w.heap.size ∨ w.heap.size + 2 ≤ b) : Fr2 w Y := by
  obtain ⟨h1, h2, h4⟩ := h
  exact ⟨h1.trans (ho.below h1.size (fun b hb => by rcases hP b hb with h | h <;> omega)), (ho.block _ (Array.getElem?_eq_some_iff.1 h2).1 (fun hb => by rcases hP _ hb with h | h <;> omega)).trans h2, Nat.le_trans h4 ho.size⟩

/-- the loop within: the arguments of one step, whose box is bx; wo is the world ahead of it, r what the step comes to -/
def InnL (g cap : Nat) (ws : List Wd) (k : Nat) (w wo : World) (bx : Nat) (nm : ByteArray) (r : Rs Sp) (n0 : Nat) (d a : Int) (gg : Nat) (wr : World) : Prop :=
  Only (fun b => b = w.heap.size ∨ bx ≤ b) wo wr ∧ ∃ (A : Option Addr) (ln c : Nat) (i1 d1 m1 a1 e1 : Int), wr.heap[bx]? = some (.cells #[.string nm, .slice A ln c] 35 (0, 0)) ∧ SB wr w.heap.size g ws.length cap i1 d1 m1 a1 e1 ∧
    ((e1 = 0 ∧ ∃ (l : List Ag) (s : Ps) (f : Nat), i1 = (s.i : Nat) ∧ s.i < ws.length ∧ d1 = d ∧ m1 = (s.n : Nat) ∧ s.n ≤ 150 ∧ n0 ≤ s.n ∧ a1 = a ∧ ln = l.length ∧ l.length + f = 13 ∧ 1 ≤ f ∧ f ≤ gg ∧ Row (RdArg (RdTr k)) 40 11 (bx + 1) wr l (.slice A ln c) ∧ r = stR nm (headB (gx ws) 41 argA (rArg (gx ws) k (rTrav (gx ws) k)) f l s)) ∨
     (e1 ≠ 0 ∧ ∃ j c, r = .bad j c))

/-- behind the loop within -/
def InnX (g cap : Nat) (ws : List Wd) (k : Nat) (w wo : World) (bx : Nat) (nm : ByteArray) (r : Rs Sp) (n0 : Nat) (d a : Int) (wr : World) : Prop :=
  Only (fun b => b = w.heap.size ∨ bx ≤ b) wo wr ∧ ∃ (A : Option Addr) (ln c : Nat) (i1 d1 m1 a1 e1 : Int), wr.heap[bx]? = some (.cells #[.string nm, .slice A ln c] 35 (0, 0)) ∧ SB wr w.heap.size g ws.length cap i1 d1 m1 a1 e1 ∧
    ((e1 = 0 ∧ ∃ (l : List Ag) (s : Ps) (x : Wd), ws[s.i]? = some x ∧ isSgn x 41 = true ∧ i1 = (s.i : Nat) ∧ d1 = d ∧ m1 = (s.n : Nat) ∧ s.n ≤ 150 ∧ n0 ≤ s.n ∧ a1 = a ∧ ln = l.length ∧ LstS (RdArg (RdTr k)) 11 wr (fun b => bx + 1 ≤ b ∧ b < wr.heap.size) l (.slice A ln c) ∧ r = .ok (.mk nm l) ⟨s.i + 1, s.n⟩) ∨
     (e1 ≠ 0 ∧ ∃ j c, r = .bad j c))

/-- the loop of steps -/
def OutL (g cap : Nat) (ws : List Wd) (k i m : Nat) (d a : Int) (w : World) (A : Option Addr) (ln c gg : Nat) (wr : World) : Prop :=
  Fr2 w wr ∧ ∃ (l : List Sp) (s : Ps) (f : Nat), SB wr w.heap.size g ws.length cap (s.i : Nat) d (s.n : Nat) a 0 ∧ s.i < ws.length ∧ s.n ≤ 150 ∧ 151 ≤ f + s.n ∧ l.length + f = 151 ∧ f + 1 ≤ gg ∧ ln = l.length ∧ Row (RdStp (RdTr k)) 35 2 (w.heap.size + 2) wr l (.slice A ln c) ∧ pChain (gx ws) (rArg (gx ws) k (rTrav (gx ws) k)) ⟨i, m⟩ = headC (gx ws) (rArg (gx ws) k (rTrav (gx ws) k)) f l s

/-- append whose run is known, as one step of a region that draws -/
theorem step_append_runS {P : Program} {ops : Array Oper} {o : Oper} {a : Act} {w : World} {K : Act → World → Prop} {Q : Exit → Act → World → Prop} {E : Prop}
    (hg : o.guard = none) (d x : Operand) (dT sT : TypeId) (hop : o.op = Op.call { callee := Callee.builtin Builtin.append, args := #[d, x], argTypes := #[dT, sT] })
    (v u : Value) (hd : a.eval d = v) (hx : a.eval x = u) {v' : Value} {w' : World} (hr : (Builtin.append_ #[dT, sT] o.type #[v, u]).run P w = .ok v' w') (hK : K (a.put o.dst v') w') :
    if Region.wanted o (yielded ops a.tmps) = true then Oper.wp P o a w K Q else E := by
  have hw : Region.wanted o (yielded ops a.tmps) = true := by simp [Region.wanted, hg]
  rw [if_pos hw]
  unfold Oper.wp
  simp [execOp, hop, resolve, invoke, builtin, hd, hx, hr, Result.andThen]
  exact hK

theorem Only.under {ok : Nat → Prop} {a w w' : World} {B : Nat} (h : Only ok a w) (hb : Below B w w') (hk : ∀ k, ¬ ok k → k < B) : Only ok a w' :=
  ⟨hb.os.trans h.os, hb.tape.trans h.tape, hb.output.trans h.output, Nat.le_trans h.size hb.size, fun k hk' hn => (hb.block k (hk k hn)).trans (h.block k hk' hn)⟩

theorem duo_cells {w : World} {b : Nat} {T : TypeId} {x0 x1 : Value} (h : w.heap[b]? = some (.cells #[x0, x1] T (0, 0))) : (w.cell? ⟨b, 0, none⟩ = some x0 ∧ w.cell? ⟨b, 1, none⟩ = some x1) ∧ (w.frozen? ⟨b, 0, none⟩ = false ∧ w.frozen? ⟨b, 1, none⟩ = false) ∧ b < w.heap.size := by
  refine ⟨⟨?_, ?_⟩, ⟨?_, ?_⟩, (Array.getElem?_eq_some_iff.1 h).1⟩
  all_goals first
    | (rw [cell_of_row _ _ _ _ _ _ h]; rfl)
    | simp [World.frozen?, h]

theorem duo_set {w : World} {b : Nat} {T : TypeId} {x0 x1 : Value} (h : w.heap[b]? = some (.cells #[x0, x1] T (0, 0))) (u : Value) : (w.setCell ⟨b, 1, none⟩ u).heap[b]? = some (.cells #[x0, u] T (0, 0)) := by
  simp [World.setCell, Array.getElem?_modify, h]

/-- one more in a row of one's own; nothing but its block has changed -/
theorem row_addG {α : Type} {R : World → (Nat → Prop) → α → Value → Prop} (hK : KeepS R) {P : Program} (t e : TypeId) (i : TypeInfo) (z : Value) (sz bytes : Nat) (ht : P.underlying t = some (.slice e)) (hi : P.info? e = some i) (hz : i.zero = some z) (hsize : i.size = sz) (hby : i.bytes = bytes) (hzs : z.cells.size = sz) (hsz : 0 < sz)
    {B : Nat} {w : World} {l : List α} {A : Value} (h : Row R e sz B w l A) (hB : B ≤ w.heap.size) (hn : l.length ≤ 100000) (hbs : bytes ≤ 1000) (x : α) (cs : Array Value) (hcs : cs.size = sz) (h1 : ∀ u ∈ cs.toList, u.oneCell' = true) (v : Value) (hv : v.cells = cs) (a : Addr) (hc : ∀ j u, cs[j]? = some u → w.cell? (a.add j) = some u) (hx : R w (fun b => B ≤ b ∧ b < w.heap.size ∧ some b ≠ A.ownBlock) x v) :
    ∃ A' c' w', (Builtin.append_ #[t, t] t #[A, .slice (some a) 1 1]).run P w = .ok (.slice A' (l.length + 1) c') w' ∧ Row R e sz B w' (l ++ [x]) (.slice A' (l.length + 1) c') ∧ Below B w w' ∧ w.grownBy w' A.ownBlock := by
  obtain ⟨xs, hown, hp⟩ := h
  have hnl : cs.toList.length = 1 * sz := by rw [Array.length_toList, hcs, Nat.one_mul]
  have hbb : (l.length + 1) * bytes ≤ 140737488355328 := by
    have := Nat.mul_le_mul (show l.length + 1 ≤ 100001 by omega) hbs
    omega
  obtain ⟨v', w', hr, hown', hg, hA⟩ := run_append_fresh (P := P) w B t t e i z sz bytes ht hi hz hsize hby hzs hsz A l.length xs hown a 1 1 cs.toList hnl (fun j u hu => hc j u (by simpa using hu)) h1 (by unfold maxLen; omega) hbb hB (by decide)
  have hrow := Row.step hK (v := v) (x := x) hown hp (fun k u hu => by
    rw [hv] at hu
    have hk := (Array.getElem?_eq_some_iff.1 hu).1
    exact ⟨by omega, by simpa using hu⟩) hx hown' hg hA
  have hbl : Below B w w' := (Below.refl _ _).grown hg hB (fun k hk => (hown.lt k hk).1)
  rcases hown'.2 with ⟨-, h0⟩ | ⟨g, cap, cur, rfl, -⟩
  · omega
  · exact ⟨some ⟨g, 0, none⟩, cap, w', hr, hrow, hbl, hg⟩

/-- one more argument in its row: the three parts that a world needs -/
theorem arg_app {R : World → (Nat → Prop) → Ag → Value → Prop} (hK : KeepS R) {Y : World} {B c : Nat} {A : Option Addr} {l : List Ag} {ak kk : Int} {bb : Bool} {nn : Int} {ff : Nat} {ss : ByteArray} {lA : Option Addr} {ll lc : Nat} {op : ByteArray} {oA : Option Addr} {ol oc : Nat} {kA : Option Addr} {kl kc : Nat} {tA : Option Addr} {tl tc : Nat} (x : Ag)
    (hrow : Row R 40 11 B (Y.alloc (.cells #[.int .i64 ak, .int .i64 kk, .bool bb, .int .i64 nn, .float .f64 ff, .string ss, .slice lA ll lc, .string op, .slice oA ol oc, .slice kA kl kc, .slice tA tl tc] 40)).drew l (.slice A l.length c)) (hB : B ≤ Y.heap.size) (hn : l.length ≤ 100000)
    (hx : R (Y.alloc (.cells #[.int .i64 ak, .int .i64 kk, .bool bb, .int .i64 nn, .float .f64 ff, .string ss, .slice lA ll lc, .string op, .slice oA ol oc, .slice kA kl kc, .slice tA tl tc] 40)).drew (fun b => B ≤ b ∧ b < Y.heap.size + 1 ∧ some b ≠ (Value.slice A l.length c).ownBlock) x (.agg #[.int .i64 ak, .int .i64 kk, .bool bb, .int .i64 nn, .float .f64 ff, .string ss, .slice lA ll lc, .string op, .slice oA ol oc, .slice kA kl kc, .slice tA tl tc])) :
    ∃ A' c' w8, (Builtin.append_ #[33, 33] 33 #[.slice A l.length c, .slice (some ⟨Y.heap.size, 0, none⟩) 1 1]).run Tryd.prog (Y.alloc (.cells #[.int .i64 ak, .int .i64 kk, .bool bb, .int .i64 nn, .float .f64 ff, .string ss, .slice lA ll lc, .string op, .slice oA ol oc, .slice kA kl kc, .slice tA tl tc] 40)).drew = .ok (.slice A' (l.length + 1) c') w8 ∧
      Row R 40 11 B w8 (l ++ [x]) (.slice A' (l.length + 1) c') ∧ Below B (Y.alloc (.cells #[.int .i64 ak, .int .i64 kk, .bool bb, .int .i64 nn, .float .f64 ff, .string ss, .slice lA ll lc, .string op, .slice oA ol oc, .slice kA kl kc, .slice tA tl tc] 40)).drew w8 ∧ (Y.alloc (.cells #[.int .i64 ak, .int .i64 kk, .bool bb, .int .i64 nn, .float .f64 ff, .string ss, .slice lA ll lc, .string op, .slice oA ol oc, .slice kA kl kc, .slice tA tl tc] 40)).drew.grownBy w8 (Value.slice A l.length c).ownBlock := by
  obtain ⟨i0, hi0, hz0, hz1, hz2⟩ := info_parts info_arg13
  have hs : (Y.alloc (.cells #[.int .i64 ak, .int .i64 kk, .bool bb, .int .i64 nn, .float .f64 ff, .string ss, .slice lA ll lc, .string op, .slice oA ol oc, .slice kA kl kc, .slice tA tl tc] 40)).drew.heap.size = Y.heap.size + 1 := World.size_alloc _ _
  refine row_addG hK 33 40 i0 _ 11 168 Tryd.underlying33 hi0 hz0 hz1 hz2 rfl (by decide) hrow (by rw [hs]; omega) hn (by decide) x #[.int .i64 ak, .int .i64 kk, .bool bb, .int .i64 nn, .float .f64 ff, .string ss, .slice lA ll lc, .string op, .slice oA ol oc, .slice kA kl kc, .slice tA tl tc] rfl (fun u hu => by simp at hu; rcases hu with rfl | rfl | rfl | rfl | rfl | rfl | rfl | rfl | rfl | rfl | rfl <;> rfl) _ rfl ⟨Y.heap.size, 0, none⟩
    (fun j u hj => by rw [adr_add, Nat.zero_add]; exact ((Blk.new Y 40 #[.int .i64 ak, .int .i64 kk, .bool bb, .int .i64 nn, .float .f64 ff, .string ss, .slice lA ll lc, .string op, .slice oA ol oc, .slice kA kl kc, .slice tA tl tc]).cell j).trans hj) (by rw [hs]; exact hx)

/-- one more step -/
theorem stp_app {R : World → (Nat → Prop) → Sp → Value → Prop} (hK : KeepS R) {Y : World} {B c : Nat} {A : Option Addr} {l : List Sp} {nm : ByteArray} {A1 : Option Addr} {l1 c1 : Nat} (x : Sp)
    (hrow : Row R 35 2 B (Y.alloc (.cells #[.string nm, .slice A1 l1 c1] 35)) l (.slice A l.length c)) (hB : B ≤ Y.heap.size) (hn : l.length ≤ 100000)
    (hx : R (Y.alloc (.cells #[.string nm, .slice A1 l1 c1] 35)) (fun b => B ≤ b ∧ b < Y.heap.size + 1 ∧ some b ≠ (Value.slice A l.length c).ownBlock) x (.agg #[.string nm, .slice A1 l1 c1])) :
    ∃ A' c' w8, (Builtin.append_ #[30, 30] 30 #[.slice A l.length c, .slice (some ⟨Y.heap.size, 0, none⟩) 1 1]).run Tryd.prog (Y.alloc (.cells #[.string nm, .slice A1 l1 c1] 35)) = .ok (.slice A' (l.length + 1) c') w8 ∧
      Row R 35 2 B w8 (l ++ [x]) (.slice A' (l.length + 1) c') ∧ Below B (Y.alloc (.cells #[.string nm, .slice A1 l1 c1] 35)) w8 := by
  obtain ⟨i0, hi0, hz0, hz1, hz2⟩ := info_parts info_step13
  have hs : (Y.alloc (.cells #[.string nm, .slice A1 l1 c1] 35)).heap.size = Y.heap.size + 1 := World.size_alloc _ _
  refine hrow.add hK 30 35 i0 _ 2 40 Tryd.underlying30 hi0 hz0 hz1 hz2 rfl (by decide) (by rw [hs]; omega) hn (by decide) x #[.string nm, .slice A1 l1 c1] rfl (fun u hu => by simp at hu; rcases hu with rfl | rfl <;> rfl) _ rfl ⟨Y.heap.size, 0, none⟩
    (fun j u hj => by rw [adr_add, Nat.zero_add]; exact ((Blk.new Y 35 #[.string nm, .slice A1 l1 c1]).cell j).trans hj) (by rw [hs]; exact hx)

theorem rArg_ok {G : Nat → Wd} {k : Nat} {t : Ps → Rs (List Sp)} {s s' : Ps} {x : Ag} (h : rArg G k t s = .ok x s') : argA (G s.i) = true := by
  unfold rArg at h
  split at h
  · cases h
  · rename_i h'; simpa using h'

/-- append of an argument, whether it is one that was read or not -/
theorem inn_app {k : Nat} {w2 w3 Y : World} {bx c1 : Nat} {A1 : Option Addr} {l1 : List Ag} {ak kk : Int} {bb : Bool} {nn : Int} {ff : Nat} {ss : ByteArray} {lA : Option Addr} {ll lc : Nat} {op : ByteArray} {oA : Option Addr} {ol oc : Nat} {kA : Option Addr} {kl kc : Nat} {tA : Option Addr} {tl tc : Nat} (ot : Option Ag)
    (hrow : Row (RdArg (RdTr k)) 40 11 (bx + 1) w2 l1 (.slice A1 l1.length c1)) (hb : ∀ b, bx + 1 ≤ b → b < w3.heap.size → Y.heap[b]? = w3.heap[b]?) (h23 : Below w2.heap.size w2 w3) (hsz : w3.heap.size ≤ Y.heap.size) (hbx : bx < w2.heap.size) (hn : l1.length ≤ 100000)
    (hx : ∀ t, ot = some t → RdArg (RdTr k) w3 (fun b => w2.heap.size ≤ b ∧ b < w3.heap.size) t (.agg #[.int .i64 ak, .int .i64 kk, .bool bb, .int .i64 nn, .float .f64 ff, .string ss, .slice lA ll lc, .string op, .slice oA ol oc, .slice kA kl kc, .slice tA tl tc])) :
    ∃ A' c' w8, (Builtin.append_ #[33, 33] 33 #[.slice A1 l1.length c1, .slice (some ⟨Y.heap.size, 0, none⟩) 1 1]).run Tryd.prog (Y.alloc (.cells #[.int .i64 ak, .int .i64 kk, .bool bb, .int .i64 nn, .float .f64 ff, .string ss, .slice lA ll lc, .string op, .slice oA ol oc, .slice kA kl kc, .slice tA tl tc] 40)).drew = .ok (.slice A' (l1.length + 1) c') w8 ∧
      Below (bx + 1) (Y.alloc (.cells #[.int .i64 ak, .int .i64 kk, .bool bb, .int .i64 nn, .float .f64 ff, .string ss, .slice lA ll lc, .string op, .slice oA ol oc, .slice kA kl kc, .slice tA tl tc] 40)).drew w8 ∧ (∀ b, w2.heap.size ≤ b → b < Y.heap.size + 1 → w8.heap[b]? = (Y.alloc (.cells #[.int .i64 ak, .int .i64 kk, .bool bb, .int .i64 nn, .float .f64 ff, .string ss, .slice lA ll lc, .string op, .slice oA ol oc, .slice kA kl kc, .slice tA tl tc] 40)).heap[b]?) ∧ ∀ t, ot = some t → Row (RdArg (RdTr k)) 40 11 (bx + 1) w8 (l1 ++ [t]) (.slice A' (l1.length + 1) c') := by
  have hK := keepS_Arg (keepS_Tr k)
  have hy : ∀ b, bx + 1 ≤ b → b < w3.heap.size → (Y.alloc (.cells #[.int .i64 ak, .int .i64 kk, .bool bb, .int .i64 nn, .float .f64 ff, .string ss, .slice lA ll lc, .string op, .slice oA ol oc, .slice kA kl kc, .slice tA tl tc] 40)).drew.heap[b]? = w3.heap[b]? := fun b h1 h2 => (Below.heap_alloc Y _ b (by omega)).trans (hb b h1 h2)
  have hsd : (Y.alloc (.cells #[.int .i64 ak, .int .i64 kk, .bool bb, .int .i64 nn, .float .f64 ff, .string ss, .slice lA ll lc, .string op, .slice oA ol oc, .slice kA kl kc, .slice tA tl tc] 40)).drew.heap.size = Y.heap.size + 1 := World.size_alloc _ _
  have h23s := h23.size
  have hrowY : Row (RdArg (RdTr k)) 40 11 (bx + 1) (Y.alloc (.cells #[.int .i64 ak, .int .i64 kk, .bool bb, .int .i64 nn, .float .f64 ff, .string ss, .slice lA ll lc, .string op, .slice oA ol oc, .slice kA kl kc, .slice tA tl tc] 40)).drew l1 (.slice A1 l1.length c1) := hrow.kept hK (by rw [hsd]; omega) (fun b h1 h2 => (hy b h1 (by omega)).trans (h23.block b h2))
  have hgr : ∀ w8 : World, (Y.alloc (.cells #[.int .i64 ak, .int .i64 kk, .bool bb, .int .i64 nn, .float .f64 ff, .string ss, .slice lA ll lc, .string op, .slice oA ol oc, .slice kA kl kc, .slice tA tl tc] 40)).drew.grownBy w8 (Value.slice A1 l1.length c1).ownBlock → ∀ b, w2.heap.size ≤ b → b < Y.heap.size + 1 → w8.heap[b]? = (Y.alloc (.cells #[.int .i64 ak, .int .i64 kk, .bool bb, .int .i64 nn, .float .f64 ff, .string ss, .slice lA ll lc, .string op, .slice oA ol oc, .slice kA kl kc, .slice tA tl tc] 40)).heap[b]? := fun w8 hg b h1 h2 => hg.block b (by rw [hsd]; exact h2) (fun he => by
    obtain ⟨xs, hown, -⟩ := hrow
    have := (hown.lt b he.symm).2
    omega)
  cases ot with
  | none =>
    obtain ⟨A', c', w8, h1, h2, h3, h4⟩ := arg_app (R := fun _ _ _ _ => True) (fun _ _ _ _ _ _ _ _ h => h) (.mk 0 vz pz []) hrowY.some (by omega) hn trivial
    exact ⟨A', c', w8, h1, h3, hgr w8 h4, fun t h => by cases h⟩
  | some t =>
    obtain ⟨A', c', w8, h1, h2, h3, h4⟩ := arg_app hK t hrowY (by omega) hn (hK _ _ _ _ _ _ (fun p hp => World.cell?_of_block (hy p.block (by have := hp.1; omega) hp.2)) (fun b hb' => ⟨by have := hb'.1; omega, by have := hb'.2; omega, fun he => by
      obtain ⟨xs, hown, -⟩ := hrow
      have := (hown.lt b he.symm).2
      have := hb'.1
      omega⟩) (hx t rfl))
    exact ⟨A', c', w8, h1, h3, hgr w8 h4, fun t' h => by cases h; exact h2⟩

section
variable {g cap n : Nat} {Q : World → Prop} {wo w8 : World} {h0 bx ln c8 : Nat} {A8 : Option Addr} {nm : ByteArray} {sl : Value} {i2 d2 m2 a2 e2 i3 d3 m3 a3 e3 : Int} {ot : Option Ag} {k : Nat} {l : Ag → List Ag}

theorem inn_fin_a (hno : ∀ (W : World) (A' : Option Addr) (c' : Nat), Only (fun b => b = h0 ∨ bx ≤ b) wo W → W.heap[bx]? = some (.cells #[.string nm, .slice A' ln c'] 35 (0, 0)) → SB W h0 g n cap i3 d3 m3 a3 e3 → (∀ t, ot = some t → Row (RdArg (RdTr k)) 40 11 (bx + 1) W (l t) (.slice A' ln c')) → Q W)
    (hO : Only (fun b => b = h0 ∨ bx ≤ b) wo w8) (z8 : SB w8 h0 g n cap i2 d2 m2 a2 e2) (zx8 : w8.heap[bx]? = some (.cells #[.string nm, sl] 35 (0, 0))) (hw : ∀ t, ot = some t → Row (RdArg (RdTr k)) 40 11 (bx + 1) w8 (l t) (.slice A8 ln c8)) (hne : h0 + 2 ≤ bx) :
    Q (((((((((w8).setCell ⟨h0, 0, none⟩ (.slice (some ⟨g, 0, none⟩) n cap)).setCell ⟨h0, 1, none⟩ (.int .i64 i3)).setCell ⟨h0, 2, none⟩ (.int .i64 d3)).setCell ⟨h0, 3, none⟩ (.int .i64 m3)).setCell ⟨h0, 4, none⟩ (.int .i64 a3)).setCell ⟨h0, 5, none⟩ (.int .i64 e3))).setCell ⟨bx, 1, none⟩ (.slice A8 ln c8)) := by
  have hn0 : h0 ≠ bx := by omega
  exact hno _ A8 c8 (((((((hO.setCell (p := ⟨h0, 0, none⟩) (.inl (.inl rfl)) _).setCell (p := ⟨h0, 1, none⟩) (.inl (.inl rfl)) _).setCell (p := ⟨h0, 2, none⟩) (.inl (.inl rfl)) _).setCell (p := ⟨h0, 3, none⟩) (.inl (.inl rfl)) _).setCell (p := ⟨h0, 4, none⟩) (.inl (.inl rfl)) _).setCell (p := ⟨h0, 5, none⟩) (.inl (.inl rfl)) _).setCell (p := ⟨bx, 1, none⟩) (.inl (.inr (Nat.le_refl _))) _) (duo_set ((six_far (fun e => hn0 e.symm) _ _ _ _ _ _).trans zx8) _) ((Below.heap_setCell _ ⟨bx, 1, none⟩ _ h0 hn0).trans (six_done z8 _ _ _ _ _ _)) (fun t ht => (hw t ht).kept (keepS_Arg (keepS_Tr k)) (by simp only [World.size_setCell]; exact Nat.le_refl _) (fun b h1 h2 => (Below.heap_setCell _ ⟨bx, 1, none⟩ _ b (by show b ≠ bx; omega)).trans (six_far (by omega) _ _ _ _ _ _)))

theorem inn_fin_b (hno : ∀ (W : World) (A' : Option Addr) (c' : Nat), Only (fun b => b = h0 ∨ bx ≤ b) wo W → W.heap[bx]? = some (.cells #[.string nm, .slice A' ln c'] 35 (0, 0)) → SB W h0 g n cap i3 d3 m3 a3 e3 → (∀ t, ot = some t → Row (RdArg (RdTr k)) 40 11 (bx + 1) W (l t) (.slice A' ln c')) → Q W)
    (hO : Only (fun b => b = h0 ∨ bx ≤ b) wo w8) (z8 : SB w8 h0 g n cap i2 d2 m2 a2 e2) (zx8 : w8.heap[bx]? = some (.cells #[.string nm, sl] 35 (0, 0))) (hw : ∀ t, ot = some t → Row (RdArg (RdTr k)) 40 11 (bx + 1) w8 (l t) (.slice A8 ln c8)) (hne : h0 + 2 ≤ bx) :
    Q (((((((((w8.setCell ⟨bx, 1, none⟩ (.slice A8 ln c8))).setCell ⟨h0, 0, none⟩ (.slice (some ⟨g, 0, none⟩) n cap)).setCell ⟨h0, 1, none⟩ (.int .i64 i3)).setCell ⟨h0, 2, none⟩ (.int .i64 d3)).setCell ⟨h0, 3, none⟩ (.int .i64 m3)).setCell ⟨h0, 4, none⟩ (.int .i64 a3)).setCell ⟨h0, 5, none⟩ (.int .i64 e3))) := by
  have hn0 : h0 ≠ bx := by omega
  exact hno _ A8 c8 (((((((hO.setCell (p := ⟨bx, 1, none⟩) (.inl (.inr (Nat.le_refl _))) _).setCell (p := ⟨h0, 0, none⟩) (.inl (.inl rfl)) _).setCell (p := ⟨h0, 1, none⟩) (.inl (.inl rfl)) _).setCell (p := ⟨h0, 2, none⟩) (.inl (.inl rfl)) _).setCell (p := ⟨h0, 3, none⟩) (.inl (.inl rfl)) _).setCell (p := ⟨h0, 4, none⟩) (.inl (.inl rfl)) _).setCell (p := ⟨h0, 5, none⟩) (.inl (.inl rfl)) _) ((six_far (fun e => hn0 e.symm) _ _ _ _ _ _).trans (duo_set zx8 _)) (six_done ((Below.heap_setCell _ ⟨bx, 1, none⟩ _ h0 hn0).trans z8) _ _ _ _ _ _) (fun t ht => (hw t ht).kept (keepS_Arg (keepS_Tr k)) (by simp only [World.size_setCell]; exact Nat.le_refl _) (fun b h1 h2 => (six_far (by omega) _ _ _ _ _ _).trans (Below.heap_setCell _ ⟨bx, 1, none⟩ _ b (by show b ≠ bx; omega))))

theorem inn_fin_c (hno : ∀ (W : World) (A' : Option Addr) (c' : Nat), Only (fun b => b = h0 ∨ bx ≤ b) wo W → W.heap[bx]? = some (.cells #[.string nm, .slice A' ln c'] 35 (0, 0)) → SB W h0 g n cap i3 d3 m3 a3 e3 → (∀ t, ot = some t → Row (RdArg (RdTr k)) 40 11 (bx + 1) W (l t) (.slice A' ln c')) → Q W)
    (hO : Only (fun b => b = h0 ∨ bx ≤ b) wo w8) (z8 : SB w8 h0 g n cap i3 d3 m3 a3 e3) (zx8 : w8.heap[bx]? = some (.cells #[.string nm, sl] 35 (0, 0))) (hw : ∀ t, ot = some t → Row (RdArg (RdTr k)) 40 11 (bx + 1) w8 (l t) (.slice A8 ln c8)) (hne : h0 + 2 ≤ bx) :
    Q (w8.setCell ⟨bx, 1, none⟩ (.slice A8 ln c8)) := by
  have hn0 : h0 ≠ bx := by omega
  exact hno _ A8 c8 (hO.setCell (p := ⟨bx, 1, none⟩) (.inl (.inr (Nat.le_refl _))) _) (duo_set zx8 _) ((Below.heap_setCell _ ⟨bx, 1, none⟩ _ h0 hn0).trans z8) (fun t ht => (hw t ht).kept (keepS_Arg (keepS_Tr k)) (by simp only [World.size_setCell]; exact Nat.le_refl _) (fun b h1 h2 => Below.heap_setCell _ ⟨bx, 1, none⟩ _ b (by show b ≠ bx; omega)))

end

/-- append of a step, whether it is one that was read or not -/
theorem out_app {k : Nat} {wr Y : World} {B bx c : Nat} {A : Option Addr} {l : List Sp} {nm : ByteArray} {A1 : Option Addr} {n1 c1 : Nat} (ot : Option Sp)
    (hrow : Row (RdStp (RdTr k)) 35 2 B wr l (.slice A l.length c)) (hb : ∀ b, B ≤ b → b < wr.heap.size → Y.heap[b]? = wr.heap[b]?) (hsz : wr.heap.size ≤ Y.heap.size) (hbx : wr.heap.size ≤ bx) (hB : B ≤ wr.heap.size) (hn : l.length ≤ 100000)
    (hx : ∀ x, ot = some x → RdStp (RdTr k) Y (fun b => bx + 1 ≤ b ∧ b < Y.heap.size) x (.agg #[.string nm, .slice A1 n1 c1])) :
    ∃ A' c' w8, (Builtin.append_ #[30, 30] 30 #[.slice A l.length c, .slice (some ⟨Y.heap.size, 0, none⟩) 1 1]).run Tryd.prog (Y.alloc (.cells #[.string nm, .slice A1 n1 c1] 35)) = .ok (.slice A' (l.length + 1) c') w8 ∧
      Below B (Y.alloc (.cells #[.string nm, .slice A1 n1 c1] 35)) w8 ∧ ∀ x, ot = some x → Row (RdStp (RdTr k)) 35 2 B w8 (l ++ [x]) (.slice A' (l.length + 1) c') := by
  have hK := keepS_Stp (keepS_Tr k)
  have hy : ∀ b, b < Y.heap.size → (Y.alloc (.cells #[.string nm, .slice A1 n1 c1] 35)).heap[b]? = Y.heap[b]? := fun b h => Below.heap_alloc Y _ b h
  have hsd : (Y.alloc (.cells #[.string nm, .slice A1 n1 c1] 35)).heap.size = Y.heap.size + 1 := World.size_alloc _ _
  have hrowY : Row (RdStp (RdTr k)) 35 2 B (Y.alloc (.cells #[.string nm, .slice A1 n1 c1] 35)) l (.slice A l.length c) := hrow.kept hK (by rw [hsd]; omega) (fun b h1 h2 => (hy b (by omega)).trans (hb b h1 h2))
  cases ot with
  | none =>
    obtain ⟨A', c', w8, h1, h2, h3⟩ := stp_app (R := fun _ _ _ _ => True) (fun _ _ _ _ _ _ _ _ h => h) (.mk ⟨#[]⟩ []) hrowY.some (by omega) hn trivial
    exact ⟨A', c', w8, h1, h3, fun t h => by cases h⟩
  | some x =>
    obtain ⟨A', c', w8, h1, h2, h3⟩ := stp_app hK x hrowY (by omega) hn (hK _ _ _ _ _ _ (fun p hp => World.cell?_of_block (hy p.block hp.2)) (fun b hb' => ⟨by have := hb'.1; omega, by have := hb'.2; omega, fun he => by
      obtain ⟨xs, hown, -⟩ := hrow
      have := (hown.lt b he.symm).2
      have := hb'.1
      omega⟩) (hx x rfl))
    exact ⟨A', c', w8, h1, h3, fun t' h => by cases h; exact h2⟩

/-- steps of a state that has an error -/
theorem steps_er {g cap n : Nat} (i d m a e : Int) (W : World) (he : e ≠ 0) :
    Calls Tryd.prog 28 #[StV g n cap i d m a e] W (fun z w' => ∃ lA ll lc, z = .returned (.tuple #[StV g n cap i d m a e, .slice lA ll lc]) ∧ Below W.heap.size W w') := by
  have h1 : (e == 0) = false := by simpa using he
  have HC := Lib.hid (chain3 W (.cells #[.slice (some ⟨g, 0, none⟩) n cap, .int .i64 i, .int .i64 d, .int .i64 m, .int .i64 a, .int .i64 e] 63) (.cells #[.slice none 0 0, .int .i64 0, .int .i64 0, .int .i64 0, .int .i64 0, .int .i64 0] 63) (.cells #[] 35))
  clear he
  go_enter Tryd.func28, Tryd.ntmps28
  go_wp2_with fail
  go_loopw [4] (fun sl wr => sl = .slice (some ⟨W.heap.size + 1 + 1, 0, none⟩) 0 0 ∧ Hid (SB wr W.heap.size g n cap i d m a e ∧ wr.heap[W.heap.size + 1]? = some (.cells #[.slice none 0 0, .int .i64 0, .int .i64 0, .int .i64 0, .int .i64 0, .int .i64 0] 63 (0, 0)) ∧ Below W.heap.size W wr)) (fun _ _ => 0)
  case atStart => exact ⟨rfl, Lib.hid ⟨HC.out.1, HC.out.2.1, HC.out.2.2.2.2⟩⟩
  case round =>
    obtain ⟨rfl, HI⟩ := hrel
    obtain ⟨hb, hr, hbl⟩ := HI.out
    obtain ⟨⟨x0, x1, x2, x3, x4, x5⟩, -, l1⟩ := hb.cells
    obtain ⟨⟨y0, y1, y2, y3, y4, y5⟩, ⟨f0, f1, f2, f3, f4, f5⟩, l2⟩ := six_cells hr
    obtain ⟨⟨r0, r1, r2, r3, r4, r5⟩, -, -⟩ := six_cells (six_done hr (.slice (some ⟨g, 0, none⟩) n cap) (.int .i64 i) (.int .i64 d) (.int .i64 m) (.int .i64 a) (.int .i64 e))
    have HB := Lib.hid hbl
    clear hb hr hbl
    go_wp2_with fail
    refine bodyPost_ret (v := .tuple #[StV g n cap i d m a e, .slice (some ⟨W.heap.size + 1 + 1, 0, none⟩) 0 0]) (by simp [results, Tryd.results28, go_sem, r0, r1, r2, r3, r4, r5]) rfl ?_
    exact ⟨_, _, _, rfl, by
      repeat (with_reducible first | exact HB.out | refine Below.setCell ?_ (by simp <;> omega) _ | refine Below.drew ?_)⟩

set_option maxHeartbeats 4000000 in
set_option maxRecDepth 100000 in
theorem steps_any {g cap : Nat} {ws : List Wd} {k : Nat} (hG : Gd ws) (hA : ArgC g cap ws k) : StepsC g cap ws k := by
  intro w i d m a x hw hx hdk hm
  have hi : i < ws.length := (List.getElem?_eq_some_iff.1 hx).1
  have HW := Lib.hid hw; have HG := Lib.hid hG; have HAr := Lib.hid hA; have HDK := Lib.hid hdk
  have hgl := hw.lt
  have HI0 : Hid (OutL g cap ws k i m d a w (some ⟨w.heap.size + 1 + 1, 0, none⟩) 0 0 152 (((w.alloc (.cells #[.slice (some ⟨g, 0, none⟩) ws.length cap, .int .i64 i, .int .i64 d, .int .i64 m, .int .i64 a, .int .i64 0] 63)).alloc (.cells #[.slice none 0 0, .int .i64 0, .int .i64 0, .int .i64 0, .int .i64 0, .int .i64 0] 63)).alloc (.cells #[] 35))) := Lib.hid (by
    obtain ⟨p1, p2, p3, zW, bW⟩ := chain3 w (.cells #[.slice (some ⟨g, 0, none⟩) ws.length cap, .int .i64 i, .int .i64 d, .int .i64 m, .int .i64 a, .int .i64 0] 63) (.cells #[.slice none 0 0, .int .i64 0, .int .i64 0, .int .i64 0, .int .i64 0, .int .i64 0] 63) (.cells #[] 35)
    refine ⟨⟨bW, p2, by omega⟩, [], ⟨i, m⟩, 151, p1, hi, hm, by show 151 ≤ 151 + m; omega, rfl, Nat.le_refl _, rfl, ?_, headC_chain _ _ _⟩
    have hm := World.ownsRow_made (e := 35) (size := 2) ((w.alloc (.cells #[.slice (some ⟨g, 0, none⟩) ws.length cap, .int .i64 i, .int .i64 d, .int .i64 m, .int .i64 a, .int .i64 0] 63)).alloc (.cells #[.slice none 0 0, .int .i64 0, .int .i64 0, .int .i64 0, .int .i64 0, .int .i64 0] 63)) #[] 0 (Nat.le_refl _) (Nat.zero_le _) (by simp)
    simp only [World.size_alloc] at hm
    exact ⟨[], hm, fun _ h => absurd h (Nat.not_lt_zero _)⟩)
  clear hw hx hG hA hdk hi hm
  go_enter Tryd.func28, Tryd.ntmps28
  go_wp2_with fail
  go_loopg [4] 152 (fun gg sl wr => ∃ (A : Option Addr) (ln c : Nat), sl = .slice A ln c ∧ Hid (OutL g cap ws k i m d a w A ln c gg wr))
  case atStart => exact ⟨_, 0, 0, rfl, HI0⟩
  case round =>
    obtain ⟨A, ln, c, rfl, HI⟩ := hrel
    obtain ⟨hF, l, s, f, zs, hsi, hn, hfn, hlf, hfg, hll, hrow, hch⟩ := HI.out
    subst hll
    obtain ⟨y, hy⟩ : ∃ y, ws[s.i]? = some y := ⟨_, List.getElem?_eq_getElem hsi⟩
    have hwr := HW.out.on hF.1
    obtain ⟨u0, u1, -, -, -, hyi⟩ := hwr.word hy
    have hyi' : (s.i : Int) < (ws.length : Int) := by omega
    have hszr : w.heap.size + 2 ≤ wr.heap.size := hF.2.2
    have HWN : Hid (wrap64 ((s.n : Int) + 1) = (s.n : Int) + 1) := Lib.hid (by rw [wrap64_id (is64_iff.2 (by omega))])
    have HWI : Hid (wrap64 ((s.i : Int) + 1) = (s.i : Int) + 1) := Lib.hid (by
      have := HG.out.few
      rw [wrap64_id (is64_iff.2 (by omega))])
    obtain ⟨⟨x0, x1, x2, x3, x4, x5⟩, xf, xl⟩ := zs.cells
    have xf3 := xf 3
    have HR := Lib.hid (And.intro hF (And.intro zs (And.intro hrow (And.intro hch (And.intro hy hwr)))))
    have HN := Lib.hid (And.intro hsi (And.intro hn (And.intro hfn (And.intro hlf hfg))))
    by_cases h150 : s.n = 150
    · -- too many
      have h1 : (150 : Int) ≤ (s.n : Int) := by omega
      have HBD : Hid (∃ j c, pChain (gx ws) (rArg (gx ws) k (rTrav (gx ws) k)) ⟨i, m⟩ = .bad j c) := Lib.hid (by
        rw [HR.out.2.2.2.1]
        exact headC_bad (pStep_bad3 (.inr (.inl h150))))
      have HF3 := Lib.hid (fail_ok (cap := cap) HR.out.2.2.2.2.2 HR.out.2.2.2.2.1 d s.n a 3)
      clear hF zs hsi hn hfn hlf hfg hrow hch hy hwr xf h150
      go_wp2_with fail
      refine HF3.out.mono ?_
      rintro e w2 ⟨rfl, hb2⟩
      have hF2 := HR.out.1.on hb2
      clear hb2

      obtain ⟨bF, q2F, szF⟩ := hF2
      obtain ⟨⟨ry0, ry1, ry2, ry3, ry4, ry5⟩, ⟨rf0, rf1, rf2, rf3, rf4, rf5⟩, rl⟩ := six_cells q2F
      obtain ⟨⟨rr0, rr1, rr2, rr3, rr4, rr5⟩, -, -⟩ := six_cells (six_done q2F (.slice (some ⟨g, 0, none⟩) ws.length cap) (.int .i64 (s.i : Nat)) (.int .i64 d) (.int .i64 (s.n : Nat)) (.int .i64 (y.at_ : Nat)) (.int .i64 3))
      have HBF := Lib.hid bF
      clear bF q2F szF
      go_wp2_with fail
      refine bodyPost_ret (v := .tuple #[StV g ws.length cap (s.i : Nat) d (s.n : Nat) (y.at_ : Nat) 3, .slice none 0 0]) (by simp [results, Tryd.results28, go_sem, rr0, rr1, rr2, rr3, rr4, rr5]) rfl ?_
      exact ⟨_, _, _, _, _, _, _, _, rfl, by
        repeat (with_reducible first | exact HBF.out | refine Below.setCell ?_ (by simp <;> omega) _ | refine Below.drew ?_), .inr ⟨HBD.out, by decide⟩⟩
    · have h150' : ¬ (150 : Int) ≤ (s.n : Int) := by omega
      obtain ⟨W5, hW5⟩ : ∃ W, wr.setCell ⟨w.heap.size, 3, none⟩ (.int .i64 ((s.n : Int) + 1)) = W := ⟨_, rfl⟩
      have z5 : SB W5 w.heap.size g ws.length cap (s.i : Nat) d ((s.n : Int) + 1) a 0 := by
        have h := zs
        rw [← hW5]
        unfold SB at h ⊢
        simp [World.setCell, Array.getElem?_modify, h]
      have hO5 : Only (fun b => b = w.heap.size) wr W5 := by rw [← hW5]; exact (Only.refl (fun b => b = w.heap.size) wr).setCell (p := ⟨w.heap.size, 3, none⟩) (.inl rfl) _
      have hF5 := hF.only hO5 (fun b h => .inl h)
      have hwd5 := HW.out.on hF5.1
      obtain ⟨v0, v1, -, -, -, -⟩ := hwd5.word hy
      obtain ⟨⟨xa0, xa1, xa2, xa3, xa4, xa5⟩, xaf, xal⟩ := z5.cells
      have H5 := Lib.hid (And.intro z5 (And.intro hO5 (And.intro hF5 hwd5)))
      by_cases hk : y.k = 1
      rotate_left
      · -- no name
        have d2 : (y.k != 1) = true := by simpa using hk
        have HBD : Hid (∃ j c, pChain (gx ws) (rArg (gx ws) k (rTrav (gx ws) k)) ⟨i, m⟩ = .bad j c) := Lib.hid (by
          rw [HR.out.2.2.2.1]
          exact headC_bad (pStep_bad3 (.inl (by rw [gx_of HR.out.2.2.2.2.1]; exact hk))))
        have HF3 := Lib.hid (fail_ok (cap := cap) H5.out.2.2.2 HR.out.2.2.2.2.1 d ((s.n : Int) + 1) a 120)
        have hwn := HWN.out
        clear hF zs hsi hn hfn hlf hfg hrow hch hy hwr xf h150 z5 hO5 hF5 hwd5 xaf hk
        go_wp2_with fail
        refine HF3.out.mono ?_
        rintro e w2 ⟨rfl, hb2⟩
        clear hwn
        have hF2 := H5.out.2.2.1.on hb2
        clear hb2

        obtain ⟨bF, q2F, szF⟩ := hF2
        obtain ⟨⟨ry0, ry1, ry2, ry3, ry4, ry5⟩, ⟨rf0, rf1, rf2, rf3, rf4, rf5⟩, rl⟩ := six_cells q2F
        obtain ⟨⟨rr0, rr1, rr2, rr3, rr4, rr5⟩, -, -⟩ := six_cells (six_done q2F (.slice (some ⟨g, 0, none⟩) ws.length cap) (.int .i64 (s.i : Nat)) (.int .i64 d) (.int .i64 ((s.n : Int) + 1)) (.int .i64 (y.at_ : Nat)) (.int .i64 120))
        have HBF := Lib.hid bF
        clear bF q2F szF
        go_wp2_with fail
        refine bodyPost_ret (v := .tuple #[StV g ws.length cap (s.i : Nat) d ((s.n : Int) + 1) (y.at_ : Nat) 120, .slice none 0 0]) (by simp [results, Tryd.results28, go_sem, rr0, rr1, rr2, rr3, rr4, rr5]) rfl ?_
        exact ⟨_, _, _, _, _, _, _, _, rfl, by
          repeat (with_reducible first | exact HBF.out | refine Below.setCell ?_ (by simp <;> omega) _ | refine Below.drew ?_), .inr ⟨HBD.out, by decide⟩⟩
      · -- a name
        obtain ⟨y2, hy2⟩ := HG.out.next hy (by rw [hk]; decide)
        have d1 : (y.k == 1) = true := by simpa using hk
        have d2 : (y.k != 1) = false := by simpa using hk
        obtain ⟨X6, hX6⟩ : ∃ X, W5.alloc (.cells #[.string y.s, .slice none 0 0] 35) = X := ⟨_, rfl⟩
        have hb6 : Below W5.heap.size W5 X6 := hX6 ▸ (Below.refl _ W5).alloc (Nat.le_refl _) _
        have zx6 : X6.heap[W5.heap.size]? = some (.cells #[.string y.s, .slice none 0 0] 35 (0, 0)) := hX6 ▸ heap_alloc_new W5 _
        have z6 := z5.on hb6
        obtain ⟨⟨xb0, xb1, xb2, xb3, xb4, xb5⟩, xbf, xbl⟩ := z6.cells
        have xbf1 := xbf 1
        obtain ⟨W7, hW7⟩ : ∃ W, X6.setCell ⟨w.heap.size, 1, none⟩ (.int .i64 ((s.i : Int) + 1)) = W := ⟨_, rfl⟩
        have z7 : SB W7 w.heap.size g ws.length cap ((s.i : Int) + 1) d ((s.n : Int) + 1) a 0 := by
          have h := z6
          rw [← hW7]
          unfold SB at h ⊢
          simp [World.setCell, Array.getElem?_modify, h]
        have hO7 : Only (fun b => b = w.heap.size) W5 W7 := by rw [← hW7]; exact (Only.of_below (ok := fun b => b = w.heap.size) hb6).setCell (p := ⟨w.heap.size, 1, none⟩) (.inl rfl) _
        have hlx : w.heap.size + 2 ≤ W5.heap.size := hF5.2.2
        have zx7 : W7.heap[W5.heap.size]? = some (.cells #[.string y.s, .slice none 0 0] 35 (0, 0)) := by rw [← hW7]; exact (Below.heap_setCell _ ⟨w.heap.size, 1, none⟩ _ _ (by show W5.heap.size ≠ w.heap.size; omega)).trans zx6
        have hF7 := hF5.only hO7 (fun b h => .inl h)
        obtain ⟨⟨xc0, xc1, xc2, xc3, xc4, xc5⟩, -, xcl⟩ := z7.cells
        obtain ⟨i8, a8, e8, hsg, hor8⟩ : ∃ i8 a8 e8 : Int, Calls Tryd.prog 27 #[StV g ws.length cap ((s.i : Int) + 1) d ((s.n : Int) + 1) a 0, .string ⟨#[40]⟩] W7 (fun z w' => z = .returned (StV g ws.length cap i8 d ((s.n : Int) + 1) a8 e8) ∧ Below W7.heap.size W7 w') ∧
            ((isSgn y2 40 = true ∧ i8 = ((s.i + 2 : Nat) : Int) ∧ a8 = a ∧ e8 = 0) ∨ (isSgn y2 40 = false ∧ e8 ≠ 0)) := by
          have hwd7 := HW.out.on hF7.1
          cases h : isSgn y2 40
          · exact ⟨_, _, _, sign_no hwd7 hy2 d ((s.n + 1 : Nat) : Int) a 40 h, .inr ⟨rfl, by decide⟩⟩
          · exact ⟨_, _, _, sign_yes hwd7 hy2 HG.out.few d ((s.n + 1 : Nat) : Int) a 40 h, .inl ⟨rfl, rfl, rfl, rfl⟩⟩
        have HSG := Lib.hid hsg
        have H7 := Lib.hid (And.intro z7 (And.intro hO7 (And.intro zx7 (And.intro hF7 (And.intro hor8 (And.intro hk hy2))))))
        have HX6 := Lib.hid hX6
        clear hF zs hsi hn hfn hlf hfg hrow hch hy hwr xf h150 z5 hO5 hF5 hwd5 xaf hk hX6 hb6 zx6 z6 xbf z7 hO7 zx7 hF7 hsg hor8 hy2
        have hwn := HWN.out
        go_upto_region 9 with fail
        rw [HX6.out]
        clear hwn
        have hwi := HWI.out
        go_wp2_with fail
        refine HSG.out.mono ?_
        rintro e w8 ⟨rfl, hb8⟩
        clear hwi
        have z8 := H7.out.1.on hb8
        obtain ⟨⟨xd0, xd1, xd2, xd3, xd4, xd5⟩, xdf, xdl⟩ := z8.cells
        have xdf0 := xdf 0; have xdf1 := xdf 1; have xdf2 := xdf 2; have xdf3 := xdf 3; have xdf4 := xdf 4; have xdf5 := xdf 5
        obtain ⟨W9, hW9⟩ : ∃ W, (((((((w8).setCell ⟨w.heap.size, 0, none⟩ (.slice (some ⟨g, 0, none⟩) ws.length cap)).setCell ⟨w.heap.size, 1, none⟩ (.int .i64 i8)).setCell ⟨w.heap.size, 2, none⟩ (.int .i64 d)).setCell ⟨w.heap.size, 3, none⟩ (.int .i64 ((s.n : Int) + 1))).setCell ⟨w.heap.size, 4, none⟩ (.int .i64 a8)).setCell ⟨w.heap.size, 5, none⟩ (.int .i64 e8)) = W := ⟨_, rfl⟩
        have z9 : SB W9 w.heap.size g ws.length cap i8 d ((s.n : Int) + 1) a8 e8 := by rw [← hW9]; exact six_done z8 (.slice (some ⟨g, 0, none⟩) ws.length cap) (.int .i64 i8) (.int .i64 d) (.int .i64 ((s.n : Int) + 1)) (.int .i64 a8) (.int .i64 e8)
        have hO9 : Only (fun b => b = w.heap.size) W7 W9 := by rw [← hW9]; exact (Only.of_below hb8).trans (only_six (.slice (some ⟨g, 0, none⟩) ws.length cap) (.int .i64 i8) (.int .i64 d) (.int .i64 ((s.n : Int) + 1)) (.int .i64 a8) (.int .i64 e8) w8 rfl)
        obtain ⟨r, hr⟩ : ∃ r, pStep (gx ws) (rArg (gx ws) k (rTrav (gx ws) k)) s = r := ⟨_, rfl⟩
        have zx9 := (hO9.block W5.heap.size (Array.getElem?_eq_some_iff.1 H7.out.2.2.1).1 (by omega)).trans H7.out.2.2.1
        have HIN : Hid (InnL g cap ws k w W9 W5.heap.size y.s r (s.n + 1) d a 14 W9) := Lib.hid (by
          obtain ⟨hsi, hn, -⟩ := HN.out
          obtain ⟨-, -, -, -, hy, -⟩ := HR.out
          obtain ⟨-, -, -, -, hor8, hk, hy2⟩ := H7.out
          refine ⟨Only.refl _ _, none, 0, 0, _, _, _, _, _, zx9, z9, ?_⟩
          rcases hor8 with ⟨h40, rfl, rfl, rfl⟩ | ⟨h40, he⟩
          · refine .inl ⟨rfl, [], ⟨s.i + 2, s.n + 1⟩, 13, rfl, ?_, rfl, rfl, by show s.n + 1 ≤ 150; omega, Nat.le_refl _, rfl, rfl, rfl, by omega, by omega, Row.nil, ?_⟩
            · obtain ⟨y3, hy3⟩ := HG.out.next hy2 (by
                have h := h40
                unfold isSgn at h
                rw [Bool.and_eq_true, decide_eq_true_iff] at h
                rw [h.1]; decide)
              exact (List.getElem?_eq_some_iff.1 hy3).1
            · rw [← hr, pStep_stR (by rw [gx_of hy]; exact hk) (by omega) (by rw [gx_of hy2]; exact h40), gx_of hy]
          · refine .inr ⟨he, ?_⟩
            rw [← hr]
            exact pStep_bad3 (.inr (.inr (by rw [gx_of hy2]; exact h40))))
        have H9 := Lib.hid (And.intro z9 (And.intro hO9 (And.intro zx9 hr)))
        clear hb8 z8 xdf z9 hO9 zx9 hr
        go_upto_block 2 with fail
        go_cut [6] from 45 to 79 (fun _ wx => InnX g cap ws k w W9 W5.heap.size y.s r (s.n + 1) d a wx)
        case first =>
          go_wp2_with fail
          go_loopg [6] 14 (fun gg v wi => v = v ∧ Hid (InnL g cap ws k w W9 W5.heap.size y.s r (s.n + 1) d a gg wi))
          case atStart => exact ⟨rfl, HIN⟩
          case round =>
            obtain ⟨-, HJ⟩ := hrel
            obtain ⟨hO, A1, ln1, c1, i1, d1, m1, a1, e1, zx, zi, hor⟩ := HJ.out
            have hbx : w.heap.size + 2 ≤ W5.heap.size := hlx
            obtain ⟨⟨ya0, ya1, ya2, ya3, ya4, ya5⟩, -, yal⟩ := zi.cells
            obtain ⟨⟨yb0, yb1⟩, -, ybl⟩ := duo_cells zx
            rcases hor with ⟨rfl, l1, s1, f1, rfl, hsi1, rfl, rfl, hn1, hn01, rfl, rfl, hlf1, hf11, hfg1, hrow1, hr1⟩ | ⟨he, hbad⟩
            rotate_left
            · -- an error: the loop ends
              have h1 : (e1 == 0) = false := by simpa using he
              have HQ := Lib.hid (And.intro hO (And.intro zx (And.intro zi (And.intro he hbad))))
              clear hO zx zi he hbad
              go_wp2_with fail
              go_meet
              exact ⟨HQ.out.1, _, _, _, _, _, _, _, _, HQ.out.2.1, HQ.out.2.2.1, .inr ⟨HQ.out.2.2.2.1, HQ.out.2.2.2.2⟩⟩
            · obtain ⟨y1, hy1⟩ : ∃ y, ws[s1.i]? = some y := ⟨_, List.getElem?_eq_getElem hsi1⟩
              have hFi := H7.out.2.2.2.1.only (H9.out.2.1) (fun b h => .inl h)
              have hFr := hFi.only hO (fun b h => h.imp id (fun h' => Nat.le_trans hbx h'))
              have hwdi := HW.out.on hFr.1
              obtain ⟨z, hz⟩ : ∃ z, isSgn y1 41 = z := ⟨_, rfl⟩
              have hcl := is_ok (cap := cap) hwdi hy1 d s1.n a1 41
              rw [hz] at hcl
              have HCL := Lib.hid hcl
              have HQ := Lib.hid (And.intro hO (And.intro zx (And.intro zi (And.intro hrow1 (And.intro hr1 (And.intro hFr hwdi))))))
              have HY := Lib.hid (And.intro hy1 (And.intro hz (And.intro hn1 (And.intro hn01 (And.intro hlf1 (And.intro hf11 hfg1))))))
              have hgk : 1 ≤ gk := by omega
              have hl13 : l1.length ≤ 12 := by omega
              clear hO zx zi hsi1 hn1 hn01 hlf1 hf11 hfg1 hrow1 hr1 hy1 hFi hFr hwdi hz hcl
              cases z
              rotate_left
              · -- closed
                go_wp2_with fail
                refine HCL.out.mono ?_
                rintro e w10 ⟨rfl, hb10⟩
                have HB10 := Lib.hid hb10
                clear hb10
                go_wp2_with fail
                go_meet
                obtain ⟨hO, zx, zi, hrow1, hr1, -, -⟩ := HQ.out
                obtain ⟨hy1, hz, hn1, hn01, -⟩ := HY.out
                refine ⟨hO.trans (Only.of_below HB10.out), _, _, _, _, _, _, _, _, (HB10.out.block _ (Array.getElem?_eq_some_iff.1 zx).1).trans zx, zi.on HB10.out, .inl ⟨rfl, l1, s1, y1, hy1, hz, rfl, rfl, rfl, hn1, hn01, rfl, rfl, ?_, ?_⟩⟩
                · exact (hrow1.all (keepS_Arg (keepS_Tr k))).keep (keepS_Arg (keepS_Tr k)) (fun p hp => World.cell?_of_block (HB10.out.block p.block hp.2)) (fun b hb => ⟨hb.1, Nat.lt_of_lt_of_le hb.2 HB10.out.size⟩)
                · rw [hr1, headB, if_pos (by rw [gx_of hy1]; exact hz)]
                  rfl
              · -- one more
                go_wp2_with fail
                refine HCL.out.mono ?_
                rintro e w1 ⟨rfl, hb1⟩
                have zi1 := HQ.out.2.2.1.on hb1
                have zx1 := (hb1.block _ ybl).trans HQ.out.2.1
                have hwd1 := HQ.out.2.2.2.2.2.2.on hb1
                obtain ⟨⟨yc0, yc1, yc2, yc3, yc4, yc5⟩, -, ycl⟩ := zi1.cells
                obtain ⟨⟨yd0, yd1⟩, -, ydl⟩ := duo_cells zx1
                have H1 := Lib.hid (And.intro zi1 (And.intro zx1 (And.intro hwd1 hb1)))
                clear hb1 zi1 zx1 hwd1
                go_upto_if 56 with fail
                go_cut [6] from 53 to 58 (fun _ wx => Only (fun b => b = w.heap.size) w1 wx ∧ ∃ i2 d2 m2 a2 e2 : Int, SB wx w.heap.size g ws.length cap i2 d2 m2 a2 e2 ∧ ((e2 = 0 ∧ ∃ (j : Nat) (y2 : Wd), i2 = j ∧ d2 = d ∧ m2 = (s1.n : Nat) ∧ a2 = a1 ∧ ws[j]? = some y2 ∧ (l1.length = 0 ∧ j = s1.i ∨ l1.length ≠ 0 ∧ isSgn y1 44 = true ∧ j = s1.i + 1)) ∨ (e2 ≠ 0 ∧ l1.length ≠ 0 ∧ isSgn y1 44 = false)))
                case first =>
                  by_cases hl0 : l1.length = 0
                  · have h1 : ¬ (0 : Int) < (l1.length : Int) := by omega
                    have HL0 := Lib.hid hl0
                    clear hl0
                    go_wp2_with fail
                    go_meet
                    exact ⟨Only.refl _ _, _, _, _, _, _, H1.out.1, .inl ⟨rfl, s1.i, y1, rfl, rfl, rfl, rfl, HY.out.1, .inl ⟨HL0.out, rfl⟩⟩⟩
                  · have h1 : (0 : Int) < (l1.length : Int) := by omega
                    have HL0 := Lib.hid hl0
                    obtain ⟨i3, a3, e3, hsg, hor3⟩ : ∃ i3 a3 e3 : Int, Calls Tryd.prog 27 #[StV g ws.length cap (s1.i : Nat) d (s1.n : Nat) a1 0, .string ⟨#[44]⟩] w1 (fun z w' => z = .returned (StV g ws.length cap i3 d (s1.n : Nat) a3 e3) ∧ Below w1.heap.size w1 w') ∧
                        ((isSgn y1 44 = true ∧ i3 = ((s1.i + 1 : Nat) : Int) ∧ a3 = a1 ∧ e3 = 0) ∨ (isSgn y1 44 = false ∧ e3 ≠ 0)) := by
                      cases h : isSgn y1 44
                      · exact ⟨_, _, _, sign_no H1.out.2.2.1 HY.out.1 d s1.n a1 44 h, .inr ⟨rfl, by decide⟩⟩
                      · exact ⟨_, _, _, sign_yes H1.out.2.2.1 HY.out.1 HG.out.few d s1.n a1 44 h, .inl ⟨rfl, rfl, rfl, rfl⟩⟩
                    have HSG3 := Lib.hid hsg; have HO3 := Lib.hid hor3
                    clear hl0 hsg hor3
                    go_wp2_with fail
                    refine HSG3.out.mono ?_
                    rintro e w2 ⟨rfl, hb2⟩
                    have z2 := H1.out.1.on hb2
                    obtain ⟨⟨ye0, ye1, ye2, ye3, ye4, ye5⟩, yef, yel⟩ := z2.cells
                    have yef0 := yef 0; have yef1 := yef 1; have yef2 := yef 2; have yef3 := yef 3; have yef4 := yef 4; have yef5 := yef 5
                    have HZ2 := Lib.hid (And.intro z2 hb2)
                    clear z2 hb2 yef
                    go_wp2_with fail
                    go_meet
                    refine ⟨(Only.of_below HZ2.out.2).trans (only_six _ _ _ _ _ _ _ rfl), _, _, _, _, _, six_done HZ2.out.1 _ _ _ _ _ _, ?_⟩
                    rcases HO3.out with ⟨h44, rfl, rfl, rfl⟩ | ⟨h44, he⟩
                    · obtain ⟨y2, hy2⟩ := HG.out.next HY.out.1 (by
                        have h := h44
                        unfold isSgn at h
                        rw [Bool.and_eq_true, decide_eq_true_iff] at h
                        rw [h.1]; decide)
                      exact .inl ⟨rfl, s1.i + 1, y2, rfl, rfl, rfl, rfl, hy2, .inr ⟨HL0.out, h44, rfl⟩⟩
                    · exact .inr ⟨he, HL0.out, h44⟩
                case rest =>
                  obtain ⟨hO2, i2, d2, m2, a2, e2, z2, hor2⟩ := hcut
                  rename World => w2
                  have hO12 : Only (fun b => b = w.heap.size ∨ W5.heap.size ≤ b) W9 w2 := (HQ.out.1.trans (Only.of_below H1.out.2.2.2)).trans (hO2.mono (fun _ _ h => .inl h))
                  have zx2 := (hO2.block W5.heap.size (Array.getElem?_eq_some_iff.1 H1.out.2.1).1 (by omega)).trans H1.out.2.1
                  have hrow2 : Row (RdArg (RdTr k)) 40 11 (W5.heap.size + 1) w2 l1 (.slice A1 l1.length c1) := HQ.out.2.2.2.1.kept (keepS_Arg (keepS_Tr k)) (Nat.le_trans H1.out.2.2.2.size hO2.size) (fun b h1 h2 => (hO2.block b (Nat.lt_of_lt_of_le h2 H1.out.2.2.2.size) (by omega)).trans (H1.out.2.2.2.block b h2))
                  have hF2 := (HQ.out.2.2.2.2.2.1.on H1.out.2.2.2).only hO2 (fun b h => .inl h)
                  have hwd2 := HW.out.on hF2.1
                  obtain ⟨⟨yf0, yf1, yf2, yf3, yf4, yf5⟩, yff, yfl⟩ := z2.cells
                  have yff0 := yff 0; have yff1 := yff 1; have yff2 := yff 2; have yff3 := yff 3; have yff4 := yff 4; have yff5 := yff 5
                  obtain ⟨⟨yg0, yg1⟩, -, ygl⟩ := duo_cells zx2
                  have H2 := Lib.hid (And.intro z2 (And.intro hO12 (And.intro zx2 (And.intro hrow2 hwd2))))
                  clear z2 hO12 zx2 hrow2 hF2 hwd2 hO2 yff ya0 ya1 ya2 ya3 ya4 ya5 yal yb0 yb1 ybl yc0 yc1 yc2 yc3 yc4 yc5 ycl yd0 yd1 ydl
                  rcases hor2 with ⟨rfl, j, y2, rfl, rfl, rfl, rfl, hy2, hj⟩ | ⟨he2, hl0, h44⟩
                  rotate_left
                  · -- no comma
                    have hbd : ∃ j c, r = .bad j c := by
                      rw [HQ.out.2.2.2.2.1]
                      exact stR_bad (headB_no (by rw [gx_of HY.out.1]; exact HY.out.2.1) hl0 (by rw [gx_of HY.out.1]; exact h44))
                    have HBD := Lib.hid (And.intro he2 hbd)
                    have h1 : (e2 == 0) = false := by simpa using he2
                    have HF3 := Lib.hid (fail_er g ws.length cap i2 d2 m2 a2 e2 3 he2 w2)
                    clear he2 hbd hl0 h44
                    by_cases h12 : l1.length = 12
                    · have h2 : (12 : Int) ≤ (l1.length : Int) := by omega
                      clear h12
                      go_wp2_with fail
                      refine HF3.out.mono ?_
                      rintro e w3 ⟨rfl, hb3⟩
                      have z3 := H2.out.1.on hb3
                      obtain ⟨⟨ye0, ye1, ye2, ye3, ye4, ye5⟩, yef, yel⟩ := z3.cells
                      have yef0 := yef 0; have yef1 := yef 1; have yef2 := yef 2; have yef3 := yef 3; have yef4 := yef 4; have yef5 := yef 5
                      obtain ⟨W4, hW4⟩ : ∃ W, (((((((w3).setCell ⟨w.heap.size, 0, none⟩ (.slice (some ⟨g, 0, none⟩) ws.length cap)).setCell ⟨w.heap.size, 1, none⟩ (.int .i64 i2)).setCell ⟨w.heap.size, 2, none⟩ (.int .i64 d2)).setCell ⟨w.heap.size, 3, none⟩ (.int .i64 m2)).setCell ⟨w.heap.size, 4, none⟩ (.int .i64 a2)).setCell ⟨w.heap.size, 5, none⟩ (.int .i64 e2)) = W := ⟨_, rfl⟩
                      have z4 : SB W4 w.heap.size g ws.length cap i2 d2 m2 a2 e2 := by rw [← hW4]; exact six_done z3 (.slice (some ⟨g, 0, none⟩) ws.length cap) (.int .i64 i2) (.int .i64 d2) (.int .i64 m2) (.int .i64 a2) (.int .i64 e2)
                      have hO4 : Only (fun b => b = w.heap.size) w2 W4 := by rw [← hW4]; exact (Only.of_below hb3).trans (only_six (.slice (some ⟨g, 0, none⟩) ws.length cap) (.int .i64 i2) (.int .i64 d2) (.int .i64 m2) (.int .i64 a2) (.int .i64 e2) w3 rfl)
                      obtain ⟨⟨yk0, yk1, yk2, yk3, yk4, yk5⟩, -, ykl⟩ := z4.cells
                      have H4 := Lib.hid (And.intro z4 hO4)
                      clear hb3 z3 yef z4 hO4
                      go_wp2_with fail
                      go_roundg 0
                      case measure => exact hgk
                      case rel => exact ⟨trivial, Lib.hid ⟨H2.out.2.1.trans (H4.out.2.mono (fun _ _ h => .inl h)), _, _, _, _, _, _, _, _, (H4.out.2.block W5.heap.size (Array.getElem?_eq_some_iff.1 H2.out.2.2.1).1 (by omega)).trans H2.out.2.2.1, H4.out.1, .inr HBD.out⟩⟩
                    · have h2 : ¬ (12 : Int) ≤ (l1.length : Int) := by omega
                      clear h12
                      go_wp2_with fail
                      go_roundg 0
                      case measure => exact hgk
                      case rel => exact ⟨trivial, Lib.hid ⟨H2.out.2.1, _, _, _, _, _, _, _, _, H2.out.2.2.1, H2.out.1, .inr HBD.out⟩⟩
                  · have hhd : headB (gx ws) 41 argA (rArg (gx ws) k (rTrav (gx ws) k)) f1 l1 s1 = sevL (gx ws) 41 argA (fun _ => (rArg (gx ws) k (rTrav (gx ws) k))) f1 l1 ⟨j, s1.n⟩ := headB_go (by rw [gx_of HY.out.1]; exact HY.out.2.1) (by rw [gx_of HY.out.1]; exact hj)
                    by_cases h12 : l1.length = 12
                    · -- too many
                      have h2 : (12 : Int) ≤ (l1.length : Int) := by omega
                      have hbd : ∃ j c, r = .bad j c := by
                        rw [HQ.out.2.2.2.2.1]
                        refine stR_bad ?_
                        rw [hhd]
                        exact sevL_full h12
                      have HBD := Lib.hid hbd
                      have HF3 := Lib.hid (fail_ok (cap := cap) H2.out.2.2.2.2 hy2 d s1.n a2 3)
                      clear hbd h12 hhd hj hy2
                      go_wp2_with fail
                      refine HF3.out.mono ?_
                      rintro e w3 ⟨rfl, hb3⟩
                      have z3 := H2.out.1.on hb3
                      obtain ⟨⟨ye0, ye1, ye2, ye3, ye4, ye5⟩, yef, yel⟩ := z3.cells
                      have yef0 := yef 0; have yef1 := yef 1; have yef2 := yef 2; have yef3 := yef 3; have yef4 := yef 4; have yef5 := yef 5
                      obtain ⟨W4, hW4⟩ : ∃ W, (((((((w3).setCell ⟨w.heap.size, 0, none⟩ (.slice (some ⟨g, 0, none⟩) ws.length cap)).setCell ⟨w.heap.size, 1, none⟩ (.int .i64 j)).setCell ⟨w.heap.size, 2, none⟩ (.int .i64 d)).setCell ⟨w.heap.size, 3, none⟩ (.int .i64 s1.n)).setCell ⟨w.heap.size, 4, none⟩ (.int .i64 (y2.at_ : Nat))).setCell ⟨w.heap.size, 5, none⟩ (.int .i64 3)) = W := ⟨_, rfl⟩
                      have z4 : SB W4 w.heap.size g ws.length cap j d s1.n (y2.at_ : Nat) 3 := by rw [← hW4]; exact six_done z3 (.slice (some ⟨g, 0, none⟩) ws.length cap) (.int .i64 j) (.int .i64 d) (.int .i64 s1.n) (.int .i64 (y2.at_ : Nat)) (.int .i64 3)
                      have hO4 : Only (fun b => b = w.heap.size) w2 W4 := by rw [← hW4]; exact (Only.of_below hb3).trans (only_six (.slice (some ⟨g, 0, none⟩) ws.length cap) (.int .i64 j) (.int .i64 d) (.int .i64 s1.n) (.int .i64 (y2.at_ : Nat)) (.int .i64 3) w3 rfl)
                      obtain ⟨⟨yk0, yk1, yk2, yk3, yk4, yk5⟩, -, ykl⟩ := z4.cells
                      have H4 := Lib.hid (And.intro z4 hO4)
                      clear hb3 z3 yef z4 hO4
                      go_wp2_with fail
                      go_roundg 0
                      case measure => exact hgk
                      case rel => exact ⟨trivial, Lib.hid ⟨H2.out.2.1.trans (H4.out.2.mono (fun _ _ h => .inl h)), _, _, _, _, _, _, _, _, (H4.out.2.block W5.heap.size (Array.getElem?_eq_some_iff.1 H2.out.2.2.1).1 (by omega)).trans H2.out.2.2.1, H4.out.1, .inr ⟨by decide, HBD.out⟩⟩⟩
                    · -- an argument
                      have h2 : ¬ (12 : Int) ≤ (l1.length : Int) := by omega
                      have HD := Lib.hid (And.intro h12 (And.intro hhd hy2))
                      have hag := HAr.out w2 j d s1.n a2 y2 H2.out.2.2.2.2 hy2 HDK.out HY.out.2.2.1
                      have HAG := Lib.hid hag
                      clear h12 hhd hj hy2 hag
                      go_wp2_with fail
                      refine HAG.out.mono ?_
                      rintro e w3 ⟨i3, d3, m3, a3, e3, ak, kk, bb, nn, ff, ss, lA, ll, lc, op, oA, ol, oc, kA, kl, kc, tA, tl, tc, rfl, hb3, hor3⟩
                      have z3 := H2.out.1.on hb3
                      have zx3 := (hb3.block _ ygl).trans H2.out.2.2.1
                      obtain ⟨X4, hX4⟩ : ∃ X, (w3.alloc (.cells #[.slice (some ⟨g, 0, none⟩) ws.length cap, .int .i64 i3, .int .i64 d3, .int .i64 m3, .int .i64 a3, .int .i64 e3] 63)).alloc (.cells #[.int .i64 ak, .int .i64 kk, .bool bb, .int .i64 nn, .float .f64 ff, .string ss, .slice lA ll lc, .string op, .slice oA ol oc, .slice kA kl kc, .slice tA tl tc] 40) = X := ⟨_, rfl⟩
                      have hb4 : Below w3.heap.size w3 X4 := hX4 ▸ ((Below.refl _ w3).alloc (Nat.le_refl _) _).alloc (by simp) _
                      have z6a : X4.heap[w3.heap.size]? = some (.cells #[.slice (some ⟨g, 0, none⟩) ws.length cap, .int .i64 i3, .int .i64 d3, .int .i64 m3, .int .i64 a3, .int .i64 e3] 63 (0, 0)) := hX4 ▸ two_a' w3 _ _
                      have z6b : X4.heap[w3.heap.size + 1]? = some (.cells #[.int .i64 ak, .int .i64 kk, .bool bb, .int .i64 nn, .float .f64 ff, .string ss, .slice lA ll lc, .string op, .slice oA ol oc, .slice kA kl kc, .slice tA tl tc] 40 (0, 0)) := hX4 ▸ two_b' w3 _ _
                      have z4 := z3.on hb4
                      have zx4 := (hb4.block _ (Array.getElem?_eq_some_iff.1 zx3).1).trans zx3
                      have hs4 : W5.heap.size < w3.heap.size := (Array.getElem?_eq_some_iff.1 zx3).1
                      have hs23 : w2.heap.size ≤ w3.heap.size := hb3.size
                      have hO4 : Only (fun b => b = w.heap.size ∨ W5.heap.size ≤ b) W9 X4 := (H2.out.2.1.trans (Only.of_below hb3)).trans (Only.of_below hb4)
                      obtain ⟨ot, hot, hno⟩ : ∃ ot : Option Ag, (∀ t, ot = some t → RdArg (RdTr k) w3 (fun b => w2.heap.size ≤ b ∧ b < w3.heap.size) t (.agg #[.int .i64 ak, .int .i64 kk, .bool bb, .int .i64 nn, .float .f64 ff, .string ss, .slice lA ll lc, .string op, .slice oA ol oc, .slice kA kl kc, .slice tA tl tc])) ∧ ∀ (W : World) (A' : Option Addr) (c' : Nat), Only (fun b => b = w.heap.size ∨ W5.heap.size ≤ b) W9 W → W.heap[W5.heap.size]? = some (.cells #[.string y.s, .slice A' (l1.length + 1) c'] 35 (0, 0)) → SB W w.heap.size g ws.length cap i3 d3 m3 a3 e3 →
                          (∀ t, ot = some t → Row (RdArg (RdTr k)) 40 11 (W5.heap.size + 1) W (l1 ++ [t]) (.slice A' (l1.length + 1) c')) → InnL g cap ws k w W9 W5.heap.size y.s r (s.n + 1) d a2 (f1 - 1) W := by
                        obtain ⟨h12, hhd, hy2⟩ := HD.out
                        obtain ⟨-, -, hn1, hn01, hlf1, hf11, hfg1⟩ := HY.out
                        obtain ⟨q, rfl⟩ : ∃ q, f1 = q + 1 := ⟨f1 - 1, by omega⟩
                        rcases hor3 with ⟨t, s', hra, rfl, hlt, rfl, rfl, rfl, rfl, hrd⟩ | ⟨⟨jj, cc, hra⟩, he⟩
                        · refine ⟨some t, fun t' h => (by cases h; exact hrd), fun W A' c' h1 h2 h3 h4 => ⟨h1, _, _, _, _, _, _, _, _, h2, h3, .inl ⟨rfl, l1 ++ [t], s', q, rfl, hlt, rfl, rfl, ?_, ?_, rfl, by simp, by simp; omega, by omega, by omega, h4 t rfl, ?_⟩⟩⟩
                          · exact (rArg_up (fun s x s' => rTrav_up k s x s') _ _ _ hra).2 hn1
                          · exact Nat.le_trans hn01 (rArg_up (fun s x s' => rTrav_up k s x s') _ _ _ hra).1
                          · rw [HQ.out.2.2.2.2.1, hhd, sevL_headB (rArg_ok hra) h12 hra]
                        · refine ⟨none, fun t' h => (by cases h), fun W A' c' h1 h2 h3 h4 => ⟨h1, _, _, _, _, _, _, _, _, h2, h3, .inr ⟨he, ?_⟩⟩⟩
                          rw [HQ.out.2.2.2.2.1, hhd]
                          exact stR_bad (sevL_none h12 hra)
                      obtain ⟨A8, c8, w8, hr8, hb8, hk8, hw8⟩ := inn_app (Y := X4) ot H2.out.2.2.2.1 (fun b h1 h2 => hb4.block b h2) hb3 hb4.size ygl (by omega) hot
                      obtain ⟨X5, hX5⟩ : ∃ X, (((((((X4).setCell ⟨w.heap.size, 0, none⟩ (.slice (some ⟨g, 0, none⟩) ws.length cap)).setCell ⟨w.heap.size, 1, none⟩ (.int .i64 i3)).setCell ⟨w.heap.size, 2, none⟩ (.int .i64 d3)).setCell ⟨w.heap.size, 3, none⟩ (.int .i64 m3)).setCell ⟨w.heap.size, 4, none⟩ (.int .i64 a3)).setCell ⟨w.heap.size, 5, none⟩ (.int .i64 e3)) = X := ⟨_, rfl⟩
                      have hO5 : Only (fun b => b = w.heap.size) X4 X5 := by rw [← hX5]; exact only_six (.slice (some ⟨g, 0, none⟩) ws.length cap) (.int .i64 i3) (.int .i64 d3) (.int .i64 m3) (.int .i64 a3) (.int .i64 e3) X4 rfl
                      have z5 : SB X5 w.heap.size g ws.length cap i3 d3 m3 a3 e3 := by rw [← hX5]; exact six_done z4 (.slice (some ⟨g, 0, none⟩) ws.length cap) (.int .i64 i3) (.int .i64 d3) (.int .i64 m3) (.int .i64 a3) (.int .i64 e3)
                      have zx5 := (hO5.block W5.heap.size (Array.getElem?_eq_some_iff.1 zx4).1 (by omega)).trans zx4
                      obtain ⟨A9, c9, w9, hr9, hb9, hk9, hw9⟩ := inn_app (Y := X5) ot H2.out.2.2.2.1 (fun b h1 h2 => (hO5.block b (Nat.lt_of_lt_of_le h2 hb4.size) (by omega)).trans (hb4.block b h2)) hb3 (Nat.le_trans hb4.size hO5.size) ygl (by omega) hot
                      have hO8 : Only (fun b => b = w.heap.size ∨ W5.heap.size ≤ b) W9 w8 := ((hO4.alloc _).drew).under hb8 (fun b hb => by
                        have h1 : ¬ W5.heap.size ≤ b := fun h => hb (.inr h)
                        omega)
                      have hO9 : Only (fun b => b = w.heap.size ∨ W5.heap.size ≤ b) W9 w9 := (((hO4.trans (hO5.mono (fun _ _ h => .inl h))).alloc _).drew).under hb9 (fun b hb => by
                        have h1 : ¬ W5.heap.size ≤ b := fun h => hb (.inr h)
                        omega)
                      have z8 : SB w8 w.heap.size g ws.length cap j d s1.n a2 0 := (hb8.block w.heap.size (by omega)).trans (keepA z4 _)
                      have zx8 := (hb8.block W5.heap.size (by omega)).trans (keepA zx4 (.cells #[.int .i64 ak, .int .i64 kk, .bool bb, .int .i64 nn, .float .f64 ff, .string ss, .slice lA ll lc, .string op, .slice oA ol oc, .slice kA kl kc, .slice tA tl tc] 40))
                      have z9' : SB w9 w.heap.size g ws.length cap i3 d3 m3 a3 e3 := (hb9.block w.heap.size (by omega)).trans (keepA z5 _)
                      have zx9' := (hb9.block W5.heap.size (by omega)).trans (keepA zx5 (.cells #[.int .i64 ak, .int .i64 kk, .bool bb, .int .i64 nn, .float .f64 ff, .string ss, .slice lA ll lc, .string op, .slice oA ol oc, .slice kA kl kc, .slice tA tl tc] 40))
                      have z68 := (hk8 w3.heap.size hs23 (by have := hb4.size; have := (Array.getElem?_eq_some_iff.1 z6a).1; omega)).trans (keepA z6a _)
                      obtain ⟨⟨pk0, pk1, pk2, pk3, pk4, pk5⟩, -, pkl⟩ := six_cells z68
                      obtain ⟨⟨pa0, pa1, pa2, pa3, pa4, pa5⟩, paf, pal⟩ := z4.cells
                      have paf0 := paf 0; have paf1 := paf 1; have paf2 := paf 2; have paf3 := paf 3; have paf4 := paf 4; have paf5 := paf 5
                      obtain ⟨⟨pb0, pb1⟩, ⟨pbf0, pbf1⟩, pbl⟩ := duo_cells zx4
                      obtain ⟨⟨pc0, pc1, pc2, pc3, pc4, pc5⟩, -, pcl⟩ := six_cells z6a
                      obtain ⟨⟨pd0, pd1, pd2, pd3, pd4, pd5, pd6, pd7, pd8, pd9, pd10⟩, -, pdl⟩ := ele_cells z6b
                      obtain ⟨⟨pe0, pe1, pe2, pe3, pe4, pe5⟩, pef, pel⟩ := z8.cells
                      have pef0 := pef 0; have pef1 := pef 1; have pef2 := pef 2; have pef3 := pef 3; have pef4 := pef 4; have pef5 := pef 5
                      obtain ⟨⟨pg0, pg1⟩, ⟨pgf0, pgf1⟩, pgl⟩ := duo_cells zx8
                      obtain ⟨⟨ph0, ph1, ph2, ph3, ph4, ph5⟩, -, phl⟩ := z5.cells
                      obtain ⟨⟨pi0, pi1⟩, ⟨pif0, pif1⟩, pil⟩ := duo_cells zx5
                      obtain ⟨⟨pj0, pj1⟩, ⟨pjf0, pjf1⟩, pjl⟩ := duo_cells zx9'
                      have HE := Lib.hid (And.intro hno (And.intro hO8 (And.intro z8 (And.intro zx8 hw8))))
                      have HE9 := Lib.hid (And.intro hO9 (And.intro z9' (And.intro zx9' hw9)))
                      have HR8 := Lib.hid hr8; have HR9 := Lib.hid hr9
                      have hf1 : f1 - 1 < gk := by have := HY.out.2.2.2.2.2.1; have := HY.out.2.2.2.2.2.2; omega
                      clear z68 hk8 hk9 hs23 hb3 hor3 z3 zx3 hb4 z6a z6b z4 zx4 hO4 hot hno hr8 hb8 hw8 hO5 z5 zx5 hr9 hb9 hw9 hO8 hO9 z8 zx8 z9' zx9' paf pef
                      go_wp2_with fail
                      have mixed : Tryd.prog.follows Departure.mixedOrders = true := by kernel_rfl
                      go_region_law_o (first
                        | (with_reducible refine step_append_runS rfl _ _ 33 33 rfl _ _ (by simp [Act.eval]) (by simp [Act.eval]) HR8.out ?_)
                        | (with_reducible refine step_append_runS rfl _ _ 33 33 rfl _ _ (by simp [Act.eval]) (by simp [Act.eval]) HR9.out ?_)
                        | fail)
                      all_goals
                        go_wp2_with fail
                        go_roundg (f1 - 1)
                        case measure => exact hf1
                        case rel =>
                          refine ⟨trivial, Lib.hid ?_⟩
                          first
                            | exact inn_fin_a HE.out.1 HE.out.2.1 HE.out.2.2.1 HE.out.2.2.2.1 HE.out.2.2.2.2 hlx
                            | exact inn_fin_b HE.out.1 HE.out.2.1 HE.out.2.2.1 HE.out.2.2.2.1 HE.out.2.2.2.2 hlx
                            | exact inn_fin_c HE.out.1 HE9.out.1 HE9.out.2.1 HE9.out.2.2.1 HE9.out.2.2.2 hlx
                            | fail "FIN"
        case rest =>
          obtain ⟨hO10, A1, ln1, c1, i1, d1, m1, a1, e1, zx10, z10, hor10⟩ := hcut
          rename World => w10
          have hF10 := (H7.out.2.2.2.1.only H9.out.2.1 (fun b h => .inl h)).only hO10 (fun b h => h.imp id (fun h' => Nat.le_trans hlx h'))
          have hwd10 := HW.out.on hF10.1
          obtain ⟨i9, a9, e9, hsg, hor9⟩ : ∃ i9 a9 e9 : Int, Calls Tryd.prog 27 #[StV g ws.length cap i1 d1 m1 a1 e1, .string ⟨#[41]⟩] w10 (fun z w' => z = .returned (StV g ws.length cap i9 d1 m1 a9 e9) ∧ Below w10.heap.size w10 w') ∧
              ((e9 = 0 ∧ ∃ (l1 : List Ag) (s1 : Ps), i9 = (s1.i : Nat) ∧ s1.i < ws.length ∧ d1 = d ∧ m1 = (s1.n : Nat) ∧ s1.n ≤ 150 ∧ s.n + 1 ≤ s1.n ∧ a9 = a ∧ ln1 = l1.length ∧ LstS (RdArg (RdTr k)) 11 w10 (fun b => W5.heap.size + 1 ≤ b ∧ b < w10.heap.size) l1 (.slice A1 ln1 c1) ∧ r = .ok (.mk y.s l1) s1) ∨ (e9 ≠ 0 ∧ ∃ j c, r = .bad j c)) := by
            rcases hor10 with ⟨rfl, l1, s1, x1, hx1, h41, rfl, rfl, rfl, hn1, hn01, rfl, rfl, hls, hr⟩ | ⟨he, hbad⟩
            · obtain ⟨x2, hx2⟩ := HG.out.next hx1 (by
                have h := h41
                unfold isSgn at h
                rw [Bool.and_eq_true, decide_eq_true_iff] at h
                rw [h.1]; decide)
              exact ⟨_, _, _, sign_yes hwd10 hx1 HG.out.few d s1.n a1 41 h41, .inl ⟨rfl, l1, ⟨s1.i + 1, s1.n⟩, rfl, (List.getElem?_eq_some_iff.1 hx2).1, rfl, rfl, hn1, hn01, rfl, rfl, hls, hr⟩⟩
            · exact ⟨_, _, _, sign_er g ws.length cap i1 d1 m1 a1 e1 he _ w10, .inr ⟨he, hbad⟩⟩
          have HSG9 := Lib.hid hsg
          clear xa0 xa1 xa2 xa3 xa4 xa5 xal xb0 xb1 xb2 xb3 xb4 xb5 xbl xbf1 xc0 xc1 xc2 xc3 xc4 xc5 xcl xd0 xd1 xd2 xd3 xd4 xd5 xdl xdf0 xdf1 xdf2 xdf3 xdf4 xdf5 x0 x1 x2 x3 x4 x5 xl xf3 u0 u1 v0 v1
          obtain ⟨⟨qa0, qa1, qa2, qa3, qa4, qa5⟩, -, qal⟩ := z10.cells
          have H10 := Lib.hid (And.intro z10 (And.intro zx10 (And.intro hF10 (And.intro hO10 (And.intro hor9 hwd10)))))
          clear hO10 zx10 z10 hF10 hwd10 hsg hor9 hor10
          go_wp2_with fail
          refine HSG9.out.mono ?_
          rintro e w11 ⟨rfl, hb11⟩
          have z11 := H10.out.1.on hb11
          obtain ⟨⟨qc0, qc1, qc2, qc3, qc4, qc5⟩, qcf, qcl⟩ := z11.cells
          have qcf0 := qcf 0; have qcf1 := qcf 1; have qcf2 := qcf 2; have qcf3 := qcf 3; have qcf4 := qcf 4; have qcf5 := qcf 5
          obtain ⟨W12, hW12⟩ : ∃ W, (((((((w11).setCell ⟨w.heap.size, 0, none⟩ (.slice (some ⟨g, 0, none⟩) ws.length cap)).setCell ⟨w.heap.size, 1, none⟩ (.int .i64 i9)).setCell ⟨w.heap.size, 2, none⟩ (.int .i64 d1)).setCell ⟨w.heap.size, 3, none⟩ (.int .i64 m1)).setCell ⟨w.heap.size, 4, none⟩ (.int .i64 a9)).setCell ⟨w.heap.size, 5, none⟩ (.int .i64 e9)) = W := ⟨_, rfl⟩
          have z12 : SB W12 w.heap.size g ws.length cap i9 d1 m1 a9 e9 := by rw [← hW12]; exact six_done z11 (.slice (some ⟨g, 0, none⟩) ws.length cap) (.int .i64 i9) (.int .i64 d1) (.int .i64 m1) (.int .i64 a9) (.int .i64 e9)
          have hO12 : Only (fun b => b = w.heap.size) w10 W12 := by rw [← hW12]; exact (Only.of_below hb11).trans (only_six (.slice (some ⟨g, 0, none⟩) ws.length cap) (.int .i64 i9) (.int .i64 d1) (.int .i64 m1) (.int .i64 a9) (.int .i64 e9) w11 rfl)
          have zx12 := (hO12.block W5.heap.size (Array.getElem?_eq_some_iff.1 H10.out.2.1).1 (by omega)).trans H10.out.2.1
          have hF12 := H10.out.2.2.1.only hO12 (fun b h => .inl h)
          obtain ⟨⟨qd0, qd1⟩, -, qdl⟩ := duo_cells zx12
          obtain ⟨ot, hot, hno⟩ : ∃ ot : Option Sp, (∀ x, ot = some x → RdStp (RdTr k) W12 (fun b => W5.heap.size + 1 ≤ b ∧ b < W12.heap.size) x (.agg #[.string y.s, .slice A1 ln1 c1])) ∧ ((e9 = 0 ∧ ∃ (x : Sp) (s1 : Ps), ot = some x ∧ i9 = (s1.i : Nat) ∧ s1.i < ws.length ∧ d1 = d ∧ m1 = (s1.n : Nat) ∧ s1.n ≤ 150 ∧ s.n + 1 ≤ s1.n ∧ a9 = a ∧ r = .ok x s1) ∨ (e9 ≠ 0 ∧ ∃ j c, r = .bad j c)) := by
            rcases H10.out.2.2.2.2.1 with ⟨he, l1, s1, q1, q2, q3, q4, q5, q6, q7, q8, hls, hr⟩ | h
            · exact ⟨some (.mk y.s l1), fun x h => (by cases h; exact ⟨_, rfl, hls.keep (keepS_Arg (keepS_Tr k)) (fun p hp => World.cell?_of_block (hO12.block p.block hp.2 (by have := hp.1; omega))) (fun b hb => ⟨hb.1, Nat.lt_of_lt_of_le hb.2 hO12.size⟩)⟩), .inl ⟨he, _, s1, rfl, q1, q2, q3, q4, q5, q6, q7, hr⟩⟩
            · exact ⟨none, fun x h => (by cases h), .inr h⟩
          have hsz5 := H5.out.2.1.size
          have hbk : ∀ b, w.heap.size + 2 ≤ b → b < _ → W12.heap[b]? = _ := fun b h1 h2 =>
            (hO12.block b (Nat.lt_of_lt_of_le h2 (Nat.le_trans hsz5 (Nat.le_trans H7.out.2.1.size (Nat.le_trans H9.out.2.1.size H10.out.2.2.2.1.size)))) (by omega)).trans
            ((H10.out.2.2.2.1.block b (Nat.lt_of_lt_of_le h2 (Nat.le_trans hsz5 (Nat.le_trans H7.out.2.1.size H9.out.2.1.size))) (fun h => by rcases h with h | h <;> omega)).trans
            ((H9.out.2.1.block b (Nat.lt_of_lt_of_le h2 (Nat.le_trans hsz5 H7.out.2.1.size)) (by omega)).trans
            ((H7.out.2.1.block b (Nat.lt_of_lt_of_le h2 hsz5) (by omega)).trans
            (H5.out.2.1.block b h2 (by omega)))))
          obtain ⟨A', c', w14, hr14, hb14, hw14⟩ := out_app ot HR.out.2.2.1 hbk (Nat.le_trans hsz5 (Nat.le_trans H7.out.2.1.size (Nat.le_trans H9.out.2.1.size (Nat.le_trans H10.out.2.2.2.1.size hO12.size)))) hsz5 hszr (by have := HN.out.2.2.2.1; omega) hot
          have hs12 : w.heap.size + 2 ≤ W12.heap.size := hF12.2.2
          have z14 : SB w14 w.heap.size g ws.length cap i9 d1 m1 a9 e9 := (hb14.block w.heap.size (by omega)).trans (keepA z12 _)
          have hF14 : Fr2 w w14 := by
            obtain ⟨f1, f2, f3⟩ := hF12
            have ha : Below w.heap.size w (W12.alloc (.cells #[.string y.s, .slice A1 ln1 c1] 35)) := f1.alloc f1.size _
            refine ⟨⟨hb14.os.trans ha.os, hb14.tape.trans ha.tape, hb14.output.trans ha.output, Nat.le_trans ha.size hb14.size, fun b hb => (hb14.block b (by omega)).trans (ha.block b hb)⟩, (hb14.block (w.heap.size + 1) (by omega)).trans (keepA f2 _), Nat.le_trans (by rw [World.size_alloc]; omega) hb14.size⟩
          have hwd14 := HW.out.on hF14.1
          obtain ⟨z, hcl, hz⟩ : ∃ z, Calls Tryd.prog 45 #[StV g ws.length cap i9 d1 m1 a9 e9, .string ⟨#[46]⟩] w14 (fun e w' => e = .returned (.bool z) ∧ Below w14.heap.size w14 w') ∧ ((z = true ∧ ∃ (x : Sp) (s1 : Ps), e9 = 0 ∧ ot = some x ∧ i9 = (s1.i : Nat) ∧ s1.i + 1 < ws.length ∧ d1 = d ∧ m1 = (s1.n : Nat) ∧ s1.n ≤ 150 ∧ s.n + 1 ≤ s1.n ∧ a9 = a ∧ r = .ok x s1 ∧ isSgn (gx ws s1.i) 46 = true) ∨
              (z = false ∧ ((e9 = 0 ∧ ∃ (x : Sp) (s1 : Ps), ot = some x ∧ i9 = (s1.i : Nat) ∧ s1.i < ws.length ∧ m1 = (s1.n : Nat) ∧ a9 = a ∧ r = .ok x s1 ∧ isSgn (gx ws s1.i) 46 = false) ∨ (e9 ≠ 0 ∧ ∃ j c, r = .bad j c)))) := by
            rcases hno with ⟨rfl, x, s1, q0, rfl, hlt, q3, q4, q5, q6, q7, hr⟩ | ⟨he, hbad⟩
            · obtain ⟨y3, hy3⟩ : ∃ y3, ws[s1.i]? = some y3 := ⟨_, List.getElem?_eq_getElem hlt⟩
              have hc := is_ok (cap := cap) hwd14 hy3 d1 m1 a9 46
              have hg : isSgn (gx ws s1.i) 46 = isSgn y3 46 := by rw [gx_of hy3]; rfl
              cases h : isSgn y3 46
              · rw [h] at hc hg
                exact ⟨false, hc, .inr ⟨rfl, .inl ⟨rfl, x, s1, q0, rfl, hlt, q4, q7, hr, hg⟩⟩⟩
              · rw [h] at hc hg
                obtain ⟨y4, hy4⟩ := HG.out.next hy3 (by
                  unfold isSgn at h
                  rw [Bool.and_eq_true, decide_eq_true_iff] at h
                  rw [h.1]; decide)
                exact ⟨true, hc, .inl ⟨rfl, x, s1, rfl, q0, rfl, (List.getElem?_eq_some_iff.1 hy4).1, q3, q4, q5, q6, q7, hr, hg⟩⟩
            · exact ⟨false, is_er g ws.length cap i9 d1 m1 a9 e9 he _ w14, .inr ⟨rfl, .inr ⟨he, hbad⟩⟩⟩
          obtain ⟨⟨qe0, qe1, qe2, qe3, qe4, qe5⟩, -, qel⟩ := z14.cells
          have HRun := Lib.hid hr14; have HCL := Lib.hid hcl
          have H14 := Lib.hid (And.intro z14 (And.intro hF14 hw14))
          clear hb11 z11 qcf z12 hO12 zx12 hF12 hot hno hsz5 hbk hr14 hb14 hw14 z14 hF14 hwd14 hcl hs12
          rcases hz with ⟨rfl, hz⟩ | ⟨rfl, hz⟩
          · -- a point
            have HZ := Lib.hid hz
            have HW9 : Hid (wrap64 (i9 + 1) = i9 + 1) := Lib.hid (by
              obtain ⟨x, s1, -, -, h1, h2, -⟩ := hz
              have := HG.out.few
              rw [wrap64_id (is64_iff.2 (by omega))])
            clear hz
            have hw9 := HW9.out
            go_wp2_with (at_builtin; refine Lib.wpList_append_run_sl _ rfl _ _ 30 rfl _ _ rfl rfl HRun.out ?_)
            refine HCL.out.mono ?_
            rintro e w15 ⟨rfl, hb15⟩
            have z15 := H14.out.1.on hb15
            obtain ⟨⟨qf0, qf1, qf2, qf3, qf4, qf5⟩, qff, qfl⟩ := z15.cells
            have qff1 := qff 1
            obtain ⟨W16, hW16⟩ : ∃ W, w15.setCell ⟨w.heap.size, 1, none⟩ (.int .i64 (i9 + 1)) = W := ⟨_, rfl⟩
            have z16 : SB W16 w.heap.size g ws.length cap (i9 + 1) d1 m1 a9 e9 := by
              have h := z15
              rw [← hW16]
              unfold SB at h ⊢
              simp [World.setCell, Array.getElem?_modify, h]
            have hO16 : Only (fun b => b = w.heap.size) w14 W16 := by rw [← hW16]; exact (Only.of_below (ok := fun b => b = w.heap.size) hb15).setCell (p := ⟨w.heap.size, 1, none⟩) (.inl rfl) _
            have HFIN : Hid (OutL g cap ws k i m d a w A' (l.length + 1) c' f W16) := Lib.hid (by
              obtain ⟨x, s1, rfl, h0, rfl, h2, rfl, rfl, h5, h6, rfl, h8, h9⟩ := HZ.out
              obtain ⟨-, hn, hfn, hlf, hfg⟩ := HN.out
              obtain ⟨q, rfl⟩ : ∃ q, f = q + 1 := ⟨f - 1, by omega⟩
              refine ⟨H14.out.2.1.only hO16 (fun b h => .inl h), l ++ [x], ⟨s1.i + 1, s1.n⟩, q, z16, h2, h5, by show 151 ≤ q + s1.n; omega, by simp; omega, Nat.le_refl _, by simp, (H14.out.2.2 x h0).kept (keepS_Stp (keepS_Tr k)) hO16.size (fun b h1 h2 => hO16.block b h2 (by omega)), ?_⟩
              rw [HR.out.2.2.2.1, headC_go (H9.out.2.2.2.trans h8) h9])
            have hfk : f < gk := by have := HN.out.2.2.2.2; omega
            clear hb15 z15 qff z16 hO16
            go_wp2_with fail
            go_roundg f
            case measure => exact hfk
            case rel => exact ⟨A', l.length + 1, c', rfl, HFIN⟩
          · -- the end
            have HZ := Lib.hid hz
            clear hz
            go_wp2_with (at_builtin; refine Lib.wpList_append_run_sl _ rfl _ _ 30 rfl _ _ rfl rfl HRun.out ?_)
            refine HCL.out.mono ?_
            rintro e w15 ⟨rfl, hb15⟩
            have z15 := H14.out.1.on hb15
            obtain ⟨⟨qf0, qf1, qf2, qf3, qf4, qf5⟩, -, qfl⟩ := z15.cells
            have hF15 := H14.out.2.1.on hb15
            have HB15 := Lib.hid hb15
            clear hb15 z15
            obtain ⟨bF, q2F, szF⟩ := hF15
            obtain ⟨⟨ry0, ry1, ry2, ry3, ry4, ry5⟩, ⟨rf0, rf1, rf2, rf3, rf4, rf5⟩, rl⟩ := six_cells q2F
            obtain ⟨⟨rr0, rr1, rr2, rr3, rr4, rr5⟩, -, -⟩ := six_cells (six_done q2F (.slice (some ⟨g, 0, none⟩) ws.length cap) (.int .i64 i9) (.int .i64 d1) (.int .i64 m1) (.int .i64 a9) (.int .i64 e9))
            have HBF := Lib.hid bF
            clear bF q2F szF
            go_wp2_with fail
            refine bodyPost_ret (v := .tuple #[StV g ws.length cap i9 d1 m1 a9 e9, .slice A' (l.length + 1) c']) (by simp [results, Tryd.results28, go_sem, rr0, rr1, rr2, rr3, rr4, rr5]) rfl ?_
            refine ⟨_, _, _, _, _, _, _, _, rfl, by
              repeat (with_reducible first | exact HBF.out | refine Below.setCell ?_ (by simp <;> omega) _ | refine Below.drew ?_), ?_⟩
            rcases HZ.out with ⟨rfl, x, s1, h0, rfl, h2, rfl, rfl, h8, h9⟩ | ⟨he, hbad⟩
            · refine .inl ⟨l ++ [x], s1, ?_, rfl, h2, rfl, rfl, rfl, ?_⟩
              · obtain ⟨-, hn, hfn, hlf, hfg⟩ := HN.out
                obtain ⟨q, hq⟩ : ∃ q, f = q + 1 := ⟨f - 1, by omega⟩
                rw [HR.out.2.2.2.1, hq, headC_end (H9.out.2.2.2.trans h8) h9]
              · have hL := (H14.out.2.2 x h0).all (keepS_Stp (keepS_Tr k))
                have hlen : (l ++ [x]).length = l.length + 1 := by simp
                show LstS (RdStp (RdTr k)) 2 _ _ (l ++ [x]) _
                refine hL.keep (keepS_Stp (keepS_Tr k)) (fun p hp => World.cell?_of_block ?_) (fun b hb => ⟨by have := hb.1; omega, ?_⟩)
                · exact ((six_far (by have := hp.1; omega) _ _ _ _ _ _)).trans (HB15.out.block p.block hp.2)
                · simp only [World.size_setCell]; exact Nat.lt_of_lt_of_le hb.2 HB15.out.size
            · refine .inr ⟨?_, he⟩
              rw [HR.out.2.2.2.1]
              exact headC_bad (by rw [H9.out.2.2.2]; exact hbad)


theorem steps_all {g cap : Nat} {ws : List Wd} (hG : Gd ws) (hC : CanW ws) : ∀ k, StepsC g cap ws k
  | 0 => steps_any hG (arg_any hG hC (fun q h => by cases h) (fun i d m a e W he => steps_er i d m a e W he))
  | k + 1 => steps_any hG (arg_any hG hC (fun q h => by
      have : k = q := by omega
      subst this
      exact steps_all hG hC k) (fun i d m a e W he => steps_er i d m a e W he))

end Go.Proofs.YtgmjhoppjjjilaaDoor
