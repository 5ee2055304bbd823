/- a key goes up: the state of the loop -/
import Derived.Test.YtmhpgbhmhbldfaaTrZ
import Derived.Test.YtmhpgbhmhbldfaaTrK2
import Derived.Test.YtmhpgbhmhbldfaaTrC
namespace Go.Proofs.Ytmhpgbhmhbldfaa
open Go.ChangeShapes Go.WideShapes Go.ChangeAt Go.RowKit Go.Shelf

/-- a block that is no cells turns, or a new one comes -/
def NoCells (W : World) (row : Option Nat) : Prop := ∀ r, row = some r → ∃ o : Obj, W.heap[r]? = some o ∧ o.isCells = false

theorem SAt.kept {W W' : World} {row : Option Nat} {B : Nat} {A : Option Addr} {l : List ByteArray} (h : SAt W B A l) (hg : W.grownBy W' row) (hr : NoCells W row) : SAt W' B A l := by
  intro i s hi
  obtain ⟨b, o, e, hb, hc⟩ := h i s hi
  exact ⟨b, o, e, hb, cell_kept hc hg hr⟩

theorem NAt.kept {W W' : World} {row : Option Nat} {B : Nat} {A : Option Addr} {l : List Nat} (h : NAt W B A l) (hg : W.grownBy W' row) (hr : NoCells W row) : NAt W' B A l := by
  intro i s hi
  obtain ⟨b, o, e, hb, hc⟩ := h i s hi
  exact ⟨b, o, e, hb, cell_kept hc hg hr⟩

theorem NodeAt.kept {W W' : World} {row : Option Nat} {bad : Nat → Prop} {A A' : Option Addr} {n c n' c' : Nat} {ks : List ByteArray} {ids : List Nat} (h : NodeAt W bad A n c A' n' c' ks ids) (hg : W.grownBy W' row) (hr : NoCells W row) : NodeAt W' bad A n c A' n' c' ks ids :=
  ⟨(h.keys.kept hg hr).up hg.size, (h.kids.kept hg hr).up hg.size, h.hn, h.hn', h.nil, h.nil', h.cap, h.cap', h.far, h.far'⟩

theorem Laid.kept {W W' : World} {row : Option Nat} {bad : Nat → Prop} {laid : List (Nat × Value)} {x : Nd ByteArray} (h : Laid W bad laid x) (hg : W.grownBy W' row) (hr : NoCells W row) : Laid W' bad laid x := by
  obtain ⟨h1, A, n, c, A', n', c', h2, h3⟩ := h
  exact ⟨h1, A, n, c, A', n', c', h2, h3.kept hg hr⟩

theorem cells_stay {W W' : World} {row : Option Nat} {b : Nat} {cs : Array Value} {T : TypeId} {p : Nat × Nat} (h : W.heap[b]? = some (.cells cs T p)) (hg : W.grownBy W' row) (hr : NoCells W row) : W'.heap[b]? = some (.cells cs T p) := by
  refine (hg.block b (Array.getElem?_eq_some_iff.1 h).1 fun e => ?_).trans h
  obtain ⟨o, ho, hc⟩ := hr b e.symm
  rw [h] at ho
  cases ho
  cases hc

/-- the blocks that a change of a tree turns -/
def badT (t M G : Nat) : Nat → Prop := fun b => b = t ∨ b = M ∨ b = G

/-- .. and put's boxes that are written -/
def badP (t M G p5 p6 : Nat) : Nat → Prop := fun b => badT t M G b ∨ b = p5 ∨ b = p6

/-- put's own boxes, the tree's cells and its maps -/
structure Wk (w W : World) (t M G p3 p5 p6 root : Nat) (lent : Bool) (laid : List (Nat × Value)) (nx : Nat) (k : ByteArray) (r : Nat) : Prop where
  tree : IsT W t (some M) (some G) root nx lent
  map : OwnU W M VNo laid
  gone : OwnU W G VGo ([] : List (Nat × Unit))
  b3 : W.heap[p3]? = some (.cells #[.pointer (some ⟨t, 0, none⟩)] 24 (0, 0))
  b5 : W.heap[p5]? = some (.cells #[.string k] 9 (0, 0))
  b6 : W.heap[p6]? = some (.cells #[.int .u64 (r : Int)] 26 (0, 0))
  low : ∀ p ∈ laid, p.1 < nx
  only : Only (badT t M G) w W
  one : 1 ≤ nx
  rlt : r < 18446744073709551616

theorem only_kept {ok : Nat → Prop} {a w w' : World} (h : Only ok a w) {row : Option Nat} (hg : w.grownBy w' row) (hr : ∀ r, row = some r → a.heap.size ≤ r) : Only ok a w' :=
  ⟨hg.os.trans h.os, hg.tape.trans h.tape, hg.output.trans h.output, Nat.le_trans h.size hg.size, fun i hi hn => (hg.block i (Nat.lt_of_lt_of_le hi h.size) (fun e => by have := hr i e.symm; omega)).trans (h.block i hi hn)⟩

theorem Wk.kept {w W W' : World} {t M G p3 p5 p6 root : Nat} {lent : Bool} {laid : List (Nat × Value)} {nx : Nat} {k : ByteArray} {r B : Nat} {row : Option Nat} (h : Wk w W t M G p3 p5 p6 root lent laid nx k r) (hB : w.heap.size ≤ B) (hM : M < B) (hG : G < B)
    (hg : W.grownBy W' row) (hr : ∀ r, row = some r → B ≤ r ∧ ∃ o : Obj, W.heap[r]? = some o ∧ o.isCells = false) : Wk w W' t M G p3 p5 p6 root lent laid nx k r := by
  have hn : NoCells W row := fun r e => (hr r e).2
  exact ⟨cells_stay h.tree hg hn, h.map.keep (hg.block M h.map.lt fun e => by have := (hr M e.symm).1; omega), h.gone.keep (hg.block G h.gone.lt fun e => by have := (hr G e.symm).1; omega), cells_stay h.b3 hg hn, cells_stay h.b5 hg hn, cells_stay h.b6 hg hn, h.low, only_kept h.only hg (fun r e => by have := (hr r e).1; omega), h.one, h.rlt⟩

/-- what is known, as long as the steps come in their order -/
def Str (W : World) (bad : Nat → Prop) (R : B ByteArray × Nat) (root : Nat) (fs : List (Fr ByteArray)) (j : Nat) (laid : List (Nat × Value)) (nx : Nat) (k : ByteArray) (r : Nat) : Prop :=
  (∀ f0 z', fs.drop j = f0 :: z' → ∃ f rt, f.id = f0.id ∧ f.keys = f0.keys ∧ f.at_ = f0.at_ ∧ f.kids.map B.id = f0.kids.map B.id ∧ Pend (Laid W bad laid) nx z' f rt ∧ up 4 2 z' f k rt nx = R ∧ (f.kids ≠ [] → rt.id = r)) ∧
  (fs.drop j = [] → ∃ lt rt, lt.id = root ∧ rt.id = r ∧ Whole (Laid W bad laid) nx (lt.nodes ++ rt.nodes) ∧ R = (.mk nx [k] [lt, rt], nx + 1))

theorem Pend.imp {K : Type} {P P' : Nd K → Prop} {nx : Nat} {z : List (Fr K)} {f : Fr K} {rt : B K} (h : Pend P nx z f rt) (hP : ∀ x, P x → P' x) : Pend P' nx z f rt := ⟨fun x hx => hP x (h.1 x hx), h.2⟩
theorem Whole.imp {K : Type} {P P' : Nd K → Prop} {nx : Nat} {l : List (Nd K)} (h : Whole P nx l) (hP : ∀ x, P x → P' x) : Whole P' nx l := ⟨fun x hx => hP x (h.1 x hx), h.2⟩

theorem Str.imp {W W' : World} {bad : Nat → Prop} {R : B ByteArray × Nat} {root : Nat} {fs : List (Fr ByteArray)} {j : Nat} {laid : List (Nat × Value)} {nx : Nat} {k : ByteArray} {r : Nat} (h : Str W bad R root fs j laid nx k r) (hP : ∀ x, Laid W bad laid x → Laid W' bad laid x) : Str W' bad R root fs j laid nx k r := by
  refine ⟨fun f0 z' e => ?_, fun e => ?_⟩
  · obtain ⟨f, rt, h1, h2, h3, h4, h5, h6⟩ := h.1 f0 z' e
    exact ⟨f, rt, h1, h2, h3, h4, h5.imp hP, h6⟩
  · obtain ⟨lt, rt, h1, h2, h3, h4⟩ := h.2 e
    exact ⟨lt, rt, h1, h2, h3.imp hP, h4⟩

/-- the state of the loop -/
def PutI (w : World) (t M G p3 p5 p6 root : Nat) (lent : Bool) (nx0 : Nat) (R : B ByteArray × Nat) (fs : List (Fr ByteArray)) (m : Nat) (pre : List (Fin m)) (W : World) : Prop :=
  ∃ laid nx k r, Wk w W t M G p3 p5 p6 root lent laid nx k r ∧ nx0 ≤ nx ∧ nx ≤ nx0 + pre.length ∧ (Down m pre → Str W (badP t M G p5 p6) R root fs pre.length laid nx k r)

/-- a tree that has been changed -/
def Done (w W : World) (t M G root : Nat) (lent : Bool) (laid : List (Nat × Value)) (nx : Nat) : Prop :=
  IsT W t (some M) (some G) root nx lent ∧ OwnU W M VNo laid ∧ OwnU W G VGo ([] : List (Nat × Unit)) ∧ (∀ p ∈ laid, p.1 < nx) ∧ Only (badT t M G) w W

def PutX (w : World) (t M G p5 p6 root : Nat) (lent : Bool) (R : B ByteArray × Nat) (m : Nat) (c : Code) (pre : List (Fin m)) (W : World) : Prop :=
  c = .ret ∧ ∃ laid nx, Done w W t M G root lent laid nx ∧ (Down m pre → R.2 = nx ∧ R.1.id = root ∧ Whole (Laid W (badP t M G p5 p6) laid) nx R.1.nodes)

theorem putI_own (w : World) (t M G p3 p5 p6 root : Nat) (lent : Bool) (nx0 : Nat) (R : B ByteArray × Nat) (fs : List (Fr ByteArray)) (m B : Nat) (hB : w.heap.size ≤ B) (hM : M < B) (hG : G < B) : OwnFrom B (PutI w t M G p3 p5 p6 root lent nx0 R fs m) := by
  rintro pre W W' row ⟨laid, nx, k, r, h1, h0, h2, h3⟩ hg hr
  exact ⟨laid, nx, k, r, h1.kept hB hM hG hg hr, h0, h2, fun hd => (h3 hd).imp fun x hx => hx.kept hg fun r e => (hr r e).2⟩

theorem putX_own (w : World) (t M G p5 p6 root : Nat) (lent : Bool) (R : B ByteArray × Nat) (m B : Nat) (hB : w.heap.size ≤ B) (hM : M < B) (hG : G < B) (c : Code) : OwnFrom B (PutX w t M G p5 p6 root lent R m c) := by
  rintro pre W W' row ⟨h0, laid, nx, ⟨h1, h2, h3, h4, h5⟩, h6⟩ hg hr
  have hn : NoCells W row := fun r e => (hr r e).2
  exact ⟨h0, laid, nx, ⟨cells_stay h1 hg hn, h2.keep (hg.block M h2.lt fun e => by have := (hr M e.symm).1; omega), h3.keep (hg.block G h3.lt fun e => by have := (hr G e.symm).1; omega), h4, only_kept h5 hg (fun r e => by have := (hr r e).1; omega)⟩, fun hd => ⟨(h6 hd).1, (h6 hd).2.1, (h6 hd).2.2.imp fun x hx => hx.kept hg hn⟩⟩

theorem only_back {w W W' : World} {t M G p5 p6 : Nat} (h : Only (badT t M G) w W) (h5 : w.heap.size ≤ p5) (h6 : w.heap.size ≤ p6) (hO : Only (badP t M G p5 p6) W W') : Only (badT t M G) w W' :=
  ⟨hO.os.trans h.os, hO.tape.trans h.tape, hO.output.trans h.output, Nat.le_trans h.size hO.size, fun i hi hn => (hO.block i (Nat.lt_of_lt_of_le hi h.size) (fun hb => by rcases hb with hb | rfl | rfl; exact hn hb; omega; omega)).trans (h.block i hi hn)⟩

theorem Steps.get {w : World} {bad : Nat → Prop} : ∀ {l : List St} {z : List (Fr ByteArray)}, Steps w bad l z → ∀ (j : Nat) s, l[j]? = some s → ∃ f, z[j]? = some f ∧ StFr w bad s f
  | [], [], _, j, s, hs => by simp at hs
  | x :: l, f :: z, h, 0, s, hs => by simp at hs; subst hs; exact ⟨f, rfl, h.1⟩
  | x :: l, f :: z, h, j + 1, s, hs => by
    obtain ⟨g, hg, e⟩ := Steps.get h.2 j s (by simpa using hs)
    exact ⟨g, by simpa using hg, e⟩
  | [], _ :: _, h, _, _, _ => h.elim
  | _ :: _, [], h, _, _, _ => h.elim

end Go.Proofs.Ytmhpgbhmhbldfaa
