/- PaB -/
import Derived.Test.YtgmjhoppjjjilaaDoorQ05
import Derived.Test.YtgmjhoppjjjilaaDoorQ06
import Derived.Test.YtgmjhoppjjjilaaDoorQ01
import Derived.Test.YtgmjhoppjjjilaaDoorQ04
import Derived.Deep.RegionWith
import Derived.Deep.RegionHeld3
import Derived.StillTailTactics
import Derived.Lib.Hide
import Derived.Recover
import Derived.Defers

/- steps of words: the plain mathematics -/
namespace Go.Proofs.YtgmjhoppjjjilaaDoor
open Go Go.Fl

/-- a predicate -/
inductive Pd where
  | mk (op : ByteArray) (l : List T) (kids : List Pd) : Pd

mutual
/-- an argument -/
inductive Ag where
  | mk (k : Int) (v : T) (p : Pd) (t : List Sp) : Ag
/-- a step -/
inductive Sp where
  | mk (name : ByteArray) (args : List Ag) : Sp
end

/-- the place of the next word, and how many steps there were -/
structure Ps where
  i : Nat
  n : Nat

/-- what is taken, and what is ahead then; or the place of the word that may not be, and why not -/
inductive Rs (α : Type) where
  | ok (x : α) (s : Ps) : Rs α
  | bad (i : Nat) (e : Int) : Rs α

def txG : List UInt8 := [103]

def txUU : List UInt8 := [95, 95]

def txTrue : List UInt8 := [116, 114, 117, 101]

def txFalse : List UInt8 := [102, 97, 108, 115, 101]

def txNull : List UInt8 := [110, 117, 108, 108]

def txAnd : List UInt8 := [97, 110, 100]

def txOr : List UInt8 := [111, 114]

def txNeg : List UInt8 := [110, 101, 103, 97, 116, 101]

def txNot : List UInt8 := [110, 111, 116]

def isL (x : Wd) (l : List UInt8) : Bool := x.s.data.toList == l

def isNam (x : Wd) (l : List UInt8) : Bool := decide (x.k = 1) && isL x l

def isSgn (x : Wd) (c : UInt8) : Bool := decide (x.k = 5) && isL x [c]

/-- a value begins with it -/
def valA (x : Wd) : Bool := decide (x.k = 2) || decide (x.k = 3) || decide (x.k = 4) || (decide (x.k = 1) && (isL x txTrue || isL x txFalse || isL x txNull)) || isSgn x 91

/-- how many values a predicate has -/
def prdN (l : List UInt8) : Option Int :=
  if l = [101, 113] ∨ l = [110, 101, 113] ∨ l = [108, 116] ∨ l = [108, 116, 101] ∨ l = [103, 116] ∨ l = [103, 116, 101] ∨ l = [115, 116, 97, 114, 116, 105, 110, 103, 87, 105, 116, 104] ∨ l = [101, 110, 100, 105, 110, 103, 87, 105, 116, 104] ∨ l = [99, 111, 110, 116, 97, 105, 110, 105, 110, 103] then some 1
  else if l = [98, 101, 116, 119, 101, 101, 110] ∨ l = [105, 110, 115, 105, 100, 101] ∨ l = [111, 117, 116, 115, 105, 100, 101] then some 2
  else if l = [119, 105, 116, 104, 105, 110] ∨ l = [119, 105, 116, 104, 111, 117, 116] then some (-1)
  else none

def prdA (x : Wd) : Bool := (prdN x.s.data.toList).isSome && decide (x.k = 1)

def isJoin (x : Wd) : Bool := isNam x txAnd || isNam x txOr || isNam x txNeg

def argA (x : Wd) : Bool := decide (x.k = 1) || valA x

def vz : T := .mk 0 false 0 0 ⟨#[]⟩ []

def pz : Pd := .mk ⟨#[]⟩ [] []

/-- the value of a word -/
def wdT (x : Wd) : T :=
  if x.k = 2 then .mk 2 false x.n 0 ⟨#[]⟩ []
  else if x.k = 3 then .mk 3 false 0 (canonN x.f) ⟨#[]⟩ []
  else if x.k = 4 then .mk 4 false 0 0 x.s []
  else if isL x txNull then vz
  else .mk 1 (isL x txTrue) 0 0 ⟨#[]⟩ []

section
variable (G : Nat → Wd)

/-- values or arguments, behind l, up to the sign en -/
def sevL {α : Type} (en : UInt8) (b : Wd → Bool) (rd : Nat → Ps → Rs α) : Nat → List α → Ps → Rs (List α)
  | 0, _, s => .bad s.i 0
  | f + 1, l, s =>
    if b (G s.i) = false then .bad s.i 120
    else if l.length = 12 then .bad s.i 3
    else match rd l.length s with
      | .bad i e => .bad i e
      | .ok x s' =>
        if isSgn (G s'.i) en then .ok (l ++ [x]) ⟨s'.i + 1, s'.n⟩
        else if isSgn (G s'.i) 44 then sevL en b rd f (l ++ [x]) ⟨s'.i + 1, s'.n⟩
        else .bad s'.i 120

section
variable {G} {α : Type} {en : UInt8} {b : Wd → Bool} {rd : Nat → Ps → Rs α} {f : Nat} {l : List α} {s s' : Ps} {x : α}

theorem sevL_bad {i : Nat} {e : Int} (hb : b (G s.i) = true) (hl : l.length ≠ 12) (hr : rd l.length s = .bad i e) : sevL G en b rd (f + 1) l s = .bad i e := by
  rw [sevL, if_neg (by rw [hb]; decide), if_neg hl, hr]

theorem sevL_end (hb : b (G s.i) = true) (hl : l.length ≠ 12) (hr : rd l.length s = .ok x s') (hs : isSgn (G s'.i) en = true) : sevL G en b rd (f + 1) l s = .ok (l ++ [x]) ⟨s'.i + 1, s'.n⟩ := by
  rw [sevL, if_neg (by rw [hb]; decide), if_neg hl, hr]
  exact if_pos hs

theorem sevL_go (hb : b (G s.i) = true) (hl : l.length ≠ 12) (hr : rd l.length s = .ok x s') (hs : isSgn (G s'.i) en = false) (h44 : isSgn (G s'.i) 44 = true) : sevL G en b rd (f + 1) l s = sevL G en b rd f (l ++ [x]) ⟨s'.i + 1, s'.n⟩ := by
  rw [sevL, if_neg (by rw [hb]; decide), if_neg hl, hr]
  exact (if_neg (by rw [hs]; decide)).trans (if_pos h44)

theorem sevL_no (hb : b (G s.i) = true) (hl : l.length ≠ 12) (hr : rd l.length s = .ok x s') (hs : isSgn (G s'.i) en = false) (h44 : isSgn (G s'.i) 44 = false) : sevL G en b rd (f + 1) l s = .bad s'.i 120 := by
  rw [sevL, if_neg (by rw [hb]; decide), if_neg hl, hr]
  exact (if_neg (by rw [hs]; decide)).trans (if_neg (by rw [h44]; decide))

end

def sev {α : Type} (en : UInt8) (b : Wd → Bool) (rd : Nat → Ps → Rs α) (s : Ps) : Rs (List α) :=
  if isSgn (G s.i) en then .ok [] ⟨s.i + 1, s.n⟩ else sevL G en b rd 13 [] s

/-- a value, where k more may stand around it -/
def pVal : Nat → Ps → Rs T
  | 0, s => if (G s.i).k = 5 then .bad s.i 3 else .ok (wdT (G s.i)) ⟨s.i + 1, s.n⟩
  | k + 1, s =>
    if (G s.i).k = 5 then
      match sev G 93 valA (fun _ => pVal k) ⟨s.i + 1, s.n⟩ with
      | .bad i e => .bad i e
      | .ok l s' => .ok (.mk 5 false 0 0 ⟨#[]⟩ l) s'
    else .ok (wdT (G s.i)) ⟨s.i + 1, s.n⟩

/-- .. of a predicate -/
def pInner : Nat → Ps → Rs T
  | 0, s => .bad s.i 3
  | k + 1, s => pVal G k s

/-- .. of the predicate whose name stands at j, of which c were read -/
def pArgV (k : Nat) (j : Nat) (most : Int) (c : Nat) (s : Ps) : Rs T :=
  match pInner G k s with
  | .bad i e => .bad i e
  | .ok v s' => if most < ((c + 1 : Nat) : Int) ∧ most ≠ -1 then .bad j 120 else .ok v s'

def mostN (l : List UInt8) : Int := (prdN l).getD 0

def pPlain (k : Nat) (s : Ps) : Rs Pd :=
  if isSgn (G (s.i + 1)) 40 = false then .bad (s.i + 1) 120
  else match sev G 41 valA (pArgV G k s.i (mostN (G s.i).s.data.toList)) ⟨s.i + 2, s.n⟩ with
    | .bad i e => .bad i e
    | .ok l s' => if (l.length : Int) < mostN (G s.i).s.data.toList then .bad s.i 120 else .ok (.mk (G s.i).s l []) s'

/-- what is joined to a predicate -/
def pJoin : Nat → Pd → Ps → Rs Pd
  | 0, out, s =>
    if isSgn (G s.i) 46 = false then .ok out s
    else if isJoin (G (s.i + 1)) = false then .bad (s.i + 1) 120
    else .bad (s.i + 1) 3
  | k + 1, out, s =>
    if isSgn (G s.i) 46 = false then .ok out s
    else if isJoin (G (s.i + 1)) = false then .bad (s.i + 1) 120
    else if isSgn (G (s.i + 2)) 40 = false then .bad (s.i + 2) 120
    else if isL (G (s.i + 1)) txNeg then
      if isSgn (G (s.i + 3)) 41 = false then .bad (s.i + 3) 120
      else pJoin k (.mk ⟨txNot.toArray⟩ [] [out]) ⟨s.i + 4, s.n⟩
    else if prdA (G (s.i + 3)) = false then .bad (s.i + 3) 120
    else match pPlain G k ⟨s.i + 3, s.n⟩ with
      | .bad i e => .bad i e
      | .ok q s1 => match pJoin k q s1 with
        | .bad i e => .bad i e
        | .ok q s2 =>
          if isSgn (G s2.i) 41 = false then .bad s2.i 120
          else pJoin k (.mk (G (s.i + 1)).s [] [out, q]) ⟨s2.i + 1, s2.n⟩

def pPred (k : Nat) (s : Ps) : Rs Pd :=
  match pPlain G k s with
  | .bad i e => .bad i e
  | .ok q s1 => pJoin G k q s1

def pStep (arg : Ps → Rs Ag) (s : Ps) : Rs Sp :=
  if (G s.i).k ≠ 1 then .bad s.i 120
  else if s.n = 150 then .bad s.i 3
  else if isSgn (G (s.i + 1)) 40 = false then .bad (s.i + 1) 120
  else match sev G 41 argA (fun _ => arg) ⟨s.i + 2, s.n + 1⟩ with
    | .bad i e => .bad i e
    | .ok l s' => .ok (.mk (G s.i).s l) s'

def pChainL (arg : Ps → Rs Ag) : Nat → List Sp → Ps → Rs (List Sp)
  | 0, _, s => .bad s.i 0
  | f + 1, l, s =>
    if isSgn (G s.i) 46 = false then .ok l s
    else match pStep G arg ⟨s.i + 1, s.n⟩ with
      | .bad i e => .bad i e
      | .ok x s' => pChainL arg f (l ++ [x]) s'

def pChain (arg : Ps → Rs Ag) (s : Ps) : Rs (List Sp) :=
  match pStep G arg s with
  | .bad i e => .bad i e
  | .ok x s' => pChainL G arg 151 [x] s'

def pArg (k : Nat) (trav : Ps → Rs (List Sp)) (s : Ps) : Rs Ag :=
  if valA (G s.i) then
    match pVal G k s with
    | .bad i e => .bad i e
    | .ok v s' => .ok (.mk 1 v pz []) s'
  else if prdA (G s.i) && isSgn (G (s.i + 1)) 40 then
    match pPred G k s with
    | .bad i e => .bad i e
    | .ok p s' => .ok (.mk 2 vz p []) s'
  else if isL (G s.i) txUU = false && isSgn (G (s.i + 1)) 40 = false then .ok (.mk 4 (.mk 4 false 0 0 (G s.i).s []) pz []) ⟨s.i + 1, s.n⟩
  else match trav s with
    | .bad i e => .bad i e
    | .ok l s' => .ok (.mk 3 vz pz l) s'

def pTrav : Nat → Ps → Rs (List Sp)
  | 0, s => .bad s.i 3
  | k + 1, s => pChain G (pArg G k (pTrav k)) (if isL (G s.i) txUU && isSgn (G (s.i + 1)) 46 then ⟨s.i + 2, s.n⟩ else s)

def pText : Rs (List Sp) :=
  if isNam (G 0) txG = false then .bad 0 120
  else if isSgn (G 1) 46 = false then .bad 1 120
  else match pChain G (pArg G 12 (pTrav G 12)) ⟨2, 0⟩ with
    | .bad i e => .bad i e
    | .ok l s => if (G s.i).k = 0 then .ok l s else .bad s.i 120

end

/-- the word at i, without its place -/
def gx (ws : List Wd) (i : Nat) : Wd := { ws.getD i wdNone with at_ := 0 }

end Go.Proofs.YtgmjhoppjjjilaaDoor

namespace Go.Proofs.YtgmjhoppjjjilaaDoor
open Go.ChangeShapes Go.WideShapes Go.ChangeAt Go.RowKit

/-- what reads where its blocks are -/
def KeepS {α : Type} (R : World → (Nat → Prop) → α → Value → Prop) : Prop :=
  ∀ (w w' : World) (S S' : Nat → Prop) (x : α) (v : Value), (∀ p : Addr, S p.block → w'.cell? p = w.cell? p) → (∀ b, S b → S' b) → R w S x v → R w' S' x v

theorem keepS_T : KeepS RdS := fun _ _ _ _ _ _ hw hS h => RdS.keepS hw hS h

/-- a row of one's own from base on, with these -/
def Row {α : Type} (R : World → (Nat → Prop) → α → Value → Prop) (e : TypeId) (sz base : Nat) (w : World) (l : List α) (A : Value) : Prop :=
  ∃ xs, w.ownsRow base e sz A l.length xs ∧ ∀ j (hj : j < l.length), ∃ v, (∀ k u, v.cells[k]? = some u → k < sz ∧ xs[j * sz + k]? = some u) ∧
    R w (fun b => base ≤ b ∧ b < w.heap.size ∧ some b ≠ A.ownBlock) l[j] v

section
variable {α : Type} {R : World → (Nat → Prop) → α → Value → Prop} {e : TypeId} {sz base : Nat} {w w' w1 : World} {l : List α} {A A' : Value}

theorem Row.nil : Row R e sz base w [] (.slice none 0 0) := ⟨[], World.ownsRow_nil _ _ _ _, fun _ h => absurd h (Nat.not_lt_zero _)⟩

theorem Row.kept (hK : KeepS R) (h : Row R e sz base w l A) (hs : w.heap.size ≤ w'.heap.size) (hb : ∀ b, base ≤ b → b < w.heap.size → w'.heap[b]? = w.heap[b]?) : Row R e sz base w' l A := by
  obtain ⟨xs, ⟨hx1, hx2⟩, hp⟩ := h
  refine ⟨xs, ⟨hx1, ?_⟩, fun j hj => ?_⟩
  · rcases hx2 with h2 | ⟨g, cap, cur, rfl, hbg, hg, r⟩
    · exact .inl h2
    · exact .inr ⟨g, cap, cur, rfl, hbg, (hb g hbg (Array.getElem?_eq_some_iff.1 hg).1).trans hg, r⟩
  · obtain ⟨v, h1, h2⟩ := hp j hj
    exact ⟨v, h1, hK _ _ _ _ _ _ (fun p hp => World.cell?_of_block (hb _ hp.1 hp.2.1)) (fun b hb => ⟨hb.1, Nat.lt_of_lt_of_le hb.2.1 hs, hb.2.2⟩) h2⟩

/-- one more -/
theorem Row.step (hK : KeepS R) {xs news : List Value} {v : Value} {x : α} (hown : w.ownsRow base e sz A l.length xs)
    (hp : ∀ j (hj : j < l.length), ∃ v, (∀ k u, v.cells[k]? = some u → k < sz ∧ xs[j * sz + k]? = some u) ∧ R w (fun b => base ≤ b ∧ b < w.heap.size ∧ some b ≠ A.ownBlock) l[j] v)
    (hnews : ∀ k u, v.cells[k]? = some u → k < sz ∧ news[k]? = some u) (hv : R w (fun b => base ≤ b ∧ b < w.heap.size ∧ some b ≠ A.ownBlock) x v)
    (hown' : w1.ownsRow base e sz A' (l.length + 1) (xs ++ news)) (hg : w.grownBy w1 A.ownBlock) (hA : A'.ownBlock = A.ownBlock ∨ A'.ownBlock = some w.heap.size) : Row R e sz base w1 (l ++ [x]) A' := by
  have hx := hown.1
  have hsub : ∀ b, (base ≤ b ∧ b < w.heap.size ∧ some b ≠ A.ownBlock) → (base ≤ b ∧ b < w1.heap.size ∧ some b ≠ A'.ownBlock) := by
    rintro b ⟨h1, h2, h3⟩
    refine ⟨h1, Nat.lt_of_lt_of_le h2 hg.size, ?_⟩
    rcases hA with e | e
    · rw [e]; exact h3
    · rw [e]; intro he; cases he; exact absurd h2 (Nat.lt_irrefl _)
  have hk : ∀ p : Addr, (base ≤ p.block ∧ p.block < w.heap.size ∧ some p.block ≠ A.ownBlock) → w1.cell? p = w.cell? p := fun p hp => World.cell?_of_block (hg.block _ hp.2.1 hp.2.2)
  refine ⟨xs ++ news, by rw [List.length_append, List.length_singleton]; exact hown', fun j hj => ?_⟩
  rw [List.length_append, List.length_singleton] at hj
  by_cases hj' : j < l.length
  · obtain ⟨v', h1, h2⟩ := hp j hj'
    rw [List.getElem_append_left hj']
    refine ⟨v', fun k u hu => ?_, hK _ _ _ _ _ _ hk hsub h2⟩
    obtain ⟨hk6, hu'⟩ := h1 k u hu
    have : j * sz + sz ≤ l.length * sz := by rw [← Nat.succ_mul]; exact Nat.mul_le_mul_right _ hj'
    exact ⟨hk6, by rw [List.getElem?_append_left (by omega)]; exact hu'⟩
  · obtain rfl : j = l.length := by omega
    have hlast : (l ++ [x])[l.length]'(by simp) = x := by simp
    rw [hlast]
    refine ⟨v, fun k u hu => ?_, hK _ _ _ _ _ _ hk hsub hv⟩
    obtain ⟨hk6, hu'⟩ := hnews k u hu
    exact ⟨hk6, by rw [List.getElem?_append_right (by omega), hx, Nat.add_sub_cancel_left]; exact hu'⟩

/-- things in a row, as a call hands them on; all of it in blocks of the set S -/
def LstS (R : World → (Nat → Prop) → α → Value → Prop) (sz : Nat) (w : World) (S : Nat → Prop) (l : List α) (v : Value) : Prop :=
  (l = [] ∧ v = .slice none 0 0) ∨ ∃ g cap, v = .slice (some ⟨g, 0, none⟩) l.length cap ∧ l.length ≤ cap ∧ cap ≤ 9223372036854775807 ∧ S g ∧
    ∀ j (hj : j < l.length), ∃ u, (∀ k c, u.cells[k]? = some c → w.cell? ⟨g, j * sz + k, none⟩ = some c) ∧ R w S l[j] u

theorem Row.all (hK : KeepS R) (h : Row R e sz base w l A) : LstS R sz w (fun b => base ≤ b ∧ b < w.heap.size) l A := by
  obtain ⟨xs, hown, hp⟩ := h
  have hlt := hown.lt
  have hcl := fun g hg => hown.cells (g := g) hg
  rcases hown.2 with ⟨h0, hn⟩ | ⟨g, cap, cur, rfl, hbg, hg, hnc, hcm, -⟩
  · exact .inl ⟨List.length_eq_zero_iff.1 hn, h0⟩
  · have hgl := (Array.getElem?_eq_some_iff.1 hg).1
    refine .inr ⟨g, cap, rfl, hnc, by simp only [maxLen] at hcm; omega, ⟨hbg, hgl⟩, fun j hj => ?_⟩
    obtain ⟨u, h1, h2⟩ := hp j hj
    refine ⟨u, fun k c hc => ?_, hK _ _ _ _ _ _ (fun _ _ => rfl) (fun b hb => ⟨hb.1, hb.2.1⟩) h2⟩
    have := hcl g rfl _ _ (h1 k c hc).2
    rw [adr_add, Nat.zero_add] at this
    exact this

theorem LstS.keep (hK : KeepS R) {S S' : Nat → Prop} {v : Value} (hw' : ∀ p : Addr, S p.block → w'.cell? p = w.cell? p) (hS : ∀ b, S b → S' b) (h : LstS R sz w S l v) : LstS R sz w' S' l v := by
  rcases h with h | ⟨g, cap, rfl, h1, h2, h3, h5⟩
  · exact .inl h
  · refine .inr ⟨g, cap, rfl, h1, h2, hS _ h3, fun j hj => ?_⟩
    obtain ⟨u, h6, h7⟩ := h5 j hj
    exact ⟨u, fun k c hc => (hw' ⟨g, j * sz + k, none⟩ h3).trans (h6 k c hc), hK _ _ _ _ _ _ hw' hS h7⟩

theorem keepS_L (hK : KeepS R) : KeepS (LstS R sz) := fun _ _ _ _ _ _ hw hS h => h.keep hK hw hS

end

/-- values in a row, as package val reads them -/
theorem LstS.vals {w : World} {S : Nat → Prop} {l : List T} {v : Value} (h : LstS RdS 6 w S l v) : ∃ A cap, v = .slice A l.length cap ∧ l.length ≤ cap ∧ cap ≤ 9223372036854775807 ∧ (A = none → cap = 0) ∧ RdSL w S l A := by
  rcases h with ⟨rfl, rfl⟩ | ⟨g, cap, rfl, h1, h2, h3, h5⟩
  · exact ⟨none, 0, rfl, Nat.le_refl _, by omega, fun _ => rfl, fun i hi => absurd hi (Nat.not_lt_zero _)⟩
  · refine ⟨some ⟨g, 0, none⟩, cap, rfl, h1, h2, (fun h => by cases h), fun i hi => ?_⟩
    obtain ⟨u, h6, h7⟩ := h5 i hi
    exact ⟨_, u, rfl, h3, fun j c hc => by rw [adr_add, Nat.zero_add]; exact h6 j c hc, h7⟩

end Go.Proofs.YtgmjhoppjjjilaaDoor

namespace Go.Proofs.YtgmjhoppjjjilaaDoor
open Go.ChangeShapes Go.WideShapes Go.ChangeAt Go.RowKit

/-- a predicate of no more than n within one another reads as the tree -/
def RdPN : Nat → World → (Nat → Prop) → Pd → Value → Prop
  | 0, w, S, .mk op l kids, v => ∃ lv, v = .agg #[.string op, lv, .slice none 0 0] ∧ LstS RdS 6 w S l lv ∧ kids = []
  | n + 1, w, S, .mk op l kids, v => ∃ lv kv, v = .agg #[.string op, lv, kv] ∧ LstS RdS 6 w S l lv ∧ LstS (RdPN n) 3 w S kids kv

theorem keepS_P : ∀ n, KeepS (RdPN n)
  | 0 => by
    rintro w w' S S' ⟨op, l, kids⟩ v hw hS ⟨lv, h1, h2, h3⟩
    exact ⟨lv, h1, h2.keep keepS_T hw hS, h3⟩
  | n + 1 => by
    rintro w w' S S' ⟨op, l, kids⟩ v hw hS ⟨lv, kv, h1, h2, h3⟩
    exact ⟨lv, kv, h1, h2.keep keepS_T hw hS, h3.keep (keepS_P n) hw hS⟩

theorem LstS.imp {α : Type} {R R' : World → (Nat → Prop) → α → Value → Prop} {sz : Nat} {w : World} {S : Nat → Prop} {l : List α} {v : Value} (h : LstS R sz w S l v) (hR : ∀ x u, x ∈ l → R w S x u → R' w S x u) : LstS R' sz w S l v := by
  rcases h with h | ⟨g, cap, rfl, h1, h2, h3, h5⟩
  · exact .inl h
  · refine .inr ⟨g, cap, rfl, h1, h2, h3, fun j hj => ?_⟩
    obtain ⟨u, h6, h7⟩ := h5 j hj
    exact ⟨u, h6, hR _ _ (List.getElem_mem hj) h7⟩

theorem rdP_up : ∀ (n : Nat) (w : World) (S : Nat → Prop) (p : Pd) (v : Value), RdPN n w S p v → RdPN (n + 1) w S p v
  | 0, _, _, .mk _ _ _, _, ⟨lv, h1, h2, h3⟩ => ⟨lv, _, h1, h2, .inl ⟨h3, rfl⟩⟩
  | n + 1, w, S, .mk _ _ _, _, ⟨lv, kv, h1, h2, h3⟩ => ⟨lv, kv, h1, h2, h3.imp fun x u _ h => rdP_up n w S x u h⟩

theorem rdP_le {n m : Nat} (hnm : n ≤ m) {w : World} {S : Nat → Prop} {p : Pd} {v : Value} (h : RdPN n w S p v) : RdPN m w S p v := by
  induction hnm with
  | refl => exact h
  | step _ ih => exact rdP_up _ _ _ _ _ ih

/-- a predicate reads as the tree -/
def RdP (w : World) (S : Nat → Prop) (p : Pd) (v : Value) : Prop := ∃ n, RdPN n w S p v

theorem keepS_Pd : KeepS RdP := fun w w' S S' x v hw hS ⟨n, h⟩ => ⟨n, keepS_P n w w' S S' x v hw hS h⟩

theorem rdP_nil (w : World) (S : Nat → Prop) : RdP w S pz (.agg #[.string ⟨#[]⟩, .slice none 0 0, .slice none 0 0]) := ⟨0, _, rfl, .inl ⟨rfl, rfl⟩, rfl⟩

theorem rdS_leaf {w : World} {S : Nat → Prop} {k : Int} {b : Bool} {n : Int} {f : Nat} {s : ByteArray} (hk : is64 k = true) (hn : is64 n = true) (hf : f < 18446744073709551616) (hs : s.size ≤ 140737488351232) :
    RdS w S (.mk k b n f s []) (.agg #[.int .i64 k, .bool b, .int .i64 n, .float .f64 f, .string s, .slice none 0 0]) :=
  RdS.of none 0 hk hn hf hs (Nat.le_refl _) ⟨by decide, by decide⟩ (fun _ => rfl) (fun i hi => absurd hi (Nat.not_lt_zero _))

end Go.Proofs.YtgmjhoppjjjilaaDoor

namespace Go.Proofs.YtgmjhoppjjjilaaDoor
open Go.ChangeShapes Go.WideShapes Go.ChangeAt Go.RowKit Go.Fl
open Go.Shelf

/-- words that were read: the last one is the end, no other is -/
structure Gd (ws : List Wd) : Prop where
  few : ws.length ≤ 1501
  last : ∀ x, ws[ws.length - 1]? = some x → x.k = 0
  ok : ∀ x ∈ ws, 0 ≤ x.k ∧ x.k ≤ 5 ∧ is64 x.n = true ∧ x.f < 18446744073709551616 ∧ x.s.size ≤ 3000 ∧ x.at_ ≤ 3000

theorem Gd.next {ws : List Wd} (h : Gd ws) {i : Nat} {x : Wd} (hx : ws[i]? = some x) (hk : x.k ≠ 0) : ∃ y, ws[i + 1]? = some y := by
  obtain ⟨hi, -⟩ := List.getElem?_eq_some_iff.1 hx
  by_cases h1 : i + 1 < ws.length
  · exact ⟨_, List.getElem?_eq_getElem h1⟩
  · have : i = ws.length - 1 := by omega
    subst this
    exact absurd (h.last x hx) hk

/-- a word's cells -/
def wd5 (x : Wd) : List Value := [.int .i64 x.k, .string x.s, .int .i64 x.n, .float .f64 x.f, .int .i64 (x.at_ : Nat)]

section
variable {w w' : World} {pb g cap : Nat} {ws : List Wd} {i d n : Nat}

end

/-- of the blocks that were there only the parser's turns -/
abbrev FR (pb : Nat) (w w' : World) : Prop := Only (fun b => b = pb) w w'

theorem FR.of {pb : Nat} {w w' : World} (h : Below w.heap.size w w') : FR pb w w' := Only.of_below h

section
variable {w w' : World} {pb g cap : Nat} {ws : List Wd} {i d n : Nat}

theorem fr_put {a : World} (h : FR pb a w) (j : Nat) (u : Value) : FR pb a (w.setCell ⟨pb, j, none⟩ u) := h.setCell (.inl rfl) u

end

theorem isL_list (x : Wd) (S : ByteArray) : (x.s.toList == S.toList) = isL x S.data.toList := by unfold isL; rw [Lib.toList_data, Lib.toList_data]

theorem sgn_kind {x : Wd} {c : UInt8} (h : isSgn x c = true) : x.k = 5 := by
  unfold isSgn at h
  rw [Bool.and_eq_true, decide_eq_true_eq] at h
  exact h.1

theorem sgn_next {ws : List Wd} (hG : Gd ws) {i : Nat} {x : Wd} {c : UInt8} (hx : ws[i]? = some x) (h : isSgn x c = true) : i + 1 < ws.length := by
  obtain ⟨y, hy⟩ := hG.next hx (by rw [sgn_kind h]; decide)
  exact (List.getElem?_eq_some_iff.1 hy).1

end Go.Proofs.YtgmjhoppjjjilaaDoor
