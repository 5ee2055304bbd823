/- loops over functions that have boxes and loops of their own: whose block is whose -/
import Derived.RangeFuncNested
import Derived.RangeFuncBound
import Derived.RangeFuncCalls
import Derived.RangeFuncLeaves
import Derived.RangeFuncBox
import Derived.Shelf.Abstract
import Derived.Shelf.RegionOpen
import Derived.WalkKit
import Derived.OwnWalkIn
import Derived.TacticsInMore
import Derived.LoopNIn
import Derived.LoopIn
namespace Go.Proofs.Ytmhpgbhmhbldfaa
open Go.RowKit Go.Shelf

/-- of the blocks that were there only mine turn -/
structure Turn (mine : Nat → Prop) (W W' : World) : Prop where
  os : W'.os = W.os
  tape : W'.tape = W.tape
  output : W'.output = W.output
  size : W.heap.size ≤ W'.heap.size
  keep : ∀ b, b < W.heap.size → ¬ mine b → W'.heap[b]? = W.heap[b]?

theorem Turn.refl (mine : Nat → Prop) (W : World) : Turn mine W W := ⟨rfl, rfl, rfl, Nat.le_refl _, fun _ _ _ => rfl⟩
theorem Turn.of_below {mine : Nat → Prop} {W W' : World} (h : Below W.heap.size W W') : Turn mine W W' := ⟨h.os, h.tape, h.output, h.size, fun b hb _ => h.block b hb⟩
theorem Turn.of_grown {mine : Nat → Prop} {W W' : World} {row : Option Nat} (h : W.grownBy W' row) (hr : ∀ r, row = some r → mine r) : Turn mine W W' :=
  ⟨h.os, h.tape, h.output, h.size, fun b hb hn => h.block b hb fun e => hn (hr b e.symm)⟩

/-- what speaks of none of my blocks: it abides whatever I do with mine, and new blocks of mine -/
def Clos {α : Type} (J : (Nat → Prop) → List α → World → Prop) : Prop :=
  ∀ (mine mine' : Nat → Prop) pre W W', J mine pre W → Turn mine W W' → (∀ b, mine' b → mine b ∨ (W.heap.size ≤ b ∧ b < W'.heap.size)) → J mine' pre W'

/-- these blocks lie as they lay -/
def Hold (keep : Nat → Prop) (W W' : World) : Prop := W.heap.size ≤ W'.heap.size ∧ ∀ b, keep b → b < W.heap.size → W'.heap[b]? = W.heap[b]?

theorem Hold.refl (keep : Nat → Prop) (W : World) : Hold keep W W := ⟨Nat.le_refl _, fun _ _ _ => rfl⟩
theorem Hold.imp' {keep keep' : Nat → Prop} {A B : World} (h : Hold keep A B) (k : ∀ b, keep' b → keep b) : Hold keep' A B := ⟨h.1, fun b hb hl => h.2 b (k b hb) hl⟩
theorem Hold.trans {keep : Nat → Prop} {A B C : World} (h : Hold keep A B) (k : Hold keep B C) : Hold keep A C := ⟨Nat.le_trans h.1 k.1, fun b hb hl => (k.2 b hb (Nat.lt_of_lt_of_le hl h.1)).trans (h.2 b hb hl)⟩

variable {F : Fence} {n : Nat} {P : Program}

/-- a function that is ranged over: it reads the blocks `read`, it turns none but its own, and comes to all xs with S, or is stopped behind some with Sp -/
def Iter {α : Type} (F : Fence) (n : Nat) (P : Program) (g : Nat) (lb : Array Value) (encs : α → Array Value) (S Sp : List α → Prop) (N : Nat) (read : Nat → Prop) (W0 : World) : Prop :=
  ∀ (l : Nat) (J Jx : (Nat → Prop) → List α → World → Prop) (mine : Nat → Prop) (W : World), Clos J → Clos Jx → Hold read W0 W →
    (∀ mine pre x W1, J mine pre W1 → pre.length < N → YieldAt F (n - 1) P l (encs x) W1 fun e W' =>
      (e = .returned (.bool true) ∧ J mine (pre ++ [x]) W' ∧ Hold (fun b => mine b ∨ read b) W1 W') ∨ (e = .returned (.bool false) ∧ Jx mine (pre ++ [x]) W' ∧ Hold (fun b => mine b ∨ read b) W1 W')) →
    J mine [] W → (∀ b, mine b → b < W.heap.size) →
    CallsIn F n P g (#[.func (.yield l) #[] #[]] ++ lb) W fun e W' => (∃ v, e = .returned v) ∧ ((∃ xs mine', S xs ∧ J mine' xs W') ∨ (∃ pre mine', Sp pre ∧ Jx mine' pre W'))

/-- how a loop's body may be left -/
def BodyPost {α : Type} (B : Nat) (keep : Nat → Prop) (I : List α → World → Prop) (Ix : Code → List α → World → Prop) (xs : List α) (W : World) : Exit → Act → World → Prop
  | .normal, _, W' => Hold (fun b => (b = B ∨ b = B + 1) ∨ keep b) W W' ∧ I xs W'
  | .ret, _, W' => Hold (fun b => (b = B ∨ b = B + 1) ∨ keep b) W W' ∧ Ix .ret xs W'
  | .exit id, _, W' => Hold (fun b => (b = B ∨ b = B + 1) ∨ keep b) W W' ∧ Ix (.exit id) xs W'
  | .goto t, _, W' => Hold (fun b => (b = B ∨ b = B + 1) ∨ keep b) W W' ∧ Ix (.goto t) xs W'
  | .panic _, _, _ => False
  | .outgrown, _, _ => False

/-- the loop's two blocks may turn -/
def Recs {α : Type} (B : Nat) (I : (Nat → Prop) → List α → World → Prop) : Prop :=
  ∀ mine pre W W', I mine pre W → Turn (fun b => b = B ∨ b = B + 1) W W' → W'.heap.size = W.heap.size → I mine pre W'

theorem turn_put {B : Nat} {W : World} {l : Nat} (o : Obj) (hl : l = B ∨ l = B + 1) : Turn (fun b => b = B ∨ b = B + 1) W (W.putObj l o) :=
  ⟨rfl, rfl, rfl, by simp, fun b _ hb => World.putObj_heap_other fun e => hb (by rw [e]; exact hl)⟩

/-- a loop over such a function -/
theorem wpIn_range_iter {α : Type} {g : Operand} {ps : Array Tmp} {assign body : Code} {Q : Exit → Act → World → Prop} {a : Act} {w : World}
    (hro : F.round = none) (h1 : 1 ≤ n) {gf : Nat} {lb : Array Value} (hg : a.eval g = .func (.func gf) #[] lb) (hFg : F.fn gf) (eg : ∀ args w, (callFunc gf args).run P w = .ok (.enter gf args) w)
    {encs : α → Array Value} {S Sp : List α → Prop} {N : Nat} {read : Nat → Prop} (hit : Iter F (n - 1) P gf lb encs S Sp N read w) (hread : ∀ b, read b → b < w.heap.size) (hps : ∀ x, (encs x).size = ps.size)
    (I : (Nat → Prop) → List α → World → Prop) (Ix : Code → (Nat → Prop) → List α → World → Prop) (hI : Clos I) (hIx : ∀ c, Clos (Ix c)) (hIr : Recs w.heap.size I) (hIxr : ∀ c, Recs w.heap.size (Ix c)) (h0 : I (fun _ => False) [] w) (a₁ : α → Act)
    (hassign : ∀ (l : Nat) (x : α) (W : World) (K : Act → World → Prop), K (a₁ x) W →
      assign.wpIn (F.inRound l) (n - 1 - 1) P (Exit.then K (fun _ _ _ => False)) { tmps := (ps.zip (encs x)).foldl (fun t (p, v) => t.setIfInBounds p v) a.tmps, defers := [] } W)
    (hbody : ∀ (l : Nat) (mine : Nat → Prop) (pre : List α) (x : α) (W : World), I mine pre W → w.heap.size + 2 ≤ W.heap.size → pre.length < N → body.wpIn (F.inRound l) (n - 1 - 1) P (BodyPost w.heap.size (fun b => mine b ∨ read b) (I mine) (fun c => Ix c mine) (pre ++ [x]) W) (a₁ x) W)
    (hdone : ∀ (mine : Nat → Prop) (xs : List α) (W : World), S xs → I mine xs W → W.heap[w.heap.size]? = some (.deferred (some [])) → Q .normal { a with defers := { target := .collected w.heap.size, args := #[] } :: a.defers } W)
    (hstop : ∀ (c : Code) (mine : Nat → Prop) (pre : List α) (W : World), Sp pre → Ix c mine pre W → W.heap[w.heap.size]? = some (.deferred (some [])) → c.wpIn F n P Q { a with defers := { target := .collected w.heap.size, args := #[] } :: a.defers } W) :
    (Code.rangeFunc g ps assign body).wpIn F n P Q a w := by
  refine wpIn_rangeFunc ?_
  intro fn hfn
  rw [hro]
  obtain ⟨mk, hmk⟩ : ∃ mk : LoopState → Option Code → Loop, mk = fun st pe => { state := st, pending := pe, fn, tmps := a.tmps, params := ps, assign, body, defers := w.heap.size } := ⟨_, rfl⟩
  obtain ⟨V, hV⟩ : ∃ V, (w.alloc (.deferred (some []))).alloc (.loop (mk .ready none)) = V := ⟨_, rfl⟩
  have hbV : Below w.heap.size w V := hV ▸ (((Below.refl _ w).alloc (Nat.le_refl _) _).alloc (by simp) _)
  have hzV : V.heap.size = w.heap.size + 2 := by rw [← hV]; simp
  have hL : V.heap[w.heap.size + 1]? = some (.loop (mk .ready none)) := by
    have := World.alloc_heap_new (w.alloc (.deferred (some []))) (.loop (mk .ready none))
    rw [World.size_alloc] at this
    exact hV ▸ this
  have hD : V.heap[w.heap.size]? = some (.deferred (some [])) := by
    rw [← hV]; exact (Below.heap_alloc _ _ _ (by simp)).trans (World.alloc_heap_new w _)
  have hIV : I (fun _ => False) [] V := hI _ _ _ _ _ h0 (Turn.of_below hbV) (fun b h => h.elim)
  refine ⟨w.heap.size + 1, [{ target := .collected w.heap.size, args := #[] }], V, { target := .fn (.func gf) lb, args := #[.func (.yield (w.heap.size + 1)) #[] #[]] }, V, gf,
    #[.func (.yield (w.heap.size + 1)) #[] #[]] ++ lb, V, ?_, ?_, ?_, ?_, fun _ => h1, ?_⟩
  · rw [← hV, hmk]; exact run_enterLoop_outer _ _ _ _ _
  · simp only [resolve, hg]
    simp [go_sem]
  · intro f' hf'; simp [Target.leads] at hf'; subst hf'; exact hFg
  · simp [invoke, go_sem, eg]
  · -- the two blocks of the loop: nobody else's
    have hClos : ∀ {K : (Nat → Prop) → List α → World → Prop} {o : Obj}, Clos K → Clos (fun mine pre W => K mine pre W ∧ W.heap[w.heap.size + 1]? = some o ∧ W.heap[w.heap.size]? = some (.deferred (some [])) ∧ ¬ mine w.heap.size ∧ ¬ mine (w.heap.size + 1)) := by
      rintro K o hK mine mine' pre W W' ⟨h1, h2, h3, h4, h5⟩ ht hm
      have l2 := (Array.getElem?_eq_some_iff.1 h2).1
      have l3 := (Array.getElem?_eq_some_iff.1 h3).1
      exact ⟨hK _ _ _ _ _ h1 ht hm, (ht.keep _ l2 h5).trans h2, (ht.keep _ l3 h4).trans h3, fun h => by rcases hm _ h with h | h; exact h4 h; omega, fun h => by rcases hm _ h with h | h; exact h5 h; omega⟩
    have hClosX : Clos (fun mine pre W => ∃ c, Ix c mine pre W ∧ W.heap[w.heap.size + 1]? = some (.loop (mk .done (some c))) ∧ W.heap[w.heap.size]? = some (.deferred (some [])) ∧ ¬ mine w.heap.size ∧ ¬ mine (w.heap.size + 1)) := by
      rintro mine mine' pre W W' ⟨c, h⟩ ht hm
      exact ⟨c, hClos (hIx c) mine mine' pre W W' h ht hm⟩
    refine (hit (w.heap.size + 1) _ _ (fun _ => False) V (hClos (o := .loop (mk .ready none)) hI) hClosX ⟨hbV.size, fun b _ hb => hbV.block b hb⟩ ?_ ⟨hIV, hL, hD, id, id⟩ (fun b h => h.elim)).mono ?_
    · -- a round
      rintro mine pre x W ⟨hi, hl, hd, hm1, hm2⟩ hlen
      have hlt := (Array.getElem?_eq_some_iff.1 hl).1
      have hlt2 := (Array.getElem?_eq_some_iff.1 hd).1
      have hy := run_yield (P := P) (args := encs x) hl (by rw [hmk]; exact hps x)
      rw [hmk] at hy
      refine ⟨fn, _, assign, body, hy, roundIn_of_wpIn hfn (hassign _ x W _ ⟨_, run_beginRound hl (by rw [hmk]), ?_⟩)⟩
      obtain ⟨Wb, hWb⟩ : ∃ Wb, W.putObj (w.heap.size + 1) (.loop { mk .ready none with state := .busy }) = Wb := ⟨_, rfl⟩
      rw [hWb]
      have hsz : Wb.heap.size = W.heap.size := by rw [← hWb]; simp
      have hib : I mine pre Wb := hIr _ _ _ _ hi (hWb ▸ turn_put _ (.inr rfl)) hsz
      have hlb : Wb.heap[w.heap.size + 1]? = some (.loop { mk .ready none with state := .busy }) := by rw [← hWb]; exact World.putObj_heap_same hlt
      have hdb : Wb.heap[w.heap.size]? = some (.deferred (some [])) := by rw [← hWb]; exact (World.putObj_heap_other (by omega)).trans hd
      have hk : ∀ b, (mine b ∨ read b) → b ≠ w.heap.size + 1 := fun b hb e => by
        subst e
        rcases hb with hb | hb
        · exact hm2 hb
        · have := hread _ hb; omega
      have hhb : Hold (fun b => mine b ∨ read b) W Wb := ⟨by omega, fun b hb _ => by rw [← hWb]; exact World.putObj_heap_other (hk b hb)⟩
      -- a round's end
      have hend : ∀ (jump : Option Code) (X : World), Hold (fun b => (b = w.heap.size ∨ b = w.heap.size + 1) ∨ (mine b ∨ read b)) Wb X →
          (Instr.endRound (w.heap.size + 1) jump).run P X = .ok (.bool jump.isNone) (X.putObj (w.heap.size + 1) (.loop (mk (if jump.isNone then .ready else .done) jump))) ∧
          (X.putObj (w.heap.size + 1) (.loop (mk (if jump.isNone then .ready else .done) jump))).heap[w.heap.size + 1]? = some (.loop (mk (if jump.isNone then .ready else .done) jump)) ∧
          (X.putObj (w.heap.size + 1) (.loop (mk (if jump.isNone then .ready else .done) jump))).heap[w.heap.size]? = some (.deferred (some [])) := fun jump X hX => by
        have hlX := (hX.2 _ (.inl (.inr rfl)) (Array.getElem?_eq_some_iff.1 hlb).1).trans hlb
        have hr := run_endRound (P := P) jump hlX
        rw [hmk] at hr ⊢
        exact ⟨hr, World.putObj_heap_same (Array.getElem?_eq_some_iff.1 hlX).1, (World.putObj_heap_other (by omega)).trans ((hX.2 _ (.inl (.inl rfl)) (Array.getElem?_eq_some_iff.1 hdb).1).trans hdb)⟩
      refine wpIn_mono (hbody _ mine pre x _ hib (by omega) hlen) ?_
      rintro e a3 X hp
      have hgo : ∀ c, Hold (fun b => (b = w.heap.size ∨ b = w.heap.size + 1) ∨ (mine b ∨ read b)) Wb X → Ix c mine (pre ++ [x]) X → ∃ v X', (Instr.endRound (w.heap.size + 1) (some c)).run P X = .ok v X' ∧ ((Ending.returned v = .returned (.bool false) ∧ (fun mine pre W => ∃ c, Ix c mine pre W ∧ W.heap[w.heap.size + 1]? = some (.loop (mk .done (some c))) ∧ W.heap[w.heap.size]? = some (.deferred (some [])) ∧ ¬ mine w.heap.size ∧ ¬ mine (w.heap.size + 1)) mine (pre ++ [x]) X' ∧ Hold (fun b => mine b ∨ read b) W X')) := fun c hX hx => by
        obtain ⟨e1, e2, e3⟩ := hend (some c) X hX
        exact ⟨_, _, e1, rfl, ⟨c, hIxr c _ _ _ _ hx (turn_put _ (.inr rfl)) (by simp), e2, e3, hm1, hm2⟩, hhb.trans (Hold.trans ⟨hX.1, fun b hb hl => hX.2 b (.inr hb) hl⟩ ⟨by simp, fun b hb _ => World.putObj_heap_other (hk b hb)⟩)⟩
      cases e with
      | normal =>
        obtain ⟨hX, hx⟩ := hp
        have hh : Hold (fun b => mine b ∨ read b) Wb X := ⟨hX.1, fun b hb hl => hX.2 b (.inr hb) hl⟩
        obtain ⟨e1, e2, e3⟩ := hend none X hX
        refine ⟨_, _, e1, .inl ⟨rfl, ⟨hIr _ _ _ _ hx (turn_put _ (.inr rfl)) (by simp), e2, e3, hm1, hm2⟩, hhb.trans (hh.trans ⟨by simp, fun b hb _ => World.putObj_heap_other (hk b hb)⟩)⟩⟩
      | ret =>
        obtain ⟨v, X', q1, q2⟩ := hgo .ret hp.1 hp.2
        exact ⟨v, X', q1, .inr q2⟩
      | exit id =>
        obtain ⟨v, X', q1, q2⟩ := hgo (.exit id) hp.1 hp.2
        exact ⟨v, X', q1, .inr q2⟩
      | goto t =>
        obtain ⟨v, X', q1, q2⟩ := hgo (.goto t) hp.1 hp.2
        exact ⟨v, X', q1, .inr q2⟩
      | panic ch => exact hp.elim
      | outgrown => exact hp.elim
    · -- behind the function
      rintro e X ⟨⟨v, rfl⟩, (⟨xs, mine, hS, hi, hl, hd, -, -⟩ | ⟨pre, mine, hSp, c, hi, hl, hd, -, -⟩)⟩
      · exact ⟨none, _, by have := run_endLoop (P := P) hl (by rw [hmk]; simp); rw [hmk] at this; exact this, hdone mine xs _ hS (hIr _ _ _ _ hi (turn_put _ (.inr rfl)) (by simp)) ((World.putObj_heap_other (by omega)).trans hd)⟩
      · exact ⟨some c, _, by have := run_endLoop (P := P) hl (by rw [hmk]; simp); rw [hmk] at this; exact this, hstop c mine pre _ hSp (hIxr c _ _ _ _ hi (turn_put _ (.inr rfl)) (by simp)) ((World.putObj_heap_other (by omega)).trans hd)⟩

/-- .. the frame of a round found by the walk -/
theorem wpIn_range_iter2 {α : Type} {g : Operand} {ps : Array Tmp} {assign body : Code} {Q : Exit → Act → World → Prop} {a : Act} {w : World}
    (hro : F.round = none) (h1 : 1 ≤ n) {gf : Nat} {lb : Array Value} (hg : a.eval g = .func (.func gf) #[] lb) (hFg : F.fn gf) (eg : ∀ args w, (callFunc gf args).run P w = .ok (.enter gf args) w)
    {encs : α → Array Value} {S Sp : List α → Prop} {N : Nat} {read : Nat → Prop} (hit : Iter F (n - 1) P gf lb encs S Sp N read w) (hread : ∀ b, read b → b < w.heap.size) (hps : ∀ x, (encs x).size = ps.size)
    (I : (Nat → Prop) → List α → World → Prop) (Ix : Code → (Nat → Prop) → List α → World → Prop) (hI : Clos I) (hIx : ∀ c, Clos (Ix c)) (hIr : Recs w.heap.size I) (hIxr : ∀ c, Recs w.heap.size (Ix c)) (h0 : I (fun _ => False) [] w)
    (hround : ∀ x, ∃ a1 : Act, (∀ (l : Nat) (W : World) (K : Act → World → Prop), K a1 W → assign.wpIn (F.inRound l) (n - 1 - 1) P (Exit.then K (fun _ _ _ => False)) { tmps := (ps.zip (encs x)).foldl (fun t (p, v) => t.setIfInBounds p v) a.tmps, defers := [] } W) ∧
      (∀ (l : Nat) (mine : Nat → Prop) (pre : List α) (W : World), I mine pre W → w.heap.size + 2 ≤ W.heap.size → pre.length < N → body.wpIn (F.inRound l) (n - 1 - 1) P (BodyPost w.heap.size (fun b => mine b ∨ read b) (I mine) (fun c => Ix c mine) (pre ++ [x]) W) a1 W))
    (hdone : ∀ (mine : Nat → Prop) (xs : List α) (W : World), S xs → I mine xs W → W.heap[w.heap.size]? = some (.deferred (some [])) → Q .normal { a with defers := { target := .collected w.heap.size, args := #[] } :: a.defers } W)
    (hstop : ∀ (c : Code) (mine : Nat → Prop) (pre : List α) (W : World), Sp pre → Ix c mine pre W → W.heap[w.heap.size]? = some (.deferred (some [])) → c.wpIn F n P Q { a with defers := { target := .collected w.heap.size, args := #[] } :: a.defers } W) :
    (Code.rangeFunc g ps assign body).wpIn F n P Q a w :=
  wpIn_range_iter hro h1 hg hFg eg hit hread hps I Ix hI hIx hIr hIxr h0 (fun x => (hround x).choose) (fun l x W K hK => (hround x).choose_spec.1 l W K hK) (fun l mine pre x W h1 h2 h3 => (hround x).choose_spec.2 l mine pre W h1 h2 h3) hdone hstop

end Go.Proofs.Ytmhpgbhmhbldfaa
