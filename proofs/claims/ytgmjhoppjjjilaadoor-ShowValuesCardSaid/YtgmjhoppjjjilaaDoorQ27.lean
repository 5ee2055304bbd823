/- PaX, SpK -/
import Derived.Test.YtgmjhoppjjjilaaDoorQ26
import Derived.Test.YtgmjhoppjjjilaaDoorQ25

/- parse: arguments and steps in memory -/
namespace Go.Proofs.YtgmjhoppjjjilaaDoor
open Go.ChangeShapes Go.WideShapes Go.ChangeAt Go.RowKit

/-- an argument, whose steps read by R -/
def RdArg (R : World → (Nat → Prop) → List Sp → Value → Prop) (w : World) (S : Nat → Prop) : Ag → Value → Prop
  | .mk k v p t, u => ∃ v0 v1 v2 v3 v4 v5 p0 p1 p2 tv, u = .agg #[.int .i64 k, v0, v1, v2, v3, v4, v5, p0, p1, p2, tv] ∧ RdS w S v (.agg #[v0, v1, v2, v3, v4, v5]) ∧ RdP w S p (.agg #[p0, p1, p2]) ∧ R w S t tv

/-- a step -/
def RdStp (R : World → (Nat → Prop) → List Sp → Value → Prop) (w : World) (S : Nat → Prop) : Sp → Value → Prop
  | .mk name args, u => ∃ av, u = .agg #[.string name, av] ∧ LstS (RdArg R) 11 w S args av

/-- steps, of no more than n within one another -/
def RdTr : Nat → World → (Nat → Prop) → List Sp → Value → Prop
  | 0, _, _, l, v => l = [] ∧ v = .slice none 0 0
  | n + 1, w, S, l, v => LstS (RdStp (RdTr n)) 2 w S l v

theorem keepS_Arg {R : World → (Nat → Prop) → List Sp → Value → Prop} (hR : KeepS R) : KeepS (RdArg R) := by
  rintro w w' S S' ⟨k, v, p, t⟩ u hw hS ⟨v0, v1, v2, v3, v4, v5, p0, p1, p2, tv, h1, h2, h3, h4⟩
  exact ⟨v0, v1, v2, v3, v4, v5, p0, p1, p2, tv, h1, keepS_T _ _ _ _ _ _ hw hS h2, keepS_Pd _ _ _ _ _ _ hw hS h3, hR _ _ _ _ _ _ hw hS h4⟩

theorem keepS_Stp {R : World → (Nat → Prop) → List Sp → Value → Prop} (hR : KeepS R) : KeepS (RdStp R) := by
  rintro w w' S S' ⟨name, args⟩ u hw hS ⟨av, h1, h2⟩
  exact ⟨av, h1, h2.keep (keepS_Arg hR) hw hS⟩

theorem keepS_Tr : ∀ n, KeepS (RdTr n)
  | 0 => fun _ _ _ _ _ _ _ _ h => h
  | n + 1 => keepS_L (keepS_Stp (keepS_Tr n))

theorem rdTr_nil : ∀ (n : Nat) (w : World) (S : Nat → Prop), RdTr n w S [] (.slice none 0 0)
  | 0, _, _ => ⟨rfl, rfl⟩
  | _ + 1, _, _ => .inl ⟨rfl, rfl⟩

theorem rdTr_shape : ∀ (n : Nat) (w : World) (S : Nat → Prop) (l : List Sp) (v : Value), RdTr n w S l v → ∃ A c, v = .slice A l.length c
  | 0, _, _, _, _, h => by obtain ⟨rfl, rfl⟩ := h; exact ⟨none, 0, rfl⟩
  | _ + 1, _, _, _, _, h => LstS.shape h

end Go.Proofs.YtgmjhoppjjjilaaDoor

namespace Go.Proofs.YtgmjhoppjjjilaaDoor
open Go.ChangeShapes Go.WideShapes Go.ChangeAt Go.RowKit Go.Fl
open Go.Shelf

theorem info_arg : (Tryd.prog.info? 40).map (fun i => (i.zero, i.size, i.bytes)) = some (some (.agg #[.int .i64 0, .int .i64 0, .bool false, .int .i64 0, .float .f64 0, .string ⟨#[]⟩, .slice none 0 0, .string ⟨#[]⟩, .slice none 0 0, .slice none 0 0, .slice none 0 0]), 11, 168) := by kernel_rfl

end Go.Proofs.YtgmjhoppjjjilaaDoor

namespace Go.Proofs.YtgmjhoppjjjilaaDoor
open Go

/-- no step is taken back, and there are no more than may be -/
def Up (s s' : Ps) : Prop := s.n ≤ s'.n ∧ (s.n ≤ 150 → s'.n ≤ 150)

theorem Up.refl (s : Ps) : Up s s := ⟨Nat.le_refl _, fun h => h⟩

theorem Up.trans {a b c : Ps} (h : Up a b) (k : Up b c) : Up a c := ⟨Nat.le_trans h.1 k.1, fun q => k.2 (h.2 q)⟩

theorem Up.at_ {s s' : Ps} (h : Up s s') (i : Nat) : Up s ⟨i, s'.n⟩ := h

section
variable {G : Nat → Wd}

theorem sevL_up {α : Type} {en : UInt8} {b : Wd → Bool} {rd : Nat → Ps → Rs α} (hrd : ∀ c s x s', rd c s = .ok x s' → Up s s') : ∀ (f : Nat) (l : List α) (s : Ps) (l' : List α) (s' : Ps), sevL G en b rd f l s = .ok l' s' → Up s s'
  | 0, _, _, _, _, h => by cases h
  | f + 1, l, s, l', s', h => by
    rw [sevL] at h
    split at h
    · cases h
    · split at h
      · cases h
      · split at h
        · cases h
        · rename_i hx
          have hu := hrd _ _ _ _ hx
          split at h
          · cases h; exact hu
          · split at h
            · have hv := sevL_up hrd f _ _ _ _ h
              exact ⟨Nat.le_trans hu.1 hv.1, fun q => hv.2 (hu.2 q)⟩
            · cases h

theorem sev_up {α : Type} {en : UInt8} {b : Wd → Bool} {rd : Nat → Ps → Rs α} (hrd : ∀ c s x s', rd c s = .ok x s' → Up s s') {s s' : Ps} {l : List α} (h : sev G en b rd s = .ok l s') : Up s s' := by
  unfold sev at h
  split at h
  · cases h; exact Up.refl _
  · exact sevL_up hrd _ _ _ _ _ h

theorem pVal_up : ∀ (k : Nat) (s : Ps) (t : T) (s' : Ps), pVal G k s = .ok t s' → Up s s'
  | 0, s, t, s', h => by
    rw [pVal] at h
    split at h
    · cases h
    · cases h; exact Up.refl _
  | k + 1, s, t, s', h => by
    rw [pVal] at h
    split at h
    · split at h
      · cases h
      · rename_i hs
        cases h
        exact (sev_up (fun _ s x s' hx => pVal_up k s x s' hx) hs : Up ⟨s.i + 1, s.n⟩ _)
    · cases h; exact Up.refl _

theorem pInner_up (k : Nat) (s : Ps) (t : T) (s' : Ps) (h : pInner G k s = .ok t s') : Up s s' := by
  cases k with
  | zero => cases h
  | succ k => exact pVal_up k s t s' h

theorem pArgV_up {k j : Nat} {most : Int} (c : Nat) (s : Ps) (t : T) (s' : Ps) (h : pArgV G k j most c s = .ok t s') : Up s s' := by
  unfold pArgV at h
  split at h
  · cases h
  · rename_i hs
    split at h
    · cases h
    · cases h; exact pInner_up _ _ _ _ hs

theorem pPlain_up {k : Nat} {s s' : Ps} {q : Pd} (h : pPlain G k s = .ok q s') : Up s s' := by
  unfold pPlain at h
  split at h
  · cases h
  · split at h
    · cases h
    · rename_i hs
      split at h
      · cases h
      · cases h; exact (sev_up pArgV_up hs : Up ⟨s.i + 2, s.n⟩ _)

theorem pJoin_up : ∀ (k : Nat) (out : Pd) (s : Ps) (q : Pd) (s' : Ps), pJoin G k out s = .ok q s' → Up s s'
  | 0, out, s, q, s', h => by
    rw [pJoin] at h
    split at h
    · cases h; exact Up.refl _
    · split at h <;> cases h
  | k + 1, out, s, q, s', h => by
    rw [pJoin] at h
    split at h
    · cases h; exact Up.refl _
    · split at h
      · cases h
      · split at h
        · cases h
        · split at h
          · split at h
            · cases h
            · exact pJoin_up k _ ⟨s.i + 4, s.n⟩ _ _ h
          · split at h
            · cases h
            · split at h
              · cases h
              · rename_i hp
                split at h
                · cases h
                · rename_i hq
                  split at h
                  · cases h
                  · have h1 : Up s _ := pPlain_up (s := ⟨s.i + 3, s.n⟩) hp
                    have h2 := pJoin_up k _ _ _ _ hq
                    have h3 := pJoin_up k _ _ _ _ h
                    exact ⟨Nat.le_trans (Nat.le_trans h1.1 h2.1) h3.1, fun q => h3.2 (h2.2 (h1.2 q))⟩

theorem pPred_up {k : Nat} {s s' : Ps} {q : Pd} (h : pPred G k s = .ok q s') : Up s s' := by
  unfold pPred at h
  split at h
  · cases h
  · rename_i hs
    exact (pPlain_up hs).trans (pJoin_up _ _ _ _ _ h)

theorem pStep_up {arg : Ps → Rs Ag} (ha : ∀ s x s', arg s = .ok x s' → Up s s') {s s' : Ps} {x : Sp} (h : pStep G arg s = .ok x s') : s.n + 1 ≤ s'.n ∧ (s.n ≤ 150 → s'.n ≤ 150) := by
  unfold pStep at h
  split at h
  · cases h
  · split at h
    · cases h
    · rename_i hn
      split at h
      · cases h
      · split at h
        · cases h
        · rename_i hs
          cases h
          have hu : Up ⟨s.i + 2, s.n + 1⟩ _ := sev_up (fun _ => ha) hs
          exact ⟨hu.1, fun hq => hu.2 (by show s.n + 1 ≤ 150; omega)⟩

theorem pChainL_up {arg : Ps → Rs Ag} (ha : ∀ s x s', arg s = .ok x s' → Up s s') : ∀ (f : Nat) (l : List Sp) (s : Ps) (l' : List Sp) (s' : Ps), pChainL G arg f l s = .ok l' s' → Up s s'
  | 0, _, _, _, _, h => by cases h
  | f + 1, l, s, l', s', h => by
    rw [pChainL] at h
    split at h
    · cases h; exact Up.refl _
    · split at h
      · cases h
      · rename_i hs
        have hu := pStep_up ha hs
        have hv := pChainL_up ha f _ _ _ _ h
        exact ⟨by have := hv.1; have := hu.1; simp at this; omega, fun hq => hv.2 (hu.2 hq)⟩

theorem pChain_up {arg : Ps → Rs Ag} (ha : ∀ s x s', arg s = .ok x s' → Up s s') {s s' : Ps} {l : List Sp} (h : pChain G arg s = .ok l s') : Up s s' := by
  unfold pChain at h
  split at h
  · cases h
  · rename_i hs
    have hu := pStep_up ha hs
    have hv := pChainL_up ha _ _ _ _ _ h
    exact ⟨by have := hv.1; have := hu.1; omega, fun hq => hv.2 (hu.2 hq)⟩

theorem pArg_up {k : Nat} {trav : Ps → Rs (List Sp)} (ht : ∀ s x s', trav s = .ok x s' → Up s s') (s : Ps) (x : Ag) (s' : Ps) (h : pArg G k trav s = .ok x s') : Up s s' := by
  unfold pArg at h
  split at h
  · split at h
    · cases h
    · rename_i hs; cases h; exact pVal_up _ _ _ _ hs
  · split at h
    · split at h
      · cases h
      · rename_i hs; cases h; exact pPred_up hs
    · split at h
      · cases h; exact Up.refl _
      · split at h
        · cases h
        · rename_i hs; cases h; exact ht _ _ _ hs

theorem pTrav_up : ∀ (k : Nat) (s : Ps) (l : List Sp) (s' : Ps), pTrav G k s = .ok l s' → Up s s'
  | 0, _, _, _, h => by cases h
  | k + 1, s, l, s', h => by
    rw [pTrav] at h
    have hu := pChain_up (fun s x s' => pArg_up (fun s x s' => pTrav_up k s x s') s x s') h
    split at hu
    · exact hu
    · exact hu

end

end Go.Proofs.YtgmjhoppjjjilaaDoor

namespace Go.Proofs.YtgmjhoppjjjilaaDoor
open Go.ChangeShapes Go.WideShapes Go.ChangeAt Go.RowKit Go.Fl
open Go.Shelf

section
variable {G : Nat → Wd} {arg : Ps → Rs Ag} {s s' : Ps} {l : List Ag}

theorem pStep_name (h : (G s.i).k ≠ 1) : pStep G arg s = .bad s.i 120 := by unfold pStep; exact if_pos h

theorem pStep_most (h : (G s.i).k = 1) (hn : s.n = 150) : pStep G arg s = .bad s.i 3 := by
  unfold pStep; rw [if_neg (by rw [h]; decide), if_pos hn]

theorem pStep_open (h : (G s.i).k = 1) (hn : s.n ≠ 150) (ho : isSgn (G (s.i + 1)) 40 = false) : pStep G arg s = .bad (s.i + 1) 120 := by
  unfold pStep; rw [if_neg (by rw [h]; decide), if_neg hn, if_pos ho]

theorem pStep_bad (h : (G s.i).k = 1) (hn : s.n ≠ 150) (ho : isSgn (G (s.i + 1)) 40 = true) {i : Nat} {e : Int} (hs : sev G 41 argA (fun _ => arg) ⟨s.i + 2, s.n + 1⟩ = .bad i e) : pStep G arg s = .bad i e := by
  unfold pStep; rw [if_neg (by rw [h]; decide), if_neg hn, if_neg (by rw [ho]; decide), hs]

theorem pStep_ok (h : (G s.i).k = 1) (hn : s.n ≠ 150) (ho : isSgn (G (s.i + 1)) 40 = true) (hs : sev G 41 argA (fun _ => arg) ⟨s.i + 2, s.n + 1⟩ = .ok l s') : pStep G arg s = .ok (.mk (G s.i).s l) s' := by
  unfold pStep; rw [if_neg (by rw [h]; decide), if_neg hn, if_neg (by rw [ho]; decide), hs]

end

section
variable {pb g cap : Nat} {ws : List Wd} {w : World} {rt : TypeId} {rc : Array Value} {tb : Nat} {y : Wd} {i d n i' d' n' : Nat} {W W' : World}

end

end Go.Proofs.YtgmjhoppjjjilaaDoor

/- the document's parser: arguments and steps: the plain mathematics, and what their calls come to -/
namespace Go.Proofs.YtgmjhoppjjjilaaDoor
open Go.ChangeShapes Go.WideShapes Go.ChangeAt Go.RowKit Go.Fl
open Go.Shelf

section
variable (G : Nat → Wd)

/-- an argument -/
def rArg (k : Nat) (trav : Ps → Rs (List Sp)) (s : Ps) : Rs Ag :=
  if argA (G s.i) = false then .bad s.i 120
  else if valA (G s.i) then
    match pVal G k s with
    | .bad i e => .bad i e
    | .ok v s' => .ok (.mk 1 v pz []) s'
  else if prdA (G s.i) && isSgn (G (s.i + 1)) 40 then
    match rPred G k s with
    | none => .bad s.i 120
    | some (p, s') => .ok (.mk 2 vz p []) s'
  else if isL (G s.i) txUU = false && isSgn (G (s.i + 1)) 40 = false then .ok (.mk 4 (.mk 4 false 0 0 (G s.i).s []) pz []) ⟨s.i + 1, s.n⟩
  else match trav s with
    | .bad i e => .bad i e
    | .ok l s' => .ok (.mk 3 vz pz l) s'

/-- a traversal, where k more may stand around it -/
def rTrav : Nat → Ps → Rs (List Sp)
  | 0, s => .bad s.i 3
  | k + 1, s => if isL (G s.i) txUU then (if isSgn (G (s.i + 1)) 46 then pChain G (rArg G k (rTrav k)) ⟨s.i + 2, s.n⟩ else .bad (s.i + 1) 120) else pChain G (rArg G k (rTrav k)) s

/-- .. without the two lines ahead of it -/
def rTrav0 : Nat → Ps → Rs (List Sp)
  | 0, s => .bad s.i 3
  | k + 1, s => pChain G (rArg G k (rTrav G k)) s

theorem rTrav_plain {k : Nat} {s : Ps} (h : isL (G s.i) txUU = false) : rTrav G k s = rTrav0 G k s := by
  cases k with
  | zero => rfl
  | succ k => rw [rTrav, rTrav0, if_neg (by rw [h]; decide)]

/-- a text's steps -/
def rText : Rs (List Sp) :=
  if isNam (G 0) txG = false then .bad 0 120
  else if isSgn (G 1) 46 = false then .bad 1 120
  else match pChain G (rArg G 12 (rTrav G 12)) ⟨2, 0⟩ with
    | .bad i e => .bad i e
    | .ok l s => if (G s.i).k = 0 then .ok l s else .bad s.i 120

end

section
variable {G : Nat → Wd}

theorem rPlain_up : ∀ {k : Nat} {s s' : Ps} {q : Pd}, rPlain G k s = some (q, s') → Up s s'
  | 0, _, _, _, h => by cases h
  | k + 1, s, s', q, h => by
    rw [rPlain] at h
    split at h
    · cases h
    · split at h
      · cases h
      · rename_i hs
        split at h
        · cases h
        · cases h; exact (sev_up (fun _ s x s' hx => pVal_up k s x s' hx) hs : Up ⟨s.i + 2, s.n⟩ _)

theorem rJoin_up : ∀ (k : Nat) (out : Pd) (s : Ps) (q : Pd) (s' : Ps), rJoin G k out s = some (q, s') → Up s s'
  | 0, out, s, q, s', h => by
    rw [rJoin] at h
    split at h
    · cases h; exact Up.refl _
    · cases h
  | k + 1, out, s, q, s', h => by
    rw [rJoin] at h
    split at h
    · cases h; exact Up.refl _
    · split at h
      · cases h
      · split at h
        · cases h
        · split at h
          · split at h
            · cases h
            · split at h
              · cases h
              · rename_i hp
                split at h
                · cases h
                · rename_i hq
                  split at h
                  · cases h
                  · have h1 : Up s _ := rPlain_up (s := ⟨s.i + 3, s.n⟩) hp
                    have h2 := rJoin_up k _ _ _ _ hq
                    have h3 := rJoin_up k _ _ _ _ h
                    exact ⟨Nat.le_trans (Nat.le_trans h1.1 h2.1) h3.1, fun q => h3.2 (h2.2 (h1.2 q))⟩
          · split at h
            · split at h
              · cases h
              · exact rJoin_up k _ ⟨s.i + 4, s.n⟩ _ _ h
            · cases h

theorem rPred_up {k : Nat} {s s' : Ps} {q : Pd} (h : rPred G k s = some (q, s')) : Up s s' := by
  unfold rPred at h
  split at h
  · cases h
  · split at h
    · cases h
    · rename_i hs
      exact (rPlain_up hs).trans (rJoin_up _ _ _ _ _ h)

theorem rArg_up {k : Nat} {trav : Ps → Rs (List Sp)} (ht : ∀ s x s', trav s = .ok x s' → Up s s') (s : Ps) (x : Ag) (s' : Ps) (h : rArg G k trav s = .ok x s') : Up s s' := by
  unfold rArg at h
  split at h
  · cases h
  · split at h
    · split at h
      · cases h
      · rename_i hs; cases h; exact pVal_up _ _ _ _ hs
    · split at h
      · split at h
        · cases h
        · rename_i hs; cases h; exact rPred_up hs
      · split at h
        · cases h; exact Up.refl _
        · split at h
          · cases h
          · rename_i hs; cases h; exact ht _ _ _ hs

theorem rTrav_up : ∀ (k : Nat) (s : Ps) (l : List Sp) (s' : Ps), rTrav G k s = .ok l s' → Up s s'
  | 0, _, _, _, h => by cases h
  | k + 1, s, l, s', h => by
    rw [rTrav] at h
    split at h
    · split at h
      · exact (pChain_up (fun s x s' => rArg_up (fun s x s' => rTrav_up k s x s') s x s') h : Up ⟨s.i + 2, s.n⟩ _)
      · cases h
    · exact pChain_up (fun s x s' => rArg_up (fun s x s' => rTrav_up k s x s') s x s') h

end

/-- what steps comes to, which the plain mathematics says to be r -/
def StpX (g cap : Nat) (ws : List Wd) (r : Rs (List Sp)) (n : Nat) (a : Int) (w : World) (z : Ending) (w' : World) : Prop :=
  ∃ (i3 d3 m3 a3 e3 : Int) (lA : Option Addr) (ll lc : Nat), z = .returned (.tuple #[StV g ws.length cap i3 d3 m3 a3 e3, .slice lA ll lc]) ∧ Below w.heap.size w w' ∧
    ((∃ l s, r = .ok l s ∧ i3 = (s.i : Nat) ∧ s.i < ws.length ∧ m3 = (s.n : Nat) ∧ a3 = a ∧ e3 = 0 ∧ RdTr n w' (fun b => w.heap.size ≤ b ∧ b < w'.heap.size) l (.slice lA ll lc)) ∨ ((∃ j c, r = .bad j c) ∧ e3 ≠ 0))

/-- steps, where k more may stand around it -/
def StepsC (g cap : Nat) (ws : List Wd) (k : Nat) : Prop := ∀ (w : World) (i d m : Nat) (a : Int) (x : Wd), WdsAt w g ws → ws[i]? = some x → d + k = 12 → m ≤ 150 →
  Calls Tryd.prog 28 #[StV g ws.length cap i d m a 0] w (StpX g cap ws (pChain (gx ws) (rArg (gx ws) k (rTrav (gx ws) k)) ⟨i, m⟩) (k + 1) a w)

/-- what arg comes to -/
def ArgP (g cap : Nat) (ws : List Wd) (k i : Nat) (d : Int) (m : Nat) (a : Int) (w : World) (z : Ending) (w' : World) : Prop :=
  ∃ (i3 d3 m3 a3 e3 ak kk : Int) (bb : Bool) (nn : Int) (ff : Nat) (ss : ByteArray) (lA : Option Addr) (ll lc : Nat) (op : ByteArray) (oA : Option Addr) (ol oc : Nat) (kA : Option Addr) (kl kc : Nat) (tA : Option Addr) (tl tc : Nat),
    z = .returned (.tuple #[StV g ws.length cap i3 d3 m3 a3 e3, .agg #[.int .i64 ak, .int .i64 kk, .bool bb, .int .i64 nn, .float .f64 ff, .string ss, .slice lA ll lc, .string op, .slice oA ol oc, .slice kA kl kc, .slice tA tl tc]]) ∧ Below w.heap.size w w' ∧
    ((∃ t s, rArg (gx ws) k (rTrav (gx ws) k) ⟨i, m⟩ = .ok t s ∧ i3 = (s.i : Nat) ∧ s.i < ws.length ∧ d3 = d ∧ m3 = (s.n : Nat) ∧ a3 = a ∧ e3 = 0 ∧ RdArg (RdTr k) w' (fun b => w.heap.size ≤ b ∧ b < w'.heap.size) t (.agg #[.int .i64 ak, .int .i64 kk, .bool bb, .int .i64 nn, .float .f64 ff, .string ss, .slice lA ll lc, .string op, .slice oA ol oc, .slice kA kl kc, .slice tA tl tc])) ∨
     ((∃ j c, rArg (gx ws) k (rTrav (gx ws) k) ⟨i, m⟩ = .bad j c) ∧ e3 ≠ 0))

/-- arg, where k more may stand around it -/
def ArgC (g cap : Nat) (ws : List Wd) (k : Nat) : Prop := ∀ (w : World) (i d m : Nat) (a : Int) (x : Wd), WdsAt w g ws → ws[i]? = some x → d + k = 12 → m ≤ 150 →
  Calls Tryd.prog 46 #[StV g ws.length cap i d m a 0] w (ArgP g cap ws k i d m a w)

theorem ele_cells {w : World} {b : Nat} {T : TypeId} {x0 x1 x2 x3 x4 x5 x6 x7 x8 x9 x10 : Value} (h : w.heap[b]? = some (.cells #[x0, x1, x2, x3, x4, x5, x6, x7, x8, x9, x10] T (0, 0))) :
    (w.cell? ⟨b, 0, none⟩ = some x0 ∧ w.cell? ⟨b, 1, none⟩ = some x1 ∧ w.cell? ⟨b, 2, none⟩ = some x2 ∧ w.cell? ⟨b, 3, none⟩ = some x3 ∧ w.cell? ⟨b, 4, none⟩ = some x4 ∧ w.cell? ⟨b, 5, none⟩ = some x5 ∧ w.cell? ⟨b, 6, none⟩ = some x6 ∧ w.cell? ⟨b, 7, none⟩ = some x7 ∧ w.cell? ⟨b, 8, none⟩ = some x8 ∧ w.cell? ⟨b, 9, none⟩ = some x9 ∧ w.cell? ⟨b, 10, none⟩ = some x10) ∧
    (∀ k, w.frozen? ⟨b, k, none⟩ = false) ∧ b < w.heap.size := by
  refine ⟨⟨?_, ?_, ?_, ?_, ?_, ?_, ?_, ?_, ?_, ?_, ?_⟩, fun k => by simp [World.frozen?, h], (Array.getElem?_eq_some_iff.1 h).1⟩
  all_goals (rw [cell_of_row _ _ _ _ _ _ h]; rfl)

theorem ele_done {w : World} {b : Nat} {T : TypeId} {x0 x1 x2 x3 x4 x5 x6 x7 x8 x9 x10 : Value} (h : w.heap[b]? = some (.cells #[x0, x1, x2, x3, x4, x5, x6, x7, x8, x9, x10] T (0, 0))) (u0 u1 u2 u3 u4 u5 u6 u7 u8 u9 u10 : Value) :
    (((((((((((w.setCell ⟨b, 0, none⟩ u0).setCell ⟨b, 1, none⟩ u1).setCell ⟨b, 2, none⟩ u2).setCell ⟨b, 3, none⟩ u3).setCell ⟨b, 4, none⟩ u4).setCell ⟨b, 5, none⟩ u5).setCell ⟨b, 6, none⟩ u6).setCell ⟨b, 7, none⟩ u7).setCell ⟨b, 8, none⟩ u8).setCell ⟨b, 9, none⟩ u9).setCell ⟨b, 10, none⟩ u10).heap[b]? = some (.cells #[u0, u1, u2, u3, u4, u5, u6, u7, u8, u9, u10] T (0, 0)) := by
  simp [World.setCell, Array.getElem?_modify, h]

theorem ele_far {w : World} {b c : Nat} (hne : b ≠ c) (v0 v1 v2 v3 v4 v5 v6 v7 v8 v9 v10 : Value) :
    (((((((((((w.setCell ⟨c, 0, none⟩ v0).setCell ⟨c, 1, none⟩ v1).setCell ⟨c, 2, none⟩ v2).setCell ⟨c, 3, none⟩ v3).setCell ⟨c, 4, none⟩ v4).setCell ⟨c, 5, none⟩ v5).setCell ⟨c, 6, none⟩ v6).setCell ⟨c, 7, none⟩ v7).setCell ⟨c, 8, none⟩ v8).setCell ⟨c, 9, none⟩ v9).setCell ⟨c, 10, none⟩ v10).heap[b]? = w.heap[b]? :=
  (Below.heap_setCell _ ⟨c, 10, none⟩ _ b hne).trans ((Below.heap_setCell _ ⟨c, 9, none⟩ _ b hne).trans ((Below.heap_setCell _ ⟨c, 8, none⟩ _ b hne).trans ((Below.heap_setCell _ ⟨c, 7, none⟩ _ b hne).trans ((Below.heap_setCell _ ⟨c, 6, none⟩ _ b hne).trans (six_far hne v0 v1 v2 v3 v4 v5)))))

theorem six_ele {w : World} {b c : Nat} {T T' : TypeId} {x0 x1 x2 x3 x4 x5 y0 y1 y2 y3 y4 y5 y6 y7 y8 y9 y10 : Value} (h : w.heap[b]? = some (.cells #[x0, x1, x2, x3, x4, x5] T (0, 0))) (h' : w.heap[c]? = some (.cells #[y0, y1, y2, y3, y4, y5, y6, y7, y8, y9, y10] T' (0, 0))) (hne : b ≠ c) (u0 u1 u2 u3 u4 u5 v0 v1 v2 v3 v4 v5 v6 v7 v8 v9 v10 : Value) :
    ((((((((((((((((((w.setCell ⟨b, 0, none⟩ u0).setCell ⟨b, 1, none⟩ u1).setCell ⟨b, 2, none⟩ u2).setCell ⟨b, 3, none⟩ u3).setCell ⟨b, 4, none⟩ u4).setCell ⟨b, 5, none⟩ u5).setCell ⟨c, 0, none⟩ v0).setCell ⟨c, 1, none⟩ v1).setCell ⟨c, 2, none⟩ v2).setCell ⟨c, 3, none⟩ v3).setCell ⟨c, 4, none⟩ v4).setCell ⟨c, 5, none⟩ v5).setCell ⟨c, 6, none⟩ v6).setCell ⟨c, 7, none⟩ v7).setCell ⟨c, 8, none⟩ v8).setCell ⟨c, 9, none⟩ v9).setCell ⟨c, 10, none⟩ v10)).heap[b]? = some (.cells #[u0, u1, u2, u3, u4, u5] T (0, 0)) ∧
    ((((((((((((((((((w.setCell ⟨b, 0, none⟩ u0).setCell ⟨b, 1, none⟩ u1).setCell ⟨b, 2, none⟩ u2).setCell ⟨b, 3, none⟩ u3).setCell ⟨b, 4, none⟩ u4).setCell ⟨b, 5, none⟩ u5).setCell ⟨c, 0, none⟩ v0).setCell ⟨c, 1, none⟩ v1).setCell ⟨c, 2, none⟩ v2).setCell ⟨c, 3, none⟩ v3).setCell ⟨c, 4, none⟩ v4).setCell ⟨c, 5, none⟩ v5).setCell ⟨c, 6, none⟩ v6).setCell ⟨c, 7, none⟩ v7).setCell ⟨c, 8, none⟩ v8).setCell ⟨c, 9, none⟩ v9).setCell ⟨c, 10, none⟩ v10)).heap[c]? = some (.cells #[v0, v1, v2, v3, v4, v5, v6, v7, v8, v9, v10] T' (0, 0)) :=
  ⟨(ele_far hne _ _ _ _ _ _ _ _ _ _ _).trans (six_done h _ _ _ _ _ _), ele_done ((six_far (fun e => hne e.symm) _ _ _ _ _ _).trans h') _ _ _ _ _ _ _ _ _ _ _⟩

theorem StpX.to {g cap : Nat} {ws : List Wd} {r r' : Rs (List Sp)} {n : Nat} {a : Int} {w : World} {z : Ending} {w' : World} (h : StpX g cap ws r n a w z w') (e : r = r') : StpX g cap ws r' n a w z w' := e ▸ h

/-- the words of a step's name: what is ahead of it -/
theorem steps_in {g cap : Nat} {ws : List Wd} {k : Nat} (hS : ∀ q, k = q + 1 → StepsC g cap ws q) (hE : ∀ (i d m a e : Int) (W : World), e ≠ 0 → Calls Tryd.prog 28 #[StV g ws.length cap i d m a e] W (fun z w' => ∃ lA ll lc, z = .returned (.tuple #[StV g ws.length cap i d m a e, .slice lA ll lc]) ∧ Below W.heap.size W w'))
    {W : World} {i d m : Nat} {x : Wd} {a d4 a4 e4 : Int} (hw : WdsAt W g ws) (hx : ws[i]? = some x) (hdk : d + k = 12) (hm : m ≤ 150) (h : k = 0 ∧ e4 ≠ 0 ∨ k ≠ 0 ∧ d4 = (d + 1 : Nat) ∧ a4 = a ∧ e4 = 0) :
    Calls Tryd.prog 28 #[StV g ws.length cap i d4 m a4 e4] W (StpX g cap ws (rTrav0 (gx ws) k ⟨i, m⟩) k a W) := by
  rcases h with ⟨rfl, he⟩ | ⟨hk, rfl, rfl, rfl⟩
  · refine (hE i d4 m a4 e4 W he).mono ?_
    rintro e w' ⟨lA, ll, lc, rfl, hb⟩
    exact ⟨_, _, _, _, _, _, _, _, rfl, hb, .inr ⟨⟨_, _, rfl⟩, he⟩⟩
  · obtain ⟨q, rfl⟩ : ∃ q, k = q + 1 := ⟨k - 1, by omega⟩
    exact (hS q rfl W i (d + 1) m a4 x hw hx (by omega) hm).mono (fun _ _ h => h.to rfl)

/-- .. and behind two lines and a point -/
theorem steps_uu {g cap : Nat} {ws : List Wd} (hG : Gd ws) {k : Nat} (hS : ∀ q, k = q + 1 → StepsC g cap ws q) (hE : ∀ (i d m a e : Int) (W : World), e ≠ 0 → Calls Tryd.prog 28 #[StV g ws.length cap i d m a e] W (fun z w' => ∃ lA ll lc, z = .returned (.tuple #[StV g ws.length cap i d m a e, .slice lA ll lc]) ∧ Below W.heap.size W w'))
    {W : World} {i d m : Nat} {x y : Wd} {a : Int} (hw : WdsAt W g ws) (hx : ws[i]? = some x) (hy : ws[i + 1]? = some y) (hu : isL x txUU = true) (hdk : d + k = 12) (hk : k ≠ 0) (hm : m ≤ 150) :
    ∃ i5 a5 e5 : Int, Calls Tryd.prog 27 #[StV g ws.length cap (i + 1 : Nat) (d + 1 : Nat) m a 0, .string ⟨#[46]⟩] W (fun z w' => z = .returned (StV g ws.length cap i5 (d + 1 : Nat) m a5 e5) ∧ Below W.heap.size W w') ∧
      ∀ W', WdsAt W' g ws → Calls Tryd.prog 28 #[StV g ws.length cap i5 (d + 1 : Nat) m a5 e5] W' (StpX g cap ws (rTrav (gx ws) k ⟨i, m⟩) k a W') := by
  obtain ⟨q, rfl⟩ : ∃ q, k = q + 1 := ⟨k - 1, by omega⟩
  have hgx : isL (gx ws i) txUU = true := by rw [gx_of hx]; exact hu
  cases h : isSgn y 46
  · refine ⟨_, _, _, sign_no hw hy _ m a 46 h, fun W' hw' => ?_⟩
    refine (hE _ _ _ _ _ W' (by decide)).mono ?_
    rintro e w' ⟨lA, ll, lc, rfl, hb⟩
    refine ⟨_, _, _, _, _, _, _, _, rfl, hb, .inr ⟨⟨i + 1, 120, ?_⟩, by decide⟩⟩
    rw [rTrav, if_pos hgx, if_neg (by rw [gx_of hy]; show ¬ isSgn y 46 = true; rw [h]; decide)]
  · obtain ⟨y2, hy2⟩ := hG.next hy (by
      unfold isSgn at h
      rw [Bool.and_eq_true, decide_eq_true_iff] at h
      rw [h.1]; decide)
    refine ⟨_, _, _, sign_yes hw hy hG.few _ m a 46 h, fun W' hw' => ?_⟩
    refine (hS q rfl W' (i + 1 + 1) (d + 1) m a y2 hw' hy2 (by omega) hm).mono (fun _ _ h' => h'.to ?_)
    rw [rTrav, if_pos hgx, if_pos (by rw [gx_of hy]; exact h)]

end Go.Proofs.YtgmjhoppjjjilaaDoor
