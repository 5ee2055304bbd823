/- a device of sectors: plain mathematics -/
import Derived.Test.YtbdjdeddghdefaaInts
import Derived.Maps.Keyed
import Derived.Maps.Views
import Derived.MapViews
import Derived.Lib.SlKeysI
namespace Go.Proofs.Ytbdjdeddghdefaa
open Go.ChangeShapes Go.WideShapes Go.ChangeAt Go.RowKit

/-- a sector's bytes -/
abbrev Sec := List UInt8

/-- a sector laid among those that are loose, by their places -/
def putL (a : Nat) (s : Sec) : List (Nat × Sec) → List (Nat × Sec)
  | [] => [(a, s)]
  | (b, t) :: r => if a < b then (a, s) :: (b, t) :: r else if a = b then (a, s) :: r else (b, t) :: putL a s r

/-- the loose sector at a place -/
def getL (a : Nat) : List (Nat × Sec) → Option Sec
  | [] => none
  | (b, t) :: r => if a = b then some t else getL a r

/-- by their places -/
def RisL (l : List (Nat × Sec)) : Prop := l.Pairwise fun x y => x.1 < y.1

theorem mem_putL {a : Nat} {s : Sec} : ∀ {l : List (Nat × Sec)} {p : Nat × Sec}, p ∈ putL a s l → p = (a, s) ∨ p ∈ l
  | [], p, h => by simpa [putL] using h
  | (b, t) :: r, p, h => by
    unfold putL at h
    split at h
    · simpa using h
    · split at h
      · rcases List.mem_cons.1 h with h | h
        · exact .inl h
        · exact .inr (List.mem_cons_of_mem _ h)
      · rcases List.mem_cons.1 h with h | h
        · exact .inr (by simp [h])
        · rcases mem_putL h with h | h
          · exact .inl h
          · exact .inr (List.mem_cons_of_mem _ h)

theorem ris_putL {a : Nat} {s : Sec} : ∀ {l : List (Nat × Sec)}, RisL l → RisL (putL a s l)
  | [], _ => by simp [putL, RisL]
  | (b, t) :: r, h => by
    obtain ⟨h1, h2⟩ := List.pairwise_cons.1 h
    unfold putL
    split
    · rename_i hab
      exact List.pairwise_cons.2 ⟨fun p hp => by
        rcases List.mem_cons.1 hp with rfl | hp
        · exact hab
        · exact Nat.lt_trans hab (h1 p hp), h⟩
    · split
      · rename_i hab; subst hab
        exact List.pairwise_cons.2 ⟨h1, h2⟩
      · exact List.pairwise_cons.2 ⟨fun p hp => by
          rcases mem_putL hp with rfl | hp
          · show b < a; omega
          · exact h1 p hp, ris_putL h2⟩

theorem putL_len {a : Nat} {s : Sec} : ∀ {l : List (Nat × Sec)}, (putL a s l).length ≤ l.length + 1
  | [] => by simp [putL]
  | (b, t) :: r => by
    have := putL_len (a := a) (s := s) (l := r)
    unfold putL
    split
    · simp
    · split
      · simp
      · simp; omega

theorem get_putL {a : Nat} {s : Sec} (c : Nat) : ∀ {l : List (Nat × Sec)}, getL c (putL a s l) = if c = a then some s else getL c l
  | [] => by simp [putL, getL]
  | (b, t) :: r => by
    unfold putL
    split
    · rename_i h; simp only [getL]
    · split
      · rename_i h; subst h; simp only [getL]
        split <;> simp_all
      · rename_i h
        simp only [getL, get_putL c (l := r)]
        by_cases hc : c = b
        · subst hc; rw [if_pos rfl, if_neg (fun e => h e.symm)]; simp
        · rw [if_neg hc, if_neg hc]

theorem getL_mem {a : Nat} {s : Sec} : ∀ {l : List (Nat × Sec)}, getL a l = some s → (a, s) ∈ l
  | (b, t) :: r, h => by
    unfold getL at h
    split at h
    · rename_i e; subst e; cases h; simp
    · exact List.mem_cons_of_mem _ (getL_mem h)

theorem getL_none {a : Nat} : ∀ {l : List (Nat × Sec)}, (∀ p ∈ l, p.1 ≠ a) → getL a l = none
  | [], _ => rfl
  | (b, t) :: r, h => by
    unfold getL
    rw [if_neg (fun e => h (b, t) (by simp) e.symm), getL_none (fun p hp => h p (List.mem_cons_of_mem _ hp))]

theorem getL_of_mem {l : List (Nat × Sec)} (hr : RisL l) {a : Nat} {s : Sec} (h : (a, s) ∈ l) : getL a l = some s := by
  induction l with
  | nil => cases h
  | cons p r ih =>
    obtain ⟨b, t⟩ := p
    obtain ⟨h1, h2⟩ := List.pairwise_cons.1 hr
    unfold getL
    rcases List.mem_cons.1 h with e | h
    · cases e; simp
    · rw [if_neg (fun e => by have := h1 _ h; simp at this; omega), ih h2 h]

/-! what the memory's map of them reads as -/

/-- an entry's reading -/
def ent (p : Nat × Sec) : Lit × DataW Unit := (.int .i64 (p.1 : Int), .lit (.string p.2))

/-- the reading -/
def Dm (l : List (Nat × Sec)) : DataW Unit := .map (l.map ent)

theorem sameK (b a : Nat) : (Lit.int .i64 (b : Int)).sameKey (.int .i64 (a : Int)) = decide (b = a) := by
  show decide _ = _
  apply decide_eq_decide.2
  constructor
  · rintro ⟨-, h⟩; omega
  · rintro rfl; exact ⟨rfl, rfl⟩

theorem find_ent (a : Nat) : ∀ l : List (Nat × Sec), (l.map ent).find? (fun p => p.1.sameKey (.int .i64 (a : Int))) = (getL a l).map fun s => ent (a, s)
  | [] => rfl
  | (b, t) :: r => by
    simp only [List.map_cons, List.find?_cons, getL]
    have e : (ent (b, t)).1.sameKey (.int .i64 (a : Int)) = decide (b = a) := sameK b a
    rw [e]
    by_cases h : a = b
    · subst h; simp
    · rw [if_neg h]
      have : decide (b = a) = false := by simp; omega
      rw [this]
      exact find_ent a r

theorem dm_at (a : Nat) (z : DataW Unit) (l : List (Nat × Sec)) : (Dm l).atKey (.int .i64 (a : Int)) z = match getL a l with | some s => .lit (.string s) | none => z := by
  unfold Dm DataW.atKey
  simp only [find_ent]
  cases getL a l <;> rfl

theorem dm_has (a : Nat) (l : List (Nat × Sec)) : Maps.has (Dm l) (.int .i64 (a : Int)) = (getL a l).isSome := by
  unfold Dm
  rw [Maps.has_eq, ← List.isSome_find?, find_ent]
  cases getL a l <;> rfl

theorem dm_size (l : List (Nat × Sec)) : Maps.size (Dm l) = l.length := by simp [Dm, Maps.size_eq]

theorem dm_keys (l : List (Nat × Sec)) : intKeys (Dm l) = l.map fun p => (p.1 : Int) := by
  simp only [Dm, intKeys, List.map_map]
  rfl

theorem ent_keep {a : Nat} {l : List (Nat × Sec)} (hl : ∀ p ∈ l, p.1 ≠ a) : (l.map ent).filter (fun p => !p.1.sameKey (.int .i64 (a : Int))) = l.map ent := by
  rw [List.filter_eq_self]
  intro q hq
  obtain ⟨p, hp, rfl⟩ := List.mem_map.1 hq
  have := hl p hp
  show (!(Lit.int .i64 (p.1 : Int)).sameKey (.int .i64 (a : Int))) = true
  rw [sameK]; simpa using this

theorem before_ent (x y : Nat × Sec) : (ent x).1.before (ent y).1 = decide (x.1 < y.1) := by
  show decide ((x.1 : Int) < (y.1 : Int)) = _
  apply decide_eq_decide.2; omega

theorem put_ent {a : Nat} {s : Sec} : ∀ {l : List (Nat × Sec)}, RisL l → DataW.insert (ent (a, s)) ((l.map ent).filter (fun p => !p.1.sameKey (.int .i64 (a : Int)))) = (putL a s l).map ent
  | [], _ => rfl
  | (b, t) :: r, h => by
    obtain ⟨h1, h2⟩ := List.pairwise_cons.1 h
    have ih := put_ent (a := a) (s := s) h2
    have e : (ent (b, t)).1.sameKey (.int .i64 (a : Int)) = decide (b = a) := sameK b a
    have hlt : ∀ p ∈ r, b < p.1 := h1
    simp only [List.map_cons, List.filter_cons, e]
    unfold putL
    by_cases hab : a < b
    · have e1 : (!decide (b = a)) = true := by simp; omega
      rw [if_pos hab, if_pos e1, ent_keep (fun p hp e => by have := hlt p hp; omega)]
      unfold DataW.insert
      rw [before_ent, if_pos (by simpa using hab)]
      rfl
    · rw [if_neg hab]
      by_cases hab' : a = b
      · subst hab'
        have e1 : ¬ (!decide (a = a)) = true := by simp
        rw [if_pos rfl, if_neg e1, ent_keep (fun p hp e => by have := hlt p hp; omega)]
        match r, hlt with
        | [], _ => rfl
        | (c, u) :: r', h1 =>
          have := h1 (c, u) (by simp)
          simp only [List.map_cons]
          unfold DataW.insert
          rw [before_ent, if_pos (by simpa using this)]
      · have e1 : (!decide (b = a)) = true := by simp; omega
        rw [if_neg hab', if_pos e1]
        unfold DataW.insert
        rw [before_ent, if_neg (by simpa using Nat.le_of_not_lt hab), ih]
        rfl

theorem dm_put {a : Nat} {s : Sec} {l : List (Nat × Sec)} (h : RisL l) : (Dm l).put (.int .i64 (a : Int)) (.lit (.string s)) = Dm (putL a s l) := by
  unfold Dm DataW.put
  exact congrArg DataW.map (put_ent h)

theorem keys_sorted {l : List (Nat × Sec)} (hr : RisL l) {ss : List Int} (h : ss.Perm (l.map fun p => (p.1 : Int))) : ss.mergeSort (fun x y => decide (x ≤ y)) = l.map fun p => (p.1 : Int) := by
  have hs : (ss.mergeSort (fun x y => decide (x ≤ y))).Pairwise (fun x y => x ≤ y) := by
    have := List.pairwise_mergeSort (le := fun x y : Int => decide (x ≤ y)) (by intro a b c; simp; omega) (by intro a b; simp; omega) ss
    exact this.imp (by intro a b; simp)
  have hl : (l.map fun p => (p.1 : Int)).Pairwise (fun x y => x ≤ y) := by
    rw [List.pairwise_map]
    exact hr.imp (by intro a b h; omega)
  exact List.Perm.eq_of_pairwise (by intro a b _ _ h1 h2; omega) hs hl ((List.mergeSort_perm ss _).trans h)

/-! what is done -/

/-- a fall -/
structure Fal where
  at_ : Int
  keep : Nat
  torn : Int

/-- a device -/
structure Dv where
  sure : List Sec
  loose : List (Nat × Sec)
  plan : List Fal
  steps : Int
  off : Bool

/-- the loose sectors, and what is left of them -/
def crashL (keep : Nat) : Nat → Nat → List (Nat × Sec) → List Sec → List Sec
  | _, _, [], u => u
  | i, left, (a, s) :: r, u =>
    if (keep >>> min i 63) % 2 = 1 then crashL keep (i + 1) left r (u.set a s)
    else crashL keep (i + 1) 0 r (u.set a (s.take left ++ (u.getD a []).drop left))

/-- so many bytes of the first one that is lost are there -/
def cutT (torn : Int) : Nat := (max 0 (min torn 128)).toNat

/-- the power fails -/
def crashD (d : Dv) (keep : Nat) (torn : Int) : Dv :=
  if d.off then d else { d with sure := crashL keep 0 (cutT torn) d.loose d.sure, loose := [], off := true }

/-- a step; false: the power fails ahead of it -/
def stepP (d : Dv) : List Fal → Dv × Bool
  | [] => ({ d with plan := [], steps := wrap64 (d.steps + 1) }, true)
  | f :: r =>
    if f.at_ ≤ d.steps then
      if f.at_ = d.steps then (crashD { d with plan := r } f.keep f.torn, false) else stepP d r
    else ({ d with plan := f :: r, steps := wrap64 (d.steps + 1) }, true)

def stepD (d : Dv) : Dv × Bool := stepP d d.plan

/-- what is loose, in its places; but those that are left -/
def flushP (left : Nat → Bool) (l : List (Nat × Sec)) (u : List Sec) : List Sec := u.mapIdx fun i s => if left i then s else (getL i l).getD s

/-- a flush, behind its step -/
def flushD (d : Dv) : Dv := { d with sure := flushP (fun _ => false) d.loose d.sure, loose := [] }

theorem flushP_len (left : Nat → Bool) (l : List (Nat × Sec)) (u : List Sec) : (flushP left l u).length = u.length := by simp [flushP]

theorem flushP_start {left : Nat → Bool} {l : List (Nat × Sec)} (h : ∀ i, left i = (getL i l).isSome) (u : List Sec) : flushP left l u = u := by
  apply List.ext_getElem?
  intro i
  simp only [flushP, List.getElem?_mapIdx]
  cases hi : u[i]? with
  | none => rfl
  | some s =>
    simp only [Option.map_some, h i]
    cases getL i l <;> simp

theorem flushP_done {left : Nat → Bool} {l : List (Nat × Sec)} (h : ∀ i, left i = false) (u : List Sec) : flushP left l u = flushP (fun _ => false) l u := by
  unfold flushP; simp [h]

theorem flushP_step {left left' : Nat → Bool} {l : List (Nat × Sec)} {a : Nat} {s : Sec} (ha : getL a l = some s) (h' : ∀ i, left' i = (left i && !decide (i = a))) (u : List Sec) :
    (flushP left l u).set a s = flushP left' l u := by
  apply List.ext_getElem?
  intro i
  rw [List.getElem?_set]
  simp only [flushP, List.length_mapIdx, List.getElem?_mapIdx, h' i]
  by_cases hia : a = i
  · subst hia
    simp only [if_pos, ha]
    by_cases hl : a < u.length
    · simp [hl]
    · simp [hl]
  · rw [if_neg hia]
    have : (decide (i = a)) = false := by simp; omega
    rw [this]; simp

theorem crashL_yes {keep i left a : Nat} {s : Sec} {r : List (Nat × Sec)} {u : List Sec} (h : (keep >>> min i 63) % 2 = 1) : crashL keep i left ((a, s) :: r) u = crashL keep (i + 1) left r (u.set a s) := by
  conv => lhs; unfold crashL
  rw [if_pos h]

theorem crashL_no {keep i left a : Nat} {s : Sec} {r : List (Nat × Sec)} {u : List Sec} (h : ¬ (keep >>> min i 63) % 2 = 1) : crashL keep i left ((a, s) :: r) u = crashL keep (i + 1) 0 r (u.set a (s.take left ++ (u.getD a []).drop left)) := by
  conv => lhs; unfold crashL
  rw [if_neg h]

theorem crashL_len (keep : Nat) : ∀ (i left : Nat) (l : List (Nat × Sec)) (u : List Sec), (crashL keep i left l u).length = u.length
  | _, _, [], u => rfl
  | i, left, (a, s) :: r, u => by
    unfold crashL
    split <;> rw [crashL_len] <;> simp

theorem cutT_le (torn : Int) : cutT torn ≤ 128 := by unfold cutT; omega

end Go.Proofs.Ytbdjdeddghdefaa
