/- maps from uint64, whatever their values are -/
import Derived.Test.YtmhpgbhmhbldfaaRowL
import Derived.Maps.OwnSet
import Derived.Maps.RangeWalk
import Derived.Maps.Keyed
import Derived.Maps.Views
import Derived.MapViews
namespace Go.Proofs.Ytmhpgbhmhbldfaa
open Go.ChangeShapes Go.WideShapes Go.ChangeAt Go.RowKit
open Go.Maps (Keyed)

section
variable {β : Type}

/-- laid among those that are there, by their numbers -/
def putU (a : Nat) (s : β) : List (Nat × β) → List (Nat × β)
  | [] => [(a, s)]
  | (b, t) :: r => if a < b then (a, s) :: (b, t) :: r else if a = b then (a, s) :: r else (b, t) :: putU a s r

def getU (a : Nat) : List (Nat × β) → Option β
  | [] => none
  | (b, t) :: r => if a = b then some t else getU a r

def delU (a : Nat) (l : List (Nat × β)) : List (Nat × β) := l.filter fun p => p.1 != a

def RisU (l : List (Nat × β)) : Prop := l.Pairwise fun x y => x.1 < y.1

theorem mem_putU {a : Nat} {s : β} : ∀ {l : List (Nat × β)} {p : Nat × β}, p ∈ putU a s l → p = (a, s) ∨ p ∈ l
  | [], p, h => by simpa [putU] using h
  | (b, t) :: r, p, h => by
    unfold putU at h
    split at h
    · simpa using h
    · split at h
      · rcases List.mem_cons.1 h with h | h
        · exact .inl h
        · exact .inr (List.mem_cons_of_mem _ h)
      · rcases List.mem_cons.1 h with h | h
        · exact .inr (by simp [h])
        · rcases mem_putU h with h | h
          · exact .inl h
          · exact .inr (List.mem_cons_of_mem _ h)

theorem ris_putU {a : Nat} {s : β} : ∀ {l : List (Nat × β)}, RisU l → RisU (putU a s l)
  | [], _ => by simp [putU, RisU]
  | (b, t) :: r, h => by
    obtain ⟨h1, h2⟩ := List.pairwise_cons.1 h
    unfold putU
    split
    · rename_i hab
      exact List.pairwise_cons.2 ⟨fun p hp => by
        rcases List.mem_cons.1 hp with rfl | hp
        · exact hab
        · exact Nat.lt_trans hab (h1 p hp), h⟩
    · split
      · rename_i hab; subst hab
        exact List.pairwise_cons.2 ⟨h1, h2⟩
      · exact List.pairwise_cons.2 ⟨fun p hp => by
          rcases mem_putU hp with rfl | hp
          · show b < a; omega
          · exact h1 p hp, ris_putU h2⟩

theorem ris_delU {a : Nat} {l : List (Nat × β)} (h : RisU l) : RisU (delU a l) := h.filter _

theorem putU_len {a : Nat} {s : β} : ∀ {l : List (Nat × β)}, (putU a s l).length ≤ l.length + 1
  | [] => by simp [putU]
  | (b, t) :: r => by
    have := putU_len (a := a) (s := s) (l := r)
    unfold putU
    split
    · simp
    · split
      · simp
      · simp; omega

theorem delU_len {a : Nat} {l : List (Nat × β)} : (delU a l).length ≤ l.length := List.length_filter_le _ _

theorem get_putU {a : Nat} {s : β} (c : Nat) : ∀ {l : List (Nat × β)}, getU c (putU a s l) = if c = a then some s else getU c l
  | [] => by simp [putU, getU]
  | (b, t) :: r => by
    unfold putU
    split
    · rename_i h; simp only [getU]
    · split
      · rename_i h; subst h; simp only [getU]
        split <;> simp_all
      · rename_i h
        simp only [getU, get_putU c (l := r)]
        by_cases hc : c = b
        · subst hc; rw [if_pos rfl, if_neg (fun e => h e.symm)]; simp
        · rw [if_neg hc, if_neg hc]

theorem get_delU {a : Nat} (c : Nat) : ∀ {l : List (Nat × β)}, getU c (delU a l) = if c = a then none else getU c l
  | [] => by simp [delU, getU]
  | (b, t) :: r => by
    have ih := get_delU (a := a) c (l := r)
    by_cases hb : b = a
    · subst hb
      have : delU b ((b, t) :: r) = delU b r := by simp [delU]
      rw [this, ih]
      by_cases hc : c = b
      · simp [hc]
      · simp [hc, getU]
    · have : delU a ((b, t) :: r) = (b, t) :: delU a r := by simp [delU, hb]
      rw [this]
      simp only [getU, ih]
      by_cases hc : c = b
      · subst hc; simp [hb]
      · simp [hc]

theorem getU_mem {a : Nat} {s : β} : ∀ {l : List (Nat × β)}, getU a l = some s → (a, s) ∈ l
  | (b, t) :: r, h => by
    unfold getU at h
    split at h
    · rename_i e; subst e; cases h; simp
    · exact List.mem_cons_of_mem _ (getU_mem h)

theorem getU_none {a : Nat} : ∀ {l : List (Nat × β)}, (∀ p ∈ l, p.1 ≠ a) → getU a l = none
  | [], _ => rfl
  | (b, t) :: r, h => by
    unfold getU
    rw [if_neg (fun e => h (b, t) (by simp) e.symm), getU_none (fun p hp => h p (List.mem_cons_of_mem _ hp))]

theorem getU_of_mem {l : List (Nat × β)} (hr : RisU l) {a : Nat} {s : β} (h : (a, s) ∈ l) : getU a l = some s := by
  induction l with
  | nil => cases h
  | cons p r ih =>
    obtain ⟨b, t⟩ := p
    obtain ⟨h1, h2⟩ := List.pairwise_cons.1 hr
    unfold getU
    rcases List.mem_cons.1 h with e | h
    · cases e; simp
    · rw [if_neg (fun e => by have := h1 _ h; simp at this; omega), ih h2 h]

theorem getU_some_iff {l : List (Nat × β)} {a : Nat} : (getU a l).isSome = true ↔ a ∈ l.map (·.1) := by
  induction l with
  | nil => simp [getU]
  | cons p r ih =>
    obtain ⟨b, t⟩ := p
    unfold getU
    by_cases h : a = b
    · simp [h]
    · rw [if_neg h]; simp [ih, h]

/-- two lists in order that answer alike are the same -/
theorem risU_ext : ∀ {l m : List (Nat × β)}, RisU l → RisU m → (∀ a, getU a l = getU a m) → l = m
  | [], [], _, _, _ => rfl
  | [], (b, t) :: r, _, _, h => by have := h b; simp [getU] at this
  | (b, t) :: r, [], _, _, h => by have := h b; simp [getU] at this
  | (b, t) :: r, (c, u) :: s, hl, hm, h => by
    obtain ⟨l1, l2⟩ := List.pairwise_cons.1 hl
    obtain ⟨m1, m2⟩ := List.pairwise_cons.1 hm
    have e : b = c := by
      have hb := h b; have hc := h c
      unfold getU at hb hc
      rw [if_pos rfl] at hb
      by_cases e : b = c
      · exact e
      · exfalso
        rw [if_neg e] at hb
        rw [if_pos rfl, if_neg (fun x => e x.symm)] at hc
        have x1 := m1 _ (getU_mem hb.symm)
        have x2 := l1 _ (getU_mem hc)
        simp at x1 x2; omega
    subst e
    have hb := h b
    simp only [getU, if_pos] at hb
    cases hb
    congr 1
    refine risU_ext l2 m2 fun a => ?_
    have ha := h a
    unfold getU at ha
    by_cases e : a = b
    · subst e
      rw [getU_none (fun p hp => by have := l1 p hp; simp at this; omega), getU_none (fun p hp => by have := m1 p hp; simp at this; omega)]
    · rwa [if_neg e, if_neg e] at ha

/-! what the memory's map of them reads as: a value is told by itself -/

/-- how a value of the map reads: as itself -/
def RH (v : Value) : Option (DataW Value × List MemPlace) := some (.held v, [])

def entU (V : Nat → β → Value) (p : Nat × β) : Lit × DataW Value := (.int .u64 (p.1 : Int), .held (V p.1 p.2))

def Du (V : Nat → β → Value) (l : List (Nat × β)) : DataW Value := .map (l.map (entU V))

variable {V : Nat → β → Value}

theorem sameU (b a : Nat) : (Lit.int .u64 (b : Int)).sameKey (.int .u64 (a : Int)) = decide (b = a) := by
  show decide _ = _
  apply decide_eq_decide.2
  constructor
  · rintro ⟨-, h⟩; omega
  · rintro rfl; exact ⟨rfl, rfl⟩

theorem find_entU (a : Nat) : ∀ l : List (Nat × β), (l.map (entU V)).find? (fun p => p.1.sameKey (.int .u64 (a : Int))) = (getU a l).map fun s => entU V (a, s)
  | [] => rfl
  | (b, t) :: r => by
    simp only [List.map_cons, List.find?_cons, getU]
    have e : (entU V (b, t)).1.sameKey (.int .u64 (a : Int)) = decide (b = a) := sameU b a
    rw [e]
    by_cases h : a = b
    · subst h; simp
    · rw [if_neg h]
      have : decide (b = a) = false := by simp; omega
      rw [this]
      exact find_entU a r

theorem du_at (a : Nat) (z : DataW Value) (l : List (Nat × β)) : (Du V l).atKey (.int .u64 (a : Int)) z = match getU a l with | some s => .held (V a s) | none => z := by
  unfold Du DataW.atKey
  simp only [find_entU]
  cases getU a l <;> rfl

theorem du_has (a : Nat) (l : List (Nat × β)) : Maps.has (Du V l) (.int .u64 (a : Int)) = (getU a l).isSome := by
  unfold Du
  rw [Maps.has_eq, ← List.isSome_find?, find_entU]
  cases getU a l <;> rfl

theorem du_size (l : List (Nat × β)) : Maps.size (Du V l) = l.length := by simp [Du, Maps.size_eq]

theorem entU_keep {a : Nat} {l : List (Nat × β)} (hl : ∀ p ∈ l, p.1 ≠ a) : (l.map (entU V)).filter (fun p => !p.1.sameKey (.int .u64 (a : Int))) = l.map (entU V) := by
  rw [List.filter_eq_self]
  intro q hq
  obtain ⟨p, hp, rfl⟩ := List.mem_map.1 hq
  have := hl p hp
  show (!(Lit.int .u64 (p.1 : Int)).sameKey (.int .u64 (a : Int))) = true
  rw [sameU]; simpa using this

theorem entU_del {a : Nat} {l : List (Nat × β)} : (l.map (entU V)).filter (fun p => !p.1.sameKey (.int .u64 (a : Int))) = (delU a l).map (entU V) := by
  unfold delU
  rw [List.filter_map]
  congr 1
  apply List.filter_congr
  intro p _
  show (!(Lit.int .u64 (p.1 : Int)).sameKey (.int .u64 (a : Int))) = _
  rw [sameU]
  by_cases h : p.1 = a <;> simp [h]

theorem before_entU (x y : Nat × β) : (entU V x).1.before (entU V y).1 = decide (x.1 < y.1) := by
  show decide ((x.1 : Int) < (y.1 : Int)) = _
  apply decide_eq_decide.2; omega

theorem put_entU {a : Nat} {s : β} : ∀ {l : List (Nat × β)}, RisU l → DataW.insert (entU V (a, s)) ((l.map (entU V)).filter (fun p => !p.1.sameKey (.int .u64 (a : Int)))) = (putU a s l).map (entU V)
  | [], _ => rfl
  | (b, t) :: r, h => by
    obtain ⟨h1, h2⟩ := List.pairwise_cons.1 h
    have ih := put_entU (a := a) (s := s) h2
    have e : (entU V (b, t)).1.sameKey (.int .u64 (a : Int)) = decide (b = a) := sameU b a
    have hlt : ∀ p ∈ r, b < p.1 := h1
    simp only [List.map_cons, List.filter_cons, e]
    unfold putU
    by_cases hab : a < b
    · have e1 : (!decide (b = a)) = true := by simp; omega
      rw [if_pos hab, if_pos e1, entU_keep (fun p hp e => by have := hlt p hp; omega)]
      unfold DataW.insert
      rw [before_entU, if_pos (by simpa using hab)]
      rfl
    · rw [if_neg hab]
      by_cases hab' : a = b
      · subst hab'
        have e1 : ¬ (!decide (a = a)) = true := by simp
        rw [if_pos rfl, if_neg e1, entU_keep (fun p hp e => by have := hlt p hp; omega)]
        match r, hlt with
        | [], _ => rfl
        | (c, u) :: r', h1 =>
          have := h1 (c, u) (by simp)
          simp only [List.map_cons]
          unfold DataW.insert
          rw [before_entU, if_pos (by simpa using this)]
      · have e1 : (!decide (b = a)) = true := by simp; omega
        rw [if_neg hab', if_pos e1]
        unfold DataW.insert
        rw [before_entU, if_neg (by simpa using Nat.le_of_not_lt hab), ih]
        rfl

theorem du_put {a : Nat} {s : β} {l : List (Nat × β)} (h : RisU l) : (Du V l).put (.int .u64 (a : Int)) (.held (V a s)) = Du V (putU a s l) := by
  unfold Du DataW.put
  exact congrArg DataW.map (put_entU h)

theorem du_del {a : Nat} {l : List (Nat × β)} : (Du V l).del (.int .u64 (a : Int)) = Du V (delU a l) := by
  unfold Du DataW.del
  exact congrArg DataW.map entU_del

/-! in memory -/

/-- block M is a map that holds just these -/
def OwnU (w : World) (M : Nat) (V : Nat → β → Value) (l : List (Nat × β)) : Prop := w.ownsMap Try.prog 26 RH M l.length (Du V l)

theorem key_u64 {a : Nat} (ha : a < 18446744073709551616) : keyOf Try.prog 26 (.int .u64 (a : Int)) = some (.int .u64 (a : Int)) :=
  Maps.keyOf_int_mk Try.underlying26 (by
    have e1 : IntKind.u64.min = 0 := by decide
    have e2 : IntKind.u64.max = 18446744073709551615 := by decide
    simp [Lit.wf, e1, e2]; omega)

theorem keyed_u64 : Keyed Try.prog 26 := Maps.int_keyed Try.underlying26

theorem own_exactU {w : World} {M n : Nat} {l : List (Nat × β)} (h : w.ownsMap Try.prog 26 RH M n (Du V l)) : OwnU w M V l := by
  obtain ⟨es, clock, hb, F, _, hD⟩ := h
  refine ⟨es, clock, hb, F, ?_, hD⟩
  have h1 := congrArg Maps.size hD
  rw [du_size, Maps.size_eq, length_sorted] at h1
  simp at h1; omega

theorem OwnU.lt {w : World} {M : Nat} {l : List (Nat × β)} (h : OwnU w M V l) : M < w.heap.size := World.ownsMap.lt h

theorem OwnU.made (w : World) : OwnU (w.alloc (.map #[] 0)) w.heap.size V [] := World.ownsMap_made w _ _ _

/-- it stays where its block does -/
theorem OwnU.keep {w w' : World} {M : Nat} {l : List (Nat × β)} (h : OwnU w M V l) (hb : w'.heap[M]? = w.heap[M]?) : OwnU w' M V l := by
  obtain ⟨es, clock, h1, r⟩ := h
  exact ⟨es, clock, hb.trans h1, r⟩

theorem OwnU.no_cells {w : World} {M : Nat} {l : List (Nat × β)} (h : OwnU w M V l) {cs : Array Value} {t : TypeId} {f : Nat × Nat} : w.heap[M]? ≠ some (.cells cs t f) := by
  obtain ⟨es, clock, h1, r⟩ := h
  rw [h1]; simp

/-- 'v, ok := m[a]' -/
theorem look_u {w : World} {M : Nat} {l : List (Nat × β)} {T e : TypeId} (h : OwnU w M V l) (hT : Try.prog.underlying T = some (.map 26 e)) {z : Value} (hz : (zeroValue e).run Try.prog w = .ok z w) {a : Nat} (ha : a < 18446744073709551616) (c : Bool) :
    (Instr.lookup T (.map (some M)) (.int .u64 (a : Int)) c).run Try.prog w = .ok (if c then .tuple #[((getU a l).map (V a)).getD z, .bool (getU a l).isSome] else ((getU a l).map (V a)).getD z) w := by
  obtain ⟨es, clock, hb, F, _, hD⟩ := h
  rcases Maps.fit_look c keyed_u64 hT hz hb F (key_u64 ha) with ⟨hrun, _, hat⟩ | ⟨e0, y, _, _, hrun, hRv, hat, _⟩
  · have h1 := hat .nil
    rw [← hD, du_at] at h1
    cases hg : getU a l with
    | some s => rw [hg] at h1; cases h1
    | none => rw [hrun]; rfl
  · unfold RH at hRv
    cases hRv
    have h1 := hat .nil
    rw [← hD, du_at] at h1
    cases hg : getU a l with
    | none => rw [hg] at h1; cases h1
    | some s' =>
      rw [hg] at h1
      simp only [DataW.held.injEq] at h1
      rw [hrun, ← h1]; rfl

/-- 'm[a] = v' -/
theorem put_u {w : World} {M : Nat} {l : List (Nat × β)} {T e : TypeId} (h : OwnU w M V l) (hT : Try.prog.underlying T = some (.map 26 e)) (hl : l.length < maxLen) (hr : RisU l) {a : Nat} (ha : a < 18446744073709551616) (s : β) :
    ∃ w', (Instr.mapUpdate T (.map (some M)) (.int .u64 (a : Int)) (V a s)).run Try.prog w = .ok () w' ∧ OwnU w' M V (putU a s l) ∧ w.grownBy w' (some M) := by
  obtain ⟨w', h1, h2, h3⟩ := World.ownsMap.update h keyed_u64 hT hl (key_u64 ha) (val := V a s) rfl
  rw [du_put hr] at h2
  exact ⟨w', h1, own_exactU h2, h3⟩

/-- 'delete(m, a)' -/
theorem del_u {w : World} {M : Nat} {l : List (Nat × β)} {T e : TypeId} (h : OwnU w M V l) (hT : Try.prog.underlying T = some (.map 26 e)) {a : Nat} (ha : a < 18446744073709551616) (ty : TypeId) :
    ∃ w', (Builtin.delete_ #[T, 26] ty #[.map (some M), .int .u64 (a : Int)]).run Try.prog w = .ok (.tuple #[]) w' ∧ OwnU w' M V (delU a l) ∧ w.grownBy w' (some M) := by
  obtain ⟨es, clock, hb, F, hs, hD⟩ := h
  obtain ⟨es', hrun, F', hs', hdel, _⟩ := Maps.fit_drop (ty := ty) keyed_u64 hT hb F (key_u64 ha)
  refine ⟨_, hrun, own_exactU (n := es'.size) ⟨es', clock, ChangeMaps.heap_setBlock_same hb _, F', Nat.le_refl _, ?_⟩, ⟨rfl, rfl, rfl, by simp [ChangeMaps.setBlock], fun i _ hi => ChangeMaps.heap_setBlock_other hb _ (fun e => hi (by rw [e]))⟩⟩
  rw [hdel, ← du_del, hD]
  rfl

theorem len_u {w : World} {M : Nat} {l : List (Nat × β)} {T e : TypeId} (h : OwnU w M V l) (hT : Try.prog.underlying T = some (.map 26 e)) (ty : TypeId) : (Builtin.len_ #[T] ty #[.map (some M)]).run Try.prog w = .ok (.int .i64 l.length) w := by
  obtain ⟨es, clock, hb, F, _, hD⟩ := h
  have h1 := congrArg Maps.size hD
  rw [du_size, Maps.size_eq, length_sorted] at h1
  have h2 : es.size = l.length := by simpa using h1.symm
  simp [Builtin.len_, run_underlying hT, MapKept.run_getObj_map hb, h2, Result.andThen, goInt]

/-- of the nil map -/
theorem look_nu {w : World} {T e : TypeId} (hT : Try.prog.underlying T = some (.map 26 e)) {z : Value} (hz : (zeroValue e).run Try.prog w = .ok z w) {a : Nat} (ha : a < 18446744073709551616) (c : Bool) :
    (Instr.lookup T (.map none) (.int .u64 (a : Int)) c).run Try.prog w = .ok (if c then .tuple #[z, .bool false] else z) w := Maps.look_nil c keyed_u64 hT hz (key_u64 ha)

theorem del_nu {w : World} {T e : TypeId} (hT : Try.prog.underlying T = some (.map 26 e)) {a : Nat} (ha : a < 18446744073709551616) (ty : TypeId) :
    (Builtin.delete_ #[T, 26] ty #[.map none, .int .u64 (a : Int)]).run Try.prog w = .ok (.tuple #[]) w := Maps.drop_nil keyed_u64 hT (key_u64 ha) ty

theorem OwnU.ris {w : World} {M : Nat} {l : List (Nat × β)} (h : OwnU w M V l) : RisU l := by
  obtain ⟨es, clock, hb, F, _, hD⟩ := h
  have h1 := Maps.sorted_sorted keyed_u64.one _ (Maps.fit_keys F) (Maps.fit_apart keyed_u64 F)
  simp only [Du, DataW.map.injEq] at hD
  rw [← hD, List.pairwise_map] at h1
  exact h1.imp fun {x y} h => by rw [before_entU] at h; simpa using h

end

end Go.Proofs.Ytmhpgbhmhbldfaa
