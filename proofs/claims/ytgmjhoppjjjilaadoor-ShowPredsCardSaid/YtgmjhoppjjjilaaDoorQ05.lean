/- LxM, LayN -/
import Derived.Lib.ParseIntB
import Derived.Lib.Itoa
import Derived.Lib.ItoaNum
import Derived.Shelf.Strconv.ErrVarParseInt
import Derived.Shelf.Strconv.Itoa4
import Derived.Shelf.Strings.Prefix
import Derived.Shelf.Strings.Search1
import Derived.Shelf.Strconv.ToErrorRange
import Derived.Shelf.Strconv.Lower
import Derived.Test.YtgmjhoppjjjilaaDoorProg

/- words: the plain mathematics -/
namespace Go.Proofs.YtgmjhoppjjjilaaDoor
open Go

def digB (c : UInt8) : Bool := decide (48 ≤ c.toNat) && decide (c.toNat ≤ 57)

def letB (c : UInt8) : Bool := (decide (97 ≤ c.toNat) && decide (c.toNat ≤ 122)) || (decide (65 ≤ c.toNat) && decide (c.toNat ≤ 90))

def namB (c : UInt8) : Bool := letB c || digB c || decide (c.toNat = 95)

def plnB (c : UInt8) : Bool := decide (32 ≤ c.toNat) && decide (c.toNat ≤ 126)

def spcB (c : UInt8) : Bool := decide (c.toNat = 32)

/-- where a run of such bytes ends that goes on at k -/
def runP (P : UInt8 → Bool) (l : List UInt8) (k : Nat) : Nat := k + ((l.drop k).takeWhile P).length

theorem runP_step {P : UInt8 → Bool} {l : List UInt8} {k : Nat} (h : k < l.length) (hp : P l[k] = true) : runP P l k = runP P l (k + 1) := by
  unfold runP
  rw [List.drop_eq_getElem_cons h, List.takeWhile_cons_of_pos hp, List.length_cons]
  omega

theorem runP_stop {P : UInt8 → Bool} {l : List UInt8} {k : Nat} (h : k < l.length) (hp : P l[k] = false) : runP P l k = k := by
  unfold runP
  rw [List.drop_eq_getElem_cons h, List.takeWhile_cons_of_neg (by simp [hp]), List.length_nil]
  rfl

theorem runP_end {P : UInt8 → Bool} {l : List UInt8} {k : Nat} (h : l.length ≤ k) : runP P l k = k := by
  unfold runP
  rw [List.drop_eq_nil_of_le h]
  rfl

theorem runP_ge (P : UInt8 → Bool) (l : List UInt8) (k : Nat) : k ≤ runP P l k := by unfold runP; omega

theorem runP_le {P : UInt8 → Bool} {l : List UInt8} {k : Nat} (h : k ≤ l.length) : runP P l k ≤ l.length := by
  unfold runP
  have := (List.takeWhile_prefix (l := l.drop k) P).length_le
  rw [List.length_drop] at this
  omega

/-- a word, without its place -/
structure Wd where
  k : Int
  s : ByteArray
  n : Int
  f : Nat
  at_ : Nat

def wdNone : Wd := ⟨0, ⟨#[]⟩, 0, 0, 0⟩

def ofL (l : List UInt8) : ByteArray := ⟨l.toArray⟩

def nameO (l : List UInt8) : Option (Wd × Nat) :=
  if runP namB l 0 = 0 ∨ 16 < runP namB l 0 then none else some (⟨1, ofL (l.take (runP namB l 0)), 0, 0, 0⟩, runP namB l 0)

def numL (l : List UInt8) : List UInt8 := l.take (runP digB l 1)

def numO (l : List UInt8) : Option (Wd × Nat) :=
  match Lib.parseIntB 64 (numL l) with
  | .ok v => if Lib.itoa v = numL l then some (⟨2, ofL (numL l), v, 0, 0⟩, runP digB l 1) else none
  | .syntax => none
  | .range => none

/-- the place of a byte in 0123456789abcdef -/
def hexI (c : UInt8) : Option Nat := if 48 ≤ c.toNat ∧ c.toNat ≤ 57 then some (c.toNat - 48) else if 97 ≤ c.toNat ∧ c.toNat ≤ 102 then some (c.toNat - 87) else none

/-- the byte of a digit's number -/
def hexC (n : Nat) : UInt8 := if n < 10 then UInt8.ofNat (48 + n) else UInt8.ofNat (87 + n)

/-- the first byte that is said within a text, and how many say it -/
def bytO (l : List UInt8) : Option (UInt8 × Nat) :=
  match l with
  | [] => none
  | c :: r =>
    if plnB c = false then none
    else if c ≠ 92 then some (c, 1)
    else match r with
      | [] => none
      | d :: r => if d = 39 ∨ d = 92 then some (d, 2)
        else if d ≠ 120 then none
        else match r with
          | x :: y :: _ => match hexI x, hexI y with
            | some i, some j => some (UInt8.ofNat (16 * i + j), 4)
            | _, _ => none
          | _ => none

theorem bytO_le {l : List UInt8} {c : UInt8} {n : Nat} (h : bytO l = some (c, n)) : 0 < n ∧ n ≤ l.length := by
  unfold bytO at h
  split at h
  · cases h
  · rename_i c' r
    split at h
    · cases h
    · split at h
      · injection h with h; injection h with _ h; subst h; simp
      · split at h
        · cases h
        · rename_i d r
          split at h
          · injection h with h; injection h with _ h; subst h; simp
          · split at h
            · cases h
            · split at h
              · rename_i x y r
                split at h
                · injection h with h; injection h with _ h; subst h; simp
                · cases h
              · cases h

/-- a text between quotes, from at on; acc: what was said ahead -/
def txtGo : Nat → List UInt8 → List UInt8 → Nat → Option (List UInt8 × Nat)
  | 0, _, _, _ => none
  | fu + 1, l, acc, a =>
    match l.drop a with
    | [] => none
    | c :: r =>
      if c = 39 then (if 500 < acc.length then none else some (acc, a + 1))
      else match bytO (c :: r) with
        | none => none
        | some (b, n) => txtGo fu l (acc ++ [b]) (a + n)

def txtO (l : List UInt8) : Option (Wd × Nat) :=
  match txtGo l.length l [] 1 with
  | none => none
  | some (t, n) => some (⟨4, ofL t, 0, 0, 0⟩, n)

theorem txtGo_le : ∀ (fu : Nat) (l acc : List UInt8) (a : Nat) (t : List UInt8) (n : Nat), txtGo fu l acc a = some (t, n) → a < n ∧ n ≤ l.length ∧ t.length ≤ 500
  | 0, _, _, _, _, _, h => by cases h
  | fu + 1, l, acc, a, t, n, h => by
    rw [txtGo] at h
    split at h
    · cases h
    · rename_i c r hd
      have hl : a < l.length := by
        rcases Nat.lt_or_ge a l.length with h' | h'
        · exact h'
        · rw [List.drop_eq_nil_of_le h'] at hd; cases hd
      have hlen := congrArg List.length hd
      rw [List.length_drop] at hlen
      split at h
      · split at h
        · cases h
        · injection h with h; injection h with h1 h2; subst h1; subst h2; exact ⟨by omega, by omega, by omega⟩
      · split at h
        · cases h
        · rename_i b m hb
          have := bytO_le hb
          have := txtGo_le fu l _ _ t n h
          omega

/-- the number of a digit to the base 16, as strconv reads it: great letters, too -/
def hexU (c : UInt8) : Option Nat := if 48 ≤ c.toNat ∧ c.toNat ≤ 57 then some (c.toNat - 48) else if 97 ≤ c.toNat ∧ c.toNat ≤ 102 then some (c.toNat - 87) else if 65 ≤ c.toNat ∧ c.toNat ≤ 70 then some (c.toNat - 55) else none

def hexGo : List UInt8 → Nat → Option Nat
  | [], a => some a
  | c :: r, a => match hexU c with
    | none => none
    | some d => hexGo r (a * 16 + d)

/-- the sixteen digits of a word -/
def hex16 (n : Nat) : Nat → List UInt8
  | 0 => []
  | k + 1 => hex16 (n / 16) k ++ [hexC (n % 16)]

def fltL (n : Nat) : List UInt8 := [102, 39] ++ hex16 n 16 ++ [39]

/-- cn: the word that Canon makes of one -/
def fltO (cn : Nat → Nat) (l : List UInt8) : Option (Wd × Nat) :=
  if l.length < 19 then none
  else match hexGo ((l.take 18).drop 2) 0 with
    | none => none
    | some b => if fltL (cn b) = l.take 19 then some (⟨3, ofL (l.take 19), 0, b, 0⟩, 19) else none

def sgnW (c : UInt8) : Bool := decide (c.toNat = 46) || decide (c.toNat = 40) || decide (c.toNat = 41) || decide (c.toNat = 44) || decide (c.toNat = 91) || decide (c.toNat = 93)

/-- the word at the beginning of bytes -/
def readO (cn : Nat → Nat) (l : List UInt8) : Option (Wd × Nat) :=
  match l with
  | [] => none
  | c :: r =>
    if [102, 39].isPrefixOf (c :: r) then fltO cn (c :: r)
    else if c = 39 then txtO (c :: r)
    else if c = 45 ∨ digB c = true then numO (c :: r)
    else if sgnW c = true then some (⟨5, ofL [c], 0, 0, 0⟩, 1)
    else nameO (c :: r)

/-- what is told of bytes: a word of some kind, or none; names and signs are what stands there -/
def Tells (l : List UInt8) (o : Option (Wd × Nat)) : Prop := ∀ x n, o = some (x, n) → 0 < n ∧ n ≤ l.length ∧ 1 ≤ x.k ∧ x.k ≤ 5 ∧ ((x.k = 1 ∨ x.k = 5) → x.s = ofL (l.take n))

theorem name_tells (l : List UInt8) : Tells l (nameO l) := by
  intro x n h
  unfold nameO at h
  split at h
  · cases h
  · have := runP_le (P := namB) (l := l) (k := 0) (Nat.zero_le _)
    injection h with h; injection h with h1 h2; subst h1; subst h2
    exact ⟨by omega, by omega, by simp, by simp, fun _ => rfl⟩

theorem num_tells (l : List UInt8) (hl : l ≠ []) : Tells l (numO l) := by
  intro x n h
  have hp : 0 < l.length := List.length_pos_iff.2 hl
  have := runP_le (P := digB) (l := l) (k := 1) hp
  have := runP_ge digB l 1
  unfold numO at h
  split at h
  · split at h
    · injection h with h; injection h with h1 h2; subst h1; subst h2
      exact ⟨by omega, by omega, by simp, by simp, fun e => by simp at e⟩
    · cases h
  · cases h
  · cases h

theorem txt_tells (l : List UInt8) : Tells l (txtO l) := by
  intro x n h
  unfold txtO at h
  split at h
  · cases h
  · rename_i t m he
    injection h with h; injection h with h1 h2; subst h1; subst h2
    have := txtGo_le _ _ _ _ _ _ he
    exact ⟨by omega, by omega, by simp, by simp, fun e => by simp at e⟩

theorem flt_tells (cn : Nat → Nat) (l : List UInt8) : Tells l (fltO cn l) := by
  intro x n h
  unfold fltO at h
  split at h
  · cases h
  · split at h
    · cases h
    · split at h
      · injection h with h; injection h with h1 h2; subst h1; subst h2
        exact ⟨by omega, by omega, by simp, by simp, fun e => by simp at e⟩
      · cases h

theorem read_tells (cn : Nat → Nat) (l : List UInt8) : Tells l (readO cn l) := by
  unfold readO
  split
  · intro x n h; cases h
  · split
    · exact flt_tells cn _
    · split
      · exact txt_tells _
      · split
        · exact num_tells _ (by simp)
        · split
          · intro x n h
            injection h with h; injection h with h1 h2; subst h1; subst h2
            exact ⟨by omega, by simp, by simp, by simp, fun _ => rfl⟩
          · exact name_tells _

/-- all words from a on: those ahead are acc -/
def wdsGo (cn : Nat → Nat) (l : List UInt8) : Nat → Nat → List Wd → List Wd × Nat × Int
  | 0, _, _ => ([], 0, 0)
  | fu + 1, a, acc =>
    if a < l.length then
      match readO cn (l.drop a) with
      | none => ([], a, 110)
      | some (x, n) => wdsGo cn l fu (runP spcB l (a + n)) (acc ++ [{ x with at_ := a }])
    else if 1500 < acc.length then ([], (acc.getD 1500 wdNone).at_, 3)
    else (acc ++ [⟨0, ⟨#[]⟩, 0, 0, l.length⟩], 0, 0)

def wdsO (cn : Nat → Nat) (l : List UInt8) : List Wd × Nat × Int :=
  if 3000 < l.length then ([], 3000, 3) else wdsGo cn l (l.length + 1) (runP spcB l 0) []

end Go.Proofs.YtgmjhoppjjjilaaDoor

/- the library's contracts, laid at this program -/
namespace Go.Proofs.YtgmjhoppjjjilaaDoor
open Go.RowKit Go.Shelf

def formatIntA_ren : Go.Shelf.Ren := ⟨fun | 173 => 52 | 246 => 76 | 283 => 89 | 284 => 90 | 285 => 91 | 286 => 92 | 129 => 99 | 317 => 98 | 318 => 100 | 319 => 101 | 320 => 102 | 337 => 104 | 338 => 105 | n => n, fun | 2 => 2 | 3 => 3 | 9 => 9 | 4 => 4 | 171 => 138 | 0 => 0 | 53 => 49 | 37 => 47 | 5 => 5 | 173 => 141 | 212 => 150 | 51 => 143 | 20 => 20 | 213 => 151 | 46 => 124 | 232 => 156 | 233 => 157 | n => n, fun | 17 => 1 | 18 => 3 | 19 => 4 | n => n⟩
theorem formatIntA : Go.Proofs.LaysM.n173 Tryd.prog formatIntA_ren where
  mixed := by kernel_rfl
  f129 := Tryd.func99.trans (congrArg some (by kernel_rfl))
  f173 := Tryd.func52.trans (congrArg some (by kernel_rfl))
  f246 := Tryd.func76.trans (congrArg some (by kernel_rfl))
  f283 := Tryd.func89.trans (congrArg some (by kernel_rfl))
  f284 := Tryd.func90.trans (congrArg some (by kernel_rfl))
  f285 := Tryd.func91.trans (congrArg some (by kernel_rfl))
  f286 := Tryd.func92.trans (congrArg some (by kernel_rfl))
  f317 := Tryd.func98.trans (congrArg some (by kernel_rfl))
  f318 := Tryd.func100.trans (congrArg some (by kernel_rfl))
  f319 := Tryd.func101.trans (congrArg some (by kernel_rfl))
  f320 := Tryd.func102.trans (congrArg some (by kernel_rfl))
  f337 := Tryd.func104.trans (congrArg some (by kernel_rfl))
  f338 := Tryd.func105.trans (congrArg some (by kernel_rfl))
  t0 := Tryd.underlying0
  a0 := Tryd.isAgg0
  z0 := Tryd.sizeOf0
  v0 := Tryd.zeroValue0
  t2 := Tryd.underlying2
  a2 := Tryd.isAgg2
  z2 := Tryd.sizeOf2
  v2 := Tryd.zeroValue2
  t3 := Tryd.underlying3
  a3 := Tryd.isAgg3
  z3 := Tryd.sizeOf3
  v3 := Tryd.zeroValue3
  t4 := Tryd.underlying4
  a4 := Tryd.isAgg4
  z4 := Tryd.sizeOf4
  v4 := Tryd.zeroValue4
  t5 := Tryd.underlying5
  a5 := Tryd.isAgg5
  z5 := Tryd.sizeOf5
  v5 := Tryd.zeroValue5
  t9 := Tryd.underlying9
  a9 := Tryd.isAgg9
  z9 := Tryd.sizeOf9
  v9 := Tryd.zeroValue9
  t20 := Tryd.underlying20
  a20 := Tryd.isAgg20
  z20 := Tryd.sizeOf20
  v20 := Tryd.zeroValue20
  t37 := Tryd.underlying47
  a37 := Tryd.isAgg47
  z37 := Tryd.sizeOf47
  v37 := Tryd.zeroValue47
  t46 := Tryd.underlying124
  a46 := Tryd.isAgg124
  z46 := Tryd.sizeOf124
  v46 := Tryd.zeroValue124
  t51 := Tryd.underlying143
  a51 := Tryd.isAgg143
  z51 := Tryd.sizeOf143
  v51 := Tryd.zeroValue143
  t53 := Tryd.underlying49
  a53 := Tryd.isAgg49
  z53 := Tryd.sizeOf49
  v53 := Tryd.zeroValue49
  t171 := Tryd.underlying138
  a171 := Tryd.isAgg138
  z171 := Tryd.sizeOf138
  v171 := Tryd.zeroValue138
  t173 := Tryd.underlying141
  a173 := Tryd.isAgg141
  z173 := Tryd.sizeOf141
  v173 := Tryd.zeroValue141
  t212 := Tryd.underlying150
  a212 := Tryd.isAgg150
  z212 := Tryd.sizeOf150
  v212 := Tryd.zeroValue150
  t213 := Tryd.underlying151
  a213 := Tryd.isAgg151
  z213 := Tryd.sizeOf151
  t232 := Tryd.underlying156
  a232 := Tryd.isAgg156
  z232 := Tryd.sizeOf156
  v232 := Tryd.zeroValue156
  t233 := Tryd.underlying157
  a233 := Tryd.isAgg157
  z233 := Tryd.sizeOf157
  v233 := Tryd.zeroValue157
  g17 := by kernel_rfl
  g18 := by kernel_rfl
  g19 := by kernel_rfl
  i0 := by kernel_rfl
  i2 := by kernel_rfl
  i3 := by kernel_rfl
  i4 := by kernel_rfl
  i5 := by kernel_rfl
  i9 := by kernel_rfl
  i20 := by kernel_rfl
  i37 := by kernel_rfl
  i46 := by kernel_rfl
  i51 := by kernel_rfl
  i53 := by kernel_rfl
  i171 := by kernel_rfl
  i173 := by kernel_rfl
  i212 := by kernel_rfl
  i232 := by kernel_rfl
  i233 := by kernel_rfl
  m17 := by kernel_rfl
  m18 := by kernel_rfl
  m19 := by kernel_rfl
def prefixA_ren : Go.Shelf.Ren := ⟨fun | 99 => 80 | 206 => 95 | n => n, fun | 9 => 9 | 4 => 4 | 3 => 3 | n => n, fun | n => n⟩
theorem prefixA : Go.Proofs.Lays.n99 Tryd.prog prefixA_ren where
  mixed := by kernel_rfl
  f99 := Tryd.func80.trans (congrArg some (by kernel_rfl))
  f206 := Tryd.func95.trans (congrArg some (by kernel_rfl))
  t3 := Tryd.underlying3
  a3 := Tryd.isAgg3
  z3 := Tryd.sizeOf3
  v3 := Tryd.zeroValue3
  t4 := Tryd.underlying4
  a4 := Tryd.isAgg4
  z4 := Tryd.sizeOf4
  v4 := Tryd.zeroValue4
  t9 := Tryd.underlying9
  a9 := Tryd.isAgg9
  z9 := Tryd.sizeOf9
  v9 := Tryd.zeroValue9
end Go.Proofs.YtgmjhoppjjjilaaDoor
