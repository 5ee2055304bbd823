/- values as keys: plain mathematics -/
import Derived.Test.YtigepnhnccfpiaaDoorChkM
import Derived.Test.YtigepnhnccfpiaaDoorGetA
import Derived.Test.YtigepnhnccfpiaaDoorOrd
namespace Go.Proofs.YtigepnhnccfpiaaDoor
open Go.ChangeShapes Go.WideShapes Go.ChangeAt Go.RowKit Go.Fl

/-- a text's bytes, each nought as 00 01 -/
def escL : List UInt8 → List UInt8
  | [] => []
  | c :: r => if c = 0 then 0 :: 1 :: escL r else c :: escL r

/-- .. with its end -/
def nameL (l : List UInt8) : List UInt8 := escL l ++ [0, 0]

/-- a number's key behind its kind: its float's key, what is over, its kind -/
def numKey (f : Nat) (over : Nat) (k : UInt8) : List UInt8 := eightL (keyN f) ++ ((twoS over).data.toList ++ [k])

mutual
/-- a value's key -/
def keyT : T → List UInt8
  | .mk k b n f s l => kby (rk k + 1) :: (if k = 1 then [if b then 1 else 0] else if k = 2 then numKey (fw (flo n)) (n - flo n).toNat 2 else if k = 3 then numKey f 0 3
      else if k = 4 then nameL s.data.toList else if k = 5 ∨ k = 6 then keyL l else if k = 7 ∨ k = 8 then eightL (word n) else [])
def keyL : List T → List UInt8
  | [] => [0]
  | t :: r => 1 :: (keyT t ++ keyL r)
end

/-- the parts of a list's beginning -/
def keyP : List T → List UInt8
  | [] => []
  | t :: r => 1 :: (keyT t ++ keyP r)

theorem keyL_eq : ∀ l : List T, keyL l = keyP l ++ [0]
  | [] => rfl
  | t :: r => by rw [keyL, keyP, keyL_eq r]; simp

theorem keyP_snoc {l : List T} {i : Nat} (hi : i < l.length) : keyP (l.take (i + 1)) = keyP (l.take i) ++ (1 :: keyT l[i]) := by
  induction l generalizing i with
  | nil => exact absurd hi (Nat.not_lt_zero _)
  | cons t r ih =>
    cases i with
    | zero => simp [keyP]
    | succ i =>
      have := ih (i := i) (by simpa using hi)
      simp only [List.take_succ_cons, keyP, List.getElem_cons_succ, List.append_assoc, List.cons_append]
      rw [this]

theorem keyP_len {l : List T} {i : Nat} (hi : i ≤ l.length) : (keyP (l.take i)).length ≤ (keyP l).length := by
  induction l generalizing i with
  | nil => simp
  | cons t r ih =>
    cases i with
    | zero => simp [keyP]
    | succ i =>
      have := ih (i := i) (by simpa using hi)
      simp only [List.take_succ_cons, keyP, List.length_append, List.length_cons]
      omega

theorem escL_len : ∀ l : List UInt8, (escL l).length ≤ 2 * l.length
  | [] => by simp [escL]
  | c :: r => by have := escL_len r; rw [escL]; split <;> simp only [List.length_cons] <;> omega

theorem numKey_len (f over : Nat) (k : UInt8) : (numKey f over k).length = 11 := by
  unfold numKey
  rw [List.length_append, List.length_append, eightL_len, twoL_len]; rfl

theorem keyP_bys : ∀ l : List T, (∀ i (hi : i < l.length), (keyT l[i]).length + 1 ≤ 2 * (bys l[i]).length) → (keyP l).length ≤ 2 * (bysL l).length
  | [], _ => by simp [keyP]
  | t :: r, h => by
    have h0 := h 0 (by simp)
    have h1 := keyP_bys r fun i hi => by have := h (i + 1) (by simpa using hi); simpa using this
    simp only [List.getElem_cons_zero] at h0
    rw [keyP, bysL, List.length_cons, List.length_append, List.length_append]
    omega

/-- a key is not much longer than the value's bytes -/
theorem keyT_bys (t : T) : (keyT t).length + 1 ≤ 2 * (bys t).length := by
  induction t using T.ind with | h k b n f s l ih => _
  have hl := keyP_bys l ih
  have h8 := eightL_len (word n)
  have h8' := eightL_len (canonN f)
  have ht := twoL_len s.size
  have ht' := twoL_len l.length
  have hs : s.data.toList.length = s.size := rfl
  have he := escL_len s.data.toList
  have hn1 := numKey_len (fw (flo n)) (n - flo n).toNat 2
  have hn2 := numKey_len f 0 3
  rw [keyT, bys, List.length_cons, List.length_cons]
  by_cases k1 : k = 1
  · rw [if_pos k1, if_pos k1]; simp
  by_cases k2 : k = 2
  · rw [if_neg k1, if_pos k2, if_neg k1, if_pos (.inl k2)]; omega
  by_cases k3 : k = 3
  · rw [if_neg k1, if_neg k2, if_pos k3, if_neg k1, if_neg (by omega), if_pos k3]; omega
  by_cases k4 : k = 4
  · rw [if_neg k1, if_neg k2, if_neg k3, if_pos k4, if_neg k1, if_neg (by omega), if_neg k3, if_pos k4]
    unfold nameL
    simp only [List.length_append, List.length_cons, List.length_nil]; omega
  by_cases k5 : k = 5 ∨ k = 6
  · rw [if_neg k1, if_neg k2, if_neg k3, if_neg k4, if_pos k5, if_neg k1, if_neg (by omega), if_neg k3, if_neg k4, if_pos k5, keyL_eq]
    simp only [List.length_append, List.length_cons, List.length_nil]; omega
  by_cases k7 : k = 7 ∨ k = 8
  · rw [if_neg k1, if_neg k2, if_neg k3, if_neg k4, if_neg k5, if_pos k7, if_neg k1, if_pos (by omega)]; omega
  · rw [if_neg k1, if_neg k2, if_neg k3, if_neg k4, if_neg k5, if_neg k7, if_neg k1, if_neg (by omega), if_neg k3, if_neg k4, if_neg k5]; simp

/-! ### their order -/

theorem lex_zero (c : Int) : lex c 0 = c := by unfold lex; split <;> omega

theorem lex_assoc (a b c : Int) : lex (lex a b) c = lex a (lex b c) := by
  unfold lex
  by_cases h : a = 0
  · rw [if_pos h, if_pos h]
  · rw [if_neg h, if_neg h, if_neg h]

theorem cmpI_self (a : Int) : cmpI a a = 0 := by unfold cmpI; simp

/-- texts of one length, and what follows -/
theorem cmpBs_same_len : ∀ (a b x y : List UInt8), a.length = b.length → cmpBs (a ++ x) (b ++ y) = lex (cmpBs a b) (cmpBs x y)
  | [], [], x, y, _ => by simp [cmpBs, lex]
  | [], _ :: _, _, _, h => by simp at h
  | _ :: _, [], _, _, h => by simp at h
  | c :: a, d :: b, x, y, h => by
    rw [List.cons_append, List.cons_append, cmpBs, cmpBs, cmpBs_same_len a b x y (by simpa using h), lex_assoc]

theorem wd_cons (c : UInt8) (a : List UInt8) : wd (c :: a) = c.toNat * 256 ^ a.length + wd a := by
  have h : ∀ (a : List UInt8) (z : Nat), a.foldl (fun a b => a * 256 + b.toNat) z = z * 256 ^ a.length + wd a := by
    intro a
    induction a with
    | nil => intro z; simp [wd]
    | cons d r ih =>
      intro z
      show List.foldl _ (z * 256 + d.toNat) r = _ * 256 ^ (r.length + 1) + List.foldl _ (0 * 256 + d.toNat) r
      rw [ih, ih, Nat.pow_succ]
      rw [Nat.zero_mul, Nat.zero_add, Nat.add_mul]
      have e1 : z * 256 * 256 ^ r.length = z * (256 ^ r.length * 256) := by rw [Nat.mul_assoc, Nat.mul_comm 256]
      rw [e1, Nat.add_assoc]
  show List.foldl _ (0 * 256 + c.toNat) a = _
  rw [h]; simp

/-- texts of one length are ordered as their numbers -/
theorem cmpBs_wd : ∀ (a b : List UInt8), a.length = b.length → cmpBs a b = cmpI (wd a) (wd b)
  | [], [], _ => by simp [cmpBs, cmpI]
  | [], _ :: _, h => by simp at h
  | _ :: _, [], h => by simp at h
  | c :: a, d :: b, h => by
    have hl : a.length = b.length := by simpa using h
    rw [cmpBs, cmpBs_wd a b hl, wd_cons, wd_cons, ← hl]
    have h1 := wd_lt a
    have h2 := wd_lt b
    rw [← hl] at h2
    generalize 256 ^ a.length = p at *
    generalize wd a = x at *
    generalize wd b = y at *
    have hc : c.toNat < 256 := c.toNat_lt
    have hd : d.toNat < 256 := d.toNat_lt
    generalize c.toNat = u at *
    generalize d.toNat = v at *
    rcases Nat.lt_trichotomy u v with h | h | h
    · have hm : (u + 1) * p ≤ v * p := Nat.mul_le_mul_right p h
      rw [Nat.add_mul] at hm
      have e1 : cmpI (u : Int) v = -1 := by unfold cmpI; rw [if_pos (by omega)]
      rw [e1]
      unfold lex cmpI
      rw [if_neg (by decide), if_pos (by omega)]
    · subst h
      rw [cmpI_self]
      unfold lex cmpI
      rw [if_pos rfl]
      have q1 : ((x : Int) < y) ↔ (((u * p + x : Nat) : Int) < ((u * p + y : Nat) : Int)) := by omega
      have q2 : ((y : Int) < x) ↔ (((u * p + y : Nat) : Int) < ((u * p + x : Nat) : Int)) := by omega
      simp only [q1, q2]
    · have hm : (v + 1) * p ≤ u * p := Nat.mul_le_mul_right p h
      rw [Nat.add_mul] at hm
      have e1 : cmpI (u : Int) v = 1 := by unfold cmpI; rw [if_neg (by omega), if_pos (by omega)]
      rw [e1]
      unfold lex cmpI
      rw [if_neg (by decide), if_neg (by omega), if_pos (by omega)]

theorem cmpBs_self : ∀ x, cmpBs x x = 0
  | [] => rfl
  | c :: x => by rw [cmpBs, cmpI_self, cmpBs_self x]; rfl

theorem cmpBs_zero : ∀ x y, cmpBs x y = 0 → x = y
  | [], [], _ => rfl
  | [], _ :: _, h => by simp [cmpBs] at h
  | _ :: _, [], h => by simp [cmpBs] at h
  | c :: x, d :: y, h => by
    rw [cmpBs] at h
    unfold lex at h
    by_cases hc : cmpI (c.toNat : Int) d.toNat = 0
    · rw [if_pos hc] at h
      have e := (cmpI_iff _ _).2.1.1 hc
      rw [cmpBs_zero x y h, UInt8.toNat_inj.1 (by omega : c.toNat = d.toNat)]
    · rw [if_neg hc] at h; exact absurd h hc

/-- a byte's way to a text of eight -/
theorem wd_eightL {n : Nat} (hn : n < 18446744073709551616) : wd (eightL n) = n := by
  have h := wide_eight hn
  unfold wideS at h
  rw [List.take_of_length_le (by rw [show (eightS n).data.toList.length = 8 from eight_size n]; exact Nat.le_refl 8)] at h
  exact h

theorem wd_twoL {n : Nat} (hn : n < 65536) : wd (twoS n).data.toList = n := by
  have h := wide_two hn
  unfold wideS at h
  rw [List.take_of_length_le (by rw [show (twoS n).data.toList.length = 2 from two_size n]; decide)] at h
  exact h

theorem cmp_eight {a b : Nat} (ha : a < 18446744073709551616) (hb : b < 18446744073709551616) (x y : List UInt8) : cmpBs (eightL a ++ x) (eightL b ++ y) = lex (cmpI a b) (cmpBs x y) := by
  rw [cmpBs_same_len _ _ _ _ (by rw [eightL_len, eightL_len]), cmpBs_wd _ _ (by rw [eightL_len, eightL_len]), wd_eightL ha, wd_eightL hb]

theorem cmp_two {a b : Nat} (ha : a < 65536) (hb : b < 65536) (x y : List UInt8) : cmpBs ((twoS a).data.toList ++ x) ((twoS b).data.toList ++ y) = lex (cmpI a b) (cmpBs x y) := by
  rw [cmpBs_same_len _ _ _ _ (by rw [twoL_len, twoL_len]), cmpBs_wd _ _ (by rw [twoL_len, twoL_len]), wd_twoL ha, wd_twoL hb]

/-- numbers' keys -/
theorem cmp_num {f f' o o' : Nat} (ho : o < 65536) (ho' : o' < 65536) (k k' : UInt8) (x y : List UInt8) :
    cmpBs (numKey f o k ++ x) (numKey f' o' k' ++ y) = lex (cmpI (keyN f) (keyN f')) (lex (cmpI o o') (lex (cmpI k.toNat k'.toNat) (cmpBs x y))) := by
  unfold numKey
  rw [List.append_assoc, List.append_assoc, List.append_assoc, List.append_assoc, cmp_eight (keyN_lt f) (keyN_lt f'), cmp_two ho ho']
  rfl

/-- names' keys -/
theorem cmp_name : ∀ (a b x y : List UInt8), cmpBs (nameL a ++ x) (nameL b ++ y) = lex (cmpBs a b) (cmpBs x y)
  | [], [], x, y => by simp [nameL, escL, cmpBs, lex, cmpI]
  | [], c :: b, x, y => by
    unfold nameL
    by_cases hc : c = 0
    · subst hc; simp [escL, cmpBs, lex, cmpI]
    · have h0 : 0 < c.toNat := Nat.pos_of_ne_zero fun h => hc (UInt8.toNat_inj.1 h)
      have e1 : cmpI ((0 : UInt8).toNat : Int) c.toNat = -1 := by unfold cmpI; rw [if_pos (by simpa using h0)]
      rw [escL, escL, if_neg hc]
      simp only [List.nil_append, List.cons_append, cmpBs]
      rw [e1]; rfl
  | c :: a, [], x, y => by
    unfold nameL
    by_cases hc : c = 0
    · subst hc; simp [escL, cmpBs, lex, cmpI]
    · have h0 : 0 < c.toNat := Nat.pos_of_ne_zero fun h => hc (UInt8.toNat_inj.1 h)
      have e1 : cmpI (c.toNat : Int) ((0 : UInt8).toNat) = 1 := by unfold cmpI; rw [if_neg (by simp), if_pos (by simpa using h0)]
      rw [escL, escL, if_neg hc]
      simp only [List.nil_append, List.cons_append, cmpBs]
      rw [e1]; rfl
  | c :: a, d :: b, x, y => by
    have ih := cmp_name a b x y
    unfold nameL at ih ⊢
    rw [escL, escL]
    by_cases hc : c = 0
    · by_cases hd : d = 0
      · subst hc; subst hd
        rw [if_pos rfl, if_pos rfl]
        simp only [List.cons_append, cmpBs, cmpI_self]
        rw [lex_assoc, ← ih]; rfl
      · have h0 : 0 < d.toNat := Nat.pos_of_ne_zero fun h => hd (UInt8.toNat_inj.1 h)
        have e1 : cmpI ((0 : UInt8).toNat : Int) d.toNat = -1 := by unfold cmpI; rw [if_pos (by simpa using h0)]
        subst hc
        rw [if_pos rfl, if_neg hd]
        simp only [List.cons_append, cmpBs]
        rw [e1]; rfl
    · by_cases hd : d = 0
      · have h0 : 0 < c.toNat := Nat.pos_of_ne_zero fun h => hc (UInt8.toNat_inj.1 h)
        have e1 : cmpI (c.toNat : Int) ((0 : UInt8).toNat) = 1 := by unfold cmpI; rw [if_neg (by simp), if_pos (by simpa using h0)]
        subst hd
        rw [if_neg hc, if_pos rfl]
        simp only [List.cons_append, cmpBs]
        rw [e1]; rfl
      · rw [if_neg hc, if_neg hd]
        simp only [List.cons_append, cmpBs]
        rw [lex_assoc]
        simp only [List.append_assoc] at ih ⊢
        rw [ih]

/-- kinds' bytes -/
theorem cmp_kind {k k' : Int} (h0 : 0 ≤ k ∧ k ≤ 8) (h0' : 0 ≤ k' ∧ k' ≤ 8) : cmpI ((kby (rk k + 1)).toNat : Int) (kby (rk k' + 1)).toNat = cmpI (rk k) (rk k') := by
  rw [← kby_eq, ← kby_eq]
  have h1 : 0 ≤ rk k ∧ rk k ≤ 8 := by unfold rk; split <;> omega
  have h2 : 0 ≤ rk k' ∧ rk k' ≤ 8 := by unfold rk; split <;> omega
  generalize rk k = a at *
  generalize rk k' = b at *
  rw [Int.emod_eq_of_lt (by omega) (by omega), Int.emod_eq_of_lt (by omega) (by omega)]
  unfold cmpI
  have q1 : (a + 1 < b + 1) ↔ a < b := by omega
  have q2 : (b + 1 < a + 1) ↔ b < a := by omega
  simp only [q1, q2]

/-- keys are ordered as their values, whatever follows -/
def KeyAt (a : T) : Prop := ∀ (b : T) (d d' : Nat) (x y : List UInt8), chkT a d = 0 → chkT b d' = 0 → NumsT a → NumsT b → cmpBs (keyT a ++ x) (keyT b ++ y) = lex (cmpT a b) (cmpBs x y)

theorem keyL_order (l : List T) (ih : ∀ i (hi : i < l.length), KeyAt l[i]) : ∀ (q : List T) (d d' : Nat) (x y : List UInt8), (∀ i (hi : i < l.length), chkT l[i] d = 0 ∧ NumsT l[i]) → (∀ i (hi : i < q.length), chkT q[i] d' = 0 ∧ NumsT q[i]) →
    cmpBs (keyL l ++ x) (keyL q ++ y) = lex (cmpL l q) (cmpBs x y) := by
  induction l with
  | nil =>
    intro q d d' x y _ _
    cases q with
    | nil => simp [keyL, cmpL, cmpBs, lex, cmpI]
    | cons u q => simp [keyL, cmpL, cmpBs, lex, cmpI]
  | cons t r ihr =>
    intro q d d' x y h1 h2
    cases q with
    | nil => simp [keyL, cmpL, cmpBs, lex, cmpI]
    | cons u q =>
      have a0 := h1 0 (by simp); have b0 := h2 0 (by simp)
      simp only [List.getElem_cons_zero] at a0 b0
      have i0 := ih 0 (by simp) u d d' (keyL r ++ x) (keyL q ++ y) a0.1 b0.1 a0.2 b0.2
      simp only [List.getElem_cons_zero] at i0
      have i1 := ihr (fun i hi => by have := ih (i + 1) (by simpa using hi); simpa using this) q d d' x y
        (fun i hi => by have := h1 (i + 1) (by simpa using hi); simpa using this) (fun i hi => by have := h2 (i + 1) (by simpa using hi); simpa using this)
      rw [keyL, keyL, cmpL]
      simp only [List.cons_append, List.append_assoc, cmpBs, cmpI_self]
      rw [i0, i1, lex_assoc]; rfl

theorem key_order (a : T) : KeyAt a := by
  induction a using T.ind with | h k b n f s l ih => _
  rintro ⟨k', b', n', f', s', l'⟩ d d' x y hc hc' hN hN'
  obtain ⟨hd, hsh, hs, hlen, hL, -⟩ := chk_parts hc
  obtain ⟨hd', hsh', hs', hlen', hL', -⟩ := chk_parts hc'
  obtain ⟨k0, k8, sb, sn, sn1, sf, ss, sl⟩ := shp_parts hsh
  obtain ⟨k0', k8', sb', sn', sn1', sf', ss', sl'⟩ := shp_parts hsh'
  obtain ⟨hn, hf, hNl⟩ := hN.parts
  obtain ⟨hn', hf', hNl'⟩ := hN'.parts
  have hk := cmp_kind ⟨k0, k8⟩ ⟨k0', k8'⟩
  rw [keyT, keyT, List.cons_append, List.cons_append, cmpBs, hk, cmpT, lex_assoc]
  by_cases hr0 : ¬ cmpI (rk k) (rk k') = 0
  · unfold lex; rw [if_neg hr0, if_neg hr0]
  have hr := Decidable.not_not.1 hr0
  obtain ⟨r1, r2, r4, r5⟩ := rk_same hr
  have er : rk k = rk k' := (cmpI_iff _ _).2.1.1 hr
  congr 1
  obtain ⟨n1, n2⟩ := is64_iff.1 hn
  obtain ⟨m1, m2⟩ := is64_iff.1 hn'
  have on := over_range n1 n2
  have om := over_range m1 m2
  by_cases k1 : k = 1
  · rw [if_pos k1, if_pos (r1.1 k1), if_pos k1]
    cases b <;> cases b' <;> simp [cmpBs, cmpBo, lex, cmpI]
  by_cases k23 : k = 2 ∨ k = 3
  · have k23' := r2.1 k23
    rw [if_neg k1, if_neg (fun h => k1 (r1.2 h)), if_neg k1, if_pos k23]
    have q : ∀ z : Int, 0 ≤ z → ((z.toNat : Nat) : Int) = z := fun z hz => Int.toNat_of_nonneg hz
    rcases k23 with k2 | k3
    · rcases k23' with k2' | k3'
      · rw [if_pos k2, if_pos k2', cmp_num (by omega) (by omega), q _ on.1, q _ om.1]
        unfold cmpP posK
        rw [if_pos k2, if_pos k2', lex_assoc]
        congr 1
        have : cmpI (if n - flo n = 0 then -1 else n - flo n) (if n' - flo n' = 0 then -1 else n' - flo n') = cmpI (n - flo n) (n' - flo n') := by
          unfold cmpI
          by_cases h1 : n - flo n = 0 <;> by_cases h2 : n' - flo n' = 0
          · rw [if_pos h1, if_pos h2, h1, h2]; simp
          · rw [if_pos h1, if_neg h2, if_pos (by omega), if_pos (by omega)]
          · rw [if_neg h1, if_pos h2, if_neg (by omega), if_pos (by omega), if_neg (by omega), if_pos (by omega)]
          · rw [if_neg h1, if_neg h2]
        simp only [this]
        rfl
      · have hne : ¬ k' = 2 := by omega
        rw [if_pos k2, if_neg hne, if_pos k3', cmp_num (by omega) (by decide), q _ on.1]
        unfold cmpP posK
        rw [if_pos k2, if_neg hne, lex_assoc]
        congr 1
        by_cases h1 : n - flo n = 0
        · simp [h1, cmpI, lex]
        · have : 0 < n - flo n := by omega
          simp only [if_neg h1]
          have e1 : cmpI (n - flo n) ((0 : Nat) : Int) = 1 := by unfold cmpI; rw [if_neg (by omega), if_pos (by omega)]
          have e2 : cmpI (n - flo n) 0 = 1 := e1
          rw [e1, e2]; rfl
    · have hne : ¬ k = 2 := by omega
      rcases k23' with k2' | k3'
      · rw [if_neg hne, if_pos k3, if_pos k2', cmp_num (by decide) (by omega), q _ om.1]
        unfold cmpP posK
        rw [if_neg hne, if_pos k2', lex_assoc]
        congr 1
        by_cases h1 : n' - flo n' = 0
        · simp [h1, cmpI, lex]
        · have : 0 < n' - flo n' := by omega
          simp only [if_neg h1]
          have e1 : cmpI ((0 : Nat) : Int) (n' - flo n') = -1 := by unfold cmpI; rw [if_pos (by omega)]
          have e2 : cmpI 0 (n' - flo n') = -1 := e1
          rw [e1, e2]; rfl
      · have hne' : ¬ k' = 2 := by omega
        rw [if_neg hne, if_pos k3, if_neg hne', if_pos k3', cmp_num (by decide) (by decide)]
        unfold cmpP posK
        rw [if_neg hne, if_neg hne', lex_assoc]
        congr 1
  have k23' : ¬ (k' = 2 ∨ k' = 3) := fun h => k23 (r2.2 h)
  have z2 : ¬ k = 2 := fun h => k23 (.inl h)
  have z3 : ¬ k = 3 := fun h => k23 (.inr h)
  have z2' : ¬ k' = 2 := fun h => k23' (.inl h)
  have z3' : ¬ k' = 3 := fun h => k23' (.inr h)
  rw [if_neg k1, if_neg (fun h => k1 (r1.2 h)), if_neg k1, if_neg z2, if_neg z2', if_neg k23, if_neg z3, if_neg z3']
  by_cases k4 : k = 4
  · rw [if_pos k4, if_pos (r4.1 k4), if_pos k4, cmp_name, cmpS_bs, Lib.toList_data, Lib.toList_data]
  rw [if_neg k4, if_neg (fun h => k4 (r4.2 h)), if_neg k4]
  by_cases k5 : k = 5 ∨ k = 6
  · rw [if_pos k5, if_pos (r5.1 k5), if_pos k5]
    exact keyL_order l ih l' (d + 1) (d' + 1) x y (fun i hi => ⟨chkL_all hL i hi, hNl i hi⟩) (fun i hi => ⟨chkL_all hL' i hi, hNl' i hi⟩)
  rw [if_neg k5, if_neg (fun h => k5 (r5.2 h)), if_neg k5]
  have ek : k = k' := by unfold rk at er; rw [if_neg z3, if_neg z3'] at er; exact er
  by_cases k7 : k = 7 ∨ k = 8
  · rw [if_pos k7, if_pos (by omega)]
    have p1 := sn1 k7
    have p2 := sn1' (by omega)
    have e1 : ((word n : Nat) : Int) = n := by unfold word; omega
    have e2 : ((word n' : Nat) : Int) = n' := by unfold word; omega
    rw [cmp_eight (by omega) (by omega), e1, e2]
  · have e1 : n = 0 := by false_or_by_contra; rcases sn ‹_› with h | h | h <;> omega
    have e2 : n' = 0 := by false_or_by_contra; rcases sn' ‹_› with h | h | h <;> omega
    rw [if_neg k7, if_neg (by omega), e1, e2, cmpI_self]
    simp [lex]

/-- two values that may be: how their keys are ordered -/
theorem key_cmp {a b : T} (ha : chkF a = 0) (hb : chkF b = 0) (hN : NumsT a) (hM : NumsT b) : cmpBs (keyT a) (keyT b) = cmpT a b := by
  have := key_order a b 1 1 [] [] (chkF_two ha) (chkF_two hb) hN hM
  rw [List.append_nil, List.append_nil, show cmpBs ([] : List UInt8) [] = 0 from rfl, lex_zero] at this
  exact this

/-- .. and none begins with another one's -/
theorem key_apart {a b : T} (ha : chkF a = 0) (hb : chkF b = 0) (hN : NumsT a) (hM : NumsT b) (h : (keyT b).take (keyT a).length = keyT a) : cmpT a b = 0 := by
  have := key_order a b 1 1 ((keyT b).drop (keyT a).length) [] (chkF_two ha) (chkF_two hb) hN hM
  have e : keyT a ++ (keyT b).drop (keyT a).length = keyT b ++ [] := by
    rw [List.append_nil]
    conv => rhs; rw [← List.take_append_drop (keyT a).length (keyT b), h]
  rw [e, cmpBs_self] at this
  unfold lex at this
  false_or_by_contra
  rename_i hne
  rw [if_neg hne] at this
  exact hne this.symm

end Go.Proofs.YtigepnhnccfpiaaDoor
