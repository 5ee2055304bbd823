/- layer 9: Apply, same; the mathematics of TxLater -/
import Derived.Test.YtkhhmmblkfogcaaTxH
import Derived.LoopN
namespace Go.Proofs.Ytkhhmmblkfogcaa
open Go.ChangeShapes Go.WideShapes Go.ChangeAt Go.RowKit

/-- a transaction behind one change -/
def appT (f : Nat → Option ByteArray) (l : List (Nat × Ch)) (a : Nat) (c : Ch) : List (Nat × Ch) := if c.gone then dropT f l a else putT f l a c.s

theorem apply_nil (T : Nat) (w : World) : Calls Try.prog 14 #[.pointer (some ⟨T, 0, none⟩), .slice none 0 0] w fun e w' => e = .returned (.tuple #[]) ∧ w = w' := by
  go_enter Try.func14, Try.ntmps14
  go_wp2_with fail
  go_loopg [8] 0 (fun g iv wr => iv = .int .i64 0 ∧ wr = w)
  case atStart => exact ⟨rfl, rfl⟩
  case round =>
    obtain ⟨rfl, rfl⟩ := hrel
    go_wp2_with fail
    go_end0
    exact ⟨rfl, rfl⟩

/-- what stands when a transaction of one's own was changed -/
def AppPost (n T : Nat) (b : Value) (f : Nat → Option ByteArray) (l : List (Nat × Ch)) (w w' : World) : Prop :=
  ∃ M', IsTx w' T M' b l ∧ IsBase w' b f ∧ Below n w w' ∧ ∀ m, M' = some m → n ≤ m

theorem app_post {n T : Nat} {M M' : Option Nat} {b : Value} {f : Nat → Option ByteArray} {l l' : List (Nat × Ch)} {w w1 w' : World} (hb : Below w.heap.size w w1) (h1 : IsTx w1 T M b l) (hb1 : IsBase w1 b f) (hn : n ≤ w.heap.size) (hT : n ≤ T) (hM : ∀ m, M = some m → n ≤ m)
    (k1 : IsTx w' T M' b l') (k2 : TxOnly w1 w' T M) (k3 : M' = M ∨ ∃ m, M' = some m ∧ w1.heap.size ≤ m) : AppPost n T b f l' w w' :=
  ⟨M', k1, hb1.tx h1 k2, (hb.mono hn).trans (Only.below k2 (Nat.le_trans hn hb.size) fun k hk => by
    rcases hk with rfl | hk
    · exact hT
    · exact hM k hk.symm), fun m hm => by
    rcases k3 with k3 | ⟨m', k3, k4⟩
    · exact hM m (k3 ▸ hm)
    · rw [k3] at hm; cases hm; exact Nat.le_trans (Nat.le_trans hn hb.size) k4⟩

set_option maxRecDepth 100000 in
theorem apply_one {n : Nat} {w : World} {T : Nat} {M : Option Nat} {b : Value} {f : Nat → Option ByteArray} {l : List (Nat × Ch)} (h : IsTx w T M b l) (hb : IsBase w b f) (hn : n ≤ w.heap.size) (hT : n ≤ T) (hM : ∀ m, M = some m → n ≤ m) (hl : l.length < 1000)
    {g c a : Nat} {s : ByteArray} {gn : Bool} (hg : w.heap[g]? = some (.cells #[.int .u64 (a : Int), .string s, .bool gn] 38 (0, 0))) (hok : ChOk a ⟨s, gn⟩) :
    Calls Try.prog 14 #[.pointer (some ⟨T, 0, none⟩), .slice (some ⟨g, 0, none⟩) 1 c] w fun e w' => e = .returned (.tuple #[]) ∧ AppPost n T b f (appT f l a ⟨s, gn⟩) w w' := by
  have c0 : w.cell? ⟨g, 0, none⟩ = some (.int .u64 (a : Int)) := by rw [cell_of_row _ _ _ _ _ _ hg]; rfl
  have c1 : w.cell? ⟨g, 1, none⟩ = some (.string s) := by rw [cell_of_row _ _ _ _ _ _ hg]; rfl
  have c2 : w.cell? ⟨g, 2, none⟩ = some (.bool gn) := by rw [cell_of_row _ _ _ _ _ _ hg]; rfl
  have hb1 : Below w.heap.size w (w.alloc (.cells #[.int .u64 (a : Int), .string s, .bool gn] 38)) := (Below.refl _ w).alloc (Nat.le_refl _) _
  have h1 := h.on hb1
  have hbs1 := hb.on hb1
  have HF : Hid (∀ (w' : World) (M' : Option Nat) (l' : List (Nat × Ch)), IsTx w' T M' b l' → TxOnly (w.alloc (.cells #[.int .u64 (a : Int), .string s, .bool gn] 38)) w' T M → (M' = M ∨ ∃ m, M' = some m ∧ (w.alloc (.cells #[.int .u64 (a : Int), .string s, .bool gn] 38)).heap.size ≤ m) → AppPost n T b f l' w w') := Lib.hid fun w' M' l' k1 k2 k3 => app_post hb1 h1 hbs1 hn hT hM k1 k2 k3
  have HP := Lib.hid (put_any h1 hbs1 hok.key hok.size hl)
  have HD := Lib.hid (drop_any h1 hbs1 hok.key hl)
  clear h hb hM hg hok hb1 h1 hbs1
  cases gn with
  | true =>
    go_enter Try.func14, Try.ntmps14
    go_wp2_with fail
    go_loopg [8] 2 (fun g iv wr => (iv = .int .i64 0 ∧ wr = w ∧ 1 ≤ g) ∨ (iv = .int .i64 1 ∧ Hid (AppPost n T b f (appT f l a ⟨s, true⟩) w wr)))
    case atStart => exact .inl ⟨rfl, rfl, by omega⟩
    case round =>
      rcases hrel with ⟨rfl, rfl, hg⟩ | ⟨rfl, HE⟩
      · go_wp2_with (first
          | (go_at_call 9; refine HD.out.mono ?_; rintro e w2 ⟨rfl, M', k1, k2, k3⟩; have HE := Lib.hid (HF.out _ _ _ k1 k2 k3); clear k1 k2 k3)
          | fail)
        go_roundg 0
        case measure => omega
        case rel => exact .inr ⟨by go_num, HE⟩
      · go_wp2_with fail
        go_end0
        exact ⟨rfl, HE.out⟩
  | false =>
    go_enter Try.func14, Try.ntmps14
    go_wp2_with fail
    go_loopg [8] 2 (fun g iv wr => (iv = .int .i64 0 ∧ wr = w ∧ 1 ≤ g) ∨ (iv = .int .i64 1 ∧ Hid (AppPost n T b f (appT f l a ⟨s, false⟩) w wr)))
    case atStart => exact .inl ⟨rfl, rfl, by omega⟩
    case round =>
      rcases hrel with ⟨rfl, rfl, hg⟩ | ⟨rfl, HE⟩
      · go_wp2_with (first
          | (go_at_call 5; refine HP.out.mono ?_; rintro e w2 ⟨rfl, M', k1, k2, k3⟩; have HE := Lib.hid (HF.out _ _ _ k1 k2 k3); clear k1 k2 k3)
          | fail)
        go_roundg 0
        case measure => omega
        case rel => exact .inr ⟨by go_num, HE⟩
      · go_wp2_with fail
        go_end0
        exact ⟨rfl, HE.out⟩

set_option maxRecDepth 100000 in
theorem same_any {w : World} {T : Nat} {M : Option Nat} {b : Value} {f : Nat → Option ByteArray} {l : List (Nat × Ch)} (h : IsTx w T M b l) (hb : IsBase w b f) {A : Option Addr} {k c : Nat} {L : List (Nat × ByteArray)} (hL : IsRecs w (.slice A k c) L) (heq : ∀ a, a < 9 → getT f l a = findR L a) :
    Calls Try.prog 16 #[.pointer (some ⟨T, 0, none⟩), .slice A k c] w fun e w' => e = .returned (.bool true) ∧ Below w.heap.size w w' := by
  have HT := Lib.hid h; have HB := Lib.hid hb; have HL := Lib.hid hL; have HE := Lib.hid heq
  clear h hb hL heq
  go_enter Try.func16, Try.ntmps16
  go_wp2_with fail
  go_loopg [5] 9 (fun g iv wr => ∃ i : Nat, iv = .int .u64 (i : Int) ∧ i ≤ 9 ∧ 9 - i ≤ g ∧ Hid (Below w.heap.size w wr))
  case atStart => exact ⟨0, rfl, by omega, by omega, Below.refl _ _⟩
  case round =>
    obtain ⟨i, rfl, hi, hg, HW⟩ := hrel
    by_cases hlt : i < 9
    · have HG := Lib.hid (get_val (HT.out.on HW.out) (HB.out.on HW.out) (a := i) (by omega) (HE.out i hlt))
      have HFF : Hid (∀ W, Below wr.heap.size wr W → Calls Try.prog 24 #[.slice A k c, .int .u64 (i : Int)] W fun e w' => e = .returned (.tuple #[.string ((findR L i).getD noB), .bool (findR L i).isSome]) ∧ W = w') := Lib.hid fun W hW => find_any ((HL.out.on HW.out).on hW) i
      have hltz : (i : Int) < 9 := by omega
      have hw1 : IntKind.u64.wrap ((i : Int) + 1) = (i : Int) + 1 := by rw [IntKind.wrap_u64]; omega
      cases hf : findR L i with
      | none =>
        rw [hf] at HG HFF
        clear hf
        go_wp2_with (first
          | (go_at_call 6; refine HG.out.mono ?_; rintro e w2 ⟨rfl, hb2⟩; have HB2 := Lib.hid hb2; clear hb2)
          | (go_at_call 24; refine (HFF.out _ HB2.out).mono ?_; rintro e w3 ⟨rfl, rfl⟩)
          | fail)
        go_roundg (9 - (i + 1))
        case measure => omega
        case rel => exact ⟨i + 1, by go_num, by omega, Nat.le_refl _, HW.out.trans (HB2.out.mono HW.out.size)⟩
      | some x =>
        rw [hf] at HG HFF
        clear hf
        go_wp2_with (first
          | (go_at_call 6; refine HG.out.mono ?_; rintro e w2 ⟨rfl, hb2⟩; have HB2 := Lib.hid hb2; clear hb2)
          | (go_at_call 24; refine (HFF.out _ HB2.out).mono ?_; rintro e w3 ⟨rfl, rfl⟩)
          | fail)
        go_roundg (9 - (i + 1))
        case measure => omega
        case rel => exact ⟨i + 1, by go_num, by omega, Nat.le_refl _, HW.out.trans (HB2.out.mono HW.out.size)⟩
    · have hltz : ¬ (i : Int) < 9 := by omega
      go_wp2_with fail
      go_ret
      exact ⟨rfl, HW.out⟩

/-! the mathematics -/

theorem find_get : ∀ (l : List (Nat × ByteArray)) (a : Nat), findR l a = getU a l
  | [], _ => rfl
  | (b, t) :: r, a => by
    have ih := find_get r a
    unfold findR at ih ⊢
    unfold getU
    by_cases h : b = a
    · subst h; simp
    · rw [List.find?_cons_of_neg (by simpa using h), ih, if_neg (fun e => h e.symm)]

theorem get_doL : ∀ (l : List (Nat × Ch)) {R : List (Nat × ByteArray)}, RisU R → RisU l → ∀ a, getU a (doL R l) = getT (fun a => getU a R) l a
  | [], R, _, _, a => rfl
  | (k, c) :: t, R, hR, hl, a => by
    obtain ⟨h1, h2⟩ := List.pairwise_cons.1 hl
    show getU a (doL (doOne R (k, c)) t) = _
    rw [get_doL t (doOne_ris hR (k, c)) h2 a]
    unfold getT
    simp only [getU]
    have e : getU a (doOne R (k, c)) = if a = k then (if c.gone then none else some c.s) else getU a R := by
      rw [doOne_eq hR]
      cases hg : c.gone with
      | true => simp only [if_true]; exact get_delU a
      | false => simpa using get_putU a
    by_cases hak : a = k
    · subst hak
      rw [getU_none (fun p hp => by have := h1 p hp; simp at this; omega), if_pos rfl]
      simp only [e, if_pos]
    · rw [if_neg hak]
      cases getU a t with
      | none => simp only [e, if_neg hak]
      | some c' => rfl

theorem few_keys {β : Type} {n : Nat} : ∀ {l : List (Nat × β)}, RisU l → (∀ p ∈ l, p.1 < n) → ∀ k, (∀ p ∈ l, k ≤ p.1) → k + l.length ≤ max k n
  | [], _, _, k, _ => by simp; omega
  | p :: r, h, hn, k, hk => by
    obtain ⟨h1, h2⟩ := List.pairwise_cons.1 h
    have a := hk p (by simp)
    have b := hn p (by simp)
    have := few_keys h2 (fun q hq => hn q (List.mem_cons_of_mem _ hq)) (p.1 + 1) (fun q hq => h1 q hq)
    simp only [List.length_cons]; omega

theorem appT_keys {f : Nat → Option ByteArray} {l : List (Nat × Ch)} {a n : Nat} {c : Ch} (h : ∀ p ∈ l, p.1 < n) (ha : a < n) : ∀ p ∈ appT f l a c, p.1 < n := by
  intro p hp
  have hd : ∀ p ∈ delU a l, p.1 < n := fun p hp => h p (List.mem_filter.1 hp).1
  have hpu : ∀ c, ∀ p ∈ putU a c l, p.1 < n := fun c p hp => by
    rcases mem_putU hp with rfl | hp
    · exact ha
    · exact h p hp
  unfold appT dropT putT at hp
  split at hp
  · split at hp
    · exact h p hp
    · split at hp
      · exact hpu _ p hp
      · exact hd p hp
  · split at hp
    · exact hd p hp
    · exact hpu _ p hp

end Go.Proofs.Ytkhhmmblkfogcaa
