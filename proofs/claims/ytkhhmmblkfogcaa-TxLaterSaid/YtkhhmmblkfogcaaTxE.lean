/- layer 9: awake; TxNone -/
import Derived.Test.YtkhhmmblkfogcaaTxD
namespace Go.Proofs.Ytkhhmmblkfogcaa
open Go.ChangeShapes Go.WideShapes Go.ChangeAt Go.RowKit

def oneB : ByteArray := ⟨#[111, 110, 101]⟩
def twoB : ByteArray := ⟨#[116, 119, 111]⟩

theorem recs_block {w : World} {g : Nat} {l : List (Nat × ByteArray)} {cap : Nat} (h : w.heap[g]? = some (.cells (cellsR l).toArray 50 (0, 0))) (hl : l.length ≤ 1000) : IsRecs w (.slice (some ⟨g, 0, none⟩) l.length cap) l :=
  ⟨_, cap, rfl, by omega, .inr ⟨g, _, rfl, h, fun j u hu => by simpa using hu⟩⟩

theorem TxOnly.below {w0 w w' : World} {T : Nat} {M : Option Nat} (h : TxOnly w w' T M) (hw : Below w0.heap.size w0 w) (hT : w0.heap.size ≤ T) (hM : ∀ m, M = some m → w0.heap.size ≤ m) : Below w0.heap.size w0 w' :=
  hw.trans (Only.below h hw.size fun k hk => by
    rcases hk with rfl | hk
    · exact hT
    · exact hM k hk.symm)

theorem put_two {w : World} {T : Nat} {M : Option Nat} {b : Value} {f : Nat → Option ByteArray} {l : List (Nat × Ch)} (h : IsTx w T M b l) (hb : IsBase w b f) (hl : l.length < 1000) :
    Calls Try.prog 5 #[.pointer (some ⟨T, 0, none⟩), .int .u64 2, .string ⟨#[116, 119, 111]⟩] w fun e w' => e = .returned (.tuple #[]) ∧ ∃ M', IsTx w' T M' b (putT f l 2 twoB) ∧ TxOnly w w' T M ∧ (M' = M ∨ ∃ m, M' = some m ∧ w.heap.size ≤ m) :=
  put_any (a := 2) (s := twoB) h hb (by decide) (by decide) hl

theorem get_one {w : World} {T : Nat} {M : Option Nat} {b : Value} {f : Nat → Option ByteArray} {l : List (Nat × Ch)} (h : IsTx w T M b l) (hb : IsBase w b f) (hg : getT f l 1 = some oneB) :
    Calls Try.prog 6 #[.pointer (some ⟨T, 0, none⟩), .int .u64 1] w fun e w' => e = .returned (.tuple #[.string ⟨#[111, 110, 101]⟩, .bool true]) ∧ Below w.heap.size w w' := by
  have := get_any (a := 1) h hb (by decide)
  rw [hg] at this
  exact this

theorem get_two {w : World} {T : Nat} {M : Option Nat} {b : Value} {f : Nat → Option ByteArray} {l : List (Nat × Ch)} (h : IsTx w T M b l) (hb : IsBase w b f) (hg : getT f l 2 = some twoB) :
    Calls Try.prog 6 #[.pointer (some ⟨T, 0, none⟩), .int .u64 2] w fun e w' => e = .returned (.tuple #[.string ⟨#[116, 119, 111]⟩, .bool true]) ∧ Below w.heap.size w w' := by
  have := get_any (a := 2) h hb (by decide)
  rw [hg] at this
  exact this

theorem changes_len {w : World} {T : Nat} {M : Option Nat} {b : Value} {l : List (Nat × Ch)} (h : IsTx w T M b l) {n : Nat} (hn : l.length = n) (h12 : n ≤ 12) :
    Calls Try.prog 10 #[.pointer (some ⟨T, 0, none⟩)] w fun e w' => (∃ A c, e = .returned (.slice A n c)) ∧ Below w.heap.size w w' := by
  subst hn
  refine (changes_any h h12).mono ?_
  rintro e w' ⟨v, rfl, hv, hb⟩
  obtain ⟨A, c, rfl⟩ := owns_slice hv
  exact ⟨⟨A, c, rfl⟩, hb⟩

theorem awake_any (w : World) : Calls Try.prog 8 #[] w fun e w' => e = .returned (.bool true) ∧ Below w.heap.size w w' := by
  have hW0 : ∃ W0, w.alloc (.cells #[.int .u64 1, .string oneB] 50) = W0 := ⟨_, rfl⟩
  obtain ⟨W0, hW0⟩ := hW0
  have hb0 : Below w.heap.size w W0 := hW0 ▸ (Below.refl _ w).alloc (Nat.le_refl _) _
  have hz0 : W0.heap.size = w.heap.size + 1 := by rw [← hW0]; simp
  have hr0 : W0.heap[w.heap.size]? = some (.cells (cellsR [(1, oneB)]).toArray 50 (0, 0)) := by rw [← hW0]; exact heap_alloc_last w _
  have hl0 := recs_block (cap := 1) hr0 (by simp)
  have HB0 := Lib.hid hb0
  have HG := Lib.hid (getter_any (some ⟨w.heap.size, 0, none⟩) 1 1 W0)
  have hbox : (W0.alloc (.cells #[.slice (some ⟨w.heap.size, 0, none⟩) 1 1] 34)).heap[W0.heap.size]? = some (.cells #[.slice (some ⟨w.heap.size, 0, none⟩) 1 1] 34 (0, 0)) := heap_alloc_last W0 _
  have hb1 : Below W0.heap.size W0 (W0.alloc (.cells #[.slice (some ⟨w.heap.size, 0, none⟩) 1 1] 34)) := (Below.refl _ W0).alloc (Nat.le_refl _) _
  have hbs : IsBase (W0.alloc (.cells #[.slice (some ⟨w.heap.size, 0, none⟩) 1 1] 34)) (.func (.func 23) #[] #[.pointer (some ⟨W0.heap.size, 0, none⟩)]) (findR [(1, oneB)]) :=
    .inr ⟨_, _, [(1, oneB)], rfl, hbox, hl0.on hb1, rfl, by intro p hp; simp at hp; subst hp; decide⟩
  have HBS := Lib.hid hbs
  have HB1 := Lib.hid (hb0.trans (hb1.mono hb0.size))
  have f1 : findR [(1, oneB)] 1 = some oneB := rfl
  have f2 : findR [(1, oneB)] 2 = none := rfl
  have g1 : getT (findR [(1, oneB)]) (putT (findR [(1, oneB)]) [] 2 twoB) 1 = some oneB := rfl
  have g2 : getT (findR [(1, oneB)]) (putT (findR [(1, oneB)]) [] 2 twoB) 2 = some twoB := rfl
  have g3 : (putT (findR [(1, oneB)]) [] 2 twoB).length = 1 := rfl
  have G1 := Lib.hid g1; have G2 := Lib.hid g2; have G3 := Lib.hid g3
  have hW := hW0
  clear hr0 hl0 hb0 hbox hb1 hbs f1 f2 g1 g2 g3
  generalize findR [(1, oneB)] = f at HBS G1 G2 G3
  have HZ0 := Lib.hid hz0
  clear hz0 hW0
  obtain ⟨b, hb⟩ : ∃ b, Value.func (.func 23) #[] #[.pointer (some ⟨W0.heap.size, 0, none⟩)] = b := ⟨_, rfl⟩
  have hbk : b = .nilFunc ∨ ∃ f a c, b = .func f a c := .inr ⟨_, _, _, hb.symm⟩
  rw [hb] at HBS HG
  have HBK := Lib.hid hbk
  obtain ⟨W1, hW1⟩ : ∃ W1, W0.alloc (.cells #[.slice (some ⟨w.heap.size, 0, none⟩) 1 1] 34) = W1 := ⟨_, rfl⟩
  rw [hW1] at HBS HB1 HG
  unfold oneB at hW
  clear hb hbk hW1
  go_enter Try.func8, Try.ntmps8
  go_wp2_with (first
    | (go_at_call 13; refine HG.out.mono ?_; rintro e w1 ⟨rfl, rfl⟩; clear hW)
    | (go_at_call 7; refine (new_any b HBK.out w1).mono ?_; rintro e w2 ⟨rfl, ht2, hb2⟩; have HT2 := Lib.hid ht2; have HB2 := Lib.hid hb2; clear ht2 hb2)
    | (go_at_call 5; (with_reducible refine (put_two HT2.out (HBS.out.on HB2.out) (by decide)).mono ?_); rintro e w3 ⟨rfl, M3, ht3, ho3, hm3⟩; have HBS3 := Lib.hid ((HBS.out.on HB2.out).tx HT2.out ho3); have HT3 := Lib.hid ht3; have HB3 : Hid (Below w.heap.size w w3) := Lib.hid (TxOnly.below ho3 (HB1.out.trans (HB2.out.mono HB1.out.size)) HB1.out.size (fun m h => by cases h)); clear ht3 ho3 hm3)
    | (go_at_call 6; (with_reducible refine (get_one HT3.out HBS3.out G1.out).mono ?_); rintro e w4 ⟨rfl, hb4⟩; have HB4 := Lib.hid hb4; clear hb4)
    | (go_at_call 6; (with_reducible refine (get_two (HT3.out.on HB4.out) (HBS3.out.on HB4.out) G2.out).mono ?_); rintro e w5 ⟨rfl, hb5⟩; have HB5 := Lib.hid hb5; clear hb5)
    | (go_at_call 10; (with_reducible refine (changes_len ((HT3.out.on HB4.out).on HB5.out) G3.out (by decide)).mono ?_); rintro e w6 ⟨⟨Av, cv, rfl⟩, hb6⟩; have HB6 := Lib.hid hb6; clear hb6)
    | fail)
  go_ret
  exact ⟨rfl, ((HB3.out.trans (HB4.out.mono HB3.out.size)).trans (HB5.out.mono (Nat.le_trans HB3.out.size HB4.out.size))).trans (HB6.out.mono (Nat.le_trans (Nat.le_trans HB3.out.size HB4.out.size) HB5.out.size))⟩

theorem u64_of {a : Int} (h : (Lit.int .u64 a).wf = true) : ∃ n : Nat, a = n ∧ n < 18446744073709551616 := by
  have e1 : IntKind.u64.min = 0 := by decide
  have e2 : IntKind.u64.max = 18446744073709551615 := by decide
  simp [Lit.wf, e1, e2] at h
  exact ⟨a.toNat, by omega, by omega⟩

theorem get_val {w : World} {T : Nat} {M : Option Nat} {b : Value} {f : Nat → Option ByteArray} {l : List (Nat × Ch)} (h : IsTx w T M b l) (hb : IsBase w b f) {a : Nat} (ha : a < 18446744073709551616) {x : Option ByteArray} (hg : getT f l a = x) :
    Calls Try.prog 6 #[.pointer (some ⟨T, 0, none⟩), .int .u64 (a : Int)] w fun e w' => e = .returned (.tuple #[.string (x.getD noB), .bool x.isSome]) ∧ Below w.heap.size w w' := by
  subst hg
  exact get_any h hb ha

theorem drop_val {w : World} {T : Nat} {M : Option Nat} {b : Value} {f : Nat → Option ByteArray} {l : List (Nat × Ch)} (h : IsTx w T M b l) (hb : IsBase w b f) {a : Nat} (ha : a < 18446744073709551616) (hl : l.length < 1000) {x : Option ByteArray} (hg : getT f l a = x) {l' : List (Nat × Ch)} (hd : dropT f l a = l') :
    Calls Try.prog 9 #[.pointer (some ⟨T, 0, none⟩), .int .u64 (a : Int)] w fun e w' => e = .returned (.bool x.isSome) ∧ ∃ M', IsTx w' T M' b l' ∧ TxOnly w w' T M ∧ (M' = M ∨ ∃ m, M' = some m ∧ w.heap.size ≤ m) := by
  subst hg hd
  exact drop_any h hb ha hl

theorem base_nil (w : World) : IsBase w .nilFunc (fun _ => none) := .inl ⟨rfl, rfl⟩

set_option maxHeartbeats 1000000 in
theorem txnone_walk (a : Nat) (ha : a < 18446744073709551616) (s : ByteArray) (hs : s.size ≤ 281474976710656) (w : World) : Calls Try.prog 3 #[.int .u64 (a : Int), .string s] w fun e w' => e = .returned (.bool true) ∧ Below w.heap.size w w' := by
  have G1 : Hid (getT (fun _ => none) [] a = none) := rfl
  have G2 : Hid (putT (fun _ => none) [] a s = [(a, ⟨s, false⟩)]) := rfl
  have G3 : Hid (getT (fun _ => none) [(a, ⟨s, false⟩)] a = some s) := by simp [Hid, getT, getU]
  have G4 : Hid (dropT (fun _ => none) [(a, ⟨s, false⟩)] a = []) := by simp [Hid, dropT, getT, getU, delU]
  have HA := Lib.hid ha; have HS := Lib.hid hs
  have HP : Hid (∀ (w : World) (T : Nat) (M : Option Nat), IsTx w T M .nilFunc [] → Calls Try.prog 5 #[.pointer (some ⟨T, 0, none⟩), .int .u64 (a : Int), .string s] w fun e w' => e = .returned (.tuple #[]) ∧ ∃ M', IsTx w' T M' .nilFunc [(a, ⟨s, false⟩)] ∧ TxOnly w w' T M ∧ (M' = M ∨ ∃ m, M' = some m ∧ w.heap.size ≤ m)) := Lib.hid (fun w T M h => by
    have := put_any h (f := fun _ => none) (.inl ⟨rfl, rfl⟩) ha hs (by decide)
    rw [G2.out] at this
    exact this)
  clear ha hs
  go_enter Try.func3, Try.ntmps3
  go_wp2_with (first
    | (go_at_call 5; (with_reducible refine (put_nil _ _ _).mono ?_); rintro e w0 ⟨rfl, rfl⟩)
    | (go_at_call 6; (with_reducible refine (get_nil _ _).mono ?_); rintro e w0 ⟨rfl, rfl⟩)
    | (go_at_call 9; (with_reducible refine (drop_nil _ _).mono ?_); rintro e w0 ⟨rfl, rfl⟩)
    | (go_at_call 10; (with_reducible refine (changes_nil _).mono ?_); rintro e w0 ⟨rfl, rfl⟩)
    | (go_at_call 11; (with_reducible refine (copy_nil _).mono ?_); rintro e w0 ⟨rfl, rfl⟩)
    | (go_at_call 7; refine (new_any .nilFunc (.inl rfl) w).mono ?_; rintro e w1 ⟨rfl, ht1, hb1⟩; have HT1 := Lib.hid ht1; have HB1 := Lib.hid hb1; clear ht1 hb1)
    | (go_at_call 6; (with_reducible refine (get_val HT1.out (base_nil _) HA.out G1.out).mono ?_); clear G1; rintro e w2 ⟨rfl, hb2⟩; have HT2 := Lib.hid (HT1.out.on hb2); have HB2 := Lib.hid (HB1.out.trans (hb2.mono HB1.out.size)); clear hb2)
    | (go_at_call 5; (with_reducible refine (HP.out _ _ _ HT2.out).mono ?_); rintro e w3 ⟨rfl, M3, ht3, ho3, hm3⟩; have HT3 := Lib.hid ht3; have HB3 := Lib.hid (ho3.below HB2.out (Nat.le_refl _) (fun m h => by cases h)); have HM3 : Hid (∀ m, M3 = some m → w.heap.size ≤ m) := Lib.hid (fun m h => by rcases hm3 with k | ⟨m', k, k2⟩; (rw [h] at k; cases k); (rw [h] at k; cases k; exact Nat.le_trans HB2.out.size k2)); clear ht3 ho3 hm3)
    | (go_at_call 6; (with_reducible refine (get_val HT3.out (base_nil _) HA.out G3.out).mono ?_); rintro e w4 ⟨rfl, hb4⟩; have HT4 := Lib.hid (HT3.out.on hb4); have HB4 := Lib.hid (HB3.out.trans (hb4.mono HB3.out.size)); clear hb4)
    | (go_at_call 8; (with_reducible refine (awake_any _).mono ?_); rintro e w5 ⟨rfl, hb5⟩; have HT5 := Lib.hid (HT4.out.on hb5); have HB5 := Lib.hid (HB4.out.trans (hb5.mono HB4.out.size)); clear hb5)
    | (go_at_call 10; (with_reducible refine (changes_len (n := 1) HT5.out rfl (by decide)).mono ?_); rintro e w6 ⟨⟨Av, cv, rfl⟩, hb6⟩; have HT6 := Lib.hid (HT5.out.on hb6); have HB6 := Lib.hid (HB5.out.trans (hb6.mono HB5.out.size)); clear hb6 HT5)
    | (go_at_call 9; (with_reducible refine (drop_val HT6.out (base_nil _) HA.out (by simp) G3.out G4.out).mono ?_); rintro e w7 ⟨rfl, M7, ht7, ho7, hm7⟩; have HT7 := Lib.hid ht7; have HB7 := Lib.hid (ho7.below HB6.out (Nat.le_refl _) HM3.out); clear ht7 ho7 hm7)
    | (go_at_call 10; (with_reducible refine (changes_len (n := 0) HT7.out rfl (by decide)).mono ?_); rintro e w8 ⟨⟨Aw, cw, rfl⟩, hb8⟩; have HB8 := Lib.hid (HB7.out.trans (hb8.mono HB7.out.size)); clear hb8)
    | fail)
  go_ret
  exact ⟨rfl, HB8.out⟩

end Go.Proofs.Ytkhhmmblkfogcaa
