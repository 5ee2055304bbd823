/- NumB, LxF, LxR, LxW -/
import Derived.Test.YtgmjhoppjjjilaaDoorQ04
import Derived.Test.YtgmjhoppjjjilaaDoorQ10
import Derived.Test.YtgmjhoppjjjilaaDoorQ08

/- contracts of num.Canon, num.Key, num.Cmp, num.Float and of the math functions that they call -/
namespace Go.Proofs.YtgmjhoppjjjilaaDoor
open Go.ChangeShapes Go.WideShapes Go.ChangeAt Go.RowKit Go.Fl

theorem call_bits (b : Nat) (w : World) : (callFunc 34 #[.float .f64 b]).run Tryd.prog w = .ok (.value (.int .u64 b)) w :=
  (run_callFunc_extern (fn := Tryd.f34) (e := Extern.MathFloatBits.float64bits) (by kernel_rfl) (by kernel_rfl) (by kernel_rfl) (by kernel_rfl) (by kernel_rfl) _ w).trans rfl

theorem call_from (n : Int) (w : World) : (callFunc 61 #[.int .u64 n]).run Tryd.prog w = .ok (.value (.float .f64 n.toNat)) w :=
  (run_callFunc_extern (fn := Tryd.f61) (e := Extern.MathFloatBits.float64frombits) (by kernel_rfl) (by kernel_rfl) (by kernel_rfl) (by kernel_rfl) (by kernel_rfl) _ w).trans rfl

theorem isnan_any (b : Nat) (w : World) :
    Calls Tryd.prog 78 #[.float .f64 b] w fun e w' => e = .returned (.bool (nanB b)) ∧ w = w' := by
  go_enter Tryd.func78, Tryd.ntmps78
  go_wp2
  go_ret
  exact ⟨rfl, rfl⟩

theorem canon_any (b : Nat) (w : World) :
    Calls Tryd.prog 54 #[.float .f64 b] w fun e w' => e = .returned (.float .f64 (canonN b)) ∧ w = w' := by
  unfold canonN
  rcases h : nanB b with _ | _
  · go_enter Tryd.func54, Tryd.ntmps54
    go_wp2_with (go_at_call 78; refine (isnan_any _ _).mono ?_; rintro e w' ⟨rfl, rfl⟩)
    go_ret
    exact ⟨rfl, rfl⟩
  · have hf := call_from
    go_enter Tryd.func54, Tryd.ntmps54
    go_wp2_with (go_at_call 78; refine (isnan_any _ _).mono ?_; rintro e w' ⟨rfl, rfl⟩)
    go_ret
    exact ⟨rfl, rfl⟩

theorem canonN_lt (b : Nat) (hb : b < 18446744073709551616) : canonN b < 18446744073709551616 := by unfold canonN; split <;> omega

def cmpN (a b : Nat) : Int := if keyN a < keyN b then -1 else if keyN b < keyN a then 1 else 0

theorem cmp_lt {a b : Nat} (h : keyN a < keyN b) : cmpN a b = -1 := by unfold cmpN; rw [if_pos h]

theorem cmp_gt {a b : Nat} (h : keyN b < keyN a) : cmpN a b = 1 := by unfold cmpN; rw [if_neg (by omega), if_pos h]

theorem cmp_eq {a b : Nat} (h : keyN a = keyN b) : cmpN a b = 0 := by unfold cmpN; rw [if_neg (by omega), if_neg (by omega)]

theorem signbit_any (b : Nat) (w : World) (hb : b < 18446744073709551616) :
    Calls Tryd.prog 32 #[.float .f64 b] w fun e w' => e = .returned (.bool (neg b)) ∧ w = w' := by
  have hf := call_bits
  have e1 : neg b = decide (wrap64 (b : Int) < 0) := by unfold neg wrap64; rw [Bool.eq_iff_iff]; simp; omega
  rw [e1]; clear e1
  go_enter Tryd.func32, Tryd.ntmps32
  go_wp2
  go_ret
  exact ⟨rfl, rfl⟩

theorem cmp_turn (a b : Nat) : cmpN b a = -cmpN a b := by
  rcases Nat.lt_trichotomy (keyN a) (keyN b) with h | h | h
  · rw [cmp_lt h, cmp_gt h]; rfl
  · rw [cmp_eq h, cmp_eq h.symm]; rfl
  · rw [cmp_lt h, cmp_gt h]

theorem cmp_cases (a b : Nat) : -1 ≤ cmpN a b ∧ cmpN a b ≤ 1 := by
  unfold cmpN; split
  · omega
  · split <;> omega

theorem cmp_neg (a b : Nat) : decide (keyN a < keyN b) = decide (cmpN a b < 0) := by
  rcases Nat.lt_trichotomy (keyN a) (keyN b) with h | h | h
  · rw [cmp_lt h, decide_eq_true h]; rfl
  · rw [cmp_eq h, decide_eq_false (by omega)]; rfl
  · rw [cmp_gt h, decide_eq_false (by omega)]; rfl

theorem cmp_zero (a b : Nat) : (((keyN a : Nat) : Int) == ((keyN b : Nat) : Int)) = (cmpN a b == 0) := by
  rcases Nat.lt_trichotomy (keyN a) (keyN b) with h | h | h
  · rw [cmp_lt h, Bool.eq_iff_iff]; simp; omega
  · rw [cmp_eq h, Bool.eq_iff_iff]; simp; omega
  · rw [cmp_gt h, Bool.eq_iff_iff]; simp; omega

end Go.Proofs.YtgmjhoppjjjilaaDoor

/- lex.Float, lex.readFloat -/
namespace Go.Proofs.YtgmjhoppjjjilaaDoor
open Go.ChangeShapes Go.WideShapes Go.ChangeAt Go.RowKit Go.Fl
open Go.Shelf

theorem ofL_size (l : List UInt8) : (ofL l).size = l.length := by unfold ofL; exact str_size l

theorem ofL_cat (a b : List UInt8) : ofL a ++ ofL b = ofL (a ++ b) := str_cat a b

theorem ofL_add {P : Program} (a b : List UInt8) (h : a.length + b.length ≤ 1000000) (W : World) : (Op.stringOp .add (ofL a) (ofL b)).run P W = .ok (.string (ofL (a ++ b))) W := by
  rw [run_string_add_sum W _ _ (by rw [ofL_size, ofL_size]; omega), ofL_cat]

set_option maxRecDepth 100000 in
theorem ifmtU16_any (u : Nat) (hu : u < 18446744073709551616) (w : World) (he : EnvT w) :
    Calls Tryd.prog 77 #[.int .u64 (u : Nat), .int .i64 16] w (HexSaid u w id) := by
  have HC := Lib.hid (fmt16_any u hu w he)
  clear hu
  go_enter Tryd.func77, Tryd.ntmps77
  go_wp2_with fail
  refine HC.out.mono ?_
  rintro e w' ⟨k, D, rfl, h1, h2, h3, h4⟩
  have H := Lib.hid (And.intro h1 (And.intro h2 (And.intro h3 h4)))
  clear h1 h2 h3 h4
  go_wp2_with fail
  go_ret
  exact ⟨k, D, rfl, H.out⟩

set_option maxRecDepth 100000 in
theorem fmtU16_any (u : Nat) (hu : u < 18446744073709551616) (w : World) (he : EnvT w) :
    Calls Tryd.prog 53 #[.int .u64 (u : Nat), .int .i64 16] w (HexSaid u w id) := by
  have HC := Lib.hid (ifmtU16_any u hu w he)
  clear hu
  go_enter Tryd.func53, Tryd.ntmps53
  go_wp2_with fail
  refine HC.out.mono ?_
  rintro e w' ⟨k, D, rfl, h1, h2, h3, h4⟩
  have H := Lib.hid (And.intro h1 (And.intro h2 (And.intro h3 h4)))
  clear h1 h2 h3 h4
  go_wp2_with fail
  go_ret
  exact ⟨k, D, rfl, H.out⟩

theorem repeat_48 : ∀ c : Nat, Lib.repeatL [(48 : UInt8)] c = List.replicate c 48
  | 0 => rfl
  | c + 1 => by
    unfold Lib.repeatL
    first
      | (rw [repeat_48 c]; rfl)
      | (simp [List.replicate_succ])

set_option maxHeartbeats 1000000 in
set_option maxRecDepth 100000 in
theorem lfloat_any (f : Nat) (hf : f < 18446744073709551616) (w : World) (he : EnvT w) :
    Calls Tryd.prog 41 #[.float .f64 f] w fun e w' => e = .returned (.string (ofL (fltL (canonN f)))) ∧ Below w.heap.size w w' := by
  have hcl := canonN_lt f hf
  have HF := Lib.hid (fmtU16_any (canonN f) hcl w he)
  have hb := call_bits (canonN f)
  clear hcl
  go_enter Tryd.func41, Tryd.ntmps41
  go_wp2_with fail
  refine (canon_any f _).mono ?_
  rintro e w' ⟨rfl, rfl⟩
  go_wp2_with fail
  refine HF.out.mono ?_
  rintro e w1 ⟨k, D, rfl, hk, hD, hx, hb1⟩
  have es : (16 : Int) - ((ofL D).size : Int) = (k : Int) := by rw [ofL_size]; omega
  have hsz : (ofL D).size ≤ 16 := by rw [ofL_size]; omega
  have HR := repeat_any ⟨#[48]⟩ k w1 (by show 1 * k ≤ _; omega) (by omega)
  rw [← es, show (⟨#[48]⟩ : ByteArray).data.toList = [48] from rfl, repeat_48] at HR
  have a1 := fun W => ofL_add (P := Tryd.prog) [102, 39] (List.replicate k 48) (by rw [List.length_replicate]; simp; omega) W
  have a2 := fun W => ofL_add (P := Tryd.prog) ([102, 39] ++ List.replicate k 48) D (by rw [List.length_append, List.length_replicate]; simp; omega) W
  have a3 := fun W => ofL_add (P := Tryd.prog) ([102, 39] ++ List.replicate k 48 ++ D) [39] (by rw [List.length_append, List.length_append, List.length_replicate]; simp; omega) W
  have hl : Hid ([102, 39] ++ List.replicate k 48 ++ D ++ [39] = fltL (canonN f)) := Lib.hid (by unfold fltL; rw [hx]; simp)
  obtain ⟨r1, hr1⟩ : ∃ r1, ofL ([102, 39] ++ List.replicate k 48) = r1 := ⟨_, rfl⟩
  obtain ⟨r2, hr2⟩ : ∃ r2, ofL ([102, 39] ++ List.replicate k 48 ++ D) = r2 := ⟨_, rfl⟩
  obtain ⟨r3, hr3⟩ : ∃ r3, ofL ([102, 39] ++ List.replicate k 48 ++ D ++ [39]) = r3 := ⟨_, rfl⟩
  obtain ⟨r0, hr0⟩ : ∃ r0, ofL (List.replicate k 48) = r0 := ⟨_, rfl⟩
  have HR : Hid (Calls Tryd.prog 55 #[.string ⟨#[48]⟩, .int .i64 (16 - ((ofL D).size : Int))] w1 fun e w' => e = .returned (.string r0) ∧ Below w1.heap.size w1 w') := Lib.hid (by rw [← hr0]; exact HR)
  rw [hr0, hr1] at a1
  rw [hr1, hr2] at a2
  rw [hr2, hr3] at a3
  obtain ⟨SD, hSD⟩ : ∃ SD, ofL D = SD := ⟨_, rfl⟩
  rw [hSD] at a2 HR es hsz
  rw [hSD]
  have H3 : Hid (r3 = ofL (fltL (canonN f))) := Lib.hid (by rw [← hr3, hl.out])
  have Hb1 := Lib.hid hb1
  unfold ofL at a1 a3
  clear hk hD hx hb1 hr0 hr1 hr2 hr3 hSD hl es
  go_wp2_with fail
  refine HR.out.mono ?_
  rintro e w2 ⟨rfl, hb2⟩
  go_wp2_with fail
  go_ret
  exact ⟨by rw [H3.out]; rfl, Hb1.out.trans (hb2.mono Hb1.out.size)⟩

theorem hexU_lt {c : UInt8} {d : Nat} (h : hexU c = some d) : d < 16 := by
  unfold hexU at h
  split at h
  · injection h with h; omega
  · split at h
    · injection h with h; omega
    · split at h
      · injection h with h; omega
      · cases h

theorem hexGo_lt : ∀ (l : List UInt8) (a b k : Nat), a < 16 ^ k → hexGo l a = some b → b < 16 ^ (k + l.length)
  | [], a, b, k, h, hg => by injection hg with hg; subst hg; exact h
  | c :: r, a, b, k, h, hg => by
    rw [hexGo] at hg
    cases hc : hexU c with
    | none => rw [hc] at hg; cases hg
    | some d =>
      rw [hc] at hg
      have := hexU_lt hc
      have h2 := hexGo_lt r (a * 16 + d) b (k + 1) (by rw [Nat.pow_succ]; omega) hg
      rw [List.length_cons]
      rw [show k + (r.length + 1) = k + 1 + r.length by omega]
      exact h2

theorem mid_list (S : ByteArray) (a b : Nat) : (S.extract a b).data.toList = (S.data.toList.take b).drop a := by
  rw [ByteArray.data_extract]
  simp only [Array.toList_extract, List.extract, List.drop_take]

end Go.Proofs.YtgmjhoppjjjilaaDoor

/- lex.read -/
namespace Go.Proofs.YtgmjhoppjjjilaaDoor
open Go.ChangeShapes Go.WideShapes Go.ChangeAt Go.RowKit Go.Fl
open Go.Shelf

theorem rdV_open (o : Option (Wd × Nat)) : ∃ (k : Int) (s : ByteArray) (n : Int) (f a m : Nat), rdV o = .tuple #[.agg #[.int .i64 k, .string s, .int .i64 n, .float .f64 f, .int .i64 (a : Nat)], .int .i64 (m : Nat)] := by
  cases o with
  | none => exact ⟨0, ⟨#[]⟩, 0, 0, 0, 0, rfl⟩
  | some xn => exact ⟨xn.1.k, xn.1.s, xn.1.n, xn.1.f, xn.1.at_, xn.2, rfl⟩

def sgns : ByteArray := ⟨#[46, 40, 41, 44, 91, 93]⟩

theorem sgn_fin : ∀ n : Fin 256, decide (0 ≤ Lib.indexByte sgns.data.toList (UInt8.ofNat n.val)) = sgnW (UInt8.ofNat n.val) := by decide +kernel

theorem sgn_index (c : UInt8) : decide (0 ≤ Lib.indexByte sgns.data.toList c) = sgnW c := by
  have := sgn_fin ⟨c.toNat, c.toNat_lt⟩
  simpa using this

end Go.Proofs.YtgmjhoppjjjilaaDoor

/- lex.Words -/
namespace Go.Proofs.YtgmjhoppjjjilaaDoor
open Go.ChangeShapes Go.WideShapes Go.ChangeAt Go.RowKit Go.Fl
open Go.Shelf

def wdC (x : Wd) : List Value := [.int .i64 x.k, .string x.s, .int .i64 x.n, .float .f64 x.f, .int .i64 (x.at_ : Nat)]

def wdsC (l : List Wd) : List Value := l.flatMap wdC

theorem wdsC_len : ∀ l : List Wd, (wdsC l).length = l.length * 5
  | [] => rfl
  | x :: r => by
    have := wdsC_len r
    unfold wdsC at this ⊢
    rw [List.flatMap_cons, List.length_append, this, List.length_cons]
    simp [wdC]; omega

theorem wdsC_snoc (l : List Wd) (x : Wd) : wdsC (l ++ [x]) = wdsC l ++ wdC x := by simp [wdsC]

theorem wdsC_get : ∀ (l : List Wd) (j k : Nat) (hj : j < l.length), k < 5 → (wdsC l)[j * 5 + k]? = (wdC l[j])[k]?
  | [], j, _, hj, _ => absurd hj (Nat.not_lt_zero _)
  | x :: r, 0, k, _, hk => by
    show (wdC x ++ wdsC r)[0 * 5 + k]? = _
    rw [Nat.zero_mul, Nat.zero_add, List.getElem?_append_left (by simpa [wdC] using hk)]
    rfl
  | x :: r, j + 1, k, hj, hk => by
    have hl : (wdC x).length = 5 := rfl
    show (wdC x ++ wdsC r)[(j + 1) * 5 + k]? = _
    rw [List.getElem?_append_right (by rw [hl]; omega), hl, show (j + 1) * 5 + k - 5 = j * 5 + k by omega]
    exact wdsC_get r j k (by simpa using hj) hk

theorem info_word : (Tryd.prog.info? 65).map (fun i => (i.zero, i.size, i.bytes)) = some (some (.agg #[.int .i64 0, .string ⟨#[]⟩, .int .i64 0, .float .f64 0, .int .i64 0]), 5, 48) := by kernel_rfl

/-- a row of words of one's own -/
def OwnW (B : Nat) (w : World) (ws : List Wd) (v : Value) : Prop := w.ownsRow B 65 5 v ws.length (wdsC ws)

theorem OwnW.on {B : Nat} {w w' : World} {ws : List Wd} {v : Value} (h : OwnW B w ws v) (hb : Below w.heap.size w w') : OwnW B w' ws v := by
  refine World.ownsRow.kept (row := none) h ⟨hb.os, hb.tape, hb.output, hb.size, fun k hk _ => hb.block k hk⟩ ?_
  cases hv : v.ownBlock <;> simp

theorem OwnW.add {B : Nat} {w : World} {ws : List Wd} {v : Value} (h : OwnW B w ws v) (hB : B ≤ w.heap.size) (hn : ws.length ≤ 100000) (x : Wd) (a : Addr) (hc : ∀ j u, (wdC x)[j]? = some u → w.cell? (a.add j) = some u) :
    ∃ v' w', (Builtin.append_ #[59, 59] 59 #[v, .slice (some a) 1 1]).run Tryd.prog w = .ok v' w' ∧ OwnW B w' (ws ++ [x]) v' ∧ Below B w w' := by
  obtain ⟨i0, hi0, hz0, hz1, hz2⟩ := info_parts info_word
  obtain ⟨v', w', hr, hown, hg, -⟩ := run_append_fresh (P := Tryd.prog) w B 59 59 65 i0 _ 5 48 Tryd.underlying59 hi0 hz0 hz1 hz2 rfl (by decide) v ws.length (wdsC ws) h a 1 1 (wdC x) rfl hc
    (fun u hu => by simp [wdC] at hu; rcases hu with rfl | rfl | rfl | rfl | rfl <;> rfl) (by unfold maxLen; omega) (by omega) hB (by decide)
  refine ⟨v', w', hr, ?_, (Below.refl _ _).grown hg hB (fun k hk => (h.lt k hk).1)⟩
  unfold OwnW
  rw [wdsC_snoc, List.length_append, List.length_singleton]
  exact hown

theorem OwnW.slice {B : Nat} {w : World} {ws : List Wd} {v : Value} (h : OwnW B w ws v) (hne : ws ≠ []) : ∃ g cap, v = .slice (some ⟨g, 0, none⟩) ws.length cap ∧ ws.length ≤ cap ∧ B ≤ g ∧ g < w.heap.size ∧ (∀ j k (hj : j < ws.length), k < 5 → w.cell? ⟨g, j * 5 + k, none⟩ = (wdC ws[j])[k]?) := by
  have hlt := h.lt
  rcases h.2 with ⟨-, h0⟩ | ⟨g, cap, cur, rfl, hBg, hg, hnc, -, hcs, htake⟩
  · exact absurd (List.length_eq_zero_iff.1 h0) hne
  · refine ⟨g, cap, rfl, hnc, hBg, (hlt g (by simp [Value.ownBlock])).2, fun j k hj hk => ?_⟩
    have h1 := wdsC_get ws j k hj hk
    rw [← h1, ← htake, List.getElem?_take_of_lt (by omega), cell_of_row w g (j * 5 + k) cur 65 (0, 0) hg]
    simp

/-- words as a call hands them on -/
def IsWds (w : World) (v : Value) (ws : List Wd) : Prop := ∃ g cap, v = .slice (some ⟨g, 0, none⟩) ws.length cap ∧ ws.length ≤ cap ∧ g < w.heap.size ∧ (∀ j k (hj : j < ws.length), k < 5 → w.cell? ⟨g, j * 5 + k, none⟩ = (wdC ws[j])[k]?)

def WdsSaid (l : List UInt8) (w : World) (e : Ending) (w' : World) : Prop :=
  ∃ v, e = .returned (.tuple #[v, .int .i64 ((wdsO canonN l).2.1 : Nat), .int .i64 (wdsO canonN l).2.2]) ∧ (((wdsO canonN l).2.2 = 0 ∧ IsWds w' v (wdsO canonN l).1) ∨ ((wdsO canonN l).2.2 ≠ 0 ∧ v = .slice none 0 0)) ∧ Below w.heap.size w w'

theorem skip_lt {l : List UInt8} {a : Nat} (h : runP spcB l a ≤ l.length) : a ≤ l.length := Nat.le_trans (runP_ge spcB l a) h

end Go.Proofs.YtgmjhoppjjjilaaDoor
