/- LxE, LxN, LxO, LxU, LxV -/
import Derived.Test.YtgmjhoppjjjilaaDoorQ09
import Derived.Lib.LaidTab
import Derived.Lib.AppendIntMem
import Derived.Lib.AtoiErrMem
import Derived.Lib.ParseIntBTie
import Derived.Stop.LaidErr
import Derived.MakeChecks
import Derived.Lib.Strings
import Derived.Laws.Strings3
import Derived.Laws.Closers25
import Derived.Laws.Closers25b
import Derived.Lib.ConvBytes
import Derived.Lib.ItoaMem

/- what a law's variables hold; numbers told and read -/
namespace Go.Proofs.YtgmjhoppjjjilaaDoor
open Go.ChangeShapes Go.WideShapes Go.ChangeAt Go.RowKit Go.Fl
open Go.Shelf

theorem var_on {P : Program} {w w' : World} {n : String} {cs : Array Value} (h : w.var? P n = some cs) (hb : Below w.heap.size w w') : w'.var? P n = some cs := by
  unfold World.var? at h ⊢
  cases hg : P.globalNamed n with
  | none => simp [hg] at h
  | some g =>
    simp only [hg, Option.bind_some] at h ⊢
    have hlt : g < w.heap.size := by
      rcases Nat.lt_or_ge g w.heap.size with h' | h'
      · exact h'
      · simp [Array.getElem?_eq_none h'] at h
    rw [hb.block g hlt]
    exact h

def tab64 : List Int := [0, 1, 56, 2, 57, 49, 28, 3, 61, 58, 42, 50, 38, 29, 17, 4, 62, 47, 59, 36, 45, 43, 51, 22, 53, 39, 33, 30, 24, 18, 12, 5, 63, 55, 48, 27, 60, 41, 37, 16, 46, 35, 44, 21, 52, 32, 23, 11, 54, 26, 40, 15, 34, 20, 31, 10, 25, 14, 19, 9, 13, 8, 7, 6]

/-- what the library's variables hold -/
structure EnvT (w : World) : Prop where
  pow : Lib.TabIs Tryd.prog w "internal/strconv.uint64pow10" .u64 Lib.pow10Tab
  bru : Lib.TabIs Tryd.prog w "math/bits.deBruijn64tab" .u8 tab64

theorem EnvT.on {w w' : World} (h : EnvT w) (hb : Below w.heap.size w w') : EnvT w' := ⟨var_on h.pow hb, var_on h.bru hb⟩

/-- .. and its errors -/
structure Env (w : World) : Prop where
  tab : EnvT w
  syn : ∃ tp p, w.var? Tryd.prog "strconv.ErrSyntax" = some #[.iface tp p]
  rng : ∃ tp p, w.var? Tryd.prog "strconv.ErrRange" = some #[.iface tp p]

theorem Env.pow {w : World} (h : Env w) : Lib.TabIs Tryd.prog w "internal/strconv.uint64pow10" .u64 Lib.pow10Tab := h.tab.pow

theorem Env.bru {w : World} (h : Env w) : Lib.TabIs Tryd.prog w "math/bits.deBruijn64tab" .u8 tab64 := h.tab.bru

theorem Env.on {w w' : World} (h : Env w) (hb : Below w.heap.size w w') : Env w' := by
  obtain ⟨t1, p1, h1⟩ := h.syn
  obtain ⟨t2, p2, h2⟩ := h.rng
  exact ⟨h.tab.on hb, ⟨t1, p1, var_on h1 hb⟩, ⟨t2, p2, var_on h2 hb⟩⟩

set_option maxRecDepth 100000 in
theorem number_any (n : Int) (w : World) (hn : is64 n = true) (he : EnvT w) :
    Calls Tryd.prog 40 #[.int .i64 n] w fun e w' => e = .returned (.string (ofL (Lib.itoa n))) ∧ Below w.heap.size w w' := by
  obtain ⟨h0, h1⟩ := is64_iff.1 hn
  have HC := Lib.hid (Any.strconv_FormatInt_10 formatIntA n h0 h1 w he.pow)
  clear hn h0 h1
  go_enter Tryd.func40, Tryd.ntmps40
  go_wp2_with fail
  refine HC.out.mono ?_
  rintro e w' ⟨rfl, k, os, rfl⟩
  go_wp2_with fail
  go_ret
  exact ⟨rfl, Lib.below_grow _ w (Nat.le_refl _) k os⟩

end Go.Proofs.YtgmjhoppjjjilaaDoor

/- lex.readName, lex.readNumber -/
namespace Go.Proofs.YtgmjhoppjjjilaaDoor
open Go.ChangeShapes Go.WideShapes Go.ChangeAt Go.RowKit Go.Fl
open Go.Shelf

theorem take_list (S : ByteArray) (k : Nat) : S.extract 0 k = ofL (S.data.toList.take k) := by
  unfold ofL
  apply ByteArray.ext
  rw [ByteArray.data_extract]
  apply Array.toList_inj.1
  simp

theorem wbox_start (w : World) : WZero (w.alloc (.cells #[.int .i64 0, .string ⟨#[]⟩, .int .i64 0, .float .f64 0, .int .i64 0] 65)) w.heap.size := Blk.new w _ _

end Go.Proofs.YtgmjhoppjjjilaaDoor

/- lex.readNumber -/
namespace Go.Proofs.YtgmjhoppjjjilaaDoor
open Go.ChangeShapes Go.WideShapes Go.ChangeAt Go.RowKit Go.Fl
open Go.Shelf

theorem ofL_list (S : ByteArray) : ofL S.data.toList = S := by unfold ofL; apply ByteArray.ext; simp

theorem ba_toList (S : ByteArray) : S.toList = S.data.toList := by
  exact Lib.toList_data S

/-- two texts side by side -/
theorem same_text (a b : ByteArray) : (a.toList == b.toList) = decide (a.data.toList = b.data.toList) := by
  rw [ba_toList, ba_toList]
  by_cases h : a.data.toList = b.data.toList
  · rw [h, decide_eq_true rfl]; simp
  · rw [decide_eq_false h, beq_eq_false_iff_ne]; exact h

end Go.Proofs.YtgmjhoppjjjilaaDoor

/- strconv.ParseUint at sixteen bytes, to the base 16 -/
namespace Go.Proofs.YtgmjhoppjjjilaaDoor
open Go.ChangeShapes Go.WideShapes Go.ChangeAt Go.RowKit Go.Fl
open Go.Shelf

def lowOk (dig : Bool) (L : Int) : Option Nat → Bool
  | some d => dig || (decide (L = 87 + (d : Int)) && decide (10 ≤ d) && decide (d ≤ 15))
  | none => dig || decide (L < 97) || decide (103 ≤ L)

theorem low_key : ∀ n : Fin 256, decide (0 ≤ bits .or .u8 (n.val : Int) 32) = true ∧ decide (bits .or .u8 (n.val : Int) 32 ≤ 255) = true ∧ lowOk (decide (48 ≤ n.val) && decide (n.val ≤ 57)) (bits .or .u8 (n.val : Int) 32) (hexU (UInt8.ofNat n.val)) = true := by decide +kernel

theorem low_fin (n : Fin 256) (L : Int) (hL : L = bits .or .u8 (n.val : Int) 32) : 0 ≤ L ∧ L ≤ 255 ∧ (¬ (48 ≤ n.val ∧ n.val ≤ 57) → (∃ d, hexU (UInt8.ofNat n.val) = some d ∧ L = 87 + (d : Int) ∧ 10 ≤ d ∧ d ≤ 15) ∨ (hexU (UInt8.ofNat n.val) = none ∧ (L < 97 ∨ 103 ≤ L))) := by
  obtain ⟨h1, h2, h3⟩ := low_key n
  rw [← hL] at h1 h2 h3
  refine ⟨of_decide_eq_true h1, of_decide_eq_true h2, fun h => ?_⟩
  have hd : (decide (48 ≤ n.val) && decide (n.val ≤ 57)) = false := by
    rw [← Bool.decide_and]; exact decide_eq_false h
  rw [hd] at h3
  cases hx : hexU (UInt8.ofNat n.val) with
  | none => rw [hx] at h3; exact .inr ⟨rfl, by simpa [lowOk] using h3⟩
  | some d => rw [hx] at h3; exact .inl ⟨d, rfl, by simpa [lowOk, and_assoc] using h3⟩

theorem low_any (c : UInt8) : ∃ L : Int, L = bits .or .u8 (c.toNat : Int) 32 ∧ 0 ≤ L ∧ L ≤ 255 ∧ (¬ (48 ≤ c.toNat ∧ c.toNat ≤ 57) → (∃ d, hexU c = some d ∧ L = 87 + (d : Int) ∧ 10 ≤ d ∧ d ≤ 15) ∨ (hexU c = none ∧ (L < 97 ∨ 103 ≤ L))) := by
  obtain ⟨h1, h2, h3⟩ := low_fin ⟨c.toNat, c.toNat_lt⟩ _ rfl
  exact ⟨_, rfl, h1, h2, by simpa using h3⟩

theorem hexGo_dig {c : UInt8} {r : List UInt8} {a : Nat} (h : 48 ≤ c.toNat ∧ c.toNat ≤ 57) : hexGo (c :: r) a = hexGo r (a * 16 + (c.toNat - 48)) := by
  have : hexU c = some (c.toNat - 48) := by unfold hexU; rw [if_pos h]
  simp only [hexGo, this]

theorem hexGo_let {c : UInt8} {r : List UInt8} {a d : Nat} (h : hexU c = some d) : hexGo (c :: r) a = hexGo r (a * 16 + d) := by simp only [hexGo, h]

theorem hexGo_bad {c : UInt8} {r : List UInt8} {a : Nat} (h : hexU c = none) : hexGo (c :: r) a = none := by simp only [hexGo, h]

end Go.Proofs.YtgmjhoppjjjilaaDoor

/- strconv.FormatUint to the base 16 -/
namespace Go.Proofs.YtgmjhoppjjjilaaDoor
open Go.ChangeShapes Go.WideShapes Go.ChangeAt Go.RowKit Go.Fl
open Go.Shelf

theorem hex16_small : ∀ (m v : Nat), v < 16 → hex16 v (m + 1) = List.replicate m 48 ++ [hexC v]
  | 0, v, h => by rw [hex16, hex16, Nat.mod_eq_of_lt h]; rfl
  | m + 1, v, h => by
    rw [hex16, Nat.div_eq_of_lt h, hex16_small m 0 (by decide), Nat.mod_eq_of_lt h, show hexC 0 = 48 by decide, List.replicate_succ']

theorem hex16_len : ∀ (m v : Nat), (hex16 v m).length = m
  | 0, _ => rfl
  | m + 1, v => by rw [hex16, List.length_append, hex16_len m]; rfl

def digs36 : ByteArray := ⟨#[48, 49, 50, 51, 52, 53, 54, 55, 56, 57, 97, 98, 99, 100, 101, 102, 103, 104, 105, 106, 107, 108, 109, 110, 111, 112, 113, 114, 115, 116, 117, 118, 119, 120, 121, 122]⟩

theorem digs36_size : digs36.size = 36 := rfl

theorem digs36_fin : ∀ n : Fin 16, digs36.data.toList.getD n.val 0 = hexC n.val := by decide +kernel

theorem digs36_get (n : Nat) (h : n < 16) : digs36[n]'(by rw [digs36_size]; omega) = hexC n := by
  have := digs36_fin ⟨n, h⟩
  rw [List.getD_eq_getElem?_getD, List.getElem?_eq_getElem (by show n < digs36.size; rw [digs36_size]; omega)] at this
  exact this

set_option maxRecDepth 100000 in
theorem tz16_any (w : World) (he : EnvT w) : Calls Tryd.prog 102 #[.int .u64 16] w fun e w' => e = .returned (.int .i64 4) ∧ w = w' := by
  have hc : w.cell? ⟨4, 15, none⟩ = some (.int .u8 4) := he.bru.cell (by kernel_rfl) 15 (by decide)
  have q1 : bits .and .u64 16 (IntKind.u64.wrap (-16)) = 16 := by decide +kernel
  have q2 : IntKind.u64.wrap 4573923408821661840 = 4573923408821661840 := by decide +kernel
  have q3 : IntKind.u64.wrap (16 * 285870213051353865) = 4573923408821661840 := by decide +kernel
  go_enter Tryd.func102, Tryd.ntmps102
  go_wp2
  go_ret
  exact ⟨rfl, rfl⟩

set_option maxRecDepth 100000 in
theorem pow2_any (w : World) : Calls Tryd.prog 101 #[.int .i64 16] w fun e w' => e = .returned (.bool true) ∧ w = w' := by
  have q1 : bits .and .i64 16 15 = 0 := by decide +kernel
  go_enter Tryd.func101, Tryd.ntmps101
  go_wp2
  go_ret
  exact ⟨rfl, rfl⟩

def byV (c : UInt8) : Value := .int .u8 (c.toNat : Nat)

/-- the array's cells: the digits stand at its end -/
def Arr (w : World) (b : Nat) (T : List UInt8) : Prop := ∃ cs : Array Value, Blk w b 151 cs ∧ cs.size = 65 ∧ ∀ j (hj : j < T.length), cs[65 - T.length + j]? = some (byV T[j])

theorem arr_start (w : World) : Arr (w.alloc (.cells Tryd.zeroCells151 151)) w.heap.size [] := ⟨_, Blk.new w _ _, by kernel_rfl, fun j hj => absurd hj (Nat.not_lt_zero _)⟩

theorem Arr.put {w : World} {b n : Nat} {T : List UInt8} (h : Arr w b T) (hn : n + (T.length + 1) = 65) (c : UInt8) : Arr (w.setCell ⟨b, n, none⟩ (.int .u8 (c.toNat : Nat))) b (c :: T) := by
  obtain ⟨cs, h1, h2, h3⟩ := h
  refine ⟨_, h1.set_ n _, by simpa using h2, fun j hj => ?_⟩
  rw [List.length_cons] at hj ⊢
  have hn' : 65 - (T.length + 1) = n := by omega
  rw [hn']
  cases j with
  | zero => exact Array.getElem?_setIfInBounds_self_of_lt (by omega)
  | succ j =>
    rw [Array.getElem?_setIfInBounds_ne (by omega)]
    have := h3 j (by omega)
    rw [show 65 - T.length + j = n + (j + 1) by omega] at this
    exact this

def HexSaid (u : Nat) (w : World) (R : Value → Value) (e : Ending) (w' : World) : Prop := ∃ (k : Nat) (D : List UInt8), e = .returned (R (.string (ofL D))) ∧ k < 16 ∧ D.length = 16 - k ∧ hex16 u 16 = List.replicate k 48 ++ D ∧ Below w.heap.size w w'

set_option maxHeartbeats 4000000 in
set_option maxRecDepth 100000 in
theorem fmt16_any (u : Nat) (hu : u < 18446744073709551616) (w : World) (he : EnvT w) :
    Calls Tryd.prog 92 #[.slice none 0 0, .int .u64 (u : Nat), .int .i64 16, .bool false, .bool false] w (HexSaid u w fun s => .tuple #[.slice none 0 0, s]) := by
  have hA := Lib.hid (arr_start w)
  have hal := (Below.refl w.heap.size w).alloc (Nat.le_refl _) (.cells Tryd.zeroCells151 151)
  have HT := Lib.hid (tz16_any _ (he.on hal))
  have Hal := Lib.hid hal; clear hal
  obtain ⟨W0, hW0⟩ : ∃ W0, w.alloc (.cells Tryd.zeroCells151 151) = W0 := ⟨_, rfl⟩
  rw [hW0] at hA HT Hal
  go_enter Tryd.func92, Tryd.ntmps92
  go_wp2_with (first | (go_at_call 102; refine HT.out.mono ?_; rintro e w' ⟨rfl, rfl⟩) | (go_at_call 101; refine (pow2_any _).mono ?_; rintro e w' ⟨rfl, rfl⟩))
  go_loopw [1, 13] (fun su si wr => ∃ (v n : Nat) (z : Int) (T : List UInt8), su = .int .u64 (v : Nat) ∧ si = .int .i64 z ∧ 50 ≤ z ∧ z ≤ 65 ∧ Hid (z = (n : Int) ∧ n + T.length = 65 ∧ v < 16 ^ (n - 49) ∧ ∀ m, hex16 u (m + T.length) = hex16 v m ++ T) ∧ Hid (Arr wr w.heap.size T ∧ Below w.heap.size w wr)) (fun su _ _ => (intOf su).toNat)
  case atStart => exact ⟨u, 65, 65, [], rfl, rfl, by decide, by decide, Lib.hid ⟨rfl, rfl, by simpa using hu, fun m => by simp⟩, Lib.hid ⟨hA.out, Hal.out⟩⟩
  case round =>
    obtain ⟨v, n, z, T, rfl, rfl, hz1, hz2, Hn, Hw⟩ := hrel
    have hv64 : v < 18446744073709551616 := by
      have h1 := Hn.out.2.2.1
      have h2 : 16 ^ (n - 49) ≤ 16 ^ 16 := Nat.pow_le_pow_right (by decide) (by have := Hn.out.1; omega)
      have h3 : (16 : Nat) ^ 16 = 18446744073709551616 := by decide
      omega
    obtain ⟨cs, hcs, hsz, -⟩ := Hw.out.1
    have hzn : z.toNat - 1 = n - 1 := by have := Hn.out.1; omega
    have hf : wr.frozen? ⟨w.heap.size, z.toNat - 1, none⟩ = false := hcs.frozen _
    obtain ⟨x, hx⟩ : ∃ x, wr.cell? ⟨w.heap.size, z.toNat - 1, none⟩ = some x := ⟨cs[z.toNat - 1]'(by omega), (hcs.cell _).trans (Array.getElem?_eq_getElem _)⟩
    have hand : bits .and .u64 ((v : Nat) : Int) 15 = ((v % 16 : Nat) : Int) := by
      have := u64_and_nat v 15 hv64 (by decide)
      rw [show (15 : Nat) = 2 ^ 4 - 1 by decide, Nat.and_two_pow_sub_one_eq_mod] at this
      exact this
    obtain ⟨r, hr⟩ : ∃ r, v % 16 = r := ⟨_, rfl⟩
    have hr16 : r < 16 := by omega
    have HX := Lib.hid (digs36_get r hr16)
    unfold digs36 at HX
    rw [hr] at hand
    have Hr := Lib.hid hr; clear hr
    have ir : (r : Int) < 36 := by omega
    have Hzn := Lib.hid hzn
    clear hzn hcs hsz
    by_cases hge : 16 ≤ v
    · have e1 : decide (16 ≤ (v : Int)) = true := by rw [decide_eq_true_eq]; omega
      go_wp2
      refine ⟨⟨v / 16, n - 1, z - 1, hexC r :: T, by go_num, rfl, by have h1 := Hn.out.2.2.1; have h2 := Hn.out.1; have : n - 49 ≠ 1 := (fun e => by rw [e] at h1; omega); have : n - 49 ≠ 0 := (fun e => by rw [e] at h1; omega); omega, by omega, Lib.hid ⟨by have := Hn.out.1; omega, by have := Hn.out.1; have := Hn.out.2.1; rw [List.length_cons]; omega, ?_, fun m => ?_⟩, ?_⟩, by simp [intOf]; omega⟩
      · have h1 := Hn.out.2.2.1
        have h2 := Hn.out.1
        rw [show n - 49 = (n - 1 - 49) + 1 by omega, Nat.pow_succ] at h1
        omega
      · have h1 := Hn.out.2.2.2 (m + 1)
        rw [hex16, Hr.out] at h1
        rw [List.length_cons, show m + (T.length + 1) = m + 1 + T.length by omega, h1, List.append_assoc]
        rfl
      · have h1 := Hw.out.1.put (n := z.toNat - 1) (by have := Hn.out.1; have := Hn.out.2.1; omega) (hexC r)
        rw [← HX.out] at h1 ⊢
        rw [HX.out] at h1 ⊢
        exact Lib.hid ⟨h1, Hw.out.2.setCell (p := ⟨w.heap.size, z.toNat - 1, none⟩) (Nat.le_refl _) _⟩
    · have e1 : decide (16 ≤ (v : Int)) = false := by rw [decide_eq_false_iff_not]; omega
      have hand2 : bits .and .u64 ((v : Nat) : Int) 15 = ((v % 16 : Nat) : Int) := by rw [Hr.out]; exact hand
      rw [Nat.mod_eq_of_lt (by omega)] at hand2
      have hvr : v = r := by have := Hr.out; rw [Nat.mod_eq_of_lt (by omega)] at this; exact this
      subst hvr
      clear hand hand2
      have hal : Tryd.prog.arrayLen 151 = 65 := by kernel_rfl
      have hsl : ∀ W, (Instr.sliceAt 151 (.pointer (some ⟨w.heap.size, 0, none⟩)) (some (.int .i64 (z - 1))) none none).run Tryd.prog W = .ok (.slice (some ⟨w.heap.size, n - 1, none⟩) (65 - (n - 1)) (65 - (n - 1))) W := fun W => by
        have hel : Tryd.prog.elem 151 = 5 := by kernel_rfl
        rw [run_sliceAt_array_l W 151 ⟨w.heap.size, 0, none⟩ (by rw [hal, hel]; exact Tryd.underlying151) .i64 (z - 1) (by omega) (by rw [hal]; omega), hel, show (sizeOf 5).run Tryd.prog W = .ok 1 W from Tryd.sizeOf5 W, hal]
        simp only [Result.andThen_ok, slicedAt]
        have e1 : (z - 1).toNat = n - 1 := by have := Hn.out.1; omega
        rw [e1, if_neg (by omega), adr_add]
        simp
      have hA2 := Hw.out.1.put (n := z.toNat - 1) (by have := Hn.out.1; have := Hn.out.2.1; omega) (hexC v)
      have hB2 := Hw.out.2.setCell (p := ⟨w.heap.size, z.toNat - 1, none⟩) (Nat.le_refl _) (.int .u8 ((hexC v).toNat : Nat))
      rw [← HX.out] at hA2 hB2
      obtain ⟨W2, hW2⟩ : ∃ W2, wr.setCell ⟨w.heap.size, z.toNat - 1, none⟩ (.int .u8 (({ data := #[48, 49, 50, 51, 52, 53, 54, 55, 56, 57, 97, 98, 99, 100, 101, 102, 103, 104, 105, 106, 107, 108, 109, 110, 111, 112, 113, 114, 115, 116, 117, 118, 119, 120, 121, 122] } : ByteArray)[v]'(by show v < 36; omega)).toNat) = W2 := ⟨_, rfl⟩
      rw [hW2] at hA2 hB2
      rw [HX.out] at hA2
      have hcv : (convert 47 9 (.slice (some ⟨w.heap.size, n - 1, none⟩) (65 - (n - 1)) (65 - (n - 1)))).run Tryd.prog W2 = .ok (.string (ofL (hexC v :: T))) W2 := by
        have hl : (hexC v :: T).length = 65 - (n - 1) := by have := Hn.out.1; have := Hn.out.2.1; rw [List.length_cons]; omega
        have := run_convert_bytes_back (P := Tryd.prog) W2 47 9 5 ⟨w.heap.size, n - 1, none⟩ (65 - (n - 1)) (hexC v :: T) Tryd.underlying47 Tryd.underlying5 Tryd.underlying9 (fun j hj => by
          obtain ⟨cs, k1, k2, k3⟩ := hA2
          rw [adr_add, k1.cell, show n - 1 + j = 65 - (hexC v :: T).length + j by omega]
          exact k3 j hj)
        rw [hl] at this
        exact this
      have HE := Lib.hid (hex16_small (15 - T.length) v (by omega))
      have HB2 := Lib.hid hB2
      clear hB2 hA2 hal
      go_wp2
      go_ret2
      refine ⟨15 - T.length, hexC v :: T, rfl, by omega, by have := Hn.out.1; have := Hn.out.2.1; rw [List.length_cons]; omega, ?_, HB2.out⟩
      have h1 := Hn.out.2.2.2 (15 - T.length + 1)
      have h2 := Hn.out.1
      have h3 := Hn.out.2.1
      rw [show 15 - T.length + 1 + T.length = 16 by omega, HE.out] at h1
      rw [h1, List.append_assoc]
      rfl

end Go.Proofs.YtgmjhoppjjjilaaDoor
