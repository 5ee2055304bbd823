/- Txt, Lay3, Str, LxB -/
import Derived.Test.YtgmjhoppjjjilaaDoorQ07
import Derived.Laws.Concat
import Derived.Shelf.Strings.Repeat
import Derived.Test.YtgmjhoppjjjilaaDoorProg
import Derived.Test.YtgmjhoppjjjilaaDoorQ04
import Derived.Test.YtgmjhoppjjjilaaDoorQ06
import Derived.Deep.RegionWith
import Derived.Deep.RegionHeld3

/- texts as lists of bytes -/
namespace Go.Proofs.YtgmjhoppjjjilaaDoor
open Go.ChangeShapes Go.WideShapes Go.ChangeAt Go.RowKit

theorem str_size (s : List UInt8) : (⟨s.toArray⟩ : ByteArray).size = s.length := by simp [ByteArray.size]

theorem str_cat (s t : List UInt8) : (⟨s.toArray⟩ : ByteArray) ++ ⟨t.toArray⟩ = ⟨(s ++ t).toArray⟩ := by
  apply ByteArray.ext
  simp

theorem len_str (s : List UInt8) (ty : TypeId) (W : World) : (Builtin.len_ #[9] ty #[.string ⟨s.toArray⟩]).run Tryd.prog W = .ok (.int .i64 s.length) W := by
  have := str_size s
  simp [Builtin.len_, goInt, this]

theorem str_take (s : List UInt8) (n : Nat) : (⟨s.toArray⟩ : ByteArray).extract 0 n = ⟨(s.take n).toArray⟩ := by
  apply ByteArray.ext
  rw [ByteArray.data_extract]
  apply Array.toList_inj.1
  simp

theorem str_drop (s : List UInt8) (n m : Nat) (hm : s.length ≤ m) : (⟨s.toArray⟩ : ByteArray).extract n m = ⟨(s.drop n).toArray⟩ := by
  apply ByteArray.ext
  rw [ByteArray.data_extract]
  apply Array.toList_inj.1
  simp only [Array.toList_extract, List.extract]
  rw [List.take_of_length_le (by rw [List.length_drop]; simp; omega)]

theorem sl_head {s : List UInt8} {n : Int} {N : Nat} (h : n = N) (hN : N ≤ s.length) (W : World) :
    (Instr.slice 9 (.string ⟨s.toArray⟩) none (some (.int .i64 n)) none).run Tryd.prog W = .ok (.string ⟨(s.take N).toArray⟩) W := by
  subst h
  rw [run_slice_string_h W 9 _ Tryd.underlying9 .i64 _ (by omega) (by rw [str_size]; omega), Int.toNat_natCast, str_take]

theorem sl_tail {s : List UInt8} {n : Int} {N : Nat} (h : n = N) (hN : N ≤ s.length) (W : World) :
    (Instr.slice 9 (.string ⟨s.toArray⟩) (some (.int .i64 n)) none none).run Tryd.prog W = .ok (.string ⟨(s.drop N).toArray⟩) W := by
  subst h
  rw [run_slice_string_l W 9 _ Tryd.underlying9 .i64 _ (by omega) (by rw [str_size]; omega), Int.toNat_natCast, str_drop _ _ _ (by rw [str_size]; exact Nat.le_refl _)]

theorem sl_mid {s : List UInt8} {n m : Int} {N M : Nat} (h : n = N) (h' : m = M) (hN : N ≤ M) (hM : M ≤ s.length) (W : World) :
    (Instr.slice 9 (.string ⟨s.toArray⟩) (some (.int .i64 n)) (some (.int .i64 m)) none).run Tryd.prog W = .ok (.string ⟨((s.take M).drop N).toArray⟩) W := by
  subst h h'
  have hsz := str_size s
  have hu := run_underlying (P := Tryd.prog) Tryd.underlying9 W
  have b1 : (Instr.sliceBound (.int .i64 (M : Int)) s.length .sliceAlen).run Tryd.prog W = .ok M W := by
    have := run_sliceBound (P := Tryd.prog) W .i64 (M : Int) s.length .sliceAlen (by omega) (by omega)
    rwa [Int.toNat_natCast] at this
  have b2 : (Instr.sliceBound (.int .i64 (N : Int)) M .sliceB).run Tryd.prog W = .ok N W := by
    have := run_sliceBound (P := Tryd.prog) W .i64 (N : Int) M .sliceB (by omega) (by omega)
    rwa [Int.toNat_natCast] at this
  have e : (Instr.slice 9 (.string ⟨s.toArray⟩) (some (.int .i64 (N : Int))) (some (.int .i64 (M : Int))) none).run Tryd.prog W = .ok (.string ((⟨s.toArray⟩ : ByteArray).extract N M)) W := by
    simp only [Instr.slice, Sem.run_bind, hu, Result.andThen_ok, Instr.sliceBounds, hsz]
    simp [b1, b2]
  have ex : (⟨s.toArray⟩ : ByteArray).extract N M = ⟨((s.take M).drop N).toArray⟩ := by
    apply ByteArray.ext
    rw [ByteArray.data_extract]
    apply Array.toList_inj.1
    simp only [Array.toList_extract, List.extract, List.drop_take]
  rw [e, ex]

theorem min_nat {P : Program} (a b : Nat) (ty : TypeId) (l : Array TypeId) (W : World) : (Builtin.min_ l ty #[.int .i64 (a : Int), .int .i64 (b : Int)]).run P W = .ok (.int .i64 ((min a b : Nat) : Int)) W := by
  show Result.ok (Value.int .i64 (if (b : Int) < (a : Int) then (b : Int) else (a : Int))) W = _
  congr 2
  split <;> omega

/-- the eight bytes of a number, as a list -/
def eightL (n : Nat) : List UInt8 := (eightS n).data.toList

theorem eightL_str (n : Nat) : eightS n = ⟨(eightL n).toArray⟩ := by
  apply ByteArray.ext
  simp [eightL]

theorem eightL_len (n : Nat) : (eightL n).length = 8 := by
  unfold eightL eightS strOfNums
  simp

/-- two bytes of a number, as a list -/
def twoL (n : Nat) : List UInt8 := [UInt8.ofNat (n / 256), UInt8.ofNat n]

theorem twoL_len (n : Nat) : (twoL n).length = 2 := rfl

theorem u8_mod (n : Nat) : UInt8.ofNat (n % 256) = UInt8.ofNat n := by
  apply UInt8.toNat_inj.1
  simp [UInt8.toNat_ofNat']

theorem twoL_str (n : Nat) : strOfNums [(n : Int) / 256 % 256, (n : Int) % 256] = ⟨(twoL n).toArray⟩ := by
  unfold strOfNums twoL
  have e1 : ((n : Int) / 256 % 256).toNat = n / 256 % 256 := by omega
  have e2 : ((n : Int) % 256).toNat = n % 256 := by omega
  simp only [List.map_cons, List.map_nil, e1, e2, u8_mod]

theorem wd_two (n : Nat) (h : n < 65536) : wd (twoL n) = n := by
  unfold wd twoL
  simp only [List.foldl_cons, List.foldl_nil, UInt8.toNat_ofNat']
  omega

theorem quot_stepN (n d : Nat) : n / (d * 256) * 256 + n / d % 256 = n / d := by
  rw [← Nat.div_div_eq_div_mul]
  exact Nat.div_add_mod' _ _

theorem wd_eight {n : Nat} (hn : n < 18446744073709551616) : wd (eightL n) = n := by
  have e : eightL n = [UInt8.ofNat (n / 72057594037927936 % 256), UInt8.ofNat (n / 281474976710656 % 256), UInt8.ofNat (n / 1099511627776 % 256), UInt8.ofNat (n / 4294967296 % 256), UInt8.ofNat (n / 16777216 % 256), UInt8.ofNat (n / 65536 % 256), UInt8.ofNat (n / 256 % 256), UInt8.ofNat (n % 256)] := by
    unfold eightL eightS strOfNums
    simp only [List.map_cons, List.map_nil]
    congr 2
  have u (a : Nat) : (UInt8.ofNat (a % 256)).toNat = a % 256 := by rw [UInt8.toNat_ofNat']; omega
  have s1 : 0 * 256 + n / 72057594037927936 % 256 = n / 72057594037927936 := by omega
  have s2 : n / 72057594037927936 * 256 + n / 281474976710656 % 256 = n / 281474976710656 := quot_stepN n 281474976710656
  have s3 : n / 281474976710656 * 256 + n / 1099511627776 % 256 = n / 1099511627776 := quot_stepN n 1099511627776
  have s4 : n / 1099511627776 * 256 + n / 4294967296 % 256 = n / 4294967296 := quot_stepN n 4294967296
  have s5 : n / 4294967296 * 256 + n / 16777216 % 256 = n / 16777216 := quot_stepN n 16777216
  have s6 : n / 16777216 * 256 + n / 65536 % 256 = n / 65536 := quot_stepN n 65536
  have s7 : n / 65536 * 256 + n / 256 % 256 = n / 256 := quot_stepN n 256
  have s8 : n / 256 * 256 + n % 256 = n := by have := quot_stepN n 1; simpa using this
  rw [e]
  unfold wd
  rw [List.foldl_cons, List.foldl_cons, List.foldl_cons, List.foldl_cons, List.foldl_cons, List.foldl_cons, List.foldl_cons, List.foldl_cons, List.foldl_nil]
  rw [u, u, u, u, u, u, u, u, s1, s2, s3, s4, s5, s6, s7, s8]

theorem wide_str (s : List UInt8) : wideS ⟨s.toArray⟩ = wd (s.take 8) := by simp [wideS]

end Go.Proofs.YtgmjhoppjjjilaaDoor

/- the library's contracts, laid at this program -/
namespace Go.Proofs.YtgmjhoppjjjilaaDoor
open Go.RowKit Go.Shelf

def repeatA_ren : Go.Shelf.Ren := ⟨fun | 105 => 55 | 212 => 79 | 99 => 80 | 165 => 81 | 166 => 38 | 170 => 82 | 169 => 37 | 263 => 93 | 264 => 94 | 206 => 95 | 240 => 50 | 241 => 96 | 276 => 75 | 277 => 103 | n => n, fun | 9 => 9 | 3 => 3 | 4 => 4 | 20 => 20 | 0 => 0 | 46 => 124 | 109 => 125 | 5 => 5 | 72 => 78 | 76 => 82 | 51 => 143 | 146 => 144 | 53 => 49 | 148 => 146 | 70 => 76 | 37 => 47 | 75 => 81 | 127 => 93 | 164 => 122 | 80 => 79 | n => n, fun | n => n⟩
theorem repeatA : Go.Proofs.Lays.n105 Tryd.prog repeatA_ren where
  mixed := by kernel_rfl
  f99 := Tryd.func80.trans (congrArg some (by kernel_rfl))
  f105 := Tryd.func55.trans (congrArg some (by kernel_rfl))
  f165 := Tryd.func81.trans (congrArg some (by kernel_rfl))
  f166 := Tryd.func38.trans (congrArg some (by kernel_rfl))
  f169 := Tryd.func37.trans (congrArg some (by kernel_rfl))
  f170 := Tryd.func82.trans (congrArg some (by kernel_rfl))
  f206 := Tryd.func95.trans (congrArg some (by kernel_rfl))
  f212 := Tryd.func79.trans (congrArg some (by kernel_rfl))
  f240 := Tryd.func50.trans (congrArg some (by kernel_rfl))
  f241 := Tryd.func96.trans (congrArg some (by kernel_rfl))
  f263 := Tryd.func93.trans (congrArg some (by kernel_rfl))
  f264 := Tryd.func94.trans (congrArg some (by kernel_rfl))
  f276 := Tryd.func75.trans (congrArg some (by kernel_rfl))
  f277 := Tryd.func103.trans (congrArg some (by kernel_rfl))
  t0 := Tryd.underlying0
  a0 := Tryd.isAgg0
  z0 := Tryd.sizeOf0
  v0 := Tryd.zeroValue0
  t3 := Tryd.underlying3
  a3 := Tryd.isAgg3
  z3 := Tryd.sizeOf3
  v3 := Tryd.zeroValue3
  t4 := Tryd.underlying4
  a4 := Tryd.isAgg4
  z4 := Tryd.sizeOf4
  v4 := Tryd.zeroValue4
  t5 := Tryd.underlying5
  a5 := Tryd.isAgg5
  z5 := Tryd.sizeOf5
  v5 := Tryd.zeroValue5
  t9 := Tryd.underlying9
  a9 := Tryd.isAgg9
  z9 := Tryd.sizeOf9
  v9 := Tryd.zeroValue9
  t20 := Tryd.underlying20
  a20 := Tryd.isAgg20
  z20 := Tryd.sizeOf20
  v20 := Tryd.zeroValue20
  t37 := Tryd.underlying47
  a37 := Tryd.isAgg47
  z37 := Tryd.sizeOf47
  v37 := Tryd.zeroValue47
  t46 := Tryd.underlying124
  a46 := Tryd.isAgg124
  z46 := Tryd.sizeOf124
  v46 := Tryd.zeroValue124
  t51 := Tryd.underlying143
  a51 := Tryd.isAgg143
  z51 := Tryd.sizeOf143
  v51 := Tryd.zeroValue143
  t53 := Tryd.underlying49
  a53 := Tryd.isAgg49
  z53 := Tryd.sizeOf49
  v53 := Tryd.zeroValue49
  t70 := Tryd.underlying76
  a70 := Tryd.isAgg76
  z70 := Tryd.sizeOf76
  v70 := Tryd.zeroValue76
  t72 := Tryd.underlying78
  a72 := Tryd.isAgg78
  z72 := Tryd.sizeOf78
  v72 := Tryd.zeroValue78
  t75 := Tryd.underlying81
  a75 := Tryd.isAgg81
  z75 := Tryd.sizeOf81
  v75 := Tryd.zeroValue81
  t76 := Tryd.underlying82
  a76 := Tryd.isAgg82
  z76 := Tryd.sizeOf82
  v76 := Tryd.zeroValue82
  t109 := Tryd.underlying125
  a109 := Tryd.isAgg125
  z109 := Tryd.sizeOf125
  v109 := Tryd.zeroValue125
  t127 := Tryd.underlying93
  a127 := Tryd.isAgg93
  z127 := Tryd.sizeOf93
  v127 := Tryd.zeroValue93
  t146 := Tryd.underlying144
  a146 := Tryd.isAgg144
  z146 := Tryd.sizeOf144
  v146 := Tryd.zeroValue144
  t148 := Tryd.underlying146
  a148 := Tryd.isAgg146
  z148 := Tryd.sizeOf146
  v148 := Tryd.zeroValue146
  t164 := Tryd.underlying122
  a164 := Tryd.isAgg122
  z164 := Tryd.sizeOf122
  v164 := Tryd.zeroValue122
end Go.Proofs.YtgmjhoppjjjilaaDoor

/- strings.Repeat -/
namespace Go.Proofs.YtgmjhoppjjjilaaDoor
open Go.ChangeShapes Go.WideShapes Go.ChangeAt Go.RowKit
open Go.Shelf

theorem rep_extra : Builder.Extra Tryd.prog repeatA_ren := {
  sizeBuilder := by kernel_rfl
  liesBuilder := by kernel_rfl
  t5 := Tryd.underlying5
  a5 := Tryd.isAgg5
  z5 := Tryd.sizeOf5
  v5 := Tryd.zeroValue5
  infoByte := by kernel_rfl
  cellsByte := by kernel_rfl
  sizeByte := by kernel_rfl
  neB5 := by decide }

theorem repeat_any (s : ByteArray) (c : Nat) (w : World) (hlen : s.size * c ≤ 140737488355328) (hc : c ≤ 9223372036854775807) :
    Calls Tryd.prog 55 #[.string s, .int .i64 c] w fun e w' => e = .returned (.string ⟨(Lib.repeatL s.data.toList c).toArray⟩) ∧ Below w.heap.size w w' := Any.strings_Repeat repeatA rep_extra s c w hc hlen

theorem repeat_nought : ∀ c : Nat, Lib.repeatL [(0 : UInt8)] c = List.replicate c 0
  | 0 => rfl
  | c + 1 => by
    unfold Lib.repeatL
    first
      | (rw [repeat_nought c]; rfl)
      | (simp [List.replicate_succ])

end Go.Proofs.YtgmjhoppjjjilaaDoor

/- lex: what a word is in memory; texts between quotes -/
namespace Go.Proofs.YtgmjhoppjjjilaaDoor
open Go.ChangeShapes Go.WideShapes Go.ChangeAt Go.RowKit Go.Fl
open Go.Shelf

/-- a word -/
def wdV (x : Wd) : Value := .agg #[.int .i64 x.k, .string x.s, .int .i64 x.n, .float .f64 x.f, .int .i64 (x.at_ : Nat)]

/-- a word and how many bytes say it, or none -/
def rdV : Option (Wd × Nat) → Value
  | none => .tuple #[.agg #[.int .i64 0, .string ⟨#[]⟩, .int .i64 0, .float .f64 0, .int .i64 0], .int .i64 0]
  | some (x, n) => .tuple #[wdV x, .int .i64 (n : Nat)]

def bytV : Option (UInt8 × Nat) → Value
  | none => .tuple #[.int .u8 0, .int .i64 0]
  | some (c, n) => .tuple #[.int .u8 (c.toNat : Nat), .int .i64 (n : Nat)]


theorem flipW {P : Program} {f : FuncId} {args : Array Value} {w : World} {q : Ending → Prop} (h : Calls P f args w fun e w' => q e ∧ w = w') : Calls P f args w fun e w' => q e ∧ w' = w := h.mono fun _ _ ⟨x, y⟩ => ⟨x, y.symm⟩

theorem pln92 : plnB 92 = true := by decide

def hexes : ByteArray := ⟨#[48, 49, 50, 51, 52, 53, 54, 55, 56, 57, 97, 98, 99, 100, 101, 102]⟩

def hexV (c : UInt8) : Int := match hexI c with | some i => (i : Nat) | none => -1

theorem hex_fin : ∀ n : Fin 256, Lib.indexByte hexes.data.toList (UInt8.ofNat n.val) = hexV (UInt8.ofNat n.val) := by decide +kernel

theorem hex_index (c : UInt8) : Lib.indexByte hexes.data.toList c = hexV c := by
  have := hex_fin ⟨c.toNat, c.toNat_lt⟩
  simpa using this

theorem hexI_lt {c : UInt8} {i : Nat} (h : hexI c = some i) : i < 16 := by
  unfold hexI at h
  split at h
  · injection h with h; omega
  · split at h
    · injection h with h; omega
    · cases h

theorem list_cut (S : ByteArray) (k : Nat) (h : k < S.size) : S.data.toList.drop k = S[k] :: S.data.toList.drop (k + 1) := by
  rw [List.drop_eq_getElem_cons (by simpa using h)]; rfl

theorem list_one (S : ByteArray) (h : 0 < S.size) : S.data.toList = S[0] :: S.data.toList.drop 1 := by
  have := list_cut S 0 h
  simpa using this

theorem list_none (S : ByteArray) (k : Nat) (h : S.size ≤ k) : S.data.toList.drop k = [] := List.drop_eq_nil_of_le h

theorem byt_bad (S : ByteArray) (h : 0 < S.size) (h1 : plnB S[0] = false) : bytO S.data.toList = none := by
  rw [list_one S h]; unfold bytO; simp only [h1, if_true]

theorem byt_one (S : ByteArray) (h : 0 < S.size) (h1 : plnB S[0] = true) (h2 : S[0] ≠ 92) : bytO S.data.toList = some (S[0], 1) := by
  rw [list_one S h]; unfold bytO; simp [h1, h2]

theorem byt_short (S : ByteArray) (h : 0 < S.size) (h2 : S[0] = 92) (h3 : S.size < 2) : bytO S.data.toList = none := by
  rw [list_one S h, list_none S 1 (by omega)]; unfold bytO; simp [h2]

theorem byt_two (S : ByteArray) (h : 1 < S.size) (h2 : S[0] = 92) (h3 : S[1] = 39 ∨ S[1] = 92) : bytO S.data.toList = some (S[1], 2) := by
  rw [list_one S (by omega), list_cut S 1 h]; unfold bytO; simp [pln92, h2, h3]

theorem byt_no (S : ByteArray) (h : 1 < S.size) (h2 : S[0] = 92) (h3 : ¬ (S[1] = 39 ∨ S[1] = 92)) (h4 : S[1] ≠ 120) : bytO S.data.toList = none := by
  rw [list_one S (by omega), list_cut S 1 h]; unfold bytO; simp [pln92, h2, h3, h4]

theorem byt_few (S : ByteArray) (h : 1 < S.size) (h2 : S[0] = 92) (h3 : S[1] = 120) (h5 : S.size < 4) : bytO S.data.toList = none := by
  rw [list_one S (by omega), list_cut S 1 h]
  unfold bytO
  by_cases h6 : 2 < S.size
  · rw [list_cut S 2 h6, list_none S 3 (by omega)]; simp [pln92, h2, h3]
  · rw [list_none S 2 (by omega)]; simp [pln92, h2, h3]

theorem byt_hex (S : ByteArray) (h : 3 < S.size) (h2 : S[0] = 92) (h3 : S[1] = 120) (i j : Nat) (hi : hexI S[2] = some i) (hj : hexI S[3] = some j) : bytO S.data.toList = some (UInt8.ofNat (16 * i + j), 4) := by
  rw [list_one S (by omega), list_cut S 1 (by omega), list_cut S 2 (by omega), list_cut S 3 (by omega)]; unfold bytO; simp [pln92, h2, h3, hi, hj]

theorem byt_nox (S : ByteArray) (h : 3 < S.size) (h2 : S[0] = 92) (h3 : S[1] = 120) (hi : hexI S[2] = none ∨ hexI S[3] = none) : bytO S.data.toList = none := by
  rw [list_one S (by omega), list_cut S 1 (by omega), list_cut S 2 (by omega), list_cut S 3 (by omega)]; unfold bytO
  rcases hi with hi | hi
  · simp [pln92, h2, h3, hi]
  · cases h7 : hexI S[2] <;> simp [pln92, h2, h3, hi, h7]

theorem joined_fin : ∀ i j : Fin 16, bits .or .i64 ((i.val : Int) * 16) (j.val : Int) % 256 = ((UInt8.ofNat (16 * i.val + j.val)).toNat : Int) := by decide +kernel

theorem u8_ne {c : UInt8} {k : Nat} (h : c ≠ UInt8.ofNat k) : c.toNat ≠ k := fun e => h (by rw [← e]; simp)

end Go.Proofs.YtgmjhoppjjjilaaDoor
