/- val.Get, of bytes that Put made: bytes as a text; bools -/
import Derived.Test.YtaonlbmicjoclaaPut
import Derived.Deep.RegionWith
import Derived.StillTailTactics
namespace Go.Proofs.Ytaonlbmicjoclaa
open Go.ChangeShapes Go.WideShapes Go.ChangeAt Go.RowKit Go.Fl

/-- bytes as a text -/
def bst (l : List UInt8) : ByteArray := ⟨l.toArray⟩

theorem bst_size (x : List UInt8) : (bst x).size = x.length := by unfold bst; simp [ByteArray.size]

theorem bst_of (s : ByteArray) : bst s.data.toList = s := rfl

theorem bst_extract (x : List UInt8) (a b : Nat) : (bst x).extract a b = bst ((x.take b).drop a) := by
  unfold bst
  apply ByteArray.ext
  rw [ByteArray.data_extract]
  apply Array.ext'
  simp [List.drop_take]

theorem bst_get {x : List UInt8} {S : ByteArray} (hS : bst x = S) {i : Nat} {u : UInt8} (hu : x[i]? = some u) : ∃ h : i < S.size, S[i]'h = u := by
  subst hS
  obtain ⟨h, e⟩ := List.getElem?_eq_some_iff.1 hu
  exact ⟨by rw [bst_size]; exact h, e⟩

set_option maxRecDepth 100000 in
theorem getBool_t (rest : List UInt8) (S : ByteArray) (w : World) (hl : rest.length ≤ 140737488355328) (hS : bst (kby 1 :: 1 :: rest) = S) :
    Calls Try.prog 51 #[.string S] w fun e w' => e = .returned (.tuple #[valV 1 true 0 0 ⟨#[]⟩, .int .i64 2, .int .i64 0]) ∧ Below w.heap.size w w' := by
  obtain ⟨h1, e1⟩ := bst_get hS (i := 1) (u := 1) rfl
  have hsz : S.size = rest.length + 2 := by rw [← hS, bst_size]; rfl
  have hsz1 : 2 ≤ S.size := by omega
  have hsz2 : S.size ≤ 140737488360000 := by omega
  have t1 : (S[1]'h1).toNat = 1 := by rw [e1]; rfl
  clear hsz e1 hl hS
  have hb2 := (Below.refl w.heap.size w).alloc (Nat.le_refl _) (.cells #[.int .i64 0, .bool false, .int .i64 0, .float .f64 0, .string ⟨#[]⟩, .slice none 0 0] 26)
  go_enter Try.func51, Try.ntmps51
  go_wp2_with fail
  refine (vyes_any true _).mono ?_
  rintro e w1 ⟨rfl, hb1⟩
  have hbox : Blk w1 w.heap.size 26 #[.int .i64 0, .bool false, .int .i64 0, .float .f64 0, .string ⟨#[]⟩, .slice none 0 0] := Blk.below (Blk.new w _ _) hb1 (by simp)
  have hbw := hb2.trans (hb1.mono hb2.size)
  have Hfin := Lib.hid (set6_load hbox (by simp) (.int .i64 1) (.bool true) (.int .i64 0) (.float .f64 0) (.string ⟨#[]⟩) (.slice none 0 0))
  have d0 : w1.cell? ⟨w.heap.size, 0, none⟩ = some (.int .i64 0) := (hbox.cell 0).trans rfl
  have d1 : w1.cell? ⟨w.heap.size, 1, none⟩ = some (.bool false) := (hbox.cell 1).trans rfl
  have d2 : w1.cell? ⟨w.heap.size, 2, none⟩ = some (.int .i64 0) := (hbox.cell 2).trans rfl
  have d3 : w1.cell? ⟨w.heap.size, 3, none⟩ = some (.float .f64 0) := (hbox.cell 3).trans rfl
  have d4 : w1.cell? ⟨w.heap.size, 4, none⟩ = some (.string ⟨#[]⟩) := (hbox.cell 4).trans rfl
  have d5 : w1.cell? ⟨w.heap.size, 5, none⟩ = some (.slice none 0 0) := (hbox.cell 5).trans rfl
  have zd0 : w1.frozen? ⟨w.heap.size, 0, none⟩ = false := hbox.frozen 0
  have zd1 : w1.frozen? ⟨w.heap.size, 1, none⟩ = false := hbox.frozen 1
  have zd2 : w1.frozen? ⟨w.heap.size, 2, none⟩ = false := hbox.frozen 2
  have zd3 : w1.frozen? ⟨w.heap.size, 3, none⟩ = false := hbox.frozen 3
  have zd4 : w1.frozen? ⟨w.heap.size, 4, none⟩ = false := hbox.frozen 4
  have zd5 : w1.frozen? ⟨w.heap.size, 5, none⟩ = false := hbox.frozen 5
  clear hbox
  unfold valV
  go_wp2_with fail
  have hbe := set6_below hbw (g := w.heap.size) (by simp) (o := 0) (.int .i64 1) (.bool true) (.int .i64 0) (.float .f64 0) (.string ⟨#[]⟩) (.slice none 0 0)
  obtain ⟨f0, f1, f2, f3, f4, f5⟩ := Hfin.out
  exact bodyPost_ret (v := .tuple #[.agg #[.int .i64 1, .bool true, .int .i64 0, .float .f64 0, .string ⟨#[]⟩, .slice none 0 0], .int .i64 2, .int .i64 0]) (by simp [results, Try.results51, go_sem, f0, f1, f2, f3, f4, f5]) rfl ⟨by rfl, hbe⟩

set_option maxRecDepth 100000 in
theorem getBool_f (rest : List UInt8) (S : ByteArray) (w : World) (hl : rest.length ≤ 140737488355328) (hS : bst (kby 1 :: 0 :: rest) = S) :
    Calls Try.prog 51 #[.string S] w fun e w' => e = .returned (.tuple #[valV 1 false 0 0 ⟨#[]⟩, .int .i64 2, .int .i64 0]) ∧ Below w.heap.size w w' := by
  obtain ⟨h1, e1⟩ := bst_get hS (i := 1) (u := 0) rfl
  have hsz : S.size = rest.length + 2 := by rw [← hS, bst_size]; rfl
  have hsz1 : 2 ≤ S.size := by omega
  have hsz2 : S.size ≤ 140737488360000 := by omega
  have t1 : (S[1]'h1).toNat = 0 := by rw [e1]; rfl
  clear hsz e1 hl hS
  have hb2 := (Below.refl w.heap.size w).alloc (Nat.le_refl _) (.cells #[.int .i64 0, .bool false, .int .i64 0, .float .f64 0, .string ⟨#[]⟩, .slice none 0 0] 26)
  go_enter Try.func51, Try.ntmps51
  go_wp2_with fail
  refine (vyes_any false _).mono ?_
  rintro e w1 ⟨rfl, hb1⟩
  have hbox : Blk w1 w.heap.size 26 #[.int .i64 0, .bool false, .int .i64 0, .float .f64 0, .string ⟨#[]⟩, .slice none 0 0] := Blk.below (Blk.new w _ _) hb1 (by simp)
  have hbw := hb2.trans (hb1.mono hb2.size)
  have Hfin := Lib.hid (set6_load hbox (by simp) (.int .i64 1) (.bool false) (.int .i64 0) (.float .f64 0) (.string ⟨#[]⟩) (.slice none 0 0))
  have d0 : w1.cell? ⟨w.heap.size, 0, none⟩ = some (.int .i64 0) := (hbox.cell 0).trans rfl
  have d1 : w1.cell? ⟨w.heap.size, 1, none⟩ = some (.bool false) := (hbox.cell 1).trans rfl
  have d2 : w1.cell? ⟨w.heap.size, 2, none⟩ = some (.int .i64 0) := (hbox.cell 2).trans rfl
  have d3 : w1.cell? ⟨w.heap.size, 3, none⟩ = some (.float .f64 0) := (hbox.cell 3).trans rfl
  have d4 : w1.cell? ⟨w.heap.size, 4, none⟩ = some (.string ⟨#[]⟩) := (hbox.cell 4).trans rfl
  have d5 : w1.cell? ⟨w.heap.size, 5, none⟩ = some (.slice none 0 0) := (hbox.cell 5).trans rfl
  have zd0 : w1.frozen? ⟨w.heap.size, 0, none⟩ = false := hbox.frozen 0
  have zd1 : w1.frozen? ⟨w.heap.size, 1, none⟩ = false := hbox.frozen 1
  have zd2 : w1.frozen? ⟨w.heap.size, 2, none⟩ = false := hbox.frozen 2
  have zd3 : w1.frozen? ⟨w.heap.size, 3, none⟩ = false := hbox.frozen 3
  have zd4 : w1.frozen? ⟨w.heap.size, 4, none⟩ = false := hbox.frozen 4
  have zd5 : w1.frozen? ⟨w.heap.size, 5, none⟩ = false := hbox.frozen 5
  clear hbox
  unfold valV
  go_wp2_with fail
  have hbe := set6_below hbw (g := w.heap.size) (by simp) (o := 0) (.int .i64 1) (.bool false) (.int .i64 0) (.float .f64 0) (.string ⟨#[]⟩) (.slice none 0 0)
  obtain ⟨f0, f1, f2, f3, f4, f5⟩ := Hfin.out
  exact bodyPost_ret (v := .tuple #[.agg #[.int .i64 1, .bool false, .int .i64 0, .float .f64 0, .string ⟨#[]⟩, .slice none 0 0], .int .i64 2, .int .i64 0]) (by simp [results, Try.results51, go_sem, f0, f1, f2, f3, f4, f5]) rfl ⟨by rfl, hbe⟩

theorem wide_two {m : Nat} (hm : m < 65536) : wideS (twoS m) = m := by
  have e : (twoS m).data.toList = [UInt8.ofNat (m / 256 % 256), UInt8.ofNat (m % 256)] := by
    unfold twoS strOfNums
    simp only [List.map_cons, List.map_nil]
    congr 2
  unfold wideS
  rw [e]
  simp only [wd, List.take_succ_cons, List.take_nil, List.foldl_cons, List.foldl_nil, UInt8.toNat_ofNat']
  omega

theorem quot_step (n d : Nat) : n / (d * 256) * 256 + n / d % 256 = n / d := by
  rw [← Nat.div_div_eq_div_mul]
  exact Nat.div_add_mod' _ _

theorem wide_eight {n : Nat} (hn : n < 18446744073709551616) : wideS (eightS n) = n := by
  have e : (eightS n).data.toList = [UInt8.ofNat (n / 72057594037927936 % 256), UInt8.ofNat (n / 281474976710656 % 256), UInt8.ofNat (n / 1099511627776 % 256), UInt8.ofNat (n / 4294967296 % 256), UInt8.ofNat (n / 16777216 % 256), UInt8.ofNat (n / 65536 % 256), UInt8.ofNat (n / 256 % 256), UInt8.ofNat (n % 256)] := by
    unfold eightS strOfNums
    simp only [List.map_cons, List.map_nil]
    congr 2
  have u (a : Nat) : (UInt8.ofNat (a % 256)).toNat = a % 256 := by rw [UInt8.toNat_ofNat']; omega
  have s1 : 0 * 256 + n / 72057594037927936 % 256 = n / 72057594037927936 := by omega
  have s2 : n / 72057594037927936 * 256 + n / 281474976710656 % 256 = n / 281474976710656 := quot_step n 281474976710656
  have s3 : n / 281474976710656 * 256 + n / 1099511627776 % 256 = n / 1099511627776 := quot_step n 1099511627776
  have s4 : n / 1099511627776 * 256 + n / 4294967296 % 256 = n / 4294967296 := quot_step n 4294967296
  have s5 : n / 4294967296 * 256 + n / 16777216 % 256 = n / 16777216 := quot_step n 16777216
  have s6 : n / 16777216 * 256 + n / 65536 % 256 = n / 65536 := quot_step n 65536
  have s7 : n / 65536 * 256 + n / 256 % 256 = n / 256 := quot_step n 256
  have s8 : n / 256 * 256 + n % 256 = n := by have := quot_step n 1; simpa using this
  unfold wideS
  rw [e, List.take_of_length_le (by simp)]
  unfold wd
  rw [List.foldl_cons, List.foldl_cons, List.foldl_cons, List.foldl_cons, List.foldl_cons, List.foldl_cons, List.foldl_cons, List.foldl_cons, List.foldl_nil]
  rw [u, u, u, u, u, u, u, u, s1, s2, s3, s4, s5, s6, s7, s8]

/-- what Wide says of a number's eight bytes -/
theorem eight_at {k : UInt8} {m : Nat} {y : List UInt8} {S : ByteArray} (hS : bst (k :: (eightL m ++ y)) = S) (hm : m < 18446744073709551616) (hy : y.length ≤ 140737488351200) :
    (S.extract 1 S.size).size ≤ 140737488351232 ∧ wideS (S.extract 1 S.size) = m ∧ 9 ≤ S.size ∧ S.size ≤ 140737488360000 := by
  have h8 := eightL_len m
  have hsz : S.size = 9 + y.length := by rw [← hS, bst_size]; simp only [List.length_cons, List.length_append, h8]; omega
  have e : S.extract 1 S.size = bst (eightL m ++ y) := by
    rw [← hS, bst_extract, bst_size, List.take_of_length_le (Nat.le_refl _), List.drop_succ_cons, List.drop_zero]
  rw [e]
  refine ⟨by rw [bst_size, List.length_append, h8]; omega, ?_, by omega, by omega⟩
  have e8 : wideS (bst (eightL m ++ y)) = wideS (eightS m) := by
    unfold wideS
    exact congrArg wd (List.take_append_of_le_length (l₁ := eightL m) (l₂ := y) (i := 8) (by omega))
  rw [e8]; exact wide_eight hm

/-- what Wide says of a text's or a list's length -/
theorem two_at {k : UInt8} {m : Nat} {y : List UInt8} {S : ByteArray} (hS : bst (k :: ((twoS m).data.toList ++ y)) = S) (hm : m < 65536) : (S.extract 1 3).size = 2 ∧ wideS (S.extract 1 3) = m := by
  have h2 := twoL_len m
  have e : S.extract 1 3 = twoS m := by
    rw [← hS, bst_extract]
    have : ((k :: ((twoS m).data.toList ++ y)).take 3).drop 1 = (twoS m).data.toList := by
      simp only [List.take_succ_cons, List.drop_succ_cons, List.drop_zero]
      rw [List.take_append_of_le_length (by omega), List.take_of_length_le (by omega)]
    rw [this, bst_of]
  rw [e]
  exact ⟨two_size m, wide_two hm⟩

/-- the parts of a text's bytes -/
theorem text_at {s : ByteArray} {rest : List UInt8} {S : ByteArray} (hs : s.size ≤ 500) (hl : rest.length ≤ 140737488355328) (hS : bst (kby 4 :: ((twoS s.size).data.toList ++ (s.data.toList ++ rest))) = S) :
    ((S.extract 1 3).size = 2 ∧ wideS (S.extract 1 3) = s.size) ∧ S.extract 3 (3 + s.size) = s ∧ 3 + s.size ≤ S.size ∧ S.size ≤ 140737488360000 := by
  have h2 := twoL_len s.size
  have hsd : s.data.toList.length = s.size := rfl
  have hsz : S.size = 3 + s.size + rest.length := by rw [← hS, bst_size]; simp only [List.length_cons, List.length_append, twoL_len, hsd]; omega
  refine ⟨two_at hS (by omega), ?_, by omega, by omega⟩
  rw [← hS, bst_extract]
  have : ((kby 4 :: ((twoS s.size).data.toList ++ (s.data.toList ++ rest))).take (3 + s.size)).drop 3 = s.data.toList := by
    rw [List.drop_take]
    rw [show 3 + s.size - 3 = s.size by omega]
    rw [show (kby 4 :: ((twoS s.size).data.toList ++ (s.data.toList ++ rest))).drop 3 = s.data.toList ++ rest from by
      rw [List.drop_succ_cons, List.drop_append_of_le_length (by omega), List.drop_eq_nil_of_le (by omega), List.nil_append]]
    rw [List.take_append_of_le_length (by omega), List.take_of_length_le (by omega)]
  rw [this, bst_of]

end Go.Proofs.Ytaonlbmicjoclaa
