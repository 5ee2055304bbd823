/- val.Get of a number -/
import Derived.Test.YtaonlbmicjoclaaGetA
import Derived.Deep.RegionWith
import Derived.StillTailTactics
namespace Go.Proofs.Ytaonlbmicjoclaa
open Go.ChangeShapes Go.WideShapes Go.ChangeAt Go.RowKit Go.Fl

theorem word_lt (n : Int) : word n < 18446744073709551616 := by unfold word; omega

theorem word_wrap {n : Int} (h : is64 n = true) : IntKind.i64.wrap (word n : Int) = n := by
  have := is64_iff.1 h
  rw [IntKind.wrap_i64]
  unfold word
  omega

set_option maxHeartbeats 4000000 in
set_option maxRecDepth 100000 in
theorem getNumber_int (n : Int) (rest : List UInt8) (S : ByteArray) (w : World) (hl : rest.length ≤ 140737488351200) (hn : is64 n = true) (hS : bst (kby 2 :: (eightL (word n) ++ rest)) = S) :
    Calls Try.prog 52 #[.string S] w fun e w' => e = .returned (.tuple #[valV 2 false n 0 ⟨#[]⟩, .int .i64 9, .int .i64 0]) ∧ Below w.heap.size w w' := by
  obtain ⟨hsz3, hx3, hsz1, hsz2⟩ := eight_at hS (word_lt n) hl
  obtain ⟨g1, e1⟩ := bst_get hS (i := 0) (u := kby 2) rfl
  have t1 : (S[0]'g1).toNat = 2 := by rw [e1]; rfl
  have hcv := word_wrap hn
  rw [← hx3] at hcv
  obtain ⟨x, hx⟩ : ∃ x : Int, (wideS (S.extract 1 S.size) : Int) = x := ⟨_, rfl⟩
  rw [hx] at hcv
  have Hx3 := Lib.hid hx
  clear hx3 hx hl hS e1 hn
  have hb2 := (((Below.refl w.heap.size w).alloc (Nat.le_refl _) (.cells #[.int .i64 0, .bool false, .int .i64 0, .float .f64 0, .string ⟨#[]⟩, .slice none 0 0] 26)).alloc (by simp) (.cells #[.int .i64 2, .bool false, .int .i64 0, .float .f64 0, .string ⟨#[]⟩, .slice none 0 0] 26)).drew
  go_enter Try.func52, Try.ntmps52
  go_upto_region 3 with fail
  go_cut [5, 6] from 14 to 20 (fun a b wx => a = .pointer (some ⟨w.heap.size + 1, 0, none⟩) ∧ b = .int .u64 x ∧ wx = ((w.alloc (.cells #[.int .i64 0, .bool false, .int .i64 0, .float .f64 0, .string ⟨#[]⟩, .slice none 0 0] 26)).alloc (.cells #[.int .i64 2, .bool false, .int .i64 0, .float .f64 0, .string ⟨#[]⟩, .slice none 0 0] 26)).drew)
  case first =>
    go_region_with ((go_at_call 70; refine (wide_any _ _ hsz3).mono ?_; rw [Hx3.out]; rintro e w1 ⟨rfl, rfl⟩))
    all_goals (go_wp2_with fail; go_meet; exact ⟨rfl, rfl, rfl⟩)
  case rest =>
    obtain ⟨rfl, rfl, rfl⟩ := hcut
    go_wp2_with fail
    exact bodyPost_ret (v := .tuple #[.agg #[.int .i64 2, .bool false, .int .i64 n, .float .f64 0, .string ⟨#[]⟩, .slice none 0 0], .int .i64 9, .int .i64 0]) (by simp [results, Try.results52, go_sem]) rfl ⟨by rfl, (((Below.refl w.heap.size w).alloc (Nat.le_refl _) _).alloc (by simp) _).drew⟩

set_option maxHeartbeats 4000000 in
set_option maxRecDepth 100000 in
theorem getNumber_vertex (n : Int) (rest : List UInt8) (S : ByteArray) (w : World) (hl : rest.length ≤ 140737488351200) (hn : is64 n = true) (hp : decide (n < 1) = false) (hS : bst (kby 7 :: (eightL (word n) ++ rest)) = S) :
    Calls Try.prog 52 #[.string S] w fun e w' => e = .returned (.tuple #[valV 7 false n 0 ⟨#[]⟩, .int .i64 9, .int .i64 0]) ∧ Below w.heap.size w w' := by
  obtain ⟨hsz3, hx3, hsz1, hsz2⟩ := eight_at hS (word_lt n) hl
  obtain ⟨g1, e1⟩ := bst_get hS (i := 0) (u := kby 7) rfl
  have t1 : (S[0]'g1).toNat = 7 := by rw [e1]; rfl
  have hcv := word_wrap hn
  rw [← hx3] at hcv
  obtain ⟨x, hx⟩ : ∃ x : Int, (wideS (S.extract 1 S.size) : Int) = x := ⟨_, rfl⟩
  rw [hx] at hcv
  have Hx3 := Lib.hid hx
  clear hx3 hx hl hS e1 hn
  have hb2 := (((Below.refl w.heap.size w).alloc (Nat.le_refl _) (.cells #[.int .i64 0, .bool false, .int .i64 0, .float .f64 0, .string ⟨#[]⟩, .slice none 0 0] 26)).alloc (by simp) (.cells #[.int .i64 7, .bool false, .int .i64 0, .float .f64 0, .string ⟨#[]⟩, .slice none 0 0] 26)).drew
  go_enter Try.func52, Try.ntmps52
  go_upto_region 3 with fail
  go_cut [5, 6] from 14 to 20 (fun a b wx => a = .pointer (some ⟨w.heap.size + 1, 0, none⟩) ∧ b = .int .u64 x ∧ wx = ((w.alloc (.cells #[.int .i64 0, .bool false, .int .i64 0, .float .f64 0, .string ⟨#[]⟩, .slice none 0 0] 26)).alloc (.cells #[.int .i64 7, .bool false, .int .i64 0, .float .f64 0, .string ⟨#[]⟩, .slice none 0 0] 26)).drew)
  case first =>
    go_region_with ((go_at_call 70; refine (wide_any _ _ hsz3).mono ?_; rw [Hx3.out]; rintro e w1 ⟨rfl, rfl⟩))
    all_goals (go_wp2_with fail; go_meet; exact ⟨rfl, rfl, rfl⟩)
  case rest =>
    obtain ⟨rfl, rfl, rfl⟩ := hcut
    go_wp2_with fail
    exact bodyPost_ret (v := .tuple #[.agg #[.int .i64 7, .bool false, .int .i64 n, .float .f64 0, .string ⟨#[]⟩, .slice none 0 0], .int .i64 9, .int .i64 0]) (by simp [results, Try.results52, go_sem]) rfl ⟨by rfl, (((Below.refl w.heap.size w).alloc (Nat.le_refl _) _).alloc (by simp) _).drew⟩

set_option maxHeartbeats 4000000 in
set_option maxRecDepth 100000 in
theorem getNumber_edge (n : Int) (rest : List UInt8) (S : ByteArray) (w : World) (hl : rest.length ≤ 140737488351200) (hn : is64 n = true) (hp : decide (n < 1) = false) (hS : bst (kby 8 :: (eightL (word n) ++ rest)) = S) :
    Calls Try.prog 52 #[.string S] w fun e w' => e = .returned (.tuple #[valV 8 false n 0 ⟨#[]⟩, .int .i64 9, .int .i64 0]) ∧ Below w.heap.size w w' := by
  obtain ⟨hsz3, hx3, hsz1, hsz2⟩ := eight_at hS (word_lt n) hl
  obtain ⟨g1, e1⟩ := bst_get hS (i := 0) (u := kby 8) rfl
  have t1 : (S[0]'g1).toNat = 8 := by rw [e1]; rfl
  have hcv := word_wrap hn
  rw [← hx3] at hcv
  obtain ⟨x, hx⟩ : ∃ x : Int, (wideS (S.extract 1 S.size) : Int) = x := ⟨_, rfl⟩
  rw [hx] at hcv
  have Hx3 := Lib.hid hx
  clear hx3 hx hl hS e1 hn
  have hb2 := (((Below.refl w.heap.size w).alloc (Nat.le_refl _) (.cells #[.int .i64 0, .bool false, .int .i64 0, .float .f64 0, .string ⟨#[]⟩, .slice none 0 0] 26)).alloc (by simp) (.cells #[.int .i64 8, .bool false, .int .i64 0, .float .f64 0, .string ⟨#[]⟩, .slice none 0 0] 26)).drew
  go_enter Try.func52, Try.ntmps52
  go_upto_region 3 with fail
  go_cut [5, 6] from 14 to 20 (fun a b wx => a = .pointer (some ⟨w.heap.size + 1, 0, none⟩) ∧ b = .int .u64 x ∧ wx = ((w.alloc (.cells #[.int .i64 0, .bool false, .int .i64 0, .float .f64 0, .string ⟨#[]⟩, .slice none 0 0] 26)).alloc (.cells #[.int .i64 8, .bool false, .int .i64 0, .float .f64 0, .string ⟨#[]⟩, .slice none 0 0] 26)).drew)
  case first =>
    go_region_with ((go_at_call 70; refine (wide_any _ _ hsz3).mono ?_; rw [Hx3.out]; rintro e w1 ⟨rfl, rfl⟩))
    all_goals (go_wp2_with fail; go_meet; exact ⟨rfl, rfl, rfl⟩)
  case rest =>
    obtain ⟨rfl, rfl, rfl⟩ := hcut
    go_wp2_with fail
    exact bodyPost_ret (v := .tuple #[.agg #[.int .i64 8, .bool false, .int .i64 n, .float .f64 0, .string ⟨#[]⟩, .slice none 0 0], .int .i64 9, .int .i64 0]) (by simp [results, Try.results52, go_sem]) rfl ⟨by rfl, (((Below.refl w.heap.size w).alloc (Nat.le_refl _) _).alloc (by simp) _).drew⟩

end Go.Proofs.Ytaonlbmicjoclaa
