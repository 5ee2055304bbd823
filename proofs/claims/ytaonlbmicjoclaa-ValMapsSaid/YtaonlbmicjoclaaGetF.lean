/- val.Get of a float -/
import Derived.Test.YtaonlbmicjoclaaGetA
import Derived.Deep.RegionWith
import Derived.StillTailTactics
namespace Go.Proofs.Ytaonlbmicjoclaa
open Go.ChangeShapes Go.WideShapes Go.ChangeAt Go.RowKit Go.Fl

theorem canonN_canonN (f : Nat) : canonN (canonN f) = canonN f := by
  unfold canonN
  split
  · rename_i h
    split <;> simp_all
  · rename_i h
    simp

set_option maxHeartbeats 4000000 in
set_option maxRecDepth 100000 in
theorem getNumber_float (f : Nat) (rest : List UInt8) (S : ByteArray) (w : World) (hl : rest.length ≤ 140737488351200) (hf : f < 18446744073709551616) (hS : bst (kby 3 :: (eightL (canonN f) ++ rest)) = S) :
    Calls Try.prog 52 #[.string S] w fun e w' => e = .returned (.tuple #[valV 3 false 0 (canonN f) ⟨#[]⟩, .int .i64 9, .int .i64 0]) ∧ Below w.heap.size w w' := by
  obtain ⟨hsz3, hx3, hsz1, hsz2⟩ := eight_at hS (canonN_lt f hf) hl
  obtain ⟨g1, e1⟩ := bst_get hS (i := 0) (u := kby 3) rfl
  have t1 : (S[0]'g1).toNat = 3 := by rw [e1]; rfl
  have hcc := canonN_canonN f
  generalize canonN f = c at *
  have Hx3 := Lib.hid hx3
  have Hcc := Lib.hid hcc
  have hbits := call_bits
  have hfrom := fun w => call_from (c : Int) w
  simp only [Int.toNat_natCast] at hfrom
  clear hx3 hl hS e1 hf hcc
  go_enter Try.func52, Try.ntmps52
  go_upto_region 3 with fail
  go_cut [5, 6] from 14 to 20 (fun a b wx => a = .pointer (some ⟨w.heap.size + 1, 0, none⟩) ∧ b = .int .u64 (c : Int) ∧ wx = ((w.alloc (.cells #[.int .i64 0, .bool false, .int .i64 0, .float .f64 0, .string ⟨#[]⟩, .slice none 0 0] 26)).alloc (.cells #[.int .i64 3, .bool false, .int .i64 0, .float .f64 0, .string ⟨#[]⟩, .slice none 0 0] 26)).drew)
  case first =>
    go_region_with ((go_at_call 70; refine (wide_any _ _ hsz3).mono ?_; rw [Hx3.out]; rintro e w1 ⟨rfl, rfl⟩))
    all_goals (go_wp2_with fail; go_meet; exact ⟨rfl, rfl, rfl⟩)
  case rest =>
    obtain ⟨rfl, rfl, rfl⟩ := hcut
    go_wp2_with (go_at_call 39; refine (canon_any _ _).mono ?_; rw [Hcc.out]; rintro e w' ⟨rfl, rfl⟩)
    exact bodyPost_ret (v := .tuple #[.agg #[.int .i64 3, .bool false, .int .i64 0, .float .f64 c, .string ⟨#[]⟩, .slice none 0 0], .int .i64 9, .int .i64 0]) (by simp [results, Try.results52, go_sem]) rfl ⟨by rfl, (((Below.refl w.heap.size w).alloc (Nat.le_refl _) _).alloc (by simp) _).drew⟩

end Go.Proofs.Ytaonlbmicjoclaa
