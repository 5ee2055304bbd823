/- val.Get of a text -/
import Derived.Test.YtaonlbmicjoclaaGetA
import Derived.Deep.RegionWith
import Derived.StillTailTactics
namespace Go.Proofs.Ytaonlbmicjoclaa
open Go.ChangeShapes Go.WideShapes Go.ChangeAt Go.RowKit Go.Fl

set_option maxHeartbeats 2000000 in
set_option maxRecDepth 100000 in
theorem getText_any (s : ByteArray) (rest : List UInt8) (S : ByteArray) (w : World) (hs : s.size ≤ 500) (hl : rest.length ≤ 140737488355328) (hS : bst (kby 4 :: ((twoS s.size).data.toList ++ (s.data.toList ++ rest))) = S) :
    Calls Try.prog 53 #[.string S] w fun e w' => e = .returned (.tuple #[valV 4 false 0 0 s, .int .i64 (3 + s.size : Nat), .int .i64 0]) ∧ Below w.heap.size w w' := by
  obtain ⟨⟨hx1, hx2⟩, hx3, hsz1, hsz2⟩ := text_at hs hl hS
  have Hx1 := Lib.hid hx1; have Hx2 := Lib.hid hx2
  clear hx1 hx2 hl hS
  have hb2 := (Below.refl w.heap.size w).alloc (Nat.le_refl _) (.cells #[.int .i64 0, .bool false, .int .i64 0, .float .f64 0, .string ⟨#[]⟩, .slice none 0 0] 26)
  go_enter Try.func53, Try.ntmps53
  go_wp2_with fail
  refine (wide_any (S.extract 1 3) _ (by rw [Hx1.out]; decide)).mono ?_
  rw [Hx2.out]
  rintro e w1 ⟨rfl, rfl⟩
  have hq0 : (0 : Int) ≤ 3 + (s.size : Int) := by omega
  have hq1 : (3 : Int) ≤ 3 + (s.size : Int) := by omega
  have hq2 : (3 : Int) + (s.size : Int) ≤ (S.size : Int) := by omega
  have hq3 : ((3 : Int) + (s.size : Int)).toNat = 3 + s.size := by omega
  go_wp2_with fail
  refine (vtext_any s _).mono ?_
  rintro e w1 ⟨rfl, hb1⟩
  have hbox : Blk w1 w.heap.size 26 #[.int .i64 0, .bool false, .int .i64 0, .float .f64 0, .string ⟨#[]⟩, .slice none 0 0] := Blk.below (Blk.new w _ _) hb1 (by simp)
  have hbw := hb2.trans (hb1.mono hb2.size)
  have Hfin := Lib.hid (set6_load hbox (by simp) (.int .i64 4) (.bool false) (.int .i64 0) (.float .f64 0) (.string s) (.slice none 0 0))
  have d0 : w1.cell? ⟨w.heap.size, 0, none⟩ = some (.int .i64 0) := (hbox.cell 0).trans rfl
  have d1 : w1.cell? ⟨w.heap.size, 1, none⟩ = some (.bool false) := (hbox.cell 1).trans rfl
  have d2 : w1.cell? ⟨w.heap.size, 2, none⟩ = some (.int .i64 0) := (hbox.cell 2).trans rfl
  have d3 : w1.cell? ⟨w.heap.size, 3, none⟩ = some (.float .f64 0) := (hbox.cell 3).trans rfl
  have d4 : w1.cell? ⟨w.heap.size, 4, none⟩ = some (.string ⟨#[]⟩) := (hbox.cell 4).trans rfl
  have d5 : w1.cell? ⟨w.heap.size, 5, none⟩ = some (.slice none 0 0) := (hbox.cell 5).trans rfl
  have zd0 : w1.frozen? ⟨w.heap.size, 0, none⟩ = false := hbox.frozen 0
  have zd1 : w1.frozen? ⟨w.heap.size, 1, none⟩ = false := hbox.frozen 1
  have zd2 : w1.frozen? ⟨w.heap.size, 2, none⟩ = false := hbox.frozen 2
  have zd3 : w1.frozen? ⟨w.heap.size, 3, none⟩ = false := hbox.frozen 3
  have zd4 : w1.frozen? ⟨w.heap.size, 4, none⟩ = false := hbox.frozen 4
  have zd5 : w1.frozen? ⟨w.heap.size, 5, none⟩ = false := hbox.frozen 5
  clear hbox
  unfold valV
  go_wp2_with fail
  have hbe := set6_below hbw (g := w.heap.size) (by simp) (o := 0) (.int .i64 4) (.bool false) (.int .i64 0) (.float .f64 0) (.string s) (.slice none 0 0)
  obtain ⟨f0, f1, f2, f3, f4, f5⟩ := Hfin.out
  exact bodyPost_ret (v := .tuple #[.agg #[.int .i64 4, .bool false, .int .i64 0, .float .f64 0, .string s, .slice none 0 0], .int .i64 (3 + s.size : Nat), .int .i64 0]) (by simp [results, Try.results53, go_sem, f0, f1, f2, f3, f4, f5]) rfl ⟨by rfl, hbe⟩

end Go.Proofs.Ytaonlbmicjoclaa
