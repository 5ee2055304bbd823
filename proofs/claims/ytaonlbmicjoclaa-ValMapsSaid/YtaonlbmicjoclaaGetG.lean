/- val.get, by what it calls -/
import Derived.Test.YtaonlbmicjoclaaGetA
namespace Go.Proofs.Ytaonlbmicjoclaa
open Go.ChangeShapes Go.WideShapes Go.ChangeAt Go.RowKit Go.Fl

theorem head_size {S : ByteArray} (g0 : 0 < S.size) : S.toList.isEmpty = false := by
  have e : S.toList = S.data.toList := Lib.toList_data S
  rw [e]
  have hl : S.data.toList.length = S.size := rfl
  cases hc : S.data.toList with
  | nil => rw [hc] at hl; exact absurd g0 (by rw [← hl]; decide)
  | cons x r => rfl

set_option maxHeartbeats 2000000 in
set_option maxRecDepth 100000 in
theorem get_thr_0 (S : ByteArray) (d : Int) (w : World) (b : Bool) (n : Int) (f : Nat) (s : ByteArray) (m sz : Nat) (Q : Option Addr → Nat → World → Prop) (hd : d ≤ 13) (g0 : 0 < S.size) (hk : (S[0]'g0).toNat = 0) (hsz : sz = 1)
    (hcall : Calls Try.prog 50 #[] (w.alloc (.cells #[.int .i64 0, .bool false, .int .i64 0, .float .f64 0, .string ⟨#[]⟩, .slice none 0 0] 26)) fun e w' => ∃ p c, e = .returned (.agg #[.int .i64 0, .bool b, .int .i64 n, .float .f64 f, .string s, .slice p m c]) ∧ Q p c w' ∧ Below (w.heap.size + 1) (w.alloc (.cells #[.int .i64 0, .bool false, .int .i64 0, .float .f64 0, .string ⟨#[]⟩, .slice none 0 0] 26)) w') :
    Calls Try.prog 30 #[.string S, .int .i64 d] w fun e w' => ∃ p c w2, e = .returned (.tuple #[.agg #[.int .i64 0, .bool b, .int .i64 n, .float .f64 f, .string s, .slice p m c], .int .i64 (sz : Nat), .int .i64 0]) ∧ Q p c w2 ∧ Below w.heap.size w w' ∧ (∀ q : Addr, q.block ≠ w.heap.size → w'.cell? q = w2.cell? q) ∧ w'.heap.size = w2.heap.size := by
  have hne := head_size g0
  have hd13 : decide (13 < d) = false := by simpa using hd
  have hb2 := (Below.refl w.heap.size w).alloc (Nat.le_refl _) (.cells #[.int .i64 0, .bool false, .int .i64 0, .float .f64 0, .string ⟨#[]⟩, .slice none 0 0] 26)
  have Hcall := Lib.hid hcall; clear hcall hd
  go_enter Try.func30, Try.ntmps30
  go_wp2_with fail
  refine Hcall.out.mono ?_
  rintro e w1 ⟨p, c, rfl, hQ, hb1⟩
  have hbox : Blk w1 w.heap.size 26 #[.int .i64 0, .bool false, .int .i64 0, .float .f64 0, .string ⟨#[]⟩, .slice none 0 0] := Blk.below (Blk.new w _ _) hb1 (Nat.lt_succ_self _)
  have hbw := hb2.trans (hb1.mono (Nat.le_succ _))
  have Hfin := Lib.hid (set6_load hbox (by simp) (.int .i64 0) (.bool b) (.int .i64 n) (.float .f64 f) (.string s) (.slice p m c))
  have d0 : w1.cell? ⟨w.heap.size, 0, none⟩ = some (.int .i64 0) := (hbox.cell 0).trans rfl
  have d1 : w1.cell? ⟨w.heap.size, 1, none⟩ = some (.bool false) := (hbox.cell 1).trans rfl
  have d2 : w1.cell? ⟨w.heap.size, 2, none⟩ = some (.int .i64 0) := (hbox.cell 2).trans rfl
  have d3 : w1.cell? ⟨w.heap.size, 3, none⟩ = some (.float .f64 0) := (hbox.cell 3).trans rfl
  have d4 : w1.cell? ⟨w.heap.size, 4, none⟩ = some (.string ⟨#[]⟩) := (hbox.cell 4).trans rfl
  have d5 : w1.cell? ⟨w.heap.size, 5, none⟩ = some (.slice none 0 0) := (hbox.cell 5).trans rfl
  have zd0 : w1.frozen? ⟨w.heap.size, 0, none⟩ = false := hbox.frozen 0
  have zd1 : w1.frozen? ⟨w.heap.size, 1, none⟩ = false := hbox.frozen 1
  have zd2 : w1.frozen? ⟨w.heap.size, 2, none⟩ = false := hbox.frozen 2
  have zd3 : w1.frozen? ⟨w.heap.size, 3, none⟩ = false := hbox.frozen 3
  have zd4 : w1.frozen? ⟨w.heap.size, 4, none⟩ = false := hbox.frozen 4
  have zd5 : w1.frozen? ⟨w.heap.size, 5, none⟩ = false := hbox.frozen 5
  have HQ := Lib.hid hQ
  clear hbox hQ Hcall
  go_wp2_with fail
  have hbe := set6_below hbw (g := w.heap.size) (by simp) (o := 0) (.int .i64 0) (.bool b) (.int .i64 n) (.float .f64 f) (.string s) (.slice p m c)
  obtain ⟨f0, f1, f2, f3, f4, f5⟩ := Hfin.out
  exact bodyPost_ret (v := .tuple #[.agg #[.int .i64 0, .bool b, .int .i64 n, .float .f64 f, .string s, .slice p m c], .int .i64 (sz : Nat), .int .i64 0]) (by simp [results, Try.results30, go_sem, f0, f1, f2, f3, f4, f5, hsz]) rfl ⟨p, c, w1, rfl, HQ.out, hbe, fun q hq => World.cell?_of_block (set6_far (.int .i64 0) (.bool b) (.int .i64 n) (.float .f64 f) (.string s) (.slice p m c) hq), set6_size _ _ _ _ _ _ _ _ _⟩

set_option maxHeartbeats 2000000 in
set_option maxRecDepth 100000 in
theorem get_thr_1 (S : ByteArray) (d : Int) (w : World) (b : Bool) (n : Int) (f : Nat) (s : ByteArray) (m sz : Nat) (Q : Option Addr → Nat → World → Prop) (hd : d ≤ 13) (g0 : 0 < S.size) (hk : (S[0]'g0).toNat = 1)
    (hcall : Calls Try.prog 51 #[.string S] (w.alloc (.cells #[.int .i64 0, .bool false, .int .i64 0, .float .f64 0, .string ⟨#[]⟩, .slice none 0 0] 26)) fun e w' => ∃ p c, e = .returned (.tuple #[.agg #[.int .i64 1, .bool b, .int .i64 n, .float .f64 f, .string s, .slice p m c], .int .i64 (sz : Nat), .int .i64 0]) ∧ Q p c w' ∧ Below (w.heap.size + 1) (w.alloc (.cells #[.int .i64 0, .bool false, .int .i64 0, .float .f64 0, .string ⟨#[]⟩, .slice none 0 0] 26)) w') :
    Calls Try.prog 30 #[.string S, .int .i64 d] w fun e w' => ∃ p c w2, e = .returned (.tuple #[.agg #[.int .i64 1, .bool b, .int .i64 n, .float .f64 f, .string s, .slice p m c], .int .i64 (sz : Nat), .int .i64 0]) ∧ Q p c w2 ∧ Below w.heap.size w w' ∧ (∀ q : Addr, q.block ≠ w.heap.size → w'.cell? q = w2.cell? q) ∧ w'.heap.size = w2.heap.size := by
  have hne := head_size g0
  have hd13 : decide (13 < d) = false := by simpa using hd
  have hb2 := (Below.refl w.heap.size w).alloc (Nat.le_refl _) (.cells #[.int .i64 0, .bool false, .int .i64 0, .float .f64 0, .string ⟨#[]⟩, .slice none 0 0] 26)
  have Hcall := Lib.hid hcall; clear hcall hd
  go_enter Try.func30, Try.ntmps30
  go_wp2_with fail
  refine Hcall.out.mono ?_
  rintro e w1 ⟨p, c, rfl, hQ, hb1⟩
  have hbox : Blk w1 w.heap.size 26 #[.int .i64 0, .bool false, .int .i64 0, .float .f64 0, .string ⟨#[]⟩, .slice none 0 0] := Blk.below (Blk.new w _ _) hb1 (Nat.lt_succ_self _)
  have hbw := hb2.trans (hb1.mono (Nat.le_succ _))
  have Hfin := Lib.hid (set6_load hbox (by simp) (.int .i64 1) (.bool b) (.int .i64 n) (.float .f64 f) (.string s) (.slice p m c))
  have d0 : w1.cell? ⟨w.heap.size, 0, none⟩ = some (.int .i64 0) := (hbox.cell 0).trans rfl
  have d1 : w1.cell? ⟨w.heap.size, 1, none⟩ = some (.bool false) := (hbox.cell 1).trans rfl
  have d2 : w1.cell? ⟨w.heap.size, 2, none⟩ = some (.int .i64 0) := (hbox.cell 2).trans rfl
  have d3 : w1.cell? ⟨w.heap.size, 3, none⟩ = some (.float .f64 0) := (hbox.cell 3).trans rfl
  have d4 : w1.cell? ⟨w.heap.size, 4, none⟩ = some (.string ⟨#[]⟩) := (hbox.cell 4).trans rfl
  have d5 : w1.cell? ⟨w.heap.size, 5, none⟩ = some (.slice none 0 0) := (hbox.cell 5).trans rfl
  have zd0 : w1.frozen? ⟨w.heap.size, 0, none⟩ = false := hbox.frozen 0
  have zd1 : w1.frozen? ⟨w.heap.size, 1, none⟩ = false := hbox.frozen 1
  have zd2 : w1.frozen? ⟨w.heap.size, 2, none⟩ = false := hbox.frozen 2
  have zd3 : w1.frozen? ⟨w.heap.size, 3, none⟩ = false := hbox.frozen 3
  have zd4 : w1.frozen? ⟨w.heap.size, 4, none⟩ = false := hbox.frozen 4
  have zd5 : w1.frozen? ⟨w.heap.size, 5, none⟩ = false := hbox.frozen 5
  have HQ := Lib.hid hQ
  clear hbox hQ Hcall
  go_wp2_with fail
  have hbe := set6_below hbw (g := w.heap.size) (by simp) (o := 0) (.int .i64 1) (.bool b) (.int .i64 n) (.float .f64 f) (.string s) (.slice p m c)
  obtain ⟨f0, f1, f2, f3, f4, f5⟩ := Hfin.out
  exact bodyPost_ret (v := .tuple #[.agg #[.int .i64 1, .bool b, .int .i64 n, .float .f64 f, .string s, .slice p m c], .int .i64 (sz : Nat), .int .i64 0]) (by simp [results, Try.results30, go_sem, f0, f1, f2, f3, f4, f5]) rfl ⟨p, c, w1, rfl, HQ.out, hbe, fun q hq => World.cell?_of_block (set6_far (.int .i64 1) (.bool b) (.int .i64 n) (.float .f64 f) (.string s) (.slice p m c) hq), set6_size _ _ _ _ _ _ _ _ _⟩

set_option maxHeartbeats 2000000 in
set_option maxRecDepth 100000 in
theorem get_thr_2 (S : ByteArray) (d : Int) (w : World) (b : Bool) (n : Int) (f : Nat) (s : ByteArray) (m sz : Nat) (Q : Option Addr → Nat → World → Prop) (hd : d ≤ 13) (g0 : 0 < S.size) (hk : (S[0]'g0).toNat = 2)
    (hcall : Calls Try.prog 52 #[.string S] (w.alloc (.cells #[.int .i64 0, .bool false, .int .i64 0, .float .f64 0, .string ⟨#[]⟩, .slice none 0 0] 26)) fun e w' => ∃ p c, e = .returned (.tuple #[.agg #[.int .i64 2, .bool b, .int .i64 n, .float .f64 f, .string s, .slice p m c], .int .i64 (sz : Nat), .int .i64 0]) ∧ Q p c w' ∧ Below (w.heap.size + 1) (w.alloc (.cells #[.int .i64 0, .bool false, .int .i64 0, .float .f64 0, .string ⟨#[]⟩, .slice none 0 0] 26)) w') :
    Calls Try.prog 30 #[.string S, .int .i64 d] w fun e w' => ∃ p c w2, e = .returned (.tuple #[.agg #[.int .i64 2, .bool b, .int .i64 n, .float .f64 f, .string s, .slice p m c], .int .i64 (sz : Nat), .int .i64 0]) ∧ Q p c w2 ∧ Below w.heap.size w w' ∧ (∀ q : Addr, q.block ≠ w.heap.size → w'.cell? q = w2.cell? q) ∧ w'.heap.size = w2.heap.size := by
  have hne := head_size g0
  have hd13 : decide (13 < d) = false := by simpa using hd
  have hb2 := (Below.refl w.heap.size w).alloc (Nat.le_refl _) (.cells #[.int .i64 0, .bool false, .int .i64 0, .float .f64 0, .string ⟨#[]⟩, .slice none 0 0] 26)
  have Hcall := Lib.hid hcall; clear hcall hd
  go_enter Try.func30, Try.ntmps30
  go_wp2_with fail
  refine Hcall.out.mono ?_
  rintro e w1 ⟨p, c, rfl, hQ, hb1⟩
  have hbox : Blk w1 w.heap.size 26 #[.int .i64 0, .bool false, .int .i64 0, .float .f64 0, .string ⟨#[]⟩, .slice none 0 0] := Blk.below (Blk.new w _ _) hb1 (Nat.lt_succ_self _)
  have hbw := hb2.trans (hb1.mono (Nat.le_succ _))
  have Hfin := Lib.hid (set6_load hbox (by simp) (.int .i64 2) (.bool b) (.int .i64 n) (.float .f64 f) (.string s) (.slice p m c))
  have d0 : w1.cell? ⟨w.heap.size, 0, none⟩ = some (.int .i64 0) := (hbox.cell 0).trans rfl
  have d1 : w1.cell? ⟨w.heap.size, 1, none⟩ = some (.bool false) := (hbox.cell 1).trans rfl
  have d2 : w1.cell? ⟨w.heap.size, 2, none⟩ = some (.int .i64 0) := (hbox.cell 2).trans rfl
  have d3 : w1.cell? ⟨w.heap.size, 3, none⟩ = some (.float .f64 0) := (hbox.cell 3).trans rfl
  have d4 : w1.cell? ⟨w.heap.size, 4, none⟩ = some (.string ⟨#[]⟩) := (hbox.cell 4).trans rfl
  have d5 : w1.cell? ⟨w.heap.size, 5, none⟩ = some (.slice none 0 0) := (hbox.cell 5).trans rfl
  have zd0 : w1.frozen? ⟨w.heap.size, 0, none⟩ = false := hbox.frozen 0
  have zd1 : w1.frozen? ⟨w.heap.size, 1, none⟩ = false := hbox.frozen 1
  have zd2 : w1.frozen? ⟨w.heap.size, 2, none⟩ = false := hbox.frozen 2
  have zd3 : w1.frozen? ⟨w.heap.size, 3, none⟩ = false := hbox.frozen 3
  have zd4 : w1.frozen? ⟨w.heap.size, 4, none⟩ = false := hbox.frozen 4
  have zd5 : w1.frozen? ⟨w.heap.size, 5, none⟩ = false := hbox.frozen 5
  have HQ := Lib.hid hQ
  clear hbox hQ Hcall
  go_wp2_with fail
  have hbe := set6_below hbw (g := w.heap.size) (by simp) (o := 0) (.int .i64 2) (.bool b) (.int .i64 n) (.float .f64 f) (.string s) (.slice p m c)
  obtain ⟨f0, f1, f2, f3, f4, f5⟩ := Hfin.out
  exact bodyPost_ret (v := .tuple #[.agg #[.int .i64 2, .bool b, .int .i64 n, .float .f64 f, .string s, .slice p m c], .int .i64 (sz : Nat), .int .i64 0]) (by simp [results, Try.results30, go_sem, f0, f1, f2, f3, f4, f5]) rfl ⟨p, c, w1, rfl, HQ.out, hbe, fun q hq => World.cell?_of_block (set6_far (.int .i64 2) (.bool b) (.int .i64 n) (.float .f64 f) (.string s) (.slice p m c) hq), set6_size _ _ _ _ _ _ _ _ _⟩

set_option maxHeartbeats 2000000 in
set_option maxRecDepth 100000 in
theorem get_thr_3 (S : ByteArray) (d : Int) (w : World) (b : Bool) (n : Int) (f : Nat) (s : ByteArray) (m sz : Nat) (Q : Option Addr → Nat → World → Prop) (hd : d ≤ 13) (g0 : 0 < S.size) (hk : (S[0]'g0).toNat = 3)
    (hcall : Calls Try.prog 52 #[.string S] (w.alloc (.cells #[.int .i64 0, .bool false, .int .i64 0, .float .f64 0, .string ⟨#[]⟩, .slice none 0 0] 26)) fun e w' => ∃ p c, e = .returned (.tuple #[.agg #[.int .i64 3, .bool b, .int .i64 n, .float .f64 f, .string s, .slice p m c], .int .i64 (sz : Nat), .int .i64 0]) ∧ Q p c w' ∧ Below (w.heap.size + 1) (w.alloc (.cells #[.int .i64 0, .bool false, .int .i64 0, .float .f64 0, .string ⟨#[]⟩, .slice none 0 0] 26)) w') :
    Calls Try.prog 30 #[.string S, .int .i64 d] w fun e w' => ∃ p c w2, e = .returned (.tuple #[.agg #[.int .i64 3, .bool b, .int .i64 n, .float .f64 f, .string s, .slice p m c], .int .i64 (sz : Nat), .int .i64 0]) ∧ Q p c w2 ∧ Below w.heap.size w w' ∧ (∀ q : Addr, q.block ≠ w.heap.size → w'.cell? q = w2.cell? q) ∧ w'.heap.size = w2.heap.size := by
  have hne := head_size g0
  have hd13 : decide (13 < d) = false := by simpa using hd
  have hb2 := (Below.refl w.heap.size w).alloc (Nat.le_refl _) (.cells #[.int .i64 0, .bool false, .int .i64 0, .float .f64 0, .string ⟨#[]⟩, .slice none 0 0] 26)
  have Hcall := Lib.hid hcall; clear hcall hd
  go_enter Try.func30, Try.ntmps30
  go_wp2_with fail
  refine Hcall.out.mono ?_
  rintro e w1 ⟨p, c, rfl, hQ, hb1⟩
  have hbox : Blk w1 w.heap.size 26 #[.int .i64 0, .bool false, .int .i64 0, .float .f64 0, .string ⟨#[]⟩, .slice none 0 0] := Blk.below (Blk.new w _ _) hb1 (Nat.lt_succ_self _)
  have hbw := hb2.trans (hb1.mono (Nat.le_succ _))
  have Hfin := Lib.hid (set6_load hbox (by simp) (.int .i64 3) (.bool b) (.int .i64 n) (.float .f64 f) (.string s) (.slice p m c))
  have d0 : w1.cell? ⟨w.heap.size, 0, none⟩ = some (.int .i64 0) := (hbox.cell 0).trans rfl
  have d1 : w1.cell? ⟨w.heap.size, 1, none⟩ = some (.bool false) := (hbox.cell 1).trans rfl
  have d2 : w1.cell? ⟨w.heap.size, 2, none⟩ = some (.int .i64 0) := (hbox.cell 2).trans rfl
  have d3 : w1.cell? ⟨w.heap.size, 3, none⟩ = some (.float .f64 0) := (hbox.cell 3).trans rfl
  have d4 : w1.cell? ⟨w.heap.size, 4, none⟩ = some (.string ⟨#[]⟩) := (hbox.cell 4).trans rfl
  have d5 : w1.cell? ⟨w.heap.size, 5, none⟩ = some (.slice none 0 0) := (hbox.cell 5).trans rfl
  have zd0 : w1.frozen? ⟨w.heap.size, 0, none⟩ = false := hbox.frozen 0
  have zd1 : w1.frozen? ⟨w.heap.size, 1, none⟩ = false := hbox.frozen 1
  have zd2 : w1.frozen? ⟨w.heap.size, 2, none⟩ = false := hbox.frozen 2
  have zd3 : w1.frozen? ⟨w.heap.size, 3, none⟩ = false := hbox.frozen 3
  have zd4 : w1.frozen? ⟨w.heap.size, 4, none⟩ = false := hbox.frozen 4
  have zd5 : w1.frozen? ⟨w.heap.size, 5, none⟩ = false := hbox.frozen 5
  have HQ := Lib.hid hQ
  clear hbox hQ Hcall
  go_wp2_with fail
  have hbe := set6_below hbw (g := w.heap.size) (by simp) (o := 0) (.int .i64 3) (.bool b) (.int .i64 n) (.float .f64 f) (.string s) (.slice p m c)
  obtain ⟨f0, f1, f2, f3, f4, f5⟩ := Hfin.out
  exact bodyPost_ret (v := .tuple #[.agg #[.int .i64 3, .bool b, .int .i64 n, .float .f64 f, .string s, .slice p m c], .int .i64 (sz : Nat), .int .i64 0]) (by simp [results, Try.results30, go_sem, f0, f1, f2, f3, f4, f5]) rfl ⟨p, c, w1, rfl, HQ.out, hbe, fun q hq => World.cell?_of_block (set6_far (.int .i64 3) (.bool b) (.int .i64 n) (.float .f64 f) (.string s) (.slice p m c) hq), set6_size _ _ _ _ _ _ _ _ _⟩

set_option maxHeartbeats 2000000 in
set_option maxRecDepth 100000 in
theorem get_thr_7 (S : ByteArray) (d : Int) (w : World) (b : Bool) (n : Int) (f : Nat) (s : ByteArray) (m sz : Nat) (Q : Option Addr → Nat → World → Prop) (hd : d ≤ 13) (g0 : 0 < S.size) (hk : (S[0]'g0).toNat = 7)
    (hcall : Calls Try.prog 52 #[.string S] (w.alloc (.cells #[.int .i64 0, .bool false, .int .i64 0, .float .f64 0, .string ⟨#[]⟩, .slice none 0 0] 26)) fun e w' => ∃ p c, e = .returned (.tuple #[.agg #[.int .i64 7, .bool b, .int .i64 n, .float .f64 f, .string s, .slice p m c], .int .i64 (sz : Nat), .int .i64 0]) ∧ Q p c w' ∧ Below (w.heap.size + 1) (w.alloc (.cells #[.int .i64 0, .bool false, .int .i64 0, .float .f64 0, .string ⟨#[]⟩, .slice none 0 0] 26)) w') :
    Calls Try.prog 30 #[.string S, .int .i64 d] w fun e w' => ∃ p c w2, e = .returned (.tuple #[.agg #[.int .i64 7, .bool b, .int .i64 n, .float .f64 f, .string s, .slice p m c], .int .i64 (sz : Nat), .int .i64 0]) ∧ Q p c w2 ∧ Below w.heap.size w w' ∧ (∀ q : Addr, q.block ≠ w.heap.size → w'.cell? q = w2.cell? q) ∧ w'.heap.size = w2.heap.size := by
  have hne := head_size g0
  have hd13 : decide (13 < d) = false := by simpa using hd
  have hb2 := (Below.refl w.heap.size w).alloc (Nat.le_refl _) (.cells #[.int .i64 0, .bool false, .int .i64 0, .float .f64 0, .string ⟨#[]⟩, .slice none 0 0] 26)
  have Hcall := Lib.hid hcall; clear hcall hd
  go_enter Try.func30, Try.ntmps30
  go_wp2_with fail
  refine Hcall.out.mono ?_
  rintro e w1 ⟨p, c, rfl, hQ, hb1⟩
  have hbox : Blk w1 w.heap.size 26 #[.int .i64 0, .bool false, .int .i64 0, .float .f64 0, .string ⟨#[]⟩, .slice none 0 0] := Blk.below (Blk.new w _ _) hb1 (Nat.lt_succ_self _)
  have hbw := hb2.trans (hb1.mono (Nat.le_succ _))
  have Hfin := Lib.hid (set6_load hbox (by simp) (.int .i64 7) (.bool b) (.int .i64 n) (.float .f64 f) (.string s) (.slice p m c))
  have d0 : w1.cell? ⟨w.heap.size, 0, none⟩ = some (.int .i64 0) := (hbox.cell 0).trans rfl
  have d1 : w1.cell? ⟨w.heap.size, 1, none⟩ = some (.bool false) := (hbox.cell 1).trans rfl
  have d2 : w1.cell? ⟨w.heap.size, 2, none⟩ = some (.int .i64 0) := (hbox.cell 2).trans rfl
  have d3 : w1.cell? ⟨w.heap.size, 3, none⟩ = some (.float .f64 0) := (hbox.cell 3).trans rfl
  have d4 : w1.cell? ⟨w.heap.size, 4, none⟩ = some (.string ⟨#[]⟩) := (hbox.cell 4).trans rfl
  have d5 : w1.cell? ⟨w.heap.size, 5, none⟩ = some (.slice none 0 0) := (hbox.cell 5).trans rfl
  have zd0 : w1.frozen? ⟨w.heap.size, 0, none⟩ = false := hbox.frozen 0
  have zd1 : w1.frozen? ⟨w.heap.size, 1, none⟩ = false := hbox.frozen 1
  have zd2 : w1.frozen? ⟨w.heap.size, 2, none⟩ = false := hbox.frozen 2
  have zd3 : w1.frozen? ⟨w.heap.size, 3, none⟩ = false := hbox.frozen 3
  have zd4 : w1.frozen? ⟨w.heap.size, 4, none⟩ = false := hbox.frozen 4
  have zd5 : w1.frozen? ⟨w.heap.size, 5, none⟩ = false := hbox.frozen 5
  have HQ := Lib.hid hQ
  clear hbox hQ Hcall
  go_wp2_with fail
  have hbe := set6_below hbw (g := w.heap.size) (by simp) (o := 0) (.int .i64 7) (.bool b) (.int .i64 n) (.float .f64 f) (.string s) (.slice p m c)
  obtain ⟨f0, f1, f2, f3, f4, f5⟩ := Hfin.out
  exact bodyPost_ret (v := .tuple #[.agg #[.int .i64 7, .bool b, .int .i64 n, .float .f64 f, .string s, .slice p m c], .int .i64 (sz : Nat), .int .i64 0]) (by simp [results, Try.results30, go_sem, f0, f1, f2, f3, f4, f5]) rfl ⟨p, c, w1, rfl, HQ.out, hbe, fun q hq => World.cell?_of_block (set6_far (.int .i64 7) (.bool b) (.int .i64 n) (.float .f64 f) (.string s) (.slice p m c) hq), set6_size _ _ _ _ _ _ _ _ _⟩

set_option maxHeartbeats 2000000 in
set_option maxRecDepth 100000 in
theorem get_thr_8 (S : ByteArray) (d : Int) (w : World) (b : Bool) (n : Int) (f : Nat) (s : ByteArray) (m sz : Nat) (Q : Option Addr → Nat → World → Prop) (hd : d ≤ 13) (g0 : 0 < S.size) (hk : (S[0]'g0).toNat = 8)
    (hcall : Calls Try.prog 52 #[.string S] (w.alloc (.cells #[.int .i64 0, .bool false, .int .i64 0, .float .f64 0, .string ⟨#[]⟩, .slice none 0 0] 26)) fun e w' => ∃ p c, e = .returned (.tuple #[.agg #[.int .i64 8, .bool b, .int .i64 n, .float .f64 f, .string s, .slice p m c], .int .i64 (sz : Nat), .int .i64 0]) ∧ Q p c w' ∧ Below (w.heap.size + 1) (w.alloc (.cells #[.int .i64 0, .bool false, .int .i64 0, .float .f64 0, .string ⟨#[]⟩, .slice none 0 0] 26)) w') :
    Calls Try.prog 30 #[.string S, .int .i64 d] w fun e w' => ∃ p c w2, e = .returned (.tuple #[.agg #[.int .i64 8, .bool b, .int .i64 n, .float .f64 f, .string s, .slice p m c], .int .i64 (sz : Nat), .int .i64 0]) ∧ Q p c w2 ∧ Below w.heap.size w w' ∧ (∀ q : Addr, q.block ≠ w.heap.size → w'.cell? q = w2.cell? q) ∧ w'.heap.size = w2.heap.size := by
  have hne := head_size g0
  have hd13 : decide (13 < d) = false := by simpa using hd
  have hb2 := (Below.refl w.heap.size w).alloc (Nat.le_refl _) (.cells #[.int .i64 0, .bool false, .int .i64 0, .float .f64 0, .string ⟨#[]⟩, .slice none 0 0] 26)
  have Hcall := Lib.hid hcall; clear hcall hd
  go_enter Try.func30, Try.ntmps30
  go_wp2_with fail
  refine Hcall.out.mono ?_
  rintro e w1 ⟨p, c, rfl, hQ, hb1⟩
  have hbox : Blk w1 w.heap.size 26 #[.int .i64 0, .bool false, .int .i64 0, .float .f64 0, .string ⟨#[]⟩, .slice none 0 0] := Blk.below (Blk.new w _ _) hb1 (Nat.lt_succ_self _)
  have hbw := hb2.trans (hb1.mono (Nat.le_succ _))
  have Hfin := Lib.hid (set6_load hbox (by simp) (.int .i64 8) (.bool b) (.int .i64 n) (.float .f64 f) (.string s) (.slice p m c))
  have d0 : w1.cell? ⟨w.heap.size, 0, none⟩ = some (.int .i64 0) := (hbox.cell 0).trans rfl
  have d1 : w1.cell? ⟨w.heap.size, 1, none⟩ = some (.bool false) := (hbox.cell 1).trans rfl
  have d2 : w1.cell? ⟨w.heap.size, 2, none⟩ = some (.int .i64 0) := (hbox.cell 2).trans rfl
  have d3 : w1.cell? ⟨w.heap.size, 3, none⟩ = some (.float .f64 0) := (hbox.cell 3).trans rfl
  have d4 : w1.cell? ⟨w.heap.size, 4, none⟩ = some (.string ⟨#[]⟩) := (hbox.cell 4).trans rfl
  have d5 : w1.cell? ⟨w.heap.size, 5, none⟩ = some (.slice none 0 0) := (hbox.cell 5).trans rfl
  have zd0 : w1.frozen? ⟨w.heap.size, 0, none⟩ = false := hbox.frozen 0
  have zd1 : w1.frozen? ⟨w.heap.size, 1, none⟩ = false := hbox.frozen 1
  have zd2 : w1.frozen? ⟨w.heap.size, 2, none⟩ = false := hbox.frozen 2
  have zd3 : w1.frozen? ⟨w.heap.size, 3, none⟩ = false := hbox.frozen 3
  have zd4 : w1.frozen? ⟨w.heap.size, 4, none⟩ = false := hbox.frozen 4
  have zd5 : w1.frozen? ⟨w.heap.size, 5, none⟩ = false := hbox.frozen 5
  have HQ := Lib.hid hQ
  clear hbox hQ Hcall
  go_wp2_with fail
  have hbe := set6_below hbw (g := w.heap.size) (by simp) (o := 0) (.int .i64 8) (.bool b) (.int .i64 n) (.float .f64 f) (.string s) (.slice p m c)
  obtain ⟨f0, f1, f2, f3, f4, f5⟩ := Hfin.out
  exact bodyPost_ret (v := .tuple #[.agg #[.int .i64 8, .bool b, .int .i64 n, .float .f64 f, .string s, .slice p m c], .int .i64 (sz : Nat), .int .i64 0]) (by simp [results, Try.results30, go_sem, f0, f1, f2, f3, f4, f5]) rfl ⟨p, c, w1, rfl, HQ.out, hbe, fun q hq => World.cell?_of_block (set6_far (.int .i64 8) (.bool b) (.int .i64 n) (.float .f64 f) (.string s) (.slice p m c) hq), set6_size _ _ _ _ _ _ _ _ _⟩

set_option maxHeartbeats 2000000 in
set_option maxRecDepth 100000 in
theorem get_thr_4 (S : ByteArray) (d : Int) (w : World) (b : Bool) (n : Int) (f : Nat) (s : ByteArray) (m sz : Nat) (Q : Option Addr → Nat → World → Prop) (hd : d ≤ 13) (g0 : 0 < S.size) (hk : (S[0]'g0).toNat = 4)
    (hcall : Calls Try.prog 53 #[.string S] (w.alloc (.cells #[.int .i64 0, .bool false, .int .i64 0, .float .f64 0, .string ⟨#[]⟩, .slice none 0 0] 26)) fun e w' => ∃ p c, e = .returned (.tuple #[.agg #[.int .i64 4, .bool b, .int .i64 n, .float .f64 f, .string s, .slice p m c], .int .i64 (sz : Nat), .int .i64 0]) ∧ Q p c w' ∧ Below (w.heap.size + 1) (w.alloc (.cells #[.int .i64 0, .bool false, .int .i64 0, .float .f64 0, .string ⟨#[]⟩, .slice none 0 0] 26)) w') :
    Calls Try.prog 30 #[.string S, .int .i64 d] w fun e w' => ∃ p c w2, e = .returned (.tuple #[.agg #[.int .i64 4, .bool b, .int .i64 n, .float .f64 f, .string s, .slice p m c], .int .i64 (sz : Nat), .int .i64 0]) ∧ Q p c w2 ∧ Below w.heap.size w w' ∧ (∀ q : Addr, q.block ≠ w.heap.size → w'.cell? q = w2.cell? q) ∧ w'.heap.size = w2.heap.size := by
  have hne := head_size g0
  have hd13 : decide (13 < d) = false := by simpa using hd
  have hb2 := (Below.refl w.heap.size w).alloc (Nat.le_refl _) (.cells #[.int .i64 0, .bool false, .int .i64 0, .float .f64 0, .string ⟨#[]⟩, .slice none 0 0] 26)
  have Hcall := Lib.hid hcall; clear hcall hd
  go_enter Try.func30, Try.ntmps30
  go_wp2_with fail
  refine Hcall.out.mono ?_
  rintro e w1 ⟨p, c, rfl, hQ, hb1⟩
  have hbox : Blk w1 w.heap.size 26 #[.int .i64 0, .bool false, .int .i64 0, .float .f64 0, .string ⟨#[]⟩, .slice none 0 0] := Blk.below (Blk.new w _ _) hb1 (Nat.lt_succ_self _)
  have hbw := hb2.trans (hb1.mono (Nat.le_succ _))
  have Hfin := Lib.hid (set6_load hbox (by simp) (.int .i64 4) (.bool b) (.int .i64 n) (.float .f64 f) (.string s) (.slice p m c))
  have d0 : w1.cell? ⟨w.heap.size, 0, none⟩ = some (.int .i64 0) := (hbox.cell 0).trans rfl
  have d1 : w1.cell? ⟨w.heap.size, 1, none⟩ = some (.bool false) := (hbox.cell 1).trans rfl
  have d2 : w1.cell? ⟨w.heap.size, 2, none⟩ = some (.int .i64 0) := (hbox.cell 2).trans rfl
  have d3 : w1.cell? ⟨w.heap.size, 3, none⟩ = some (.float .f64 0) := (hbox.cell 3).trans rfl
  have d4 : w1.cell? ⟨w.heap.size, 4, none⟩ = some (.string ⟨#[]⟩) := (hbox.cell 4).trans rfl
  have d5 : w1.cell? ⟨w.heap.size, 5, none⟩ = some (.slice none 0 0) := (hbox.cell 5).trans rfl
  have zd0 : w1.frozen? ⟨w.heap.size, 0, none⟩ = false := hbox.frozen 0
  have zd1 : w1.frozen? ⟨w.heap.size, 1, none⟩ = false := hbox.frozen 1
  have zd2 : w1.frozen? ⟨w.heap.size, 2, none⟩ = false := hbox.frozen 2
  have zd3 : w1.frozen? ⟨w.heap.size, 3, none⟩ = false := hbox.frozen 3
  have zd4 : w1.frozen? ⟨w.heap.size, 4, none⟩ = false := hbox.frozen 4
  have zd5 : w1.frozen? ⟨w.heap.size, 5, none⟩ = false := hbox.frozen 5
  have HQ := Lib.hid hQ
  clear hbox hQ Hcall
  go_wp2_with fail
  have hbe := set6_below hbw (g := w.heap.size) (by simp) (o := 0) (.int .i64 4) (.bool b) (.int .i64 n) (.float .f64 f) (.string s) (.slice p m c)
  obtain ⟨f0, f1, f2, f3, f4, f5⟩ := Hfin.out
  exact bodyPost_ret (v := .tuple #[.agg #[.int .i64 4, .bool b, .int .i64 n, .float .f64 f, .string s, .slice p m c], .int .i64 (sz : Nat), .int .i64 0]) (by simp [results, Try.results30, go_sem, f0, f1, f2, f3, f4, f5]) rfl ⟨p, c, w1, rfl, HQ.out, hbe, fun q hq => World.cell?_of_block (set6_far (.int .i64 4) (.bool b) (.int .i64 n) (.float .f64 f) (.string s) (.slice p m c) hq), set6_size _ _ _ _ _ _ _ _ _⟩

set_option maxHeartbeats 2000000 in
set_option maxRecDepth 100000 in
theorem get_thr_5 (S : ByteArray) (d : Int) (w : World) (b : Bool) (n : Int) (f : Nat) (s : ByteArray) (m sz : Nat) (Q : Option Addr → Nat → World → Prop) (hd : d ≤ 13) (g0 : 0 < S.size) (hk : (S[0]'g0).toNat = 5)
    (hcall : Calls Try.prog 54 #[.string S, .int .i64 d] (w.alloc (.cells #[.int .i64 0, .bool false, .int .i64 0, .float .f64 0, .string ⟨#[]⟩, .slice none 0 0] 26)) fun e w' => ∃ p c, e = .returned (.tuple #[.agg #[.int .i64 5, .bool b, .int .i64 n, .float .f64 f, .string s, .slice p m c], .int .i64 (sz : Nat), .int .i64 0]) ∧ Q p c w' ∧ Below (w.heap.size + 1) (w.alloc (.cells #[.int .i64 0, .bool false, .int .i64 0, .float .f64 0, .string ⟨#[]⟩, .slice none 0 0] 26)) w') :
    Calls Try.prog 30 #[.string S, .int .i64 d] w fun e w' => ∃ p c w2, e = .returned (.tuple #[.agg #[.int .i64 5, .bool b, .int .i64 n, .float .f64 f, .string s, .slice p m c], .int .i64 (sz : Nat), .int .i64 0]) ∧ Q p c w2 ∧ Below w.heap.size w w' ∧ (∀ q : Addr, q.block ≠ w.heap.size → w'.cell? q = w2.cell? q) ∧ w'.heap.size = w2.heap.size := by
  have hne := head_size g0
  have hd13 : decide (13 < d) = false := by simpa using hd
  have hb2 := (Below.refl w.heap.size w).alloc (Nat.le_refl _) (.cells #[.int .i64 0, .bool false, .int .i64 0, .float .f64 0, .string ⟨#[]⟩, .slice none 0 0] 26)
  have Hcall := Lib.hid hcall; clear hcall hd
  go_enter Try.func30, Try.ntmps30
  go_wp2_with fail
  refine Hcall.out.mono ?_
  rintro e w1 ⟨p, c, rfl, hQ, hb1⟩
  have hbox : Blk w1 w.heap.size 26 #[.int .i64 0, .bool false, .int .i64 0, .float .f64 0, .string ⟨#[]⟩, .slice none 0 0] := Blk.below (Blk.new w _ _) hb1 (Nat.lt_succ_self _)
  have hbw := hb2.trans (hb1.mono (Nat.le_succ _))
  have Hfin := Lib.hid (set6_load hbox (by simp) (.int .i64 5) (.bool b) (.int .i64 n) (.float .f64 f) (.string s) (.slice p m c))
  have d0 : w1.cell? ⟨w.heap.size, 0, none⟩ = some (.int .i64 0) := (hbox.cell 0).trans rfl
  have d1 : w1.cell? ⟨w.heap.size, 1, none⟩ = some (.bool false) := (hbox.cell 1).trans rfl
  have d2 : w1.cell? ⟨w.heap.size, 2, none⟩ = some (.int .i64 0) := (hbox.cell 2).trans rfl
  have d3 : w1.cell? ⟨w.heap.size, 3, none⟩ = some (.float .f64 0) := (hbox.cell 3).trans rfl
  have d4 : w1.cell? ⟨w.heap.size, 4, none⟩ = some (.string ⟨#[]⟩) := (hbox.cell 4).trans rfl
  have d5 : w1.cell? ⟨w.heap.size, 5, none⟩ = some (.slice none 0 0) := (hbox.cell 5).trans rfl
  have zd0 : w1.frozen? ⟨w.heap.size, 0, none⟩ = false := hbox.frozen 0
  have zd1 : w1.frozen? ⟨w.heap.size, 1, none⟩ = false := hbox.frozen 1
  have zd2 : w1.frozen? ⟨w.heap.size, 2, none⟩ = false := hbox.frozen 2
  have zd3 : w1.frozen? ⟨w.heap.size, 3, none⟩ = false := hbox.frozen 3
  have zd4 : w1.frozen? ⟨w.heap.size, 4, none⟩ = false := hbox.frozen 4
  have zd5 : w1.frozen? ⟨w.heap.size, 5, none⟩ = false := hbox.frozen 5
  have HQ := Lib.hid hQ
  clear hbox hQ Hcall
  go_wp2_with fail
  have hbe := set6_below hbw (g := w.heap.size) (by simp) (o := 0) (.int .i64 5) (.bool b) (.int .i64 n) (.float .f64 f) (.string s) (.slice p m c)
  obtain ⟨f0, f1, f2, f3, f4, f5⟩ := Hfin.out
  exact bodyPost_ret (v := .tuple #[.agg #[.int .i64 5, .bool b, .int .i64 n, .float .f64 f, .string s, .slice p m c], .int .i64 (sz : Nat), .int .i64 0]) (by simp [results, Try.results30, go_sem, f0, f1, f2, f3, f4, f5]) rfl ⟨p, c, w1, rfl, HQ.out, hbe, fun q hq => World.cell?_of_block (set6_far (.int .i64 5) (.bool b) (.int .i64 n) (.float .f64 f) (.string s) (.slice p m c) hq), set6_size _ _ _ _ _ _ _ _ _⟩

set_option maxHeartbeats 2000000 in
set_option maxRecDepth 100000 in
theorem get_thr_6 (S : ByteArray) (d : Int) (w : World) (b : Bool) (n : Int) (f : Nat) (s : ByteArray) (m sz : Nat) (Q : Option Addr → Nat → World → Prop) (hd : d ≤ 13) (g0 : 0 < S.size) (hk : (S[0]'g0).toNat = 6)
    (hcall : Calls Try.prog 54 #[.string S, .int .i64 d] (w.alloc (.cells #[.int .i64 0, .bool false, .int .i64 0, .float .f64 0, .string ⟨#[]⟩, .slice none 0 0] 26)) fun e w' => ∃ p c, e = .returned (.tuple #[.agg #[.int .i64 6, .bool b, .int .i64 n, .float .f64 f, .string s, .slice p m c], .int .i64 (sz : Nat), .int .i64 0]) ∧ Q p c w' ∧ Below (w.heap.size + 1) (w.alloc (.cells #[.int .i64 0, .bool false, .int .i64 0, .float .f64 0, .string ⟨#[]⟩, .slice none 0 0] 26)) w') :
    Calls Try.prog 30 #[.string S, .int .i64 d] w fun e w' => ∃ p c w2, e = .returned (.tuple #[.agg #[.int .i64 6, .bool b, .int .i64 n, .float .f64 f, .string s, .slice p m c], .int .i64 (sz : Nat), .int .i64 0]) ∧ Q p c w2 ∧ Below w.heap.size w w' ∧ (∀ q : Addr, q.block ≠ w.heap.size → w'.cell? q = w2.cell? q) ∧ w'.heap.size = w2.heap.size := by
  have hne := head_size g0
  have hd13 : decide (13 < d) = false := by simpa using hd
  have hb2 := (Below.refl w.heap.size w).alloc (Nat.le_refl _) (.cells #[.int .i64 0, .bool false, .int .i64 0, .float .f64 0, .string ⟨#[]⟩, .slice none 0 0] 26)
  have Hcall := Lib.hid hcall; clear hcall hd
  go_enter Try.func30, Try.ntmps30
  go_wp2_with fail
  refine Hcall.out.mono ?_
  rintro e w1 ⟨p, c, rfl, hQ, hb1⟩
  have hbox : Blk w1 w.heap.size 26 #[.int .i64 0, .bool false, .int .i64 0, .float .f64 0, .string ⟨#[]⟩, .slice none 0 0] := Blk.below (Blk.new w _ _) hb1 (Nat.lt_succ_self _)
  have hbw := hb2.trans (hb1.mono (Nat.le_succ _))
  have Hfin := Lib.hid (set6_load hbox (by simp) (.int .i64 6) (.bool b) (.int .i64 n) (.float .f64 f) (.string s) (.slice p m c))
  have d0 : w1.cell? ⟨w.heap.size, 0, none⟩ = some (.int .i64 0) := (hbox.cell 0).trans rfl
  have d1 : w1.cell? ⟨w.heap.size, 1, none⟩ = some (.bool false) := (hbox.cell 1).trans rfl
  have d2 : w1.cell? ⟨w.heap.size, 2, none⟩ = some (.int .i64 0) := (hbox.cell 2).trans rfl
  have d3 : w1.cell? ⟨w.heap.size, 3, none⟩ = some (.float .f64 0) := (hbox.cell 3).trans rfl
  have d4 : w1.cell? ⟨w.heap.size, 4, none⟩ = some (.string ⟨#[]⟩) := (hbox.cell 4).trans rfl
  have d5 : w1.cell? ⟨w.heap.size, 5, none⟩ = some (.slice none 0 0) := (hbox.cell 5).trans rfl
  have zd0 : w1.frozen? ⟨w.heap.size, 0, none⟩ = false := hbox.frozen 0
  have zd1 : w1.frozen? ⟨w.heap.size, 1, none⟩ = false := hbox.frozen 1
  have zd2 : w1.frozen? ⟨w.heap.size, 2, none⟩ = false := hbox.frozen 2
  have zd3 : w1.frozen? ⟨w.heap.size, 3, none⟩ = false := hbox.frozen 3
  have zd4 : w1.frozen? ⟨w.heap.size, 4, none⟩ = false := hbox.frozen 4
  have zd5 : w1.frozen? ⟨w.heap.size, 5, none⟩ = false := hbox.frozen 5
  have HQ := Lib.hid hQ
  clear hbox hQ Hcall
  go_wp2_with fail
  have hbe := set6_below hbw (g := w.heap.size) (by simp) (o := 0) (.int .i64 6) (.bool b) (.int .i64 n) (.float .f64 f) (.string s) (.slice p m c)
  obtain ⟨f0, f1, f2, f3, f4, f5⟩ := Hfin.out
  exact bodyPost_ret (v := .tuple #[.agg #[.int .i64 6, .bool b, .int .i64 n, .float .f64 f, .string s, .slice p m c], .int .i64 (sz : Nat), .int .i64 0]) (by simp [results, Try.results30, go_sem, f0, f1, f2, f3, f4, f5]) rfl ⟨p, c, w1, rfl, HQ.out, hbe, fun q hq => World.cell?_of_block (set6_far (.int .i64 6) (.bool b) (.int .i64 n) (.float .f64 f) (.string s) (.slice p m c) hq), set6_size _ _ _ _ _ _ _ _ _⟩

end Go.Proofs.Ytaonlbmicjoclaa
