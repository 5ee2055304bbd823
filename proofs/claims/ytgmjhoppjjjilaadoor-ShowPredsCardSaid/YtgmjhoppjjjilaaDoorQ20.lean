/- SpB, SpC -/
import Derived.Test.YtgmjhoppjjjilaaDoorQ19

/- the document's parser: a value that is one word (written by tools/laws13b.py) -/
namespace Go.Proofs.YtgmjhoppjjjilaaDoor
open Go.ChangeShapes Go.WideShapes Go.ChangeAt Go.RowKit Go.Fl
open Go.Shelf

theorem isL_of (x : Wd) (l : List UInt8) : (x.s.toList == l) = isL x l := by unfold isL; rw [Lib.toList_data]

set_option maxHeartbeats 4000000 in
set_option maxRecDepth 100000 in
theorem val_int {w : World} {g cap : Nat} {ws : List Wd} {i : Nat} {x : Wd} (hw : WdsAt w g ws) (hx : ws[i]? = some x) (hn : ws.length ≤ 1501) (d m a : Int) (hk : x.k = 2) :
    Calls Tryd.prog 64 #[StV g ws.length cap i d m a 0] w fun z w' => z = .returned (.tuple #[StV g ws.length cap (i + 1 : Nat) d m a 0, .agg #[.int .i64 2, .bool false, .int .i64 x.n, .float .f64 0, .string ⟨#[]⟩, .slice none 0 0], .bool true]) ∧ Below w.heap.size w w' := by
  obtain ⟨e0, e1, e2, e3, e4, hi⟩ := hw.word hx
  have hi' : (i : Int) < (ws.length : Int) := by omega
  have hgl := hw.lt
  have hgl1 : g < w.heap.size + 1 := by omega
  have hgl2 : g < w.heap.size + 1 + 1 := by omega
  have hgl3 : g < w.heap.size + 1 + 1 + 1 := by omega
  have hgl4 : g < w.heap.size + 1 + 1 + 1 + 1 := by omega
  have hw64 : wrap64 ((i : Int) + 1) = ((i + 1 : Nat) : Int) := by
    rw [wrap64_id (is64_iff.2 (by omega))]; omega
  rw [hk] at e0
  clear hw hx hi
  go_enter Tryd.func64, Tryd.ntmps64
  go_wp2_with fail
  go_region
  go_wp2_with fail
  exact bodyPost_ret (v := .tuple #[StV g ws.length cap (i + 1 : Nat) d m a 0, .agg #[.int .i64 2, .bool false, .int .i64 x.n, .float .f64 0, .string ⟨#[]⟩, .slice none 0 0], .bool true]) (by simp [results, Tryd.results64, go_sem]) rfl ⟨rfl, by
    repeat (with_reducible first | exact Below.refl _ _ | refine Below.setCell ?_ (by simp) _ | refine Below.drew ?_ | refine Below.alloc ?_ (by simp <;> omega) _)⟩

set_option maxHeartbeats 4000000 in
set_option maxRecDepth 100000 in
theorem val_flt {w : World} {g cap : Nat} {ws : List Wd} {i : Nat} {x : Wd} (hw : WdsAt w g ws) (hx : ws[i]? = some x) (hn : ws.length ≤ 1501) (d m a : Int) (hk : x.k = 3) :
    Calls Tryd.prog 64 #[StV g ws.length cap i d m a 0] w fun z w' => z = .returned (.tuple #[StV g ws.length cap (i + 1 : Nat) d m a 0, .agg #[.int .i64 3, .bool false, .int .i64 0, .float .f64 x.f, .string ⟨#[]⟩, .slice none 0 0], .bool true]) ∧ Below w.heap.size w w' := by
  obtain ⟨e0, e1, e2, e3, e4, hi⟩ := hw.word hx
  have hi' : (i : Int) < (ws.length : Int) := by omega
  have hgl := hw.lt
  have hgl1 : g < w.heap.size + 1 := by omega
  have hgl2 : g < w.heap.size + 1 + 1 := by omega
  have hgl3 : g < w.heap.size + 1 + 1 + 1 := by omega
  have hgl4 : g < w.heap.size + 1 + 1 + 1 + 1 := by omega
  have hw64 : wrap64 ((i : Int) + 1) = ((i + 1 : Nat) : Int) := by
    rw [wrap64_id (is64_iff.2 (by omega))]; omega
  rw [hk] at e0
  clear hw hx hi
  go_enter Tryd.func64, Tryd.ntmps64
  go_wp2_with fail
  go_region
  go_wp2_with fail
  exact bodyPost_ret (v := .tuple #[StV g ws.length cap (i + 1 : Nat) d m a 0, .agg #[.int .i64 3, .bool false, .int .i64 0, .float .f64 x.f, .string ⟨#[]⟩, .slice none 0 0], .bool true]) (by simp [results, Tryd.results64, go_sem]) rfl ⟨rfl, by
    repeat (with_reducible first | exact Below.refl _ _ | refine Below.setCell ?_ (by simp) _ | refine Below.drew ?_ | refine Below.alloc ?_ (by simp <;> omega) _)⟩

set_option maxHeartbeats 4000000 in
set_option maxRecDepth 100000 in
theorem val_str {w : World} {g cap : Nat} {ws : List Wd} {i : Nat} {x : Wd} (hw : WdsAt w g ws) (hx : ws[i]? = some x) (hn : ws.length ≤ 1501) (d m a : Int) (hk : x.k = 4) :
    Calls Tryd.prog 64 #[StV g ws.length cap i d m a 0] w fun z w' => z = .returned (.tuple #[StV g ws.length cap (i + 1 : Nat) d m a 0, .agg #[.int .i64 4, .bool false, .int .i64 0, .float .f64 0, .string x.s, .slice none 0 0], .bool true]) ∧ Below w.heap.size w w' := by
  obtain ⟨e0, e1, e2, e3, e4, hi⟩ := hw.word hx
  have hi' : (i : Int) < (ws.length : Int) := by omega
  have hgl := hw.lt
  have hgl1 : g < w.heap.size + 1 := by omega
  have hgl2 : g < w.heap.size + 1 + 1 := by omega
  have hgl3 : g < w.heap.size + 1 + 1 + 1 := by omega
  have hgl4 : g < w.heap.size + 1 + 1 + 1 + 1 := by omega
  have hw64 : wrap64 ((i : Int) + 1) = ((i + 1 : Nat) : Int) := by
    rw [wrap64_id (is64_iff.2 (by omega))]; omega
  rw [hk] at e0
  clear hw hx hi
  go_enter Tryd.func64, Tryd.ntmps64
  go_wp2_with fail
  go_region
  go_wp2_with fail
  exact bodyPost_ret (v := .tuple #[StV g ws.length cap (i + 1 : Nat) d m a 0, .agg #[.int .i64 4, .bool false, .int .i64 0, .float .f64 0, .string x.s, .slice none 0 0], .bool true]) (by simp [results, Tryd.results64, go_sem]) rfl ⟨rfl, by
    repeat (with_reducible first | exact Below.refl _ _ | refine Below.setCell ?_ (by simp) _ | refine Below.drew ?_ | refine Below.alloc ?_ (by simp <;> omega) _)⟩

set_option maxHeartbeats 4000000 in
set_option maxRecDepth 100000 in
theorem val_true {w : World} {g cap : Nat} {ws : List Wd} {i : Nat} {x : Wd} (hw : WdsAt w g ws) (hx : ws[i]? = some x) (hn : ws.length ≤ 1501) (d m a : Int) (hk : x.k = 1) (ht : (x.s.toList == [116, 114, 117, 101]) = true) :
    Calls Tryd.prog 64 #[StV g ws.length cap i d m a 0] w fun z w' => z = .returned (.tuple #[StV g ws.length cap (i + 1 : Nat) d m a 0, .agg #[.int .i64 1, .bool true, .int .i64 0, .float .f64 0, .string ⟨#[]⟩, .slice none 0 0], .bool true]) ∧ Below w.heap.size w w' := by
  obtain ⟨e0, e1, e2, e3, e4, hi⟩ := hw.word hx
  have hi' : (i : Int) < (ws.length : Int) := by omega
  have hgl := hw.lt
  have hgl1 : g < w.heap.size + 1 := by omega
  have hgl2 : g < w.heap.size + 1 + 1 := by omega
  have hgl3 : g < w.heap.size + 1 + 1 + 1 := by omega
  have hgl4 : g < w.heap.size + 1 + 1 + 1 + 1 := by omega
  have hw64 : wrap64 ((i : Int) + 1) = ((i + 1 : Nat) : Int) := by
    rw [wrap64_id (is64_iff.2 (by omega))]; omega
  rw [hk] at e0
  clear hw hx hi
  go_enter Tryd.func64, Tryd.ntmps64
  go_wp2_with fail
  go_region
  go_wp2_with fail
  exact bodyPost_ret (v := .tuple #[StV g ws.length cap (i + 1 : Nat) d m a 0, .agg #[.int .i64 1, .bool true, .int .i64 0, .float .f64 0, .string ⟨#[]⟩, .slice none 0 0], .bool true]) (by simp [results, Tryd.results64, go_sem]) rfl ⟨rfl, by
    repeat (with_reducible first | exact Below.refl _ _ | refine Below.setCell ?_ (by simp) _ | refine Below.drew ?_ | refine Below.alloc ?_ (by simp <;> omega) _)⟩

set_option maxHeartbeats 4000000 in
set_option maxRecDepth 100000 in
theorem val_false {w : World} {g cap : Nat} {ws : List Wd} {i : Nat} {x : Wd} (hw : WdsAt w g ws) (hx : ws[i]? = some x) (hn : ws.length ≤ 1501) (d m a : Int) (hk : x.k = 1) (ht : (x.s.toList == [116, 114, 117, 101]) = false) (hf : (x.s.toList == [102, 97, 108, 115, 101]) = true) :
    Calls Tryd.prog 64 #[StV g ws.length cap i d m a 0] w fun z w' => z = .returned (.tuple #[StV g ws.length cap (i + 1 : Nat) d m a 0, .agg #[.int .i64 1, .bool false, .int .i64 0, .float .f64 0, .string ⟨#[]⟩, .slice none 0 0], .bool true]) ∧ Below w.heap.size w w' := by
  obtain ⟨e0, e1, e2, e3, e4, hi⟩ := hw.word hx
  have hi' : (i : Int) < (ws.length : Int) := by omega
  have hgl := hw.lt
  have hgl1 : g < w.heap.size + 1 := by omega
  have hgl2 : g < w.heap.size + 1 + 1 := by omega
  have hgl3 : g < w.heap.size + 1 + 1 + 1 := by omega
  have hgl4 : g < w.heap.size + 1 + 1 + 1 + 1 := by omega
  have hw64 : wrap64 ((i : Int) + 1) = ((i + 1 : Nat) : Int) := by
    rw [wrap64_id (is64_iff.2 (by omega))]; omega
  rw [hk] at e0
  clear hw hx hi
  go_enter Tryd.func64, Tryd.ntmps64
  go_wp2_with fail
  go_region
  go_wp2_with fail
  exact bodyPost_ret (v := .tuple #[StV g ws.length cap (i + 1 : Nat) d m a 0, .agg #[.int .i64 1, .bool false, .int .i64 0, .float .f64 0, .string ⟨#[]⟩, .slice none 0 0], .bool true]) (by simp [results, Tryd.results64, go_sem]) rfl ⟨rfl, by
    repeat (with_reducible first | exact Below.refl _ _ | refine Below.setCell ?_ (by simp) _ | refine Below.drew ?_ | refine Below.alloc ?_ (by simp <;> omega) _)⟩

set_option maxHeartbeats 4000000 in
set_option maxRecDepth 100000 in
theorem val_null {w : World} {g cap : Nat} {ws : List Wd} {i : Nat} {x : Wd} (hw : WdsAt w g ws) (hx : ws[i]? = some x) (hn : ws.length ≤ 1501) (d m a : Int) (hk : x.k = 1) (ht : (x.s.toList == [116, 114, 117, 101]) = false) (hf : (x.s.toList == [102, 97, 108, 115, 101]) = false) (hz : (x.s.toList == [110, 117, 108, 108]) = true) :
    Calls Tryd.prog 64 #[StV g ws.length cap i d m a 0] w fun z w' => z = .returned (.tuple #[StV g ws.length cap (i + 1 : Nat) d m a 0, .agg #[.int .i64 0, .bool false, .int .i64 0, .float .f64 0, .string ⟨#[]⟩, .slice none 0 0], .bool true]) ∧ Below w.heap.size w w' := by
  obtain ⟨e0, e1, e2, e3, e4, hi⟩ := hw.word hx
  have hi' : (i : Int) < (ws.length : Int) := by omega
  have hgl := hw.lt
  have hgl1 : g < w.heap.size + 1 := by omega
  have hgl2 : g < w.heap.size + 1 + 1 := by omega
  have hgl3 : g < w.heap.size + 1 + 1 + 1 := by omega
  have hgl4 : g < w.heap.size + 1 + 1 + 1 + 1 := by omega
  have hw64 : wrap64 ((i : Int) + 1) = ((i + 1 : Nat) : Int) := by
    rw [wrap64_id (is64_iff.2 (by omega))]; omega
  rw [hk] at e0
  clear hw hx hi
  go_enter Tryd.func64, Tryd.ntmps64
  go_wp2_with fail
  go_region
  go_wp2_with fail
  exact bodyPost_ret (v := .tuple #[StV g ws.length cap (i + 1 : Nat) d m a 0, .agg #[.int .i64 0, .bool false, .int .i64 0, .float .f64 0, .string ⟨#[]⟩, .slice none 0 0], .bool true]) (by simp [results, Tryd.results64, go_sem]) rfl ⟨rfl, by
    repeat (with_reducible first | exact Below.refl _ _ | refine Below.setCell ?_ (by simp) _ | refine Below.drew ?_ | refine Below.alloc ?_ (by simp <;> omega) _)⟩

set_option maxHeartbeats 4000000 in
set_option maxRecDepth 100000 in
theorem val_er (g n cap : Nat) (i d m a e : Int) (he : e ≠ 0) (w : World) :
    Calls Tryd.prog 64 #[StV g n cap i d m a e] w fun z w' => z = .returned (.tuple #[StV g n cap i d m a e, .agg #[.int .i64 0, .bool false, .int .i64 0, .float .f64 0, .string ⟨#[]⟩, .slice none 0 0], .bool false]) ∧ Below w.heap.size w w' := by
  have h1 : (e == 0) = false := by simpa using he
  have h2 : (e != 0) = true := by simpa using he
  clear he
  go_enter Tryd.func64, Tryd.ntmps64
  go_wp2_with fail
  exact bodyPost_ret (v := .tuple #[StV g n cap i d m a e, .agg #[.int .i64 0, .bool false, .int .i64 0, .float .f64 0, .string ⟨#[]⟩, .slice none 0 0], .bool false]) (by simp [results, Tryd.results64, go_sem]) rfl ⟨rfl, by
    repeat (with_reducible first | exact Below.refl _ _ | refine Below.setCell ?_ (by simp) _ | refine Below.drew ?_ | refine Below.alloc ?_ (by simp <;> omega) _)⟩

end Go.Proofs.YtgmjhoppjjjilaaDoor

/- the document's parser: what is no value -/
namespace Go.Proofs.YtgmjhoppjjjilaaDoor
open Go.ChangeShapes Go.WideShapes Go.ChangeAt Go.RowKit Go.Fl
open Go.Shelf

theorem isL_of2 (x : Wd) (l : List UInt8) : (x.s.toList == l) = isL x l := by unfold isL; rw [Lib.toList_data]

set_option maxHeartbeats 4000000 in
set_option maxRecDepth 100000 in
theorem val_no {w : World} {g cap : Nat} {ws : List Wd} {i : Nat} {x : Wd} (hw : WdsAt w g ws) (hx : ws[i]? = some x) (d m a : Int) (hv : valA x = false) :
    Calls Tryd.prog 64 #[StV g ws.length cap i d m a 0] w fun z w' => z = .returned (.tuple #[StV g ws.length cap i d m a 0, .agg #[.int .i64 0, .bool false, .int .i64 0, .float .f64 0, .string ⟨#[]⟩, .slice none 0 0], .bool false]) ∧ Below w.heap.size w w' := by
  obtain ⟨e0, e1, e2, e3, e4, hi⟩ := hw.word hx
  have hi' : (i : Int) < (ws.length : Int) := by omega
  have hgl := hw.lt
  have hgl1 : g < w.heap.size + 1 := by omega
  have hgl2 : g < w.heap.size + 1 + 1 := by omega
  have hgl3 : g < w.heap.size + 1 + 1 + 1 := by omega
  have hgl4 : g < w.heap.size + 1 + 1 + 1 + 1 := by omega
  have hv2 : x.k ≠ 2 ∧ x.k ≠ 3 ∧ x.k ≠ 4 ∧ isSgn x 91 = false ∧ (x.k = 1 → isL x txTrue = false ∧ isL x txFalse = false ∧ isL x txNull = false) := by
    unfold valA at hv
    simp only [Bool.or_eq_false_iff, decide_eq_false_iff_not, Bool.and_eq_false_iff] at hv
    obtain ⟨⟨⟨⟨h1, h2⟩, h3⟩, h4⟩, h5⟩ := hv
    refine ⟨h1, h2, h3, h5, fun hk => ?_⟩
    rcases h4 with h4 | h4
    · exact absurd hk h4
    · exact ⟨h4.1.1, h4.1.2, h4.2⟩
  obtain ⟨h2, h3, h4, h5, h1⟩ := hv2
  have d2 : (x.k == 2) = false := by simpa using h2
  have d3 : (x.k == 3) = false := by simpa using h3
  have d4 : (x.k == 4) = false := by simpa using h4
  have HC := Lib.hid (chain5 w (.cells #[.slice (some ⟨g, 0, none⟩) ws.length cap, .int .i64 i, .int .i64 d, .int .i64 m, .int .i64 a, .int .i64 0] 63) (.cells #[.slice none 0 0, .int .i64 0, .int .i64 0, .int .i64 0, .int .i64 0, .int .i64 0] 63) (.cells #[.int .i64 0, .bool false, .int .i64 0, .float .f64 0, .string ⟨#[]⟩, .slice none 0 0] 25) (.cells #[.int .i64 x.k, .string x.s, .int .i64 x.n, .float .f64 x.f, .int .i64 (x.at_ : Nat)] 65) (.cells #[.int .i64 0, .bool false, .int .i64 0, .float .f64 0, .string ⟨#[]⟩, .slice none 0 0] 25))
  have HI := Lib.hid (fun W (hb : Below w.heap.size w W) => is_ok (cap := cap) (hw.on hb) hx d m a 91)
  rw [h5] at HI
  by_cases hk : x.k = 1
  · obtain ⟨t1, t2, t3⟩ := h1 hk
    rw [← isL_of2] at t1 t2 t3
    unfold txTrue at t1; unfold txFalse at t2; unfold txNull at t3
    rw [hk] at e0 HC
    clear hw hx hi h1 h2 h3 h4 h5 hv d2 d3 d4 hk
    go_enter Tryd.func64, Tryd.ntmps64
    go_wp2_with fail
    refine (HI.out _ HC.out.2.2.2.2.2.2).mono ?_
    rintro e w1 ⟨rfl, hb1⟩
    obtain ⟨p1, p2, p3, -, p5, zW, bW⟩ := HC.out
    have q1 := (hb1.block w.heap.size (by rw [zW]; omega)).trans p1
    have q2 := (hb1.block (w.heap.size + 1) (by rw [zW]; omega)).trans p2
    have q3 := (hb1.block (w.heap.size + 1 + 1) (by rw [zW]; omega)).trans p3
    have q5 := (hb1.block (w.heap.size + 1 + 1 + 1 + 1) (by rw [zW]; omega)).trans p5
    have HB := Lib.hid (bW.trans (hb1.mono bW.size))
    clear p1 p2 p3 p5 zW bW hb1
    obtain ⟨⟨x0, x1, x2, x3, x4, x5⟩, -, l1⟩ := six_cells q1
    obtain ⟨⟨y0, y1, y2, y3, y4, y5⟩, ⟨f0, f1, f2, f3, f4, f5⟩, l2⟩ := six_cells q2
    obtain ⟨⟨z0, z1, z2, z3, z4, z5⟩, ⟨g0, g1, g2, g3, g4, g5⟩, l3⟩ := six_cells q3
    obtain ⟨⟨v0, v1, v2, v3, v4, v5⟩, -, l5⟩ := six_cells q5
    go_wp2_with fail
    go_region
    go_wp2_with fail
    obtain ⟨r, s⟩ := two_six q2 q3 (by omega) (.slice (some ⟨g, 0, none⟩) ws.length cap) (.int .i64 i) (.int .i64 d) (.int .i64 m) (.int .i64 a) (.int .i64 0) (.int .i64 0) (.bool false) (.int .i64 0) (.float .f64 0) (.string ⟨#[]⟩) (.slice none 0 0)
    obtain ⟨⟨r0, r1, r2, r3, r4, r5⟩, -, -⟩ := six_cells r
    obtain ⟨⟨s0, s1, s2, s3, s4, s5⟩, -, -⟩ := six_cells s
    exact bodyPost_ret (v := .tuple #[StV g ws.length cap i d m a 0, .agg #[.int .i64 0, .bool false, .int .i64 0, .float .f64 0, .string ⟨#[]⟩, .slice none 0 0], .bool false]) (by simp [results, Tryd.results64, go_sem, r0, r1, r2, r3, r4, r5, s0, s1, s2, s3, s4, s5]) rfl ⟨rfl, by
      repeat (with_reducible first | exact HB.out | refine Below.setCell ?_ (by simp <;> omega) _ | refine Below.drew ?_)⟩
  · have d1 : (x.k == 1) = false := by simpa using hk
    clear hw hx hi h1 h2 h3 h4 h5 hv hk
    go_enter Tryd.func64, Tryd.ntmps64
    go_wp2_with fail
    refine (HI.out _ HC.out.2.2.2.2.2.2).mono ?_
    rintro e w1 ⟨rfl, hb1⟩
    obtain ⟨p1, p2, p3, -, p5, zW, bW⟩ := HC.out
    have q1 := (hb1.block w.heap.size (by rw [zW]; omega)).trans p1
    have q2 := (hb1.block (w.heap.size + 1) (by rw [zW]; omega)).trans p2
    have q3 := (hb1.block (w.heap.size + 1 + 1) (by rw [zW]; omega)).trans p3
    have q5 := (hb1.block (w.heap.size + 1 + 1 + 1 + 1) (by rw [zW]; omega)).trans p5
    have HB := Lib.hid (bW.trans (hb1.mono bW.size))
    clear p1 p2 p3 p5 zW bW hb1
    obtain ⟨⟨x0, x1, x2, x3, x4, x5⟩, -, l1⟩ := six_cells q1
    obtain ⟨⟨y0, y1, y2, y3, y4, y5⟩, ⟨f0, f1, f2, f3, f4, f5⟩, l2⟩ := six_cells q2
    obtain ⟨⟨z0, z1, z2, z3, z4, z5⟩, ⟨g0, g1, g2, g3, g4, g5⟩, l3⟩ := six_cells q3
    obtain ⟨⟨v0, v1, v2, v3, v4, v5⟩, -, l5⟩ := six_cells q5
    go_wp2_with fail
    go_region
    go_wp2_with fail
    obtain ⟨r, s⟩ := two_six q2 q3 (by omega) (.slice (some ⟨g, 0, none⟩) ws.length cap) (.int .i64 i) (.int .i64 d) (.int .i64 m) (.int .i64 a) (.int .i64 0) (.int .i64 0) (.bool false) (.int .i64 0) (.float .f64 0) (.string ⟨#[]⟩) (.slice none 0 0)
    obtain ⟨⟨r0, r1, r2, r3, r4, r5⟩, -, -⟩ := six_cells r
    obtain ⟨⟨s0, s1, s2, s3, s4, s5⟩, -, -⟩ := six_cells s
    exact bodyPost_ret (v := .tuple #[StV g ws.length cap i d m a 0, .agg #[.int .i64 0, .bool false, .int .i64 0, .float .f64 0, .string ⟨#[]⟩, .slice none 0 0], .bool false]) (by simp [results, Tryd.results64, go_sem, r0, r1, r2, r3, r4, r5, s0, s1, s2, s3, s4, s5]) rfl ⟨rfl, by
      repeat (with_reducible first | exact HB.out | refine Below.setCell ?_ (by simp <;> omega) _ | refine Below.drew ?_)⟩

end Go.Proofs.YtgmjhoppjjjilaaDoor
