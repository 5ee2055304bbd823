/- SrF -/
import Derived.Test.YtgmjhoppjjjilaaDoorQ36
import Derived.Test.YtgmjhoppjjjilaaDoorQ39
import Derived.Deep.RegionHeld3

/- show: the document's Pred -/
namespace Go.Proofs.YtgmjhoppjjjilaaDoor
open Go.ChangeShapes Go.WideShapes Go.ChangeAt Go.RowKit Go.Fl
open Go.Shelf

/-- a predicate is told by the document -/
def RPT (x : Pd) : Prop := ∀ (w : World) (v : Value), RdP w (fun q => q < w.heap.size) x v → (shPd x).length ≤ 99999999000 →
  Calls Tryd.prog 13 #[v] w fun z w' => z = .returned (.string (ofL (shPd x))) ∧ Below w.heap.size w w'

theorem p3_keep {X w1 w2 : World} {b : Nat} {v0 v1 v2 : Value} (hb : Below w1.heap.size w1 w2) (h : (w1.cell? ⟨b, 0, none⟩ = some v0 ∧ w1.cell? ⟨b, 1, none⟩ = some v1 ∧ w1.cell? ⟨b, 2, none⟩ = some v2) ∧ Below X.heap.size X w1) :
    (w2.cell? ⟨b, 0, none⟩ = some v0 ∧ w2.cell? ⟨b, 1, none⟩ = some v1 ∧ w2.cell? ⟨b, 2, none⟩ = some v2) ∧ Below X.heap.size X w2 := by
  obtain ⟨⟨h0, h1, h2⟩, h3⟩ := h
  have k : ∀ {p : Addr} {u : Value}, w1.cell? p = some u → w2.cell? p = some u := fun h => (hb.cell (World.block_lt_of_cell? w1 _ h)).trans h
  exact ⟨⟨k h0, k h1, k h2⟩, h3.trans (hb.mono h3.size)⟩

theorem p9_keep {X w1 w2 : World} {b g : Nat} {v0 v1 v2 u0 u1 u2 u3 u4 u5 : Value} (hb : Below w1.heap.size w1 w2) (h : (w1.cell? ⟨b, 0, none⟩ = some v0 ∧ w1.cell? ⟨b, 1, none⟩ = some v1 ∧ w1.cell? ⟨b, 2, none⟩ = some v2) ∧ (w1.cell? ⟨g, 0, none⟩ = some u0 ∧ w1.cell? ⟨g, 1, none⟩ = some u1 ∧ w1.cell? ⟨g, 2, none⟩ = some u2 ∧ w1.cell? ⟨g, 3, none⟩ = some u3 ∧ w1.cell? ⟨g, 4, none⟩ = some u4 ∧ w1.cell? ⟨g, 5, none⟩ = some u5) ∧ Below X.heap.size X w1) :
    (w2.cell? ⟨b, 0, none⟩ = some v0 ∧ w2.cell? ⟨b, 1, none⟩ = some v1 ∧ w2.cell? ⟨b, 2, none⟩ = some v2) ∧ (w2.cell? ⟨g, 0, none⟩ = some u0 ∧ w2.cell? ⟨g, 1, none⟩ = some u1 ∧ w2.cell? ⟨g, 2, none⟩ = some u2 ∧ w2.cell? ⟨g, 3, none⟩ = some u3 ∧ w2.cell? ⟨g, 4, none⟩ = some u4 ∧ w2.cell? ⟨g, 5, none⟩ = some u5) ∧ Below X.heap.size X w2 := by
  obtain ⟨⟨h0, h1, h2⟩, ⟨k0, k1, k2, k3, k4, k5⟩, h3⟩ := h
  have k : ∀ {p : Addr} {u : Value}, w1.cell? p = some u → w2.cell? p = some u := fun h => (hb.cell (World.block_lt_of_cell? w1 _ h)).trans h
  exact ⟨⟨k h0, k h1, k h2⟩, ⟨k k0, k k1, k k2, k k3, k k4, k k5⟩, h3.trans (hb.mono h3.size)⟩

theorem rd_on {w w' : World} {p : Pd} {v : Value} (h : RdP w (fun q => q < w.heap.size) p v) (hb : Below w.heap.size w w') : RdP w' (fun q => q < w'.heap.size) p v :=
  keepS_Pd _ _ _ _ _ _ (fun _ hp => hb.cell hp) (fun _ hq => Nat.lt_of_lt_of_le hq hb.size) h

set_option maxHeartbeats 4000000 in
set_option maxRecDepth 100000 in
theorem rpt_neg {op : ByteArray} {l : List T} {a1 : Pd} (h0 : op.data.toList = [110, 111, 116]) (iha : RPT a1) : RPT (.mk op l [a1]) := by
  intro w v hr hlen
  obtain ⟨A, c, B, d, rfl, hl, hk⟩ := hr.look
  rw [show ([a1] : List Pd).length = 1 from rfl] at hk ⊢
  obtain ⟨X, hX⟩ : ∃ X, w.alloc (.cells #[.string op, .slice A l.length c, .slice B 1 d] 38) = X := ⟨_, rfl⟩
  have hbX : Below w.heap.size w X := hX ▸ (Below.refl _ w).alloc (Nat.le_refl _) _
  have zX : X.heap[w.heap.size]? = some (.cells #[.string op, .slice A l.length c, .slice B 1 d] 38 (0, 0)) := hX ▸ heap_alloc_new w _
  have hT := toL op
  obtain ⟨hrow, -, hdc, hdm⟩ := hk.rowA
  have hrowX : RowA RdP 3 X (fun q => q < X.heap.size) [a1] B := RowA.keep keepS_Pd (S := fun q => q < w.heap.size) (fun p hp => hbX.cell hp) (fun _ hq => Nat.lt_of_lt_of_le hq hbX.size) hrow
  rcases hk with ⟨hk0, -⟩ | ⟨g, dd, hkg, -, -, hgb, -⟩
  · cases hk0
  injection hkg with e1 e2 e3
  subst e1; subst e3
  clear hrow e2
  obtain ⟨a0, kop, kLA, kll, klc, kKA, kkl, kkc, ha0, -, hr0, q0, q1, q2⟩ := hrowX.itemP (i := 0) (Nat.succ_pos _)
  obtain rfl : a0 = ⟨g, 0, none⟩ := (Option.some.inj ha0).symm
  rw [show (⟨g, 0, none⟩ : Addr).add (0 * 3) = ⟨g, 0, none⟩ from rfl] at q0 q1 q2
  have b1 : (op.toList == [110, 111, 116]) = true := by rw [hT, h0]; rfl
  have b2 : (op.toList == [97, 110, 100]) = false := by rw [hT, h0]; decide
  have b3 : (op.toList == [111, 114]) = false := by rw [hT, h0]; decide
  have hlen1 : (shPd a1).length + 9 ≤ 99999999000 := by
    rw [shPd, List.length_append] at hlen
    have : txNgt.length = 9 := rfl
    omega
  have HT : Hid (shPd (.mk op l [a1]) = shPd a1 ++ txNgt) := Lib.hid (by rw [shPd])
  have HP := Lib.hid (iha X _ hr0 (by omega))
  obtain ⟨Y, hY⟩ : ∃ Y, shPd a1 = Y := ⟨_, rfl⟩
  rw [hY] at HP HT hlen1
  have hc : ∀ W, (Op.stringOp .add (ofL Y) ⟨#[46, 110, 101, 103, 97, 116, 101, 40, 41]⟩).run Tryd.prog W = .ok (.string (ofL (Y ++ txNgt))) W := fun W => ofL_addC Y txNgt (by show _ + 9 ≤ _; omega) W
  obtain ⟨⟨x0, x1, x2⟩, xl⟩ := three_cells zX
  have HB := Lib.hid hbX; have HX := Lib.hid hX
  clear hr hl hrowX hr0 hT hbX zX hlen iha hX ha0 h0 hY hlen1
  go_enter Tryd.func13, Tryd.ntmps13
  go_upto_region 1 with fail
  rw [HX.out]
  go_wp2_with fail
  refine HP.out.mono ?_
  rintro e w1 ⟨rfl, hb1⟩
  have HB1 := Lib.hid (HB.out.trans (hb1.mono HB.out.size))
  clear hb1
  go_wp2_with fail
  go_ret
  exact ⟨by rw [HT.out]; rfl, HB1.out⟩

set_option maxHeartbeats 4000000 in
set_option maxRecDepth 100000 in
theorem rpt_plain {op : ByteArray} {l : List T} (hop : prdN op.data.toList ≠ none) (hsm : smTs' l) : RPT (.mk op l []) := by
  intro w v hr hlen
  obtain ⟨A, c, B, d, rfl, hl, hk⟩ := hr.look
  rw [show ([] : List Pd).length = 0 from rfl] at hk ⊢
  obtain ⟨X, hX⟩ : ∃ X, w.alloc (.cells #[.string op, .slice A l.length c, .slice B 0 d] 38) = X := ⟨_, rfl⟩
  have hbX : Below w.heap.size w X := hX ▸ (Below.refl _ w).alloc (Nat.le_refl _) _
  have zX : X.heap[w.heap.size]? = some (.cells #[.string op, .slice A l.length c, .slice B 0 d] 38 (0, 0)) := hX ▸ heap_alloc_new w _
  have hT := toL op
  obtain ⟨LA, lc, hle, -, hlm, -, hvl⟩ := hl.vals
  injection hle with e1 e2 e3
  subst e1; subst e3
  have hno : ∀ t, prdN t = none → (op.toList == t) = false := fun t ht => by
    rw [hT, beq_eq_false_iff_ne]
    exact fun e => hop (e ▸ ht)
  have b1 : (op.toList == [110, 111, 116]) = false := hno _ (by decide)
  have b2 : (op.toList == [97, 110, 100]) = false := hno _ (by decide)
  have b3 : (op.toList == [111, 114]) = false := hno _ (by decide)
  have hshl : shPd (.mk op l []) = op.data.toList ++ (40 :: (shTs l ++ [41])) := by rw [shPd]
  have hlm2 := sh_count l
  have hlen1 : op.size + (shTs l).length + 2 ≤ 99999999000 := by
    rw [hshl, List.length_append, List.length_cons, List.length_append, List.length_singleton, len_list] at hlen
    omega
  have HRV := Lib.hid (fun W (hb : Below X.heap.size X W) => rvals_val (cap := c) (l := l) (w := W) (fun i hi => rvalue_any (smTs_get hsm _ (List.getElem_mem hi))) (RdSL.keepS (S := fun q => q < w.heap.size) (fun p hp => (hb.cell (Nat.lt_of_lt_of_le hp hbX.size)).trans (hbX.cell hp)) (fun _ hq => Nat.lt_of_lt_of_le hq (Nat.le_trans hbX.size hb.size)) hvl) (by rw [← shTs_join]; omega) (by omega))
  rw [← shTs_join] at HRV
  obtain ⟨Y, hY⟩ : ∃ Y, shTs l = Y := ⟨_, rfl⟩
  rw [hY] at HRV hshl hlen1
  have HT := Lib.hid hshl
  have hc1 : ∀ W, (Op.stringOp .add op ⟨#[40]⟩).run Tryd.prog W = .ok (.string (ofL (op.data.toList ++ [40]))) W := fun W => by
    have := ofL_addC (P := Tryd.prog) op.data.toList [40] (by rw [len_list]; show _ + 1 ≤ _; omega) W
    rw [ofL_list] at this
    exact this
  have hc2 : ∀ W, (Op.stringOp .add (ofL (op.data.toList ++ [40])) (ofL Y)).run Tryd.prog W = .ok (.string (ofL (op.data.toList ++ [40] ++ Y))) W := fun W => ofL_addC _ Y (by rw [List.length_append, len_list]; show _ + 1 + _ ≤ _; omega) W
  have hc3 : ∀ W, (Op.stringOp .add (ofL (op.data.toList ++ [40] ++ Y)) ⟨#[41]⟩).run Tryd.prog W = .ok (.string (ofL (op.data.toList ++ [40] ++ Y ++ [41]))) W := fun W => ofL_addC _ [41] (by rw [List.length_append, List.length_append, len_list]; show _ + 1 + _ + 1 ≤ _; omega) W
  obtain ⟨N1, hN1⟩ : ∃ N, ofL (op.data.toList ++ [40]) = N := ⟨_, rfl⟩
  obtain ⟨N2, hN2⟩ : ∃ N, ofL (op.data.toList ++ [40] ++ Y) = N := ⟨_, rfl⟩
  rw [hN1] at hc1 hc2
  rw [hN2] at hc2 hc3
  obtain ⟨⟨x0, x1, x2⟩, xl⟩ := three_cells zX
  have HB := Lib.hid hbX; have HX := Lib.hid hX
  clear hr hl hT hbX zX hlen hX hY hlen1 hvl hk hno hop hsm hlm2 hshl e2 hN1 hN2
  go_enter Tryd.func13, Tryd.ntmps13
  go_upto_region 1 with fail
  rw [HX.out]
  go_wp2_with fail
  have hBX := Below.refl X.heap.size X
  go_region_held3 (fun w' => (w'.cell? ⟨w.heap.size, 0, none⟩ = some (.string op) ∧ w'.cell? ⟨w.heap.size, 1, none⟩ = some (.slice A l.length c) ∧ w'.cell? ⟨w.heap.size, 2, none⟩ = some (.slice B 0 d)) ∧ Below X.heap.size X w')
    (first | (exact p3_keep ((Below.refl X.heap.size X).drew) ⟨⟨x0, x1, x2⟩, hBX⟩) | (exact p3_keep (by assumption) (by assumption)))
    (first | (go_at_call 25; (with_reducible refine (HRV.out _ ?hh).mono ?_); (case hh => first | exact (Below.refl _ _).drew | (go_split_ands; assumption)); rintro e wn ⟨rfl, hbn⟩))
  all_goals
    go_wp2_with fail
    go_ret
    exact ⟨by rw [HT.out]; simp, HB.out.trans ((And.right (by assumption) : Below X.heap.size X _).mono HB.out.size)⟩

set_option maxHeartbeats 4000000 in
set_option maxRecDepth 100000 in
theorem rpt_join {op : ByteArray} {l : List T} {a1 a2 : Pd} (h0' : op.data.toList = [97, 110, 100] ∨ op.data.toList = [111, 114]) (iha : RPT a1) (ihb : RPT a2) : RPT (.mk op l [a1, a2]) := by
  intro w v hr hlen
  obtain ⟨A, c, B, d, rfl, hl, hk⟩ := hr.look
  rw [show ([a1, a2] : List Pd).length = 2 from rfl] at hk ⊢
  obtain ⟨X, hX⟩ : ∃ X, w.alloc (.cells #[.string op, .slice A l.length c, .slice B 2 d] 38) = X := ⟨_, rfl⟩
  have hbX : Below w.heap.size w X := hX ▸ (Below.refl _ w).alloc (Nat.le_refl _) _
  have zX : X.heap[w.heap.size]? = some (.cells #[.string op, .slice A l.length c, .slice B 2 d] 38 (0, 0)) := hX ▸ heap_alloc_new w _
  have hT := toL op
  obtain ⟨hrow, -, hdc, hdm⟩ := hk.rowA
  have hrowX : RowA RdP 3 X (fun q => q < X.heap.size) [a1, a2] B := RowA.keep keepS_Pd (S := fun q => q < w.heap.size) (fun p hp => hbX.cell hp) (fun _ hq => Nat.lt_of_lt_of_le hq hbX.size) hrow
  rcases hk with ⟨hk0, -⟩ | ⟨g, dd, hkg, -, -, hgb, -⟩
  · cases hk0
  injection hkg with e1 e2 e3
  subst e1; subst e3
  clear hrow e2
  obtain ⟨a0, kop, kLA, kll, klc, kKA, kkl, kkc, ha0, -, hr0, q0, q1, q2⟩ := hrowX.itemP (i := 0) (Nat.succ_pos _)
  obtain rfl : a0 = ⟨g, 0, none⟩ := (Option.some.inj ha0).symm
  rw [show (⟨g, 0, none⟩ : Addr).add (0 * 3) = ⟨g, 0, none⟩ from rfl] at q0 q1 q2
  obtain ⟨b0, jop, jLA, jll, jlc, jKA, jkl, jkc, hb0, -, hr1, p0, p1, p2⟩ := hrowX.itemP (i := 1) (Nat.succ_lt_succ (Nat.succ_pos _))
  obtain rfl : b0 = ⟨g, 0, none⟩ := (Option.some.inj hb0).symm
  rw [show (⟨g, 0, none⟩ : Addr).add (1 * 3) = ⟨g, 3, none⟩ from rfl] at p0 p1 p2
  have hol : op.size ≤ 3 := by
    rw [← len_list op]
    rcases h0' with h | h
    · rw [h]; decide
    · rw [h]; decide
  have hshl : shPd (.mk op l [a1, a2]) = shPd a1 ++ (46 :: op.data.toList) ++ (40 :: (shPd a2 ++ [41])) := by rw [shPd]
  have hlen1 : (shPd a1).length + op.size + (shPd a2).length + 3 ≤ 99999999000 := by
    rw [hshl] at hlen
    simp only [List.length_append, List.length_cons, List.length_nil, len_list] at hlen
    omega
  have HP1 := Lib.hid (fun W (hb : Below X.heap.size X W) => iha W _ (rd_on hr0 hb) (by omega))
  have HP2 := Lib.hid (fun W (hb : Below X.heap.size X W) => ihb W _ (rd_on hr1 hb) (by omega))
  obtain ⟨Y, hY⟩ : ∃ Y, shPd a1 = Y := ⟨_, rfl⟩
  obtain ⟨Z, hZ⟩ : ∃ Z, shPd a2 = Z := ⟨_, rfl⟩
  rw [hY] at HP1 hshl hlen1
  rw [hZ] at HP2 hshl hlen1
  have HT := Lib.hid hshl
  have hc1 : ∀ W, (Op.stringOp .add (ofL Y) ⟨#[46]⟩).run Tryd.prog W = .ok (.string (ofL (Y ++ [46]))) W := fun W => ofL_addC Y [46] (by show _ + 1 ≤ _; omega) W
  have hc2 : ∀ W, (Op.stringOp .add (ofL (Y ++ [46])) op).run Tryd.prog W = .ok (.string (ofL (Y ++ [46] ++ op.data.toList))) W := fun W => by
    have := ofL_addC (P := Tryd.prog) (Y ++ [46]) op.data.toList (by rw [List.length_append, len_list]; show _ + 1 + _ ≤ _; omega) W
    rw [ofL_list] at this
    exact this
  have hc3 : ∀ W, (Op.stringOp .add (ofL (Y ++ [46] ++ op.data.toList)) ⟨#[40]⟩).run Tryd.prog W = .ok (.string (ofL (Y ++ [46] ++ op.data.toList ++ [40]))) W := fun W => ofL_addC _ [40] (by rw [List.length_append, List.length_append, len_list]; show _ + 1 + _ + 1 ≤ _; omega) W
  have hc4 : ∀ W, (Op.stringOp .add (ofL (Y ++ [46] ++ op.data.toList ++ [40])) (ofL Z)).run Tryd.prog W = .ok (.string (ofL (Y ++ [46] ++ op.data.toList ++ [40] ++ Z))) W := fun W => ofL_addC _ Z (by rw [List.length_append, List.length_append, List.length_append, len_list]; show _ + 1 + _ + 1 + _ ≤ _; omega) W
  have hc5 : ∀ W, (Op.stringOp .add (ofL (Y ++ [46] ++ op.data.toList ++ [40] ++ Z)) ⟨#[41]⟩).run Tryd.prog W = .ok (.string (ofL (Y ++ [46] ++ op.data.toList ++ [40] ++ Z ++ [41]))) W := fun W => ofL_addC _ [41] (by rw [List.length_append, List.length_append, List.length_append, List.length_append, len_list]; show _ + 1 + _ + 1 + _ + 1 ≤ _; omega) W
  obtain ⟨N0, hN0⟩ : ∃ N, ofL Y = N := ⟨_, rfl⟩
  obtain ⟨M0, hM0⟩ : ∃ N, ofL Z = N := ⟨_, rfl⟩
  obtain ⟨N1, hN1⟩ : ∃ N, ofL (Y ++ [46]) = N := ⟨_, rfl⟩
  obtain ⟨N2, hN2⟩ : ∃ N, ofL (Y ++ [46] ++ op.data.toList) = N := ⟨_, rfl⟩
  obtain ⟨N3, hN3⟩ : ∃ N, ofL (Y ++ [46] ++ op.data.toList ++ [40]) = N := ⟨_, rfl⟩
  obtain ⟨N4, hN4⟩ : ∃ N, ofL (Y ++ [46] ++ op.data.toList ++ [40] ++ Z) = N := ⟨_, rfl⟩
  obtain ⟨N5, hN5⟩ : ∃ N, ofL (Y ++ [46] ++ op.data.toList ++ [40] ++ Z ++ [41]) = N := ⟨_, rfl⟩
  rw [hN0] at HP1 hc1
  rw [hM0] at HP2 hc4
  rw [hN1] at hc1 hc2
  rw [hN2] at hc2 hc3
  rw [hN3] at hc3 hc4
  rw [hN4] at hc4 hc5
  rw [hN5] at hc5
  have HN : Hid (N5 = ofL (shPd (.mk op l [a1, a2]))) := Lib.hid (by rw [HT.out, ← hN5]; simp)
  obtain ⟨⟨x0, x1, x2⟩, xl⟩ := three_cells zX
  have HB := Lib.hid hbX; have HX := Lib.hid hX
  have hBX := Below.refl X.heap.size X
  clear hr hl hrowX hr0 hr1 hbX zX hlen iha ihb hX ha0 hb0 hY hZ hlen1 hshl hN0 hM0 hN1 hN2 hN3 hN4 hN5 hol hdc hdm
  rcases h0' with h0 | h0
  all_goals
    first
      | (have b1 : (op.toList == [97, 110, 100]) = true := by rw [hT, h0]; rfl)
      | (have b2 : (op.toList == [97, 110, 100]) = false := by rw [hT, h0]; decide)
    try (have b3 : (op.toList == [111, 114]) = true := by rw [hT, h0]; rfl)
    clear h0 hT
    go_enter Tryd.func13, Tryd.ntmps13
    go_upto_region 1 with fail
    rw [HX.out]
    go_wp2_with fail
    go_region_held3 (fun w' => (w'.cell? ⟨w.heap.size, 0, none⟩ = some (.string op) ∧ w'.cell? ⟨w.heap.size, 1, none⟩ = some (.slice A l.length c) ∧ w'.cell? ⟨w.heap.size, 2, none⟩ = some (.slice (some ⟨g, 0, none⟩) 2 d)) ∧ (w'.cell? ⟨g, 0, none⟩ = some (.string kop) ∧ w'.cell? ⟨g, 1, none⟩ = some (.slice kLA kll klc) ∧ w'.cell? ⟨g, 2, none⟩ = some (.slice kKA kkl kkc) ∧ w'.cell? ⟨g, 3, none⟩ = some (.string jop) ∧ w'.cell? ⟨g, 4, none⟩ = some (.slice jLA jll jlc) ∧ w'.cell? ⟨g, 5, none⟩ = some (.slice jKA jkl jkc)) ∧ Below X.heap.size X w')
      (first | (exact p9_keep ((Below.refl X.heap.size X).drew) ⟨⟨x0, x1, x2⟩, ⟨q0, q1, q2, p0, p1, p2⟩, hBX⟩) | (exact p9_keep (by assumption) (by assumption)))
      (first | (go_at_call 13; (first | (with_reducible refine (HP1.out _ ?hh).mono ?_) | (with_reducible refine (HP2.out _ ?hh).mono ?_)); (case hh => first | exact (Below.refl _ _).drew | (go_split_ands; assumption)); rintro e wn ⟨rfl, hbn⟩))
    all_goals
      go_wp2_with fail
      go_ret
      exact ⟨by rw [← HN.out]; rfl, HB.out.trans ((And.right (And.right (by assumption)) : Below X.heap.size X _).mono HB.out.size)⟩

/-- predicates of parsers are told by the document as they are -/
theorem rpred_told {p : Pd} (h : Pgd p) : RPT p := by
  induction h with
  | plain h hl => exact rpt_plain h hl
  | join h _ _ ha hb => exact rpt_join h ha hb
  | neg h _ ha => exact rpt_neg h ha

end Go.Proofs.YtgmjhoppjjjilaaDoor
