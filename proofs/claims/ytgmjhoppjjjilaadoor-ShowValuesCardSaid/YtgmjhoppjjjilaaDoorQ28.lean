/- SpL -/
import Derived.Test.YtgmjhoppjjjilaaDoorQ27

/- the document's parser: arg (written by tools/laws13l.py) -/
namespace Go.Proofs.YtgmjhoppjjjilaaDoor
open Go.ChangeShapes Go.WideShapes Go.ChangeAt Go.RowKit Go.Fl
open Go.Shelf

/-- what a call's own boxes are: a zero state and a zero argument -/
def Fr3 (w X : World) : Prop := Below w.heap.size w X ∧ X.heap[w.heap.size + 1]? = some (.cells #[.slice none 0 0, .int .i64 0, .int .i64 0, .int .i64 0, .int .i64 0, .int .i64 0] 63 (0, 0)) ∧ X.heap[w.heap.size + 1 + 1]? = some (.cells #[.int .i64 0, .int .i64 0, .bool false, .int .i64 0, .float .f64 0, .string ⟨#[]⟩, .slice none 0 0, .string ⟨#[]⟩, .slice none 0 0, .slice none 0 0, .slice none 0 0] 40 (0, 0)) ∧ w.heap.size + 3 ≤ X.heap.size

theorem Fr3.on {w X Y : World} (h : Fr3 w X) (hb : Below X.heap.size X Y) : Fr3 w Y := by
  obtain ⟨h1, h2, h3, h4⟩ := h
  exact ⟨h1.trans (hb.mono h1.size), (hb.block _ (Array.getElem?_eq_some_iff.1 h2).1).trans h2, (hb.block _ (Array.getElem?_eq_some_iff.1 h3).1).trans h3, Nat.le_trans h4 hb.size⟩

theorem Fr3.only {w X Y : World} (h : Fr3 w X) (ho : Only (fun b => b = w.heap.size) X Y) : Fr3 w Y := by
  obtain ⟨h1, h2, h3, h4⟩ := h
  exact ⟨h1.trans (ho.below h1.size (fun b hb => by omega)), (ho.block _ (Array.getElem?_eq_some_iff.1 h2).1 (by omega)).trans h2, (ho.block _ (Array.getElem?_eq_some_iff.1 h3).1 (by omega)).trans h3, Nat.le_trans h4 ho.size⟩

theorem fr3_new (w : World) (cs : Array Value) : Fr3 w (((w.alloc (.cells cs 63)).alloc (.cells #[.slice none 0 0, .int .i64 0, .int .i64 0, .int .i64 0, .int .i64 0, .int .i64 0] 63)).alloc (.cells #[.int .i64 0, .int .i64 0, .bool false, .int .i64 0, .float .f64 0, .string ⟨#[]⟩, .slice none 0 0, .string ⟨#[]⟩, .slice none 0 0, .slice none 0 0, .slice none 0 0] 40)) ∧
    (((w.alloc (.cells cs 63)).alloc (.cells #[.slice none 0 0, .int .i64 0, .int .i64 0, .int .i64 0, .int .i64 0, .int .i64 0] 63)).alloc (.cells #[.int .i64 0, .int .i64 0, .bool false, .int .i64 0, .float .f64 0, .string ⟨#[]⟩, .slice none 0 0, .string ⟨#[]⟩, .slice none 0 0, .slice none 0 0, .slice none 0 0] 40)).heap[w.heap.size]? = some (.cells cs 63 (0, 0)) := by
  obtain ⟨h1, h2, h3, h4, h5⟩ := chain3 w (.cells cs 63) (.cells #[.slice none 0 0, .int .i64 0, .int .i64 0, .int .i64 0, .int .i64 0, .int .i64 0] 63) (.cells #[.int .i64 0, .int .i64 0, .bool false, .int .i64 0, .float .f64 0, .string ⟨#[]⟩, .slice none 0 0, .string ⟨#[]⟩, .slice none 0 0, .slice none 0 0, .slice none 0 0] 40)
  exact ⟨⟨h5, h2, h3, by omega⟩, h1⟩

section
variable {G : Nat → Wd} {k : Nat} {t : Ps → Rs (List Sp)} {s : Ps}

theorem argA_val {x : Wd} (h : valA x = true) : argA x = true := by unfold argA; rw [h, Bool.or_true]

theorem argA_nam {x : Wd} (h : x.k = 1) : argA x = true := by unfold argA; rw [decide_eq_true h, Bool.true_or]

theorem rArg_val (h : valA (G s.i) = true) : rArg G k t s = match pVal G k s with | .bad i e => .bad i e | .ok v s' => .ok (.mk 1 v pz []) s' := by
  unfold rArg
  rw [if_neg (by rw [argA_val h]; decide), if_pos h]
  rfl

theorem rArg_pred (h1 : (G s.i).k = 1) (h : valA (G s.i) = false) (hp : prdA (G s.i) = true) (ho : isSgn (G (s.i + 1)) 40 = true) : rArg G k t s = match rPred G k s with | none => .bad s.i 120 | some (p, s') => .ok (.mk 2 vz p []) s' := by
  unfold rArg
  rw [if_neg (by rw [argA_nam h1]; decide), if_neg (by rw [h]; decide), if_pos (by rw [hp, ho]; rfl)]
  rfl

theorem rArg_word (h1 : (G s.i).k = 1) (h : valA (G s.i) = false) (hu : isL (G s.i) txUU = false) (ho : isSgn (G (s.i + 1)) 40 = false) : rArg G k t s = .ok (.mk 4 (.mk 4 false 0 0 (G s.i).s []) pz []) ⟨s.i + 1, s.n⟩ := by
  unfold rArg
  rw [if_neg (by rw [argA_nam h1]; decide), if_neg (by rw [h]; decide), if_neg (by rw [ho, Bool.and_false]; decide), if_pos (by rw [hu, ho]; rfl)]

theorem rArg_trav (h1 : (G s.i).k = 1) (h : valA (G s.i) = false) (hp : (prdA (G s.i) && isSgn (G (s.i + 1)) 40) = false) (hu : isL (G s.i) txUU = true ∨ isSgn (G (s.i + 1)) 40 = true) : rArg G k t s = match t s with | .bad i e => .bad i e | .ok l s' => .ok (.mk 3 vz pz l) s' := by
  unfold rArg
  rw [if_neg (by rw [argA_nam h1]; decide), if_neg (by rw [h]; decide), if_neg (by rw [hp]; decide), if_neg (by rcases hu with h | h <;> rw [h] <;> simp)]
  rfl

theorem rArg_none (h1 : (G s.i).k ≠ 1) (h : valA (G s.i) = false) : rArg G k t s = .bad s.i 120 := by
  unfold rArg
  rw [if_pos (by unfold argA; rw [decide_eq_false h1, h]; rfl)]

end

set_option maxHeartbeats 4000000 in
set_option maxRecDepth 100000 in
theorem arg_val {w : World} {g cap : Nat} {ws : List Wd} {i d k m : Nat} {x : Wd} (hG : Gd ws) (hC : CanW ws) (hw : WdsAt w g ws) (hx : ws[i]? = some x) (hdk : d + k = 12) (a : Int) (hv : valA x = true) :
    Calls Tryd.prog 46 #[StV g ws.length cap i d m a 0] w (ArgP g cap ws k i d m a w) := by
  have hgl := hw.lt
  have HC := Lib.hid (fr3_new w #[.slice (some ⟨g, 0, none⟩) ws.length cap, .int .i64 i, .int .i64 d, .int .i64 m, .int .i64 a, .int .i64 0])
  have HV := Lib.hid (fun W (hb : Below w.heap.size w W) => val_all (cap := cap) hG hC k W i d m a x (hw.on hb) hx hdk)
  have HG := Lib.hid (And.intro (gx_of hx) hv)
  clear hw hx hdk hG hC hv
  go_enter Tryd.func46, Tryd.ntmps46
  go_wp2_with fail
  refine (HV.out _ HC.out.1.1).mono ?_
  rintro e w1 ⟨i3, d3, m3, a3, e3, kk, bb, nn, ff, ss, lA, ll, lc, okf, rfl, hb1, hor⟩
  have hF1 := HC.out.1.on hb1
  have hs1 : w.heap.size + 3 ≤ w1.heap.size := hF1.2.2.2
  obtain ⟨X2, hX2⟩ : ∃ X, (w1.alloc (.cells #[.slice (some ⟨g, 0, none⟩) ws.length cap, .int .i64 i3, .int .i64 d3, .int .i64 m3, .int .i64 a3, .int .i64 e3] 63)).alloc (.cells #[.int .i64 kk, .bool bb, .int .i64 nn, .float .f64 ff, .string ss, .slice lA ll lc] 25) = X := ⟨_, rfl⟩
  have hb2 : Below w1.heap.size w1 X2 := hX2 ▸ ((Below.refl _ w1).alloc (Nat.le_refl _) _).alloc (by simp) _
  have z4 : X2.heap[w1.heap.size]? = some (.cells #[.slice (some ⟨g, 0, none⟩) ws.length cap, .int .i64 i3, .int .i64 d3, .int .i64 m3, .int .i64 a3, .int .i64 e3] 63 (0, 0)) := hX2 ▸ two_a' w1 _ _
  have z5 : X2.heap[w1.heap.size + 1]? = some (.cells #[.int .i64 kk, .bool bb, .int .i64 nn, .float .f64 ff, .string ss, .slice lA ll lc] 25 (0, 0)) := hX2 ▸ two_b' w1 _ _
  have hF2 := hF1.on hb2
  obtain ⟨⟨xa0, xa1, xa2, xa3, xa4, xa5⟩, -, xal⟩ := six_cells z4
  obtain ⟨⟨xb0, xb1, xb2, xb3, xb4, xb5⟩, -, xbl⟩ := six_cells z5
  have h0 : okf = true ∨ (okf = false ∧ (e3 != 0) = true) := by
    rcases hor with ⟨h, -⟩ | ⟨-, h, -⟩ | ⟨h, -, -, h2⟩
    · exact .inl h
    · rw [HG.out.2] at h; cases h
    · exact .inr ⟨h, by simpa using h2⟩
  have HOr := Lib.hid (And.intro hor (And.intro hb1 hb2))
  have HF2 := Lib.hid hF2
  clear hor hb1 hb2 hF1 hF2 z4 z5
  rcases h0 with rfl | ⟨rfl, h1⟩
  all_goals
    obtain ⟨bF, q2F, q3F, szF⟩ := HF2.out
    obtain ⟨⟨y0', y1', y2', y3', y4', y5'⟩, ⟨yf0, yf1, yf2, yf3, yf4, yf5⟩, yl'⟩ := six_cells q2F
    obtain ⟨⟨n0', n1', n2', n3', n4', n5', n6', n7', n8', n9', n10'⟩, nf, nl'⟩ := ele_cells q3F
    have nf0 := nf 0; have nf1 := nf 1; have nf2 := nf 2; have nf3 := nf 3; have nf4 := nf 4; have nf5 := nf 5; have nf6 := nf 6; have nf7 := nf 7; have nf8 := nf 8; have nf9 := nf 9; have nf10 := nf 10
    obtain ⟨rr, rs⟩ := six_ele q2F q3F (by omega) (.slice (some ⟨g, 0, none⟩) ws.length cap) (.int .i64 i3) (.int .i64 d3) (.int .i64 m3) (.int .i64 a3) (.int .i64 e3) (.int .i64 1) (.int .i64 kk) (.bool bb) (.int .i64 nn) (.float .f64 ff) (.string ss) (.slice lA ll lc) (.string ⟨#[]⟩) (.slice none 0 0) (.slice none 0 0) (.slice none 0 0)
    obtain ⟨FF, hFF⟩ : ∃ FF, ((((((((((((((((((X2).setCell ⟨w.heap.size + 1, 0, none⟩ (.slice (some ⟨g, 0, none⟩) ws.length cap)).setCell ⟨w.heap.size + 1, 1, none⟩ (.int .i64 i3)).setCell ⟨w.heap.size + 1, 2, none⟩ (.int .i64 d3)).setCell ⟨w.heap.size + 1, 3, none⟩ (.int .i64 m3)).setCell ⟨w.heap.size + 1, 4, none⟩ (.int .i64 a3)).setCell ⟨w.heap.size + 1, 5, none⟩ (.int .i64 e3)).setCell ⟨w.heap.size + 1 + 1, 0, none⟩ (.int .i64 1)).setCell ⟨w.heap.size + 1 + 1, 1, none⟩ (.int .i64 kk)).setCell ⟨w.heap.size + 1 + 1, 2, none⟩ (.bool bb)).setCell ⟨w.heap.size + 1 + 1, 3, none⟩ (.int .i64 nn)).setCell ⟨w.heap.size + 1 + 1, 4, none⟩ (.float .f64 ff)).setCell ⟨w.heap.size + 1 + 1, 5, none⟩ (.string ss)).setCell ⟨w.heap.size + 1 + 1, 6, none⟩ (.slice lA ll lc)).setCell ⟨w.heap.size + 1 + 1, 7, none⟩ (.string ⟨#[]⟩)).setCell ⟨w.heap.size + 1 + 1, 8, none⟩ (.slice none 0 0)).setCell ⟨w.heap.size + 1 + 1, 9, none⟩ (.slice none 0 0)).setCell ⟨w.heap.size + 1 + 1, 10, none⟩ (.slice none 0 0)) = FF := ⟨_, rfl⟩
    rw [hFF] at rr rs
    have hFs : FF.heap.size = X2.heap.size := by rw [← hFF]; simp [World.setCell]
    have hFk : ∀ q, w.heap.size + 1 + 1 < q → FF.heap[q]? = X2.heap[q]? := fun q h1 => by
      rw [← hFF]
      exact (ele_far (by omega) _ _ _ _ _ _ _ _ _ _ _).trans (six_far (by omega) _ _ _ _ _ _)
    have hFb : Below w.heap.size w FF := by
      rw [← hFF]
      repeat (with_reducible first | exact bF | refine Below.setCell ?_ (by simp <;> omega) _)
    obtain ⟨⟨f0', f1', f2', f3', f4', f5'⟩, -, -⟩ := six_cells rr
    obtain ⟨⟨g0', g1', g2', g3', g4', g5', g6', g7', g8', g9', g10'⟩, -, -⟩ := ele_cells rs
    have HEnd : Hid (Below w.heap.size w FF.drew ∧ ∀ q, w.heap.size + 3 ≤ q → FF.drew.heap[q]? = X2.heap[q]?) := Lib.hid ⟨hFb.drew, fun q h => hFk q (by omega)⟩
    have HEs : Hid (FF.drew.heap.size = X2.heap.size) := Lib.hid hFs
    clear rr rs hFs hFk hFb q2F q3F bF nf szF
    go_wp2_with fail
    go_region
    go_wp2_with fail
    refine bodyPost_ret (v := .tuple #[.agg #[.slice (some ⟨g, 0, none⟩) ws.length cap, .int .i64 i3, .int .i64 d3, .int .i64 m3, .int .i64 a3, .int .i64 e3], .agg #[.int .i64 1, .int .i64 kk, .bool bb, .int .i64 nn, .float .f64 ff, .string ss, .slice lA ll lc, .string ⟨#[]⟩, .slice none 0 0, .slice none 0 0, .slice none 0 0]]) (by simp [results, Tryd.results46, go_sem, f0', f1', f2', f3', f4', f5', g0', g1', g2', g3', g4', g5', g6', g7', g8', g9', g10']) rfl ?_
    refine ⟨_, _, _, _, _, _, _, _, _, _, _, _, _, _, _, _, _, _, _, _, _, _, _, _, rfl, HEnd.out.1, ?_⟩
    have hgx := HG.out.1
    have hva : valA (gx ws (Ps.mk i m).i) = true := by show valA (gx ws i) = true; rw [hgx]; exact HG.out.2
    obtain ⟨hor, hb1, hb2⟩ := HOr.out
    have hsz := HC.out.1.2.2.2
    rcases hor with ⟨-, -, t, s, hp, rfl, hlt, rfl, rfl, rfl, rfl, hrd⟩ | ⟨-, h, -⟩ | ⟨-, -, ⟨j, c, hp⟩, he⟩
    · refine .inl ⟨.mk 1 t pz [], s, by rw [rArg_val hva, hp], rfl, hlt, rfl, rfl, rfl, rfl, _, _, _, _, _, _, _, _, _, _, rfl, keepS_T _ _ _ _ _ _ (fun q hq => World.cell?_of_block ((HEnd.out.2 q.block (by have := hq.1; omega)).trans (hb2.block _ hq.2))) (fun b hb => ⟨by have := hb.1; omega, by rw [HEs.out]; exact Nat.lt_of_lt_of_le hb.2 hb2.size⟩) hrd, rdP_nil _ _, rdTr_nil _ _ _⟩
    · rw [HG.out.2] at h; cases h
    · exact .inr ⟨⟨j, c, by rw [rArg_val hva, hp]⟩, he⟩


theorem five_cells {w : World} {b : Nat} {T : TypeId} {x0 x1 x2 x3 x4 : Value} (h : w.heap[b]? = some (.cells #[x0, x1, x2, x3, x4] T (0, 0))) : (w.cell? ⟨b, 0, none⟩ = some x0 ∧ w.cell? ⟨b, 1, none⟩ = some x1 ∧ w.cell? ⟨b, 2, none⟩ = some x2 ∧ w.cell? ⟨b, 3, none⟩ = some x3 ∧ w.cell? ⟨b, 4, none⟩ = some x4) ∧ b < w.heap.size := by
  refine ⟨⟨?_, ?_, ?_, ?_, ?_⟩, (Array.getElem?_eq_some_iff.1 h).1⟩
  all_goals (rw [cell_of_row _ _ _ _ _ _ h]; rfl)

theorem rTrav0_none {G : Nat → Wd} {k : Nat} {s : Ps} (h : (G s.i).k ≠ 1) : ∃ j c, rTrav0 G k s = .bad j c := by
  cases k with
  | zero => exact ⟨_, _, rfl⟩
  | succ k =>
    refine ⟨s.i, 120, ?_⟩
    rw [rTrav0]
    unfold pChain pStep
    rw [if_pos h]


set_option maxHeartbeats 4000000 in
set_option maxRecDepth 100000 in
theorem arg_nam {w : World} {g cap : Nat} {ws : List Wd} {i d k m : Nat} {x : Wd} (hG : Gd ws) (hC : CanW ws) (hS : ∀ q, k = q + 1 → StepsC g cap ws q) (hE : ∀ (i d m a e : Int) (W : World), e ≠ 0 → Calls Tryd.prog 28 #[StV g ws.length cap i d m a e] W (fun z w' => ∃ lA ll lc, z = .returned (.tuple #[StV g ws.length cap i d m a e, .slice lA ll lc]) ∧ Below W.heap.size W w'))
    (hw : WdsAt w g ws) (hx : ws[i]? = some x) (hdk : d + k = 12) (hm : m ≤ 150) (a : Int) (hv : valA x = false) (hk : x.k = 1) :
    Calls Tryd.prog 46 #[StV g ws.length cap i d m a 0] w (ArgP g cap ws k i d m a w) := by
  obtain ⟨e0, e1, e2, e3, e4, hi⟩ := hw.word hx
  have hi' : (i : Int) < (ws.length : Int) := by omega
  have hgl := hw.lt
  have HC := Lib.hid (fr3_new w #[.slice (some ⟨g, 0, none⟩) ws.length cap, .int .i64 i, .int .i64 d, .int .i64 m, .int .i64 a, .int .i64 0])
  have HV := Lib.hid (fun W (hb : Below w.heap.size w W) => val_no (cap := cap) (hw.on hb) hx d m a hv)

  obtain ⟨y, hy⟩ := hG.next hx (by rw [hk]; decide)
  have hi2 := (List.getElem?_eq_some_iff.1 hy).1
  have hi2' : (i : Int) + 1 < (ws.length : Int) := by omega
  have hnat : ((i : Int) + 1).toNat = i + 1 := by omega
  have hw64 : wrap64 ((i : Int) + 1) = (i : Int) + 1 := by
    have := hG.few
    rw [wrap64_id (is64_iff.2 (by omega))]
  obtain ⟨many, hmany⟩ : ∃ z, (prdN x.s.data.toList).getD (-1) = z := ⟨_, rfl⟩
  obtain ⟨pr, hpr⟩ : ∃ z, (prdN x.s.data.toList).isSome = z := ⟨_, rfl⟩
  obtain ⟨op, hop⟩ : ∃ z, isSgn y 40 = z := ⟨_, rfl⟩
  obtain ⟨uu, huu⟩ : ∃ z, (x.s.toList == [95, 95]) = z := ⟨_, rfl⟩
  have HPd : Hid (∀ W, Calls Tryd.prog 65 #[.string x.s] W fun z w' => z = .returned (.tuple #[.int .i64 many, .bool pr]) ∧ Below W.heap.size W w') := Lib.hid (fun W => by
    have h := preds_any x.s W
    unfold PrdsP at h
    rw [hmany, hpr] at h
    exact h)
  have HB := Lib.hid (And.intro hpr (And.intro hop (show isL x txUU = uu from by rw [← huu]; exact (isL_of2 x txUU).symm)))
  have HH := Lib.hid (And.intro hw (And.intro hx (And.intro hy (And.intro hdk (And.intro hm (And.intro hv hk))))))
  rw [hk] at e0
  clear hpr hop hy hk hmany

  have HG := Lib.hid hG; have HCan := Lib.hid hC; have HS := Lib.hid hS; have HE := Lib.hid hE
  clear hw hx hdk hm hv hi hG hC hS hE
  go_enter Tryd.func46, Tryd.ntmps46
  go_wp2_with fail
  refine (HV.out _ HC.out.1.1).mono ?_
  rintro e w1 ⟨rfl, hb1⟩
  have hF1 := HC.out.1.on hb1
  have hs1 : w.heap.size + 3 ≤ w1.heap.size := hF1.2.2.2
  have z1 : SB w1 w.heap.size g ws.length cap i d m a 0 := (hb1.block w.heap.size (by have := HC.out.1.2.2.2; omega)).trans HC.out.2
  obtain ⟨X2, hX2⟩ : ∃ X, (w1.alloc (.cells #[.slice (some ⟨g, 0, none⟩) ws.length cap, .int .i64 i, .int .i64 d, .int .i64 m, .int .i64 a, .int .i64 0] 63)).alloc (.cells #[.int .i64 0, .bool false, .int .i64 0, .float .f64 0, .string ⟨#[]⟩, .slice none 0 0] 25) = X := ⟨_, rfl⟩
  have hb2 : Below w1.heap.size w1 X2 := hX2 ▸ ((Below.refl _ w1).alloc (Nat.le_refl _) _).alloc (by simp) _
  have z4 : X2.heap[w1.heap.size]? = some (.cells #[.slice (some ⟨g, 0, none⟩) ws.length cap, .int .i64 i, .int .i64 d, .int .i64 m, .int .i64 a, .int .i64 0] 63 (0, 0)) := hX2 ▸ two_a' w1 _ _
  have z2 := z1.on hb2
  have hF2 := hF1.on hb2
  obtain ⟨u0, u1, u2, u3, u4, -⟩ := (HH.out.1.on hF2.1).word HH.out.2.1
  obtain ⟨⟨xa0, xa1, xa2, xa3, xa4, xa5⟩, -, xal⟩ := six_cells z4
  obtain ⟨⟨xb0, xb1, xb2, xb3, xb4, xb5⟩, -, xbl⟩ := z2.cells
  have HX2 := Lib.hid hX2
  rw [HH.out.2.2.2.2.2.2] at u0

  obtain ⟨X3, hX3⟩ : ∃ X, X2.alloc (.cells #[.int .i64 1, .string x.s, .int .i64 x.n, .float .f64 x.f, .int .i64 (x.at_ : Nat)] 65) = X := ⟨_, rfl⟩
  have hb3 : Below X2.heap.size X2 X3 := hX3 ▸ (Below.refl _ X2).alloc (Nat.le_refl _) _
  have z7 : X3.heap[X2.heap.size]? = some (.cells #[.int .i64 1, .string x.s, .int .i64 x.n, .float .f64 x.f, .int .i64 (x.at_ : Nat)] 65 (0, 0)) := hX3 ▸ heap_alloc_new X2 _
  have z3 := z2.on hb3
  have hF3 := hF2.on hb3
  obtain ⟨⟨xc0, xc1, xc2, xc3, xc4⟩, xcl⟩ := five_cells z7
  obtain ⟨⟨xd0, xd1, xd2, xd3, xd4, xd5⟩, -, xdl⟩ := z3.cells

  obtain ⟨v0, v1, v2, v3, v4, -⟩ := (HH.out.1.on hF3.1).word HH.out.2.2.1
  obtain ⟨X4, hX4⟩ : ∃ X, X3.alloc (.cells #[.int .i64 y.k, .string y.s, .int .i64 y.n, .float .f64 y.f, .int .i64 (y.at_ : Nat)] 65) = X := ⟨_, rfl⟩
  have hb4 : Below X3.heap.size X3 X4 := hX4 ▸ (Below.refl _ X3).alloc (Nat.le_refl _) _
  have z8 : X4.heap[X3.heap.size]? = some (.cells #[.int .i64 y.k, .string y.s, .int .i64 y.n, .float .f64 y.f, .int .i64 (y.at_ : Nat)] 65 (0, 0)) := hX4 ▸ heap_alloc_new X3 _
  have z44 := z3.on hb4
  have hF4 := hF3.on hb4
  have z74 := (hb4.block _ xcl).trans z7
  obtain ⟨⟨xe0, xe1, xe2, xe3, xe4⟩, xel⟩ := five_cells z8
  have HX4 := Lib.hid (And.intro z44 (And.intro hF4 z74))
  have hSB : Hid (w.heap.size + 3 ≤ X2.heap.size) := Lib.hid hF2.2.2.2
  clear hX2 hb1 hF1 z1 hb2 z4 z2 hF2 hb3 z7 z3 hF3 hb4 z8 z44 hF4 z74
  go_upto_region 2 with fail
  rw [HX2.out]
  go_upto_region 7 with fail
  go_cut [9] from 47 to 54 (fun v wx => v = .bool op ∧ Hid (SB wx w.heap.size g ws.length cap i d m a 0 ∧ Fr3 w wx ∧ wx.heap[X2.heap.size]? = some (.cells #[.int .i64 1, .string x.s, .int .i64 x.n, .float .f64 x.f, .int .i64 (x.at_ : Nat)] 65 (0, 0))))
  case first =>
    have hop := HB.out.2.1
    by_cases hk5 : y.k = 5
    · have d5 : (y.k == 5) = true := by simpa using hk5
      have HZ : Hid ((y.s.toList == [40]) = op) := Lib.hid (by rw [← hop]; unfold isSgn isL; rw [decide_eq_true hk5, Lib.toList_data]; rfl)
      clear hk5 hop
      go_wp2_with fail
      go_meet
      exact ⟨by rw [HZ.out], HX4⟩
    · have d5 : (y.k == 5) = false := by simpa using hk5
      have HZ : Hid (op = false) := Lib.hid (by rw [← hop]; unfold isSgn; rw [decide_eq_false hk5]; rfl)
      clear hk5 hop
      go_wp2_with fail
      go_meet
      exact ⟨by rw [HZ.out], HX4⟩
  case rest =>
    obtain ⟨rfl, HX⟩ := hcut
    rename World => w4
    clear xa0 xa1 xa2 xa3 xa4 xa5 xal xb0 xb1 xb2 xb3 xb4 xb5 xbl xc0 xc1 xc2 xc3 xc4 xcl xd0 xd1 xd2 xd3 xd4 xd5 xdl xe0 xe1 xe2 xe3 xe4 xel u0 u1 u2 u3 u4 v0 v1 v2 v3 v4 e0 e1 e2 e3 e4 hX3 hX4
    obtain ⟨⟨xb0, xb1, xb2, xb3, xb4, xb5⟩, -, xbl⟩ := HX.out.1.cells
    obtain ⟨⟨xc0, xc1, xc2, xc3, xc4⟩, xcl⟩ := five_cells HX.out.2.2
    go_wp2_with fail
    refine (HPd.out _).mono ?_
    rintro e w5 ⟨rfl, hb5⟩
    have z5 := HX.out.1.on hb5
    have hF5 := HX.out.2.1.on hb5
    have z75 := (hb5.block _ xcl).trans HX.out.2.2
    have hwd5 := HH.out.1.on hF5.1
    have hs5 : w.heap.size + 3 ≤ w5.heap.size := hF5.2.2.2
    obtain ⟨⟨ya0, ya1, ya2, ya3, ya4, ya5⟩, yaf, yal⟩ := z5.cells
    have yaf1 := yaf 1
    obtain ⟨⟨yb0, yb1, yb2, yb3, yb4⟩, ybl⟩ := five_cells z75
    have H5 := Lib.hid (And.intro z5 (And.intro hF5 (And.intro z75 hwd5)))
    clear hb5 z5 hF5 z75 hwd5 yaf
    have HDK := Lib.hid HH.out.2.2.2.1; have HM := Lib.hid HH.out.2.2.2.2.1
    have HSB : Hid (w.heap.size + 3 ≤ X2.heap.size) := hSB
    cases op with
    | true =>
      cases pr with
      | true =>
        have hpc := pred_any (cap := cap) HG.out HCan.out k w5 i d m a x H5.out.2.2.2 HH.out.2.1 HH.out.2.2.2.1
        have HPC := Lib.hid hpc
        clear hpc
        go_wp2_with fail
        refine HPC.out.mono ?_
        rintro e w6 ⟨i3, d3, m3, a3, e3, opq, lB, lbl, lbc, kB, kbl, kbc, rfl, hb6, hor6⟩
        have hF6 := H5.out.2.1.on hb6
        have hs6 : w.heap.size + 3 ≤ w6.heap.size := hF6.2.2.2
        obtain ⟨X7, hX7⟩ : ∃ X, (w6.alloc (.cells #[.slice (some ⟨g, 0, none⟩) ws.length cap, .int .i64 i3, .int .i64 d3, .int .i64 m3, .int .i64 a3, .int .i64 e3] 63)).alloc (.cells #[.string opq, .slice lB lbl lbc, .slice kB kbl kbc] 38) = X := ⟨_, rfl⟩
        have hb7 : Below w6.heap.size w6 X7 := hX7 ▸ ((Below.refl _ w6).alloc (Nat.le_refl _) _).alloc (by simp) _
        have z12 : X7.heap[w6.heap.size]? = some (.cells #[.slice (some ⟨g, 0, none⟩) ws.length cap, .int .i64 i3, .int .i64 d3, .int .i64 m3, .int .i64 a3, .int .i64 e3] 63 (0, 0)) := hX7 ▸ two_a' w6 _ _
        have z13 : X7.heap[w6.heap.size + 1]? = some (.cells #[.string opq, .slice lB lbl lbc, .slice kB kbl kbc] 38 (0, 0)) := hX7 ▸ two_b' w6 _ _
        obtain ⟨⟨yc0, yc1, yc2, yc3, yc4, yc5⟩, -, ycl⟩ := six_cells z12
        obtain ⟨⟨yd0, yd1, yd2⟩, -, ydl⟩ := tri_cells z13
        have HF7 := Lib.hid (hF6.on hb7)
        have HOr := Lib.hid (And.intro hor6 (And.intro hb6 hb7))
        clear hor6 hb6 hb7 hF6 z12 z13

        obtain ⟨bF, q2F, q3F, szF⟩ := HF7.out
        obtain ⟨⟨y0', y1', y2', y3', y4', y5'⟩, ⟨yf0, yf1, yf2, yf3, yf4, yf5⟩, yl'⟩ := six_cells q2F
        obtain ⟨⟨n0', n1', n2', n3', n4', n5', n6', n7', n8', n9', n10'⟩, nf, nl'⟩ := ele_cells q3F
        have nf0 := nf 0; have nf1 := nf 1; have nf2 := nf 2; have nf3 := nf 3; have nf4 := nf 4; have nf5 := nf 5; have nf6 := nf 6; have nf7 := nf 7; have nf8 := nf 8; have nf9 := nf 9; have nf10 := nf 10
        obtain ⟨rr, rs⟩ := six_ele q2F q3F (by omega) (.slice (some ⟨g, 0, none⟩) ws.length cap) (.int .i64 i3) (.int .i64 d3) (.int .i64 m3) (.int .i64 a3) (.int .i64 e3) (.int .i64 2) (.int .i64 0) (.bool false) (.int .i64 0) (.float .f64 0) (.string ⟨#[]⟩) (.slice none 0 0) (.string opq) (.slice lB lbl lbc) (.slice kB kbl kbc) (.slice none 0 0)
        obtain ⟨FF, hFF⟩ : ∃ FF, ((((((((((((((((((X7).setCell ⟨w.heap.size + 1, 0, none⟩ (.slice (some ⟨g, 0, none⟩) ws.length cap)).setCell ⟨w.heap.size + 1, 1, none⟩ (.int .i64 i3)).setCell ⟨w.heap.size + 1, 2, none⟩ (.int .i64 d3)).setCell ⟨w.heap.size + 1, 3, none⟩ (.int .i64 m3)).setCell ⟨w.heap.size + 1, 4, none⟩ (.int .i64 a3)).setCell ⟨w.heap.size + 1, 5, none⟩ (.int .i64 e3)).setCell ⟨w.heap.size + 1 + 1, 0, none⟩ (.int .i64 2)).setCell ⟨w.heap.size + 1 + 1, 1, none⟩ (.int .i64 0)).setCell ⟨w.heap.size + 1 + 1, 2, none⟩ (.bool false)).setCell ⟨w.heap.size + 1 + 1, 3, none⟩ (.int .i64 0)).setCell ⟨w.heap.size + 1 + 1, 4, none⟩ (.float .f64 0)).setCell ⟨w.heap.size + 1 + 1, 5, none⟩ (.string ⟨#[]⟩)).setCell ⟨w.heap.size + 1 + 1, 6, none⟩ (.slice none 0 0)).setCell ⟨w.heap.size + 1 + 1, 7, none⟩ (.string opq)).setCell ⟨w.heap.size + 1 + 1, 8, none⟩ (.slice lB lbl lbc)).setCell ⟨w.heap.size + 1 + 1, 9, none⟩ (.slice kB kbl kbc)).setCell ⟨w.heap.size + 1 + 1, 10, none⟩ (.slice none 0 0)) = FF := ⟨_, rfl⟩
        rw [hFF] at rr rs
        have hFs : FF.heap.size = X7.heap.size := by rw [← hFF]; simp [World.setCell]
        have hFk : ∀ q, w.heap.size + 1 + 1 < q → FF.heap[q]? = X7.heap[q]? := fun q h1 => by
          rw [← hFF]
          exact (ele_far (by omega) _ _ _ _ _ _ _ _ _ _ _).trans (six_far (by omega) _ _ _ _ _ _)
        have hFb : Below w.heap.size w FF := by
          rw [← hFF]
          repeat (with_reducible first | exact bF | refine Below.setCell ?_ (by simp <;> omega) _)
        obtain ⟨⟨f0', f1', f2', f3', f4', f5'⟩, -, -⟩ := six_cells rr
        obtain ⟨⟨g0', g1', g2', g3', g4', g5', g6', g7', g8', g9', g10'⟩, -, -⟩ := ele_cells rs
        have HEnd : Hid (Below w.heap.size w FF.drew ∧ ∀ q, w.heap.size + 3 ≤ q → FF.drew.heap[q]? = X7.heap[q]?) := Lib.hid ⟨hFb.drew, fun q h => hFk q (by omega)⟩
        have HEs : Hid (FF.drew.heap.size = X7.heap.size) := Lib.hid hFs
        clear rr rs hFs hFk hFb q2F q3F bF nf szF
        go_wp2_with fail
        go_region
        go_wp2_with fail
        refine bodyPost_ret (v := .tuple #[.agg #[.slice (some ⟨g, 0, none⟩) ws.length cap, .int .i64 i3, .int .i64 d3, .int .i64 m3, .int .i64 a3, .int .i64 e3], .agg #[.int .i64 2, .int .i64 0, .bool false, .int .i64 0, .float .f64 0, .string ⟨#[]⟩, .slice none 0 0, .string opq, .slice lB lbl lbc, .slice kB kbl kbc, .slice none 0 0]]) (by simp [results, Tryd.results46, go_sem, f0', f1', f2', f3', f4', f5', g0', g1', g2', g3', g4', g5', g6', g7', g8', g9', g10']) rfl ?_
        refine ⟨_, _, _, _, _, _, _, _, _, _, _, _, _, _, _, _, _, _, _, _, _, _, _, _, rfl, HEnd.out.1, ?_⟩
        have hsz := H5.out.2.1.2.2.2
        have hg := gx_of HH.out.2.1
        have hg2 := gx_of HH.out.2.2.1
        have hra : rArg (gx ws) k (rTrav (gx ws) k) ⟨i, m⟩ = match rPred (gx ws) k ⟨i, m⟩ with | none => .bad i 120 | some (p, s') => .ok (.mk 2 vz p []) s' :=
          rArg_pred (s := ⟨i, m⟩) (by show (gx ws i).k = 1; rw [hg]; exact HH.out.2.2.2.2.2.2) (by show valA (gx ws i) = false; rw [hg]; exact HH.out.2.2.2.2.2.1) (by show prdA (gx ws i) = true; rw [hg]; show prdA x = true; unfold prdA; rw [HB.out.1, decide_eq_true HH.out.2.2.2.2.2.2]; rfl) (by show isSgn (gx ws (i + 1)) 40 = true; rw [hg2]; exact HB.out.2.1)
        obtain ⟨hor6, hb6, hb7⟩ := HOr.out
        rcases hor6 with ⟨p, s, hp, rfl, hlt, rfl, rfl, rfl, rfl, hrd⟩ | ⟨hp, he⟩
        · refine .inl ⟨.mk 2 vz p [], s, by rw [hra, hp], rfl, hlt, rfl, rfl, rfl, rfl, _, _, _, _, _, _, _, _, _, _, rfl, rdS_leaf (by decide) (by decide) (by decide) (by decide), keepS_Pd _ _ _ _ _ _ (fun q hq => World.cell?_of_block ((HEnd.out.2 q.block (by have := hq.1; omega)).trans (hb7.block _ hq.2))) (fun b hb => ⟨by have := hb.1; omega, by rw [HEs.out]; exact Nat.lt_of_lt_of_le hb.2 hb7.size⟩) hrd, rdTr_nil _ _ _⟩
        · exact .inr ⟨⟨_, _, by rw [hra, hp]⟩, he⟩
      | false =>
        cases uu with
        | false =>
          have HRA : Hid (rArg (gx ws) k (rTrav (gx ws) k) ⟨i, m⟩ = match rTrav (gx ws) k ⟨i, m⟩ with | .bad i e => .bad i e | .ok l s' => .ok (.mk 3 vz pz l) s') := Lib.hid (by
            have hg := gx_of HH.out.2.1
            have hg2 := gx_of HH.out.2.2.1
            exact rArg_trav (s := ⟨i, m⟩) (by show (gx ws i).k = 1; rw [hg]; exact HH.out.2.2.2.2.2.2) (by show valA (gx ws i) = false; rw [hg]; exact HH.out.2.2.2.2.2.1) (by show (prdA (gx ws i) && isSgn (gx ws (i + 1)) 40) = false; rw [hg]; show (prdA x && _) = false; unfold prdA; rw [HB.out.1]; rfl) (.inr (by show isSgn (gx ws (i + 1)) 40 = true; rw [hg2]; exact HB.out.2.1)))

          obtain ⟨d4, a4, e4, hor4, hin⟩ := into_any (cap := cap) H5.out.2.2.2 HH.out.2.1 m a HDK.out
          have HIN := Lib.hid hin
          clear hin
          rcases hor4 with ⟨hk0, he4⟩ | ⟨hk0, hd4, rfl, rfl⟩
          · have h1 : (e4 == 0) = false := by simpa using he4
            have HK0 := Lib.hid (And.intro hk0 he4)
            clear he4 hk0

            go_wp2_with fail
            refine HIN.out.mono ?_
            rintro e w6 ⟨rfl, hb6⟩
            have z6 := H5.out.1.on hb6
            obtain ⟨⟨sa0, sa1, sa2, sa3, sa4, sa5⟩, saf, sal⟩ := z6.cells
            have saf0 := saf 0; have saf1 := saf 1; have saf2 := saf 2; have saf3 := saf 3; have saf4 := saf 4; have saf5 := saf 5
            obtain ⟨W7, hW7⟩ : ∃ W, (((((((w6).setCell ⟨w.heap.size, 0, none⟩ (.slice (some ⟨g, 0, none⟩) ws.length cap)).setCell ⟨w.heap.size, 1, none⟩ (.int .i64 i)).setCell ⟨w.heap.size, 2, none⟩ (.int .i64 d4)).setCell ⟨w.heap.size, 3, none⟩ (.int .i64 m)).setCell ⟨w.heap.size, 4, none⟩ (.int .i64 a4)).setCell ⟨w.heap.size, 5, none⟩ (.int .i64 e4)) = W := ⟨_, rfl⟩
            have z7 : SB W7 w.heap.size g ws.length cap i d4 m a4 e4 := by rw [← hW7]; exact six_done z6 (.slice (some ⟨g, 0, none⟩) ws.length cap) (.int .i64 i) (.int .i64 d4) (.int .i64 m) (.int .i64 a4) (.int .i64 e4)
            have hO7 : Only (fun b => b = w.heap.size) w5 W7 := by rw [← hW7]; exact (Only.of_below hb6).trans (only_six (.slice (some ⟨g, 0, none⟩) ws.length cap) (.int .i64 i) (.int .i64 d4) (.int .i64 m) (.int .i64 a4) (.int .i64 e4) w6 rfl)
            have hF7 := H5.out.2.1.only hO7
            have z77 := (hO7.block X2.heap.size (Array.getElem?_eq_some_iff.1 H5.out.2.2.1).1 (by have := HSB.out; omega)).trans H5.out.2.2.1
            have hwd7 := HH.out.1.on hF7.1
            obtain ⟨⟨sb0, sb1, sb2, sb3, sb4, sb5⟩, sbf, sbl⟩ := z7.cells
            have sbf1 := sbf 1
            obtain ⟨⟨sc0, sc1, sc2, sc3, sc4⟩, scl⟩ := five_cells z77
            have hs7 : w.heap.size + 3 ≤ W7.heap.size := hF7.2.2.2
            have H7 := Lib.hid (And.intro z7 (And.intro hO7 (And.intro hF7 hwd7)))
            clear hb6 z6 saf z7 hO7 hF7 z77 hwd7 sbf

            have HST := Lib.hid ((steps_in (cap := cap) (a := a) (d4 := d4) (a4 := a4) HS.out HE.out H7.out.2.2.2 HH.out.2.1 HDK.out HM.out (.inl HK0.out)).mono (fun _ _ h => h.to (rTrav_plain _ (by show isL (gx ws i) txUU = false; rw [gx_of HH.out.2.1]; exact HB.out.2.2)).symm))

            go_wp2_with fail
            refine HST.out.mono ?_
            rintro e w8 ⟨i3, d3, m3, a3, e3, lT, tl, tc, rfl, hb8, hor8⟩
            have z8 := (H7.out.1).on hb8
            have hF8 := (H7.out.2.2.1).on hb8
            have hs8 : w.heap.size + 3 ≤ w8.heap.size := hF8.2.2.2
            obtain ⟨⟨ta0, ta1, ta2, ta3, ta4, ta5⟩, taf, tal⟩ := z8.cells
            have taf0 := taf 0; have taf1 := taf 1; have taf2 := taf 2; have taf3 := taf 3; have taf4 := taf 4; have taf5 := taf 5
            obtain ⟨W9, hW9⟩ : ∃ W, (((((((w8).setCell ⟨w.heap.size, 0, none⟩ (.slice (some ⟨g, 0, none⟩) ws.length cap)).setCell ⟨w.heap.size, 1, none⟩ (.int .i64 i3)).setCell ⟨w.heap.size, 2, none⟩ (.int .i64 d3)).setCell ⟨w.heap.size, 3, none⟩ (.int .i64 m3)).setCell ⟨w.heap.size, 4, none⟩ (.int .i64 a3)).setCell ⟨w.heap.size, 5, none⟩ (.int .i64 e3)) = W := ⟨_, rfl⟩
            have z9 : SB W9 w.heap.size g ws.length cap i3 d3 m3 a3 e3 := by rw [← hW9]; exact six_done z8 (.slice (some ⟨g, 0, none⟩) ws.length cap) (.int .i64 i3) (.int .i64 d3) (.int .i64 m3) (.int .i64 a3) (.int .i64 e3)
            have hO9 : Only (fun b => b = w.heap.size) w8 W9 := by rw [← hW9]; exact only_six (.slice (some ⟨g, 0, none⟩) ws.length cap) (.int .i64 i3) (.int .i64 d3) (.int .i64 m3) (.int .i64 a3) (.int .i64 e3) w8 rfl
            obtain ⟨⟨tb0, tb1, tb2, tb3, tb4, tb5⟩, tbf, tbl⟩ := z9.cells
            have tbf2 := tbf 2
            obtain ⟨W10, hW10⟩ : ∃ W, W9.setCell ⟨w.heap.size, 2, none⟩ (.int .i64 d) = W := ⟨_, rfl⟩
            have z10 : SB W10 w.heap.size g ws.length cap i3 d m3 a3 e3 := by
              have h := z9
              rw [← hW10]
              unfold SB at h ⊢
              simp [World.setCell, Array.getElem?_modify, h]
            have hO10 : Only (fun b => b = w.heap.size) w8 W10 := by rw [← hW10]; exact hO9.setCell (p := ⟨w.heap.size, 2, none⟩) (.inl rfl) _
            obtain ⟨⟨tc0, tc1, tc2, tc3, tc4, tc5⟩, -, tcl⟩ := z10.cells
            have HF10 := Lib.hid (hF8.only hO10)
            have HOr := Lib.hid (And.intro hor8 (And.intro hO10 hs8))
            clear z8 hF8 taf z9 hO9 tbf z10 hO10 hor8 hb8

            obtain ⟨bF, q2F, q3F, szF⟩ := HF10.out
            obtain ⟨⟨y0', y1', y2', y3', y4', y5'⟩, ⟨yf0, yf1, yf2, yf3, yf4, yf5⟩, yl'⟩ := six_cells q2F
            obtain ⟨⟨n0', n1', n2', n3', n4', n5', n6', n7', n8', n9', n10'⟩, nf, nl'⟩ := ele_cells q3F
            have nf0 := nf 0; have nf1 := nf 1; have nf2 := nf 2; have nf3 := nf 3; have nf4 := nf 4; have nf5 := nf 5; have nf6 := nf 6; have nf7 := nf 7; have nf8 := nf 8; have nf9 := nf 9; have nf10 := nf 10
            obtain ⟨rr, rs⟩ := six_ele q2F q3F (by omega) (.slice (some ⟨g, 0, none⟩) ws.length cap) (.int .i64 i3) (.int .i64 d) (.int .i64 m3) (.int .i64 a3) (.int .i64 e3) (.int .i64 3) (.int .i64 0) (.bool false) (.int .i64 0) (.float .f64 0) (.string ⟨#[]⟩) (.slice none 0 0) (.string ⟨#[]⟩) (.slice none 0 0) (.slice none 0 0) (.slice lT tl tc)
            obtain ⟨FF, hFF⟩ : ∃ FF, ((((((((((((((((((W10).setCell ⟨w.heap.size + 1, 0, none⟩ (.slice (some ⟨g, 0, none⟩) ws.length cap)).setCell ⟨w.heap.size + 1, 1, none⟩ (.int .i64 i3)).setCell ⟨w.heap.size + 1, 2, none⟩ (.int .i64 d)).setCell ⟨w.heap.size + 1, 3, none⟩ (.int .i64 m3)).setCell ⟨w.heap.size + 1, 4, none⟩ (.int .i64 a3)).setCell ⟨w.heap.size + 1, 5, none⟩ (.int .i64 e3)).setCell ⟨w.heap.size + 1 + 1, 0, none⟩ (.int .i64 3)).setCell ⟨w.heap.size + 1 + 1, 1, none⟩ (.int .i64 0)).setCell ⟨w.heap.size + 1 + 1, 2, none⟩ (.bool false)).setCell ⟨w.heap.size + 1 + 1, 3, none⟩ (.int .i64 0)).setCell ⟨w.heap.size + 1 + 1, 4, none⟩ (.float .f64 0)).setCell ⟨w.heap.size + 1 + 1, 5, none⟩ (.string ⟨#[]⟩)).setCell ⟨w.heap.size + 1 + 1, 6, none⟩ (.slice none 0 0)).setCell ⟨w.heap.size + 1 + 1, 7, none⟩ (.string ⟨#[]⟩)).setCell ⟨w.heap.size + 1 + 1, 8, none⟩ (.slice none 0 0)).setCell ⟨w.heap.size + 1 + 1, 9, none⟩ (.slice none 0 0)).setCell ⟨w.heap.size + 1 + 1, 10, none⟩ (.slice lT tl tc)) = FF := ⟨_, rfl⟩
            rw [hFF] at rr rs
            have hFs : FF.heap.size = W10.heap.size := by rw [← hFF]; simp [World.setCell]
            have hFk : ∀ q, w.heap.size + 1 + 1 < q → FF.heap[q]? = W10.heap[q]? := fun q h1 => by
              rw [← hFF]
              exact (ele_far (by omega) _ _ _ _ _ _ _ _ _ _ _).trans (six_far (by omega) _ _ _ _ _ _)
            have hFb : Below w.heap.size w FF := by
              rw [← hFF]
              repeat (with_reducible first | exact bF | refine Below.setCell ?_ (by simp <;> omega) _)
            obtain ⟨⟨f0', f1', f2', f3', f4', f5'⟩, -, -⟩ := six_cells rr
            obtain ⟨⟨g0', g1', g2', g3', g4', g5', g6', g7', g8', g9', g10'⟩, -, -⟩ := ele_cells rs
            have HEnd : Hid (Below w.heap.size w FF ∧ ∀ q, w.heap.size + 3 ≤ q → FF.heap[q]? = W10.heap[q]?) := Lib.hid ⟨hFb, fun q h => hFk q (by omega)⟩
            have HEs : Hid (FF.heap.size = W10.heap.size) := Lib.hid hFs
            clear rr rs hFs hFk hFb q2F q3F bF nf szF
            go_wp2_with fail
            refine bodyPost_ret (v := .tuple #[.agg #[.slice (some ⟨g, 0, none⟩) ws.length cap, .int .i64 i3, .int .i64 d, .int .i64 m3, .int .i64 a3, .int .i64 e3], .agg #[.int .i64 3, .int .i64 0, .bool false, .int .i64 0, .float .f64 0, .string ⟨#[]⟩, .slice none 0 0, .string ⟨#[]⟩, .slice none 0 0, .slice none 0 0, .slice lT tl tc]]) (by simp [results, Tryd.results46, go_sem, f0', f1', f2', f3', f4', f5', g0', g1', g2', g3', g4', g5', g6', g7', g8', g9', g10']) rfl ?_
            refine ⟨_, _, _, _, _, _, _, _, _, _, _, _, _, _, _, _, _, _, _, _, _, _, _, _, rfl, HEnd.out.1, ?_⟩
            obtain ⟨hor8, hO10, hs8⟩ := HOr.out
            have hsb := HSB.out
            rcases hor8 with ⟨l, s, hr, rfl, hlt, rfl, rfl, rfl, hrd⟩ | ⟨⟨j, c, hr⟩, he⟩
            · refine .inl ⟨.mk 3 vz pz l, s, by rw [HRA.out, hr], rfl, hlt, rfl, rfl, rfl, rfl, _, _, _, _, _, _, _, _, _, _, rfl, rdS_leaf (by decide) (by decide) (by decide) (by decide), rdP_nil _ _, keepS_Tr k _ _ _ _ _ _ (fun q hq => World.cell?_of_block ((HEnd.out.2 q.block (by have := hq.1; omega)).trans (hO10.block _ hq.2 (by have := hq.1; omega)))) (fun b hb => ⟨by have := hb.1; omega, by rw [HEs.out]; exact Nat.lt_of_lt_of_le hb.2 hO10.size⟩) hrd⟩
            · exact .inr ⟨⟨j, c, by rw [HRA.out, hr]⟩, he⟩
          · have HK0 := Lib.hid (And.intro hk0 hd4)
            clear hk0 hd4

            go_wp2_with fail
            refine HIN.out.mono ?_
            rintro e w6 ⟨rfl, hb6⟩
            have z6 := H5.out.1.on hb6
            obtain ⟨⟨sa0, sa1, sa2, sa3, sa4, sa5⟩, saf, sal⟩ := z6.cells
            have saf0 := saf 0; have saf1 := saf 1; have saf2 := saf 2; have saf3 := saf 3; have saf4 := saf 4; have saf5 := saf 5
            obtain ⟨W7, hW7⟩ : ∃ W, (((((((w6).setCell ⟨w.heap.size, 0, none⟩ (.slice (some ⟨g, 0, none⟩) ws.length cap)).setCell ⟨w.heap.size, 1, none⟩ (.int .i64 i)).setCell ⟨w.heap.size, 2, none⟩ (.int .i64 d4)).setCell ⟨w.heap.size, 3, none⟩ (.int .i64 m)).setCell ⟨w.heap.size, 4, none⟩ (.int .i64 a4)).setCell ⟨w.heap.size, 5, none⟩ (.int .i64 0)) = W := ⟨_, rfl⟩
            have z7 : SB W7 w.heap.size g ws.length cap i d4 m a4 0 := by rw [← hW7]; exact six_done z6 (.slice (some ⟨g, 0, none⟩) ws.length cap) (.int .i64 i) (.int .i64 d4) (.int .i64 m) (.int .i64 a4) (.int .i64 0)
            have hO7 : Only (fun b => b = w.heap.size) w5 W7 := by rw [← hW7]; exact (Only.of_below hb6).trans (only_six (.slice (some ⟨g, 0, none⟩) ws.length cap) (.int .i64 i) (.int .i64 d4) (.int .i64 m) (.int .i64 a4) (.int .i64 0) w6 rfl)
            have hF7 := H5.out.2.1.only hO7
            have z77 := (hO7.block X2.heap.size (Array.getElem?_eq_some_iff.1 H5.out.2.2.1).1 (by have := HSB.out; omega)).trans H5.out.2.2.1
            have hwd7 := HH.out.1.on hF7.1
            obtain ⟨⟨sb0, sb1, sb2, sb3, sb4, sb5⟩, sbf, sbl⟩ := z7.cells
            have sbf1 := sbf 1
            obtain ⟨⟨sc0, sc1, sc2, sc3, sc4⟩, scl⟩ := five_cells z77
            have hs7 : w.heap.size + 3 ≤ W7.heap.size := hF7.2.2.2
            have H7 := Lib.hid (And.intro z7 (And.intro hO7 (And.intro hF7 hwd7)))
            clear hb6 z6 saf z7 hO7 hF7 z77 hwd7 sbf

            have HST := Lib.hid ((steps_in (cap := cap) (d4 := d4) (a4 := a4) HS.out HE.out H7.out.2.2.2 HH.out.2.1 HDK.out HM.out (.inr ⟨HK0.out.1, HK0.out.2, rfl, rfl⟩)).mono (fun _ _ h => h.to (rTrav_plain _ (by show isL (gx ws i) txUU = false; rw [gx_of HH.out.2.1]; exact HB.out.2.2)).symm))

            go_wp2_with fail
            refine HST.out.mono ?_
            rintro e w8 ⟨i3, d3, m3, a3, e3, lT, tl, tc, rfl, hb8, hor8⟩
            have z8 := (H7.out.1).on hb8
            have hF8 := (H7.out.2.2.1).on hb8
            have hs8 : w.heap.size + 3 ≤ w8.heap.size := hF8.2.2.2
            obtain ⟨⟨ta0, ta1, ta2, ta3, ta4, ta5⟩, taf, tal⟩ := z8.cells
            have taf0 := taf 0; have taf1 := taf 1; have taf2 := taf 2; have taf3 := taf 3; have taf4 := taf 4; have taf5 := taf 5
            obtain ⟨W9, hW9⟩ : ∃ W, (((((((w8).setCell ⟨w.heap.size, 0, none⟩ (.slice (some ⟨g, 0, none⟩) ws.length cap)).setCell ⟨w.heap.size, 1, none⟩ (.int .i64 i3)).setCell ⟨w.heap.size, 2, none⟩ (.int .i64 d3)).setCell ⟨w.heap.size, 3, none⟩ (.int .i64 m3)).setCell ⟨w.heap.size, 4, none⟩ (.int .i64 a3)).setCell ⟨w.heap.size, 5, none⟩ (.int .i64 e3)) = W := ⟨_, rfl⟩
            have z9 : SB W9 w.heap.size g ws.length cap i3 d3 m3 a3 e3 := by rw [← hW9]; exact six_done z8 (.slice (some ⟨g, 0, none⟩) ws.length cap) (.int .i64 i3) (.int .i64 d3) (.int .i64 m3) (.int .i64 a3) (.int .i64 e3)
            have hO9 : Only (fun b => b = w.heap.size) w8 W9 := by rw [← hW9]; exact only_six (.slice (some ⟨g, 0, none⟩) ws.length cap) (.int .i64 i3) (.int .i64 d3) (.int .i64 m3) (.int .i64 a3) (.int .i64 e3) w8 rfl
            obtain ⟨⟨tb0, tb1, tb2, tb3, tb4, tb5⟩, tbf, tbl⟩ := z9.cells
            have tbf2 := tbf 2
            obtain ⟨W10, hW10⟩ : ∃ W, W9.setCell ⟨w.heap.size, 2, none⟩ (.int .i64 d) = W := ⟨_, rfl⟩
            have z10 : SB W10 w.heap.size g ws.length cap i3 d m3 a3 e3 := by
              have h := z9
              rw [← hW10]
              unfold SB at h ⊢
              simp [World.setCell, Array.getElem?_modify, h]
            have hO10 : Only (fun b => b = w.heap.size) w8 W10 := by rw [← hW10]; exact hO9.setCell (p := ⟨w.heap.size, 2, none⟩) (.inl rfl) _
            obtain ⟨⟨tc0, tc1, tc2, tc3, tc4, tc5⟩, -, tcl⟩ := z10.cells
            have HF10 := Lib.hid (hF8.only hO10)
            have HOr := Lib.hid (And.intro hor8 (And.intro hO10 hs8))
            clear z8 hF8 taf z9 hO9 tbf z10 hO10 hor8 hb8

            obtain ⟨bF, q2F, q3F, szF⟩ := HF10.out
            obtain ⟨⟨y0', y1', y2', y3', y4', y5'⟩, ⟨yf0, yf1, yf2, yf3, yf4, yf5⟩, yl'⟩ := six_cells q2F
            obtain ⟨⟨n0', n1', n2', n3', n4', n5', n6', n7', n8', n9', n10'⟩, nf, nl'⟩ := ele_cells q3F
            have nf0 := nf 0; have nf1 := nf 1; have nf2 := nf 2; have nf3 := nf 3; have nf4 := nf 4; have nf5 := nf 5; have nf6 := nf 6; have nf7 := nf 7; have nf8 := nf 8; have nf9 := nf 9; have nf10 := nf 10
            obtain ⟨rr, rs⟩ := six_ele q2F q3F (by omega) (.slice (some ⟨g, 0, none⟩) ws.length cap) (.int .i64 i3) (.int .i64 d) (.int .i64 m3) (.int .i64 a3) (.int .i64 e3) (.int .i64 3) (.int .i64 0) (.bool false) (.int .i64 0) (.float .f64 0) (.string ⟨#[]⟩) (.slice none 0 0) (.string ⟨#[]⟩) (.slice none 0 0) (.slice none 0 0) (.slice lT tl tc)
            obtain ⟨FF, hFF⟩ : ∃ FF, ((((((((((((((((((W10).setCell ⟨w.heap.size + 1, 0, none⟩ (.slice (some ⟨g, 0, none⟩) ws.length cap)).setCell ⟨w.heap.size + 1, 1, none⟩ (.int .i64 i3)).setCell ⟨w.heap.size + 1, 2, none⟩ (.int .i64 d)).setCell ⟨w.heap.size + 1, 3, none⟩ (.int .i64 m3)).setCell ⟨w.heap.size + 1, 4, none⟩ (.int .i64 a3)).setCell ⟨w.heap.size + 1, 5, none⟩ (.int .i64 e3)).setCell ⟨w.heap.size + 1 + 1, 0, none⟩ (.int .i64 3)).setCell ⟨w.heap.size + 1 + 1, 1, none⟩ (.int .i64 0)).setCell ⟨w.heap.size + 1 + 1, 2, none⟩ (.bool false)).setCell ⟨w.heap.size + 1 + 1, 3, none⟩ (.int .i64 0)).setCell ⟨w.heap.size + 1 + 1, 4, none⟩ (.float .f64 0)).setCell ⟨w.heap.size + 1 + 1, 5, none⟩ (.string ⟨#[]⟩)).setCell ⟨w.heap.size + 1 + 1, 6, none⟩ (.slice none 0 0)).setCell ⟨w.heap.size + 1 + 1, 7, none⟩ (.string ⟨#[]⟩)).setCell ⟨w.heap.size + 1 + 1, 8, none⟩ (.slice none 0 0)).setCell ⟨w.heap.size + 1 + 1, 9, none⟩ (.slice none 0 0)).setCell ⟨w.heap.size + 1 + 1, 10, none⟩ (.slice lT tl tc)) = FF := ⟨_, rfl⟩
            rw [hFF] at rr rs
            have hFs : FF.heap.size = W10.heap.size := by rw [← hFF]; simp [World.setCell]
            have hFk : ∀ q, w.heap.size + 1 + 1 < q → FF.heap[q]? = W10.heap[q]? := fun q h1 => by
              rw [← hFF]
              exact (ele_far (by omega) _ _ _ _ _ _ _ _ _ _ _).trans (six_far (by omega) _ _ _ _ _ _)
            have hFb : Below w.heap.size w FF := by
              rw [← hFF]
              repeat (with_reducible first | exact bF | refine Below.setCell ?_ (by simp <;> omega) _)
            obtain ⟨⟨f0', f1', f2', f3', f4', f5'⟩, -, -⟩ := six_cells rr
            obtain ⟨⟨g0', g1', g2', g3', g4', g5', g6', g7', g8', g9', g10'⟩, -, -⟩ := ele_cells rs
            have HEnd : Hid (Below w.heap.size w FF ∧ ∀ q, w.heap.size + 3 ≤ q → FF.heap[q]? = W10.heap[q]?) := Lib.hid ⟨hFb, fun q h => hFk q (by omega)⟩
            have HEs : Hid (FF.heap.size = W10.heap.size) := Lib.hid hFs
            clear rr rs hFs hFk hFb q2F q3F bF nf szF
            go_wp2_with fail
            refine bodyPost_ret (v := .tuple #[.agg #[.slice (some ⟨g, 0, none⟩) ws.length cap, .int .i64 i3, .int .i64 d, .int .i64 m3, .int .i64 a3, .int .i64 e3], .agg #[.int .i64 3, .int .i64 0, .bool false, .int .i64 0, .float .f64 0, .string ⟨#[]⟩, .slice none 0 0, .string ⟨#[]⟩, .slice none 0 0, .slice none 0 0, .slice lT tl tc]]) (by simp [results, Tryd.results46, go_sem, f0', f1', f2', f3', f4', f5', g0', g1', g2', g3', g4', g5', g6', g7', g8', g9', g10']) rfl ?_
            refine ⟨_, _, _, _, _, _, _, _, _, _, _, _, _, _, _, _, _, _, _, _, _, _, _, _, rfl, HEnd.out.1, ?_⟩
            obtain ⟨hor8, hO10, hs8⟩ := HOr.out
            have hsb := HSB.out
            rcases hor8 with ⟨l, s, hr, rfl, hlt, rfl, rfl, rfl, hrd⟩ | ⟨⟨j, c, hr⟩, he⟩
            · refine .inl ⟨.mk 3 vz pz l, s, by rw [HRA.out, hr], rfl, hlt, rfl, rfl, rfl, rfl, _, _, _, _, _, _, _, _, _, _, rfl, rdS_leaf (by decide) (by decide) (by decide) (by decide), rdP_nil _ _, keepS_Tr k _ _ _ _ _ _ (fun q hq => World.cell?_of_block ((HEnd.out.2 q.block (by have := hq.1; omega)).trans (hO10.block _ hq.2 (by have := hq.1; omega)))) (fun b hb => ⟨by have := hb.1; omega, by rw [HEs.out]; exact Nat.lt_of_lt_of_le hb.2 hO10.size⟩) hrd⟩
            · exact .inr ⟨⟨j, c, by rw [HRA.out, hr]⟩, he⟩
        | true =>
          have HRA : Hid (rArg (gx ws) k (rTrav (gx ws) k) ⟨i, m⟩ = match rTrav (gx ws) k ⟨i, m⟩ with | .bad i e => .bad i e | .ok l s' => .ok (.mk 3 vz pz l) s') := Lib.hid (by
            have hg := gx_of HH.out.2.1
            have hg2 := gx_of HH.out.2.2.1
            exact rArg_trav (s := ⟨i, m⟩) (by show (gx ws i).k = 1; rw [hg]; exact HH.out.2.2.2.2.2.2) (by show valA (gx ws i) = false; rw [hg]; exact HH.out.2.2.2.2.2.1) (by show (prdA (gx ws i) && isSgn (gx ws (i + 1)) 40) = false; rw [hg]; show (prdA x && _) = false; unfold prdA; rw [HB.out.1]; rfl) (.inr (by show isSgn (gx ws (i + 1)) 40 = true; rw [hg2]; exact HB.out.2.1)))

          obtain ⟨d4, a4, e4, hor4, hin⟩ := into_any (cap := cap) H5.out.2.2.2 HH.out.2.1 m a HDK.out
          have HIN := Lib.hid hin
          clear hin
          rcases hor4 with ⟨hk0, he4⟩ | ⟨hk0, hd4, rfl, rfl⟩
          · have h1 : (e4 == 0) = false := by simpa using he4
            have HK0 := Lib.hid hk0
            have HK0 := Lib.hid (And.intro hk0 he4)
            clear he4 hk0

            go_wp2_with fail
            refine HIN.out.mono ?_
            rintro e w6 ⟨rfl, hb6⟩
            have z6 := H5.out.1.on hb6
            obtain ⟨⟨sa0, sa1, sa2, sa3, sa4, sa5⟩, saf, sal⟩ := z6.cells
            have saf0 := saf 0; have saf1 := saf 1; have saf2 := saf 2; have saf3 := saf 3; have saf4 := saf 4; have saf5 := saf 5
            obtain ⟨W7, hW7⟩ : ∃ W, (((((((w6).setCell ⟨w.heap.size, 0, none⟩ (.slice (some ⟨g, 0, none⟩) ws.length cap)).setCell ⟨w.heap.size, 1, none⟩ (.int .i64 i)).setCell ⟨w.heap.size, 2, none⟩ (.int .i64 d4)).setCell ⟨w.heap.size, 3, none⟩ (.int .i64 m)).setCell ⟨w.heap.size, 4, none⟩ (.int .i64 a4)).setCell ⟨w.heap.size, 5, none⟩ (.int .i64 e4)) = W := ⟨_, rfl⟩
            have z7 : SB W7 w.heap.size g ws.length cap i d4 m a4 e4 := by rw [← hW7]; exact six_done z6 (.slice (some ⟨g, 0, none⟩) ws.length cap) (.int .i64 i) (.int .i64 d4) (.int .i64 m) (.int .i64 a4) (.int .i64 e4)
            have hO7 : Only (fun b => b = w.heap.size) w5 W7 := by rw [← hW7]; exact (Only.of_below hb6).trans (only_six (.slice (some ⟨g, 0, none⟩) ws.length cap) (.int .i64 i) (.int .i64 d4) (.int .i64 m) (.int .i64 a4) (.int .i64 e4) w6 rfl)
            have hF7 := H5.out.2.1.only hO7
            have z77 := (hO7.block X2.heap.size (Array.getElem?_eq_some_iff.1 H5.out.2.2.1).1 (by have := HSB.out; omega)).trans H5.out.2.2.1
            have hwd7 := HH.out.1.on hF7.1
            obtain ⟨⟨sb0, sb1, sb2, sb3, sb4, sb5⟩, sbf, sbl⟩ := z7.cells
            have sbf1 := sbf 1
            obtain ⟨⟨sc0, sc1, sc2, sc3, sc4⟩, scl⟩ := five_cells z77
            have hs7 : w.heap.size + 3 ≤ W7.heap.size := hF7.2.2.2
            have H7 := Lib.hid (And.intro z7 (And.intro hO7 (And.intro hF7 hwd7)))
            clear hb6 z6 saf z7 hO7 hF7 z77 hwd7 sbf

            have HST := Lib.hid ((steps_in (cap := cap) (a := a) (d4 := d4) (a4 := a4) HS.out HE.out H7.out.2.2.2 HH.out.2.1 HDK.out HM.out (.inl HK0.out)).mono (fun _ _ h => h.to (show rTrav0 (gx ws) k ⟨i, m⟩ = rTrav (gx ws) k ⟨i, m⟩ by rw [HK0.out.1]; rfl)))

            go_wp2_with fail
            refine HST.out.mono ?_
            rintro e w8 ⟨i3, d3, m3, a3, e3, lT, tl, tc, rfl, hb8, hor8⟩
            have z8 := (H7.out.1).on hb8
            have hF8 := (H7.out.2.2.1).on hb8
            have hs8 : w.heap.size + 3 ≤ w8.heap.size := hF8.2.2.2
            obtain ⟨⟨ta0, ta1, ta2, ta3, ta4, ta5⟩, taf, tal⟩ := z8.cells
            have taf0 := taf 0; have taf1 := taf 1; have taf2 := taf 2; have taf3 := taf 3; have taf4 := taf 4; have taf5 := taf 5
            obtain ⟨W9, hW9⟩ : ∃ W, (((((((w8).setCell ⟨w.heap.size, 0, none⟩ (.slice (some ⟨g, 0, none⟩) ws.length cap)).setCell ⟨w.heap.size, 1, none⟩ (.int .i64 i3)).setCell ⟨w.heap.size, 2, none⟩ (.int .i64 d3)).setCell ⟨w.heap.size, 3, none⟩ (.int .i64 m3)).setCell ⟨w.heap.size, 4, none⟩ (.int .i64 a3)).setCell ⟨w.heap.size, 5, none⟩ (.int .i64 e3)) = W := ⟨_, rfl⟩
            have z9 : SB W9 w.heap.size g ws.length cap i3 d3 m3 a3 e3 := by rw [← hW9]; exact six_done z8 (.slice (some ⟨g, 0, none⟩) ws.length cap) (.int .i64 i3) (.int .i64 d3) (.int .i64 m3) (.int .i64 a3) (.int .i64 e3)
            have hO9 : Only (fun b => b = w.heap.size) w8 W9 := by rw [← hW9]; exact only_six (.slice (some ⟨g, 0, none⟩) ws.length cap) (.int .i64 i3) (.int .i64 d3) (.int .i64 m3) (.int .i64 a3) (.int .i64 e3) w8 rfl
            obtain ⟨⟨tb0, tb1, tb2, tb3, tb4, tb5⟩, tbf, tbl⟩ := z9.cells
            have tbf2 := tbf 2
            obtain ⟨W10, hW10⟩ : ∃ W, W9.setCell ⟨w.heap.size, 2, none⟩ (.int .i64 d) = W := ⟨_, rfl⟩
            have z10 : SB W10 w.heap.size g ws.length cap i3 d m3 a3 e3 := by
              have h := z9
              rw [← hW10]
              unfold SB at h ⊢
              simp [World.setCell, Array.getElem?_modify, h]
            have hO10 : Only (fun b => b = w.heap.size) w8 W10 := by rw [← hW10]; exact hO9.setCell (p := ⟨w.heap.size, 2, none⟩) (.inl rfl) _
            obtain ⟨⟨tc0, tc1, tc2, tc3, tc4, tc5⟩, -, tcl⟩ := z10.cells
            have HF10 := Lib.hid (hF8.only hO10)
            have HOr := Lib.hid (And.intro hor8 (And.intro hO10 hs8))
            clear z8 hF8 taf z9 hO9 tbf z10 hO10 hor8 hb8

            obtain ⟨bF, q2F, q3F, szF⟩ := HF10.out
            obtain ⟨⟨y0', y1', y2', y3', y4', y5'⟩, ⟨yf0, yf1, yf2, yf3, yf4, yf5⟩, yl'⟩ := six_cells q2F
            obtain ⟨⟨n0', n1', n2', n3', n4', n5', n6', n7', n8', n9', n10'⟩, nf, nl'⟩ := ele_cells q3F
            have nf0 := nf 0; have nf1 := nf 1; have nf2 := nf 2; have nf3 := nf 3; have nf4 := nf 4; have nf5 := nf 5; have nf6 := nf 6; have nf7 := nf 7; have nf8 := nf 8; have nf9 := nf 9; have nf10 := nf 10
            obtain ⟨rr, rs⟩ := six_ele q2F q3F (by omega) (.slice (some ⟨g, 0, none⟩) ws.length cap) (.int .i64 i3) (.int .i64 d) (.int .i64 m3) (.int .i64 a3) (.int .i64 e3) (.int .i64 3) (.int .i64 0) (.bool false) (.int .i64 0) (.float .f64 0) (.string ⟨#[]⟩) (.slice none 0 0) (.string ⟨#[]⟩) (.slice none 0 0) (.slice none 0 0) (.slice lT tl tc)
            obtain ⟨FF, hFF⟩ : ∃ FF, ((((((((((((((((((W10).setCell ⟨w.heap.size + 1, 0, none⟩ (.slice (some ⟨g, 0, none⟩) ws.length cap)).setCell ⟨w.heap.size + 1, 1, none⟩ (.int .i64 i3)).setCell ⟨w.heap.size + 1, 2, none⟩ (.int .i64 d)).setCell ⟨w.heap.size + 1, 3, none⟩ (.int .i64 m3)).setCell ⟨w.heap.size + 1, 4, none⟩ (.int .i64 a3)).setCell ⟨w.heap.size + 1, 5, none⟩ (.int .i64 e3)).setCell ⟨w.heap.size + 1 + 1, 0, none⟩ (.int .i64 3)).setCell ⟨w.heap.size + 1 + 1, 1, none⟩ (.int .i64 0)).setCell ⟨w.heap.size + 1 + 1, 2, none⟩ (.bool false)).setCell ⟨w.heap.size + 1 + 1, 3, none⟩ (.int .i64 0)).setCell ⟨w.heap.size + 1 + 1, 4, none⟩ (.float .f64 0)).setCell ⟨w.heap.size + 1 + 1, 5, none⟩ (.string ⟨#[]⟩)).setCell ⟨w.heap.size + 1 + 1, 6, none⟩ (.slice none 0 0)).setCell ⟨w.heap.size + 1 + 1, 7, none⟩ (.string ⟨#[]⟩)).setCell ⟨w.heap.size + 1 + 1, 8, none⟩ (.slice none 0 0)).setCell ⟨w.heap.size + 1 + 1, 9, none⟩ (.slice none 0 0)).setCell ⟨w.heap.size + 1 + 1, 10, none⟩ (.slice lT tl tc)) = FF := ⟨_, rfl⟩
            rw [hFF] at rr rs
            have hFs : FF.heap.size = W10.heap.size := by rw [← hFF]; simp [World.setCell]
            have hFk : ∀ q, w.heap.size + 1 + 1 < q → FF.heap[q]? = W10.heap[q]? := fun q h1 => by
              rw [← hFF]
              exact (ele_far (by omega) _ _ _ _ _ _ _ _ _ _ _).trans (six_far (by omega) _ _ _ _ _ _)
            have hFb : Below w.heap.size w FF := by
              rw [← hFF]
              repeat (with_reducible first | exact bF | refine Below.setCell ?_ (by simp <;> omega) _)
            obtain ⟨⟨f0', f1', f2', f3', f4', f5'⟩, -, -⟩ := six_cells rr
            obtain ⟨⟨g0', g1', g2', g3', g4', g5', g6', g7', g8', g9', g10'⟩, -, -⟩ := ele_cells rs
            have HEnd : Hid (Below w.heap.size w FF ∧ ∀ q, w.heap.size + 3 ≤ q → FF.heap[q]? = W10.heap[q]?) := Lib.hid ⟨hFb, fun q h => hFk q (by omega)⟩
            have HEs : Hid (FF.heap.size = W10.heap.size) := Lib.hid hFs
            clear rr rs hFs hFk hFb q2F q3F bF nf szF
            go_wp2_with fail
            refine bodyPost_ret (v := .tuple #[.agg #[.slice (some ⟨g, 0, none⟩) ws.length cap, .int .i64 i3, .int .i64 d, .int .i64 m3, .int .i64 a3, .int .i64 e3], .agg #[.int .i64 3, .int .i64 0, .bool false, .int .i64 0, .float .f64 0, .string ⟨#[]⟩, .slice none 0 0, .string ⟨#[]⟩, .slice none 0 0, .slice none 0 0, .slice lT tl tc]]) (by simp [results, Tryd.results46, go_sem, f0', f1', f2', f3', f4', f5', g0', g1', g2', g3', g4', g5', g6', g7', g8', g9', g10']) rfl ?_
            refine ⟨_, _, _, _, _, _, _, _, _, _, _, _, _, _, _, _, _, _, _, _, _, _, _, _, rfl, HEnd.out.1, ?_⟩
            obtain ⟨hor8, hO10, hs8⟩ := HOr.out
            have hsb := HSB.out
            rcases hor8 with ⟨l, s, hr, rfl, hlt, rfl, rfl, rfl, hrd⟩ | ⟨⟨j, c, hr⟩, he⟩
            · refine .inl ⟨.mk 3 vz pz l, s, by rw [HRA.out, hr], rfl, hlt, rfl, rfl, rfl, rfl, _, _, _, _, _, _, _, _, _, _, rfl, rdS_leaf (by decide) (by decide) (by decide) (by decide), rdP_nil _ _, keepS_Tr k _ _ _ _ _ _ (fun q hq => World.cell?_of_block ((HEnd.out.2 q.block (by have := hq.1; omega)).trans (hO10.block _ hq.2 (by have := hq.1; omega)))) (fun b hb => ⟨by have := hb.1; omega, by rw [HEs.out]; exact Nat.lt_of_lt_of_le hb.2 hO10.size⟩) hrd⟩
            · exact .inr ⟨⟨j, c, by rw [HRA.out, hr]⟩, he⟩
          · have HK0 := Lib.hid (And.intro hk0 hd4)
            clear hk0 hd4

            go_wp2_with fail
            refine HIN.out.mono ?_
            rintro e w6 ⟨rfl, hb6⟩
            have z6 := H5.out.1.on hb6
            obtain ⟨⟨sa0, sa1, sa2, sa3, sa4, sa5⟩, saf, sal⟩ := z6.cells
            have saf0 := saf 0; have saf1 := saf 1; have saf2 := saf 2; have saf3 := saf 3; have saf4 := saf 4; have saf5 := saf 5
            obtain ⟨W7, hW7⟩ : ∃ W, (((((((w6).setCell ⟨w.heap.size, 0, none⟩ (.slice (some ⟨g, 0, none⟩) ws.length cap)).setCell ⟨w.heap.size, 1, none⟩ (.int .i64 i)).setCell ⟨w.heap.size, 2, none⟩ (.int .i64 d4)).setCell ⟨w.heap.size, 3, none⟩ (.int .i64 m)).setCell ⟨w.heap.size, 4, none⟩ (.int .i64 a4)).setCell ⟨w.heap.size, 5, none⟩ (.int .i64 0)) = W := ⟨_, rfl⟩
            have z7 : SB W7 w.heap.size g ws.length cap i d4 m a4 0 := by rw [← hW7]; exact six_done z6 (.slice (some ⟨g, 0, none⟩) ws.length cap) (.int .i64 i) (.int .i64 d4) (.int .i64 m) (.int .i64 a4) (.int .i64 0)
            have hO7 : Only (fun b => b = w.heap.size) w5 W7 := by rw [← hW7]; exact (Only.of_below hb6).trans (only_six (.slice (some ⟨g, 0, none⟩) ws.length cap) (.int .i64 i) (.int .i64 d4) (.int .i64 m) (.int .i64 a4) (.int .i64 0) w6 rfl)
            have hF7 := H5.out.2.1.only hO7
            have z77 := (hO7.block X2.heap.size (Array.getElem?_eq_some_iff.1 H5.out.2.2.1).1 (by have := HSB.out; omega)).trans H5.out.2.2.1
            have hwd7 := HH.out.1.on hF7.1
            obtain ⟨⟨sb0, sb1, sb2, sb3, sb4, sb5⟩, sbf, sbl⟩ := z7.cells
            have sbf1 := sbf 1
            obtain ⟨⟨sc0, sc1, sc2, sc3, sc4⟩, scl⟩ := five_cells z77
            have hs7 : w.heap.size + 3 ≤ W7.heap.size := hF7.2.2.2
            have H7 := Lib.hid (And.intro z7 (And.intro hO7 (And.intro hF7 hwd7)))
            clear hb6 z6 saf z7 hO7 hF7 z77 hwd7 sbf

            obtain ⟨W8, hW8⟩ : ∃ W, W7.setCell ⟨w.heap.size, 1, none⟩ (.int .i64 ((i : Int) + 1)) = W := ⟨_, rfl⟩
            have z88 : SB W8 w.heap.size g ws.length cap ((i : Int) + 1) d4 m a4 0 := by
              have h := H7.out.1
              rw [← hW8]
              unfold SB at h ⊢
              simp [World.setCell, Array.getElem?_modify, h]
            have hO8 : Only (fun b => b = w.heap.size) w5 W8 := by rw [← hW8]; exact H7.out.2.1.setCell (p := ⟨w.heap.size, 1, none⟩) (.inl rfl) _
            have hF88 := H5.out.2.1.only hO8
            obtain ⟨i5, a5, e5, hsg, hst⟩ := steps_uu (cap := cap) HG.out HS.out HE.out (a := a4) (HH.out.1.on hF88.1) HH.out.2.1 HH.out.2.2.1 HB.out.2.2 HDK.out HK0.out.1 HM.out
            rw [← HK0.out.2, show ((i + 1 : Nat) : Int) = (i : Int) + 1 from rfl] at hsg
            rw [← HK0.out.2] at hst
            have HSG := Lib.hid hsg
            have H8 := Lib.hid (And.intro z88 (And.intro hF88 hst))
            obtain ⟨⟨sd0, sd1, sd2, sd3, sd4, sd5⟩, -, sdl⟩ := z88.cells
            clear z88 hO8 hF88 hsg hst
            go_wp2_with fail
            refine HSG.out.mono ?_
            rintro e w9 ⟨rfl, hb9⟩
            have z99 := H8.out.1.on hb9
            obtain ⟨⟨se0, se1, se2, se3, se4, se5⟩, sef, sel⟩ := z99.cells
            have sef0 := sef 0; have sef1 := sef 1; have sef2 := sef 2; have sef3 := sef 3; have sef4 := sef 4; have sef5 := sef 5
            obtain ⟨WA, hWA⟩ : ∃ W, (((((((w9).setCell ⟨w.heap.size, 0, none⟩ (.slice (some ⟨g, 0, none⟩) ws.length cap)).setCell ⟨w.heap.size, 1, none⟩ (.int .i64 i5)).setCell ⟨w.heap.size, 2, none⟩ (.int .i64 d4)).setCell ⟨w.heap.size, 3, none⟩ (.int .i64 m)).setCell ⟨w.heap.size, 4, none⟩ (.int .i64 a5)).setCell ⟨w.heap.size, 5, none⟩ (.int .i64 e5)) = W := ⟨_, rfl⟩
            have zA : SB WA w.heap.size g ws.length cap i5 d4 m a5 e5 := by rw [← hWA]; exact six_done z99 (.slice (some ⟨g, 0, none⟩) ws.length cap) (.int .i64 i5) (.int .i64 d4) (.int .i64 m) (.int .i64 a5) (.int .i64 e5)
            have hOA : Only (fun b => b = w.heap.size) W8 WA := by rw [← hWA]; exact (Only.of_below hb9).trans (only_six (.slice (some ⟨g, 0, none⟩) ws.length cap) (.int .i64 i5) (.int .i64 d4) (.int .i64 m) (.int .i64 a5) (.int .i64 e5) w9 rfl)
            have hFA := H8.out.2.1.only hOA
            obtain ⟨⟨sf0, sf1, sf2, sf3, sf4, sf5⟩, -, sfl⟩ := zA.cells
            have HST := Lib.hid (H8.out.2.2 WA (HH.out.1.on hFA.1))
            have HA := Lib.hid (And.intro zA hFA)
            have hsA : w.heap.size + 3 ≤ WA.heap.size := hFA.2.2.2
            clear hb9 z99 sef zA hOA hFA

            go_wp2_with fail
            refine HST.out.mono ?_
            rintro e w8 ⟨i3, d3, m3, a3, e3, lT, tl, tc, rfl, hb8, hor8⟩
            have z8 := (HA.out.1).on hb8
            have hF8 := (HA.out.2).on hb8
            have hs8 : w.heap.size + 3 ≤ w8.heap.size := hF8.2.2.2
            obtain ⟨⟨ta0, ta1, ta2, ta3, ta4, ta5⟩, taf, tal⟩ := z8.cells
            have taf0 := taf 0; have taf1 := taf 1; have taf2 := taf 2; have taf3 := taf 3; have taf4 := taf 4; have taf5 := taf 5
            obtain ⟨W9, hW9⟩ : ∃ W, (((((((w8).setCell ⟨w.heap.size, 0, none⟩ (.slice (some ⟨g, 0, none⟩) ws.length cap)).setCell ⟨w.heap.size, 1, none⟩ (.int .i64 i3)).setCell ⟨w.heap.size, 2, none⟩ (.int .i64 d3)).setCell ⟨w.heap.size, 3, none⟩ (.int .i64 m3)).setCell ⟨w.heap.size, 4, none⟩ (.int .i64 a3)).setCell ⟨w.heap.size, 5, none⟩ (.int .i64 e3)) = W := ⟨_, rfl⟩
            have z9 : SB W9 w.heap.size g ws.length cap i3 d3 m3 a3 e3 := by rw [← hW9]; exact six_done z8 (.slice (some ⟨g, 0, none⟩) ws.length cap) (.int .i64 i3) (.int .i64 d3) (.int .i64 m3) (.int .i64 a3) (.int .i64 e3)
            have hO9 : Only (fun b => b = w.heap.size) w8 W9 := by rw [← hW9]; exact only_six (.slice (some ⟨g, 0, none⟩) ws.length cap) (.int .i64 i3) (.int .i64 d3) (.int .i64 m3) (.int .i64 a3) (.int .i64 e3) w8 rfl
            obtain ⟨⟨tb0, tb1, tb2, tb3, tb4, tb5⟩, tbf, tbl⟩ := z9.cells
            have tbf2 := tbf 2
            obtain ⟨W10, hW10⟩ : ∃ W, W9.setCell ⟨w.heap.size, 2, none⟩ (.int .i64 d) = W := ⟨_, rfl⟩
            have z10 : SB W10 w.heap.size g ws.length cap i3 d m3 a3 e3 := by
              have h := z9
              rw [← hW10]
              unfold SB at h ⊢
              simp [World.setCell, Array.getElem?_modify, h]
            have hO10 : Only (fun b => b = w.heap.size) w8 W10 := by rw [← hW10]; exact hO9.setCell (p := ⟨w.heap.size, 2, none⟩) (.inl rfl) _
            obtain ⟨⟨tc0, tc1, tc2, tc3, tc4, tc5⟩, -, tcl⟩ := z10.cells
            have HF10 := Lib.hid (hF8.only hO10)
            have HOr := Lib.hid (And.intro hor8 (And.intro hO10 hs8))
            clear z8 hF8 taf z9 hO9 tbf z10 hO10 hor8 hb8

            obtain ⟨bF, q2F, q3F, szF⟩ := HF10.out
            obtain ⟨⟨y0', y1', y2', y3', y4', y5'⟩, ⟨yf0, yf1, yf2, yf3, yf4, yf5⟩, yl'⟩ := six_cells q2F
            obtain ⟨⟨n0', n1', n2', n3', n4', n5', n6', n7', n8', n9', n10'⟩, nf, nl'⟩ := ele_cells q3F
            have nf0 := nf 0; have nf1 := nf 1; have nf2 := nf 2; have nf3 := nf 3; have nf4 := nf 4; have nf5 := nf 5; have nf6 := nf 6; have nf7 := nf 7; have nf8 := nf 8; have nf9 := nf 9; have nf10 := nf 10
            obtain ⟨rr, rs⟩ := six_ele q2F q3F (by omega) (.slice (some ⟨g, 0, none⟩) ws.length cap) (.int .i64 i3) (.int .i64 d) (.int .i64 m3) (.int .i64 a3) (.int .i64 e3) (.int .i64 3) (.int .i64 0) (.bool false) (.int .i64 0) (.float .f64 0) (.string ⟨#[]⟩) (.slice none 0 0) (.string ⟨#[]⟩) (.slice none 0 0) (.slice none 0 0) (.slice lT tl tc)
            obtain ⟨FF, hFF⟩ : ∃ FF, ((((((((((((((((((W10).setCell ⟨w.heap.size + 1, 0, none⟩ (.slice (some ⟨g, 0, none⟩) ws.length cap)).setCell ⟨w.heap.size + 1, 1, none⟩ (.int .i64 i3)).setCell ⟨w.heap.size + 1, 2, none⟩ (.int .i64 d)).setCell ⟨w.heap.size + 1, 3, none⟩ (.int .i64 m3)).setCell ⟨w.heap.size + 1, 4, none⟩ (.int .i64 a3)).setCell ⟨w.heap.size + 1, 5, none⟩ (.int .i64 e3)).setCell ⟨w.heap.size + 1 + 1, 0, none⟩ (.int .i64 3)).setCell ⟨w.heap.size + 1 + 1, 1, none⟩ (.int .i64 0)).setCell ⟨w.heap.size + 1 + 1, 2, none⟩ (.bool false)).setCell ⟨w.heap.size + 1 + 1, 3, none⟩ (.int .i64 0)).setCell ⟨w.heap.size + 1 + 1, 4, none⟩ (.float .f64 0)).setCell ⟨w.heap.size + 1 + 1, 5, none⟩ (.string ⟨#[]⟩)).setCell ⟨w.heap.size + 1 + 1, 6, none⟩ (.slice none 0 0)).setCell ⟨w.heap.size + 1 + 1, 7, none⟩ (.string ⟨#[]⟩)).setCell ⟨w.heap.size + 1 + 1, 8, none⟩ (.slice none 0 0)).setCell ⟨w.heap.size + 1 + 1, 9, none⟩ (.slice none 0 0)).setCell ⟨w.heap.size + 1 + 1, 10, none⟩ (.slice lT tl tc)) = FF := ⟨_, rfl⟩
            rw [hFF] at rr rs
            have hFs : FF.heap.size = W10.heap.size := by rw [← hFF]; simp [World.setCell]
            have hFk : ∀ q, w.heap.size + 1 + 1 < q → FF.heap[q]? = W10.heap[q]? := fun q h1 => by
              rw [← hFF]
              exact (ele_far (by omega) _ _ _ _ _ _ _ _ _ _ _).trans (six_far (by omega) _ _ _ _ _ _)
            have hFb : Below w.heap.size w FF := by
              rw [← hFF]
              repeat (with_reducible first | exact bF | refine Below.setCell ?_ (by simp <;> omega) _)
            obtain ⟨⟨f0', f1', f2', f3', f4', f5'⟩, -, -⟩ := six_cells rr
            obtain ⟨⟨g0', g1', g2', g3', g4', g5', g6', g7', g8', g9', g10'⟩, -, -⟩ := ele_cells rs
            have HEnd : Hid (Below w.heap.size w FF ∧ ∀ q, w.heap.size + 3 ≤ q → FF.heap[q]? = W10.heap[q]?) := Lib.hid ⟨hFb, fun q h => hFk q (by omega)⟩
            have HEs : Hid (FF.heap.size = W10.heap.size) := Lib.hid hFs
            clear rr rs hFs hFk hFb q2F q3F bF nf szF
            go_wp2_with fail
            refine bodyPost_ret (v := .tuple #[.agg #[.slice (some ⟨g, 0, none⟩) ws.length cap, .int .i64 i3, .int .i64 d, .int .i64 m3, .int .i64 a3, .int .i64 e3], .agg #[.int .i64 3, .int .i64 0, .bool false, .int .i64 0, .float .f64 0, .string ⟨#[]⟩, .slice none 0 0, .string ⟨#[]⟩, .slice none 0 0, .slice none 0 0, .slice lT tl tc]]) (by simp [results, Tryd.results46, go_sem, f0', f1', f2', f3', f4', f5', g0', g1', g2', g3', g4', g5', g6', g7', g8', g9', g10']) rfl ?_
            refine ⟨_, _, _, _, _, _, _, _, _, _, _, _, _, _, _, _, _, _, _, _, _, _, _, _, rfl, HEnd.out.1, ?_⟩
            obtain ⟨hor8, hO10, hs8⟩ := HOr.out
            have hsb := HSB.out
            rcases hor8 with ⟨l, s, hr, rfl, hlt, rfl, rfl, rfl, hrd⟩ | ⟨⟨j, c, hr⟩, he⟩
            · refine .inl ⟨.mk 3 vz pz l, s, by rw [HRA.out, hr], rfl, hlt, rfl, rfl, rfl, rfl, _, _, _, _, _, _, _, _, _, _, rfl, rdS_leaf (by decide) (by decide) (by decide) (by decide), rdP_nil _ _, keepS_Tr k _ _ _ _ _ _ (fun q hq => World.cell?_of_block ((HEnd.out.2 q.block (by have := hq.1; omega)).trans (hO10.block _ hq.2 (by have := hq.1; omega)))) (fun b hb => ⟨by have := hb.1; omega, by rw [HEs.out]; exact Nat.lt_of_lt_of_le hb.2 hO10.size⟩) hrd⟩
            · exact .inr ⟨⟨j, c, by rw [HRA.out, hr]⟩, he⟩
    | false =>
      cases uu with
      | false =>
        cases pr
        all_goals
        have d8 : (x.s.toList != [95, 95]) = true := by rw [bne, huu]; rfl
        have hsX : w.heap.size + 3 ≤ X2.heap.size := HSB.out
        obtain ⟨X6, hX6⟩ : ∃ X, w5.setCell ⟨w.heap.size, 1, none⟩ (.int .i64 ((i : Int) + 1)) = X := ⟨_, rfl⟩
        have z6 : SB X6 w.heap.size g ws.length cap ((i : Int) + 1) d m a 0 := by
          have h := H5.out.1
          rw [← hX6]
          unfold SB at h ⊢
          simp [World.setCell, Array.getElem?_modify, h]
        have hO6 : Only (fun b => b = w.heap.size) w5 X6 := by rw [← hX6]; exact (Only.refl (fun b => b = w.heap.size) w5).setCell (p := ⟨w.heap.size, 1, none⟩) (.inl rfl) _
        have HF6 := Lib.hid (H5.out.2.1.only hO6)
        have z76 := (hO6.block X2.heap.size ybl (by omega)).trans H5.out.2.2.1
        obtain ⟨⟨yc0, yc1, yc2, yc3, yc4, yc5⟩, -, ycl⟩ := z6.cells
        obtain ⟨⟨yd0, yd1, yd2, yd3, yd4⟩, ydl⟩ := five_cells z76
        clear z6 hO6 z76

        obtain ⟨bF, q2F, q3F, szF⟩ := HF6.out
        obtain ⟨⟨y0', y1', y2', y3', y4', y5'⟩, ⟨yf0, yf1, yf2, yf3, yf4, yf5⟩, yl'⟩ := six_cells q2F
        obtain ⟨⟨n0', n1', n2', n3', n4', n5', n6', n7', n8', n9', n10'⟩, nf, nl'⟩ := ele_cells q3F
        have nf0 := nf 0; have nf1 := nf 1; have nf2 := nf 2; have nf3 := nf 3; have nf4 := nf 4; have nf5 := nf 5; have nf6 := nf 6; have nf7 := nf 7; have nf8 := nf 8; have nf9 := nf 9; have nf10 := nf 10
        obtain ⟨rr, rs⟩ := six_ele q2F q3F (by omega) (.slice (some ⟨g, 0, none⟩) ws.length cap) (.int .i64 ((i : Int) + 1)) (.int .i64 d) (.int .i64 m) (.int .i64 a) (.int .i64 0) (.int .i64 4) (.int .i64 4) (.bool false) (.int .i64 0) (.float .f64 0) (.string x.s) (.slice none 0 0) (.string ⟨#[]⟩) (.slice none 0 0) (.slice none 0 0) (.slice none 0 0)
        obtain ⟨FF, hFF⟩ : ∃ FF, ((((((((((((((((((X6).setCell ⟨w.heap.size + 1, 0, none⟩ (.slice (some ⟨g, 0, none⟩) ws.length cap)).setCell ⟨w.heap.size + 1, 1, none⟩ (.int .i64 ((i : Int) + 1))).setCell ⟨w.heap.size + 1, 2, none⟩ (.int .i64 d)).setCell ⟨w.heap.size + 1, 3, none⟩ (.int .i64 m)).setCell ⟨w.heap.size + 1, 4, none⟩ (.int .i64 a)).setCell ⟨w.heap.size + 1, 5, none⟩ (.int .i64 0)).setCell ⟨w.heap.size + 1 + 1, 0, none⟩ (.int .i64 4)).setCell ⟨w.heap.size + 1 + 1, 1, none⟩ (.int .i64 4)).setCell ⟨w.heap.size + 1 + 1, 2, none⟩ (.bool false)).setCell ⟨w.heap.size + 1 + 1, 3, none⟩ (.int .i64 0)).setCell ⟨w.heap.size + 1 + 1, 4, none⟩ (.float .f64 0)).setCell ⟨w.heap.size + 1 + 1, 5, none⟩ (.string x.s)).setCell ⟨w.heap.size + 1 + 1, 6, none⟩ (.slice none 0 0)).setCell ⟨w.heap.size + 1 + 1, 7, none⟩ (.string ⟨#[]⟩)).setCell ⟨w.heap.size + 1 + 1, 8, none⟩ (.slice none 0 0)).setCell ⟨w.heap.size + 1 + 1, 9, none⟩ (.slice none 0 0)).setCell ⟨w.heap.size + 1 + 1, 10, none⟩ (.slice none 0 0)) = FF := ⟨_, rfl⟩
        rw [hFF] at rr rs
        have hFs : FF.heap.size = X6.heap.size := by rw [← hFF]; simp [World.setCell]
        have hFk : ∀ q, w.heap.size + 1 + 1 < q → FF.heap[q]? = X6.heap[q]? := fun q h1 => by
          rw [← hFF]
          exact (ele_far (by omega) _ _ _ _ _ _ _ _ _ _ _).trans (six_far (by omega) _ _ _ _ _ _)
        have hFb : Below w.heap.size w FF := by
          rw [← hFF]
          repeat (with_reducible first | exact bF | refine Below.setCell ?_ (by simp <;> omega) _)
        obtain ⟨⟨f0', f1', f2', f3', f4', f5'⟩, -, -⟩ := six_cells rr
        obtain ⟨⟨g0', g1', g2', g3', g4', g5', g6', g7', g8', g9', g10'⟩, -, -⟩ := ele_cells rs
        have HEnd : Hid (Below w.heap.size w FF.drew ∧ ∀ q, w.heap.size + 3 ≤ q → FF.drew.heap[q]? = X6.heap[q]?) := Lib.hid ⟨hFb.drew, fun q h => hFk q (by omega)⟩
        have HEs : Hid (FF.drew.heap.size = X6.heap.size) := Lib.hid hFs
        clear rr rs hFs hFk hFb q2F q3F bF nf szF
        go_wp2_with fail
        go_region
        go_wp2_with fail
        refine bodyPost_ret (v := .tuple #[.agg #[.slice (some ⟨g, 0, none⟩) ws.length cap, .int .i64 ((i : Int) + 1), .int .i64 d, .int .i64 m, .int .i64 a, .int .i64 0], .agg #[.int .i64 4, .int .i64 4, .bool false, .int .i64 0, .float .f64 0, .string x.s, .slice none 0 0, .string ⟨#[]⟩, .slice none 0 0, .slice none 0 0, .slice none 0 0]]) (by simp [results, Tryd.results46, go_sem, f0', f1', f2', f3', f4', f5', g0', g1', g2', g3', g4', g5', g6', g7', g8', g9', g10']) rfl ?_
        refine ⟨_, _, _, _, _, _, _, _, _, _, _, _, _, _, _, _, _, _, _, _, _, _, _, _, rfl, HEnd.out.1, .inl ⟨.mk 4 (.mk 4 false 0 0 (gx ws i).s []) pz [], ⟨i + 1, m⟩, rArg_word (s := ⟨i, m⟩) (by show (gx ws i).k = 1; rw [gx_of HH.out.2.1]; exact HH.out.2.2.2.2.2.2) (by show valA (gx ws i) = false; rw [gx_of HH.out.2.1]; exact HH.out.2.2.2.2.2.1) (by show isL (gx ws i) txUU = false; rw [gx_of HH.out.2.1]; exact HB.out.2.2) (by show isSgn (gx ws (i + 1)) 40 = false; rw [gx_of HH.out.2.2.1]; exact HB.out.2.1), rfl, (List.getElem?_eq_some_iff.1 HH.out.2.2.1).1, rfl, rfl, rfl, rfl, _, _, _, _, _, _, _, _, _, _, rfl, ?_, rdP_nil _ _, rdTr_nil _ _ _⟩⟩
        show RdS _ _ (.mk 4 false 0 0 (gx ws i).s []) _
        rw [gx_of HH.out.2.1]
        exact rdS_leaf (by decide) (by decide) (by decide) (by have := (HG.out.ok x (List.mem_of_getElem? HH.out.2.1)).2.2.2.2.1; show x.s.size ≤ _; omega)
      | true =>
        cases pr with
        | true => exact absurd HB.out.1 (by have h : x.s.data.toList = [95, 95] := (toL x.s).symm.trans (beq_iff_eq.1 huu); rw [h]; decide)
        | false =>
          have d8 : (x.s.toList != [95, 95]) = false := by rw [bne, huu]; rfl
          have HRA : Hid (rArg (gx ws) k (rTrav (gx ws) k) ⟨i, m⟩ = match rTrav (gx ws) k ⟨i, m⟩ with | .bad i e => .bad i e | .ok l s' => .ok (.mk 3 vz pz l) s') := Lib.hid (by
            have hg := gx_of HH.out.2.1
            have hg2 := gx_of HH.out.2.2.1
            exact rArg_trav (s := ⟨i, m⟩) (by show (gx ws i).k = 1; rw [hg]; exact HH.out.2.2.2.2.2.2) (by show valA (gx ws i) = false; rw [hg]; exact HH.out.2.2.2.2.2.1) (by show (prdA (gx ws i) && isSgn (gx ws (i + 1)) 40) = false; rw [hg]; show (prdA x && _) = false; unfold prdA; rw [HB.out.1]; rfl) (.inl (by show isL (gx ws i) txUU = true; rw [hg]; exact HB.out.2.2)))

          obtain ⟨d4, a4, e4, hor4, hin⟩ := into_any (cap := cap) H5.out.2.2.2 HH.out.2.1 m a HDK.out
          have HIN := Lib.hid hin
          clear hin
          rcases hor4 with ⟨hk0, he4⟩ | ⟨hk0, hd4, rfl, rfl⟩
          · have h1 : (e4 == 0) = false := by simpa using he4
            have HK0 := Lib.hid hk0
            have HK0 := Lib.hid (And.intro hk0 he4)
            clear he4 hk0

            go_wp2_with fail
            refine HIN.out.mono ?_
            rintro e w6 ⟨rfl, hb6⟩
            have z6 := H5.out.1.on hb6
            obtain ⟨⟨sa0, sa1, sa2, sa3, sa4, sa5⟩, saf, sal⟩ := z6.cells
            have saf0 := saf 0; have saf1 := saf 1; have saf2 := saf 2; have saf3 := saf 3; have saf4 := saf 4; have saf5 := saf 5
            obtain ⟨W7, hW7⟩ : ∃ W, (((((((w6).setCell ⟨w.heap.size, 0, none⟩ (.slice (some ⟨g, 0, none⟩) ws.length cap)).setCell ⟨w.heap.size, 1, none⟩ (.int .i64 i)).setCell ⟨w.heap.size, 2, none⟩ (.int .i64 d4)).setCell ⟨w.heap.size, 3, none⟩ (.int .i64 m)).setCell ⟨w.heap.size, 4, none⟩ (.int .i64 a4)).setCell ⟨w.heap.size, 5, none⟩ (.int .i64 e4)) = W := ⟨_, rfl⟩
            have z7 : SB W7 w.heap.size g ws.length cap i d4 m a4 e4 := by rw [← hW7]; exact six_done z6 (.slice (some ⟨g, 0, none⟩) ws.length cap) (.int .i64 i) (.int .i64 d4) (.int .i64 m) (.int .i64 a4) (.int .i64 e4)
            have hO7 : Only (fun b => b = w.heap.size) w5 W7 := by rw [← hW7]; exact (Only.of_below hb6).trans (only_six (.slice (some ⟨g, 0, none⟩) ws.length cap) (.int .i64 i) (.int .i64 d4) (.int .i64 m) (.int .i64 a4) (.int .i64 e4) w6 rfl)
            have hF7 := H5.out.2.1.only hO7
            have z77 := (hO7.block X2.heap.size (Array.getElem?_eq_some_iff.1 H5.out.2.2.1).1 (by have := HSB.out; omega)).trans H5.out.2.2.1
            have hwd7 := HH.out.1.on hF7.1
            obtain ⟨⟨sb0, sb1, sb2, sb3, sb4, sb5⟩, sbf, sbl⟩ := z7.cells
            have sbf1 := sbf 1
            obtain ⟨⟨sc0, sc1, sc2, sc3, sc4⟩, scl⟩ := five_cells z77
            have hs7 : w.heap.size + 3 ≤ W7.heap.size := hF7.2.2.2
            have H7 := Lib.hid (And.intro z7 (And.intro hO7 (And.intro hF7 hwd7)))
            clear hb6 z6 saf z7 hO7 hF7 z77 hwd7 sbf

            have HST := Lib.hid ((steps_in (cap := cap) (a := a) (d4 := d4) (a4 := a4) HS.out HE.out H7.out.2.2.2 HH.out.2.1 HDK.out HM.out (.inl HK0.out)).mono (fun _ _ h => h.to (show rTrav0 (gx ws) k ⟨i, m⟩ = rTrav (gx ws) k ⟨i, m⟩ by rw [HK0.out.1]; rfl)))

            go_wp2_with fail
            refine HST.out.mono ?_
            rintro e w8 ⟨i3, d3, m3, a3, e3, lT, tl, tc, rfl, hb8, hor8⟩
            have z8 := (H7.out.1).on hb8
            have hF8 := (H7.out.2.2.1).on hb8
            have hs8 : w.heap.size + 3 ≤ w8.heap.size := hF8.2.2.2
            obtain ⟨⟨ta0, ta1, ta2, ta3, ta4, ta5⟩, taf, tal⟩ := z8.cells
            have taf0 := taf 0; have taf1 := taf 1; have taf2 := taf 2; have taf3 := taf 3; have taf4 := taf 4; have taf5 := taf 5
            obtain ⟨W9, hW9⟩ : ∃ W, (((((((w8).setCell ⟨w.heap.size, 0, none⟩ (.slice (some ⟨g, 0, none⟩) ws.length cap)).setCell ⟨w.heap.size, 1, none⟩ (.int .i64 i3)).setCell ⟨w.heap.size, 2, none⟩ (.int .i64 d3)).setCell ⟨w.heap.size, 3, none⟩ (.int .i64 m3)).setCell ⟨w.heap.size, 4, none⟩ (.int .i64 a3)).setCell ⟨w.heap.size, 5, none⟩ (.int .i64 e3)) = W := ⟨_, rfl⟩
            have z9 : SB W9 w.heap.size g ws.length cap i3 d3 m3 a3 e3 := by rw [← hW9]; exact six_done z8 (.slice (some ⟨g, 0, none⟩) ws.length cap) (.int .i64 i3) (.int .i64 d3) (.int .i64 m3) (.int .i64 a3) (.int .i64 e3)
            have hO9 : Only (fun b => b = w.heap.size) w8 W9 := by rw [← hW9]; exact only_six (.slice (some ⟨g, 0, none⟩) ws.length cap) (.int .i64 i3) (.int .i64 d3) (.int .i64 m3) (.int .i64 a3) (.int .i64 e3) w8 rfl
            obtain ⟨⟨tb0, tb1, tb2, tb3, tb4, tb5⟩, tbf, tbl⟩ := z9.cells
            have tbf2 := tbf 2
            obtain ⟨W10, hW10⟩ : ∃ W, W9.setCell ⟨w.heap.size, 2, none⟩ (.int .i64 d) = W := ⟨_, rfl⟩
            have z10 : SB W10 w.heap.size g ws.length cap i3 d m3 a3 e3 := by
              have h := z9
              rw [← hW10]
              unfold SB at h ⊢
              simp [World.setCell, Array.getElem?_modify, h]
            have hO10 : Only (fun b => b = w.heap.size) w8 W10 := by rw [← hW10]; exact hO9.setCell (p := ⟨w.heap.size, 2, none⟩) (.inl rfl) _
            obtain ⟨⟨tc0, tc1, tc2, tc3, tc4, tc5⟩, -, tcl⟩ := z10.cells
            have HF10 := Lib.hid (hF8.only hO10)
            have HOr := Lib.hid (And.intro hor8 (And.intro hO10 hs8))
            clear z8 hF8 taf z9 hO9 tbf z10 hO10 hor8 hb8

            obtain ⟨bF, q2F, q3F, szF⟩ := HF10.out
            obtain ⟨⟨y0', y1', y2', y3', y4', y5'⟩, ⟨yf0, yf1, yf2, yf3, yf4, yf5⟩, yl'⟩ := six_cells q2F
            obtain ⟨⟨n0', n1', n2', n3', n4', n5', n6', n7', n8', n9', n10'⟩, nf, nl'⟩ := ele_cells q3F
            have nf0 := nf 0; have nf1 := nf 1; have nf2 := nf 2; have nf3 := nf 3; have nf4 := nf 4; have nf5 := nf 5; have nf6 := nf 6; have nf7 := nf 7; have nf8 := nf 8; have nf9 := nf 9; have nf10 := nf 10
            obtain ⟨rr, rs⟩ := six_ele q2F q3F (by omega) (.slice (some ⟨g, 0, none⟩) ws.length cap) (.int .i64 i3) (.int .i64 d) (.int .i64 m3) (.int .i64 a3) (.int .i64 e3) (.int .i64 3) (.int .i64 0) (.bool false) (.int .i64 0) (.float .f64 0) (.string ⟨#[]⟩) (.slice none 0 0) (.string ⟨#[]⟩) (.slice none 0 0) (.slice none 0 0) (.slice lT tl tc)
            obtain ⟨FF, hFF⟩ : ∃ FF, ((((((((((((((((((W10).setCell ⟨w.heap.size + 1, 0, none⟩ (.slice (some ⟨g, 0, none⟩) ws.length cap)).setCell ⟨w.heap.size + 1, 1, none⟩ (.int .i64 i3)).setCell ⟨w.heap.size + 1, 2, none⟩ (.int .i64 d)).setCell ⟨w.heap.size + 1, 3, none⟩ (.int .i64 m3)).setCell ⟨w.heap.size + 1, 4, none⟩ (.int .i64 a3)).setCell ⟨w.heap.size + 1, 5, none⟩ (.int .i64 e3)).setCell ⟨w.heap.size + 1 + 1, 0, none⟩ (.int .i64 3)).setCell ⟨w.heap.size + 1 + 1, 1, none⟩ (.int .i64 0)).setCell ⟨w.heap.size + 1 + 1, 2, none⟩ (.bool false)).setCell ⟨w.heap.size + 1 + 1, 3, none⟩ (.int .i64 0)).setCell ⟨w.heap.size + 1 + 1, 4, none⟩ (.float .f64 0)).setCell ⟨w.heap.size + 1 + 1, 5, none⟩ (.string ⟨#[]⟩)).setCell ⟨w.heap.size + 1 + 1, 6, none⟩ (.slice none 0 0)).setCell ⟨w.heap.size + 1 + 1, 7, none⟩ (.string ⟨#[]⟩)).setCell ⟨w.heap.size + 1 + 1, 8, none⟩ (.slice none 0 0)).setCell ⟨w.heap.size + 1 + 1, 9, none⟩ (.slice none 0 0)).setCell ⟨w.heap.size + 1 + 1, 10, none⟩ (.slice lT tl tc)) = FF := ⟨_, rfl⟩
            rw [hFF] at rr rs
            have hFs : FF.heap.size = W10.heap.size := by rw [← hFF]; simp [World.setCell]
            have hFk : ∀ q, w.heap.size + 1 + 1 < q → FF.heap[q]? = W10.heap[q]? := fun q h1 => by
              rw [← hFF]
              exact (ele_far (by omega) _ _ _ _ _ _ _ _ _ _ _).trans (six_far (by omega) _ _ _ _ _ _)
            have hFb : Below w.heap.size w FF := by
              rw [← hFF]
              repeat (with_reducible first | exact bF | refine Below.setCell ?_ (by simp <;> omega) _)
            obtain ⟨⟨f0', f1', f2', f3', f4', f5'⟩, -, -⟩ := six_cells rr
            obtain ⟨⟨g0', g1', g2', g3', g4', g5', g6', g7', g8', g9', g10'⟩, -, -⟩ := ele_cells rs
            have HEnd : Hid (Below w.heap.size w FF ∧ ∀ q, w.heap.size + 3 ≤ q → FF.heap[q]? = W10.heap[q]?) := Lib.hid ⟨hFb, fun q h => hFk q (by omega)⟩
            have HEs : Hid (FF.heap.size = W10.heap.size) := Lib.hid hFs
            clear rr rs hFs hFk hFb q2F q3F bF nf szF
            go_wp2_with fail
            refine bodyPost_ret (v := .tuple #[.agg #[.slice (some ⟨g, 0, none⟩) ws.length cap, .int .i64 i3, .int .i64 d, .int .i64 m3, .int .i64 a3, .int .i64 e3], .agg #[.int .i64 3, .int .i64 0, .bool false, .int .i64 0, .float .f64 0, .string ⟨#[]⟩, .slice none 0 0, .string ⟨#[]⟩, .slice none 0 0, .slice none 0 0, .slice lT tl tc]]) (by simp [results, Tryd.results46, go_sem, f0', f1', f2', f3', f4', f5', g0', g1', g2', g3', g4', g5', g6', g7', g8', g9', g10']) rfl ?_
            refine ⟨_, _, _, _, _, _, _, _, _, _, _, _, _, _, _, _, _, _, _, _, _, _, _, _, rfl, HEnd.out.1, ?_⟩
            obtain ⟨hor8, hO10, hs8⟩ := HOr.out
            have hsb := HSB.out
            rcases hor8 with ⟨l, s, hr, rfl, hlt, rfl, rfl, rfl, hrd⟩ | ⟨⟨j, c, hr⟩, he⟩
            · refine .inl ⟨.mk 3 vz pz l, s, by rw [HRA.out, hr], rfl, hlt, rfl, rfl, rfl, rfl, _, _, _, _, _, _, _, _, _, _, rfl, rdS_leaf (by decide) (by decide) (by decide) (by decide), rdP_nil _ _, keepS_Tr k _ _ _ _ _ _ (fun q hq => World.cell?_of_block ((HEnd.out.2 q.block (by have := hq.1; omega)).trans (hO10.block _ hq.2 (by have := hq.1; omega)))) (fun b hb => ⟨by have := hb.1; omega, by rw [HEs.out]; exact Nat.lt_of_lt_of_le hb.2 hO10.size⟩) hrd⟩
            · exact .inr ⟨⟨j, c, by rw [HRA.out, hr]⟩, he⟩
          · have HK0 := Lib.hid (And.intro hk0 hd4)
            clear hk0 hd4

            go_wp2_with fail
            refine HIN.out.mono ?_
            rintro e w6 ⟨rfl, hb6⟩
            have z6 := H5.out.1.on hb6
            obtain ⟨⟨sa0, sa1, sa2, sa3, sa4, sa5⟩, saf, sal⟩ := z6.cells
            have saf0 := saf 0; have saf1 := saf 1; have saf2 := saf 2; have saf3 := saf 3; have saf4 := saf 4; have saf5 := saf 5
            obtain ⟨W7, hW7⟩ : ∃ W, (((((((w6).setCell ⟨w.heap.size, 0, none⟩ (.slice (some ⟨g, 0, none⟩) ws.length cap)).setCell ⟨w.heap.size, 1, none⟩ (.int .i64 i)).setCell ⟨w.heap.size, 2, none⟩ (.int .i64 d4)).setCell ⟨w.heap.size, 3, none⟩ (.int .i64 m)).setCell ⟨w.heap.size, 4, none⟩ (.int .i64 a4)).setCell ⟨w.heap.size, 5, none⟩ (.int .i64 0)) = W := ⟨_, rfl⟩
            have z7 : SB W7 w.heap.size g ws.length cap i d4 m a4 0 := by rw [← hW7]; exact six_done z6 (.slice (some ⟨g, 0, none⟩) ws.length cap) (.int .i64 i) (.int .i64 d4) (.int .i64 m) (.int .i64 a4) (.int .i64 0)
            have hO7 : Only (fun b => b = w.heap.size) w5 W7 := by rw [← hW7]; exact (Only.of_below hb6).trans (only_six (.slice (some ⟨g, 0, none⟩) ws.length cap) (.int .i64 i) (.int .i64 d4) (.int .i64 m) (.int .i64 a4) (.int .i64 0) w6 rfl)
            have hF7 := H5.out.2.1.only hO7
            have z77 := (hO7.block X2.heap.size (Array.getElem?_eq_some_iff.1 H5.out.2.2.1).1 (by have := HSB.out; omega)).trans H5.out.2.2.1
            have hwd7 := HH.out.1.on hF7.1
            obtain ⟨⟨sb0, sb1, sb2, sb3, sb4, sb5⟩, sbf, sbl⟩ := z7.cells
            have sbf1 := sbf 1
            obtain ⟨⟨sc0, sc1, sc2, sc3, sc4⟩, scl⟩ := five_cells z77
            have hs7 : w.heap.size + 3 ≤ W7.heap.size := hF7.2.2.2
            have H7 := Lib.hid (And.intro z7 (And.intro hO7 (And.intro hF7 hwd7)))
            clear hb6 z6 saf z7 hO7 hF7 z77 hwd7 sbf

            obtain ⟨W8, hW8⟩ : ∃ W, W7.setCell ⟨w.heap.size, 1, none⟩ (.int .i64 ((i : Int) + 1)) = W := ⟨_, rfl⟩
            have z88 : SB W8 w.heap.size g ws.length cap ((i : Int) + 1) d4 m a4 0 := by
              have h := H7.out.1
              rw [← hW8]
              unfold SB at h ⊢
              simp [World.setCell, Array.getElem?_modify, h]
            have hO8 : Only (fun b => b = w.heap.size) w5 W8 := by rw [← hW8]; exact H7.out.2.1.setCell (p := ⟨w.heap.size, 1, none⟩) (.inl rfl) _
            have hF88 := H5.out.2.1.only hO8
            obtain ⟨i5, a5, e5, hsg, hst⟩ := steps_uu (cap := cap) HG.out HS.out HE.out (a := a4) (HH.out.1.on hF88.1) HH.out.2.1 HH.out.2.2.1 HB.out.2.2 HDK.out HK0.out.1 HM.out
            rw [← HK0.out.2, show ((i + 1 : Nat) : Int) = (i : Int) + 1 from rfl] at hsg
            rw [← HK0.out.2] at hst
            have HSG := Lib.hid hsg
            have H8 := Lib.hid (And.intro z88 (And.intro hF88 hst))
            obtain ⟨⟨sd0, sd1, sd2, sd3, sd4, sd5⟩, -, sdl⟩ := z88.cells
            clear z88 hO8 hF88 hsg hst
            go_wp2_with fail
            refine HSG.out.mono ?_
            rintro e w9 ⟨rfl, hb9⟩
            have z99 := H8.out.1.on hb9
            obtain ⟨⟨se0, se1, se2, se3, se4, se5⟩, sef, sel⟩ := z99.cells
            have sef0 := sef 0; have sef1 := sef 1; have sef2 := sef 2; have sef3 := sef 3; have sef4 := sef 4; have sef5 := sef 5
            obtain ⟨WA, hWA⟩ : ∃ W, (((((((w9).setCell ⟨w.heap.size, 0, none⟩ (.slice (some ⟨g, 0, none⟩) ws.length cap)).setCell ⟨w.heap.size, 1, none⟩ (.int .i64 i5)).setCell ⟨w.heap.size, 2, none⟩ (.int .i64 d4)).setCell ⟨w.heap.size, 3, none⟩ (.int .i64 m)).setCell ⟨w.heap.size, 4, none⟩ (.int .i64 a5)).setCell ⟨w.heap.size, 5, none⟩ (.int .i64 e5)) = W := ⟨_, rfl⟩
            have zA : SB WA w.heap.size g ws.length cap i5 d4 m a5 e5 := by rw [← hWA]; exact six_done z99 (.slice (some ⟨g, 0, none⟩) ws.length cap) (.int .i64 i5) (.int .i64 d4) (.int .i64 m) (.int .i64 a5) (.int .i64 e5)
            have hOA : Only (fun b => b = w.heap.size) W8 WA := by rw [← hWA]; exact (Only.of_below hb9).trans (only_six (.slice (some ⟨g, 0, none⟩) ws.length cap) (.int .i64 i5) (.int .i64 d4) (.int .i64 m) (.int .i64 a5) (.int .i64 e5) w9 rfl)
            have hFA := H8.out.2.1.only hOA
            obtain ⟨⟨sf0, sf1, sf2, sf3, sf4, sf5⟩, -, sfl⟩ := zA.cells
            have HST := Lib.hid (H8.out.2.2 WA (HH.out.1.on hFA.1))
            have HA := Lib.hid (And.intro zA hFA)
            have hsA : w.heap.size + 3 ≤ WA.heap.size := hFA.2.2.2
            clear hb9 z99 sef zA hOA hFA

            go_wp2_with fail
            refine HST.out.mono ?_
            rintro e w8 ⟨i3, d3, m3, a3, e3, lT, tl, tc, rfl, hb8, hor8⟩
            have z8 := (HA.out.1).on hb8
            have hF8 := (HA.out.2).on hb8
            have hs8 : w.heap.size + 3 ≤ w8.heap.size := hF8.2.2.2
            obtain ⟨⟨ta0, ta1, ta2, ta3, ta4, ta5⟩, taf, tal⟩ := z8.cells
            have taf0 := taf 0; have taf1 := taf 1; have taf2 := taf 2; have taf3 := taf 3; have taf4 := taf 4; have taf5 := taf 5
            obtain ⟨W9, hW9⟩ : ∃ W, (((((((w8).setCell ⟨w.heap.size, 0, none⟩ (.slice (some ⟨g, 0, none⟩) ws.length cap)).setCell ⟨w.heap.size, 1, none⟩ (.int .i64 i3)).setCell ⟨w.heap.size, 2, none⟩ (.int .i64 d3)).setCell ⟨w.heap.size, 3, none⟩ (.int .i64 m3)).setCell ⟨w.heap.size, 4, none⟩ (.int .i64 a3)).setCell ⟨w.heap.size, 5, none⟩ (.int .i64 e3)) = W := ⟨_, rfl⟩
            have z9 : SB W9 w.heap.size g ws.length cap i3 d3 m3 a3 e3 := by rw [← hW9]; exact six_done z8 (.slice (some ⟨g, 0, none⟩) ws.length cap) (.int .i64 i3) (.int .i64 d3) (.int .i64 m3) (.int .i64 a3) (.int .i64 e3)
            have hO9 : Only (fun b => b = w.heap.size) w8 W9 := by rw [← hW9]; exact only_six (.slice (some ⟨g, 0, none⟩) ws.length cap) (.int .i64 i3) (.int .i64 d3) (.int .i64 m3) (.int .i64 a3) (.int .i64 e3) w8 rfl
            obtain ⟨⟨tb0, tb1, tb2, tb3, tb4, tb5⟩, tbf, tbl⟩ := z9.cells
            have tbf2 := tbf 2
            obtain ⟨W10, hW10⟩ : ∃ W, W9.setCell ⟨w.heap.size, 2, none⟩ (.int .i64 d) = W := ⟨_, rfl⟩
            have z10 : SB W10 w.heap.size g ws.length cap i3 d m3 a3 e3 := by
              have h := z9
              rw [← hW10]
              unfold SB at h ⊢
              simp [World.setCell, Array.getElem?_modify, h]
            have hO10 : Only (fun b => b = w.heap.size) w8 W10 := by rw [← hW10]; exact hO9.setCell (p := ⟨w.heap.size, 2, none⟩) (.inl rfl) _
            obtain ⟨⟨tc0, tc1, tc2, tc3, tc4, tc5⟩, -, tcl⟩ := z10.cells
            have HF10 := Lib.hid (hF8.only hO10)
            have HOr := Lib.hid (And.intro hor8 (And.intro hO10 hs8))
            clear z8 hF8 taf z9 hO9 tbf z10 hO10 hor8 hb8

            obtain ⟨bF, q2F, q3F, szF⟩ := HF10.out
            obtain ⟨⟨y0', y1', y2', y3', y4', y5'⟩, ⟨yf0, yf1, yf2, yf3, yf4, yf5⟩, yl'⟩ := six_cells q2F
            obtain ⟨⟨n0', n1', n2', n3', n4', n5', n6', n7', n8', n9', n10'⟩, nf, nl'⟩ := ele_cells q3F
            have nf0 := nf 0; have nf1 := nf 1; have nf2 := nf 2; have nf3 := nf 3; have nf4 := nf 4; have nf5 := nf 5; have nf6 := nf 6; have nf7 := nf 7; have nf8 := nf 8; have nf9 := nf 9; have nf10 := nf 10
            obtain ⟨rr, rs⟩ := six_ele q2F q3F (by omega) (.slice (some ⟨g, 0, none⟩) ws.length cap) (.int .i64 i3) (.int .i64 d) (.int .i64 m3) (.int .i64 a3) (.int .i64 e3) (.int .i64 3) (.int .i64 0) (.bool false) (.int .i64 0) (.float .f64 0) (.string ⟨#[]⟩) (.slice none 0 0) (.string ⟨#[]⟩) (.slice none 0 0) (.slice none 0 0) (.slice lT tl tc)
            obtain ⟨FF, hFF⟩ : ∃ FF, ((((((((((((((((((W10).setCell ⟨w.heap.size + 1, 0, none⟩ (.slice (some ⟨g, 0, none⟩) ws.length cap)).setCell ⟨w.heap.size + 1, 1, none⟩ (.int .i64 i3)).setCell ⟨w.heap.size + 1, 2, none⟩ (.int .i64 d)).setCell ⟨w.heap.size + 1, 3, none⟩ (.int .i64 m3)).setCell ⟨w.heap.size + 1, 4, none⟩ (.int .i64 a3)).setCell ⟨w.heap.size + 1, 5, none⟩ (.int .i64 e3)).setCell ⟨w.heap.size + 1 + 1, 0, none⟩ (.int .i64 3)).setCell ⟨w.heap.size + 1 + 1, 1, none⟩ (.int .i64 0)).setCell ⟨w.heap.size + 1 + 1, 2, none⟩ (.bool false)).setCell ⟨w.heap.size + 1 + 1, 3, none⟩ (.int .i64 0)).setCell ⟨w.heap.size + 1 + 1, 4, none⟩ (.float .f64 0)).setCell ⟨w.heap.size + 1 + 1, 5, none⟩ (.string ⟨#[]⟩)).setCell ⟨w.heap.size + 1 + 1, 6, none⟩ (.slice none 0 0)).setCell ⟨w.heap.size + 1 + 1, 7, none⟩ (.string ⟨#[]⟩)).setCell ⟨w.heap.size + 1 + 1, 8, none⟩ (.slice none 0 0)).setCell ⟨w.heap.size + 1 + 1, 9, none⟩ (.slice none 0 0)).setCell ⟨w.heap.size + 1 + 1, 10, none⟩ (.slice lT tl tc)) = FF := ⟨_, rfl⟩
            rw [hFF] at rr rs
            have hFs : FF.heap.size = W10.heap.size := by rw [← hFF]; simp [World.setCell]
            have hFk : ∀ q, w.heap.size + 1 + 1 < q → FF.heap[q]? = W10.heap[q]? := fun q h1 => by
              rw [← hFF]
              exact (ele_far (by omega) _ _ _ _ _ _ _ _ _ _ _).trans (six_far (by omega) _ _ _ _ _ _)
            have hFb : Below w.heap.size w FF := by
              rw [← hFF]
              repeat (with_reducible first | exact bF | refine Below.setCell ?_ (by simp <;> omega) _)
            obtain ⟨⟨f0', f1', f2', f3', f4', f5'⟩, -, -⟩ := six_cells rr
            obtain ⟨⟨g0', g1', g2', g3', g4', g5', g6', g7', g8', g9', g10'⟩, -, -⟩ := ele_cells rs
            have HEnd : Hid (Below w.heap.size w FF ∧ ∀ q, w.heap.size + 3 ≤ q → FF.heap[q]? = W10.heap[q]?) := Lib.hid ⟨hFb, fun q h => hFk q (by omega)⟩
            have HEs : Hid (FF.heap.size = W10.heap.size) := Lib.hid hFs
            clear rr rs hFs hFk hFb q2F q3F bF nf szF
            go_wp2_with fail
            refine bodyPost_ret (v := .tuple #[.agg #[.slice (some ⟨g, 0, none⟩) ws.length cap, .int .i64 i3, .int .i64 d, .int .i64 m3, .int .i64 a3, .int .i64 e3], .agg #[.int .i64 3, .int .i64 0, .bool false, .int .i64 0, .float .f64 0, .string ⟨#[]⟩, .slice none 0 0, .string ⟨#[]⟩, .slice none 0 0, .slice none 0 0, .slice lT tl tc]]) (by simp [results, Tryd.results46, go_sem, f0', f1', f2', f3', f4', f5', g0', g1', g2', g3', g4', g5', g6', g7', g8', g9', g10']) rfl ?_
            refine ⟨_, _, _, _, _, _, _, _, _, _, _, _, _, _, _, _, _, _, _, _, _, _, _, _, rfl, HEnd.out.1, ?_⟩
            obtain ⟨hor8, hO10, hs8⟩ := HOr.out
            have hsb := HSB.out
            rcases hor8 with ⟨l, s, hr, rfl, hlt, rfl, rfl, rfl, hrd⟩ | ⟨⟨j, c, hr⟩, he⟩
            · refine .inl ⟨.mk 3 vz pz l, s, by rw [HRA.out, hr], rfl, hlt, rfl, rfl, rfl, rfl, _, _, _, _, _, _, _, _, _, _, rfl, rdS_leaf (by decide) (by decide) (by decide) (by decide), rdP_nil _ _, keepS_Tr k _ _ _ _ _ _ (fun q hq => World.cell?_of_block ((HEnd.out.2 q.block (by have := hq.1; omega)).trans (hO10.block _ hq.2 (by have := hq.1; omega)))) (fun b hb => ⟨by have := hb.1; omega, by rw [HEs.out]; exact Nat.lt_of_lt_of_le hb.2 hO10.size⟩) hrd⟩
            · exact .inr ⟨⟨j, c, by rw [HRA.out, hr]⟩, he⟩

set_option maxHeartbeats 4000000 in
set_option maxRecDepth 100000 in
theorem arg_non {w : World} {g cap : Nat} {ws : List Wd} {i d k m : Nat} {x : Wd} (hG : Gd ws) (hC : CanW ws) (hS : ∀ q, k = q + 1 → StepsC g cap ws q) (hE : ∀ (i d m a e : Int) (W : World), e ≠ 0 → Calls Tryd.prog 28 #[StV g ws.length cap i d m a e] W (fun z w' => ∃ lA ll lc, z = .returned (.tuple #[StV g ws.length cap i d m a e, .slice lA ll lc]) ∧ Below W.heap.size W w'))
    (hw : WdsAt w g ws) (hx : ws[i]? = some x) (hdk : d + k = 12) (hm : m ≤ 150) (a : Int) (hv : valA x = false) (hk : x.k ≠ 1) :
    Calls Tryd.prog 46 #[StV g ws.length cap i d m a 0] w (ArgP g cap ws k i d m a w) := by
  obtain ⟨e0, e1, e2, e3, e4, hi⟩ := hw.word hx
  have hi' : (i : Int) < (ws.length : Int) := by omega
  have hgl := hw.lt
  have HC := Lib.hid (fr3_new w #[.slice (some ⟨g, 0, none⟩) ws.length cap, .int .i64 i, .int .i64 d, .int .i64 m, .int .i64 a, .int .i64 0])
  have HV := Lib.hid (fun W (hb : Below w.heap.size w W) => val_no (cap := cap) (hw.on hb) hx d m a hv)

  have d1 : (x.k == 1) = false := by simpa using hk
  have HH := Lib.hid (And.intro hw (And.intro hx (And.intro hdk (And.intro hm (And.intro hv hk)))))
  clear hk

  have HG := Lib.hid hG; have HCan := Lib.hid hC; have HS := Lib.hid hS; have HE := Lib.hid hE
  clear hw hx hdk hm hv hi hG hC hS hE
  go_enter Tryd.func46, Tryd.ntmps46
  go_wp2_with fail
  refine (HV.out _ HC.out.1.1).mono ?_
  rintro e w1 ⟨rfl, hb1⟩
  have hF1 := HC.out.1.on hb1
  have hs1 : w.heap.size + 3 ≤ w1.heap.size := hF1.2.2.2
  have z1 : SB w1 w.heap.size g ws.length cap i d m a 0 := (hb1.block w.heap.size (by have := HC.out.1.2.2.2; omega)).trans HC.out.2
  obtain ⟨X2, hX2⟩ : ∃ X, (w1.alloc (.cells #[.slice (some ⟨g, 0, none⟩) ws.length cap, .int .i64 i, .int .i64 d, .int .i64 m, .int .i64 a, .int .i64 0] 63)).alloc (.cells #[.int .i64 0, .bool false, .int .i64 0, .float .f64 0, .string ⟨#[]⟩, .slice none 0 0] 25) = X := ⟨_, rfl⟩
  have hb2 : Below w1.heap.size w1 X2 := hX2 ▸ ((Below.refl _ w1).alloc (Nat.le_refl _) _).alloc (by simp) _
  have z4 : X2.heap[w1.heap.size]? = some (.cells #[.slice (some ⟨g, 0, none⟩) ws.length cap, .int .i64 i, .int .i64 d, .int .i64 m, .int .i64 a, .int .i64 0] 63 (0, 0)) := hX2 ▸ two_a' w1 _ _
  have z2 := z1.on hb2
  have hF2 := hF1.on hb2
  obtain ⟨u0, u1, u2, u3, u4, -⟩ := (HH.out.1.on hF2.1).word HH.out.2.1
  obtain ⟨⟨xa0, xa1, xa2, xa3, xa4, xa5⟩, -, xal⟩ := six_cells z4
  obtain ⟨⟨xb0, xb1, xb2, xb3, xb4, xb5⟩, -, xbl⟩ := z2.cells
  have HX2 := Lib.hid hX2

  obtain ⟨X3, hX3⟩ : ∃ X, X2.alloc (.cells #[.int .i64 x.k, .string x.s, .int .i64 x.n, .float .f64 x.f, .int .i64 (x.at_ : Nat)] 65) = X := ⟨_, rfl⟩
  have hb3 : Below X2.heap.size X2 X3 := hX3 ▸ (Below.refl _ X2).alloc (Nat.le_refl _) _
  have z7 : X3.heap[X2.heap.size]? = some (.cells #[.int .i64 x.k, .string x.s, .int .i64 x.n, .float .f64 x.f, .int .i64 (x.at_ : Nat)] 65 (0, 0)) := hX3 ▸ heap_alloc_new X2 _
  have z3 := z2.on hb3
  have hF3 := hF2.on hb3
  obtain ⟨⟨xc0, xc1, xc2, xc3, xc4⟩, xcl⟩ := five_cells z7
  obtain ⟨⟨xd0, xd1, xd2, xd3, xd4, xd5⟩, -, xdl⟩ := z3.cells

  have H5 := Lib.hid (And.intro z3 (And.intro hF3 (And.intro z7 (HH.out.1.on hF3.1))))
  obtain ⟨w5, hw5⟩ : ∃ v, X3 = v := ⟨_, rfl⟩
  rw [hw5] at H5 xc0 xc1 xc2 xc3 xc4 xcl xd0 xd1 xd2 xd3 xd4 xd5 xdl hX3
  have hs5 : w.heap.size + 3 ≤ w5.heap.size := H5.out.2.1.2.2.2
  have hSB : Hid (w.heap.size + 3 ≤ X2.heap.size) := Lib.hid hF2.2.2.2
  clear hX2 hb1 hF1 z1 hb2 z4 z2 hF2 hb3 z7 z3 hF3 hw5
  go_upto_region 2 with fail
  rw [HX2.out]
  go_upto_region 5 with fail

  have HDK := Lib.hid HH.out.2.2.1; have HM := Lib.hid HH.out.2.2.2.1
  have HRA : Hid (rArg (gx ws) k (rTrav (gx ws) k) ⟨i, m⟩ = .bad i 120) := Lib.hid (rArg_none (s := ⟨i, m⟩) (by show (gx ws i).k ≠ 1; rw [gx_of HH.out.2.1]; exact HH.out.2.2.2.2.2) (by show valA (gx ws i) = false; rw [gx_of HH.out.2.1]; exact HH.out.2.2.2.2.1))
  have HNO : Hid (∃ j c, rTrav0 (gx ws) k ⟨i, m⟩ = .bad j c) := Lib.hid (rTrav0_none (s := ⟨i, m⟩) (by show (gx ws i).k ≠ 1; rw [gx_of HH.out.2.1]; exact HH.out.2.2.2.2.2))
  have HSB : Hid (w.heap.size + 3 ≤ X2.heap.size) := hSB

  obtain ⟨d4, a4, e4, hor4, hin⟩ := into_any (cap := cap) H5.out.2.2.2 HH.out.2.1 m a HDK.out
  have HIN := Lib.hid hin
  clear hin
  rcases hor4 with ⟨hk0, he4⟩ | ⟨hk0, hd4, rfl, rfl⟩
  · have h1 : (e4 == 0) = false := by simpa using he4
    have HK0 := Lib.hid (And.intro hk0 he4)
    clear he4 hk0

    go_wp2_with fail
    refine HIN.out.mono ?_
    rintro e w6 ⟨rfl, hb6⟩
    have z6 := H5.out.1.on hb6
    obtain ⟨⟨sa0, sa1, sa2, sa3, sa4, sa5⟩, saf, sal⟩ := z6.cells
    have saf0 := saf 0; have saf1 := saf 1; have saf2 := saf 2; have saf3 := saf 3; have saf4 := saf 4; have saf5 := saf 5
    obtain ⟨W7, hW7⟩ : ∃ W, (((((((w6).setCell ⟨w.heap.size, 0, none⟩ (.slice (some ⟨g, 0, none⟩) ws.length cap)).setCell ⟨w.heap.size, 1, none⟩ (.int .i64 i)).setCell ⟨w.heap.size, 2, none⟩ (.int .i64 d4)).setCell ⟨w.heap.size, 3, none⟩ (.int .i64 m)).setCell ⟨w.heap.size, 4, none⟩ (.int .i64 a4)).setCell ⟨w.heap.size, 5, none⟩ (.int .i64 e4)) = W := ⟨_, rfl⟩
    have z7 : SB W7 w.heap.size g ws.length cap i d4 m a4 e4 := by rw [← hW7]; exact six_done z6 (.slice (some ⟨g, 0, none⟩) ws.length cap) (.int .i64 i) (.int .i64 d4) (.int .i64 m) (.int .i64 a4) (.int .i64 e4)
    have hO7 : Only (fun b => b = w.heap.size) w5 W7 := by rw [← hW7]; exact (Only.of_below hb6).trans (only_six (.slice (some ⟨g, 0, none⟩) ws.length cap) (.int .i64 i) (.int .i64 d4) (.int .i64 m) (.int .i64 a4) (.int .i64 e4) w6 rfl)
    have hF7 := H5.out.2.1.only hO7
    have z77 := (hO7.block X2.heap.size (Array.getElem?_eq_some_iff.1 H5.out.2.2.1).1 (by have := HSB.out; omega)).trans H5.out.2.2.1
    have hwd7 := HH.out.1.on hF7.1
    obtain ⟨⟨sb0, sb1, sb2, sb3, sb4, sb5⟩, sbf, sbl⟩ := z7.cells
    have sbf1 := sbf 1
    obtain ⟨⟨sc0, sc1, sc2, sc3, sc4⟩, scl⟩ := five_cells z77
    have hs7 : w.heap.size + 3 ≤ W7.heap.size := hF7.2.2.2
    have H7 := Lib.hid (And.intro z7 (And.intro hO7 (And.intro hF7 hwd7)))
    clear hb6 z6 saf z7 hO7 hF7 z77 hwd7 sbf

    have HST := Lib.hid ((steps_in (cap := cap) (a := a) (d4 := d4) (a4 := a4) HS.out HE.out H7.out.2.2.2 HH.out.2.1 HDK.out HM.out (.inl HK0.out)).mono (fun _ _ h => h.to rfl))

    go_wp2_with fail
    refine HST.out.mono ?_
    rintro e w8 ⟨i3, d3, m3, a3, e3, lT, tl, tc, rfl, hb8, hor8⟩
    have z8 := (H7.out.1).on hb8
    have hF8 := (H7.out.2.2.1).on hb8
    have hs8 : w.heap.size + 3 ≤ w8.heap.size := hF8.2.2.2
    obtain ⟨⟨ta0, ta1, ta2, ta3, ta4, ta5⟩, taf, tal⟩ := z8.cells
    have taf0 := taf 0; have taf1 := taf 1; have taf2 := taf 2; have taf3 := taf 3; have taf4 := taf 4; have taf5 := taf 5
    obtain ⟨W9, hW9⟩ : ∃ W, (((((((w8).setCell ⟨w.heap.size, 0, none⟩ (.slice (some ⟨g, 0, none⟩) ws.length cap)).setCell ⟨w.heap.size, 1, none⟩ (.int .i64 i3)).setCell ⟨w.heap.size, 2, none⟩ (.int .i64 d3)).setCell ⟨w.heap.size, 3, none⟩ (.int .i64 m3)).setCell ⟨w.heap.size, 4, none⟩ (.int .i64 a3)).setCell ⟨w.heap.size, 5, none⟩ (.int .i64 e3)) = W := ⟨_, rfl⟩
    have z9 : SB W9 w.heap.size g ws.length cap i3 d3 m3 a3 e3 := by rw [← hW9]; exact six_done z8 (.slice (some ⟨g, 0, none⟩) ws.length cap) (.int .i64 i3) (.int .i64 d3) (.int .i64 m3) (.int .i64 a3) (.int .i64 e3)
    have hO9 : Only (fun b => b = w.heap.size) w8 W9 := by rw [← hW9]; exact only_six (.slice (some ⟨g, 0, none⟩) ws.length cap) (.int .i64 i3) (.int .i64 d3) (.int .i64 m3) (.int .i64 a3) (.int .i64 e3) w8 rfl
    obtain ⟨⟨tb0, tb1, tb2, tb3, tb4, tb5⟩, tbf, tbl⟩ := z9.cells
    have tbf2 := tbf 2
    obtain ⟨W10, hW10⟩ : ∃ W, W9.setCell ⟨w.heap.size, 2, none⟩ (.int .i64 d) = W := ⟨_, rfl⟩
    have z10 : SB W10 w.heap.size g ws.length cap i3 d m3 a3 e3 := by
      have h := z9
      rw [← hW10]
      unfold SB at h ⊢
      simp [World.setCell, Array.getElem?_modify, h]
    have hO10 : Only (fun b => b = w.heap.size) w8 W10 := by rw [← hW10]; exact hO9.setCell (p := ⟨w.heap.size, 2, none⟩) (.inl rfl) _
    obtain ⟨⟨tc0, tc1, tc2, tc3, tc4, tc5⟩, -, tcl⟩ := z10.cells
    have HF10 := Lib.hid (hF8.only hO10)
    have HOr := Lib.hid (And.intro hor8 (And.intro hO10 hs8))
    clear z8 hF8 taf z9 hO9 tbf z10 hO10 hor8 hb8

    obtain ⟨bF, q2F, q3F, szF⟩ := HF10.out
    obtain ⟨⟨y0', y1', y2', y3', y4', y5'⟩, ⟨yf0, yf1, yf2, yf3, yf4, yf5⟩, yl'⟩ := six_cells q2F
    obtain ⟨⟨n0', n1', n2', n3', n4', n5', n6', n7', n8', n9', n10'⟩, nf, nl'⟩ := ele_cells q3F
    have nf0 := nf 0; have nf1 := nf 1; have nf2 := nf 2; have nf3 := nf 3; have nf4 := nf 4; have nf5 := nf 5; have nf6 := nf 6; have nf7 := nf 7; have nf8 := nf 8; have nf9 := nf 9; have nf10 := nf 10
    obtain ⟨rr, rs⟩ := six_ele q2F q3F (by omega) (.slice (some ⟨g, 0, none⟩) ws.length cap) (.int .i64 i3) (.int .i64 d) (.int .i64 m3) (.int .i64 a3) (.int .i64 e3) (.int .i64 3) (.int .i64 0) (.bool false) (.int .i64 0) (.float .f64 0) (.string ⟨#[]⟩) (.slice none 0 0) (.string ⟨#[]⟩) (.slice none 0 0) (.slice none 0 0) (.slice lT tl tc)
    obtain ⟨FF, hFF⟩ : ∃ FF, ((((((((((((((((((W10).setCell ⟨w.heap.size + 1, 0, none⟩ (.slice (some ⟨g, 0, none⟩) ws.length cap)).setCell ⟨w.heap.size + 1, 1, none⟩ (.int .i64 i3)).setCell ⟨w.heap.size + 1, 2, none⟩ (.int .i64 d)).setCell ⟨w.heap.size + 1, 3, none⟩ (.int .i64 m3)).setCell ⟨w.heap.size + 1, 4, none⟩ (.int .i64 a3)).setCell ⟨w.heap.size + 1, 5, none⟩ (.int .i64 e3)).setCell ⟨w.heap.size + 1 + 1, 0, none⟩ (.int .i64 3)).setCell ⟨w.heap.size + 1 + 1, 1, none⟩ (.int .i64 0)).setCell ⟨w.heap.size + 1 + 1, 2, none⟩ (.bool false)).setCell ⟨w.heap.size + 1 + 1, 3, none⟩ (.int .i64 0)).setCell ⟨w.heap.size + 1 + 1, 4, none⟩ (.float .f64 0)).setCell ⟨w.heap.size + 1 + 1, 5, none⟩ (.string ⟨#[]⟩)).setCell ⟨w.heap.size + 1 + 1, 6, none⟩ (.slice none 0 0)).setCell ⟨w.heap.size + 1 + 1, 7, none⟩ (.string ⟨#[]⟩)).setCell ⟨w.heap.size + 1 + 1, 8, none⟩ (.slice none 0 0)).setCell ⟨w.heap.size + 1 + 1, 9, none⟩ (.slice none 0 0)).setCell ⟨w.heap.size + 1 + 1, 10, none⟩ (.slice lT tl tc)) = FF := ⟨_, rfl⟩
    rw [hFF] at rr rs
    have hFs : FF.heap.size = W10.heap.size := by rw [← hFF]; simp [World.setCell]
    have hFk : ∀ q, w.heap.size + 1 + 1 < q → FF.heap[q]? = W10.heap[q]? := fun q h1 => by
      rw [← hFF]
      exact (ele_far (by omega) _ _ _ _ _ _ _ _ _ _ _).trans (six_far (by omega) _ _ _ _ _ _)
    have hFb : Below w.heap.size w FF := by
      rw [← hFF]
      repeat (with_reducible first | exact bF | refine Below.setCell ?_ (by simp <;> omega) _)
    obtain ⟨⟨f0', f1', f2', f3', f4', f5'⟩, -, -⟩ := six_cells rr
    obtain ⟨⟨g0', g1', g2', g3', g4', g5', g6', g7', g8', g9', g10'⟩, -, -⟩ := ele_cells rs
    have HEnd : Hid (Below w.heap.size w FF ∧ ∀ q, w.heap.size + 3 ≤ q → FF.heap[q]? = W10.heap[q]?) := Lib.hid ⟨hFb, fun q h => hFk q (by omega)⟩
    have HEs : Hid (FF.heap.size = W10.heap.size) := Lib.hid hFs
    clear rr rs hFs hFk hFb q2F q3F bF nf szF
    go_wp2_with fail
    refine bodyPost_ret (v := .tuple #[.agg #[.slice (some ⟨g, 0, none⟩) ws.length cap, .int .i64 i3, .int .i64 d, .int .i64 m3, .int .i64 a3, .int .i64 e3], .agg #[.int .i64 3, .int .i64 0, .bool false, .int .i64 0, .float .f64 0, .string ⟨#[]⟩, .slice none 0 0, .string ⟨#[]⟩, .slice none 0 0, .slice none 0 0, .slice lT tl tc]]) (by simp [results, Tryd.results46, go_sem, f0', f1', f2', f3', f4', f5', g0', g1', g2', g3', g4', g5', g6', g7', g8', g9', g10']) rfl ?_
    refine ⟨_, _, _, _, _, _, _, _, _, _, _, _, _, _, _, _, _, _, _, _, _, _, _, _, rfl, HEnd.out.1, ?_⟩
    obtain ⟨hor8, -, -⟩ := HOr.out
    rcases hor8 with ⟨l, s, hr, -⟩ | ⟨-, he⟩
    · obtain ⟨j, c, h⟩ := HNO.out
      rw [hr] at h; cases h
    · exact .inr ⟨⟨_, _, HRA.out⟩, he⟩
  · have HK0 := Lib.hid (And.intro hk0 hd4)
    clear hk0 hd4

    go_wp2_with fail
    refine HIN.out.mono ?_
    rintro e w6 ⟨rfl, hb6⟩
    have z6 := H5.out.1.on hb6
    obtain ⟨⟨sa0, sa1, sa2, sa3, sa4, sa5⟩, saf, sal⟩ := z6.cells
    have saf0 := saf 0; have saf1 := saf 1; have saf2 := saf 2; have saf3 := saf 3; have saf4 := saf 4; have saf5 := saf 5
    obtain ⟨W7, hW7⟩ : ∃ W, (((((((w6).setCell ⟨w.heap.size, 0, none⟩ (.slice (some ⟨g, 0, none⟩) ws.length cap)).setCell ⟨w.heap.size, 1, none⟩ (.int .i64 i)).setCell ⟨w.heap.size, 2, none⟩ (.int .i64 d4)).setCell ⟨w.heap.size, 3, none⟩ (.int .i64 m)).setCell ⟨w.heap.size, 4, none⟩ (.int .i64 a4)).setCell ⟨w.heap.size, 5, none⟩ (.int .i64 0)) = W := ⟨_, rfl⟩
    have z7 : SB W7 w.heap.size g ws.length cap i d4 m a4 0 := by rw [← hW7]; exact six_done z6 (.slice (some ⟨g, 0, none⟩) ws.length cap) (.int .i64 i) (.int .i64 d4) (.int .i64 m) (.int .i64 a4) (.int .i64 0)
    have hO7 : Only (fun b => b = w.heap.size) w5 W7 := by rw [← hW7]; exact (Only.of_below hb6).trans (only_six (.slice (some ⟨g, 0, none⟩) ws.length cap) (.int .i64 i) (.int .i64 d4) (.int .i64 m) (.int .i64 a4) (.int .i64 0) w6 rfl)
    have hF7 := H5.out.2.1.only hO7
    have z77 := (hO7.block X2.heap.size (Array.getElem?_eq_some_iff.1 H5.out.2.2.1).1 (by have := HSB.out; omega)).trans H5.out.2.2.1
    have hwd7 := HH.out.1.on hF7.1
    obtain ⟨⟨sb0, sb1, sb2, sb3, sb4, sb5⟩, sbf, sbl⟩ := z7.cells
    have sbf1 := sbf 1
    obtain ⟨⟨sc0, sc1, sc2, sc3, sc4⟩, scl⟩ := five_cells z77
    have hs7 : w.heap.size + 3 ≤ W7.heap.size := hF7.2.2.2
    have H7 := Lib.hid (And.intro z7 (And.intro hO7 (And.intro hF7 hwd7)))
    clear hb6 z6 saf z7 hO7 hF7 z77 hwd7 sbf

    have HST := Lib.hid ((steps_in (cap := cap) (d4 := d4) (a4 := a4) HS.out HE.out H7.out.2.2.2 HH.out.2.1 HDK.out HM.out (.inr ⟨HK0.out.1, HK0.out.2, rfl, rfl⟩)).mono (fun _ _ h => h.to rfl))

    go_wp2_with fail
    refine HST.out.mono ?_
    rintro e w8 ⟨i3, d3, m3, a3, e3, lT, tl, tc, rfl, hb8, hor8⟩
    have z8 := (H7.out.1).on hb8
    have hF8 := (H7.out.2.2.1).on hb8
    have hs8 : w.heap.size + 3 ≤ w8.heap.size := hF8.2.2.2
    obtain ⟨⟨ta0, ta1, ta2, ta3, ta4, ta5⟩, taf, tal⟩ := z8.cells
    have taf0 := taf 0; have taf1 := taf 1; have taf2 := taf 2; have taf3 := taf 3; have taf4 := taf 4; have taf5 := taf 5
    obtain ⟨W9, hW9⟩ : ∃ W, (((((((w8).setCell ⟨w.heap.size, 0, none⟩ (.slice (some ⟨g, 0, none⟩) ws.length cap)).setCell ⟨w.heap.size, 1, none⟩ (.int .i64 i3)).setCell ⟨w.heap.size, 2, none⟩ (.int .i64 d3)).setCell ⟨w.heap.size, 3, none⟩ (.int .i64 m3)).setCell ⟨w.heap.size, 4, none⟩ (.int .i64 a3)).setCell ⟨w.heap.size, 5, none⟩ (.int .i64 e3)) = W := ⟨_, rfl⟩
    have z9 : SB W9 w.heap.size g ws.length cap i3 d3 m3 a3 e3 := by rw [← hW9]; exact six_done z8 (.slice (some ⟨g, 0, none⟩) ws.length cap) (.int .i64 i3) (.int .i64 d3) (.int .i64 m3) (.int .i64 a3) (.int .i64 e3)
    have hO9 : Only (fun b => b = w.heap.size) w8 W9 := by rw [← hW9]; exact only_six (.slice (some ⟨g, 0, none⟩) ws.length cap) (.int .i64 i3) (.int .i64 d3) (.int .i64 m3) (.int .i64 a3) (.int .i64 e3) w8 rfl
    obtain ⟨⟨tb0, tb1, tb2, tb3, tb4, tb5⟩, tbf, tbl⟩ := z9.cells
    have tbf2 := tbf 2
    obtain ⟨W10, hW10⟩ : ∃ W, W9.setCell ⟨w.heap.size, 2, none⟩ (.int .i64 d) = W := ⟨_, rfl⟩
    have z10 : SB W10 w.heap.size g ws.length cap i3 d m3 a3 e3 := by
      have h := z9
      rw [← hW10]
      unfold SB at h ⊢
      simp [World.setCell, Array.getElem?_modify, h]
    have hO10 : Only (fun b => b = w.heap.size) w8 W10 := by rw [← hW10]; exact hO9.setCell (p := ⟨w.heap.size, 2, none⟩) (.inl rfl) _
    obtain ⟨⟨tc0, tc1, tc2, tc3, tc4, tc5⟩, -, tcl⟩ := z10.cells
    have HF10 := Lib.hid (hF8.only hO10)
    have HOr := Lib.hid (And.intro hor8 (And.intro hO10 hs8))
    clear z8 hF8 taf z9 hO9 tbf z10 hO10 hor8 hb8

    obtain ⟨bF, q2F, q3F, szF⟩ := HF10.out
    obtain ⟨⟨y0', y1', y2', y3', y4', y5'⟩, ⟨yf0, yf1, yf2, yf3, yf4, yf5⟩, yl'⟩ := six_cells q2F
    obtain ⟨⟨n0', n1', n2', n3', n4', n5', n6', n7', n8', n9', n10'⟩, nf, nl'⟩ := ele_cells q3F
    have nf0 := nf 0; have nf1 := nf 1; have nf2 := nf 2; have nf3 := nf 3; have nf4 := nf 4; have nf5 := nf 5; have nf6 := nf 6; have nf7 := nf 7; have nf8 := nf 8; have nf9 := nf 9; have nf10 := nf 10
    obtain ⟨rr, rs⟩ := six_ele q2F q3F (by omega) (.slice (some ⟨g, 0, none⟩) ws.length cap) (.int .i64 i3) (.int .i64 d) (.int .i64 m3) (.int .i64 a3) (.int .i64 e3) (.int .i64 3) (.int .i64 0) (.bool false) (.int .i64 0) (.float .f64 0) (.string ⟨#[]⟩) (.slice none 0 0) (.string ⟨#[]⟩) (.slice none 0 0) (.slice none 0 0) (.slice lT tl tc)
    obtain ⟨FF, hFF⟩ : ∃ FF, ((((((((((((((((((W10).setCell ⟨w.heap.size + 1, 0, none⟩ (.slice (some ⟨g, 0, none⟩) ws.length cap)).setCell ⟨w.heap.size + 1, 1, none⟩ (.int .i64 i3)).setCell ⟨w.heap.size + 1, 2, none⟩ (.int .i64 d)).setCell ⟨w.heap.size + 1, 3, none⟩ (.int .i64 m3)).setCell ⟨w.heap.size + 1, 4, none⟩ (.int .i64 a3)).setCell ⟨w.heap.size + 1, 5, none⟩ (.int .i64 e3)).setCell ⟨w.heap.size + 1 + 1, 0, none⟩ (.int .i64 3)).setCell ⟨w.heap.size + 1 + 1, 1, none⟩ (.int .i64 0)).setCell ⟨w.heap.size + 1 + 1, 2, none⟩ (.bool false)).setCell ⟨w.heap.size + 1 + 1, 3, none⟩ (.int .i64 0)).setCell ⟨w.heap.size + 1 + 1, 4, none⟩ (.float .f64 0)).setCell ⟨w.heap.size + 1 + 1, 5, none⟩ (.string ⟨#[]⟩)).setCell ⟨w.heap.size + 1 + 1, 6, none⟩ (.slice none 0 0)).setCell ⟨w.heap.size + 1 + 1, 7, none⟩ (.string ⟨#[]⟩)).setCell ⟨w.heap.size + 1 + 1, 8, none⟩ (.slice none 0 0)).setCell ⟨w.heap.size + 1 + 1, 9, none⟩ (.slice none 0 0)).setCell ⟨w.heap.size + 1 + 1, 10, none⟩ (.slice lT tl tc)) = FF := ⟨_, rfl⟩
    rw [hFF] at rr rs
    have hFs : FF.heap.size = W10.heap.size := by rw [← hFF]; simp [World.setCell]
    have hFk : ∀ q, w.heap.size + 1 + 1 < q → FF.heap[q]? = W10.heap[q]? := fun q h1 => by
      rw [← hFF]
      exact (ele_far (by omega) _ _ _ _ _ _ _ _ _ _ _).trans (six_far (by omega) _ _ _ _ _ _)
    have hFb : Below w.heap.size w FF := by
      rw [← hFF]
      repeat (with_reducible first | exact bF | refine Below.setCell ?_ (by simp <;> omega) _)
    obtain ⟨⟨f0', f1', f2', f3', f4', f5'⟩, -, -⟩ := six_cells rr
    obtain ⟨⟨g0', g1', g2', g3', g4', g5', g6', g7', g8', g9', g10'⟩, -, -⟩ := ele_cells rs
    have HEnd : Hid (Below w.heap.size w FF ∧ ∀ q, w.heap.size + 3 ≤ q → FF.heap[q]? = W10.heap[q]?) := Lib.hid ⟨hFb, fun q h => hFk q (by omega)⟩
    have HEs : Hid (FF.heap.size = W10.heap.size) := Lib.hid hFs
    clear rr rs hFs hFk hFb q2F q3F bF nf szF
    go_wp2_with fail
    refine bodyPost_ret (v := .tuple #[.agg #[.slice (some ⟨g, 0, none⟩) ws.length cap, .int .i64 i3, .int .i64 d, .int .i64 m3, .int .i64 a3, .int .i64 e3], .agg #[.int .i64 3, .int .i64 0, .bool false, .int .i64 0, .float .f64 0, .string ⟨#[]⟩, .slice none 0 0, .string ⟨#[]⟩, .slice none 0 0, .slice none 0 0, .slice lT tl tc]]) (by simp [results, Tryd.results46, go_sem, f0', f1', f2', f3', f4', f5', g0', g1', g2', g3', g4', g5', g6', g7', g8', g9', g10']) rfl ?_
    refine ⟨_, _, _, _, _, _, _, _, _, _, _, _, _, _, _, _, _, _, _, _, _, _, _, _, rfl, HEnd.out.1, ?_⟩
    obtain ⟨hor8, -, -⟩ := HOr.out
    rcases hor8 with ⟨l, s, hr, -⟩ | ⟨-, he⟩
    · obtain ⟨j, c, h⟩ := HNO.out
      rw [hr] at h; cases h
    · exact .inr ⟨⟨_, _, HRA.out⟩, he⟩


theorem arg_any {g cap : Nat} {ws : List Wd} {k : Nat} (hG : Gd ws) (hC : CanW ws) (hS : ∀ q, k = q + 1 → StepsC g cap ws q) (hE : ∀ (i d m a e : Int) (W : World), e ≠ 0 → Calls Tryd.prog 28 #[StV g ws.length cap i d m a e] W (fun z w' => ∃ lA ll lc, z = .returned (.tuple #[StV g ws.length cap i d m a e, .slice lA ll lc]) ∧ Below W.heap.size W w')) : ArgC g cap ws k := by
  intro w i d m a x hw hx hdk hm
  cases hv : valA x
  · by_cases hk : x.k = 1
    · exact arg_nam hG hC hS hE hw hx hdk hm a hv hk
    · exact arg_non hG hC hS hE hw hx hdk hm a hv hk
  · exact arg_val hG hC hw hx hdk a hv

end Go.Proofs.YtgmjhoppjjjilaaDoor
