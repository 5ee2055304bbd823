/- SpH, SpI -/
import Derived.Test.YtgmjhoppjjjilaaDoorQ23

/- the document's parser: pred (written by tools/laws13h.py) -/
namespace Go.Proofs.YtgmjhoppjjjilaaDoor
open Go.ChangeShapes Go.WideShapes Go.ChangeAt Go.RowKit Go.Fl
open Go.Shelf

theorem chain4 (w : World) (o1 o2 o3 o4 : Obj) : ((((w.alloc o1).alloc o2).alloc o3).alloc o4).heap[w.heap.size]? = some o1 ∧ ((((w.alloc o1).alloc o2).alloc o3).alloc o4).heap[w.heap.size + 1]? = some o2 ∧
    ((((w.alloc o1).alloc o2).alloc o3).alloc o4).heap[w.heap.size + 1 + 1]? = some o3 ∧ ((((w.alloc o1).alloc o2).alloc o3).alloc o4).heap[w.heap.size + 1 + 1 + 1]? = some o4 ∧ ((((w.alloc o1).alloc o2).alloc o3).alloc o4).heap.size = w.heap.size + 4 ∧ Below w.heap.size w ((((w.alloc o1).alloc o2).alloc o3).alloc o4) := by
  have h3 := newA (w.alloc o1) o2 o3
  have h4 := newA ((w.alloc o1).alloc o2) o3 o4
  simp only [World.size_alloc] at h3 h4
  exact ⟨keepA (keepA (two_a' w o1 o2) _) _, keepA (keepA (two_b' w o1 o2) _) _, keepA h3 _, h4, by simp, ((((Below.refl _ w).alloc (Nat.le_refl _) _).alloc (by simp) _).alloc (by simp <;> omega) _).alloc (by simp <;> omega) _⟩

theorem tri_cells {w : World} {b : Nat} {T : TypeId} {x0 x1 x2 : Value} (h : w.heap[b]? = some (.cells #[x0, x1, x2] T (0, 0))) : (w.cell? ⟨b, 0, none⟩ = some x0 ∧ w.cell? ⟨b, 1, none⟩ = some x1 ∧ w.cell? ⟨b, 2, none⟩ = some x2) ∧ (w.frozen? ⟨b, 0, none⟩ = false ∧ w.frozen? ⟨b, 1, none⟩ = false ∧ w.frozen? ⟨b, 2, none⟩ = false) ∧ b < w.heap.size := by
  refine ⟨⟨?_, ?_, ?_⟩, ⟨?_, ?_, ?_⟩, (Array.getElem?_eq_some_iff.1 h).1⟩
  all_goals first
    | (rw [cell_of_row _ _ _ _ _ _ h]; rfl)
    | simp [World.frozen?, h]

theorem tri_done {w : World} {b : Nat} {T : TypeId} {x0 x1 x2 : Value} (h : w.heap[b]? = some (.cells #[x0, x1, x2] T (0, 0))) (u0 u1 u2 : Value) :
    (((w.setCell ⟨b, 0, none⟩ u0).setCell ⟨b, 1, none⟩ u1).setCell ⟨b, 2, none⟩ u2).heap[b]? = some (.cells #[u0, u1, u2] T (0, 0)) := by
  simp [World.setCell, Array.getElem?_modify, h]

theorem tri_far {w : World} {b c : Nat} (hne : b ≠ c) (v0 v1 v2 : Value) : (((w.setCell ⟨c, 0, none⟩ v0).setCell ⟨c, 1, none⟩ v1).setCell ⟨c, 2, none⟩ v2).heap[b]? = w.heap[b]? :=
  (Below.heap_setCell _ ⟨c, 2, none⟩ _ b hne).trans ((Below.heap_setCell _ ⟨c, 1, none⟩ _ b hne).trans (Below.heap_setCell _ ⟨c, 0, none⟩ _ b hne))

/-- what pred comes to -/
def PrdP (g cap : Nat) (ws : List Wd) (k i : Nat) (d : Int) (m : Nat) (a : Int) (w : World) (z : Ending) (w' : World) : Prop :=
  ∃ (i3 d3 m3 a3 e3 : Int) (op : ByteArray) (lA : Option Addr) (ll lc : Nat) (kA : Option Addr) (kl kc : Nat), z = .returned (.tuple #[StV g ws.length cap i3 d3 m3 a3 e3, .agg #[.string op, .slice lA ll lc, .slice kA kl kc]]) ∧ Below w.heap.size w w' ∧
    ((∃ p s, rPred (gx ws) k ⟨i, m⟩ = some (p, s) ∧ i3 = (s.i : Nat) ∧ s.i < ws.length ∧ d3 = d ∧ m3 = (s.n : Nat) ∧ a3 = a ∧ e3 = 0 ∧ RdP w' (fun b => w.heap.size ≤ b ∧ b < w'.heap.size) p (.agg #[.string op, .slice lA ll lc, .slice kA kl kc])) ∨
     (rPred (gx ws) k ⟨i, m⟩ = none ∧ e3 ≠ 0))

/-- pred, where k more may stand around it -/
def PredC (g cap : Nat) (ws : List Wd) (k : Nat) : Prop := ∀ (w : World) (i d m : Nat) (a : Int) (x : Wd), WdsAt w g ws → ws[i]? = some x → d + k = 12 →
  Calls Tryd.prog 66 #[StV g ws.length cap i d m a 0] w (PrdP g cap ws k i d m a w)

theorem two_nine {w : World} {b c : Nat} {T T' : TypeId} {x0 x1 x2 x3 x4 x5 y0 y1 y2 : Value} (h : w.heap[b]? = some (.cells #[x0, x1, x2, x3, x4, x5] T (0, 0))) (h' : w.heap[c]? = some (.cells #[y0, y1, y2] T' (0, 0))) (hne : b ≠ c) (u0 u1 u2 u3 u4 u5 v0 v1 v2 : Value) :
    ((((((((((w.setCell ⟨b, 0, none⟩ u0).setCell ⟨b, 1, none⟩ u1).setCell ⟨b, 2, none⟩ u2).setCell ⟨b, 3, none⟩ u3).setCell ⟨b, 4, none⟩ u4).setCell ⟨b, 5, none⟩ u5).setCell ⟨c, 0, none⟩ v0).setCell ⟨c, 1, none⟩ v1).setCell ⟨c, 2, none⟩ v2)).heap[b]? = some (.cells #[u0, u1, u2, u3, u4, u5] T (0, 0)) ∧
    ((((((((((w.setCell ⟨b, 0, none⟩ u0).setCell ⟨b, 1, none⟩ u1).setCell ⟨b, 2, none⟩ u2).setCell ⟨b, 3, none⟩ u3).setCell ⟨b, 4, none⟩ u4).setCell ⟨b, 5, none⟩ u5).setCell ⟨c, 0, none⟩ v0).setCell ⟨c, 1, none⟩ v1).setCell ⟨c, 2, none⟩ v2)).heap[c]? = some (.cells #[v0, v1, v2] T' (0, 0)) :=
  ⟨(tri_far hne _ _ _).trans (six_done h _ _ _ _ _ _), tri_done ((six_far (fun e => hne e.symm) _ _ _ _ _ _).trans h') _ _ _⟩

theorem rPred_no {ws : List Wd} {i k m : Nat} {x : Wd} (hx : ws[i]? = some x) (h : prdA x = false) : rPred (gx ws) k ⟨i, m⟩ = none := by
  unfold rPred
  have : prdA (gx ws i) = prdA x := by rw [gx_of hx]; rfl
  rw [show (⟨i, m⟩ : Ps).i = i from rfl, this]
  exact if_pos h


set_option maxHeartbeats 4000000 in
set_option maxRecDepth 100000 in
theorem pred_no {w : World} {g cap : Nat} {ws : List Wd} {i d k m : Nat} {x : Wd} (hw : WdsAt w g ws) (hx : ws[i]? = some x) (a : Int) (hp : prdA x = false) :
    Calls Tryd.prog 66 #[StV g ws.length cap i d m a 0] w (PrdP g cap ws k i d m a w) := by
  obtain ⟨e0, e1, e2, e3, e4, hi⟩ := hw.word hx
  have hi' : (i : Int) < (ws.length : Int) := by omega
  have hgl := hw.lt
  have hgl1 : g < w.heap.size + 1 := by omega
  have hgl2 : g < w.heap.size + 1 + 1 := by omega
  have hgl3 : g < w.heap.size + 1 + 1 + 1 := by omega
  have hgl4 : g < w.heap.size + 1 + 1 + 1 + 1 := by omega
  have HC := Lib.hid (chain4 w (.cells #[.slice (some ⟨g, 0, none⟩) ws.length cap, .int .i64 i, .int .i64 d, .int .i64 m, .int .i64 a, .int .i64 0] 63) (.cells #[.slice none 0 0, .int .i64 0, .int .i64 0, .int .i64 0, .int .i64 0, .int .i64 0] 63) (.cells #[.string ⟨#[]⟩, .slice none 0 0, .slice none 0 0] 38) (.cells #[.slice (some ⟨g, 0, none⟩) ws.length cap, .int .i64 i, .int .i64 d, .int .i64 m, .int .i64 a, .int .i64 0] 63))
  have HF := Lib.hid (fun W (hb : Below w.heap.size w W) => fail_ok (cap := cap) (hw.on hb) hx d m a 120)
  have HNO := Lib.hid (rPred_no (k := k) (m := m) hx hp)
  by_cases hk : x.k = 1
  · have hnone : prdN x.s.data.toList = none := by
      unfold prdA at hp
      rw [decide_eq_true hk, Bool.and_true] at hp
      cases h : prdN x.s.data.toList with
      | none => rfl
      | some v => rw [h] at hp; cases hp
    have HP := Lib.hid (fun W => preds_any x.s W)
    unfold PrdsP at HP
    rw [hnone] at HP
    rw [hk] at e0
    clear hw hx hi hp hk hnone
    go_enter Tryd.func66, Tryd.ntmps66
    go_wp2_with fail
    refine (HP.out _).mono ?_
    rintro e w1 ⟨rfl, hb1⟩
    obtain ⟨p1, p2, p3, p4, zW, bW⟩ := HC.out
    have q1 := (hb1.block w.heap.size (by rw [zW]; omega)).trans p1
    obtain ⟨⟨x0, x1, x2, x3, x4, x5⟩, -, l1⟩ := six_cells q1
    have HB1 := Lib.hid (And.intro (bW.trans (hb1.mono bW.size)) (And.intro ((hb1.block (w.heap.size + 1) (by rw [zW]; omega)).trans p2) ((hb1.block (w.heap.size + 1 + 1) (by rw [zW]; omega)).trans p3)))
    clear p1 p2 p3 p4 zW bW hb1 q1
    go_wp2_with fail
    refine (HF.out _ HB1.out.1).mono ?_
    rintro e w2 ⟨rfl, hb2⟩
    have q2 := (hb2.block _ (Array.getElem?_eq_some_iff.1 HB1.out.2.1).1).trans HB1.out.2.1
    have q3 := (hb2.block _ (Array.getElem?_eq_some_iff.1 HB1.out.2.2).1).trans HB1.out.2.2
    obtain ⟨⟨y0, y1, y2, y3, y4, y5⟩, ⟨f0', f1', f2', f3', f4', f5'⟩, l2⟩ := six_cells q2
    obtain ⟨⟨c0, c1, c2⟩, ⟨h0', h1', h2'⟩, l3⟩ := tri_cells q3
    have HB := Lib.hid (HB1.out.1.trans (hb2.mono HB1.out.1.size))
    clear hb2
    go_wp2_with fail
    obtain ⟨rr, rs⟩ := two_nine q2 q3 (by omega) (.slice (some ⟨g, 0, none⟩) ws.length cap) (.int .i64 i) (.int .i64 d) (.int .i64 m) (.int .i64 (x.at_ : Nat)) (.int .i64 120) (.string ⟨#[]⟩) (.slice none 0 0) (.slice none 0 0)
    obtain ⟨⟨r0, r1, r2, r3, r4, r5⟩, -, -⟩ := six_cells rr
    obtain ⟨⟨s0, s1, s2⟩, -, -⟩ := tri_cells rs
    refine bodyPost_ret (v := .tuple #[StV g ws.length cap i d m (x.at_ : Nat) 120, .agg #[.string ⟨#[]⟩, .slice none 0 0, .slice none 0 0]]) (by simp [results, Tryd.results66, go_sem, r0, r1, r2, r3, r4, r5, s0, s1, s2]) rfl ?_
    exact ⟨_, _, _, _, _, _, _, _, _, _, _, _, rfl, by
      repeat (with_reducible first | exact HB.out | refine Below.setCell ?_ (by simp <;> omega) _ | refine Below.drew ?_), .inr ⟨HNO.out, by decide⟩⟩
  · have d1 : (x.k == 1) = false := by simpa using hk
    have d1' : (x.k != 1) = true := by simpa using hk
    clear hw hx hi hp hk
    go_enter Tryd.func66, Tryd.ntmps66
    go_wp2_with fail
    refine (HF.out _ HC.out.2.2.2.2.2).mono ?_
    rintro e w1 ⟨rfl, hb1⟩
    obtain ⟨p1, p2, p3, p4, zW, bW⟩ := HC.out
    have q2 := (hb1.block (w.heap.size + 1) (by rw [zW]; omega)).trans p2
    have q3 := (hb1.block (w.heap.size + 1 + 1) (by rw [zW]; omega)).trans p3
    obtain ⟨⟨y0, y1, y2, y3, y4, y5⟩, ⟨f0', f1', f2', f3', f4', f5'⟩, l2⟩ := six_cells q2
    obtain ⟨⟨c0, c1, c2⟩, ⟨h0', h1', h2'⟩, l3⟩ := tri_cells q3
    have HB := Lib.hid (bW.trans (hb1.mono bW.size))
    clear hb1 p1 p2 p3 p4 zW bW
    go_wp2_with fail
    obtain ⟨rr, rs⟩ := two_nine q2 q3 (by omega) (.slice (some ⟨g, 0, none⟩) ws.length cap) (.int .i64 i) (.int .i64 d) (.int .i64 m) (.int .i64 (x.at_ : Nat)) (.int .i64 120) (.string ⟨#[]⟩) (.slice none 0 0) (.slice none 0 0)
    obtain ⟨⟨r0, r1, r2, r3, r4, r5⟩, -, -⟩ := six_cells rr
    obtain ⟨⟨s0, s1, s2⟩, -, -⟩ := tri_cells rs
    refine bodyPost_ret (v := .tuple #[StV g ws.length cap i d m (x.at_ : Nat) 120, .agg #[.string ⟨#[]⟩, .slice none 0 0, .slice none 0 0]]) (by simp [results, Tryd.results66, go_sem, r0, r1, r2, r3, r4, r5, s0, s1, s2]) rfl ?_
    exact ⟨_, _, _, _, _, _, _, _, _, _, _, _, rfl, by
      repeat (with_reducible first | exact HB.out | refine Below.setCell ?_ (by simp <;> omega) _ | refine Below.drew ?_), .inr ⟨HNO.out, by decide⟩⟩


end Go.Proofs.YtgmjhoppjjjilaaDoor

/- the document's parser: what stands in a predicate's brackets (written by tools/laws13i.py) -/
namespace Go.Proofs.YtgmjhoppjjjilaaDoor
open Go.ChangeShapes Go.WideShapes Go.ChangeAt Go.RowKit Go.Fl
open Go.Shelf

/-- the bracket, and one deeper -/
theorem sign_into {g cap : Nat} {ws : List Wd} {i d k : Nat} {x2 : Wd} {W : World} (hG : Gd ws) (hw : WdsAt W g ws) (hx2 : ws[i]? = some x2) (m a : Int) (hdk : d + k = 12) :
    ∃ i3 a3 e3 : Int, Calls Tryd.prog 27 #[StV g ws.length cap i d m a 0, .string ⟨#[40]⟩] W (fun z w' => z = .returned (StV g ws.length cap i3 d m a3 e3) ∧ Below W.heap.size W w') ∧
      ∃ i4 d4 a4 e4 : Int, (∀ W', WdsAt W' g ws → Calls Tryd.prog 67 #[StV g ws.length cap i3 d m a3 e3] W' (fun z w' => z = .returned (StV g ws.length cap i4 d4 m a4 e4) ∧ Below W'.heap.size W' w')) ∧
        ((isSgn x2 40 = true ∧ k ≠ 0 ∧ i4 = (i + 1 : Nat) ∧ d4 = (d + 1 : Nat) ∧ a4 = a ∧ e4 = 0) ∨ ((isSgn x2 40 = false ∨ k = 0) ∧ e4 ≠ 0)) := by
  cases h : isSgn x2 40
  · exact ⟨_, _, _, sign_no hw hx2 d m a 40 h, _, _, _, _, fun W' hW' => into_er g ws.length cap _ _ _ _ _ (by decide) W', .inr ⟨.inl rfl, by decide⟩⟩
  · obtain ⟨x3, hx3⟩ := hG.next hx2 (by
      unfold isSgn at h
      rw [Bool.and_eq_true, decide_eq_true_iff] at h
      rw [h.1]; decide)
    refine ⟨_, _, _, sign_yes hw hx2 hG.few d m a 40 h, ?_⟩
    by_cases hk : k = 0
    · obtain rfl : d = 12 := by omega
      exact ⟨_, _, _, _, fun W' hW' => into_deep hW' hx3 m a, .inr ⟨.inr hk, by decide⟩⟩
    · exact ⟨_, _, _, _, fun W' hW' => into_ok g ws.length cap _ m a d (by omega) W', .inl ⟨rfl, hk, rfl, rfl, rfl, rfl⟩⟩

/-- the values of a predicate, as a list or an error -/
def rVals (G : Nat → Wd) : Nat → Ps → Option (List T × Ps)
  | 0, _ => none
  | k + 1, s =>
    if isSgn (G (s.i + 1)) 40 = false then none
    else match sev G 41 valA (fun _ => pVal G k) ⟨s.i + 2, s.n⟩ with
      | .bad _ _ => none
      | .ok l s' => some (l, s')

theorem rPlain_vals (G : Nat → Wd) (k : Nat) (s : Ps) : rPlain G k s = match rVals G k s with
    | none => none
    | some (l, s') => if 0 ≤ mostN (G s.i).s.data.toList ∧ (l.length : Int) ≠ mostN (G s.i).s.data.toList then none else some (.mk (G s.i).s l [], s') := by
  cases k with
  | zero => rfl
  | succ k =>
    rw [rPlain, rVals]
    split
    · rfl
    · split
      · rename_i h; rw [h]
      · rename_i h; rw [h]

theorem vals_pred {g cap : Nat} {ws : List Wd} {i d k m : Nat} {x2 : Wd} {i4 d4 a4 e4 a : Int} (hG : Gd ws) (hC : CanW ws) (hx2 : ws[i + 1]? = some x2) (hdk : d + k = 12)
    (hor : (isSgn x2 40 = true ∧ k ≠ 0 ∧ i4 = (i + 1 + 1 : Nat) ∧ d4 = (d + 1 : Nat) ∧ a4 = a ∧ e4 = 0) ∨ ((isSgn x2 40 = false ∨ k = 0) ∧ e4 ≠ 0)) {W : World} (hw : WdsAt W g ws) :
    Calls Tryd.prog 84 #[StV g ws.length cap i4 d4 m a4 e4, .string ⟨#[41]⟩] W fun z w' => ∃ (i5 d5 m5 a5 e5 : Int) (lA : Option Addr) (ll lc : Nat), z = .returned (.tuple #[StV g ws.length cap i5 d5 m5 a5 e5, .slice lA ll lc]) ∧ Below W.heap.size W w' ∧
      ((∃ l s, rVals (gx ws) k ⟨i, m⟩ = some (l, s) ∧ i5 = (s.i : Nat) ∧ s.i < ws.length ∧ m5 = (s.n : Nat) ∧ a5 = a ∧ e5 = 0 ∧ ll = l.length ∧ LstS RdS 6 w' (fun b => W.heap.size ≤ b ∧ b < w'.heap.size) l (.slice lA ll lc)) ∨ (rVals (gx ws) k ⟨i, m⟩ = none ∧ e5 ≠ 0)) := by
  have hg2 : ∀ c, isSgn (gx ws (i + 1)) c = isSgn x2 c := fun c => by rw [gx_of hx2]; rfl
  rcases hor with ⟨h40, hk, rfl, rfl, rfl, rfl⟩ | ⟨hno, he⟩
  · obtain ⟨q, rfl⟩ : ∃ q, k = q + 1 := ⟨k - 1, by omega⟩
    obtain ⟨x3, hx3⟩ := hG.next hx2 (by
      unfold isSgn at h40
      rw [Bool.and_eq_true, decide_eq_true_iff] at h40
      rw [h40.1]; decide)
    refine (vals_any hG (val_all hG hC q) W (i + 1 + 1) (d + 1) m a4 x3 41 hw hx3 (by omega)).mono ?_
    rintro e w' ⟨i3, d3, m3, a3, e3, lA, ll, lc, rfl, hb, ⟨l, s, h1, h2, h3, h4, h5, h6, h7, h8, h9⟩ | ⟨⟨j, c, h1⟩, h2⟩⟩
    · refine ⟨_, _, _, _, _, _, _, _, rfl, hb, .inl ⟨l, s, ?_, h2, h3, h5, h6, h7, h8, h9⟩⟩
      rw [rVals, if_neg (by show ¬ isSgn (gx ws (i + 1)) 40 = false; rw [hg2, h40]; decide)]
      show (match sev (gx ws) 41 valA (fun _ => pVal (gx ws) q) ⟨i + 1 + 1, m⟩ with | .bad _ _ => none | .ok l s' => some (l, s')) = _
      rw [h1]
    · refine ⟨_, _, _, _, _, _, _, _, rfl, hb, .inr ⟨?_, h2⟩⟩
      rw [rVals, if_neg (by show ¬ isSgn (gx ws (i + 1)) 40 = false; rw [hg2, h40]; decide)]
      show (match sev (gx ws) 41 valA (fun _ => pVal (gx ws) q) ⟨i + 1 + 1, m⟩ with | .bad _ _ => none | .ok l s' => some (l, s')) = _
      rw [h1]
  · refine (vals_er g ws.length cap i4 d4 m a4 e4 he ⟨#[41]⟩ W).mono ?_
    rintro e w' ⟨⟨lA, ll, lc, rfl⟩, hb⟩
    refine ⟨_, _, _, _, _, _, _, _, rfl, hb, .inr ⟨?_, he⟩⟩
    cases k with
    | zero => rfl
    | succ k =>
      rcases hno with h | h
      · rw [rVals]; exact if_pos ((hg2 40).trans h)
      · cases h

/-- pred behind its values -/
def PrdI (g cap : Nat) (ws : List Wd) (k i d m : Nat) (a : Int) (x : Wd) (w : World) (wx : World) (p7 : Nat) : Prop :=
  w.heap.size + 4 ≤ p7 ∧ Below w.heap.size w wx ∧ wx.heap[w.heap.size + 1]? = some (.cells #[.slice none 0 0, .int .i64 0, .int .i64 0, .int .i64 0, .int .i64 0, .int .i64 0] 63 (0, 0)) ∧ wx.heap[w.heap.size + 1 + 1]? = some (.cells #[.string ⟨#[]⟩, .slice none 0 0, .slice none 0 0] 38 (0, 0)) ∧ SB wx (w.heap.size + 1 + 1 + 1) g ws.length cap i d m a 0 ∧
    ∃ (i5 m5 a5 e5 : Int) (lA : Option Addr) (ll lc : Nat), SB wx w.heap.size g ws.length cap i5 d m5 a5 e5 ∧ wx.heap[p7]? = some (.cells #[.string x.s, .slice lA ll lc, .slice none 0 0] 38 (0, 0)) ∧
      ((∃ l s, rVals (gx ws) k ⟨i, m⟩ = some (l, s) ∧ i5 = (s.i : Nat) ∧ s.i < ws.length ∧ m5 = (s.n : Nat) ∧ a5 = a ∧ e5 = 0 ∧ ll = l.length ∧ LstS RdS 6 wx (fun b => w.heap.size + 4 ≤ b ∧ b ≠ p7 ∧ b < wx.heap.size) l (.slice lA ll lc)) ∨ (rVals (gx ws) k ⟨i, m⟩ = none ∧ e5 ≠ 0))


end Go.Proofs.YtgmjhoppjjjilaaDoor
