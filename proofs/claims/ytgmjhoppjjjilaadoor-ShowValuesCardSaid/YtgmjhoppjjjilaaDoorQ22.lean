/- SpE -/
import Derived.Test.YtgmjhoppjjjilaaDoorQ21

/- the document's parser: a list -/
namespace Go.Proofs.YtgmjhoppjjjilaaDoor
open Go.ChangeShapes Go.WideShapes Go.ChangeAt Go.RowKit Go.Fl
open Go.Shelf

set_option maxHeartbeats 4000000 in
set_option maxRecDepth 100000 in
theorem vals_er (g n cap : Nat) (i d m a e : Int) (he : e ≠ 0) (S : ByteArray) (w : World) :
    Calls Tryd.prog 84 #[StV g n cap i d m a e, .string S] w fun z w' => (∃ lA ll lc, z = .returned (.tuple #[StV g n cap i d m a e, .slice lA ll lc])) ∧ Below w.heap.size w w' := by
  have h1 : (e == 0) = false := by simpa using he
  have HC := Lib.hid (chain3 w (.cells #[.slice (some ⟨g, 0, none⟩) n cap, .int .i64 i, .int .i64 d, .int .i64 m, .int .i64 a, .int .i64 e] 63) (.cells #[.slice none 0 0, .int .i64 0, .int .i64 0, .int .i64 0, .int .i64 0, .int .i64 0] 63) (.cells #[] 25))
  have HS := Lib.hid (fun W => sign_er g n cap i d m a e he S W)
  clear he
  go_enter Tryd.func84, Tryd.ntmps84
  go_wp2_with fail
  go_loopw [6] (fun sl wr => sl = .slice (some ⟨w.heap.size + 1 + 1, 0, none⟩) 0 0 ∧ Hid (SB wr w.heap.size g n cap i d m a e ∧ wr.heap[w.heap.size + 1]? = some (.cells #[.slice none 0 0, .int .i64 0, .int .i64 0, .int .i64 0, .int .i64 0, .int .i64 0] 63 (0, 0)) ∧ Below w.heap.size w wr)) (fun _ _ => 0)
  case atStart => exact ⟨rfl, Lib.hid ⟨HC.out.1, HC.out.2.1, HC.out.2.2.2.2⟩⟩
  case round =>
    obtain ⟨rfl, HI⟩ := hrel
    obtain ⟨hb, hr, hbl⟩ := HI.out
    obtain ⟨⟨x0, x1, x2, x3, x4, x5⟩, -, l1⟩ := hb.cells
    have l2 := (Array.getElem?_eq_some_iff.1 hr).1
    clear hb hr hbl
    go_wp2_with fail
    refine (HS.out _).mono ?_
    rintro e' w1 ⟨rfl, hb1⟩
    have q2 := (hb1.block _ l2).trans HI.out.2.1
    obtain ⟨⟨y0', y1', y2', y3', y4', y5'⟩, ⟨f0', f1', f2', f3', f4', f5'⟩, l2'⟩ := six_cells q2
    have HB := Lib.hid (HI.out.2.2.trans (hb1.mono HI.out.2.2.size))
    clear hb1
    go_wp2_with fail
    obtain ⟨⟨r0, r1, r2, r3, r4, r5⟩, -, -⟩ := six_cells (six_done q2 (.slice (some ⟨g, 0, none⟩) n cap) (.int .i64 i) (.int .i64 d) (.int .i64 m) (.int .i64 a) (.int .i64 e))
    refine bodyPost_ret (v := .tuple #[StV g n cap i d m a e, .slice (some ⟨w.heap.size + 1 + 1, 0, none⟩) 0 0]) (by simp [results, Tryd.results84, go_sem, r0, r1, r2, r3, r4, r5]) rfl ?_
    exact ⟨⟨_, _, _, rfl⟩, by
      repeat (with_reducible first | exact HB.out | refine Below.setCell ?_ (by simp <;> omega) _ | refine Below.drew ?_)⟩

/-- into, whatever the depth -/
theorem into_any {w : World} {g cap : Nat} {ws : List Wd} {i d k : Nat} {x : Wd} (hw : WdsAt w g ws) (hx : ws[i]? = some x) (m a : Int) (hdk : d + k = 12) :
    ∃ d4 a4 e4 : Int, (k = 0 ∧ e4 ≠ 0 ∨ k ≠ 0 ∧ d4 = (d + 1 : Nat) ∧ a4 = a ∧ e4 = 0) ∧ Calls Tryd.prog 67 #[StV g ws.length cap i d m a 0] w fun z w' => z = .returned (StV g ws.length cap i d4 m a4 e4) ∧ Below w.heap.size w w' := by
  by_cases hk : k = 0
  · obtain rfl : d = 12 := by omega
    exact ⟨_, _, _, .inl ⟨hk, by decide⟩, into_deep hw hx m a⟩
  · exact ⟨_, _, _, .inr ⟨hk, rfl, rfl, rfl⟩, into_ok g ws.length cap i m a d (by omega) w⟩

/-- what stands in the list -/
theorem vals_in {w : World} {g cap : Nat} {ws : List Wd} {i d k m : Nat} {x : Wd} {a d4 a4 e4 : Int} (hV : ∀ q, k = q + 1 → ValsC g cap ws q) (hw : WdsAt w g ws) (hx : ws[i]? = some x) (hdk : d + k = 12) (h : k = 0 ∧ e4 ≠ 0 ∨ k ≠ 0 ∧ d4 = (d + 1 : Nat) ∧ a4 = a ∧ e4 = 0) (en : UInt8) :
    Calls Tryd.prog 84 #[StV g ws.length cap i d4 m a4 e4, .string ⟨#[en]⟩] w fun z w' => ∃ (i3 d3 m3 a3 e3 : Int) (lA : Option Addr) (ll lc : Nat), z = .returned (.tuple #[StV g ws.length cap i3 d3 m3 a3 e3, .slice lA ll lc]) ∧ Below w.heap.size w w' ∧
      ((∃ q l s, k = q + 1 ∧ sev (gx ws) en valA (fun _ => pVal (gx ws) q) ⟨i, m⟩ = .ok l s ∧ i3 = (s.i : Nat) ∧ s.i < ws.length ∧ m3 = (s.n : Nat) ∧ a3 = a ∧ e3 = 0 ∧ ll = l.length ∧ LstS RdS 6 w' (fun b => w.heap.size ≤ b ∧ b < w'.heap.size) l (.slice lA ll lc)) ∨
       ((k = 0 ∨ ∃ q j c, k = q + 1 ∧ sev (gx ws) en valA (fun _ => pVal (gx ws) q) ⟨i, m⟩ = .bad j c) ∧ e3 ≠ 0)) := by
  rcases h with ⟨rfl, he⟩ | ⟨hk, rfl, rfl, rfl⟩
  · refine (vals_er g ws.length cap i d4 m a4 e4 he ⟨#[en]⟩ w).mono ?_
    rintro e w' ⟨⟨lA, ll, lc, rfl⟩, hb⟩
    exact ⟨_, _, _, _, _, _, _, _, rfl, hb, .inr ⟨.inl rfl, he⟩⟩
  · obtain ⟨q, rfl⟩ : ∃ q, k = q + 1 := ⟨k - 1, by omega⟩
    refine (hV q rfl w i (d + 1) m a4 x en hw hx (by omega)).mono ?_
    rintro e w' ⟨i3, d3, m3, a3, e3, lA, ll, lc, rfl, hb, ⟨l, s, h1, h2, h3, h4, h5, h6, h7, h8, h9⟩ | ⟨⟨j, c, h1⟩, h2⟩⟩
    · exact ⟨_, _, _, _, _, _, _, _, rfl, hb, .inl ⟨q, l, s, rfl, h1, h2, h3, h5, h6, h7, h8, h9⟩⟩
    · exact ⟨_, _, _, _, _, _, _, _, rfl, hb, .inr ⟨.inr ⟨q, j, c, rfl, h1⟩, h2⟩⟩

set_option maxHeartbeats 4000000 in
set_option maxRecDepth 100000 in
theorem val_list {w : World} {g cap : Nat} {ws : List Wd} {i d k m : Nat} {x : Wd} (hG : Gd ws) (hV : ∀ q, k = q + 1 → ValsC g cap ws q) (hw : WdsAt w g ws) (hx : ws[i]? = some x) (hdk : d + k = 12) (a : Int) (hs : isSgn x 91 = true) :
    Calls Tryd.prog 64 #[StV g ws.length cap i d m a 0] w (ValP g cap ws k i d m a x w) := by
  obtain ⟨e0, e1, e2, e3, e4, hi⟩ := hw.word hx
  have hi' : (i : Int) < (ws.length : Int) := by omega
  have hgl := hw.lt
  have hgl1 : g < w.heap.size + 1 := by omega
  have hgl2 : g < w.heap.size + 1 + 1 := by omega
  have hgl3 : g < w.heap.size + 1 + 1 + 1 := by omega
  have hgl4 : g < w.heap.size + 1 + 1 + 1 + 1 := by omega
  have hk5 : x.k = 5 := by unfold isSgn at hs; rw [Bool.and_eq_true, decide_eq_true_iff] at hs; exact hs.1
  obtain ⟨x2, hx2⟩ := hG.next hx (by rw [hk5]; decide)
  have hw64 : wrap64 ((i : Int) + 1) = ((i + 1 : Nat) : Int) := by
    have := hG.few
    rw [wrap64_id (is64_iff.2 (by omega))]; omega
  have HC := Lib.hid (chain5 w (.cells #[.slice (some ⟨g, 0, none⟩) ws.length cap, .int .i64 i, .int .i64 d, .int .i64 m, .int .i64 a, .int .i64 0] 63) (.cells #[.slice none 0 0, .int .i64 0, .int .i64 0, .int .i64 0, .int .i64 0, .int .i64 0] 63) (.cells #[.int .i64 0, .bool false, .int .i64 0, .float .f64 0, .string ⟨#[]⟩, .slice none 0 0] 25) (.cells #[.int .i64 x.k, .string x.s, .int .i64 x.n, .float .f64 x.f, .int .i64 (x.at_ : Nat)] 65) (.cells #[.int .i64 0, .bool false, .int .i64 0, .float .f64 0, .string ⟨#[]⟩, .slice none 0 0] 25))
  have HI := Lib.hid (fun W (hb : Below w.heap.size w W) => is_ok (cap := cap) (hw.on hb) hx d m a 91)
  rw [hs] at HI
  rw [hk5] at e0 HC
  have HVV : Hid (∀ v, Hid (∀ q, k = q + 1 → ValsC g cap ws q) ∧ v = 0 → v = (0 : Int)) := Lib.hid (fun _ h => h.2)
  have HH := Lib.hid (And.intro hw (And.intro hx (And.intro hx2 (And.intro hdk (And.intro hs hk5)))))
  have HV := Lib.hid hV; have HG := Lib.hid hG
  clear HVV hw hx hx2 hdk hs hk5 hi hV hG
  go_enter Tryd.func64, Tryd.ntmps64
  go_wp2_with fail
  refine (HI.out _ HC.out.2.2.2.2.2.2).mono ?_
  rintro e w1 ⟨rfl, hb1⟩
  obtain ⟨p1, p2, p3, -, -, zW, bW⟩ := HC.out
  have q1 := (hb1.block w.heap.size (by rw [zW]; omega)).trans p1
  have q2 := (hb1.block (w.heap.size + 1) (by rw [zW]; omega)).trans p2
  have q3 := (hb1.block (w.heap.size + 1 + 1) (by rw [zW]; omega)).trans p3
  have HB := Lib.hid (bW.trans (hb1.mono bW.size))
  obtain ⟨⟨x0, x1, x2', x3, x4, x5⟩, ⟨f0, f1, f2, f3, f4, f5⟩, l1⟩ := six_cells q1
  have HQ := Lib.hid (And.intro q1 (And.intro q2 q3))
  clear p1 p2 p3 zW bW hb1 q1 q2 q3
  -- the sign is taken
  obtain ⟨W2, hW2⟩ : ∃ W2, w1.setCell ⟨w.heap.size, 1, none⟩ (.int .i64 ((i : Int) + 1)) = W2 := ⟨_, rfl⟩
  have hO2 : Only (fun b => b = w.heap.size) w1 W2 := hW2 ▸ (Only.refl (fun b => b = w.heap.size) w1).setCell (p := ⟨w.heap.size, 1, none⟩) (.inl rfl) _
  have z2 : SB W2 w.heap.size g ws.length cap ((i : Int) + 1) d m a 0 := by
    rw [← hW2]
    have := HQ.out.1
    unfold SB
    simp [World.setCell, Array.getElem?_modify, this]
  have hwd2 : WdsAt W2 g ws := (HH.out.1.on HB.out).far hO2 (HH.out.1.lt)
  obtain ⟨d4, a4, e4, hor4, hinto⟩ := into_any (cap := cap) hwd2 HH.out.2.2.1 m a HH.out.2.2.2.1
  have hcast : ((i + 1 : Nat) : Int) = (i : Int) + 1 := rfl
  rw [hcast] at hinto
  have HIN := Lib.hid hinto
  obtain ⟨⟨t0, t1, t2, t3, t4, t5⟩, tf, lt⟩ := z2.cells
  have tf0 := tf 0; have tf1 := tf 1; have tf2 := tf 2; have tf3 := tf 3; have tf4 := tf 4; have tf5 := tf 5
  have HZ2 := Lib.hid (And.intro z2 (And.intro hO2 (And.intro hwd2 hor4)))
  clear z2 hO2 hwd2 hor4 hinto tf hcast
  go_wp2_with fail
  refine HIN.out.mono ?_
  rintro e w3 ⟨rfl, hb3⟩
  obtain ⟨z2, hO2, hwd2, hor4⟩ := HZ2.out
  have z3 : SB w3 w.heap.size g ws.length cap ((i : Int) + 1) d m a 0 := z2.on hb3
  obtain ⟨⟨g0, g1, g2, g3, g4, g5⟩, gf, gl⟩ := z3.cells
  have gf0 := gf 0; have gf1 := gf 1; have gf2 := gf 2; have gf3 := gf 3; have gf4 := gf 4; have gf5 := gf 5
  obtain ⟨W4, hW4⟩ : ∃ W4, (((((((w3).setCell ⟨w.heap.size, 0, none⟩ (.slice (some ⟨g, 0, none⟩) ws.length cap)).setCell ⟨w.heap.size, 1, none⟩ (.int .i64 ((i : Int) + 1))).setCell ⟨w.heap.size, 2, none⟩ (.int .i64 d4)).setCell ⟨w.heap.size, 3, none⟩ (.int .i64 m)).setCell ⟨w.heap.size, 4, none⟩ (.int .i64 a4)).setCell ⟨w.heap.size, 5, none⟩ (.int .i64 e4)) = W4 := ⟨_, rfl⟩
  have z4 : SB W4 w.heap.size g ws.length cap ((i : Int) + 1) d4 m a4 e4 := hW4 ▸ six_done z3 (.slice (some ⟨g, 0, none⟩) ws.length cap) (.int .i64 ((i : Int) + 1)) (.int .i64 d4) (.int .i64 m) (.int .i64 a4) (.int .i64 e4)
  have hO4 : Only (fun b => b = w.heap.size) w1 W4 := (hO2.trans (Only.of_below hb3)).trans (hW4 ▸ only_six _ _ _ _ _ _ _ rfl)
  have hin := vals_in (k := k) (m := m) HV.out ((HH.out.1.on HB.out).far hO4 HH.out.1.lt) HH.out.2.2.1 HH.out.2.2.2.1 hor4 93
  rw [show ((i + 1 : Nat) : Int) = (i : Int) + 1 from rfl] at hin
  have HIN2 := Lib.hid hin
  obtain ⟨⟨k0, k1, k2, k3, k4, k5⟩, -, kl⟩ := z4.cells
  have HZ4 := Lib.hid (And.intro z4 hO4)
  clear z2 hO2 hwd2 hor4 z3 gf z4 hO4 hin hb3
  go_wp2_with fail
  refine HIN2.out.mono ?_
  rintro e w5 ⟨i3, d3, m3, a3, e3, lA, ll, lc, rfl, hb5, hor5⟩
  have hO5 : Only (fun b => b = w.heap.size) w1 w5 := HZ4.out.2.trans (Only.of_below hb5)
  have q2 := (hO5.block _ (Array.getElem?_eq_some_iff.1 HQ.out.2.1).1 (by omega)).trans HQ.out.2.1
  have q3 := (hO5.block _ (Array.getElem?_eq_some_iff.1 HQ.out.2.2).1 (by omega)).trans HQ.out.2.2
  obtain ⟨⟨y0, y1, y2, y3, y4, y5⟩, ⟨f0', f1', f2', f3', f4', f5'⟩, l2⟩ := six_cells q2
  obtain ⟨⟨c0, c1, c2, c3, c4, c5⟩, ⟨h0', h1', h2', h3', h4', h5'⟩, l3⟩ := six_cells q3
  have HB5 : Hid (Below w.heap.size w w5) := Lib.hid (HB.out.trans (hO5.below HB.out.size (fun b hb => by omega)))
  have H5 := Lib.hid (And.intro q2 (And.intro q3 (And.intro hb5 hor5)))
  clear q2 q3 hO5 hb5 hor5
  go_wp2_with fail
  obtain ⟨q2, q3, hb5, hor5⟩ := H5.out
  obtain ⟨r, rs⟩ := two_six q2 q3 (by omega) (.slice (some ⟨g, 0, none⟩) ws.length cap) (.int .i64 i3) (.int .i64 d) (.int .i64 m3) (.int .i64 a3) (.int .i64 e3) (.int .i64 5) (.bool false) (.int .i64 0) (.float .f64 0) (.string ⟨#[]⟩) (.slice lA ll lc)
  obtain ⟨FF, hFF⟩ : ∃ FF, ((((((((((((((w5).setCell ⟨w.heap.size + 1, 0, none⟩ (.slice (some ⟨g, 0, none⟩) ws.length cap)).setCell ⟨w.heap.size + 1, 1, none⟩ (.int .i64 i3)).setCell ⟨w.heap.size + 1, 2, none⟩ (.int .i64 d)).setCell ⟨w.heap.size + 1, 3, none⟩ (.int .i64 m3)).setCell ⟨w.heap.size + 1, 4, none⟩ (.int .i64 a3)).setCell ⟨w.heap.size + 1, 5, none⟩ (.int .i64 e3))).setCell ⟨w.heap.size + 1 + 1, 0, none⟩ (.int .i64 5)).setCell ⟨w.heap.size + 1 + 1, 1, none⟩ (.bool false)).setCell ⟨w.heap.size + 1 + 1, 2, none⟩ (.int .i64 0)).setCell ⟨w.heap.size + 1 + 1, 3, none⟩ (.float .f64 0)).setCell ⟨w.heap.size + 1 + 1, 4, none⟩ (.string ⟨#[]⟩)).setCell ⟨w.heap.size + 1 + 1, 5, none⟩ (.slice lA ll lc)) = FF := ⟨_, rfl⟩
  rw [hFF] at r rs
  have hFs : FF.heap.size = w5.heap.size := by rw [← hFF]; simp [World.setCell]
  have hFk : ∀ q, w.heap.size + 1 + 1 < q → FF.heap[q]? = w5.heap[q]? := fun q h1 => hFF ▸ (six_far (by omega) _ _ _ _ _ _).trans (six_far (by omega) _ _ _ _ _ _)
  have hFb : Below w.heap.size w FF := hFF ▸ (by
    repeat (with_reducible first | exact HB5.out | refine Below.setCell ?_ (by simp <;> omega) _))
  obtain ⟨F, hF⟩ : ∃ F, (FF.alloc (.cells #[.slice (some ⟨g, 0, none⟩) ws.length cap, .int .i64 i3, .int .i64 d, .int .i64 m3, .int .i64 a3, .int .i64 e3] 63)).drew = F := ⟨_, rfl⟩
  have r' : F.heap[w.heap.size + 1]? = some (.cells #[.slice (some ⟨g, 0, none⟩) ws.length cap, .int .i64 i3, .int .i64 d, .int .i64 m3, .int .i64 a3, .int .i64 e3] 63 (0, 0)) := by rw [← hF]; exact keepA r (.cells #[.slice (some ⟨g, 0, none⟩) ws.length cap, .int .i64 i3, .int .i64 d, .int .i64 m3, .int .i64 a3, .int .i64 e3] 63)
  have rs' : F.heap[w.heap.size + 1 + 1]? = some (.cells #[.int .i64 5, .bool false, .int .i64 0, .float .f64 0, .string ⟨#[]⟩, .slice lA ll lc] 25 (0, 0)) := by rw [← hF]; exact keepA rs (.cells #[.slice (some ⟨g, 0, none⟩) ws.length cap, .int .i64 i3, .int .i64 d, .int .i64 m3, .int .i64 a3, .int .i64 e3] 63)
  have n' : F.heap[w5.heap.size]? = some (.cells #[.slice (some ⟨g, 0, none⟩) ws.length cap, .int .i64 i3, .int .i64 d, .int .i64 m3, .int .i64 a3, .int .i64 e3] 63 (0, 0)) := by rw [← hF, ← hFs]; exact heap_alloc_new FF (.cells #[.slice (some ⟨g, 0, none⟩) ws.length cap, .int .i64 i3, .int .i64 d, .int .i64 m3, .int .i64 a3, .int .i64 e3] 63)
  have hkp : ∀ q, w.heap.size + 1 + 1 < q → q < w5.heap.size → F.heap[q]? = w5.heap[q]? := fun q h1 h2 => by
    rw [← hF]
    exact (Below.heap_alloc FF (.cells #[.slice (some ⟨g, 0, none⟩) ws.length cap, .int .i64 i3, .int .i64 d, .int .i64 m3, .int .i64 a3, .int .i64 e3] 63) q (by rw [hFs]; exact h2)).trans (hFk q h1)
  have hsz : F.heap.size = w5.heap.size + 1 := by rw [← hF, ← hFs]; simp
  have hbF : Below w.heap.size w F := by rw [← hF]; exact (hFb.alloc hFb.size _).drew
  rw [← hFF] at hF
  obtain ⟨⟨r0, r1, r2, r3, r4, r5⟩, -, -⟩ := six_cells r'
  obtain ⟨⟨s0, s1, s2, s3, s4, s5⟩, -, -⟩ := six_cells rs'
  obtain ⟨⟨n0, n1, n2, n3, n4, n5⟩, -, -⟩ := six_cells n'
  have HK := Lib.hid (And.intro hkp (And.intro hsz hbF))
  clear n' hkp hsz r rs q2 q3 r' rs' hFs hFk hFb hbF hFF hb5 hor5
  go_region
  go_wp2_with fail
  refine bodyPost_ret (v := .tuple #[StV g ws.length cap i3 d m3 a3 e3, .agg #[.int .i64 5, .bool false, .int .i64 0, .float .f64 0, .string ⟨#[]⟩, .slice lA ll lc], .bool (e3 == 0)]) (by simp [results, Tryd.results64, go_sem, r0, r1, r2, r3, r4, r5, s0, s1, s2, s3, s4, s5]) rfl ?_
  clear r0 r1 r2 r3 r4 r5 s0 s1 s2 s3 s4 s5 hF
  obtain ⟨-, -, hb5, hor5⟩ := H5.out
  obtain ⟨hw, hx, hx2, hdk, hs, hk5⟩ := HH.out
  have hva : valA x = true := by unfold valA; rw [hs, Bool.or_true]
  have hgk : (gx ws i).k = 5 := by rw [gx_of hx]; exact hk5
  refine ⟨_, _, _, _, _, _, _, _, _, _, _, _, _, _, rfl, HK.out.2.2, ?_⟩
  have hz4 := HZ4.out.2.size
  have hz1 := HB.out.size
  rcases hor5 with ⟨q, l, s, rfl, hsev, rfl, hlt, rfl, rfl, rfl, rfl, hlst⟩ | ⟨hbad, he⟩
  · refine .inl ⟨rfl, hva, _, s, pVal_ok (s := ⟨i, m⟩) hgk hsev, rfl, hlt, rfl, rfl, rfl, rfl, ?_⟩
    have hl12 : l.length ≤ 12 := by
      unfold sev at hsev
      split at hsev
      · injection hsev with h1 h2; subst h1; simp
      · exact sevL_len _ _ _ _ _ (by simp) hsev
    have hW4 : w.heap.size + 1 + 1 < W4.heap.size := by have := (Array.getElem?_eq_some_iff.1 HQ.out.2.2).1; omega
    obtain ⟨A, c2, heq, h1, h2, h3, h4⟩ := LstS.vals (LstS.keep (S' := fun b => w.heap.size ≤ b ∧ b < F.heap.size) keepS_T (fun p hp => World.cell?_of_block (HK.out.1 p.block (by have := hp.1; omega) hp.2)) (fun b hb => ⟨by have := hb.1; omega, by rw [HK.out.2.1]; have := hb.2; omega⟩) hlst)
    simp only [Value.slice.injEq, true_and] at heq
    obtain ⟨rfl, rfl⟩ := heq
    exact RdS.of lA lc (by decide) (by decide) (by decide) (by decide) h1 ⟨h2, by omega⟩ h3 h4
  · refine .inr (.inr ⟨by simpa using he, hva, ?_, he⟩)
    rcases hbad with rfl | ⟨q, j, c, rfl, hsev⟩
    · exact ⟨_, _, pVal_deep (s := ⟨i, m⟩) hgk⟩
    · exact ⟨_, _, pVal_bad (s := ⟨i, m⟩) hgk hsev⟩

end Go.Proofs.YtgmjhoppjjjilaaDoor
