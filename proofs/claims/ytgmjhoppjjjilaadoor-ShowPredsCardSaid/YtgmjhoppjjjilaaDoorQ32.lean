/- SpQ -/
import Derived.Test.YtgmjhoppjjjilaaDoorQ30
import Derived.Test.YtgmjhoppjjjilaaDoorQ31

/- the document's Parse (written by tools/laws13q.py) -/
namespace Go.Proofs.YtgmjhoppjjjilaaDoor
open Go.ChangeShapes Go.WideShapes Go.ChangeAt Go.RowKit Go.Fl
open Go.Shelf

/-- the steps of a text -/
def prsO (l : List UInt8) : Option (List Sp) :=
  if (rwO l).2.2 = 0 then (match rText (gx (rwO l).1) with | .ok t _ => some t | .bad _ _ => none) else none

/-- what Parse comes to -/
def PrsQ (l : List UInt8) (w : World) (z : Ending) (w' : World) : Prop :=
  ∃ (lA : Option Addr) (ll lc : Nat) (at_ e : Int), z = .returned (.tuple #[.slice lA ll lc, .int .i64 at_, .int .i64 e]) ∧ Below w.heap.size w w' ∧
    ((∃ t, prsO l = some t ∧ e = 0 ∧ RdTr 13 w' (fun b => w.heap.size ≤ b ∧ b < w'.heap.size) t (.slice lA ll lc)) ∨ (prsO l = none ∧ e ≠ 0))

theorem rText_bad {G : Nat → Wd} (h : ∃ j c, (if isNam (G 0) txG = false then Rs.bad 0 120 else if isSgn (G 1) 46 = false then .bad 1 120 else pChain G (rArg G 12 (rTrav G 12)) ⟨2, 0⟩) = .bad j c) : ∃ j c, rText G = .bad j c := by
  obtain ⟨j, c, h⟩ := h
  unfold rText
  split
  · exact ⟨_, _, rfl⟩
  · rename_i h1
    rw [if_neg h1] at h
    split
    · exact ⟨_, _, rfl⟩
    · rename_i h2
      rw [if_neg h2] at h
      rw [h]
      exact ⟨_, _, rfl⟩

set_option maxHeartbeats 8000000 in
set_option maxRecDepth 100000 in
theorem rparse_any (S : ByteArray) (w : World) : Calls Tryd.prog 10 #[.string S] w (PrsQ S.data.toList w) := by
  have HW := Lib.hid (rwords_any S w)
  go_enter Tryd.func10, Tryd.ntmps10
  go_wp2_with fail
  refine HW.out.mono ?_
  rintro e w1 ⟨v, rfl, hor, hb1⟩
  obtain ⟨er, her⟩ : ∃ er, (rwO S.data.toList).2.2 = er := ⟨_, rfl⟩
  obtain ⟨pl, hpl⟩ : ∃ pl, (rwO S.data.toList).2.1 = pl := ⟨_, rfl⟩
  rw [her] at hor ⊢
  rw [hpl]
  rcases hor with ⟨h0, hws⟩ | ⟨h0, rfl⟩
  rotate_left
  · have e1 : (er != 0) = true := by simpa using h0
    have HT : Hid (prsO S.data.toList = none ∧ er ≠ 0) := Lib.hid ⟨by unfold prsO; rw [her]; exact if_neg h0, h0⟩
    have HB := Lib.hid hb1
    clear her hpl h0 hb1
    go_wp2_with fail


    exact bodyPost_ret (v := .tuple #[.slice none 0 0, .int .i64 (pl : Nat), .int .i64 er]) (by simp [results, Tryd.results10, go_sem]) rfl ⟨none, 0, 0, _, _, rfl, HB.out, .inr HT.out⟩
  · subst h0
    obtain ⟨hG, hC, hlen⟩ := rwO_good her
    obtain ⟨ws, hwe⟩ : ∃ ws, (rwO S.data.toList).1 = ws := ⟨_, rfl⟩
    rw [hwe] at hG hC hlen hws
    have HP : Hid (prsO S.data.toList = match rText (gx ws) with | .ok t _ => some t | .bad _ _ => none) := Lib.hid (by unfold prsO; rw [her, hwe]; exact if_pos rfl)
    obtain ⟨g, cap, rfl, hcap, hg, hcells⟩ := hws
    have hwd : WdsAt w1 g ws := ⟨fun j k hj hk => hcells j k hj hk, hg⟩
    have HG := Lib.hid hG; have HC := Lib.hid hC
    have HB := Lib.hid (And.intro hb1 hwd)
    obtain ⟨x0, hx0⟩ : ∃ x, ws[0]? = some x := ⟨_, List.getElem?_eq_getElem hlen⟩
    obtain ⟨X2, hX2⟩ : ∃ X, w1.alloc (.cells #[.slice (some ⟨g, 0, none⟩) ws.length cap, .int .i64 0, .int .i64 0, .int .i64 0, .int .i64 0, .int .i64 0] 63) = X := ⟨_, rfl⟩
    have z2 : SB X2 w1.heap.size g ws.length cap 0 0 0 0 0 := hX2 ▸ heap_alloc_new w1 _
    have hb2 : Below w1.heap.size w1 X2 := hX2 ▸ (Below.refl _ w1).alloc (Nat.le_refl _) _
    have hwd2 := hwd.on hb2
    obtain ⟨u0, u1, u2, u3, u4, -⟩ := hwd2.word hx0
    rw [Nat.zero_mul] at u0 u1 u2 u3 u4
    have c0 : X2.cell? ⟨g, 0, none⟩ = some (.int .i64 x0.k) := u0
    have c1 : X2.cell? ⟨g, 1, none⟩ = some (.string x0.s) := u1
    have c4 : X2.cell? ⟨g, 4, none⟩ = some (.int .i64 (x0.at_ : Nat)) := u4
    have hl0 : (0 : Int) < (ws.length : Int) := by omega
    obtain ⟨⟨xa0, xa1, xa2, xa3, xa4, xa5⟩, xaf, xal⟩ := z2.cells
    have xaf1 := xaf 1
    have HX2 := Lib.hid hX2
    have H2 := Lib.hid (And.intro z2 (And.intro hb2 (And.intro hwd2 hx0)))
    clear hG hC hwd hcells hb1 her hpl hwe hX2 z2 hb2 hwd2 u0 u1 u2 u3 u4 hx0 xaf hlen hcap
    have hgx : gx ws 0 = { x0 with at_ := 0 } := gx_of H2.out.2.2.2
    go_upto_region 5 with fail
    rw [HX2.out]
    by_cases hk : x0.k = 1 ∧ x0.s.data.toList = txG
    rotate_left
    · have HT : Hid (prsO S.data.toList = none) := Lib.hid (by
        rw [HP.out]
        obtain ⟨j, c, h⟩ : ∃ j c, rText (gx ws) = .bad j c := rText_bad ⟨0, 120, if_pos (by
          rw [hgx]
          show isNam x0 txG = false
          unfold isNam isL
          by_cases h1 : x0.k = 1
          · rw [decide_eq_true h1, Bool.true_and, beq_eq_false_iff_ne]; exact fun h2 => hk ⟨h1, h2⟩
          · rw [decide_eq_false h1]; rfl)⟩
        rw [h])
      have HBF : Hid (Below w.heap.size w X2) := Lib.hid (HB.out.1.trans (H2.out.2.1.mono HB.out.1.size))
      by_cases h1 : x0.k = 1
      · have d1 : (x0.k != 1) = false := by simpa using h1
        have hs : x0.s.data.toList ≠ txG := fun h2 => hk ⟨h1, h2⟩
        have d2 : (x0.s.toList != [103]) = true := by rw [bne_iff_ne, Lib.toList_data]; exact hs
        have d3 : (x0.s.toList == [103]) = false := by rw [beq_eq_false_iff_ne, Lib.toList_data]; exact hs
        rw [h1] at c0
        clear hk h1 hs hgx
        go_wp2_with fail
        go_big_quiet (fail)
        go_wp2_with fail
        exact bodyPost_ret (v := .tuple #[.slice none 0 0, .int .i64 (x0.at_ : Nat), .int .i64 120]) (by simp [results, Tryd.results10, go_sem]) rfl ⟨none, 0, 0, _, _, rfl, HBF.out.trans ((drewN_below X2 _).mono HBF.out.size), .inr ⟨HT.out, by decide⟩⟩
      · have d1 : (x0.k != 1) = true := by simpa using h1
        clear hk h1 hgx
        go_wp2_with fail
        go_big_quiet (fail)
        go_wp2_with fail
        exact bodyPost_ret (v := .tuple #[.slice none 0 0, .int .i64 (x0.at_ : Nat), .int .i64 120]) (by simp [results, Tryd.results10, go_sem]) rfl ⟨none, 0, 0, _, _, rfl, HBF.out.trans ((drewN_below X2 _).mono HBF.out.size), .inr ⟨HT.out, by decide⟩⟩
    · obtain ⟨h1, hs⟩ := hk
      have d1 : (x0.k != 1) = false := by simpa using h1
      have d2 : (x0.s.toList != [103]) = false := by rw [bne_eq_false_iff_eq, Lib.toList_data]; exact hs
      have d3 : (x0.s.toList == [103]) = true := by rw [beq_iff_eq, Lib.toList_data]; exact hs
      have HN0 : Hid (isNam (gx ws 0) txG = true) := Lib.hid (by
        rw [hgx]
        show isNam x0 txG = true
        unfold isNam isL
        rw [decide_eq_true h1, hs]; rfl)
      obtain ⟨y1, hy1⟩ := HG.out.next H2.out.2.2.2 (by rw [h1]; decide)
      rw [h1] at c0
      obtain ⟨W3, hW3⟩ : ∃ W, X2.setCell ⟨w1.heap.size, 1, none⟩ (.int .i64 1) = W := ⟨_, rfl⟩
      have z3 : SB W3 w1.heap.size g ws.length cap 1 0 0 0 0 := by
        have h := H2.out.1
        rw [← hW3]
        unfold SB at h ⊢
        simp [World.setCell, Array.getElem?_modify, h]
      have hO3 : Only (fun b => b = w1.heap.size) w1 W3 := by rw [← hW3]; exact (Only.of_below (ok := fun b => b = w1.heap.size) H2.out.2.1).setCell (p := ⟨w1.heap.size, 1, none⟩) (.inl rfl) _
      have hwd3 := HB.out.2.far hO3 HB.out.2.lt
      obtain ⟨⟨xb0, xb1, xb2, xb3, xb4, xb5⟩, -, xbl⟩ := z3.cells
      obtain ⟨i4, a4, e4, hsg, hst⟩ : ∃ i4 a4 e4 : Int, Calls Tryd.prog 27 #[StV g ws.length cap 1 0 0 0 0, .string ⟨#[46]⟩] W3 (fun z w' => z = .returned (StV g ws.length cap i4 0 0 a4 e4) ∧ Below W3.heap.size W3 w') ∧
          ∀ W, WdsAt W g ws → Calls Tryd.prog 28 #[StV g ws.length cap i4 0 0 a4 e4] W (StpX g cap ws (if isSgn (gx ws 1) 46 = false then Rs.bad 1 120 else pChain (gx ws) (rArg (gx ws) 12 (rTrav (gx ws) 12)) ⟨2, 0⟩) 13 0 W) := by
        have hg1 : isSgn (gx ws 1) 46 = isSgn y1 46 := by rw [gx_of hy1]; rfl
        cases h : isSgn y1 46
        · refine ⟨_, _, _, sign_no hwd3 hy1 0 0 0 46 h, fun W hW => (steps_er _ _ _ _ _ W (by decide)).mono ?_⟩
          rintro e w' ⟨lA, ll, lc, rfl, hb⟩
          exact ⟨_, _, _, _, _, _, _, _, rfl, hb, .inr ⟨⟨1, 120, if_pos (hg1.trans h)⟩, by decide⟩⟩
        · obtain ⟨y2, hy2⟩ := HG.out.next hy1 (by
            unfold isSgn at h
            rw [Bool.and_eq_true, decide_eq_true_iff] at h
            rw [h.1]; decide)
          refine ⟨_, _, _, sign_yes hwd3 hy1 HG.out.few 0 0 0 46 h, fun W hW => ?_⟩
          exact (steps_all HG.out HC.out 12 W 2 0 0 0 y2 hW hy2 (by decide) (by decide)).mono (fun _ _ h' => h'.to (by rw [if_neg (by rw [hg1, h]; decide)]))
      have HSG := Lib.hid hsg; have HST := Lib.hid hst
      have H3 := Lib.hid (And.intro z3 (And.intro hO3 hwd3))
      clear h1 hs hgx hy1 z3 hO3 hwd3 hsg hst
      go_wp2_with fail
      refine HSG.out.mono ?_
      rintro e w4 ⟨rfl, hb4⟩
      have hwd4 := H3.out.2.2.on hb4
      have HB4 := Lib.hid (And.intro hb4 hwd4)
      clear hb4 hwd4
      go_wp2_with fail
      refine (HST.out _ HB4.out.2).mono ?_
      rintro e w5 ⟨i3, d3, m3, a3, e3, lA, ll, lc, rfl, hb5, hor5⟩
      have z5 := (H3.out.1.on HB4.out.1).on hb5
      have hO5 := (H3.out.2.1.trans (Only.of_below HB4.out.1)).trans (Only.of_below (ok := fun b => b = w1.heap.size) hb5)
      obtain ⟨⟨xc0, xc1, xc2, xc3, xc4, xc5⟩, xcf, xcl⟩ := z5.cells
      have xcf0 := xcf 0; have xcf1 := xcf 1; have xcf2 := xcf 2; have xcf3 := xcf 3; have xcf4 := xcf 4; have xcf5 := xcf 5
      obtain ⟨W6, hW6⟩ : ∃ W, (((((((w5).setCell ⟨w1.heap.size, 0, none⟩ (.slice (some ⟨g, 0, none⟩) ws.length cap)).setCell ⟨w1.heap.size, 1, none⟩ (.int .i64 i3)).setCell ⟨w1.heap.size, 2, none⟩ (.int .i64 d3)).setCell ⟨w1.heap.size, 3, none⟩ (.int .i64 m3)).setCell ⟨w1.heap.size, 4, none⟩ (.int .i64 a3)).setCell ⟨w1.heap.size, 5, none⟩ (.int .i64 e3)) = W := ⟨_, rfl⟩
      have z6 : SB W6 w1.heap.size g ws.length cap i3 d3 m3 a3 e3 := by rw [← hW6]; exact six_done z5 (.slice (some ⟨g, 0, none⟩) ws.length cap) (.int .i64 i3) (.int .i64 d3) (.int .i64 m3) (.int .i64 a3) (.int .i64 e3)
      have hO6' : Only (fun b => b = w1.heap.size) w5 W6 := by rw [← hW6]; exact only_six (.slice (some ⟨g, 0, none⟩) ws.length cap) (.int .i64 i3) (.int .i64 d3) (.int .i64 m3) (.int .i64 a3) (.int .i64 e3) w5 rfl
      have hO6 := hO5.trans hO6'
      have hwd6 := HB.out.2.far hO6 HB.out.2.lt
      obtain ⟨⟨xd0, xd1, xd2, xd3, xd4, xd5⟩, xdf, xdl⟩ := z6.cells
      have xdf0 := xdf 0; have xdf1 := xdf 1; have xdf2 := xdf 2; have xdf3 := xdf 3; have xdf4 := xdf 4; have xdf5 := xdf 5
      have hbW6 : Below w.heap.size w W6 := HB.out.1.trans (hO6.below HB.out.1.size (fun b hb => by have := HB.out.1.size; omega))
      have hr45 : w1.heap.size < w4.heap.size := by have := HB4.out.1.size; have := H3.out.1.cells.2.2; omega
      rcases hor5 with ⟨l, s, hr, rfl, hlt, rfl, rfl, rfl, hrd⟩ | ⟨⟨j, c, hr⟩, he⟩
      rotate_left
      · have e1 : (e3 == 0) = false := by simpa using he
        have e2 : (e3 != 0) = true := by simpa using he
        have HT : Hid (prsO S.data.toList = none ∧ e3 ≠ 0) := Lib.hid ⟨by
          rw [HP.out]
          obtain ⟨j, c, h⟩ : ∃ j c, rText (gx ws) = .bad j c := rText_bad ⟨j, c, by rw [if_neg (by rw [HN0.out]; decide)]; exact hr⟩
          rw [h], he⟩
        have HBF := Lib.hid hbW6
        clear he hr z5 hO5 xcf z6 hO6' hO6 hwd6 xdf hbW6 hb5
        go_wp2_with fail
        go_big_quiet (fail)
        go_wp2_with fail
        exact bodyPost_ret (v := .tuple #[.slice none 0 0, .int .i64 a3, .int .i64 e3]) (by simp [results, Tryd.results10, go_sem]) rfl ⟨none, 0, 0, _, _, rfl, HBF.out.trans ((drewN_below W6 _).mono HBF.out.size), .inr HT.out⟩
      · obtain ⟨y, hy⟩ : ∃ y, ws[s.i]? = some y := ⟨_, List.getElem?_eq_getElem hlt⟩
        obtain ⟨v0, v1, -, -, -, hyl⟩ := hwd6.word hy
        have hyl' : (s.i : Int) < (ws.length : Int) := by omega
        have hgy := gx_of hy
        have HR : Hid (rText (gx ws) = if y.k = 0 then .ok l s else .bad s.i 120) := Lib.hid (by
          have h1 : isSgn (gx ws 1) 46 = true := by
            cases h : isSgn (gx ws 1) 46
            · rw [h] at hr; cases hr
            · rfl
          rw [h1] at hr
          unfold rText
          rw [if_neg (by rw [HN0.out]; decide), if_neg (by rw [h1]; decide)]
          rw [show pChain (gx ws) (rArg (gx ws) 12 (rTrav (gx ws) 12)) ⟨2, 0⟩ = .ok l s from hr]
          show (if (gx ws s.i).k = 0 then Rs.ok l s else .bad s.i 120) = _
          rw [hgy])
        by_cases h0 : y.k = 0
        · have d0 : (y.k != 0) = false := by simpa using h0
          have HT : Hid (prsO S.data.toList = some l) := Lib.hid (by rw [HP.out, HR.out, if_pos h0])
          have HF : Hid (Below w.heap.size w W6 ∧ RdTr 13 W6 (fun b => w.heap.size ≤ b ∧ b < W6.heap.size) l (.slice lA ll lc)) := Lib.hid ⟨hbW6, keepS_Tr 13 _ _ _ _ _ _ (fun p hp => World.cell?_of_block (hO6'.block p.block hp.2 (by have := hp.1; omega))) (fun b hb => ⟨by have := hb.1; have := HB.out.1.size; omega, Nat.lt_of_lt_of_le hb.2 hO6'.size⟩) hrd⟩
          rw [h0] at v0
          clear h0 hr z5 hO5 xcf z6 hO6' hO6 hwd6 xdf hbW6 hb5 hy hgy hrd
          go_wp2_with fail


          exact bodyPost_ret (v := .tuple #[.slice lA ll lc, .int .i64 0, .int .i64 0]) (by simp [results, Tryd.results10, go_sem]) rfl ⟨_, _, _, _, _, rfl, HF.out.1, .inl ⟨l, HT.out, rfl, HF.out.2⟩⟩
        · have d0 : (y.k != 0) = true := by simpa using h0
          have HT : Hid (prsO S.data.toList = none) := Lib.hid (by rw [HP.out, HR.out, if_neg h0])
          have HF3 := Lib.hid (fail_ok (cap := cap) hwd6 hy d3 s.n 0 120)
          have H6 := Lib.hid (And.intro z6 hbW6)
          clear h0 hr z5 hO5 xcf z6 hO6' hO6 hwd6 xdf hbW6 hb5 hy hgy hrd
          go_wp2_with fail
          refine HF3.out.mono ?_
          rintro e w7 ⟨rfl, hb7⟩
          have z7 := H6.out.1.on hb7
          obtain ⟨⟨xe0, xe1, xe2, xe3, xe4, xe5⟩, xef, xel⟩ := z7.cells
          have xef0 := xef 0; have xef1 := xef 1; have xef2 := xef 2; have xef3 := xef 3; have xef4 := xef 4; have xef5 := xef 5
          obtain ⟨W8, hW8⟩ : ∃ W, (((((((w7).setCell ⟨w1.heap.size, 0, none⟩ (.slice (some ⟨g, 0, none⟩) ws.length cap)).setCell ⟨w1.heap.size, 1, none⟩ (.int .i64 (s.i : Nat))).setCell ⟨w1.heap.size, 2, none⟩ (.int .i64 d3)).setCell ⟨w1.heap.size, 3, none⟩ (.int .i64 (s.n : Nat))).setCell ⟨w1.heap.size, 4, none⟩ (.int .i64 (y.at_ : Nat))).setCell ⟨w1.heap.size, 5, none⟩ (.int .i64 120)) = W := ⟨_, rfl⟩
          have z8 : SB W8 w1.heap.size g ws.length cap (s.i : Nat) d3 (s.n : Nat) (y.at_ : Nat) 120 := by rw [← hW8]; exact six_done z7 (.slice (some ⟨g, 0, none⟩) ws.length cap) (.int .i64 (s.i : Nat)) (.int .i64 d3) (.int .i64 (s.n : Nat)) (.int .i64 (y.at_ : Nat)) (.int .i64 120)
          have hO8 : Only (fun b => b = w1.heap.size) W6 W8 := by rw [← hW8]; exact (Only.of_below hb7).trans (only_six (.slice (some ⟨g, 0, none⟩) ws.length cap) (.int .i64 (s.i : Nat)) (.int .i64 d3) (.int .i64 (s.n : Nat)) (.int .i64 (y.at_ : Nat)) (.int .i64 120) w7 rfl)
          obtain ⟨⟨xg0, xg1, xg2, xg3, xg4, xg5⟩, -, xgl⟩ := z8.cells
          have HBF : Hid (Below w.heap.size w W8) := Lib.hid (H6.out.2.trans (hO8.below H6.out.2.size (fun b hb => by have := HB.out.1.size; omega)))
          clear hb7 z7 xef z8 hO8
          go_wp2_with fail
          go_big_quiet (fail)
          go_wp2_with fail
          exact bodyPost_ret (v := .tuple #[.slice none 0 0, .int .i64 (y.at_ : Nat), .int .i64 120]) (by simp [results, Tryd.results10, go_sem]) rfl ⟨none, 0, 0, _, _, rfl, HBF.out.trans ((drewN_below W8 _).mono HBF.out.size), .inr ⟨HT.out, by decide⟩⟩

end Go.Proofs.YtgmjhoppjjjilaaDoor
