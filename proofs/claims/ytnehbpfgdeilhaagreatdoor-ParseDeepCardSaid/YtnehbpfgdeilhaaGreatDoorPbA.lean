/- parse: Parse -/
import Derived.Test.YtnehbpfgdeilhaaGreatDoorPbS
import Derived.Test.YtnehbpfgdeilhaaGreatDoorPaK
import Derived.Test.YtnehbpfgdeilhaaGreatDoorLxX
import Derived.Test.YtnehbpfgdeilhaaGreatDoorPaH

namespace Go.Proofs.YtnehbpfgdeilhaaGreatDoor
open Go.ChangeShapes Go.WideShapes Go.ChangeAt Go.RowKit Go.Fl
open Go.Shelf

/-- the three boxes of Parse's results -/
structure Bx3 (b0 : Nat) (l a c : Value) (w : World) : Prop where
  l : Blk w b0 22 #[l]
  a : Blk w (b0 + 1) 3 #[a]
  c : Blk w (b0 + 1 + 1) 23 #[c]

theorem Bx3.keep {b0 : Nat} {l a c : Value} {w w' : World} (h : Bx3 b0 l a c w) (hk : ∀ b, (b = b0 ∨ b = b0 + 1 ∨ b = b0 + 1 + 1) → w'.heap[b]? = w.heap[b]?) : Bx3 b0 l a c w' :=
  ⟨(hk _ (.inl rfl)).trans h.l, (hk _ (.inr (.inl rfl))).trans h.a, (hk _ (.inr (.inr rfl))).trans h.c⟩

theorem Bx3.on {b0 : Nat} {l a c : Value} {w w' : World} (h : Bx3 b0 l a c w) (hb : Below w.heap.size w w') : Bx3 b0 l a c w' :=
  h.keep fun b hb' => hb.block b (by rcases hb' with rfl | rfl | rfl; exact h.l.lt; exact h.a.lt; exact h.c.lt)

theorem Bx3.cells {b0 : Nat} {l a c : Value} {w : World} (h : Bx3 b0 l a c w) : (w.cell? ⟨b0, 0, none⟩ = some l ∧ w.cell? ⟨b0 + 1, 0, none⟩ = some a ∧ w.cell? ⟨b0 + 1 + 1, 0, none⟩ = some c) ∧ w.frozen? ⟨b0, 0, none⟩ = false ∧ w.frozen? ⟨b0 + 1, 0, none⟩ = false ∧ w.frozen? ⟨b0 + 1 + 1, 0, none⟩ = false :=
  ⟨⟨h.l.cell 0, h.a.cell 0, h.c.cell 0⟩, h.l.frozen 0, h.a.frozen 0, h.c.frozen 0⟩

theorem blk_drew1 {w : World} {g : Nat} {t : TypeId} {cs : Array Value} (h : Blk w g t cs) : Blk w.drew g t cs := h

theorem blk_set1 {w : World} {g : Nat} {t : TypeId} {x : Value} (h : Blk w g t #[x]) (v : Value) : Blk (w.setCell ⟨g, 0, none⟩ v) g t #[v] := h.set_ 0 v

set_option maxHeartbeats 1000000 in
set_option maxRecDepth 100000 in
theorem parse_any (S : ByteArray) (w : World) (hs : S.size ≤ maxLen) (he : Env w) : Calls Tryz.prog 5 #[.string S] w (PrsP (parseO S.data.toList) w) := by
  have hmf : ∀ (fn : Fn) (first cap : Array Value) (w : World), (Instr.makeFunc fn first cap).run Tryz.prog w = .ok (.func fn first cap) w := fun _ _ _ _ => rfl
  obtain ⟨w0, hw0⟩ : ∃ w0, ((w.alloc (.cells #[.slice none 0 0] 22)).alloc (.cells #[.int .i64 0] 3)).alloc (.cells #[.int .i64 0] 23) = w0 := ⟨_, rfl⟩
  have hb0 : Below w.heap.size w w0 := by rw [← hw0]; exact (((Below.refl _ _).alloc (Nat.le_refl _) _).alloc (by simp) _).alloc (by simp <;> omega) _
  have hs0 : w0.heap.size = w.heap.size + 3 := by rw [← hw0]; simp
  have hx0 : Bx3 w.heap.size (.slice none 0 0) (.int .i64 0) (.int .i64 0) w0 := by
    have q1 := Blk.new w 22 #[.slice none 0 0]
    have q2 := Blk.new (w.alloc (.cells #[.slice none 0 0] 22)) 3 #[.int .i64 0]
    have q3 := Blk.new ((w.alloc (.cells #[.slice none 0 0] 22)).alloc (.cells #[.int .i64 0] 3)) 23 #[.int .i64 0]
    simp only [World.size_alloc] at q2 q3
    rw [← hw0]
    exact ⟨(q1.below ((Below.refl _ _).alloc (Nat.le_refl _) _) (by simp)).below ((Below.refl _ _).alloc (Nat.le_refl _) _) (by simp <;> omega), q2.below ((Below.refl _ _).alloc (Nat.le_refl _) _) (by simp), q3⟩
  rcases hw : wdsO canonN S.data.toList with ⟨ws, p, er⟩
  by_cases h0 : er = 0
  · subst h0
    obtain ⟨hne, rfl⟩ := wds_ne hw
    have hGd := wds_gd hw hne
    have HC := Lib.hid (words_good S ws w0 hs (he.on hb0) hw)
    have HVp : Hid (parseO S.data.toList = prsW ws) := Lib.hid (by unfold parseO; rw [hw]; rfl)
    have H0 := Lib.hid (And.intro hb0 (And.intro hs0 hx0))
    have HG := Lib.hid hGd
    have hpos : 0 < ws.length := List.length_pos_iff.2 hne
    clear hb0 hs0 hx0 hw he hne hGd
    go_enter_defers Tryz.func5, Tryz.ntmps5
    go_wp2_with fail
    refine HC.out.mono ?_
    rintro e w1 ⟨g, cap, rfl, hc, hg, hcl, hb1⟩
    have hx1 := H0.out.2.2.on hb1
    obtain ⟨⟨c0, c1, c2⟩, z0, z1, z2⟩ := hx1.cells
    have hs1 := hb1.size
    have hs0 := H0.out.2.1
    -- words lie in none of the boxes
    have hg4 := hcl 0 4 hpos (by decide)
    have hgne : ∀ b t v, Blk w1 b t #[v] → g ≠ b := by
      rintro b t v hb rfl
      have h5 := hb.cell (0 * 5 + 4)
      rw [h5] at hg4
      cases hg4
    have g0 := hgne _ _ _ hx1.l
    have g1 := hgne _ _ _ hx1.a
    have g2 := hgne _ _ _ hx1.c
    obtain ⟨w2, hw2⟩ : ∃ w2, (w1.setCell ⟨w.heap.size + 1, 0, none⟩ (.int .i64 0)).setCell ⟨w.heap.size + 1 + 1, 0, none⟩ (.int .i64 0) = w2 := ⟨_, rfl⟩
    have hs2 : w2.heap.size = w1.heap.size := by rw [← hw2]; simp [World.setCell]
    have hx2 : Bx3 w.heap.size (.slice none 0 0) (.int .i64 0) (.int .i64 0) w2 := by
      rw [← hw2]
      exact ⟨(hx1.l.far (p := ⟨w.heap.size + 1, 0, none⟩) (by show _ ≠ w.heap.size + 1; omega) _).far (p := ⟨w.heap.size + 1 + 1, 0, none⟩) (by show _ ≠ w.heap.size + 1 + 1; omega) _,
        (hx1.a.set_ 0 (.int .i64 0)).far (p := ⟨w.heap.size + 1 + 1, 0, none⟩) (by show _ ≠ w.heap.size + 1 + 1; omega) _,
        (hx1.c.far (p := ⟨w.heap.size + 1, 0, none⟩) (by show _ ≠ w.heap.size + 1; omega) _).set_ 0 (.int .i64 0)⟩
    have hb2 : Below w.heap.size w w2 := by
      rw [← hw2]
      exact ((H0.out.1.trans (hb1.mono H0.out.1.size)).setCell (p := ⟨w.heap.size + 1, 0, none⟩) (by show w.heap.size ≤ w.heap.size + 1; omega) _).setCell (p := ⟨w.heap.size + 1 + 1, 0, none⟩) (by show w.heap.size ≤ w.heap.size + 1 + 1; omega) _
    have hg2 : w2.heap[g]? = w1.heap[g]? := by
      rw [← hw2]
      exact (Below.heap_setCell _ ⟨w.heap.size + 1 + 1, 0, none⟩ _ g g2).trans (Below.heap_setCell _ ⟨w.heap.size + 1, 0, none⟩ _ g g1)
    obtain ⟨w3, hw3⟩ : ∃ w3, w2.alloc (.cells #[.slice (some ⟨g, 0, none⟩) ws.length cap, .int .i64 0, .int .i64 0, .int .i64 0] 38) = w3 := ⟨_, rfl⟩
    have hb3 : Below w2.heap.size w2 w3 := by rw [← hw3]; exact (Below.refl _ _).alloc (Nat.le_refl _) _
    have hs3 : w3.heap.size = w1.heap.size + 1 := by rw [← hw3, ← hs2]; simp
    have hp3 : PB w3 w2.heap.size g cap ws 0 0 0 := by
      refine ⟨by rw [← hw3]; exact Blk.new _ _ _, fun j k hj hk => ?_, by omega, by omega, hpos⟩
      refine Eq.trans ?_ (hcl j k hj hk)
      exact (hb3.cell (p := ⟨g, j * 5 + k, none⟩) (by show g < _; omega)).trans (World.cell?_of_block (a := ⟨g, j * 5 + k, none⟩) hg2)
    have hx3 := hx2.on hb3
    obtain ⟨⟨d0, d1, d2⟩, y0, y1, y2⟩ := hx2.cells
    have HT := Lib.hid (ptext_any HG.out hp3)
    have H3 := Lib.hid (And.intro hx3 (And.intro (hb2.trans (hb3.mono hb2.size)) (And.intro hs3 (And.intro hs2 hs1))))
    have hs2' : w1.heap.size = w2.heap.size := hs2.symm
    have HS2 := Lib.hid hs2'
    clear hx1 hg4 hgne hx2 hx3 hb1 hb2 hb3 hp3 hcl hg hc hg2 hs2 hs3 hs2'
    go_wp2_with fail
    (with_reducible refine HT.out.mono ?_)
    rintro e w4 hgot
    cases hr : pText (gx ws) with
    | bad j c =>
      have HV : Hid (parseO S.data.toList = .bad (ws.getD j wdNone).at_ c) := Lib.hid (by rw [HVp.out]; unfold prsW; rw [hr])
      unfold TxtP at hgot
      rw [hr] at hgot
      obtain ⟨rfl, -, ho⟩ := hgot
      have hn := H3.out.2.2
      have hx4 : Bx3 w.heap.size (.slice none 0 0) (.int .i64 0) (.int .i64 0) w4 := H3.out.1.keep (fun b hb => ho.block b (by omega) (by omega))
      refine leaves_cons (f := 9) (args := #[.pointer (some ⟨w.heap.size, 0, none⟩), .pointer (some ⟨w.heap.size + 1, 0, none⟩), .pointer (some ⟨w.heap.size + 1 + 1, 0, none⟩)]) (by simp) (by simp [go_sem]) ?_
      refine (catch_panic hx4.l hx4.a hx4.c (by omega) (by omega) (by omega)).mono ?_
      rintro e u' w5 ⟨rfl, rfl, q0, q1, q2, ho5⟩
      have f0 : w5.cell? ⟨w.heap.size, 0, none⟩ = some (.slice none 0 0) := q0.cell 0
      have f1 : w5.cell? ⟨w.heap.size + 1, 0, none⟩ = some (.int .i64 ((ws.getD j wdNone).at_ : Nat)) := q1.cell 0
      have f2 : w5.cell? ⟨w.heap.size + 1 + 1, 0, none⟩ = some (.int .i64 c) := q2.cell 0
      have hbf : Below w.heap.size w w5 := (H3.out.2.1.trans (ho.below (by omega) (fun k hk => by omega))).trans (ho5.below (by have := ho.size; omega) (fun k hk => by omega))
      refine ⟨.tuple #[.slice none 0 0, .int .i64 ((ws.getD j wdNone).at_ : Nat), .int .i64 c], by simp [results, Tryz.results5, go_sem, f0, f1, f2], ?_⟩
      rw [HV.out]
      exact ⟨hbf, rfl⟩
    | ok l s =>
      have HV : Hid (parseO S.data.toList = .ok l) := Lib.hid (by rw [HVp.out]; unfold prsW; rw [hr])
      unfold TxtP at hgot
      rw [hr] at hgot
      obtain ⟨v, rfl, hv, -, ho⟩ := hgot
      obtain ⟨A, n, rfl⟩ := rdTr_shape _ _ _ _ _ hv
      have hn := H3.out.2.2
      have hx4 : Bx3 w.heap.size (.slice none 0 0) (.int .i64 0) (.int .i64 0) w4 := H3.out.1.keep (fun b hb => ho.block b (by omega) (by omega))
      obtain ⟨⟨k0, k1, k2⟩, m0, m1, m2⟩ := hx4.cells
      have H4 := Lib.hid (And.intro hx4 (And.intro hv ho))
      clear hx4 hv ho hr hn
      go_wp2_with fail
      obtain ⟨wf, hwf⟩ : ∃ wf, (((w4.setCell ⟨w.heap.size, 0, none⟩ (.slice A l.length n)).setCell ⟨w.heap.size + 1, 0, none⟩ (.int .i64 0)).setCell ⟨w.heap.size + 1 + 1, 0, none⟩ (.int .i64 0)) = wf := ⟨_, rfl⟩
      obtain ⟨hx4, hv, ho⟩ := H4.out
      have hn := H3.out.2.2
      have hos := ho.size
      have n01 : w.heap.size ≠ w.heap.size + 1 := by omega
      have n02 : w.heap.size ≠ w.heap.size + 1 + 1 := by omega
      have n12 : w.heap.size + 1 ≠ w.heap.size + 1 + 1 := by omega
      have r0 : Blk wf w.heap.size 22 #[.slice A l.length n] := by
        rw [← hwf]
        exact ((blk_set1 hx4.l (.slice A l.length n)).far (p := ⟨w.heap.size + 1, 0, none⟩) n01 (.int .i64 0)).far (p := ⟨w.heap.size + 1 + 1, 0, none⟩) n02 (.int .i64 0)
      have r1 : Blk wf (w.heap.size + 1) 3 #[.int .i64 0] := by
        rw [← hwf]
        exact (blk_set1 (hx4.a.far (p := ⟨w.heap.size, 0, none⟩) n01.symm (.slice A l.length n)) (.int .i64 0)).far (p := ⟨w.heap.size + 1 + 1, 0, none⟩) n12 (.int .i64 0)
      have r2 : Blk wf (w.heap.size + 1 + 1) 23 #[.int .i64 0] := by
        rw [← hwf]
        exact blk_set1 ((hx4.c.far (p := ⟨w.heap.size, 0, none⟩) n02.symm (.slice A l.length n)).far (p := ⟨w.heap.size + 1, 0, none⟩) n12.symm (.int .i64 0)) (.int .i64 0)
      have f0 : wf.cell? ⟨w.heap.size, 0, none⟩ = some (.slice A l.length n) := r0.cell 0
      have f1 : wf.cell? ⟨w.heap.size + 1, 0, none⟩ = some (.int .i64 0) := r1.cell 0
      have f2 : wf.cell? ⟨w.heap.size + 1 + 1, 0, none⟩ = some (.int .i64 0) := r2.cell 0
      have hb4 : Below w.heap.size w w4 := H3.out.2.1.trans (ho.below (by omega) (fun k hk => by omega))
      have hbf : Below w.heap.size w wf := by
        rw [← hwf]
        exact ((hb4.setCell (p := ⟨w.heap.size, 0, none⟩) (Nat.le_refl _) _).setCell (p := ⟨w.heap.size + 1, 0, none⟩) (by show w.heap.size ≤ w.heap.size + 1; omega) _).setCell (p := ⟨w.heap.size + 1 + 1, 0, none⟩) (by show w.heap.size ≤ w.heap.size + 1 + 1; omega) _
      have hsf : wf.heap.size = w4.heap.size := by rw [← hwf]; simp [World.setCell]
      have hvf : RdTr 13 wf (fun b => w.heap.size ≤ b ∧ b < wf.heap.size) l (.slice A l.length n) := keepS_Tr 13 _ _ _ _ _ _ (fun q hq => World.cell?_of_block (by
        rw [← hwf]
        have hq1 := hq.1
        exact ((Below.heap_setCell _ ⟨w.heap.size + 1 + 1, 0, none⟩ _ q.block (by show q.block ≠ w.heap.size + 1 + 1; omega)).trans (Below.heap_setCell _ ⟨w.heap.size + 1, 0, none⟩ _ q.block (by show q.block ≠ w.heap.size + 1; omega))).trans (Below.heap_setCell _ ⟨w.heap.size, 0, none⟩ _ q.block (by show q.block ≠ w.heap.size; omega)))) (fun b hb => ⟨by have := hb.1; omega, by rw [hsf]; exact hb.2⟩) hv
      rw [hwf]
      refine leaves_cons (f := 9) (args := #[.pointer (some ⟨w.heap.size, 0, none⟩), .pointer (some ⟨w.heap.size + 1, 0, none⟩), .pointer (some ⟨w.heap.size + 1 + 1, 0, none⟩)]) (by simp) (by simp [go_sem]) ?_
      refine (catch_idle w.heap.size (w.heap.size + 1) (w.heap.size + 1 + 1) wf).mono ?_
      rintro e u' w5 ⟨rfl, rfl, rfl⟩
      refine ⟨.tuple #[.slice A l.length n, .int .i64 0, .int .i64 0], by simp [results, Tryz.results5, go_sem, f0, f1, f2], ?_⟩
      rw [HV.out]
      exact ⟨hbf, _, rfl, hvf⟩
  · have HC := Lib.hid (words_bad S p er ws w0 hs (he.on hb0) hw h0)
    have HV : Hid (parseO S.data.toList = .bad p er) := Lib.hid (by unfold parseO; rw [hw]; exact if_neg h0)
    have e0 : (er != 0) = true := by rw [bne_iff_ne]; exact h0
    have H0 := Lib.hid (And.intro hb0 (And.intro hs0 hx0))
    have He0 := Lib.hid h0
    clear hb0 hs0 hx0 hw h0 he
    go_enter_defers Tryz.func5, Tryz.ntmps5
    go_wp2_with fail
    refine HC.out.mono ?_
    rintro e w1 ⟨rfl, hb1⟩
    obtain ⟨⟨c0, c1, c2⟩, z0, z1, z2⟩ := (H0.out.2.2.on hb1).cells
    have hX := Lib.hid (And.intro hb1 (H0.out.2.2.on hb1))
    clear hb1
    go_wp2_with fail
    go_region
    go_wp2_with fail
    obtain ⟨wf, hwf⟩ : ∃ wf, (((((w1.setCell ⟨w.heap.size + 1, 0, none⟩ (.int .i64 (p : Nat))).setCell ⟨w.heap.size + 1 + 1, 0, none⟩ (.int .i64 er)).setCell ⟨w.heap.size, 0, none⟩ (.slice none 0 0)).setCell ⟨w.heap.size + 1, 0, none⟩ (.int .i64 (p : Nat))).setCell ⟨w.heap.size + 1 + 1, 0, none⟩ (.int .i64 er)).drew = wf := ⟨_, rfl⟩
    have hb := H0.out.1.trans (hX.out.1.mono H0.out.1.size)
    have hbf : Below w.heap.size w wf := by rw [← hwf]; exact (((((hb.setCell (by simp <;> omega) _).setCell (by simp <;> omega) _).setCell (by simp <;> omega) _).setCell (by simp <;> omega) _).setCell (by simp <;> omega) _).drew
    obtain ⟨q0, q1, q2⟩ := hX.out.2
    have n01 : w.heap.size ≠ w.heap.size + 1 := by omega
    have n02 : w.heap.size ≠ w.heap.size + 1 + 1 := by omega
    have n12 : w.heap.size + 1 ≠ w.heap.size + 1 + 1 := by omega
    have r0 : Blk wf w.heap.size 22 #[.slice none 0 0] := by
      rw [← hwf]
      exact blk_drew1 ((blk_set1 ((q0.far (p := ⟨w.heap.size + 1, 0, none⟩) n01 (.int .i64 (p : Nat))).far (p := ⟨w.heap.size + 1 + 1, 0, none⟩) n02 (.int .i64 er)) (.slice none 0 0)).far (p := ⟨w.heap.size + 1, 0, none⟩) n01 (.int .i64 (p : Nat)) |>.far (p := ⟨w.heap.size + 1 + 1, 0, none⟩) n02 (.int .i64 er))
    have r1 : Blk wf (w.heap.size + 1) 3 #[.int .i64 (p : Nat)] := by
      rw [← hwf]
      exact blk_drew1 ((blk_set1 (((blk_set1 q1 (.int .i64 (p : Nat))).far (p := ⟨w.heap.size + 1 + 1, 0, none⟩) n12 (.int .i64 er)).far (p := ⟨w.heap.size, 0, none⟩) n01.symm (.slice none 0 0)) (.int .i64 (p : Nat))).far (p := ⟨w.heap.size + 1 + 1, 0, none⟩) n12 (.int .i64 er))
    have r2 : Blk wf (w.heap.size + 1 + 1) 23 #[.int .i64 er] := by
      rw [← hwf]
      exact blk_drew1 (blk_set1 (((blk_set1 (q2.far (p := ⟨w.heap.size + 1, 0, none⟩) n12.symm (.int .i64 (p : Nat))) (.int .i64 er)).far (p := ⟨w.heap.size, 0, none⟩) n02.symm (.slice none 0 0)).far (p := ⟨w.heap.size + 1, 0, none⟩) n12.symm (.int .i64 (p : Nat))) (.int .i64 er))
    have f0 : wf.cell? ⟨w.heap.size, 0, none⟩ = some (.slice none 0 0) := r0.cell 0
    have f1 : wf.cell? ⟨w.heap.size + 1, 0, none⟩ = some (.int .i64 (p : Nat)) := r1.cell 0
    have f2 : wf.cell? ⟨w.heap.size + 1 + 1, 0, none⟩ = some (.int .i64 er) := r2.cell 0
    rw [hwf]
    refine ⟨.tuple #[.slice none 0 0, .int .i64 (p : Nat), .int .i64 er], by simp [results, Tryz.results5, go_sem, f0, f1, f2], ?_⟩
    rw [HV.out]
    exact ⟨hbf, rfl⟩

end Go.Proofs.YtnehbpfgdeilhaaGreatDoor

namespace Go.Proofs.YtnehbpfgdeilhaaGreatDoor
open Go.ChangeShapes Go.WideShapes Go.ChangeAt Go.RowKit Go.Fl
open Go.Shelf

def awT : List UInt8 := [103, 46, 86, 40, 41, 46, 104, 97, 115, 40, 39, 97, 39, 44, 32, 103, 116, 40, 49, 41, 46, 97, 110, 100, 40, 108, 116, 40, 53, 41, 41, 41]

theorem itoa_dig (v : Int) (c : Nat) (h0 : ¬ v < 0) (h1 : v.toNat = c) (h2 : c < 10) : Lib.itoa v = [UInt8.ofNat (48 + c)] := by
  unfold Lib.itoa
  rw [if_neg h0, h1, Lib.decDigits_one h2]

theorem awn_18 : readO canonN (awT.drop 18) = some (⟨2, ofL [49], 1, 0, 0⟩, 1) := by
  have h : readO canonN (awT.drop 18) = numO [49, 41, 46, 97, 110, 100, 40, 108, 116, 40, 53, 41, 41, 41] := by kernel_rfl
  rw [h]
  unfold numO
  rw [show Lib.parseIntB 64 (numL [49, 41, 46, 97, 110, 100, 40, 108, 116, 40, 53, 41, 41, 41]) = .ok 1 by decide +kernel]
  simp only []
  rw [show numL [49, 41, 46, 97, 110, 100, 40, 108, 116, 40, 53, 41, 41, 41] = [49] by decide +kernel, itoa_dig 1 1 (by decide) (by decide) (by decide), if_pos (by decide)]
  rfl

theorem awn_28 : readO canonN (awT.drop 28) = some (⟨2, ofL [53], 5, 0, 0⟩, 1) := by
  have h : readO canonN (awT.drop 28) = numO [53, 41, 41, 41] := by kernel_rfl
  rw [h]
  unfold numO
  rw [show Lib.parseIntB 64 (numL [53, 41, 41, 41]) = .ok 5 by decide +kernel]
  simp only []
  rw [show numL [53, 41, 41, 41] = [53] by decide +kernel, itoa_dig 5 5 (by decide) (by decide) (by decide), if_pos (by decide)]
  rfl

def awV : List Wd := [⟨1, ofL [103], 0, 0, 0⟩, ⟨5, ofL [46], 0, 0, 1⟩, ⟨1, ofL [86], 0, 0, 2⟩, ⟨5, ofL [40], 0, 0, 3⟩, ⟨5, ofL [41], 0, 0, 4⟩, ⟨5, ofL [46], 0, 0, 5⟩, ⟨1, ofL [104, 97, 115], 0, 0, 6⟩, ⟨5, ofL [40], 0, 0, 9⟩, ⟨4, ofL [97], 0, 0, 10⟩, ⟨5, ofL [44], 0, 0, 13⟩, ⟨1, ofL [103, 116], 0, 0, 15⟩, ⟨5, ofL [40], 0, 0, 17⟩, ⟨2, ofL [49], 1, 0, 18⟩, ⟨5, ofL [41], 0, 0, 19⟩, ⟨5, ofL [46], 0, 0, 20⟩, ⟨1, ofL [97, 110, 100], 0, 0, 21⟩, ⟨5, ofL [40], 0, 0, 24⟩, ⟨1, ofL [108, 116], 0, 0, 25⟩, ⟨5, ofL [40], 0, 0, 27⟩, ⟨2, ofL [53], 5, 0, 28⟩, ⟨5, ofL [41], 0, 0, 29⟩, ⟨5, ofL [41], 0, 0, 30⟩, ⟨5, ofL [41], 0, 0, 31⟩, ⟨0, ⟨#[]⟩, 0, 0, 32⟩]

theorem awv_words : wdsO canonN awT = (awV, 0, 0) := by
  unfold wdsO
  rw [if_neg (by decide), show runP spcB awT 0 = 0 by decide, show awT.length + 1 = 33 from rfl]
  rw [wdsGo_step (a := 0) (x := ⟨1, ofL [103], 0, 0, 0⟩) (n := 1) (b := 1) (by decide) (by kernel_rfl) (by decide)]
  rw [wdsGo_step (a := 1) (x := ⟨5, ofL [46], 0, 0, 0⟩) (n := 1) (b := 2) (by decide) (by kernel_rfl) (by decide)]
  rw [wdsGo_step (a := 2) (x := ⟨1, ofL [86], 0, 0, 0⟩) (n := 1) (b := 3) (by decide) (by kernel_rfl) (by decide)]
  rw [wdsGo_step (a := 3) (x := ⟨5, ofL [40], 0, 0, 0⟩) (n := 1) (b := 4) (by decide) (by kernel_rfl) (by decide)]
  rw [wdsGo_step (a := 4) (x := ⟨5, ofL [41], 0, 0, 0⟩) (n := 1) (b := 5) (by decide) (by kernel_rfl) (by decide)]
  rw [wdsGo_step (a := 5) (x := ⟨5, ofL [46], 0, 0, 0⟩) (n := 1) (b := 6) (by decide) (by kernel_rfl) (by decide)]
  rw [wdsGo_step (a := 6) (x := ⟨1, ofL [104, 97, 115], 0, 0, 0⟩) (n := 3) (b := 9) (by decide) (by kernel_rfl) (by decide)]
  rw [wdsGo_step (a := 9) (x := ⟨5, ofL [40], 0, 0, 0⟩) (n := 1) (b := 10) (by decide) (by kernel_rfl) (by decide)]
  rw [wdsGo_step (a := 10) (x := ⟨4, ofL [97], 0, 0, 0⟩) (n := 3) (b := 13) (by decide) (by kernel_rfl) (by decide)]
  rw [wdsGo_step (a := 13) (x := ⟨5, ofL [44], 0, 0, 0⟩) (n := 1) (b := 15) (by decide) (by kernel_rfl) (by decide)]
  rw [wdsGo_step (a := 15) (x := ⟨1, ofL [103, 116], 0, 0, 0⟩) (n := 2) (b := 17) (by decide) (by kernel_rfl) (by decide)]
  rw [wdsGo_step (a := 17) (x := ⟨5, ofL [40], 0, 0, 0⟩) (n := 1) (b := 18) (by decide) (by kernel_rfl) (by decide)]
  rw [wdsGo_step (a := 18) (x := ⟨2, ofL [49], 1, 0, 0⟩) (n := 1) (b := 19) (by decide) (awn_18) (by decide)]
  rw [wdsGo_step (a := 19) (x := ⟨5, ofL [41], 0, 0, 0⟩) (n := 1) (b := 20) (by decide) (by kernel_rfl) (by decide)]
  rw [wdsGo_step (a := 20) (x := ⟨5, ofL [46], 0, 0, 0⟩) (n := 1) (b := 21) (by decide) (by kernel_rfl) (by decide)]
  rw [wdsGo_step (a := 21) (x := ⟨1, ofL [97, 110, 100], 0, 0, 0⟩) (n := 3) (b := 24) (by decide) (by kernel_rfl) (by decide)]
  rw [wdsGo_step (a := 24) (x := ⟨5, ofL [40], 0, 0, 0⟩) (n := 1) (b := 25) (by decide) (by kernel_rfl) (by decide)]
  rw [wdsGo_step (a := 25) (x := ⟨1, ofL [108, 116], 0, 0, 0⟩) (n := 2) (b := 27) (by decide) (by kernel_rfl) (by decide)]
  rw [wdsGo_step (a := 27) (x := ⟨5, ofL [40], 0, 0, 0⟩) (n := 1) (b := 28) (by decide) (by kernel_rfl) (by decide)]
  rw [wdsGo_step (a := 28) (x := ⟨2, ofL [53], 5, 0, 0⟩) (n := 1) (b := 29) (by decide) (awn_28) (by decide)]
  rw [wdsGo_step (a := 29) (x := ⟨5, ofL [41], 0, 0, 0⟩) (n := 1) (b := 30) (by decide) (by kernel_rfl) (by decide)]
  rw [wdsGo_step (a := 30) (x := ⟨5, ofL [41], 0, 0, 0⟩) (n := 1) (b := 31) (by decide) (by kernel_rfl) (by decide)]
  rw [wdsGo_step (a := 31) (x := ⟨5, ofL [41], 0, 0, 0⟩) (n := 1) (b := 32) (by decide) (by kernel_rfl) (by decide)]
  rw [show (32 : Nat) = awT.length from rfl, wdsGo_end (by decide)]
  rfl

/-- two steps; the second one's second argument is joined by and -/
theorem awv_parse : ∃ s0 a0 k v pl pk t, parseO awT = .ok [s0, .mk ⟨#[104, 97, 115]⟩ [a0, .mk k v (.mk ⟨#[97, 110, 100]⟩ pl pk) t]] := by
  refine ⟨?s0, ?a0, ?k, ?v, ?pl, ?pk, ?t, ?h⟩
  case h =>
    unfold parseO
    rw [awv_words]
    exact (rfl : prsW awV = _)

set_option maxHeartbeats 2000000 in
set_option maxRecDepth 100000 in
theorem pawake_any (w : World) (he : Env w) : Calls Tryz.prog 6 #[] w fun e w' => e = .returned (.bool true) ∧ Below w.heap.size w w' := by
  have HC := Lib.hid (parse_any (ofL awT) w (by rw [ofL_size]; decide) he)
  obtain ⟨s0, a0, k, v, pl, pk, t, hp⟩ := awv_parse
  rw [show (ofL awT).data.toList = awT from rfl, hp] at HC
  unfold ofL awT at HC
  clear hp
  go_enter Tryz.func6, Tryz.ntmps6
  go_wp2_with fail
  refine HC.out.mono ?_
  rintro e w1 ⟨hb1, vl, rfl, hv⟩
  obtain ⟨A, c, rfl, hc, hm, hel⟩ := LstS.look (R := RdStp (RdTr 12)) (sz := 2) hv
  obtain ⟨g, u, rfl, -, hcu, av, rfl, hav⟩ := hel 1 (by simp)
  obtain ⟨A2, c2, rfl, hc2, hm2, hel2⟩ := LstS.look hav
  obtain ⟨g2, u2, rfl, -, hcu2, q0, q1, q2, q3, q4, q5, p0, p1, p2, tv, rfl, -, hp, -⟩ := hel2 1 (by simp)
  obtain ⟨pA, pc, pB, pe, hpe⟩ := RdP.shape hp
  injection hpe with hpe
  simp only [Array.mk.injEq, List.cons.injEq, and_true] at hpe
  obtain ⟨rfl, rfl, rfl⟩ := hpe
  have c1 : w1.cell? ⟨g, 2, none⟩ = some (.string ⟨#[104, 97, 115]⟩) := hcu 0 _ rfl
  have c2' : w1.cell? ⟨g, 3, none⟩ = some (.slice (some ⟨g2, 0, none⟩) 2 c2) := hcu 1 _ rfl
  have c3 : w1.cell? ⟨g2, 18, none⟩ = some (.string ⟨#[97, 110, 100]⟩) := hcu2 7 _ rfl
  have Hb := Lib.hid hb1
  clear hel hel2 hcu hcu2 hav hp hv hb1
  go_wp2_with fail
  go_ret
  exact ⟨rfl, Hb.out⟩

end Go.Proofs.YtnehbpfgdeilhaaGreatDoor
