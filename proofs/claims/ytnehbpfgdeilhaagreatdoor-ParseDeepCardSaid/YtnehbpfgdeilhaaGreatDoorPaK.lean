/- parse: an argument (written by tools/laws12y.py) -/
import Derived.Test.YtnehbpfgdeilhaaGreatDoorPaX
import Derived.Test.YtnehbpfgdeilhaaGreatDoorPaO

namespace Go.Proofs.YtnehbpfgdeilhaaGreatDoor
open Go.ChangeShapes Go.WideShapes Go.ChangeAt Go.RowKit Go.Fl
open Go.Shelf

theorem box11 {w : World} {g : Nat} {t : TypeId} {v0 v1 v2 v3 v4 v5 v6 v7 v8 v9 v10 : Value} (h : Blk w g t #[v0, v1, v2, v3, v4, v5, v6, v7, v8, v9, v10]) :
    (w.cell? ⟨g, 0, none⟩ = some v0 ∧ w.cell? ⟨g, 1, none⟩ = some v1 ∧ w.cell? ⟨g, 2, none⟩ = some v2 ∧ w.cell? ⟨g, 3, none⟩ = some v3 ∧ w.cell? ⟨g, 4, none⟩ = some v4 ∧ w.cell? ⟨g, 5, none⟩ = some v5 ∧ w.cell? ⟨g, 6, none⟩ = some v6 ∧ w.cell? ⟨g, 7, none⟩ = some v7 ∧ w.cell? ⟨g, 8, none⟩ = some v8 ∧ w.cell? ⟨g, 9, none⟩ = some v9 ∧ w.cell? ⟨g, 10, none⟩ = some v10) ∧ (w.frozen? ⟨g, 0, none⟩ = false ∧ w.frozen? ⟨g, 1, none⟩ = false ∧ w.frozen? ⟨g, 2, none⟩ = false ∧ w.frozen? ⟨g, 3, none⟩ = false ∧ w.frozen? ⟨g, 4, none⟩ = false ∧ w.frozen? ⟨g, 5, none⟩ = false ∧ w.frozen? ⟨g, 6, none⟩ = false ∧ w.frozen? ⟨g, 7, none⟩ = false ∧ w.frozen? ⟨g, 8, none⟩ = false ∧ w.frozen? ⟨g, 9, none⟩ = false ∧ w.frozen? ⟨g, 10, none⟩ = false) :=
  ⟨⟨h.cell 0, h.cell 1, h.cell 2, h.cell 3, h.cell 4, h.cell 5, h.cell 6, h.cell 7, h.cell 8, h.cell 9, h.cell 10⟩, h.frozen 0, h.frozen 1, h.frozen 2, h.frozen 3, h.frozen 4, h.frozen 5, h.frozen 6, h.frozen 7, h.frozen 8, h.frozen 9, h.frozen 10⟩

set_option maxHeartbeats 2000000 in
theorem fin11 {w : World} {g : Nat} {t : TypeId} {cs : Array Value} (h : Blk w g t cs) (hc : cs.size = 11) (v0 v1 v2 v3 v4 v5 v6 v7 v8 v9 v10 : Value) :
    ∃ wf, (((((((((((w.setCell ⟨g, 0, none⟩ v0).setCell ⟨g, 1, none⟩ v1).setCell ⟨g, 2, none⟩ v2).setCell ⟨g, 3, none⟩ v3).setCell ⟨g, 4, none⟩ v4).setCell ⟨g, 5, none⟩ v5).setCell ⟨g, 6, none⟩ v6).setCell ⟨g, 7, none⟩ v7).setCell ⟨g, 8, none⟩ v8).setCell ⟨g, 9, none⟩ v9).setCell ⟨g, 10, none⟩ v10) = wf ∧ Blk wf g t #[v0, v1, v2, v3, v4, v5, v6, v7, v8, v9, v10] ∧ Below g w wf ∧ wf.heap.size = w.heap.size ∧ ∀ b, b ≠ g → wf.heap[b]? = w.heap[b]? := by
  refine ⟨_, rfl, ?_, ?_, by simp [World.setCell], fun b hb => ?_⟩
  · obtain ⟨c0, c1, c2, c3, c4, c5, c6, c7, c8, c9, c10, rfl⟩ : ∃ c0 c1 c2 c3 c4 c5 c6 c7 c8 c9 c10, cs = #[c0, c1, c2, c3, c4, c5, c6, c7, c8, c9, c10] := by
      obtain ⟨l⟩ := cs
      match l, hc with
      | [c0, c1, c2, c3, c4, c5, c6, c7, c8, c9, c10], _ => exact ⟨c0, c1, c2, c3, c4, c5, c6, c7, c8, c9, c10, rfl⟩
    have hb := ((((((((((h.set_ 0 v0).set_ 1 v1).set_ 2 v2).set_ 3 v3).set_ 4 v4).set_ 5 v5).set_ 6 v6).set_ 7 v7).set_ 8 v8).set_ 9 v9).set_ 10 v10
    simp only [List.setIfInBounds_toArray, List.set_cons_zero, List.set_cons_succ] at hb
    exact hb
  · exact (((((((((((Below.refl _ _).setCell (p := ⟨g, 0, none⟩) (Nat.le_refl _) v0).setCell (p := ⟨g, 1, none⟩) (Nat.le_refl _) v1).setCell (p := ⟨g, 2, none⟩) (Nat.le_refl _) v2).setCell (p := ⟨g, 3, none⟩) (Nat.le_refl _) v3).setCell (p := ⟨g, 4, none⟩) (Nat.le_refl _) v4).setCell (p := ⟨g, 5, none⟩) (Nat.le_refl _) v5).setCell (p := ⟨g, 6, none⟩) (Nat.le_refl _) v6).setCell (p := ⟨g, 7, none⟩) (Nat.le_refl _) v7).setCell (p := ⟨g, 8, none⟩) (Nat.le_refl _) v8).setCell (p := ⟨g, 9, none⟩) (Nat.le_refl _) v9).setCell (p := ⟨g, 10, none⟩) (Nat.le_refl _) v10
  · exact ((((((((((Below.heap_setCell _ ⟨g, 10, none⟩ v10 b hb).trans (Below.heap_setCell _ ⟨g, 9, none⟩ v9 b hb)).trans (Below.heap_setCell _ ⟨g, 8, none⟩ v8 b hb)).trans (Below.heap_setCell _ ⟨g, 7, none⟩ v7 b hb)).trans (Below.heap_setCell _ ⟨g, 6, none⟩ v6 b hb)).trans (Below.heap_setCell _ ⟨g, 5, none⟩ v5 b hb)).trans (Below.heap_setCell _ ⟨g, 4, none⟩ v4 b hb)).trans (Below.heap_setCell _ ⟨g, 3, none⟩ v3 b hb)).trans (Below.heap_setCell _ ⟨g, 2, none⟩ v2 b hb)).trans (Below.heap_setCell _ ⟨g, 1, none⟩ v1 b hb)).trans (Below.heap_setCell _ ⟨g, 0, none⟩ v0 b hb)

section
variable {G : Nat → Wd} {k : Nat} {trav : Ps → Rs (List Sp)} {s s' : Ps} {i : Nat} {e : Int}

theorem pArg_v0 (h : valA (G s.i) = true) (hr : pVal G k s = .bad i e) : pArg G k trav s = .bad i e := by unfold pArg; rw [if_pos h, hr]

theorem pArg_v1 (h : valA (G s.i) = true) {v : T} (hr : pVal G k s = .ok v s') : pArg G k trav s = .ok (.mk 1 v pz []) s' := by unfold pArg; rw [if_pos h, hr]

theorem pArg_p0 (h : valA (G s.i) = false) (hp : prdA (G s.i) = true) (hs : isSgn (G (s.i + 1)) 40 = true) (hr : pPred G k s = .bad i e) : pArg G k trav s = .bad i e := by
  unfold pArg; rw [if_neg (by rw [h]; decide), hp, hs, Bool.true_and, if_pos rfl, hr]

theorem pArg_p1 (h : valA (G s.i) = false) (hp : prdA (G s.i) = true) (hs : isSgn (G (s.i + 1)) 40 = true) {p : Pd} (hr : pPred G k s = .ok p s') : pArg G k trav s = .ok (.mk 2 vz p []) s' := by
  unfold pArg; rw [if_neg (by rw [h]; decide), hp, hs, Bool.true_and, if_pos rfl, hr]

theorem pArg_w (h : valA (G s.i) = false) (hp : (prdA (G s.i) && isSgn (G (s.i + 1)) 40) = false) (hu : isL (G s.i) txUU = false) (hs : isSgn (G (s.i + 1)) 40 = false) : pArg G k trav s = .ok (.mk 4 (.mk 4 false 0 0 (G s.i).s []) pz []) ⟨s.i + 1, s.n⟩ := by
  unfold pArg; rw [if_neg (by rw [h]; decide), hp, if_neg (by decide), hu, hs]; rfl

theorem pArg_t0 (h : valA (G s.i) = false) (hp : (prdA (G s.i) && isSgn (G (s.i + 1)) 40) = false) (hu : (isL (G s.i) txUU = false ∧ isSgn (G (s.i + 1)) 40 = false) → False) (hr : trav s = .bad i e) : pArg G k trav s = .bad i e := by
  unfold pArg; rw [if_neg (by rw [h]; decide), hp, if_neg (by decide), if_neg (by simpa using hu), hr]

theorem pArg_t1 (h : valA (G s.i) = false) (hp : (prdA (G s.i) && isSgn (G (s.i + 1)) 40) = false) (hu : (isL (G s.i) txUU = false ∧ isSgn (G (s.i + 1)) 40 = false) → False) {l : List Sp} (hr : trav s = .ok l s') : pArg G k trav s = .ok (.mk 3 vz pz l) s' := by
  unfold pArg; rw [if_neg (by rw [h]; decide), hp, if_neg (by decide), if_neg (by simpa using hu), hr]

end

set_option maxHeartbeats 16000000 in
set_option maxRecDepth 100000 in
theorem arg_at {pb g cap : Nat} {ws : List Wd} (hG : Gd ws) (k : Nat) (ht : TravAt pb g cap ws k) : ArgAt pb g cap ws k := by
  intro w i d n x h hx hav hd hn
  obtain ⟨w0, hw0⟩ : ∃ w0, w.alloc (.cells #[.int .i64 0, .int .i64 0, .bool false, .int .i64 0, .float .f64 0, .string ⟨#[]⟩, .slice none 0 0, .string ⟨#[]⟩, .slice none 0 0, .slice none 0 0, .slice none 0 0] 51) = w0 := ⟨_, rfl⟩
  have hb0 : Below w.heap.size w w0 := by rw [← hw0]; exact (Below.refl _ _).alloc (Nat.le_refl _) _
  have hrb0 : Blk w0 w.heap.size 51 #[.int .i64 0, .int .i64 0, .bool false, .int .i64 0, .float .f64 0, .string ⟨#[]⟩, .slice none 0 0, .string ⟨#[]⟩, .slice none 0 0, .slice none 0 0, .slice none 0 0] := by rw [← hw0]; exact Blk.new _ _ _
  have HW := Lib.hid (word_any (h.on hb0) hG hx)
  have H0 := Lib.hid (And.intro hb0 hrb0)
  have H := Lib.hid h
  have HG := Lib.hid hG
  have Hx := Lib.hid hx
  have hgx : gx ws (Ps.mk i n).i = { x with at_ := 0 } := gx_of hx
  have hf := hG.few
  have hi := h.at_
  have Hok := Lib.hid (hG.ok x (List.mem_of_getElem? hx))
  have HVA := Lib.hid (fun W (hp : PB W pb g cap ws i d n) => valueAhead_any hp hG hx)
  have HPA := Lib.hid (fun W (hp : PB W pb g cap ws i d n) => predAhead_any hp hG hx)
  clear h hb0 hrb0 hG
  obtain ⟨r, hr0⟩ : ∃ r, pArg (gx ws) k (pTrav (gx ws) k) ⟨i, n⟩ = r := ⟨_, rfl⟩
  rw [hr0]
  cases hva : valA x
  · have hk : x.k = 1 := by
      unfold argA at hav
      rw [hva, Bool.or_false, decide_eq_true_eq] at hav
      exact hav
    have hgv : valA (gx ws (Ps.mk i n).i) = false := by rw [hgx]; exact hva
    have HE1 := Lib.hid hva
    obtain ⟨y, hy⟩ := HG.out.next hx (by rw [hk]; decide)
    have hi2l := (List.getElem?_eq_some_iff.1 hy).1
    have hgy : gx ws ((Ps.mk i n).i + 1) = { y with at_ := 0 } := gx_of hy
    have HBh := Lib.hid (fun W (hp : PB W pb g cap ws i d n) => behind_any hp HG.out hy 40)
    have HTr := Lib.hid (fun W (hp : PB W pb g cap ws i d n) => ht W i d n x hp hx hk hd hn)
    have HPr := Lib.hid (fun W (hp : PB W pb g cap ws i d n) (hpa : prdA x = true) => pred_at HG.out k W i d n x hp hx hpa hd)
    cases hpa : prdA x
    · have HE2 := Lib.hid hpa
      have hpg : (prdA (gx ws (Ps.mk i n).i) && isSgn (gx ws ((Ps.mk i n).i + 1)) 40) = false := (by rw [hgx, hgy]; show (prdA x && isSgn y 40) = false; rw [hpa]; rfl)
      cases huu : isL x txUU
      · have hug : isL (gx ws (Ps.mk i n).i) txUU = false := by rw [hgx]; exact huu
        have euu : (x.s.toList == [95, 95]) = false := by rw [Lib.toList_data]; exact huu
        have enu : (x.s.toList != [95, 95]) = true := by rw [bne, euu]; rfl
        cases hs40 : isSgn y 40
        · have HE3 := Lib.hid hs40
          have HV : Hid (r = .ok (.mk 4 (.mk 4 false 0 0 x.s []) pz []) ⟨i + 1, n⟩) := Lib.hid (by
            rw [← hr0]
            have := pArg_w (k := k) (trav := pTrav (gx ws) k) (s := ⟨i, n⟩) hgv hpg hug (by rw [hgy]; exact hs40)
            rw [hgx] at this
            exact this)
          have Hi2l := Lib.hid hi2l
          have HTx := Lib.hid (fun W => show Calls Tryz.prog 63 #[.string x.s] W fun e w' => e = .returned (.agg #[.int .i64 4, .bool false, .int .i64 0, .float .f64 0, .string x.s, .slice none 0 0]) ∧ Below W.heap.size W w' from vtext_any x.s W)
          clear hx hgx hav hd hn hr0 hva hk hgv hy hgy hi2l hpa hpg huu hug hs40
          go_enter Tryz.func47, Tryz.ntmps47
          go_wp2_with fail
          refine HW.out.mono ?_
          rintro e w1 ⟨rfl, hb1⟩
          obtain ⟨w2, hw2⟩ : ∃ w2, w1.alloc (.cells #[.int .i64 x.k, .string x.s, .int .i64 x.n, .float .f64 x.f, .int .i64 (x.at_ : Nat)] 56) = w2 := ⟨_, rfl⟩
          have HL2 := Lib.hid (PL.start H.out H0.out.1 H0.out.2 hb1 (w2 := w2) (by rw [← hw2]; exact (Below.refl _ _).alloc (Nat.le_refl _) _) (by rw [← hw2]; exact Blk.new _ _ _))
          clear hb1
          go_wp2_with fail
          refine (HVA.out _ HL2.out.p).mono ?_
          rintro e w3 ⟨rfl, hb3⟩
          have HL3 := Lib.hid (HL2.out.on hb3)
          clear hb3
          rw [HE1.out]
          go_wp2_with fail
          refine (HPA.out _ HL3.out.p).mono ?_
          rintro e w4 ⟨rfl, hb4⟩
          have HL4 := Lib.hid (HL3.out.on hb4)
          clear hb4
          rw [HE2.out]
          obtain ⟨t40, t41, t42, t43, t44⟩ := HL4.out.word
          go_wp2_with fail
          refine (HBh.out _ HL4.out.p).mono ?_
          rintro e w5 ⟨rfl, hb5⟩
          have HL5 := Lib.hid (HL4.out.on hb5)
          clear hb5
          rw [HE3.out]
          obtain ⟨-, c1, -, -, q1, -, -, -⟩ := HL5.out.p.cells
          obtain ⟨t50, t51, t52, t53, t54⟩ := HL5.out.word
          have hne1 : ¬ w1.heap.size = pb := by have := HL5.out.lt; omega
          have hne2 : ¬ pb = w1.heap.size := by have := HL5.out.lt; omega
          go_wp2_with fail
          have HL6 := Lib.hid (HL5.out.go (HL5.out.p.next Hi2l.out) (fr_put (Only.refl _ _) 1 _))
          obtain ⟨w6, hw6⟩ : ∃ W, w5.setCell ⟨pb, 1, none⟩ (.int .i64 ((i : Int) + 1)) = W := ⟨_, rfl⟩
          rw [hw6] at HL6 ⊢
          refine (HTx.out _).mono ?_
          rintro e w7 ⟨rfl, hb7⟩
          have HL7 := Lib.hid (HL6.out.on hb7)
          clear hb7
          obtain ⟨⟨r0, r1, r2, r3, r4, r5, r6, r7, r8, r9, r10⟩, z0, z1, z2, z3, z4, z5, z6, z7, z8, z9, z10⟩ := box11 HL7.out.rb
          go_wp2_with fail
          obtain ⟨wf, hwf, hfb, hfl, hsz, hfar⟩ := fin11 HL7.out.rb rfl (.int .i64 4) (.int .i64 4) (.bool false) (.int .i64 0) (.float .f64 0) (.string x.s) (.slice none 0 0) (.string ⟨#[]⟩) (.slice none 0 0) (.slice none 0 0) (.slice none 0 0)
          rw [hwf]
          obtain ⟨⟨f0, f1, f2, f3, f4, f5, f6, f7, f8, f9, f10⟩, -⟩ := box11 hfb
          have hlt := HL7.out.lt
          have htl := HL6.out.t.lt
          refine bodyPost_ret (v := .agg #[.int .i64 4, .int .i64 4, .bool false, .int .i64 0, .float .f64 0, .string x.s, .slice none 0 0, .string ⟨#[]⟩, .slice none 0 0, .slice none 0 0, .slice none 0 0]) (by simp [results, Tryz.results47, go_sem, f0, f1, f2, f3, f4, f5, f6, f7, f8, f9, f10]) rfl
            (Got.ok_ HV.out ⟨_, _, _, _, _, _, _, _, _, _, rfl, rdS_leaf (by decide) (by decide) (by decide) (by have := Hok.out.2.2.2.2.1; omega), rdP_nil _ _, rdTr_nil _ _ _⟩ (HL7.out.p.under hfl hlt.1.1 hlt.1.2) (HL7.out.f.far hfl (Nat.le_refl _)))
        · have HE3 := Lib.hid hs40
          have hut : (isL (gx ws (Ps.mk i n).i) txUU = false ∧ isSgn (gx ws ((Ps.mk i n).i + 1)) 40 = false) → False := fun h => by rw [hgy] at h; exact absurd (hs40.symm.trans h.2) (by decide)
          cases hr : pTrav (gx ws) k ⟨i, n⟩ with
          | bad j c =>
            have HV : Hid (r = .bad j c) := Lib.hid (by rw [← hr0]; exact pArg_t0 (s := ⟨i, n⟩) hgv hpg hut hr)
            have HR := Lib.hid hr
            clear hx hgx hav hd hn hr0 hva hk hgv hy hgy hi2l hpa hpg huu hug hut hr hs40
            go_enter Tryz.func47, Tryz.ntmps47
            go_wp2_with fail
            refine HW.out.mono ?_
            rintro e w1 ⟨rfl, hb1⟩
            obtain ⟨w2, hw2⟩ : ∃ w2, w1.alloc (.cells #[.int .i64 x.k, .string x.s, .int .i64 x.n, .float .f64 x.f, .int .i64 (x.at_ : Nat)] 56) = w2 := ⟨_, rfl⟩
            have HL2 := Lib.hid (PL.start H.out H0.out.1 H0.out.2 hb1 (w2 := w2) (by rw [← hw2]; exact (Below.refl _ _).alloc (Nat.le_refl _) _) (by rw [← hw2]; exact Blk.new _ _ _))
            clear hb1
            go_wp2_with fail
            refine (HVA.out _ HL2.out.p).mono ?_
            rintro e w3 ⟨rfl, hb3⟩
            have HL3 := Lib.hid (HL2.out.on hb3)
            clear hb3
            rw [HE1.out]
            go_wp2_with fail
            refine (HPA.out _ HL3.out.p).mono ?_
            rintro e w4 ⟨rfl, hb4⟩
            have HL4 := Lib.hid (HL3.out.on hb4)
            clear hb4
            rw [HE2.out]
            obtain ⟨t40, t41, t42, t43, t44⟩ := HL4.out.word
            go_wp2_with fail
            refine (HBh.out _ HL4.out.p).mono ?_
            rintro e w5 ⟨rfl, hb5⟩
            have HL5 := Lib.hid (HL4.out.on hb5)
            clear hb5
            rw [HE3.out]
            go_wp2_with fail
            refine (HTr.out _ HL5.out.p).mono ?_
            rintro e w6 hg
            rw [HR.out] at hg
            obtain ⟨rfl, ⟨i', n', hp⟩, ho⟩ := hg
            exact ⟨rfl, Got.bad HV.out rfl hp (HL5.out.f.trans ho)⟩
          | ok l s' =>
            have HV : Hid (r = .ok (.mk 3 vz pz l) s') := Lib.hid (by rw [← hr0]; exact pArg_t1 (s := ⟨i, n⟩) hgv hpg hut hr)
            have HR := Lib.hid hr
            clear hx hgx hav hd hn hr0 hva hk hgv hy hgy hi2l hpa hpg huu hug hut hr hs40
            go_enter Tryz.func47, Tryz.ntmps47
            go_wp2_with fail
            refine HW.out.mono ?_
            rintro e w1 ⟨rfl, hb1⟩
            obtain ⟨w2, hw2⟩ : ∃ w2, w1.alloc (.cells #[.int .i64 x.k, .string x.s, .int .i64 x.n, .float .f64 x.f, .int .i64 (x.at_ : Nat)] 56) = w2 := ⟨_, rfl⟩
            have HL2 := Lib.hid (PL.start H.out H0.out.1 H0.out.2 hb1 (w2 := w2) (by rw [← hw2]; exact (Below.refl _ _).alloc (Nat.le_refl _) _) (by rw [← hw2]; exact Blk.new _ _ _))
            clear hb1
            go_wp2_with fail
            refine (HVA.out _ HL2.out.p).mono ?_
            rintro e w3 ⟨rfl, hb3⟩
            have HL3 := Lib.hid (HL2.out.on hb3)
            clear hb3
            rw [HE1.out]
            go_wp2_with fail
            refine (HPA.out _ HL3.out.p).mono ?_
            rintro e w4 ⟨rfl, hb4⟩
            have HL4 := Lib.hid (HL3.out.on hb4)
            clear hb4
            rw [HE2.out]
            obtain ⟨t40, t41, t42, t43, t44⟩ := HL4.out.word
            go_wp2_with fail
            refine (HBh.out _ HL4.out.p).mono ?_
            rintro e w5 ⟨rfl, hb5⟩
            have HL5 := Lib.hid (HL4.out.on hb5)
            clear hb5
            rw [HE3.out]
            go_wp2_with fail
            refine (HTr.out _ HL5.out.p).mono ?_
            rintro e w6 hg
            rw [HR.out] at hg
            obtain ⟨vq, rfl, hvq, hpq, hoq⟩ := hg
            obtain ⟨qA, qc, rfl⟩ := rdTr_shape _ _ _ _ _ hvq
            have HL6 := Lib.hid (HL5.out.go hpq hoq)
            have HRv := Lib.hid hvq
            clear hvq hpq hoq
            obtain ⟨⟨r0, r1, r2, r3, r4, r5, r6, r7, r8, r9, r10⟩, z0, z1, z2, z3, z4, z5, z6, z7, z8, z9, z10⟩ := box11 HL6.out.rb
            go_wp2_with fail
            obtain ⟨wf, hwf, hfb, hfl, hsz, hfar⟩ := fin11 HL6.out.rb rfl (.int .i64 3) (.int .i64 0) (.bool false) (.int .i64 0) (.float .f64 0) (.string ⟨#[]⟩) (.slice none 0 0) (.string ⟨#[]⟩) (.slice none 0 0) (.slice none 0 0) (.slice qA l.length qc)
            rw [hwf]
            obtain ⟨⟨f0, f1, f2, f3, f4, f5, f6, f7, f8, f9, f10⟩, -⟩ := box11 hfb
            have hlt := HL6.out.lt
            have htl := HL5.out.t.lt
            refine bodyPost_ret (v := .agg #[.int .i64 3, .int .i64 0, .bool false, .int .i64 0, .float .f64 0, .string ⟨#[]⟩, .slice none 0 0, .string ⟨#[]⟩, .slice none 0 0, .slice none 0 0, .slice qA l.length qc]) (by simp [results, Tryz.results47, go_sem, f0, f1, f2, f3, f4, f5, f6, f7, f8, f9, f10]) rfl
              (Got.ok_ HV.out ⟨_, _, _, _, _, _, _, _, _, _, rfl, rdS_leaf (by decide) (by decide) (by decide) (by decide), rdP_nil _ _, keepS_Tr k _ _ _ _ _ _ (fun q hq => World.cell?_of_block (hfar _ (by have := hq.1; omega))) (fun b hb => ⟨by have := hb.1; omega, by rw [hsz]; exact hb.2⟩) HRv.out⟩ (HL6.out.p.under hfl hlt.1.1 hlt.1.2) (HL6.out.f.far hfl (Nat.le_refl _)))
      · have hug : isL (gx ws (Ps.mk i n).i) txUU = true := by rw [hgx]; exact huu
        have euu : (x.s.toList == [95, 95]) = true := by rw [Lib.toList_data]; exact huu
        have enu : (x.s.toList != [95, 95]) = false := by rw [bne, euu]; rfl
        have hut : (isL (gx ws (Ps.mk i n).i) txUU = false ∧ isSgn (gx ws ((Ps.mk i n).i + 1)) 40 = false) → False := fun h => by rw [hug] at h; exact absurd h.1 (by decide)
        cases hr : pTrav (gx ws) k ⟨i, n⟩ with
        | bad j c =>
          have HV : Hid (r = .bad j c) := Lib.hid (by rw [← hr0]; exact pArg_t0 (s := ⟨i, n⟩) hgv hpg hut hr)
          have HR := Lib.hid hr
          clear hx hgx hav hd hn hr0 hva hk hgv hy hgy hi2l hpa hpg huu hug hut hr
          go_enter Tryz.func47, Tryz.ntmps47
          go_wp2_with fail
          refine HW.out.mono ?_
          rintro e w1 ⟨rfl, hb1⟩
          obtain ⟨w2, hw2⟩ : ∃ w2, w1.alloc (.cells #[.int .i64 x.k, .string x.s, .int .i64 x.n, .float .f64 x.f, .int .i64 (x.at_ : Nat)] 56) = w2 := ⟨_, rfl⟩
          have HL2 := Lib.hid (PL.start H.out H0.out.1 H0.out.2 hb1 (w2 := w2) (by rw [← hw2]; exact (Below.refl _ _).alloc (Nat.le_refl _) _) (by rw [← hw2]; exact Blk.new _ _ _))
          clear hb1
          go_wp2_with fail
          refine (HVA.out _ HL2.out.p).mono ?_
          rintro e w3 ⟨rfl, hb3⟩
          have HL3 := Lib.hid (HL2.out.on hb3)
          clear hb3
          rw [HE1.out]
          go_wp2_with fail
          refine (HPA.out _ HL3.out.p).mono ?_
          rintro e w4 ⟨rfl, hb4⟩
          have HL4 := Lib.hid (HL3.out.on hb4)
          clear hb4
          rw [HE2.out]
          obtain ⟨t40, t41, t42, t43, t44⟩ := HL4.out.word
          go_wp2_with fail
          refine (HTr.out _ HL4.out.p).mono ?_
          rintro e w5 hg
          rw [HR.out] at hg
          obtain ⟨rfl, ⟨i', n', hp⟩, ho⟩ := hg
          exact ⟨rfl, Got.bad HV.out rfl hp (HL4.out.f.trans ho)⟩
        | ok l s' =>
          have HV : Hid (r = .ok (.mk 3 vz pz l) s') := Lib.hid (by rw [← hr0]; exact pArg_t1 (s := ⟨i, n⟩) hgv hpg hut hr)
          have HR := Lib.hid hr
          clear hx hgx hav hd hn hr0 hva hk hgv hy hgy hi2l hpa hpg huu hug hut hr
          go_enter Tryz.func47, Tryz.ntmps47
          go_wp2_with fail
          refine HW.out.mono ?_
          rintro e w1 ⟨rfl, hb1⟩
          obtain ⟨w2, hw2⟩ : ∃ w2, w1.alloc (.cells #[.int .i64 x.k, .string x.s, .int .i64 x.n, .float .f64 x.f, .int .i64 (x.at_ : Nat)] 56) = w2 := ⟨_, rfl⟩
          have HL2 := Lib.hid (PL.start H.out H0.out.1 H0.out.2 hb1 (w2 := w2) (by rw [← hw2]; exact (Below.refl _ _).alloc (Nat.le_refl _) _) (by rw [← hw2]; exact Blk.new _ _ _))
          clear hb1
          go_wp2_with fail
          refine (HVA.out _ HL2.out.p).mono ?_
          rintro e w3 ⟨rfl, hb3⟩
          have HL3 := Lib.hid (HL2.out.on hb3)
          clear hb3
          rw [HE1.out]
          go_wp2_with fail
          refine (HPA.out _ HL3.out.p).mono ?_
          rintro e w4 ⟨rfl, hb4⟩
          have HL4 := Lib.hid (HL3.out.on hb4)
          clear hb4
          rw [HE2.out]
          obtain ⟨t40, t41, t42, t43, t44⟩ := HL4.out.word
          go_wp2_with fail
          refine (HTr.out _ HL4.out.p).mono ?_
          rintro e w5 hg
          rw [HR.out] at hg
          obtain ⟨vq, rfl, hvq, hpq, hoq⟩ := hg
          obtain ⟨qA, qc, rfl⟩ := rdTr_shape _ _ _ _ _ hvq
          have HL5 := Lib.hid (HL4.out.go hpq hoq)
          have HRv := Lib.hid hvq
          clear hvq hpq hoq
          obtain ⟨⟨r0, r1, r2, r3, r4, r5, r6, r7, r8, r9, r10⟩, z0, z1, z2, z3, z4, z5, z6, z7, z8, z9, z10⟩ := box11 HL5.out.rb
          go_wp2_with fail
          obtain ⟨wf, hwf, hfb, hfl, hsz, hfar⟩ := fin11 HL5.out.rb rfl (.int .i64 3) (.int .i64 0) (.bool false) (.int .i64 0) (.float .f64 0) (.string ⟨#[]⟩) (.slice none 0 0) (.string ⟨#[]⟩) (.slice none 0 0) (.slice none 0 0) (.slice qA l.length qc)
          rw [hwf]
          obtain ⟨⟨f0, f1, f2, f3, f4, f5, f6, f7, f8, f9, f10⟩, -⟩ := box11 hfb
          have hlt := HL5.out.lt
          have htl := HL4.out.t.lt
          refine bodyPost_ret (v := .agg #[.int .i64 3, .int .i64 0, .bool false, .int .i64 0, .float .f64 0, .string ⟨#[]⟩, .slice none 0 0, .string ⟨#[]⟩, .slice none 0 0, .slice none 0 0, .slice qA l.length qc]) (by simp [results, Tryz.results47, go_sem, f0, f1, f2, f3, f4, f5, f6, f7, f8, f9, f10]) rfl
            (Got.ok_ HV.out ⟨_, _, _, _, _, _, _, _, _, _, rfl, rdS_leaf (by decide) (by decide) (by decide) (by decide), rdP_nil _ _, keepS_Tr k _ _ _ _ _ _ (fun q hq => World.cell?_of_block (hfar _ (by have := hq.1; omega))) (fun b hb => ⟨by have := hb.1; omega, by rw [hsz]; exact hb.2⟩) HRv.out⟩ (HL5.out.p.under hfl hlt.1.1 hlt.1.2) (HL5.out.f.far hfl (Nat.le_refl _)))
    · have HE2 := Lib.hid hpa
      have hgp : prdA (gx ws (Ps.mk i n).i) = true := by rw [hgx]; exact hpa
      cases hs40 : isSgn y 40
      · have HE3 := Lib.hid hs40
        clear hgp
        have hpg : (prdA (gx ws (Ps.mk i n).i) && isSgn (gx ws ((Ps.mk i n).i + 1)) 40) = false := (by rw [hgx, hgy]; show (prdA x && isSgn y 40) = false; rw [hpa, hs40]; rfl)
        cases huu : isL x txUU
        · have hug : isL (gx ws (Ps.mk i n).i) txUU = false := by rw [hgx]; exact huu
          have euu : (x.s.toList == [95, 95]) = false := by rw [Lib.toList_data]; exact huu
          have enu : (x.s.toList != [95, 95]) = true := by rw [bne, euu]; rfl
          have HV : Hid (r = .ok (.mk 4 (.mk 4 false 0 0 x.s []) pz []) ⟨i + 1, n⟩) := Lib.hid (by
            rw [← hr0]
            have := pArg_w (k := k) (trav := pTrav (gx ws) k) (s := ⟨i, n⟩) hgv hpg hug (by rw [hgy]; exact hs40)
            rw [hgx] at this
            exact this)
          have Hi2l := Lib.hid hi2l
          have HTx := Lib.hid (fun W => show Calls Tryz.prog 63 #[.string x.s] W fun e w' => e = .returned (.agg #[.int .i64 4, .bool false, .int .i64 0, .float .f64 0, .string x.s, .slice none 0 0]) ∧ Below W.heap.size W w' from vtext_any x.s W)
          clear hx hgx hav hd hn hr0 hva hk hgv hy hgy hi2l hpa hpg huu hug hs40
          go_enter Tryz.func47, Tryz.ntmps47
          go_wp2_with fail
          refine HW.out.mono ?_
          rintro e w1 ⟨rfl, hb1⟩
          obtain ⟨w2, hw2⟩ : ∃ w2, w1.alloc (.cells #[.int .i64 x.k, .string x.s, .int .i64 x.n, .float .f64 x.f, .int .i64 (x.at_ : Nat)] 56) = w2 := ⟨_, rfl⟩
          have HL2 := Lib.hid (PL.start H.out H0.out.1 H0.out.2 hb1 (w2 := w2) (by rw [← hw2]; exact (Below.refl _ _).alloc (Nat.le_refl _) _) (by rw [← hw2]; exact Blk.new _ _ _))
          clear hb1
          go_wp2_with fail
          refine (HVA.out _ HL2.out.p).mono ?_
          rintro e w3 ⟨rfl, hb3⟩
          have HL3 := Lib.hid (HL2.out.on hb3)
          clear hb3
          rw [HE1.out]
          go_wp2_with fail
          refine (HPA.out _ HL3.out.p).mono ?_
          rintro e w4 ⟨rfl, hb4⟩
          have HL4 := Lib.hid (HL3.out.on hb4)
          clear hb4
          rw [HE2.out]
          go_wp2_with fail
          refine (HBh.out _ HL4.out.p).mono ?_
          rintro e w5 ⟨rfl, hb5⟩
          have HL5 := Lib.hid (HL4.out.on hb5)
          clear hb5
          rw [HE3.out]
          obtain ⟨t50, t51, t52, t53, t54⟩ := HL5.out.word
          go_wp2_with fail
          refine (HBh.out _ HL5.out.p).mono ?_
          rintro e w6 ⟨rfl, hb6⟩
          have HL6 := Lib.hid (HL5.out.on hb6)
          clear hb6
          rw [HE3.out]
          obtain ⟨-, c1, -, -, q1, -, -, -⟩ := HL6.out.p.cells
          obtain ⟨t60, t61, t62, t63, t64⟩ := HL6.out.word
          have hne1 : ¬ w1.heap.size = pb := by have := HL6.out.lt; omega
          have hne2 : ¬ pb = w1.heap.size := by have := HL6.out.lt; omega
          go_wp2_with fail
          have HL7 := Lib.hid (HL6.out.go (HL6.out.p.next Hi2l.out) (fr_put (Only.refl _ _) 1 _))
          obtain ⟨w7, hw7⟩ : ∃ W, w6.setCell ⟨pb, 1, none⟩ (.int .i64 ((i : Int) + 1)) = W := ⟨_, rfl⟩
          rw [hw7] at HL7 ⊢
          refine (HTx.out _).mono ?_
          rintro e w8 ⟨rfl, hb8⟩
          have HL8 := Lib.hid (HL7.out.on hb8)
          clear hb8
          obtain ⟨⟨r0, r1, r2, r3, r4, r5, r6, r7, r8, r9, r10⟩, z0, z1, z2, z3, z4, z5, z6, z7, z8, z9, z10⟩ := box11 HL8.out.rb
          go_wp2_with fail
          obtain ⟨wf, hwf, hfb, hfl, hsz, hfar⟩ := fin11 HL8.out.rb rfl (.int .i64 4) (.int .i64 4) (.bool false) (.int .i64 0) (.float .f64 0) (.string x.s) (.slice none 0 0) (.string ⟨#[]⟩) (.slice none 0 0) (.slice none 0 0) (.slice none 0 0)
          rw [hwf]
          obtain ⟨⟨f0, f1, f2, f3, f4, f5, f6, f7, f8, f9, f10⟩, -⟩ := box11 hfb
          have hlt := HL8.out.lt
          have htl := HL7.out.t.lt
          refine bodyPost_ret (v := .agg #[.int .i64 4, .int .i64 4, .bool false, .int .i64 0, .float .f64 0, .string x.s, .slice none 0 0, .string ⟨#[]⟩, .slice none 0 0, .slice none 0 0, .slice none 0 0]) (by simp [results, Tryz.results47, go_sem, f0, f1, f2, f3, f4, f5, f6, f7, f8, f9, f10]) rfl
            (Got.ok_ HV.out ⟨_, _, _, _, _, _, _, _, _, _, rfl, rdS_leaf (by decide) (by decide) (by decide) (by have := Hok.out.2.2.2.2.1; omega), rdP_nil _ _, rdTr_nil _ _ _⟩ (HL8.out.p.under hfl hlt.1.1 hlt.1.2) (HL8.out.f.far hfl (Nat.le_refl _)))
        · have hug : isL (gx ws (Ps.mk i n).i) txUU = true := by rw [hgx]; exact huu
          have euu : (x.s.toList == [95, 95]) = true := by rw [Lib.toList_data]; exact huu
          have enu : (x.s.toList != [95, 95]) = false := by rw [bne, euu]; rfl
          have hut : (isL (gx ws (Ps.mk i n).i) txUU = false ∧ isSgn (gx ws ((Ps.mk i n).i + 1)) 40 = false) → False := fun h => by rw [hug] at h; exact absurd h.1 (by decide)
          cases hr : pTrav (gx ws) k ⟨i, n⟩ with
          | bad j c =>
            have HV : Hid (r = .bad j c) := Lib.hid (by rw [← hr0]; exact pArg_t0 (s := ⟨i, n⟩) hgv hpg hut hr)
            have HR := Lib.hid hr
            clear hx hgx hav hd hn hr0 hva hk hgv hy hgy hi2l hpa hpg huu hug hut hr hs40
            go_enter Tryz.func47, Tryz.ntmps47
            go_wp2_with fail
            refine HW.out.mono ?_
            rintro e w1 ⟨rfl, hb1⟩
            obtain ⟨w2, hw2⟩ : ∃ w2, w1.alloc (.cells #[.int .i64 x.k, .string x.s, .int .i64 x.n, .float .f64 x.f, .int .i64 (x.at_ : Nat)] 56) = w2 := ⟨_, rfl⟩
            have HL2 := Lib.hid (PL.start H.out H0.out.1 H0.out.2 hb1 (w2 := w2) (by rw [← hw2]; exact (Below.refl _ _).alloc (Nat.le_refl _) _) (by rw [← hw2]; exact Blk.new _ _ _))
            clear hb1
            go_wp2_with fail
            refine (HVA.out _ HL2.out.p).mono ?_
            rintro e w3 ⟨rfl, hb3⟩
            have HL3 := Lib.hid (HL2.out.on hb3)
            clear hb3
            rw [HE1.out]
            go_wp2_with fail
            refine (HPA.out _ HL3.out.p).mono ?_
            rintro e w4 ⟨rfl, hb4⟩
            have HL4 := Lib.hid (HL3.out.on hb4)
            clear hb4
            rw [HE2.out]
            go_wp2_with fail
            refine (HBh.out _ HL4.out.p).mono ?_
            rintro e w5 ⟨rfl, hb5⟩
            have HL5 := Lib.hid (HL4.out.on hb5)
            clear hb5
            rw [HE3.out]
            obtain ⟨t50, t51, t52, t53, t54⟩ := HL5.out.word
            go_wp2_with fail
            refine (HTr.out _ HL5.out.p).mono ?_
            rintro e w6 hg
            rw [HR.out] at hg
            obtain ⟨rfl, ⟨i', n', hp⟩, ho⟩ := hg
            exact ⟨rfl, Got.bad HV.out rfl hp (HL5.out.f.trans ho)⟩
          | ok l s' =>
            have HV : Hid (r = .ok (.mk 3 vz pz l) s') := Lib.hid (by rw [← hr0]; exact pArg_t1 (s := ⟨i, n⟩) hgv hpg hut hr)
            have HR := Lib.hid hr
            clear hx hgx hav hd hn hr0 hva hk hgv hy hgy hi2l hpa hpg huu hug hut hr hs40
            go_enter Tryz.func47, Tryz.ntmps47
            go_wp2_with fail
            refine HW.out.mono ?_
            rintro e w1 ⟨rfl, hb1⟩
            obtain ⟨w2, hw2⟩ : ∃ w2, w1.alloc (.cells #[.int .i64 x.k, .string x.s, .int .i64 x.n, .float .f64 x.f, .int .i64 (x.at_ : Nat)] 56) = w2 := ⟨_, rfl⟩
            have HL2 := Lib.hid (PL.start H.out H0.out.1 H0.out.2 hb1 (w2 := w2) (by rw [← hw2]; exact (Below.refl _ _).alloc (Nat.le_refl _) _) (by rw [← hw2]; exact Blk.new _ _ _))
            clear hb1
            go_wp2_with fail
            refine (HVA.out _ HL2.out.p).mono ?_
            rintro e w3 ⟨rfl, hb3⟩
            have HL3 := Lib.hid (HL2.out.on hb3)
            clear hb3
            rw [HE1.out]
            go_wp2_with fail
            refine (HPA.out _ HL3.out.p).mono ?_
            rintro e w4 ⟨rfl, hb4⟩
            have HL4 := Lib.hid (HL3.out.on hb4)
            clear hb4
            rw [HE2.out]
            go_wp2_with fail
            refine (HBh.out _ HL4.out.p).mono ?_
            rintro e w5 ⟨rfl, hb5⟩
            have HL5 := Lib.hid (HL4.out.on hb5)
            clear hb5
            rw [HE3.out]
            obtain ⟨t50, t51, t52, t53, t54⟩ := HL5.out.word
            go_wp2_with fail
            refine (HTr.out _ HL5.out.p).mono ?_
            rintro e w6 hg
            rw [HR.out] at hg
            obtain ⟨vq, rfl, hvq, hpq, hoq⟩ := hg
            obtain ⟨qA, qc, rfl⟩ := rdTr_shape _ _ _ _ _ hvq
            have HL6 := Lib.hid (HL5.out.go hpq hoq)
            have HRv := Lib.hid hvq
            clear hvq hpq hoq
            obtain ⟨⟨r0, r1, r2, r3, r4, r5, r6, r7, r8, r9, r10⟩, z0, z1, z2, z3, z4, z5, z6, z7, z8, z9, z10⟩ := box11 HL6.out.rb
            go_wp2_with fail
            obtain ⟨wf, hwf, hfb, hfl, hsz, hfar⟩ := fin11 HL6.out.rb rfl (.int .i64 3) (.int .i64 0) (.bool false) (.int .i64 0) (.float .f64 0) (.string ⟨#[]⟩) (.slice none 0 0) (.string ⟨#[]⟩) (.slice none 0 0) (.slice none 0 0) (.slice qA l.length qc)
            rw [hwf]
            obtain ⟨⟨f0, f1, f2, f3, f4, f5, f6, f7, f8, f9, f10⟩, -⟩ := box11 hfb
            have hlt := HL6.out.lt
            have htl := HL5.out.t.lt
            refine bodyPost_ret (v := .agg #[.int .i64 3, .int .i64 0, .bool false, .int .i64 0, .float .f64 0, .string ⟨#[]⟩, .slice none 0 0, .string ⟨#[]⟩, .slice none 0 0, .slice none 0 0, .slice qA l.length qc]) (by simp [results, Tryz.results47, go_sem, f0, f1, f2, f3, f4, f5, f6, f7, f8, f9, f10]) rfl
              (Got.ok_ HV.out ⟨_, _, _, _, _, _, _, _, _, _, rfl, rdS_leaf (by decide) (by decide) (by decide) (by decide), rdP_nil _ _, keepS_Tr k _ _ _ _ _ _ (fun q hq => World.cell?_of_block (hfar _ (by have := hq.1; omega))) (fun b hb => ⟨by have := hb.1; omega, by rw [hsz]; exact hb.2⟩) HRv.out⟩ (HL6.out.p.under hfl hlt.1.1 hlt.1.2) (HL6.out.f.far hfl (Nat.le_refl _)))
      · have HE3 := Lib.hid hs40
        have hgs : isSgn (gx ws ((Ps.mk i n).i + 1)) 40 = true := by rw [hgy]; exact hs40
        cases hr : pPred (gx ws) k ⟨i, n⟩ with
        | bad j c =>
          have HV : Hid (r = .bad j c) := Lib.hid (by rw [← hr0]; exact pArg_p0 (s := ⟨i, n⟩) hgv hgp hgs hr)
          have HR := Lib.hid hr
          clear hx hgx hav hd hn hr0 hva hk hgv hy hgy hi2l hpa hgp hgs hs40 hr
          go_enter Tryz.func47, Tryz.ntmps47
          go_wp2_with fail
          refine HW.out.mono ?_
          rintro e w1 ⟨rfl, hb1⟩
          obtain ⟨w2, hw2⟩ : ∃ w2, w1.alloc (.cells #[.int .i64 x.k, .string x.s, .int .i64 x.n, .float .f64 x.f, .int .i64 (x.at_ : Nat)] 56) = w2 := ⟨_, rfl⟩
          have HL2 := Lib.hid (PL.start H.out H0.out.1 H0.out.2 hb1 (w2 := w2) (by rw [← hw2]; exact (Below.refl _ _).alloc (Nat.le_refl _) _) (by rw [← hw2]; exact Blk.new _ _ _))
          clear hb1
          go_wp2_with fail
          refine (HVA.out _ HL2.out.p).mono ?_
          rintro e w3 ⟨rfl, hb3⟩
          have HL3 := Lib.hid (HL2.out.on hb3)
          clear hb3
          rw [HE1.out]
          go_wp2_with fail
          refine (HPA.out _ HL3.out.p).mono ?_
          rintro e w4 ⟨rfl, hb4⟩
          have HL4 := Lib.hid (HL3.out.on hb4)
          clear hb4
          rw [HE2.out]
          go_wp2_with fail
          refine (HBh.out _ HL4.out.p).mono ?_
          rintro e w5 ⟨rfl, hb5⟩
          have HL5 := Lib.hid (HL4.out.on hb5)
          clear hb5
          rw [HE3.out]
          go_wp2_with fail
          refine (HPr.out _ HL5.out.p HE2.out).mono ?_
          rintro e w6 hg
          rw [HR.out] at hg
          obtain ⟨rfl, ⟨i', n', hp⟩, ho⟩ := hg
          exact ⟨rfl, Got.bad HV.out rfl hp (HL5.out.f.trans ho)⟩
        | ok p s' =>
          have HV : Hid (r = .ok (.mk 2 vz p []) s') := Lib.hid (by rw [← hr0]; exact pArg_p1 (s := ⟨i, n⟩) hgv hgp hgs hr)
          have HR := Lib.hid hr
          clear hx hgx hav hd hn hr0 hva hk hgv hy hgy hi2l hpa hgp hgs hs40 hr
          go_enter Tryz.func47, Tryz.ntmps47
          go_wp2_with fail
          refine HW.out.mono ?_
          rintro e w1 ⟨rfl, hb1⟩
          obtain ⟨w2, hw2⟩ : ∃ w2, w1.alloc (.cells #[.int .i64 x.k, .string x.s, .int .i64 x.n, .float .f64 x.f, .int .i64 (x.at_ : Nat)] 56) = w2 := ⟨_, rfl⟩
          have HL2 := Lib.hid (PL.start H.out H0.out.1 H0.out.2 hb1 (w2 := w2) (by rw [← hw2]; exact (Below.refl _ _).alloc (Nat.le_refl _) _) (by rw [← hw2]; exact Blk.new _ _ _))
          clear hb1
          go_wp2_with fail
          refine (HVA.out _ HL2.out.p).mono ?_
          rintro e w3 ⟨rfl, hb3⟩
          have HL3 := Lib.hid (HL2.out.on hb3)
          clear hb3
          rw [HE1.out]
          go_wp2_with fail
          refine (HPA.out _ HL3.out.p).mono ?_
          rintro e w4 ⟨rfl, hb4⟩
          have HL4 := Lib.hid (HL3.out.on hb4)
          clear hb4
          rw [HE2.out]
          go_wp2_with fail
          refine (HBh.out _ HL4.out.p).mono ?_
          rintro e w5 ⟨rfl, hb5⟩
          have HL5 := Lib.hid (HL4.out.on hb5)
          clear hb5
          rw [HE3.out]
          go_wp2_with fail
          refine (HPr.out _ HL5.out.p HE2.out).mono ?_
          rintro e w6 hg
          rw [HR.out] at hg
          obtain ⟨vq, rfl, hvq, hpq, hoq⟩ := hg
          obtain ⟨qop, ql, qk⟩ := p
          obtain ⟨qA, qc, qB, qe, rfl⟩ := hvq.shape
          have HL6 := Lib.hid (HL5.out.go hpq hoq)
          have HRv := Lib.hid hvq
          clear hvq hpq hoq
          obtain ⟨⟨r0, r1, r2, r3, r4, r5, r6, r7, r8, r9, r10⟩, z0, z1, z2, z3, z4, z5, z6, z7, z8, z9, z10⟩ := box11 HL6.out.rb
          go_wp2_with fail
          obtain ⟨wf, hwf, hfb, hfl, hsz, hfar⟩ := fin11 HL6.out.rb rfl (.int .i64 2) (.int .i64 0) (.bool false) (.int .i64 0) (.float .f64 0) (.string ⟨#[]⟩) (.slice none 0 0) (.string qop) (.slice qA ql.length qc) (.slice qB qk.length qe) (.slice none 0 0)
          rw [hwf]
          obtain ⟨⟨f0, f1, f2, f3, f4, f5, f6, f7, f8, f9, f10⟩, -⟩ := box11 hfb
          have hlt := HL6.out.lt
          have htl := HL5.out.t.lt
          refine bodyPost_ret (v := .agg #[.int .i64 2, .int .i64 0, .bool false, .int .i64 0, .float .f64 0, .string ⟨#[]⟩, .slice none 0 0, .string qop, .slice qA ql.length qc, .slice qB qk.length qe, .slice none 0 0]) (by simp [results, Tryz.results47, go_sem, f0, f1, f2, f3, f4, f5, f6, f7, f8, f9, f10]) rfl
            (Got.ok_ HV.out ⟨_, _, _, _, _, _, _, _, _, _, rfl, rdS_leaf (by decide) (by decide) (by decide) (by decide), keepS_Pd _ _ _ _ _ _ (fun q hq => World.cell?_of_block (hfar _ (by have := hq.1; omega))) (fun b hb => ⟨by have := hb.1; omega, by rw [hsz]; exact hb.2⟩) HRv.out, rdTr_nil _ _ _⟩ (HL6.out.p.under hfl hlt.1.1 hlt.1.2) (HL6.out.f.far hfl (Nat.le_refl _)))
  · have hgv : valA (gx ws (Ps.mk i n).i) = true := by rw [hgx]; exact hva
    have HE1 := Lib.hid hva
    have HVal := Lib.hid (fun W (hp : PB W pb g cap ws i d n) => val_at HG.out k W i d n x hp hx hva hd)
    cases hr : pVal (gx ws) k ⟨i, n⟩ with
    | bad j c =>
      have HV : Hid (r = .bad j c) := Lib.hid (by rw [← hr0]; exact pArg_v0 (s := ⟨i, n⟩) hgv hr)
      have HR := Lib.hid hr
      clear hx hgx hav hd hn hr0 hva hgv hr
      go_enter Tryz.func47, Tryz.ntmps47
      go_wp2_with fail
      refine HW.out.mono ?_
      rintro e w1 ⟨rfl, hb1⟩
      obtain ⟨w2, hw2⟩ : ∃ w2, w1.alloc (.cells #[.int .i64 x.k, .string x.s, .int .i64 x.n, .float .f64 x.f, .int .i64 (x.at_ : Nat)] 56) = w2 := ⟨_, rfl⟩
      have HL2 := Lib.hid (PL.start H.out H0.out.1 H0.out.2 hb1 (w2 := w2) (by rw [← hw2]; exact (Below.refl _ _).alloc (Nat.le_refl _) _) (by rw [← hw2]; exact Blk.new _ _ _))
      clear hb1
      go_wp2_with fail
      refine (HVA.out _ HL2.out.p).mono ?_
      rintro e w3 ⟨rfl, hb3⟩
      have HL3 := Lib.hid (HL2.out.on hb3)
      clear hb3
      rw [HE1.out]
      go_wp2_with fail
      refine (HVal.out _ HL3.out.p).mono ?_
      rintro e w4 hg
      rw [HR.out] at hg
      obtain ⟨rfl, ⟨i', n', hp⟩, ho⟩ := hg
      exact ⟨rfl, Got.bad HV.out rfl hp (HL3.out.f.trans ho)⟩
    | ok v s' =>
      have HV : Hid (r = .ok (.mk 1 v pz []) s') := Lib.hid (by rw [← hr0]; exact pArg_v1 (s := ⟨i, n⟩) hgv hr)
      have HR := Lib.hid hr
      clear hx hgx hav hd hn hr0 hva hgv hr
      go_enter Tryz.func47, Tryz.ntmps47
      go_wp2_with fail
      refine HW.out.mono ?_
      rintro e w1 ⟨rfl, hb1⟩
      obtain ⟨w2, hw2⟩ : ∃ w2, w1.alloc (.cells #[.int .i64 x.k, .string x.s, .int .i64 x.n, .float .f64 x.f, .int .i64 (x.at_ : Nat)] 56) = w2 := ⟨_, rfl⟩
      have HL2 := Lib.hid (PL.start H.out H0.out.1 H0.out.2 hb1 (w2 := w2) (by rw [← hw2]; exact (Below.refl _ _).alloc (Nat.le_refl _) _) (by rw [← hw2]; exact Blk.new _ _ _))
      clear hb1
      go_wp2_with fail
      refine (HVA.out _ HL2.out.p).mono ?_
      rintro e w3 ⟨rfl, hb3⟩
      have HL3 := Lib.hid (HL2.out.on hb3)
      clear hb3
      rw [HE1.out]
      go_wp2_with fail
      refine (HVal.out _ HL3.out.p).mono ?_
      rintro e w4 hg
      rw [HR.out] at hg
      obtain ⟨vq, rfl, hvq, hpq, hoq⟩ := hg
      obtain ⟨xk, xb, xn, xf, xs, xl⟩ := v
      obtain ⟨xA, xc, rfl, -⟩ := RdS.open hvq
      have HL4 := Lib.hid (HL3.out.go hpq hoq)
      have HRv := Lib.hid hvq
      clear hvq hpq hoq
      obtain ⟨⟨r0, r1, r2, r3, r4, r5, r6, r7, r8, r9, r10⟩, z0, z1, z2, z3, z4, z5, z6, z7, z8, z9, z10⟩ := box11 HL4.out.rb
      go_wp2_with fail
      obtain ⟨wf, hwf, hfb, hfl, hsz, hfar⟩ := fin11 HL4.out.rb rfl (.int .i64 1) (.int .i64 xk) (.bool xb) (.int .i64 xn) (.float .f64 xf) (.string xs) (.slice xA xl.length xc) (.string ⟨#[]⟩) (.slice none 0 0) (.slice none 0 0) (.slice none 0 0)
      rw [hwf]
      obtain ⟨⟨f0, f1, f2, f3, f4, f5, f6, f7, f8, f9, f10⟩, -⟩ := box11 hfb
      have hlt := HL4.out.lt
      have htl := HL3.out.t.lt
      refine bodyPost_ret (v := .agg #[.int .i64 1, .int .i64 xk, .bool xb, .int .i64 xn, .float .f64 xf, .string xs, .slice xA xl.length xc, .string ⟨#[]⟩, .slice none 0 0, .slice none 0 0, .slice none 0 0]) (by simp [results, Tryz.results47, go_sem, f0, f1, f2, f3, f4, f5, f6, f7, f8, f9, f10]) rfl
        (Got.ok_ HV.out ⟨_, _, _, _, _, _, _, _, _, _, rfl, keepS_T _ _ _ _ _ _ (fun q hq => World.cell?_of_block (hfar _ (by have := hq.1; omega))) (fun b hb => ⟨by have := hb.1; omega, by rw [hsz]; exact hb.2⟩) HRv.out, rdP_nil _ _, rdTr_nil _ _ _⟩ (HL4.out.p.under hfl hlt.1.1 hlt.1.2) (HL4.out.f.far hfl (Nat.le_refl _)))

end Go.Proofs.YtnehbpfgdeilhaaGreatDoor

namespace Go.Proofs.YtnehbpfgdeilhaaGreatDoor
open Go.ChangeShapes Go.WideShapes Go.ChangeAt Go.RowKit Go.Fl
open Go.Shelf

theorem info_step : (Tryz.prog.info? 42).map (fun i => (i.zero, i.size, i.bytes)) = some (some (.agg #[.string ⟨#[]⟩, .slice none 0 0]), 2, 40) := by kernel_rfl

/-- a row of one, just built -/
theorem Row.one {α : Type} {R : World → (Nat → Prop) → α → Value → Prop} (hK : KeepS R) {e : TypeId} {sz B : Nat} {w : World} {x : α} {v : Value} {cs : Array Value} (hv : R w (fun b => B ≤ b ∧ b < w.heap.size) x v) (hB : B ≤ w.heap.size) (hc : v.cells = cs) (hs : cs.size = sz) :
    Row R e sz B (w.alloc (.cells cs e)) [x] (.slice (some ⟨w.heap.size, 0, none⟩) 1 1) := by
  refine ⟨cs.toList, ⟨by simp [hs], .inr ⟨w.heap.size, 1, cs, rfl, hB, heap_alloc_new w _, Nat.le_refl _, by decide, by omega, by rw [List.take_of_length_le (by simp [hs])]⟩⟩, fun j hj => ?_⟩
  obtain rfl : j = 0 := by simp at hj; exact hj
  refine ⟨v, fun k u hu => ?_, hK _ _ _ _ _ _ (fun p hp => ((Below.refl w.heap.size w).alloc (Nat.le_refl _) _).cell hp.2) (fun b hb => ⟨hb.1, by simp; omega, fun he => ?_⟩) hv⟩
  · rw [hc] at hu
    have hk := (Array.getElem?_eq_some_iff.1 hu).1
    exact ⟨by omega, by rw [Nat.zero_mul, Nat.zero_add]; simpa using hu⟩
  · simp [Value.ownBlock] at he; omega

section
variable {G : Nat → Wd} {arg : Ps → Rs Ag} {s s' : Ps} {l : List Sp} {x : Sp} {f i : Nat} {e : Int}

theorem pChain_bad (h : pStep G arg s = .bad i e) : pChain G arg s = .bad i e := by unfold pChain; rw [h]

theorem pChain_ok (h : pStep G arg s = .ok x s') : pChain G arg s = pChainL G arg 151 [x] s' := by unfold pChain; rw [h]

theorem pChainL_end (h : isSgn (G s.i) 46 = false) : pChainL G arg (f + 1) l s = .ok l s := by rw [pChainL, if_pos h]

theorem pChainL_bad (h : isSgn (G s.i) 46 = true) (hr : pStep G arg ⟨s.i + 1, s.n⟩ = .bad i e) : pChainL G arg (f + 1) l s = .bad i e := by rw [pChainL, if_neg (by rw [h]; decide), hr]

theorem pChainL_go (h : isSgn (G s.i) 46 = true) (hr : pStep G arg ⟨s.i + 1, s.n⟩ = .ok x s') : pChainL G arg (f + 1) l s = pChainL G arg f (l ++ [x]) s' := by rw [pChainL, if_neg (by rw [h]; decide), hr]

end

set_option maxHeartbeats 8000000 in
set_option maxRecDepth 100000 in
theorem chain_at {pb g cap : Nat} {ws : List Wd} (hG : Gd ws) (k : Nat) (hst : StepAt pb g cap ws k) : ChainAt pb g cap ws k := by
  intro w i d n h hd hn
  have HSt := Lib.hid (fun W i n (hp : PB W pb g cap ws i d n) (hn : n ≤ 150) => hst W i d n hp hd hn)
  have HUp := Lib.hid (fun (s s' : Ps) (x : Sp) (hr : pStep (gx ws) (pArg (gx ws) k (pTrav (gx ws) k)) s = .ok x s') => pStep_up (pArg_up (pTrav_up k)) hr)
  have H := Lib.hid h
  have HG := Lib.hid hG
  have hf := hG.few
  obtain ⟨i0, hi0, hz0, hz1, hz2⟩ := info_parts info_step
  obtain ⟨arg, harg⟩ : ∃ a, pArg (gx ws) k (pTrav (gx ws) k) = a := ⟨_, rfl⟩
  rw [harg] at HSt HUp ⊢
  clear h hG hst harg
  cases hr : pStep (gx ws) arg ⟨i, n⟩ with
  | bad j c =>
    have HR := Lib.hid hr
    have HV := Lib.hid (pChain_bad hr)
    go_enter Tryz.func19, Tryz.ntmps19
    go_wp2_with fail
    refine (HSt.out _ _ _ H.out hn).mono ?_
    rintro e w1 hg
    rw [HR.out] at hg
    obtain ⟨rfl, ⟨i', n', hp⟩, ho⟩ := hg
    exact ⟨rfl, Got.bad (R := RdTr (k + 1)) HV.out rfl hp ho⟩
  | ok x0 s1 =>
    have HR := Lib.hid hr
    have HV := Lib.hid (pChain_ok hr)
    have HN := Lib.hid (HUp.out _ _ _ hr)
    clear hr
    go_enter Tryz.func19, Tryz.ntmps19
    go_wp2_with fail
    refine (HSt.out _ _ _ H.out hn).mono ?_
    rintro e w1 hg
    rw [HR.out] at hg
    obtain ⟨v1, rfl, hv1, hp1, ho1⟩ := hg
    have hvk := hv1
    obtain ⟨nm, args⟩ := x0
    obtain ⟨av, rfl, hav⟩ := hvk
    obtain ⟨aA, ac, rfl⟩ := hav.shape
    obtain ⟨wq, hwq⟩ : ∃ wq, w1.alloc (.cells #[.string nm, .slice aA args.length ac] 42) = wq := ⟨_, rfl⟩
    have hbq : Below w1.heap.size w1 wq := by rw [← hwq]; exact (Below.refl _ _).alloc (Nat.le_refl _) _
    have hrow : Row (RdStp (RdTr k)) 42 2 w.heap.size wq [.mk nm args] (.slice (some ⟨w1.heap.size, 0, none⟩) 1 1) := by rw [← hwq]; exact Row.one (keepS_Stp (keepS_Tr k)) hv1 ho1.size rfl rfl
    have HI : Hid (PB wq pb g cap ws s1.i d s1.n ∧ Row (RdStp (RdTr k)) 42 2 w.heap.size wq [.mk nm args] (.slice (some ⟨w1.heap.size, 0, none⟩) 1 1) ∧ FR pb w wq) := Lib.hid ⟨hp1.on hbq, hrow, ho1.trans (FR.of hbq)⟩
    clear hv1 hav hp1 ho1 hbq hrow
    go_wp2_with fail
    go_loopw [3] (fun sl wr => ∃ (l : List Sp) (A : Option Addr) (c f i1 n1 : Nat), sl = .slice A l.length c ∧ Hid (pChain (gx ws) arg ⟨i, n⟩ = pChainL (gx ws) arg f l ⟨i1, n1⟩ ∧ 152 ≤ f + n1 ∧ n1 ≤ 150 ∧ l.length ≤ n1) ∧ Hid (PB wr pb g cap ws i1 d n1 ∧ Row (RdStp (RdTr k)) 42 2 w.heap.size wr l (.slice A l.length c) ∧ FR pb w wr)) (fun sl _ => 151 - sliceLen sl)
    case atStart => exact ⟨[.mk nm args], some ⟨w1.heap.size, 0, none⟩, 1, 151, s1.i, s1.n, rfl, Lib.hid ⟨HV.out, by have h : n + 1 ≤ s1.n := HN.out.1; omega, HN.out.2 hn, by have h : n + 1 ≤ s1.n := HN.out.1; show 1 ≤ s1.n; omega⟩, HI⟩
    case round =>
      obtain ⟨l, A, c, f, i1, n1, rfl, Hv, Hw⟩ := hrel
      obtain ⟨f, rfl⟩ : ∃ q, f = q + 1 := ⟨f - 1, by have := Hv.out.2; omega⟩
      obtain ⟨y, hy⟩ := Hw.out.1.get
      have hgy : gx ws (Ps.mk i1 n1).i = { y with at_ := 0 } := gx_of hy
      have Hy := Lib.hid hy
      have hn1 := Hv.out.2.2.1
      have hln := Hv.out.2.2.2
      clear HI hwq
      cases hs : isSgn y 46
      · have HV2 : Hid (pChain (gx ws) arg ⟨i, n⟩ = .ok l ⟨i1, n1⟩) := Lib.hid (Hv.out.1.trans (pChainL_end (s := ⟨i1, n1⟩) (by rw [hgy]; exact hs)))
        have HS := Lib.hid hs
        clear hy hgy hs
        go_wp2_with fail
        refine (take_no Hw.out.1 HG.out Hy.out HS.out).mono ?_
        rintro e w3 ⟨rfl, hb3⟩
        have HB3 := Lib.hid hb3
        clear hb3
        go_wp2_with fail
        go_ret
        have hk := Hw.out.2.1.kept (keepS_Stp (keepS_Tr k)) HB3.out.size (fun b _ hbl => HB3.out.block b hbl)
        exact Got.ok_ (R := RdTr (k + 1)) HV2.out (hk.all (keepS_Stp (keepS_Tr k))) (Hw.out.1.on HB3.out) (Hw.out.2.2.trans (FR.of HB3.out))
      · have HS := Lib.hid hs
        have hg46 : isSgn (gx ws (Ps.mk i1 n1).i) 46 = true := by rw [hgy]; exact hs
        obtain ⟨i2, hi2⟩ : ∃ q, i1 + 1 = q := ⟨_, rfl⟩
        have Hi2 := Lib.hid hi2
        have h12 : (Ps.mk ((Ps.mk i1 n1).i + 1) (Ps.mk i1 n1).n) = ⟨i2, n1⟩ := by show (Ps.mk (i1 + 1) n1) = _; rw [hi2]
        have hbw := Hw.out.2.2.size
        cases hr : pStep (gx ws) arg ⟨i2, n1⟩ with
        | bad j c =>
          have HR := Lib.hid hr
          have HV2 : Hid (pChain (gx ws) arg ⟨i, n⟩ = .bad j c) := Lib.hid (Hv.out.1.trans (pChainL_bad (s := ⟨i1, n1⟩) hg46 (by rw [h12]; exact hr)))
          clear hy hgy hs hg46 hr h12 hi2
          go_wp2_with fail
          refine (take_yes Hw.out.1 HG.out Hy.out HS.out).mono ?_
          rintro e w3 ⟨rfl, hp3, ho3⟩
          rw [Hi2.out] at hp3
          have HP3 := Lib.hid (And.intro hp3 ho3)
          clear hp3 ho3
          go_wp2_with fail
          refine (HSt.out _ _ _ HP3.out.1 hn1).mono ?_
          rintro e w4 hg
          rw [HR.out] at hg
          obtain ⟨rfl, ⟨i', n', hp⟩, ho⟩ := hg
          exact ⟨rfl, Got.bad (R := RdTr (k + 1)) HV2.out rfl hp ((Hw.out.2.2.trans HP3.out.2).trans ho)⟩
        | ok x1 s2 =>
          have HR := Lib.hid hr
          have HV2 := Lib.hid (Hv.out.1.trans (pChainL_go (s := ⟨i1, n1⟩) hg46 (by rw [h12]; exact hr)))
          have HN2 := Lib.hid (HUp.out _ _ _ hr)
          clear hy hgy hs hg46 hr h12 hi2
          go_wp2_with fail
          refine (take_yes Hw.out.1 HG.out Hy.out HS.out).mono ?_
          rintro e w3 ⟨rfl, hp3, ho3⟩
          rw [Hi2.out] at hp3
          have HP3 := Lib.hid (And.intro hp3 ho3)
          clear hp3 ho3
          go_wp2_with fail
          refine (HSt.out _ _ _ HP3.out.1 hn1).mono ?_
          rintro e w4 hg
          rw [HR.out] at hg
          obtain ⟨v4, rfl, hv4, hp4, ho4⟩ := hg
          have hvk := hv4
          obtain ⟨nm, args⟩ := x1
          obtain ⟨av, rfl, hav⟩ := hvk
          obtain ⟨aA, ac, rfl⟩ := hav.shape
          have hs3 := HP3.out.2.size
          have hs4 := ho4.size
          have hv4' : RdStp (RdTr k) w4 (fun b => wr.heap.size ≤ b ∧ b < w4.heap.size) (.mk nm args) (.agg #[.string nm, .slice aA args.length ac]) := keepS_Stp (keepS_Tr k) _ _ _ _ _ _ (fun _ _ => rfl) (fun b hb => ⟨by have := hb.1; omega, hb.2⟩) hv4
          obtain ⟨A', c', w5, hr5, hrow5, hb5⟩ := Hw.out.2.1.more (keepS_Stp (keepS_Tr k)) 22 42 i0 _ 2 40 Tryz.underlying22 hi0 hz0 hz1 hz2 rfl (by decide) (by decide) (fun b (hb : b = pb) => by rw [hb]; exact H.out.box.lt) hbw (Below.refl _ _) (HP3.out.2.trans ho4) hv4' (#[.string nm, .slice aA args.length ac]) rfl rfl (fun u hu => by simp at hu; rcases hu with rfl | rfl <;> rfl) (by omega)
          have HRun := Lib.hid hr5
          have Hx : Hid (PB w5 pb g cap ws s2.i d s2.n ∧ Row (RdStp (RdTr k)) 42 2 w.heap.size w5 (l ++ [.mk nm args]) (.slice A' (l.length + 1) c') ∧ FR pb w w5) := Lib.hid ⟨hp4.under hb5 H.out.box.lt H.out.lt, hrow5, (((Hw.out.2.2.trans HP3.out.2).trans ho4)).far hb5 (Nat.le_refl _)⟩
          clear hr5 hrow5 hb5 hp4 ho4 hv4 hv4' hav hs3 hs4
          go_wp2_with (at_builtin; refine Lib.wpList_append_run_sl _ rfl _ _ 22 rfl _ _ rfl rfl HRun.out ?_)
          go_roundw
          case rel => exact ⟨l ++ [.mk nm args], A', c', f, s2.i, s2.n, by rw [List.length_append]; rfl, Lib.hid ⟨HV2.out, by have h : n1 + 1 ≤ s2.n := HN2.out.1; have := Hv.out.2.1; omega, HN2.out.2 hn1, by have h : n1 + 1 ≤ s2.n := HN2.out.1; rw [List.length_append, List.length_singleton]; omega⟩, by rw [List.length_append]; exact Hx⟩
          case measure => simp [sliceLen]; omega

theorem pTrav_skip {G : Nat → Wd} {k i n : Nat} (h1 : isL (G i) txUU = true) (h2 : isSgn (G (i + 1)) 46 = true) : pTrav G (k + 1) ⟨i, n⟩ = pChain G (pArg G k (pTrav G k)) ⟨i + 2, n⟩ := by
  rw [pTrav]
  show pChain G _ (if isL (G i) txUU && isSgn (G (i + 1)) 46 then _ else _) = _
  rw [h1, h2]
  rfl

theorem pTrav_plain {G : Nat → Wd} {k i n : Nat} (h : (isL (G i) txUU && isSgn (G (i + 1)) 46) = false) : pTrav G (k + 1) ⟨i, n⟩ = pChain G (pArg G k (pTrav G k)) ⟨i, n⟩ := by
  rw [pTrav]
  show pChain G _ (if isL (G i) txUU && isSgn (G (i + 1)) 46 then _ else _) = _
  rw [h]
  rfl

theorem trav_zero {pb g cap : Nat} {ws : List Wd} (hG : Gd ws) : TravAt pb g cap ws 0 := by
  intro w i d n x h hx hk hd hn
  have HD := Lib.hid (down_any h hG hx (by omega : d ≤ 12))
  have HAt := Lib.hid (congrArg Wd.at_ (getD_of hx))
  have HV : Hid (pTrav (gx ws) 0 ⟨i, n⟩ = .bad i 3) := Lib.hid rfl
  have H := Lib.hid h
  have hd12 : d = 12 := by omega
  clear h hx hG hk hd hn
  go_enter_defers Tryz.func64, Tryz.ntmps64
  go_wp2_with fail
  refine HD.out.mono ?_
  rintro e w1 (⟨-, rfl, hb1⟩ | ⟨h1, -⟩)
  · exact Got.bad (R := RdTr 0) HV.out HAt.out (H.out.on hb1) (Only.of_below hb1)
  · omega

set_option maxHeartbeats 8000000 in
set_option maxRecDepth 100000 in
theorem trav_succ {pb g cap : Nat} {ws : List Wd} (hG : Gd ws) (k : Nat) (hc : ChainAt pb g cap ws k) : TravAt pb g cap ws (k + 1) := by
  intro w i d n x h hx hk hd hn
  have hf1 : ∀ W : World, (Instr.field 56 (.agg #[.int .i64 x.k, .string x.s, .int .i64 x.n, .float .f64 x.f, .int .i64 (x.at_ : Nat)]) 1).run Tryz.prog W = .ok (.string x.s) W := fun _ => by kernel_rfl
  have HD := Lib.hid (down_any h hG hx (by omega : d ≤ 12))
  have HW := Lib.hid (fun W (hp : PB W pb g cap ws i (d + 1) n) => word_any hp hG hx)
  have HCh := Lib.hid (fun W i (hp : PB W pb g cap ws i (d + 1) n) => hc W i (d + 1) n hp (by omega) hn)
  have H := Lib.hid h
  have hf := hG.few
  have hi := h.at_
  obtain ⟨y, hy⟩ := hG.next hx (by rw [hk]; decide)
  have hgx : gx ws i = { x with at_ := 0 } := gx_of hx
  have hgy : gx ws (i + 1) = { y with at_ := 0 } := gx_of hy
  have HBh := Lib.hid (fun W (hp : PB W pb g cap ws i (d + 1) n) => behind_any hp hG hy 46)
  have hd12 : d < 12 := by omega
  cases huu : isL x txUU
  · have euu : (x.s.toList == [95, 95]) = false := by rw [Lib.toList_data]; exact huu
    have HVx := Lib.hid (pTrav_plain (G := gx ws) (k := k) (i := i) (n := n) (by rw [hgx]; show (isL x txUU && _) = false; rw [huu]; rfl))
    clear h hx hG hk hn hy hgx hgy huu hc
    cases hr : pChain (gx ws) (pArg (gx ws) k (pTrav (gx ws) k)) ⟨i, n⟩ with
    | bad j c =>
      have HR := Lib.hid hr
      have HV : Hid (pTrav (gx ws) (k + 1) ⟨i, n⟩ = .bad j c) := Lib.hid (HVx.out.trans hr)
      clear hr
      go_enter_defers Tryz.func64, Tryz.ntmps64
      go_wp2_with fail
      refine HD.out.mono ?_
      rintro e w1 (⟨h1, -⟩ | ⟨-, rfl, hp1, ho1, -⟩)
      · omega
      have HP1 := Lib.hid (And.intro hp1 ho1)
      clear hp1 ho1
      go_wp2_with fail
      refine (HW.out _ HP1.out.1).mono ?_
      rintro e w2 ⟨rfl, hb2⟩
      have HP2 := Lib.hid (And.intro (HP1.out.1.on hb2) (HP1.out.2.trans (FR.of hb2)))
      clear hb2
      go_wp2_with fail
      refine (HCh.out _ (i) HP2.out.1).mono ?_
      rintro e w5 hg
      rw [HR.out] at hg
      obtain ⟨rfl, ⟨i', n', hp⟩, ho⟩ := hg
      exact door_bad 1 w5 (by omega) hp (fun w' h1 h2 => Got.bad (R := RdTr (k + 1)) HV.out rfl h1 ((HP2.out.2.trans ho).trans h2))
    | ok l s' =>
      have HR := Lib.hid hr
      have HV : Hid (pTrav (gx ws) (k + 1) ⟨i, n⟩ = .ok l s') := Lib.hid (HVx.out.trans hr)
      clear hr
      go_enter_defers Tryz.func64, Tryz.ntmps64
      go_wp2_with fail
      refine HD.out.mono ?_
      rintro e w1 (⟨h1, -⟩ | ⟨-, rfl, hp1, ho1, -⟩)
      · omega
      have HP1 := Lib.hid (And.intro hp1 ho1)
      clear hp1 ho1
      go_wp2_with fail
      refine (HW.out _ HP1.out.1).mono ?_
      rintro e w2 ⟨rfl, hb2⟩
      have HP2 := Lib.hid (And.intro (HP1.out.1.on hb2) (HP1.out.2.trans (FR.of hb2)))
      clear hb2
      go_wp2_with fail
      refine (HCh.out _ (i) HP2.out.1).mono ?_
      rintro e w5 hg
      rw [HR.out] at hg
      obtain ⟨v5, rfl, hv5, hp5, ho5⟩ := hg
      have H5 := Lib.hid (And.intro hv5 (And.intro hp5 ho5))
      clear hv5 hp5 ho5
      go_wp2_with fail
      refine door_ok 1 w5 (by omega) H5.out.2.1 (fun w' h1 h2 h3 => ⟨_, results_tmp rfl _ _ _, Got.ok_ HV.out ?_ h1 ((HP2.out.2.trans H5.out.2.2).trans h2)⟩)
      have hs := HP2.out.2.size
      have hpl := H.out.box.lt
      exact keepS_Tr (k + 1) _ _ _ _ _ _ (fun q hq => World.cell?_of_block (h2.block _ hq.2 (by have := hq.1; omega))) (fun b hb => ⟨by have := hb.1; omega, by rw [h3]; exact hb.2⟩) H5.out.1
  · have euu : (x.s.toList == [95, 95]) = true := by rw [Lib.toList_data]; exact huu
    cases hs : isSgn y 46
    · have HE3 := Lib.hid hs
      have HVx := Lib.hid (pTrav_plain (G := gx ws) (k := k) (i := i) (n := n) (by rw [hgx, hgy]; show (isL x txUU && isSgn y 46) = false; rw [huu, hs]; rfl))
      clear h hx hG hk hn hy hgx hgy huu hc hs
      cases hr : pChain (gx ws) (pArg (gx ws) k (pTrav (gx ws) k)) ⟨i, n⟩ with
      | bad j c =>
        have HR := Lib.hid hr
        have HV : Hid (pTrav (gx ws) (k + 1) ⟨i, n⟩ = .bad j c) := Lib.hid (HVx.out.trans hr)
        clear hr
        go_enter_defers Tryz.func64, Tryz.ntmps64
        go_wp2_with fail
        refine HD.out.mono ?_
        rintro e w1 (⟨h1, -⟩ | ⟨-, rfl, hp1, ho1, -⟩)
        · omega
        have HP1 := Lib.hid (And.intro hp1 ho1)
        clear hp1 ho1
        go_wp2_with fail
        refine (HW.out _ HP1.out.1).mono ?_
        rintro e w2 ⟨rfl, hb2⟩
        have HP2 := Lib.hid (And.intro (HP1.out.1.on hb2) (HP1.out.2.trans (FR.of hb2)))
        clear hb2
        go_wp2_with fail
        refine (HBh.out _ HP2.out.1).mono ?_
        rintro e w3 ⟨rfl, hb3⟩
        have HP3 := Lib.hid (And.intro (HP2.out.1.on hb3) (HP2.out.2.trans (FR.of hb3)))
        clear hb3
        rw [HE3.out]
        go_wp2_with fail
        refine (HCh.out _ (i) HP3.out.1).mono ?_
        rintro e w5 hg
        rw [HR.out] at hg
        obtain ⟨rfl, ⟨i', n', hp⟩, ho⟩ := hg
        exact door_bad 1 w5 (by omega) hp (fun w' h1 h2 => Got.bad (R := RdTr (k + 1)) HV.out rfl h1 ((HP3.out.2.trans ho).trans h2))
      | ok l s' =>
        have HR := Lib.hid hr
        have HV : Hid (pTrav (gx ws) (k + 1) ⟨i, n⟩ = .ok l s') := Lib.hid (HVx.out.trans hr)
        clear hr
        go_enter_defers Tryz.func64, Tryz.ntmps64
        go_wp2_with fail
        refine HD.out.mono ?_
        rintro e w1 (⟨h1, -⟩ | ⟨-, rfl, hp1, ho1, -⟩)
        · omega
        have HP1 := Lib.hid (And.intro hp1 ho1)
        clear hp1 ho1
        go_wp2_with fail
        refine (HW.out _ HP1.out.1).mono ?_
        rintro e w2 ⟨rfl, hb2⟩
        have HP2 := Lib.hid (And.intro (HP1.out.1.on hb2) (HP1.out.2.trans (FR.of hb2)))
        clear hb2
        go_wp2_with fail
        refine (HBh.out _ HP2.out.1).mono ?_
        rintro e w3 ⟨rfl, hb3⟩
        have HP3 := Lib.hid (And.intro (HP2.out.1.on hb3) (HP2.out.2.trans (FR.of hb3)))
        clear hb3
        rw [HE3.out]
        go_wp2_with fail
        refine (HCh.out _ (i) HP3.out.1).mono ?_
        rintro e w5 hg
        rw [HR.out] at hg
        obtain ⟨v5, rfl, hv5, hp5, ho5⟩ := hg
        have H5 := Lib.hid (And.intro hv5 (And.intro hp5 ho5))
        clear hv5 hp5 ho5
        go_wp2_with fail
        refine door_ok 1 w5 (by omega) H5.out.2.1 (fun w' h1 h2 h3 => ⟨_, results_tmp rfl _ _ _, Got.ok_ HV.out ?_ h1 ((HP3.out.2.trans H5.out.2.2).trans h2)⟩)
        have hs := HP3.out.2.size
        have hpl := H.out.box.lt
        exact keepS_Tr (k + 1) _ _ _ _ _ _ (fun q hq => World.cell?_of_block (h2.block _ hq.2 (by have := hq.1; omega))) (fun b hb => ⟨by have := hb.1; omega, by rw [h3]; exact hb.2⟩) H5.out.1
    · have HE3 := Lib.hid hs
      have HVx := Lib.hid (pTrav_skip (G := gx ws) (k := k) (i := i) (n := n) (by rw [hgx]; exact huu) (by rw [hgy]; exact hs))
      have Hi2l := Lib.hid (show i + 2 < ws.length from sgn_next hG hy hs)
      clear h hx hG hk hn hy hgx hgy huu hc hs
      cases hr : pChain (gx ws) (pArg (gx ws) k (pTrav (gx ws) k)) ⟨i + 2, n⟩ with
      | bad j c =>
        have HR := Lib.hid hr
        have HV : Hid (pTrav (gx ws) (k + 1) ⟨i, n⟩ = .bad j c) := Lib.hid (HVx.out.trans hr)
        clear hr
        go_enter_defers Tryz.func64, Tryz.ntmps64
        go_wp2_with fail
        refine HD.out.mono ?_
        rintro e w1 (⟨h1, -⟩ | ⟨-, rfl, hp1, ho1, -⟩)
        · omega
        have HP1 := Lib.hid (And.intro hp1 ho1)
        clear hp1 ho1
        go_wp2_with fail
        refine (HW.out _ HP1.out.1).mono ?_
        rintro e w2 ⟨rfl, hb2⟩
        have HP2 := Lib.hid (And.intro (HP1.out.1.on hb2) (HP1.out.2.trans (FR.of hb2)))
        clear hb2
        go_wp2_with fail
        refine (HBh.out _ HP2.out.1).mono ?_
        rintro e w3 ⟨rfl, hb3⟩
        have HP3 := Lib.hid (And.intro (HP2.out.1.on hb3) (HP2.out.2.trans (FR.of hb3)))
        clear hb3
        rw [HE3.out]
        obtain ⟨-, c1, -, -, z1, -, -, -⟩ := HP3.out.1.cells
        go_wp2_with fail
        have HP4 := Lib.hid (And.intro (HP3.out.1.next2 Hi2l.out) (fr_put HP3.out.2 1 (.int .i64 ((i : Int) + 2))))
        obtain ⟨w4, hw4⟩ : ∃ W, w3.setCell ⟨pb, 1, none⟩ (.int .i64 ((i : Int) + 2)) = W := ⟨_, rfl⟩
        rw [hw4] at HP4 ⊢
        refine (HCh.out _ (i + 2) HP4.out.1).mono ?_
        rintro e w5 hg
        rw [HR.out] at hg
        obtain ⟨rfl, ⟨i', n', hp⟩, ho⟩ := hg
        exact door_bad 1 w5 (by omega) hp (fun w' h1 h2 => Got.bad (R := RdTr (k + 1)) HV.out rfl h1 ((HP4.out.2.trans ho).trans h2))
      | ok l s' =>
        have HR := Lib.hid hr
        have HV : Hid (pTrav (gx ws) (k + 1) ⟨i, n⟩ = .ok l s') := Lib.hid (HVx.out.trans hr)
        clear hr
        go_enter_defers Tryz.func64, Tryz.ntmps64
        go_wp2_with fail
        refine HD.out.mono ?_
        rintro e w1 (⟨h1, -⟩ | ⟨-, rfl, hp1, ho1, -⟩)
        · omega
        have HP1 := Lib.hid (And.intro hp1 ho1)
        clear hp1 ho1
        go_wp2_with fail
        refine (HW.out _ HP1.out.1).mono ?_
        rintro e w2 ⟨rfl, hb2⟩
        have HP2 := Lib.hid (And.intro (HP1.out.1.on hb2) (HP1.out.2.trans (FR.of hb2)))
        clear hb2
        go_wp2_with fail
        refine (HBh.out _ HP2.out.1).mono ?_
        rintro e w3 ⟨rfl, hb3⟩
        have HP3 := Lib.hid (And.intro (HP2.out.1.on hb3) (HP2.out.2.trans (FR.of hb3)))
        clear hb3
        rw [HE3.out]
        obtain ⟨-, c1, -, -, z1, -, -, -⟩ := HP3.out.1.cells
        go_wp2_with fail
        have HP4 := Lib.hid (And.intro (HP3.out.1.next2 Hi2l.out) (fr_put HP3.out.2 1 (.int .i64 ((i : Int) + 2))))
        obtain ⟨w4, hw4⟩ : ∃ W, w3.setCell ⟨pb, 1, none⟩ (.int .i64 ((i : Int) + 2)) = W := ⟨_, rfl⟩
        rw [hw4] at HP4 ⊢
        refine (HCh.out _ (i + 2) HP4.out.1).mono ?_
        rintro e w5 hg
        rw [HR.out] at hg
        obtain ⟨v5, rfl, hv5, hp5, ho5⟩ := hg
        have H5 := Lib.hid (And.intro hv5 (And.intro hp5 ho5))
        clear hv5 hp5 ho5
        go_wp2_with fail
        refine door_ok 1 w5 (by omega) H5.out.2.1 (fun w' h1 h2 h3 => ⟨_, results_tmp rfl _ _ _, Got.ok_ HV.out ?_ h1 ((HP4.out.2.trans H5.out.2.2).trans h2)⟩)
        have hs := HP4.out.2.size
        have hpl := H.out.box.lt
        exact keepS_Tr (k + 1) _ _ _ _ _ _ (fun q hq => World.cell?_of_block (h2.block _ hq.2 (by have := hq.1; omega))) (fun b hb => ⟨by have := hb.1; omega, by rw [h3]; exact hb.2⟩) H5.out.1

theorem trav_at {pb g cap : Nat} {ws : List Wd} (hG : Gd ws) : ∀ k, TravAt pb g cap ws k
  | 0 => trav_zero hG
  | k + 1 => trav_succ hG k (chain_at hG k (step_at hG k (arg_at hG k (trav_at hG k))))

theorem chain_all {pb g cap : Nat} {ws : List Wd} (hG : Gd ws) (k : Nat) : ChainAt pb g cap ws k := chain_at hG k (step_at hG k (arg_at hG k (trav_at hG k)))

end Go.Proofs.YtnehbpfgdeilhaaGreatDoor

namespace Go.Proofs.YtnehbpfgdeilhaaGreatDoor
open Go.ChangeShapes Go.WideShapes Go.ChangeAt Go.RowKit Go.Fl
open Go.Shelf

section
variable {G : Nat → Wd} {l : List Sp} {s : Ps} {i : Nat} {e : Int}

theorem pText_g (h : isNam (G 0) txG = false) : pText G = .bad 0 120 := by unfold pText; exact if_pos h

theorem pText_dot (h : isNam (G 0) txG = true) (h1 : isSgn (G 1) 46 = false) : pText G = .bad 1 120 := by unfold pText; rw [if_neg (by rw [h]; decide), if_pos h1]

theorem pText_bad (h : isNam (G 0) txG = true) (h1 : isSgn (G 1) 46 = true) (hr : pChain G (pArg G 12 (pTrav G 12)) ⟨2, 0⟩ = .bad i e) : pText G = .bad i e := by unfold pText; rw [if_neg (by rw [h]; decide), if_neg (by rw [h1]; decide), hr]

theorem pText_more (h : isNam (G 0) txG = true) (h1 : isSgn (G 1) 46 = true) (hr : pChain G (pArg G 12 (pTrav G 12)) ⟨2, 0⟩ = .ok l s) (hk : (G s.i).k ≠ 0) : pText G = .bad s.i 120 := by unfold pText; rw [if_neg (by rw [h]; decide), if_neg (by rw [h1]; decide), hr]; exact if_neg hk

theorem pText_ok (h : isNam (G 0) txG = true) (h1 : isSgn (G 1) 46 = true) (hr : pChain G (pArg G 12 (pTrav G 12)) ⟨2, 0⟩ = .ok l s) (hk : (G s.i).k = 0) : pText G = .ok l s := by unfold pText; rw [if_neg (by rw [h]; decide), if_neg (by rw [h1]; decide), hr]; exact if_pos hk

end

/-- what package parse's text comes to: of any state behind -/
def TxtP (pb g cap : Nat) (ws : List Wd) (r : Rs (List Sp)) (w : World) (e : Ending) (w' : World) : Prop := Got pb g cap ws 0 (fun b => b = pb) (RdTr 13) r w e w'

set_option maxHeartbeats 8000000 in
set_option maxRecDepth 100000 in
theorem ptext_any {pb g cap : Nat} {ws : List Wd} (hG : Gd ws) {w : World} (h : PB w pb g cap ws 0 0 0) :
    Calls Tryz.prog 10 #[.pointer (some ⟨pb, 0, none⟩)] w (TxtP pb g cap ws (pText (gx ws)) w) := by
  obtain ⟨x, hx⟩ := h.get
  have hf0 : ∀ (x : Wd) (W : World), (Instr.field 56 (.agg #[.int .i64 x.k, .string x.s, .int .i64 x.n, .float .f64 x.f, .int .i64 (x.at_ : Nat)]) 0).run Tryz.prog W = .ok (.int .i64 x.k) W := fun _ _ => by kernel_rfl
  have hgx : gx ws 0 = { x with at_ := 0 } := gx_of hx
  have HW := Lib.hid (word_any h hG hx)
  have HAt := Lib.hid (congrArg Wd.at_ (getD_of hx))
  have Hx := Lib.hid hx
  have H := Lib.hid h
  have HG := Lib.hid hG
  have hf := hG.few
  cases hg : isNam x txG
  · have HV := Lib.hid (pText_g (G := gx ws) (by rw [hgx]; exact hg))
    have HE : Hid ((decide (x.k = 1) && isL x (⟨#[103]⟩ : ByteArray).data.toList) = false) := Lib.hid hg
    clear h hx hgx hG hg hf0
    go_enter Tryz.func10, Tryz.ntmps10
    go_wp2_with fail
    refine HW.out.mono ?_
    rintro e w1 ⟨rfl, hb1⟩
    have HB1 := Lib.hid hb1; clear hb1
    go_wp2_with fail
    refine (isName_any x ⟨#[103]⟩ _).mono ?_
    rintro e w2 ⟨rfl, hb2⟩
    have HB2 := Lib.hid (HB1.out.trans (hb2.mono HB1.out.size)); clear hb2
    rw [HE.out]
    go_wp2_with fail
    refine (must_no (H.out.on HB2.out) HG.out Hx.out).mono ?_
    rintro e w3 ⟨rfl, hb3⟩
    have hb := HB2.out.trans (hb3.mono HB2.out.size)
    exact ⟨rfl, Got.bad (R := RdTr 13) HV.out HAt.out (H.out.on hb) (Only.of_below hb)⟩
  · have hgn : isNam (gx ws 0) txG = true := by rw [hgx]; exact hg
    have HE : Hid ((decide (x.k = 1) && isL x (⟨#[103]⟩ : ByteArray).data.toList) = true) := Lib.hid hg
    obtain ⟨y, hy⟩ := hG.next hx (by rw [(nam_list hg).1]; decide)
    have hi1 := (List.getElem?_eq_some_iff.1 hy).1
    have Hi1 : Hid (0 + 1 < ws.length) := Lib.hid hi1
    have Hy : Hid (ws[0 + 1]? = some y) := Lib.hid hy
    have hgy : gx ws 1 = { y with at_ := 0 } := gx_of hy
    have HAy : Hid ((ws.getD 1 wdNone).at_ = y.at_) := Lib.hid (congrArg Wd.at_ (getD_of hy))
    cases hs : isSgn y 46
    · have HV := Lib.hid (pText_dot (G := gx ws) hgn (by rw [hgy]; exact hs))
      have HS := Lib.hid hs
      clear h hx hgx hG hg hf0 hgn hy hi1 hgy hs
      go_enter Tryz.func10, Tryz.ntmps10
      go_wp2_with fail
      refine HW.out.mono ?_
      rintro e w1 ⟨rfl, hb1⟩
      have HB1 := Lib.hid hb1; clear hb1
      go_wp2_with fail
      refine (isName_any x ⟨#[103]⟩ _).mono ?_
      rintro e w2 ⟨rfl, hb2⟩
      have HB2 := Lib.hid (HB1.out.trans (hb2.mono HB1.out.size)); clear hb2
      rw [HE.out]
      go_wp2_with fail
      refine (must_yes _).mono ?_
      rintro e w' ⟨rfl, rfl⟩
      have HP2 := Lib.hid (H.out.on HB2.out)
      obtain ⟨-, c1, -, -, z1, -, -, -⟩ := HP2.out.cells
      go_wp2_with fail
      obtain ⟨w3, hw3⟩ : ∃ W, w2.setCell ⟨pb, 1, none⟩ (.int .i64 1) = W := ⟨_, rfl⟩
      have HP3 : Hid (PB w3 pb g cap ws (0 + 1) 0 0 ∧ FR pb w w3) := Lib.hid (by rw [← hw3]; exact ⟨HP2.out.next Hi1.out, fr_put (FR.of HB2.out) 1 _⟩)
      rw [hw3]
      refine (take_no HP3.out.1 HG.out Hy.out HS.out).mono ?_
      rintro e w4 ⟨rfl, hb4⟩
      have HB4 := Lib.hid hb4; clear hb4
      go_wp2_with fail
      refine (must_no (HP3.out.1.on HB4.out) HG.out Hy.out).mono ?_
      rintro e w5 ⟨rfl, hb5⟩
      have hb := HB4.out.trans (hb5.mono HB4.out.size)
      exact ⟨rfl, Got.bad (R := RdTr 13) HV.out HAy.out (HP3.out.1.on hb) (HP3.out.2.trans (FR.of hb))⟩
    · have hgs : isSgn (gx ws 1) 46 = true := by rw [hgy]; exact hs
      have HS := Lib.hid hs
      have HCh := Lib.hid (fun W (hp : PB W pb g cap ws 2 0 0) => chain_all hG 12 W 2 0 0 hp rfl (by decide))
      cases hr : pChain (gx ws) (pArg (gx ws) 12 (pTrav (gx ws) 12)) ⟨2, 0⟩ with
      | bad j c =>
        have HV := Lib.hid (pText_bad hgn hgs hr)
        have HR := Lib.hid hr
        clear h hx hgx hG hg hf0 hgn hy hi1 hgy hs hgs hr
        go_enter Tryz.func10, Tryz.ntmps10
        go_wp2_with fail
        refine HW.out.mono ?_
        rintro e w1 ⟨rfl, hb1⟩
        have HB1 := Lib.hid hb1; clear hb1
        go_wp2_with fail
        refine (isName_any x ⟨#[103]⟩ _).mono ?_
        rintro e w2 ⟨rfl, hb2⟩
        have HB2 := Lib.hid (HB1.out.trans (hb2.mono HB1.out.size)); clear hb2
        rw [HE.out]
        go_wp2_with fail
        refine (must_yes _).mono ?_
        rintro e w' ⟨rfl, rfl⟩
        have HP2 := Lib.hid (H.out.on HB2.out)
        obtain ⟨-, c1, -, -, z1, -, -, -⟩ := HP2.out.cells
        go_wp2_with fail
        obtain ⟨w3, hw3⟩ : ∃ W, w2.setCell ⟨pb, 1, none⟩ (.int .i64 1) = W := ⟨_, rfl⟩
        have HP3 : Hid (PB w3 pb g cap ws (0 + 1) 0 0 ∧ FR pb w w3) := Lib.hid (by rw [← hw3]; exact ⟨HP2.out.next Hi1.out, fr_put (FR.of HB2.out) 1 _⟩)
        rw [hw3]
        refine (take_yes HP3.out.1 HG.out Hy.out HS.out).mono ?_
        rintro e w4 ⟨rfl, hp4, ho4⟩
        have HP4 : Hid (PB w4 pb g cap ws 2 0 0 ∧ FR pb w w4) := Lib.hid ⟨hp4, HP3.out.2.trans ho4⟩
        clear hp4 ho4
        go_wp2_with fail
        refine (must_yes _).mono ?_
        rintro e w' ⟨rfl, rfl⟩
        go_wp2_with fail
        refine (HCh.out _ HP4.out.1).mono ?_
        rintro e w5 hgot
        rw [HR.out] at hgot
        obtain ⟨rfl, ⟨i', n', hp⟩, ho⟩ := hgot
        exact ⟨rfl, Got.bad (R := RdTr 13) HV.out rfl hp (HP4.out.2.trans ho)⟩
      | ok l s =>
        have HR := Lib.hid hr
        have HVm := Lib.hid (fun hk => pText_more hgn hgs hr hk)
        have HVo := Lib.hid (fun hk => pText_ok hgn hgs hr hk)
        clear h hx hgx hG hg hgn hy hi1 hgy hs hgs hr
        go_enter Tryz.func10, Tryz.ntmps10
        go_wp2_with fail
        refine HW.out.mono ?_
        rintro e w1 ⟨rfl, hb1⟩
        have HB1 := Lib.hid hb1; clear hb1
        go_wp2_with fail
        refine (isName_any x ⟨#[103]⟩ _).mono ?_
        rintro e w2 ⟨rfl, hb2⟩
        have HB2 := Lib.hid (HB1.out.trans (hb2.mono HB1.out.size)); clear hb2
        rw [HE.out]
        go_wp2_with fail
        refine (must_yes _).mono ?_
        rintro e w' ⟨rfl, rfl⟩
        have HP2 := Lib.hid (H.out.on HB2.out)
        obtain ⟨-, c1, -, -, z1, -, -, -⟩ := HP2.out.cells
        go_wp2_with fail
        obtain ⟨w3, hw3⟩ : ∃ W, w2.setCell ⟨pb, 1, none⟩ (.int .i64 1) = W := ⟨_, rfl⟩
        have HP3 : Hid (PB w3 pb g cap ws (0 + 1) 0 0 ∧ FR pb w w3) := Lib.hid (by rw [← hw3]; exact ⟨HP2.out.next Hi1.out, fr_put (FR.of HB2.out) 1 _⟩)
        rw [hw3]
        refine (take_yes HP3.out.1 HG.out Hy.out HS.out).mono ?_
        rintro e w4 ⟨rfl, hp4, ho4⟩
        have HP4 : Hid (PB w4 pb g cap ws 2 0 0 ∧ FR pb w w4) := Lib.hid ⟨hp4, HP3.out.2.trans ho4⟩
        clear hp4 ho4
        go_wp2_with fail
        refine (must_yes _).mono ?_
        rintro e w' ⟨rfl, rfl⟩
        go_wp2_with fail
        refine (HCh.out _ HP4.out.1).mono ?_
        rintro e w5 hgot
        rw [HR.out] at hgot
        obtain ⟨v5, rfl, hv5, hp5, ho5⟩ := hgot
        obtain ⟨z, hz⟩ := hp5.get
        have hgz := gx_of hz
        have hf0z := hf0 z
        have HWz := Lib.hid (word_any hp5 HG.out hz)
        have Hz := Lib.hid hz
        have HAz := Lib.hid (congrArg Wd.at_ (getD_of hz))
        have H5 := Lib.hid (And.intro hv5 (And.intro hp5 (HP4.out.2.trans ho5)))
        have hs54 := ho5.size
        have hs41 := HP4.out.2.size
        clear hv5 hp5 ho5 hz hf0
        by_cases hk0 : z.k = 0
        · have HV := Lib.hid (HVo.out (by rw [hgz]; exact hk0))
          have e0 : (z.k == 0) = true := by simpa using hk0
          clear hk0 hgz
          go_wp2_with fail
          refine HWz.out.mono ?_
          rintro e w6 ⟨rfl, hb6⟩
          have HB6 := Lib.hid hb6; clear hb6
          go_wp2_with fail
          refine (must_yes _).mono ?_
          rintro e w' ⟨rfl, rfl⟩
          go_wp2_with fail
          go_ret
          exact Got.ok_ (R := RdTr 13) HV.out (keepS_Tr 13 _ _ _ _ _ _ (fun q hq => HB6.out.cell hq.2) (fun b hb => ⟨by have := hb.1; omega, Nat.lt_of_lt_of_le hb.2 HB6.out.size⟩) H5.out.1) (H5.out.2.1.on HB6.out) (H5.out.2.2.trans (FR.of HB6.out))
        · have HV := Lib.hid (HVm.out (by rw [hgz]; exact hk0))
          have e0 : (z.k == 0) = false := by simpa using hk0
          clear hk0 hgz
          go_wp2_with fail
          refine HWz.out.mono ?_
          rintro e w6 ⟨rfl, hb6⟩
          have HB6 := Lib.hid hb6; clear hb6
          go_wp2_with fail
          refine (must_no (H5.out.2.1.on HB6.out) HG.out Hz.out).mono ?_
          rintro e w7 ⟨rfl, hb7⟩
          have hb := HB6.out.trans (hb7.mono HB6.out.size)
          exact ⟨rfl, Got.bad (R := RdTr 13) HV.out HAz.out (H5.out.2.1.on hb) (H5.out.2.2.trans (FR.of hb))⟩

end Go.Proofs.YtnehbpfgdeilhaaGreatDoor

namespace Go.Proofs.YtnehbpfgdeilhaaGreatDoor
open Go.ChangeShapes Go.WideShapes Go.ChangeAt Go.RowKit Go.Fl
open Go.Shelf

def IdleQ (w : World) (e : Exit) (a : Act) (w' : World) : Prop := e = .ret ∧ a.defers = [] ∧ w' = w

def CatchQ (b0 b1 b2 a : Nat) (c : Int) (w : World) (e : Exit) (ac : Act) (w' : World) : Prop :=
  e = .normal ∧ ac.defers = [] ∧ Blk w' b0 22 #[.slice none 0 0] ∧ Blk w' b1 3 #[.int .i64 (a : Nat)] ∧ Blk w' b2 23 #[.int .i64 c] ∧ Only (fun b => b = b0 ∨ b = b1 ∨ b = b2) w w'

set_option maxHeartbeats 2000000 in
set_option maxRecDepth 100000 in
theorem catch_panic {b0 b1 b2 a : Nat} {c : Int} {l0 a0 c0 : Value} {w : World} (h0 : Blk w b0 22 #[l0]) (h1 : Blk w b1 3 #[a0]) (h2 : Blk w b2 23 #[c0]) (n01 : b0 ≠ b1) (n02 : b0 ≠ b2) (n12 : b1 ≠ b2) :
    CallsD Tryz.prog 9 #[.pointer (some ⟨b0, 0, none⟩), .pointer (some ⟨b1, 0, none⟩), .pointer (some ⟨b2, 0, none⟩)] (.panicking (flt a c)) w fun e u' w' =>
      e = .returned (.tuple #[]) ∧ u' = .panicking [{ v := .iface 34 (.agg #[.int .i64 (a : Nat), .int .i64 c]), recovered := true }] ∧ Blk w' b0 22 #[.slice none 0 0] ∧ Blk w' b1 3 #[.int .i64 (a : Nat)] ∧ Blk w' b2 23 #[.int .i64 c] ∧ Only (fun b => b = b0 ∨ b = b1 ∨ b = b2) w w' := by
  refine callsD_of_wpS Tryz.func9 rfl fun c₀ cs hu => ?_
  apply wpS_seq
  apply wpS_region
  unfold flt at hu
  simp [wpOpsS, go_sem, recoverD, hu, Tryz.ntmps9, Exit.thenS]
  refine wpS_of_wp (Code.wp_mono (P := Tryz.prog) (Q := CatchQ b0 b1 b2 a c w) (fun e ac w' hq => ?_) ?_)
  · obtain ⟨rfl, hd, q1, q2, q3, q4⟩ := hq
    exact ⟨hd, _, rfl, .tuple #[], by simp [results, Tryz.results9, go_sem], rfl, rfl, q1, q2, q3, q4⟩
  clear hu
  obtain ⟨w1, hw1⟩ : ∃ w1, w.alloc (.cells #[.int .i64 (a : Nat), .int .i64 c] 34) = w1 := ⟨_, rfl⟩
  have hb1 : Below w.heap.size w w1 := by rw [← hw1]; exact (Below.refl _ _).alloc (Nat.le_refl _) _
  have hx1 : Blk w1 w.heap.size 34 #[.int .i64 (a : Nat), .int .i64 c] := by rw [← hw1]; exact Blk.new _ _ _
  have h0' := h0.below hb1 h0.lt
  have h1' := h1.below hb1 h1.lt
  have h2' := h2.below hb1 h2.lt
  have m0 : ¬ b0 = w.heap.size := by have := h0.lt; omega
  have m1 : ¬ b1 = w.heap.size := by have := h1.lt; omega
  have m2 : ¬ b2 = w.heap.size := by have := h2.lt; omega
  have m0' : ¬ w.heap.size = b0 := by have := h0.lt; omega
  have m1' : ¬ w.heap.size = b1 := by have := h1.lt; omega
  have m2' : ¬ w.heap.size = b2 := by have := h2.lt; omega
  have n01' : ¬ b1 = b0 := fun e => n01 e.symm
  have n02' : ¬ b2 = b0 := fun e => n02 e.symm
  have n12' : ¬ b2 = b1 := fun e => n12 e.symm
  have x0 : w1.cell? ⟨w.heap.size, 0, none⟩ = some (.int .i64 (a : Nat)) := hx1.cell 0
  have x1 : w1.cell? ⟨w.heap.size, 1, none⟩ = some (.int .i64 c) := hx1.cell 1
  have c0_ : w1.cell? ⟨b0, 0, none⟩ = some l0 := h0'.cell 0
  have c1_ : w1.cell? ⟨b1, 0, none⟩ = some a0 := h1'.cell 0
  have c2_ : w1.cell? ⟨b2, 0, none⟩ = some c0 := h2'.cell 0
  have z0 : w1.frozen? ⟨b0, 0, none⟩ = false := h0'.frozen 0
  have z1 : w1.frozen? ⟨b1, 0, none⟩ = false := h1'.frozen 0
  have z2 : w1.frozen? ⟨b2, 0, none⟩ = false := h2'.frozen 0
  have HB := Lib.hid (And.intro hb1 (And.intro h0' (And.intro h1' h2')))
  clear hb1 hx1 h0 h1 h2 h0' h1' h2'
  have hta : ∀ (u : TypeId) (v : Value) (W : World), (Instr.typeAssert (.iface 34 v) u 34 true).run Tryz.prog W = .ok (.tuple #[v, .bool true]) W := fun _ _ _ => by kernel_rfl
  simp only [Array.replicate, List.replicate, List.setIfInBounds_toArray, List.set_cons_zero, List.set_cons_succ, List.append_toArray, List.cons_append, List.nil_append]
  go_wp2_with fail
  go_region
  go_wp2_with fail
  obtain ⟨hb1, h0', h1', h2'⟩ := HB.out
  refine ⟨rfl, rfl, ?_, ?_, ?_, ?_⟩
  · exact ((h0'.set_ 0 (.slice none 0 0)).far (p := ⟨b1, 0, none⟩) n01 _).far (p := ⟨b2, 0, none⟩) n02 _
  · exact ((h1'.far (p := ⟨b0, 0, none⟩) n01' _).set_ 0 (.int .i64 (a : Nat))).far (p := ⟨b2, 0, none⟩) n12 _
  · exact ((h2'.far (p := ⟨b0, 0, none⟩) n02' _).far (p := ⟨b1, 0, none⟩) n12' _).set_ 0 (.int .i64 c)
  · exact ((((Only.of_below hb1).setCell (p := ⟨b0, 0, none⟩) (.inl (.inl rfl)) _).setCell (p := ⟨b1, 0, none⟩) (.inl (.inr (.inl rfl))) _).setCell (p := ⟨b2, 0, none⟩) (.inl (.inr (.inr rfl))) _).drew

theorem catch_idle (b0 b1 b2 : Nat) (w : World) :
    CallsD Tryz.prog 9 #[.pointer (some ⟨b0, 0, none⟩), .pointer (some ⟨b1, 0, none⟩), .pointer (some ⟨b2, 0, none⟩)] .returning w fun e u' w' => e = .returned (.tuple #[]) ∧ u' = .returning ∧ w' = w := by
  refine callsD_of_wpS Tryz.func9 rfl fun c₀ cs hu => ?_
  apply wpS_seq
  apply wpS_region
  simp [wpOpsS, go_sem, recoverD, hu, Tryz.ntmps9, Exit.thenS]
  refine wpS_of_wp (Code.wp_mono (P := Tryz.prog) (Q := IdleQ w) (fun e ac w' hq => ?_) ?_)
  · obtain ⟨rfl, hd, rfl⟩ := hq
    refine ⟨hd, .returning, ?_, .tuple #[], by simp [results, Tryz.results9, go_sem], rfl, rfl, rfl⟩
    rw [← hu]
  clear hu
  simp only [Array.replicate, List.replicate, List.setIfInBounds_toArray, List.set_cons_zero, List.set_cons_succ, List.append_toArray, List.cons_append, List.nil_append]
  go_wp2_with fail
  exact ⟨rfl, rfl, rfl⟩

end Go.Proofs.YtnehbpfgdeilhaaGreatDoor
