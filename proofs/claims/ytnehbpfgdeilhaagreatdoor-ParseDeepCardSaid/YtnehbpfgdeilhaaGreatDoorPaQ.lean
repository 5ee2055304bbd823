/- parse: a predicate with its values -/
import Derived.Test.YtnehbpfgdeilhaaGreatDoorPaI

namespace Go.Proofs.YtnehbpfgdeilhaaGreatDoor
open Go.ChangeShapes Go.WideShapes Go.ChangeAt Go.RowKit Go.Fl
open Go.Shelf

theorem pPlain_no {G : Nat → Wd} {k : Nat} {s : Ps} (h : isSgn (G (s.i + 1)) 40 = false) : pPlain G k s = .bad (s.i + 1) 120 := by unfold pPlain; exact if_pos h

theorem pPlain_bad {G : Nat → Wd} {k : Nat} {s : Ps} (h : isSgn (G (s.i + 1)) 40 = true) {i : Nat} {e : Int} (hs : sev G 41 valA (pArgV G k s.i (mostN (G s.i).s.data.toList)) ⟨s.i + 2, s.n⟩ = .bad i e) : pPlain G k s = .bad i e := by
  unfold pPlain; rw [if_neg (by rw [h]; decide), hs]

theorem pPlain_few {G : Nat → Wd} {k : Nat} {s s' : Ps} (h : isSgn (G (s.i + 1)) 40 = true) {l : List T} (hs : sev G 41 valA (pArgV G k s.i (mostN (G s.i).s.data.toList)) ⟨s.i + 2, s.n⟩ = .ok l s') (hl : (l.length : Int) < mostN (G s.i).s.data.toList) : pPlain G k s = .bad s.i 120 := by
  unfold pPlain; rw [if_neg (by rw [h]; decide), hs]; exact if_pos hl

theorem pPlain_ok {G : Nat → Wd} {k : Nat} {s s' : Ps} (h : isSgn (G (s.i + 1)) 40 = true) {l : List T} (hs : sev G 41 valA (pArgV G k s.i (mostN (G s.i).s.data.toList)) ⟨s.i + 2, s.n⟩ = .ok l s') (hl : ¬ (l.length : Int) < mostN (G s.i).s.data.toList) : pPlain G k s = .ok (.mk (G s.i).s l []) s' := by
  unfold pPlain; rw [if_neg (by rw [h]; decide), hs]; exact if_neg hl

theorem LstS.shape {α : Type} {R : World → (Nat → Prop) → α → Value → Prop} {sz : Nat} {w : World} {S : Nat → Prop} {l : List α} {v : Value} (h : LstS R sz w S l v) : ∃ A c, v = .slice A l.length c := by
  rcases h with ⟨rfl, rfl⟩ | ⟨g, cap, rfl, -⟩
  · exact ⟨none, 0, rfl⟩
  · exact ⟨_, _, rfl⟩

theorem take_no {w : World} {pb g cap : Nat} {ws : List Wd} {i d n : Nat} {x : Wd} (h : PB w pb g cap ws i d n) (hG : Gd ws) (hx : ws[i]? = some x) {c : UInt8} (hs : isSgn x c = false) :
    Calls Tryz.prog 18 #[.pointer (some ⟨pb, 0, none⟩), .string ⟨#[c]⟩] w fun e w' => e = .returned (.bool false) ∧ Below w.heap.size w w' :=
  (take_any h hG hx c).mono fun _ _ h => by
    rcases h with ⟨h1, -⟩ | ⟨-, h2, h3⟩
    · rw [hs] at h1; cases h1
    · exact ⟨h2, h3⟩

theorem take_yes {w : World} {pb g cap : Nat} {ws : List Wd} {i d n : Nat} {x : Wd} (h : PB w pb g cap ws i d n) (hG : Gd ws) (hx : ws[i]? = some x) {c : UInt8} (hs : isSgn x c = true) :
    Calls Tryz.prog 18 #[.pointer (some ⟨pb, 0, none⟩), .string ⟨#[c]⟩] w fun e w' => e = .returned (.bool true) ∧ PB w' pb g cap ws (i + 1) d n ∧ FR pb w w' :=
  (take_any h hG hx c).mono fun _ _ h => by
    rcases h with ⟨-, h2, h3⟩ | ⟨h1, -⟩
    · exact ⟨h2, h3⟩
    · rw [hs] at h1; cases h1

theorem must_no {w : World} {pb g cap : Nat} {ws : List Wd} {i d n : Nat} {x : Wd} (h : PB w pb g cap ws i d n) (hG : Gd ws) (hx : ws[i]? = some x) :
    Calls Tryz.prog 15 #[.pointer (some ⟨pb, 0, none⟩), .bool false] w fun e w' => e = .panicked (flt x.at_ 120) ∧ Below w.heap.size w w' :=
  (must_any h hG hx false).mono fun _ _ h => by
    rcases h with ⟨h1, -⟩ | ⟨-, h2, h3⟩
    · cases h1
    · exact ⟨h2, h3⟩

theorem Only.cut {ok ok' : Nat → Prop} {a b c : World} (h : Only ok a b) (h' : Only ok' b c) (hk : ∀ k, k < a.heap.size → ok' k → ok k) : Only ok a c :=
  ⟨h'.os.trans h.os, h'.tape.trans h.tape, h'.output.trans h.output, Nat.le_trans h.size h'.size, fun k hl hn => (h'.block k (Nat.lt_of_lt_of_le hl h.size) (fun e => hn (hk k hl e))).trans (h.block k hl hn)⟩

theorem mostN_small (l : List UInt8) : mostN l = 0 ∨ mostN l = 1 ∨ mostN l = 2 ∨ mostN l = -1 := by
  unfold mostN prdN
  split
  · exact .inr (.inl rfl)
  · split
    · exact .inr (.inr (.inl rfl))
    · split
      · exact .inr (.inr (.inr rfl))
      · exact .inl rfl

theorem mostN_pred {x : Wd} (h : prdA x = true) : mostN x.s.data.toList = 1 ∨ mostN x.s.data.toList = 2 ∨ mostN x.s.data.toList = -1 := by
  unfold prdA at h
  rw [Bool.and_eq_true] at h
  unfold mostN
  unfold prdN at h ⊢
  split
  · exact .inl rfl
  · split
    · exact .inr (.inl rfl)
    · split
      · exact .inr (.inr rfl)
      · rename_i h1 h2 h3
        rw [if_neg h1, if_neg h2, if_neg h3] at h
        exact absurd h.1 (by decide)

set_option maxHeartbeats 4000000 in
set_option maxRecDepth 100000 in
theorem plain_any {pb g cap : Nat} {ws : List Wd} (hG : Gd ws) (k : Nat) {w : World} {i d n : Nat} {x : Wd} (h : PB w pb g cap ws i d n) (hx : ws[i]? = some x) (hv : prdA x = true) (hd : d + k = 12) :
    Calls Tryz.prog 84 #[.pointer (some ⟨pb, 0, none⟩)] w (Got pb g cap ws d (fun b => b = pb) RdP (pPlain (gx ws) k ⟨i, n⟩) w) := by
  have hmf : ∀ (fn : Fn) (first cap : Array Value) (w : World), (Instr.makeFunc fn first cap).run Tryz.prog w = .ok (.func fn first cap) w := fun _ _ _ _ => rfl
  have hk1 : x.k = 1 := by unfold prdA at hv; rw [Bool.and_eq_true, decide_eq_true_eq] at hv; exact hv.2
  obtain ⟨y, hy⟩ := hG.next hx (by rw [hk1]; decide)
  have hi1 := (List.getElem?_eq_some_iff.1 hy).1
  have Hmost := Lib.hid (mostN_pred hv)
  clear hk1
  have hgx : gx ws (Ps.mk i n).i = { x with at_ := 0 } := gx_of hx
  have hgy : gx ws ((Ps.mk i n).i + 1) = { y with at_ := 0 } := gx_of hy
  obtain ⟨w0, hw0⟩ : ∃ w0, (w.alloc (.cells #[.pointer (some ⟨pb, 0, none⟩)] 36)).alloc (.cells #[.string ⟨#[]⟩, .slice none 0 0, .slice none 0 0] 46) = w0 := ⟨_, rfl⟩
  have hb0 : Below w.heap.size w w0 := by rw [← hw0]; exact ((Below.refl _ _).alloc (Nat.le_refl _) _).alloc (by simp) _
  have hs0 : w0.heap.size = w.heap.size + 2 := by rw [← hw0]; simp
  have hpv0 : Blk w0 w.heap.size 36 #[.pointer (some ⟨pb, 0, none⟩)] := by rw [← hw0]; exact Blk.below (Blk.new w _ _) ((Below.refl _ _).alloc (Nat.le_refl _) _) (by simp)
  have hrb0 : Blk w0 (w.heap.size + 1) 46 #[.string ⟨#[]⟩, .slice none 0 0, .slice none 0 0] := by
    rw [← hw0]
    have := Blk.new (w.alloc (.cells #[.pointer (some ⟨pb, 0, none⟩)] 36)) 46 #[.string ⟨#[]⟩, .slice none 0 0, .slice none 0 0]
    rw [show (w.alloc (.cells #[.pointer (some ⟨pb, 0, none⟩)] 36)).heap.size = w.heap.size + 1 by simp] at this
    exact this
  have cp0 : w0.cell? ⟨w.heap.size, 0, none⟩ = some (.pointer (some ⟨pb, 0, none⟩)) := hpv0.cell 0
  have HW := Lib.hid (word_any (h.on hb0) hG hx)
  have hpl := h.box.lt
  have hgl := h.lt
  have hf := hG.few
  have H0 := Lib.hid (And.intro hb0 (And.intro hs0 (And.intro hpv0 hrb0)))
  have HTn := Lib.hid (fun W (hW : PB W pb g cap ws (i + 1) d n) => take_no (c := 40) hW hG hy)
  have HTy := Lib.hid (fun W (hW : PB W pb g cap ws (i + 1) d n) => take_yes (c := 40) hW hG hy)
  have HM := Lib.hid (fun W (hW : PB W pb g cap ws (i + 1) d n) => must_no hW hG hy)
  have H := Lib.hid h
  clear h hb0 hs0 hpv0 hrb0
  cases hs40 : isSgn y 40
  · have HV := Lib.hid (pPlain_no (k := k) (G := gx ws) (s := ⟨i, n⟩) (by rw [hgy]; exact hs40))
    have HAt := Lib.hid (congrArg Wd.at_ (getD_of hy))
    have HS := Lib.hid hs40
    clear hx hy hgx hgy hs40 hG hv hd
    go_enter Tryz.func84, Tryz.ntmps84
    go_wp2_with fail
    refine HW.out.mono ?_
    rintro e w1 ⟨rfl, hb1⟩
    obtain ⟨w2, hw2⟩ : ∃ w2, (w1.alloc (.cells #[.int .i64 x.k, .string x.s, .int .i64 x.n, .float .f64 x.f, .int .i64 (x.at_ : Nat)] 56)) = w2 := ⟨_, rfl⟩
    have hb2 : Below w1.heap.size w1 w2 := by rw [← hw2]; exact (Below.refl _ _).alloc (Nat.le_refl _) _
    have hs2 : w2.heap.size = w1.heap.size + 1 := by rw [← hw2]; simp
    have hnm2 : Blk w2 w1.heap.size 56 #[.int .i64 x.k, .string x.s, .int .i64 x.n, .float .f64 x.f, .int .i64 (x.at_ : Nat)] := by rw [← hw2]; exact Blk.new _ _ _
    have hb02 := hb1.trans (hb2.mono hb1.size)
    have hs1 : w.heap.size + 2 ≤ w1.heap.size := by have := hb1.size; have := H0.out.2.1; omega
    have hp2 := (H.out.on H0.out.1).on hb02
    obtain ⟨-, c1, -, -, z1, -, -, -⟩ := hp2.cells
    obtain ⟨w3, hw3⟩ : ∃ w3, w2.setCell ⟨pb, 1, none⟩ (.int .i64 ((i : Int) + 1)) = w3 := ⟨_, rfl⟩
    have hp3 : PB w3 pb g cap ws (i + 1) d n := by rw [← hw3]; exact hp2.next hi1
    have hs3 : w3.heap.size = w1.heap.size + 1 := by rw [← hw3, ← hs2]; simp [World.setCell]
    have hpv2 := H0.out.2.2.1.below hb02 (by have := H0.out.2.1; omega)
    have hpv3 : Blk w3 w.heap.size 36 #[.pointer (some ⟨pb, 0, none⟩)] := by rw [← hw3]; exact hpv2.far (by show w.heap.size ≠ pb; omega) _
    have hrb3 : Blk w3 (w.heap.size + 1) 46 #[.string ⟨#[]⟩, .slice none 0 0, .slice none 0 0] := by rw [← hw3]; exact (H0.out.2.2.2.below hb02 (by have := H0.out.2.1; omega)).far (by show w.heap.size + 1 ≠ pb; omega) _
    have hnm3 : Blk w3 w1.heap.size 56 #[.int .i64 x.k, .string x.s, .int .i64 x.n, .float .f64 x.f, .int .i64 (x.at_ : Nat)] := by rw [← hw3]; exact hnm2.far (by show w1.heap.size ≠ pb; omega) _
    have cp2 : w2.cell? ⟨w.heap.size, 0, none⟩ = some (.pointer (some ⟨pb, 0, none⟩)) := hpv2.cell 0
    have cp3 : w3.cell? ⟨w.heap.size, 0, none⟩ = some (.pointer (some ⟨pb, 0, none⟩)) := hpv3.cell 0
    have hf3 : FR pb w w3 := by rw [← hw3]; exact fr_put (FR.of (H0.out.1.trans (hb02.mono H0.out.1.size))) 1 _
    have HP3 := Lib.hid (And.intro hp3 (And.intro hf3 (And.intro hpv3 (And.intro hrb3 (And.intro hnm3 hs3)))))
    clear hp2 hp3 hb1 hb2 hb02 hf3 hpv2 hpv3 hrb3 hnm3 hnm2 hs2 hs3
    go_wp2_with fail
    refine wp_region_any (by kernel_rfl) ?_
    try (change wpAny _ _ _ _ _ _ _ (World.drew _))
    refine wpAny_ready (rs := [0, 1]) (by kernel_rfl) (by simp) ?_
    refine AllReady.cons rfl (fun K hK => ?_) ?_
    · go_simp
      refine hK _ _ ?_
      clear hK K
      refine wpAny_ready (rs := [1]) (by kernel_rfl) (by simp) ?_
      refine AllReady.cons rfl (fun K hK => ?_) ?_
      · go_simp
        refine hK _ _ ?_
        clear hK K
        refine wpAny_ready (rs := [2]) (by kernel_rfl) (by simp) ?_
        refine AllReady.cons rfl (fun K hK => ?_) ?_
        · go_simp
          refine (HTn.out _ (HP3.out.1.on (drewN_below _ 1)) HS.out).mono ?_
          rintro e w4 ⟨rfl, hb4⟩
          have cp4 : w4.cell? ⟨w.heap.size, 0, none⟩ = some (.pointer (some ⟨pb, 0, none⟩)) := (hb4.cell (p := ⟨w.heap.size, 0, none⟩) HP3.out.2.2.1.lt).trans cp3
          have HB4 := Lib.hid hb4
          clear hb4
          refine hK _ _ ?_
          clear hK K
          refine wpAny_ready (rs := [3]) (by kernel_rfl) (by simp) ?_
          refine AllReady.cons rfl (fun K hK => ?_) ?_
          · go_simp
            refine (HM.out _ ((HP3.out.1.on (drewN_below _ 1)).on HB4.out)).mono ?_
            rintro e w5 ⟨rfl, hb5⟩
            exact ⟨rfl, Got.bad HV.out HAt.out (((HP3.out.1.on (drewN_below _ 1)).on HB4.out).on hb5) (((HP3.out.2.1.trans (FR.of (drewN_below _ 1))).trans (FR.of HB4.out)).trans (FR.of hb5))⟩
          exact AllReady.nil
        exact AllReady.nil
      exact AllReady.nil
    refine AllReady.cons rfl (fun K hK => ?_) ?_
    · go_simp
      refine hK _ _ ?_
      clear hK K
      refine wpAny_ready (rs := [0, 2]) (by kernel_rfl) (by simp) ?_
      refine AllReady.cons rfl (fun K hK => ?_) ?_
      · go_simp
        refine hK _ _ ?_
        clear hK K
        refine wpAny_ready (rs := [2]) (by kernel_rfl) (by simp) ?_
        refine AllReady.cons rfl (fun K hK => ?_) ?_
        · go_simp
          refine (HTn.out _ (HP3.out.1.on (drewN_below _ 1)) HS.out).mono ?_
          rintro e w4 ⟨rfl, hb4⟩
          have cp4 : w4.cell? ⟨w.heap.size, 0, none⟩ = some (.pointer (some ⟨pb, 0, none⟩)) := (hb4.cell (p := ⟨w.heap.size, 0, none⟩) HP3.out.2.2.1.lt).trans cp3
          have HB4 := Lib.hid hb4
          clear hb4
          refine hK _ _ ?_
          clear hK K
          refine wpAny_ready (rs := [3]) (by kernel_rfl) (by simp) ?_
          refine AllReady.cons rfl (fun K hK => ?_) ?_
          · go_simp
            refine (HM.out _ ((HP3.out.1.on (drewN_below _ 1)).on HB4.out)).mono ?_
            rintro e w5 ⟨rfl, hb5⟩
            exact ⟨rfl, Got.bad HV.out HAt.out (((HP3.out.1.on (drewN_below _ 1)).on HB4.out).on hb5) (((HP3.out.2.1.trans (FR.of (drewN_below _ 1))).trans (FR.of HB4.out)).trans (FR.of hb5))⟩
          exact AllReady.nil
        exact AllReady.nil
      refine AllReady.cons rfl (fun K hK => ?_) ?_
      · go_simp
        refine (HTn.out _ (HP3.out.1.on (drewN_below _ 1)) HS.out).mono ?_
        rintro e w4 ⟨rfl, hb4⟩
        have cp4 : w4.cell? ⟨w.heap.size, 0, none⟩ = some (.pointer (some ⟨pb, 0, none⟩)) := (hb4.cell (p := ⟨w.heap.size, 0, none⟩) HP3.out.2.2.1.lt).trans cp3
        have HB4 := Lib.hid hb4
        clear hb4
        refine hK _ _ ?_
        clear hK K
        refine wpAny_ready (rs := [0]) (by kernel_rfl) (by simp) ?_
        refine AllReady.cons rfl (fun K hK => ?_) ?_
        · go_simp
          refine hK _ _ ?_
          clear hK K
          refine wpAny_ready (rs := [3]) (by kernel_rfl) (by simp) ?_
          refine AllReady.cons rfl (fun K hK => ?_) ?_
          · go_simp
            refine (HM.out _ ((HP3.out.1.on (drewN_below _ 1)).on HB4.out)).mono ?_
            rintro e w5 ⟨rfl, hb5⟩
            exact ⟨rfl, Got.bad HV.out HAt.out (((HP3.out.1.on (drewN_below _ 1)).on HB4.out).on hb5) (((HP3.out.2.1.trans (FR.of (drewN_below _ 1))).trans (FR.of HB4.out)).trans (FR.of hb5))⟩
          exact AllReady.nil
        exact AllReady.nil
      exact AllReady.nil
    exact AllReady.nil
  · obtain ⟨most, hM⟩ : ∃ m, mostN x.s.data.toList = m := ⟨_, rfl⟩
    rw [hM] at Hmost
    have HPr := Lib.hid (fun W => preds_any x.s W)
    rw [hM] at HPr
    have hs1 : isSgn (gx ws ((Ps.mk i n).i + 1)) 40 = true := by rw [hgy]; exact hs40
    have hmm : mostN (gx ws (Ps.mk i n).i).s.data.toList = most := by rw [hgx]; exact hM
    have hss : (gx ws (Ps.mk i n).i).s = x.s := by rw [hgx]
    have HVb : Hid (∀ j c, sev (gx ws) 41 valA (pArgV (gx ws) k i most) ⟨i + 1 + 1, n⟩ = .bad j c → pPlain (gx ws) k ⟨i, n⟩ = .bad j c) := Lib.hid (fun j c h => pPlain_bad hs1 (by rw [hmm]; exact h))
    have HVf : Hid (∀ l s', sev (gx ws) 41 valA (pArgV (gx ws) k i most) ⟨i + 1 + 1, n⟩ = .ok l s' → (l.length : Int) < most → pPlain (gx ws) k ⟨i, n⟩ = .bad i 120) := Lib.hid (fun l s' h h2 => pPlain_few hs1 (by rw [hmm]; exact h) (by rw [hmm]; exact h2))
    have HVo : Hid (∀ l s', sev (gx ws) 41 valA (pArgV (gx ws) k i most) ⟨i + 1 + 1, n⟩ = .ok l s' → ¬ (l.length : Int) < most → pPlain (gx ws) k ⟨i, n⟩ = .ok (.mk x.s l []) s') := Lib.hid (fun l s' h h2 => by have := pPlain_ok hs1 (by rw [hmm]; exact h) (by rw [hmm]; exact h2); rw [hss] at this; exact this)
    have HF := Lib.hid (fun W => fail_any x 120 W)
    have HXt := Lib.hid (congrArg Wd.at_ (getD_of hx))
    have Hx := Lib.hid hx
    have HS := Lib.hid hs40
    have HG := Lib.hid hG
    clear hx hy hgx hgy hs40 hG hv hM hs1 hmm hss
    go_enter Tryz.func84, Tryz.ntmps84
    go_wp2_with fail
    refine HW.out.mono ?_
    rintro e w1 ⟨rfl, hb1⟩
    obtain ⟨w2, hw2⟩ : ∃ w2, (w1.alloc (.cells #[.int .i64 x.k, .string x.s, .int .i64 x.n, .float .f64 x.f, .int .i64 (x.at_ : Nat)] 56)) = w2 := ⟨_, rfl⟩
    have hb2 : Below w1.heap.size w1 w2 := by rw [← hw2]; exact (Below.refl _ _).alloc (Nat.le_refl _) _
    have hs2 : w2.heap.size = w1.heap.size + 1 := by rw [← hw2]; simp
    have hnm2 : Blk w2 w1.heap.size 56 #[.int .i64 x.k, .string x.s, .int .i64 x.n, .float .f64 x.f, .int .i64 (x.at_ : Nat)] := by rw [← hw2]; exact Blk.new _ _ _
    have hb02 := hb1.trans (hb2.mono hb1.size)
    have hs1 : w.heap.size + 2 ≤ w1.heap.size := by have := hb1.size; have := H0.out.2.1; omega
    have hp2 := (H.out.on H0.out.1).on hb02
    obtain ⟨-, c1, -, -, z1, -, -, -⟩ := hp2.cells
    obtain ⟨w3, hw3⟩ : ∃ w3, w2.setCell ⟨pb, 1, none⟩ (.int .i64 ((i : Int) + 1)) = w3 := ⟨_, rfl⟩
    have hp3 : PB w3 pb g cap ws (i + 1) d n := by rw [← hw3]; exact hp2.next hi1
    have hs3 : w3.heap.size = w1.heap.size + 1 := by rw [← hw3, ← hs2]; simp [World.setCell]
    have hpv2 := H0.out.2.2.1.below hb02 (by have := H0.out.2.1; omega)
    have hpv3 : Blk w3 w.heap.size 36 #[.pointer (some ⟨pb, 0, none⟩)] := by rw [← hw3]; exact hpv2.far (by show w.heap.size ≠ pb; omega) _
    have hrb3 : Blk w3 (w.heap.size + 1) 46 #[.string ⟨#[]⟩, .slice none 0 0, .slice none 0 0] := by rw [← hw3]; exact (H0.out.2.2.2.below hb02 (by have := H0.out.2.1; omega)).far (by show w.heap.size + 1 ≠ pb; omega) _
    have hnm3 : Blk w3 w1.heap.size 56 #[.int .i64 x.k, .string x.s, .int .i64 x.n, .float .f64 x.f, .int .i64 (x.at_ : Nat)] := by rw [← hw3]; exact hnm2.far (by show w1.heap.size ≠ pb; omega) _
    have cp2 : w2.cell? ⟨w.heap.size, 0, none⟩ = some (.pointer (some ⟨pb, 0, none⟩)) := hpv2.cell 0
    have cp3 : w3.cell? ⟨w.heap.size, 0, none⟩ = some (.pointer (some ⟨pb, 0, none⟩)) := hpv3.cell 0
    have hf3 : FR pb w w3 := by rw [← hw3]; exact fr_put (FR.of (H0.out.1.trans (hb02.mono H0.out.1.size))) 1 _
    have HP3 := Lib.hid (And.intro hp3 (And.intro hf3 (And.intro hpv3 (And.intro hrb3 (And.intro hnm3 hs3)))))
    clear hp2 hp3 hb1 hb2 hb02 hf3 hpv2 hpv3 hrb3 hnm3 hnm2 hs2 hs3
    go_wp2_with fail
    refine wp_region_any (by kernel_rfl) ?_
    try (change wpAny _ _ _ _ _ _ _ (World.drew _))
    refine wpAny_ready (rs := [0, 1]) (by kernel_rfl) (by simp) ?_
    refine AllReady.cons rfl (fun K hK => ?_) ?_
    · go_simp
      refine hK _ _ ?_
      clear hK K
      refine wpAny_ready (rs := [1]) (by kernel_rfl) (by simp) ?_
      refine AllReady.cons rfl (fun K hK => ?_) ?_
      · go_simp
        refine hK _ _ ?_
        clear hK K
        refine wpAny_ready (rs := [2]) (by kernel_rfl) (by simp) ?_
        refine AllReady.cons rfl (fun K hK => ?_) ?_
        · go_simp
          refine (HTy.out _ (HP3.out.1.on (drewN_below _ 1)) HS.out).mono ?_
          rintro e w4 ⟨rfl, hp4, ho4⟩
          have hf4 : FR pb w3 w4 := (FR.of (drewN_below _ 1)).trans ho4
          have cp4 : w4.cell? ⟨w.heap.size, 0, none⟩ = some (.pointer (some ⟨pb, 0, none⟩)) := (World.cell?_of_block (hf4.block _ HP3.out.2.2.1.lt (by show ¬ w.heap.size = pb; omega))).trans cp3
          have HP4 := Lib.hid (And.intro hp4 hf4)
          clear hp4 ho4 hf4
          refine hK _ _ ?_
          clear hK K
          refine wpAny_ready (rs := [3]) (by kernel_rfl) (by simp) ?_
          refine AllReady.cons rfl (fun K hK => ?_) ?_
          · go_simp
            refine (must_yes _).mono ?_
            rintro e w' ⟨rfl, rfl⟩
            refine hK _ _ ?_
            clear hK K
            refine wpAny_done (by kernel_rfl) ?_ _
            have hp4 := HP4.out.1
            have hf4 := HP4.out.2
            have hs4 := hf4.size
            have hs3 := HP3.out.2.2.2.2.2
            have hnmpb : w1.heap.size ≠ pb := by omega
            have hpv4 : Blk w4 w.heap.size 36 #[.pointer (some ⟨pb, 0, none⟩)] := (hf4.block _ (by omega) (by omega)).trans HP3.out.2.2.1
            have hrb4 : Blk w4 (w.heap.size + 1) 46 #[.string ⟨#[]⟩, .slice none 0 0, .slice none 0 0] := (hf4.block _ (by omega) (by omega)).trans HP3.out.2.2.2.1
            have hnm4 : Blk w4 w1.heap.size 56 #[.int .i64 x.k, .string x.s, .int .i64 x.n, .float .f64 x.f, .int .i64 (x.at_ : Nat)] := (hf4.block _ (by omega) (by omega)).trans HP3.out.2.2.2.2.1
            have x1 : w4.cell? ⟨w1.heap.size, 1, none⟩ = some (.string x.s) := hnm4.cell 1
            obtain ⟨w5, hw5⟩ : ∃ w5, w4.alloc (.cells #[.int .i64 most] 3) = w5 := ⟨_, rfl⟩
            obtain ⟨w6, hw6⟩ : ∃ w6, w5.alloc (.cells #[.int .i64 0] 3) = w6 := ⟨_, rfl⟩
            have hb5 : Below w4.heap.size w4 w5 := by rw [← hw5]; exact (Below.refl _ _).alloc (Nat.le_refl _) _
            have hs5 : w5.heap.size = w4.heap.size + 1 := by rw [← hw5]; simp
            have hb6 : Below w5.heap.size w5 w6 := by rw [← hw6]; exact (Below.refl _ _).alloc (Nat.le_refl _) _
            have hs6 : w6.heap.size = w4.heap.size + 2 := by rw [← hw6]; simp; omega
            have hb46 := hb5.trans (hb6.mono hb5.size)
            have hmb6 : Blk w6 w4.heap.size 3 #[.int .i64 most] := Blk.below (by rw [← hw5]; exact Blk.new _ _ _) hb6 (by omega)
            have hnb6 : Blk w6 w5.heap.size 3 #[.int .i64 0] := by rw [← hw6]; exact Blk.new _ _ _
            have hp6 := hp4.on hb46
            have hJ6 : PVars pb w.heap.size w5.heap.size w4.heap.size w1.heap.size most x 0 w6 := ⟨hpv4.below hb46 (by omega), hnb6, hmb6, hnm4.below hb46 (by omega)⟩
            have hrb6 := hrb4.below hb46 (by omega)
            have cp6 : w6.cell? ⟨w.heap.size, 0, none⟩ = some (.pointer (some ⟨pb, 0, none⟩)) := hJ6.p.cell 0
            have HSev := Lib.hid (sevV_any HG.out (fun b => b = pb ∨ b = w5.heap.size) (.inl rfl) (PVars pb w.heap.size w5.heap.size w4.heap.size w1.heap.size most x)
              (fun c v1 v2 hj ho => hj.only ho (fun b hb => by rcases hb with rfl | rfl | rfl | rfl <;> omega)) 41 99 #[] #[.pointer (some ⟨w.heap.size, 0, none⟩), .pointer (some ⟨w5.heap.size, 0, none⟩), .pointer (some ⟨w4.heap.size, 0, none⟩), .pointer (some ⟨w1.heap.size, 0, none⟩)] (pArgV (gx ws) k i most) (enters_of rfl (by decide) rfl _)
              (fun c v1 i1 n1 x1 hc hj hp hx1 hv1 => one_any HG.out k hc Hx.out (by omega) (by omega) (by omega) hnmpb (by omega) (by omega) (by omega) (by omega) Hmost.out hp hj hx1 hv1 hd)
              (fun b hb => by rcases hb with rfl | rfl <;> omega) hp6 hJ6)
            have hf6 : FR pb w w6 := (HP3.out.2.1.trans hf4).trans (FR.of hb46)
            have H6 := Lib.hid (And.intro hp6 (And.intro hf6 hrb6))
            have HS6 : Hid (w6.heap.size = w4.heap.size + 2 ∧ w5.heap.size = w4.heap.size + 1 ∧ w1.heap.size + 1 ≤ w4.heap.size) := Lib.hid ⟨hs6, hs5, by omega⟩
            clear hp4 hf4 hs4 hs3 hpv4 hrb4 hnm4 hb5 hs5 hb6 hs6 hb46 hmb6 hnb6 hp6 hJ6 hrb6 hf6 HP4 HP3
            subst hw6
            go_wp2_with fail
            refine (HPr.out _).mono ?_
            rintro e w' ⟨rfl, rfl⟩
            go_wp2_with fail
            refine HSev.out.mono ?_
            rintro e w7 ⟨hg, hJ7⟩
            cases hr : sev (gx ws) 41 valA (pArgV (gx ws) k i most) ⟨i + 2, n⟩ with
            | bad j c =>
              rw [show (⟨i + 2, n⟩ : Ps) = ⟨i + 1 + 1, n⟩ from rfl] at hr
              rw [hr] at hg
              obtain ⟨rfl, ⟨i', n', hp7⟩, ho7⟩ := hg
              have hh := HS6.out
              exact ⟨rfl, Got.bad (HVb.out _ _ hr) rfl hp7 (H6.out.2.1.cut ho7 (fun b hb h => by rcases h with rfl | rfl; exact rfl; omega))⟩
            | ok l s' =>
              rw [show (⟨i + 2, n⟩ : Ps) = ⟨i + 1 + 1, n⟩ from rfl] at hr
              have hJ := hJ7 _ _ hr
              rw [hr] at hg
              obtain ⟨v7, rfl, hv7, hp7, ho7⟩ := hg
              have HR := Lib.hid hr
              obtain ⟨lA, lc, rfl⟩ := hv7.shape
              have hh := HS6.out
              have hrb7 : Blk w7 (w.heap.size + 1) 46 #[.string ⟨#[]⟩, .slice none 0 0, .slice none 0 0] := (ho7.block _ (by omega) (by omega)).trans H6.out.2.2
              have cn : w7.cell? ⟨w5.heap.size, 0, none⟩ = some (.int .i64 (l.length : Nat)) := hJ.n.cell 0
              have cm : w7.cell? ⟨w4.heap.size, 0, none⟩ = some (.int .i64 most) := hJ.m.cell 0
              have y0 : w7.cell? ⟨w1.heap.size, 0, none⟩ = some (.int .i64 x.k) := hJ.x.cell 0
              have y1 : w7.cell? ⟨w1.heap.size, 1, none⟩ = some (.string x.s) := hJ.x.cell 1
              have y2 : w7.cell? ⟨w1.heap.size, 2, none⟩ = some (.int .i64 x.n) := hJ.x.cell 2
              have y3 : w7.cell? ⟨w1.heap.size, 3, none⟩ = some (.float .f64 x.f) := hJ.x.cell 3
              have y4 : w7.cell? ⟨w1.heap.size, 4, none⟩ = some (.int .i64 (x.at_ : Nat)) := hJ.x.cell 4
              have hfr : FR pb w w7 := H6.out.2.1.cut ho7 (fun b hb h => by rcases h with rfl | rfl; exact rfl; omega)
              have d0 : w7.cell? ⟨w.heap.size + 1, 0, none⟩ = some (.string ⟨#[]⟩) := hrb7.cell 0
              have d1 : w7.cell? ⟨w.heap.size + 1, 1, none⟩ = some (.slice none 0 0) := hrb7.cell 1
              have d2 : w7.cell? ⟨w.heap.size + 1, 2, none⟩ = some (.slice none 0 0) := hrb7.cell 2
              have z0 : w7.frozen? ⟨w.heap.size + 1, 0, none⟩ = false := hrb7.frozen 0
              have z1 : w7.frozen? ⟨w.heap.size + 1, 1, none⟩ = false := hrb7.frozen 1
              have z2 : w7.frozen? ⟨w.heap.size + 1, 2, none⟩ = false := hrb7.frozen 2
              have hll := sev_len hr
              have hs7 := ho7.size
              have H7 := Lib.hid (And.intro hp7 (And.intro hfr (And.intro hrb7 (And.intro hv7 hs7))))
              clear hr hJ7 hJ hp7 ho7 hfr hrb7 hv7 hs7
              by_cases hfew : (l.length : Int) < most
              · have e1 : decide ((l.length : Int) < most) = true := by rw [decide_eq_true_eq]; exact hfew
                have HV := Lib.hid (HVf.out _ _ HR.out hfew)
                clear hfew hh
                go_wp2_with fail
                refine (HF.out _).mono ?_
                rintro e w8 ⟨rfl, hb8⟩
                exact ⟨rfl, Got.bad HV.out HXt.out (H7.out.1.on hb8) (H7.out.2.1.trans (FR.of hb8))⟩
              · have e1 : decide ((l.length : Int) < most) = false := by rw [decide_eq_false_iff_not]; exact hfew
                have HV := Lib.hid (HVo.out _ _ HR.out (by omega))
                clear hfew hh
                go_wp2_with fail
                have hh := HS6.out
                have hfl : Below w.heap.size w7 (((w7.setCell ⟨w.heap.size + 1, 0, none⟩ (.string x.s)).setCell ⟨w.heap.size + 1, 1, none⟩ (.slice lA l.length lc)).setCell ⟨w.heap.size + 1, 2, none⟩ (.slice none 0 0)) := (((Below.refl _ _).setCell (by simp) _).setCell (by simp) _).setCell (by simp) _
                have hsz : (((w7.setCell ⟨w.heap.size + 1, 0, none⟩ (.string x.s)).setCell ⟨w.heap.size + 1, 1, none⟩ (.slice lA l.length lc)).setCell ⟨w.heap.size + 1, 2, none⟩ (.slice none 0 0)).heap.size = w7.heap.size := by simp [World.setCell]
                have hfb : Blk (((w7.setCell ⟨w.heap.size + 1, 0, none⟩ (.string x.s)).setCell ⟨w.heap.size + 1, 1, none⟩ (.slice lA l.length lc)).setCell ⟨w.heap.size + 1, 2, none⟩ (.slice none 0 0)) (w.heap.size + 1) 46 #[.string x.s, .slice lA l.length lc, .slice none 0 0] := ((H7.out.2.2.1.set_ 0 _).set_ 1 _).set_ 2 _
                have f0 : (w7.setCell ⟨w.heap.size + 1, 0, none⟩ (.string x.s)).cell? ⟨w.heap.size + 1, 0, none⟩ = some (.string x.s) := (H7.out.2.2.1.set_ 0 _).cell 0
                have f1 : ((w7.setCell ⟨w.heap.size + 1, 0, none⟩ (.string x.s)).setCell ⟨w.heap.size + 1, 1, none⟩ (.slice lA l.length lc)).cell? ⟨w.heap.size + 1, 1, none⟩ = some (.slice lA l.length lc) := ((H7.out.2.2.1.set_ 0 _).set_ 1 _).cell 1
                have f2 : (((w7.setCell ⟨w.heap.size + 1, 0, none⟩ (.string x.s)).setCell ⟨w.heap.size + 1, 1, none⟩ (.slice lA l.length lc)).setCell ⟨w.heap.size + 1, 2, none⟩ (.slice none 0 0)).cell? ⟨w.heap.size + 1, 2, none⟩ = some (.slice none 0 0) := hfb.cell 2
                refine bodyPost_ret (v := .agg #[.string x.s, .slice lA l.length lc, .slice none 0 0]) (by simp [results, Tryz.results84, go_sem, f0, f1, f2]) rfl
                  (Got.ok_ HV.out ⟨0, _, rfl, H7.out.2.2.2.1.keep keepS_T (fun q hq => World.cell?_of_block ?_) (fun b hb => ⟨by have := hb.1; have := H6.out.2.1.size; omega, by rw [hsz]; exact hb.2⟩), rfl⟩ (H7.out.1.under hfl hpl hgl) (H7.out.2.1.far hfl (Nat.le_refl _)))
                have hq1 : w.heap.size + 1 ≠ q.block := by have := hq.1; omega
                exact ((Below.heap_setCell _ ⟨w.heap.size + 1, 2, none⟩ _ q.block (fun e => hq1 e.symm)).trans (Below.heap_setCell _ ⟨w.heap.size + 1, 1, none⟩ _ q.block (fun e => hq1 e.symm))).trans (Below.heap_setCell _ ⟨w.heap.size + 1, 0, none⟩ _ q.block (fun e => hq1 e.symm))
          exact AllReady.nil
        exact AllReady.nil
      exact AllReady.nil
    refine AllReady.cons rfl (fun K hK => ?_) ?_
    · go_simp
      refine hK _ _ ?_
      clear hK K
      refine wpAny_ready (rs := [0, 2]) (by kernel_rfl) (by simp) ?_
      refine AllReady.cons rfl (fun K hK => ?_) ?_
      · go_simp
        refine hK _ _ ?_
        clear hK K
        refine wpAny_ready (rs := [2]) (by kernel_rfl) (by simp) ?_
        refine AllReady.cons rfl (fun K hK => ?_) ?_
        · go_simp
          refine (HTy.out _ (HP3.out.1.on (drewN_below _ 1)) HS.out).mono ?_
          rintro e w4 ⟨rfl, hp4, ho4⟩
          have hf4 : FR pb w3 w4 := (FR.of (drewN_below _ 1)).trans ho4
          have cp4 : w4.cell? ⟨w.heap.size, 0, none⟩ = some (.pointer (some ⟨pb, 0, none⟩)) := (World.cell?_of_block (hf4.block _ HP3.out.2.2.1.lt (by show ¬ w.heap.size = pb; omega))).trans cp3
          have HP4 := Lib.hid (And.intro hp4 hf4)
          clear hp4 ho4 hf4
          refine hK _ _ ?_
          clear hK K
          refine wpAny_ready (rs := [3]) (by kernel_rfl) (by simp) ?_
          refine AllReady.cons rfl (fun K hK => ?_) ?_
          · go_simp
            refine (must_yes _).mono ?_
            rintro e w' ⟨rfl, rfl⟩
            refine hK _ _ ?_
            clear hK K
            refine wpAny_done (by kernel_rfl) ?_ _
            have hp4 := HP4.out.1
            have hf4 := HP4.out.2
            have hs4 := hf4.size
            have hs3 := HP3.out.2.2.2.2.2
            have hnmpb : w1.heap.size ≠ pb := by omega
            have hpv4 : Blk w4 w.heap.size 36 #[.pointer (some ⟨pb, 0, none⟩)] := (hf4.block _ (by omega) (by omega)).trans HP3.out.2.2.1
            have hrb4 : Blk w4 (w.heap.size + 1) 46 #[.string ⟨#[]⟩, .slice none 0 0, .slice none 0 0] := (hf4.block _ (by omega) (by omega)).trans HP3.out.2.2.2.1
            have hnm4 : Blk w4 w1.heap.size 56 #[.int .i64 x.k, .string x.s, .int .i64 x.n, .float .f64 x.f, .int .i64 (x.at_ : Nat)] := (hf4.block _ (by omega) (by omega)).trans HP3.out.2.2.2.2.1
            have x1 : w4.cell? ⟨w1.heap.size, 1, none⟩ = some (.string x.s) := hnm4.cell 1
            obtain ⟨w5, hw5⟩ : ∃ w5, w4.alloc (.cells #[.int .i64 most] 3) = w5 := ⟨_, rfl⟩
            obtain ⟨w6, hw6⟩ : ∃ w6, w5.alloc (.cells #[.int .i64 0] 3) = w6 := ⟨_, rfl⟩
            have hb5 : Below w4.heap.size w4 w5 := by rw [← hw5]; exact (Below.refl _ _).alloc (Nat.le_refl _) _
            have hs5 : w5.heap.size = w4.heap.size + 1 := by rw [← hw5]; simp
            have hb6 : Below w5.heap.size w5 w6 := by rw [← hw6]; exact (Below.refl _ _).alloc (Nat.le_refl _) _
            have hs6 : w6.heap.size = w4.heap.size + 2 := by rw [← hw6]; simp; omega
            have hb46 := hb5.trans (hb6.mono hb5.size)
            have hmb6 : Blk w6 w4.heap.size 3 #[.int .i64 most] := Blk.below (by rw [← hw5]; exact Blk.new _ _ _) hb6 (by omega)
            have hnb6 : Blk w6 w5.heap.size 3 #[.int .i64 0] := by rw [← hw6]; exact Blk.new _ _ _
            have hp6 := hp4.on hb46
            have hJ6 : PVars pb w.heap.size w5.heap.size w4.heap.size w1.heap.size most x 0 w6 := ⟨hpv4.below hb46 (by omega), hnb6, hmb6, hnm4.below hb46 (by omega)⟩
            have hrb6 := hrb4.below hb46 (by omega)
            have cp6 : w6.cell? ⟨w.heap.size, 0, none⟩ = some (.pointer (some ⟨pb, 0, none⟩)) := hJ6.p.cell 0
            have HSev := Lib.hid (sevV_any HG.out (fun b => b = pb ∨ b = w5.heap.size) (.inl rfl) (PVars pb w.heap.size w5.heap.size w4.heap.size w1.heap.size most x)
              (fun c v1 v2 hj ho => hj.only ho (fun b hb => by rcases hb with rfl | rfl | rfl | rfl <;> omega)) 41 99 #[] #[.pointer (some ⟨w.heap.size, 0, none⟩), .pointer (some ⟨w5.heap.size, 0, none⟩), .pointer (some ⟨w4.heap.size, 0, none⟩), .pointer (some ⟨w1.heap.size, 0, none⟩)] (pArgV (gx ws) k i most) (enters_of rfl (by decide) rfl _)
              (fun c v1 i1 n1 x1 hc hj hp hx1 hv1 => one_any HG.out k hc Hx.out (by omega) (by omega) (by omega) hnmpb (by omega) (by omega) (by omega) (by omega) Hmost.out hp hj hx1 hv1 hd)
              (fun b hb => by rcases hb with rfl | rfl <;> omega) hp6 hJ6)
            have hf6 : FR pb w w6 := (HP3.out.2.1.trans hf4).trans (FR.of hb46)
            have H6 := Lib.hid (And.intro hp6 (And.intro hf6 hrb6))
            have HS6 : Hid (w6.heap.size = w4.heap.size + 2 ∧ w5.heap.size = w4.heap.size + 1 ∧ w1.heap.size + 1 ≤ w4.heap.size) := Lib.hid ⟨hs6, hs5, by omega⟩
            clear hp4 hf4 hs4 hs3 hpv4 hrb4 hnm4 hb5 hs5 hb6 hs6 hb46 hmb6 hnb6 hp6 hJ6 hrb6 hf6 HP4 HP3
            subst hw6
            go_wp2_with fail
            refine (HPr.out _).mono ?_
            rintro e w' ⟨rfl, rfl⟩
            go_wp2_with fail
            refine HSev.out.mono ?_
            rintro e w7 ⟨hg, hJ7⟩
            cases hr : sev (gx ws) 41 valA (pArgV (gx ws) k i most) ⟨i + 2, n⟩ with
            | bad j c =>
              rw [show (⟨i + 2, n⟩ : Ps) = ⟨i + 1 + 1, n⟩ from rfl] at hr
              rw [hr] at hg
              obtain ⟨rfl, ⟨i', n', hp7⟩, ho7⟩ := hg
              have hh := HS6.out
              exact ⟨rfl, Got.bad (HVb.out _ _ hr) rfl hp7 (H6.out.2.1.cut ho7 (fun b hb h => by rcases h with rfl | rfl; exact rfl; omega))⟩
            | ok l s' =>
              rw [show (⟨i + 2, n⟩ : Ps) = ⟨i + 1 + 1, n⟩ from rfl] at hr
              have hJ := hJ7 _ _ hr
              rw [hr] at hg
              obtain ⟨v7, rfl, hv7, hp7, ho7⟩ := hg
              have HR := Lib.hid hr
              obtain ⟨lA, lc, rfl⟩ := hv7.shape
              have hh := HS6.out
              have hrb7 : Blk w7 (w.heap.size + 1) 46 #[.string ⟨#[]⟩, .slice none 0 0, .slice none 0 0] := (ho7.block _ (by omega) (by omega)).trans H6.out.2.2
              have cn : w7.cell? ⟨w5.heap.size, 0, none⟩ = some (.int .i64 (l.length : Nat)) := hJ.n.cell 0
              have cm : w7.cell? ⟨w4.heap.size, 0, none⟩ = some (.int .i64 most) := hJ.m.cell 0
              have y0 : w7.cell? ⟨w1.heap.size, 0, none⟩ = some (.int .i64 x.k) := hJ.x.cell 0
              have y1 : w7.cell? ⟨w1.heap.size, 1, none⟩ = some (.string x.s) := hJ.x.cell 1
              have y2 : w7.cell? ⟨w1.heap.size, 2, none⟩ = some (.int .i64 x.n) := hJ.x.cell 2
              have y3 : w7.cell? ⟨w1.heap.size, 3, none⟩ = some (.float .f64 x.f) := hJ.x.cell 3
              have y4 : w7.cell? ⟨w1.heap.size, 4, none⟩ = some (.int .i64 (x.at_ : Nat)) := hJ.x.cell 4
              have hfr : FR pb w w7 := H6.out.2.1.cut ho7 (fun b hb h => by rcases h with rfl | rfl; exact rfl; omega)
              have d0 : w7.cell? ⟨w.heap.size + 1, 0, none⟩ = some (.string ⟨#[]⟩) := hrb7.cell 0
              have d1 : w7.cell? ⟨w.heap.size + 1, 1, none⟩ = some (.slice none 0 0) := hrb7.cell 1
              have d2 : w7.cell? ⟨w.heap.size + 1, 2, none⟩ = some (.slice none 0 0) := hrb7.cell 2
              have z0 : w7.frozen? ⟨w.heap.size + 1, 0, none⟩ = false := hrb7.frozen 0
              have z1 : w7.frozen? ⟨w.heap.size + 1, 1, none⟩ = false := hrb7.frozen 1
              have z2 : w7.frozen? ⟨w.heap.size + 1, 2, none⟩ = false := hrb7.frozen 2
              have hll := sev_len hr
              have hs7 := ho7.size
              have H7 := Lib.hid (And.intro hp7 (And.intro hfr (And.intro hrb7 (And.intro hv7 hs7))))
              clear hr hJ7 hJ hp7 ho7 hfr hrb7 hv7 hs7
              by_cases hfew : (l.length : Int) < most
              · have e1 : decide ((l.length : Int) < most) = true := by rw [decide_eq_true_eq]; exact hfew
                have HV := Lib.hid (HVf.out _ _ HR.out hfew)
                clear hfew hh
                go_wp2_with fail
                refine (HF.out _).mono ?_
                rintro e w8 ⟨rfl, hb8⟩
                exact ⟨rfl, Got.bad HV.out HXt.out (H7.out.1.on hb8) (H7.out.2.1.trans (FR.of hb8))⟩
              · have e1 : decide ((l.length : Int) < most) = false := by rw [decide_eq_false_iff_not]; exact hfew
                have HV := Lib.hid (HVo.out _ _ HR.out (by omega))
                clear hfew hh
                go_wp2_with fail
                have hh := HS6.out
                have hfl : Below w.heap.size w7 (((w7.setCell ⟨w.heap.size + 1, 0, none⟩ (.string x.s)).setCell ⟨w.heap.size + 1, 1, none⟩ (.slice lA l.length lc)).setCell ⟨w.heap.size + 1, 2, none⟩ (.slice none 0 0)) := (((Below.refl _ _).setCell (by simp) _).setCell (by simp) _).setCell (by simp) _
                have hsz : (((w7.setCell ⟨w.heap.size + 1, 0, none⟩ (.string x.s)).setCell ⟨w.heap.size + 1, 1, none⟩ (.slice lA l.length lc)).setCell ⟨w.heap.size + 1, 2, none⟩ (.slice none 0 0)).heap.size = w7.heap.size := by simp [World.setCell]
                have hfb : Blk (((w7.setCell ⟨w.heap.size + 1, 0, none⟩ (.string x.s)).setCell ⟨w.heap.size + 1, 1, none⟩ (.slice lA l.length lc)).setCell ⟨w.heap.size + 1, 2, none⟩ (.slice none 0 0)) (w.heap.size + 1) 46 #[.string x.s, .slice lA l.length lc, .slice none 0 0] := ((H7.out.2.2.1.set_ 0 _).set_ 1 _).set_ 2 _
                have f0 : (w7.setCell ⟨w.heap.size + 1, 0, none⟩ (.string x.s)).cell? ⟨w.heap.size + 1, 0, none⟩ = some (.string x.s) := (H7.out.2.2.1.set_ 0 _).cell 0
                have f1 : ((w7.setCell ⟨w.heap.size + 1, 0, none⟩ (.string x.s)).setCell ⟨w.heap.size + 1, 1, none⟩ (.slice lA l.length lc)).cell? ⟨w.heap.size + 1, 1, none⟩ = some (.slice lA l.length lc) := ((H7.out.2.2.1.set_ 0 _).set_ 1 _).cell 1
                have f2 : (((w7.setCell ⟨w.heap.size + 1, 0, none⟩ (.string x.s)).setCell ⟨w.heap.size + 1, 1, none⟩ (.slice lA l.length lc)).setCell ⟨w.heap.size + 1, 2, none⟩ (.slice none 0 0)).cell? ⟨w.heap.size + 1, 2, none⟩ = some (.slice none 0 0) := hfb.cell 2
                refine bodyPost_ret (v := .agg #[.string x.s, .slice lA l.length lc, .slice none 0 0]) (by simp [results, Tryz.results84, go_sem, f0, f1, f2]) rfl
                  (Got.ok_ HV.out ⟨0, _, rfl, H7.out.2.2.2.1.keep keepS_T (fun q hq => World.cell?_of_block ?_) (fun b hb => ⟨by have := hb.1; have := H6.out.2.1.size; omega, by rw [hsz]; exact hb.2⟩), rfl⟩ (H7.out.1.under hfl hpl hgl) (H7.out.2.1.far hfl (Nat.le_refl _)))
                have hq1 : w.heap.size + 1 ≠ q.block := by have := hq.1; omega
                exact ((Below.heap_setCell _ ⟨w.heap.size + 1, 2, none⟩ _ q.block (fun e => hq1 e.symm)).trans (Below.heap_setCell _ ⟨w.heap.size + 1, 1, none⟩ _ q.block (fun e => hq1 e.symm))).trans (Below.heap_setCell _ ⟨w.heap.size + 1, 0, none⟩ _ q.block (fun e => hq1 e.symm))
          exact AllReady.nil
        exact AllReady.nil
      refine AllReady.cons rfl (fun K hK => ?_) ?_
      · go_simp
        refine (HTy.out _ (HP3.out.1.on (drewN_below _ 1)) HS.out).mono ?_
        rintro e w4 ⟨rfl, hp4, ho4⟩
        have hf4 : FR pb w3 w4 := (FR.of (drewN_below _ 1)).trans ho4
        have cp4 : w4.cell? ⟨w.heap.size, 0, none⟩ = some (.pointer (some ⟨pb, 0, none⟩)) := (World.cell?_of_block (hf4.block _ HP3.out.2.2.1.lt (by show ¬ w.heap.size = pb; omega))).trans cp3
        have HP4 := Lib.hid (And.intro hp4 hf4)
        clear hp4 ho4 hf4
        refine hK _ _ ?_
        clear hK K
        refine wpAny_ready (rs := [0]) (by kernel_rfl) (by simp) ?_
        refine AllReady.cons rfl (fun K hK => ?_) ?_
        · go_simp
          refine hK _ _ ?_
          clear hK K
          refine wpAny_ready (rs := [3]) (by kernel_rfl) (by simp) ?_
          refine AllReady.cons rfl (fun K hK => ?_) ?_
          · go_simp
            refine (must_yes _).mono ?_
            rintro e w' ⟨rfl, rfl⟩
            refine hK _ _ ?_
            clear hK K
            refine wpAny_done (by kernel_rfl) ?_ _
            have hp4 := HP4.out.1
            have hf4 := HP4.out.2
            have hs4 := hf4.size
            have hs3 := HP3.out.2.2.2.2.2
            have hnmpb : w1.heap.size ≠ pb := by omega
            have hpv4 : Blk w4 w.heap.size 36 #[.pointer (some ⟨pb, 0, none⟩)] := (hf4.block _ (by omega) (by omega)).trans HP3.out.2.2.1
            have hrb4 : Blk w4 (w.heap.size + 1) 46 #[.string ⟨#[]⟩, .slice none 0 0, .slice none 0 0] := (hf4.block _ (by omega) (by omega)).trans HP3.out.2.2.2.1
            have hnm4 : Blk w4 w1.heap.size 56 #[.int .i64 x.k, .string x.s, .int .i64 x.n, .float .f64 x.f, .int .i64 (x.at_ : Nat)] := (hf4.block _ (by omega) (by omega)).trans HP3.out.2.2.2.2.1
            have x1 : w4.cell? ⟨w1.heap.size, 1, none⟩ = some (.string x.s) := hnm4.cell 1
            obtain ⟨w5, hw5⟩ : ∃ w5, w4.alloc (.cells #[.int .i64 most] 3) = w5 := ⟨_, rfl⟩
            obtain ⟨w6, hw6⟩ : ∃ w6, w5.alloc (.cells #[.int .i64 0] 3) = w6 := ⟨_, rfl⟩
            have hb5 : Below w4.heap.size w4 w5 := by rw [← hw5]; exact (Below.refl _ _).alloc (Nat.le_refl _) _
            have hs5 : w5.heap.size = w4.heap.size + 1 := by rw [← hw5]; simp
            have hb6 : Below w5.heap.size w5 w6 := by rw [← hw6]; exact (Below.refl _ _).alloc (Nat.le_refl _) _
            have hs6 : w6.heap.size = w4.heap.size + 2 := by rw [← hw6]; simp; omega
            have hb46 := hb5.trans (hb6.mono hb5.size)
            have hmb6 : Blk w6 w4.heap.size 3 #[.int .i64 most] := Blk.below (by rw [← hw5]; exact Blk.new _ _ _) hb6 (by omega)
            have hnb6 : Blk w6 w5.heap.size 3 #[.int .i64 0] := by rw [← hw6]; exact Blk.new _ _ _
            have hp6 := hp4.on hb46
            have hJ6 : PVars pb w.heap.size w5.heap.size w4.heap.size w1.heap.size most x 0 w6 := ⟨hpv4.below hb46 (by omega), hnb6, hmb6, hnm4.below hb46 (by omega)⟩
            have hrb6 := hrb4.below hb46 (by omega)
            have cp6 : w6.cell? ⟨w.heap.size, 0, none⟩ = some (.pointer (some ⟨pb, 0, none⟩)) := hJ6.p.cell 0
            have HSev := Lib.hid (sevV_any HG.out (fun b => b = pb ∨ b = w5.heap.size) (.inl rfl) (PVars pb w.heap.size w5.heap.size w4.heap.size w1.heap.size most x)
              (fun c v1 v2 hj ho => hj.only ho (fun b hb => by rcases hb with rfl | rfl | rfl | rfl <;> omega)) 41 99 #[] #[.pointer (some ⟨w.heap.size, 0, none⟩), .pointer (some ⟨w5.heap.size, 0, none⟩), .pointer (some ⟨w4.heap.size, 0, none⟩), .pointer (some ⟨w1.heap.size, 0, none⟩)] (pArgV (gx ws) k i most) (enters_of rfl (by decide) rfl _)
              (fun c v1 i1 n1 x1 hc hj hp hx1 hv1 => one_any HG.out k hc Hx.out (by omega) (by omega) (by omega) hnmpb (by omega) (by omega) (by omega) (by omega) Hmost.out hp hj hx1 hv1 hd)
              (fun b hb => by rcases hb with rfl | rfl <;> omega) hp6 hJ6)
            have hf6 : FR pb w w6 := (HP3.out.2.1.trans hf4).trans (FR.of hb46)
            have H6 := Lib.hid (And.intro hp6 (And.intro hf6 hrb6))
            have HS6 : Hid (w6.heap.size = w4.heap.size + 2 ∧ w5.heap.size = w4.heap.size + 1 ∧ w1.heap.size + 1 ≤ w4.heap.size) := Lib.hid ⟨hs6, hs5, by omega⟩
            clear hp4 hf4 hs4 hs3 hpv4 hrb4 hnm4 hb5 hs5 hb6 hs6 hb46 hmb6 hnb6 hp6 hJ6 hrb6 hf6 HP4 HP3
            subst hw6
            go_wp2_with fail
            refine (HPr.out _).mono ?_
            rintro e w' ⟨rfl, rfl⟩
            go_wp2_with fail
            refine HSev.out.mono ?_
            rintro e w7 ⟨hg, hJ7⟩
            cases hr : sev (gx ws) 41 valA (pArgV (gx ws) k i most) ⟨i + 2, n⟩ with
            | bad j c =>
              rw [show (⟨i + 2, n⟩ : Ps) = ⟨i + 1 + 1, n⟩ from rfl] at hr
              rw [hr] at hg
              obtain ⟨rfl, ⟨i', n', hp7⟩, ho7⟩ := hg
              have hh := HS6.out
              exact ⟨rfl, Got.bad (HVb.out _ _ hr) rfl hp7 (H6.out.2.1.cut ho7 (fun b hb h => by rcases h with rfl | rfl; exact rfl; omega))⟩
            | ok l s' =>
              rw [show (⟨i + 2, n⟩ : Ps) = ⟨i + 1 + 1, n⟩ from rfl] at hr
              have hJ := hJ7 _ _ hr
              rw [hr] at hg
              obtain ⟨v7, rfl, hv7, hp7, ho7⟩ := hg
              have HR := Lib.hid hr
              obtain ⟨lA, lc, rfl⟩ := hv7.shape
              have hh := HS6.out
              have hrb7 : Blk w7 (w.heap.size + 1) 46 #[.string ⟨#[]⟩, .slice none 0 0, .slice none 0 0] := (ho7.block _ (by omega) (by omega)).trans H6.out.2.2
              have cn : w7.cell? ⟨w5.heap.size, 0, none⟩ = some (.int .i64 (l.length : Nat)) := hJ.n.cell 0
              have cm : w7.cell? ⟨w4.heap.size, 0, none⟩ = some (.int .i64 most) := hJ.m.cell 0
              have y0 : w7.cell? ⟨w1.heap.size, 0, none⟩ = some (.int .i64 x.k) := hJ.x.cell 0
              have y1 : w7.cell? ⟨w1.heap.size, 1, none⟩ = some (.string x.s) := hJ.x.cell 1
              have y2 : w7.cell? ⟨w1.heap.size, 2, none⟩ = some (.int .i64 x.n) := hJ.x.cell 2
              have y3 : w7.cell? ⟨w1.heap.size, 3, none⟩ = some (.float .f64 x.f) := hJ.x.cell 3
              have y4 : w7.cell? ⟨w1.heap.size, 4, none⟩ = some (.int .i64 (x.at_ : Nat)) := hJ.x.cell 4
              have hfr : FR pb w w7 := H6.out.2.1.cut ho7 (fun b hb h => by rcases h with rfl | rfl; exact rfl; omega)
              have d0 : w7.cell? ⟨w.heap.size + 1, 0, none⟩ = some (.string ⟨#[]⟩) := hrb7.cell 0
              have d1 : w7.cell? ⟨w.heap.size + 1, 1, none⟩ = some (.slice none 0 0) := hrb7.cell 1
              have d2 : w7.cell? ⟨w.heap.size + 1, 2, none⟩ = some (.slice none 0 0) := hrb7.cell 2
              have z0 : w7.frozen? ⟨w.heap.size + 1, 0, none⟩ = false := hrb7.frozen 0
              have z1 : w7.frozen? ⟨w.heap.size + 1, 1, none⟩ = false := hrb7.frozen 1
              have z2 : w7.frozen? ⟨w.heap.size + 1, 2, none⟩ = false := hrb7.frozen 2
              have hll := sev_len hr
              have hs7 := ho7.size
              have H7 := Lib.hid (And.intro hp7 (And.intro hfr (And.intro hrb7 (And.intro hv7 hs7))))
              clear hr hJ7 hJ hp7 ho7 hfr hrb7 hv7 hs7
              by_cases hfew : (l.length : Int) < most
              · have e1 : decide ((l.length : Int) < most) = true := by rw [decide_eq_true_eq]; exact hfew
                have HV := Lib.hid (HVf.out _ _ HR.out hfew)
                clear hfew hh
                go_wp2_with fail
                refine (HF.out _).mono ?_
                rintro e w8 ⟨rfl, hb8⟩
                exact ⟨rfl, Got.bad HV.out HXt.out (H7.out.1.on hb8) (H7.out.2.1.trans (FR.of hb8))⟩
              · have e1 : decide ((l.length : Int) < most) = false := by rw [decide_eq_false_iff_not]; exact hfew
                have HV := Lib.hid (HVo.out _ _ HR.out (by omega))
                clear hfew hh
                go_wp2_with fail
                have hh := HS6.out
                have hfl : Below w.heap.size w7 (((w7.setCell ⟨w.heap.size + 1, 0, none⟩ (.string x.s)).setCell ⟨w.heap.size + 1, 1, none⟩ (.slice lA l.length lc)).setCell ⟨w.heap.size + 1, 2, none⟩ (.slice none 0 0)) := (((Below.refl _ _).setCell (by simp) _).setCell (by simp) _).setCell (by simp) _
                have hsz : (((w7.setCell ⟨w.heap.size + 1, 0, none⟩ (.string x.s)).setCell ⟨w.heap.size + 1, 1, none⟩ (.slice lA l.length lc)).setCell ⟨w.heap.size + 1, 2, none⟩ (.slice none 0 0)).heap.size = w7.heap.size := by simp [World.setCell]
                have hfb : Blk (((w7.setCell ⟨w.heap.size + 1, 0, none⟩ (.string x.s)).setCell ⟨w.heap.size + 1, 1, none⟩ (.slice lA l.length lc)).setCell ⟨w.heap.size + 1, 2, none⟩ (.slice none 0 0)) (w.heap.size + 1) 46 #[.string x.s, .slice lA l.length lc, .slice none 0 0] := ((H7.out.2.2.1.set_ 0 _).set_ 1 _).set_ 2 _
                have f0 : (w7.setCell ⟨w.heap.size + 1, 0, none⟩ (.string x.s)).cell? ⟨w.heap.size + 1, 0, none⟩ = some (.string x.s) := (H7.out.2.2.1.set_ 0 _).cell 0
                have f1 : ((w7.setCell ⟨w.heap.size + 1, 0, none⟩ (.string x.s)).setCell ⟨w.heap.size + 1, 1, none⟩ (.slice lA l.length lc)).cell? ⟨w.heap.size + 1, 1, none⟩ = some (.slice lA l.length lc) := ((H7.out.2.2.1.set_ 0 _).set_ 1 _).cell 1
                have f2 : (((w7.setCell ⟨w.heap.size + 1, 0, none⟩ (.string x.s)).setCell ⟨w.heap.size + 1, 1, none⟩ (.slice lA l.length lc)).setCell ⟨w.heap.size + 1, 2, none⟩ (.slice none 0 0)).cell? ⟨w.heap.size + 1, 2, none⟩ = some (.slice none 0 0) := hfb.cell 2
                refine bodyPost_ret (v := .agg #[.string x.s, .slice lA l.length lc, .slice none 0 0]) (by simp [results, Tryz.results84, go_sem, f0, f1, f2]) rfl
                  (Got.ok_ HV.out ⟨0, _, rfl, H7.out.2.2.2.1.keep keepS_T (fun q hq => World.cell?_of_block ?_) (fun b hb => ⟨by have := hb.1; have := H6.out.2.1.size; omega, by rw [hsz]; exact hb.2⟩), rfl⟩ (H7.out.1.under hfl hpl hgl) (H7.out.2.1.far hfl (Nat.le_refl _)))
                have hq1 : w.heap.size + 1 ≠ q.block := by have := hq.1; omega
                exact ((Below.heap_setCell _ ⟨w.heap.size + 1, 2, none⟩ _ q.block (fun e => hq1 e.symm)).trans (Below.heap_setCell _ ⟨w.heap.size + 1, 1, none⟩ _ q.block (fun e => hq1 e.symm))).trans (Below.heap_setCell _ ⟨w.heap.size + 1, 0, none⟩ _ q.block (fun e => hq1 e.symm))
          exact AllReady.nil
        exact AllReady.nil
      exact AllReady.nil
    exact AllReady.nil

end Go.Proofs.YtnehbpfgdeilhaaGreatDoor

namespace Go.Proofs.YtnehbpfgdeilhaaGreatDoor
open Go.ChangeShapes Go.WideShapes Go.ChangeAt Go.RowKit Go.Fl
open Go.Shelf

/-- package parse's pred, where k more may stand around it -/
def PredAt (pb g cap : Nat) (ws : List Wd) (k : Nat) : Prop := ∀ (w : World) (i d n : Nat) (x : Wd), PB w pb g cap ws i d n → ws[i]? = some x → prdA x = true → d + k = 12 →
  Calls Tryz.prog 62 #[.pointer (some ⟨pb, 0, none⟩)] w (Got pb g cap ws d (fun b => b = pb) RdP (pPred (gx ws) k ⟨i, n⟩) w)

section
variable {G : Nat → Wd} {k : Nat} {out q : Pd} {s s1 s2 : Ps}

theorem pPred_bad {i : Nat} {e : Int} (h : pPlain G k s = .bad i e) : pPred G k s = .bad i e := by unfold pPred; rw [h]

theorem pPred_ok (h : pPlain G k s = .ok q s1) : pPred G k s = pJoin G k q s1 := by unfold pPred; rw [h]

theorem pJoin_end (h : isSgn (G s.i) 46 = false) : pJoin G k out s = .ok out s := by cases k <;> rw [pJoin, if_pos h]

theorem pJoin_none (h : isSgn (G s.i) 46 = true) (hj : isJoin (G (s.i + 1)) = false) : pJoin G k out s = .bad (s.i + 1) 120 := by
  cases k <;> rw [pJoin, if_neg (by rw [h]; decide), if_pos hj]

theorem pJoin_deep (h : isSgn (G s.i) 46 = true) (hj : isJoin (G (s.i + 1)) = true) : pJoin G 0 out s = .bad (s.i + 1) 3 := by
  rw [pJoin, if_neg (by rw [h]; decide), if_neg (by rw [hj]; decide)]

theorem pJoin_open (h : isSgn (G s.i) 46 = true) (hj : isJoin (G (s.i + 1)) = true) (ho : isSgn (G (s.i + 2)) 40 = false) : pJoin G (k + 1) out s = .bad (s.i + 2) 120 := by
  rw [pJoin, if_neg (by rw [h]; decide), if_neg (by rw [hj]; decide), if_pos ho]

theorem pJoin_neg0 (h : isSgn (G s.i) 46 = true) (hj : isJoin (G (s.i + 1)) = true) (ho : isSgn (G (s.i + 2)) 40 = true) (hn : isL (G (s.i + 1)) txNeg = true) (hc : isSgn (G (s.i + 3)) 41 = false) : pJoin G (k + 1) out s = .bad (s.i + 3) 120 := by
  rw [pJoin, if_neg (by rw [h]; decide), if_neg (by rw [hj]; decide), if_neg (by rw [ho]; decide), if_pos hn, if_pos hc]

theorem pJoin_neg (h : isSgn (G s.i) 46 = true) (hj : isJoin (G (s.i + 1)) = true) (ho : isSgn (G (s.i + 2)) 40 = true) (hn : isL (G (s.i + 1)) txNeg = true) (hc : isSgn (G (s.i + 3)) 41 = true) : pJoin G (k + 1) out s = pJoin G k (.mk ⟨txNot.toArray⟩ [] [out]) ⟨s.i + 4, s.n⟩ := by
  rw [pJoin, if_neg (by rw [h]; decide), if_neg (by rw [hj]; decide), if_neg (by rw [ho]; decide), if_pos hn, if_neg (by rw [hc]; decide)]

theorem pJoin_nop (h : isSgn (G s.i) 46 = true) (hj : isJoin (G (s.i + 1)) = true) (ho : isSgn (G (s.i + 2)) 40 = true) (hn : isL (G (s.i + 1)) txNeg = false) (hp : prdA (G (s.i + 3)) = false) : pJoin G (k + 1) out s = .bad (s.i + 3) 120 := by
  rw [pJoin, if_neg (by rw [h]; decide), if_neg (by rw [hj]; decide), if_neg (by rw [ho]; decide), if_neg (by rw [hn]; decide), if_pos hp]

theorem pJoin_bad (h : isSgn (G s.i) 46 = true) (hj : isJoin (G (s.i + 1)) = true) (ho : isSgn (G (s.i + 2)) 40 = true) (hn : isL (G (s.i + 1)) txNeg = false) (hp : prdA (G (s.i + 3)) = true) {i : Nat} {e : Int} (hr : pPred G k ⟨s.i + 3, s.n⟩ = .bad i e) : pJoin G (k + 1) out s = .bad i e := by
  rw [pJoin, if_neg (by rw [h]; decide), if_neg (by rw [hj]; decide), if_neg (by rw [ho]; decide), if_neg (by rw [hn]; decide), if_neg (by rw [hp]; decide)]
  unfold pPred at hr
  cases hq : pPlain G k ⟨s.i + 3, s.n⟩ with
  | bad i e => rw [hq] at hr; exact hr
  | ok q s1 => rw [hq] at hr; simp only at hr ⊢; rw [hr]

theorem pJoin_close (h : isSgn (G s.i) 46 = true) (hj : isJoin (G (s.i + 1)) = true) (ho : isSgn (G (s.i + 2)) 40 = true) (hn : isL (G (s.i + 1)) txNeg = false) (hp : prdA (G (s.i + 3)) = true) (hr : pPred G k ⟨s.i + 3, s.n⟩ = .ok q s2) (hc : isSgn (G s2.i) 41 = false) : pJoin G (k + 1) out s = .bad s2.i 120 := by
  rw [pJoin, if_neg (by rw [h]; decide), if_neg (by rw [hj]; decide), if_neg (by rw [ho]; decide), if_neg (by rw [hn]; decide), if_neg (by rw [hp]; decide)]
  unfold pPred at hr
  cases hq : pPlain G k ⟨s.i + 3, s.n⟩ with
  | bad i e => rw [hq] at hr; cases hr
  | ok q s1 => rw [hq] at hr; simp only at hr ⊢; rw [hr]; exact if_pos hc

theorem pJoin_go (h : isSgn (G s.i) 46 = true) (hj : isJoin (G (s.i + 1)) = true) (ho : isSgn (G (s.i + 2)) 40 = true) (hn : isL (G (s.i + 1)) txNeg = false) (hp : prdA (G (s.i + 3)) = true) (hr : pPred G k ⟨s.i + 3, s.n⟩ = .ok q s2) (hc : isSgn (G s2.i) 41 = true) : pJoin G (k + 1) out s = pJoin G k (.mk (G (s.i + 1)).s [] [out, q]) ⟨s2.i + 1, s2.n⟩ := by
  rw [pJoin, if_neg (by rw [h]; decide), if_neg (by rw [hj]; decide), if_neg (by rw [ho]; decide), if_neg (by rw [hn]; decide), if_neg (by rw [hp]; decide)]
  unfold pPred at hr
  cases hq : pPlain G k ⟨s.i + 3, s.n⟩ with
  | bad i e => rw [hq] at hr; cases hr
  | ok q s1 => rw [hq] at hr; simp only at hr ⊢; rw [hr]; exact if_neg (by rw [hc]; decide)

end

theorem sgn_lt {ws : List Wd} (hG : Gd ws) {i : Nat} {c : UInt8} (h : isSgn (gx ws i) c = true) : i + 1 < ws.length := by
  have hk := sgn_kind h
  by_cases hi : i < ws.length
  · have hx : ws[i]? = some ws[i] := List.getElem?_eq_getElem hi
    rw [gx_of hx] at h
    exact sgn_next hG hx h
  · exfalso
    unfold gx at hk
    rw [List.getD_eq_getElem?_getD, List.getElem?_eq_none (by omega)] at hk
    exact absurd hk (by decide)

theorem sevL_lt {ws : List Wd} (hG : Gd ws) {α : Type} {en : UInt8} {b : Wd → Bool} {rd : Nat → Ps → Rs α} : ∀ (f : Nat) (l : List α) (s : Ps) (l' : List α) (s' : Ps), sevL (gx ws) en b rd f l s = .ok l' s' → s'.i < ws.length
  | 0, _, _, _, _, h => by cases h
  | f + 1, l, s, l', s', h => by
    rw [sevL] at h
    split at h
    · cases h
    · split at h
      · cases h
      · split at h
        · cases h
        · split at h
          · rename_i hs; cases h; exact sgn_lt hG hs
          · split at h
            · exact sevL_lt hG f _ _ _ _ h
            · cases h

theorem sev_lt {ws : List Wd} (hG : Gd ws) {α : Type} {en : UInt8} {b : Wd → Bool} {rd : Nat → Ps → Rs α} {s s' : Ps} {l : List α} (h : sev (gx ws) en b rd s = .ok l s') : s'.i < ws.length := by
  unfold sev at h
  split at h
  · rename_i hs; cases h; exact sgn_lt hG hs
  · exact sevL_lt hG _ _ _ _ _ h

theorem pPlain_lt {ws : List Wd} (hG : Gd ws) {k : Nat} {s s' : Ps} {q : Pd} (h : pPlain (gx ws) k s = .ok q s') : s'.i < ws.length := by
  unfold pPlain at h
  split at h
  · cases h
  · split at h
    · cases h
    · rename_i hs
      split at h
      · cases h
      · cases h; exact sev_lt hG hs

theorem pJoin_lt {ws : List Wd} (hG : Gd ws) : ∀ (k : Nat) (out : Pd) (s : Ps) (q : Pd) (s' : Ps), s.i < ws.length → pJoin (gx ws) k out s = .ok q s' → s'.i < ws.length
  | 0, out, s, q, s', hs, h => by
    rw [pJoin] at h
    split at h
    · cases h; exact hs
    · split at h <;> cases h
  | k + 1, out, s, q, s', hs, h => by
    rw [pJoin] at h
    split at h
    · cases h; exact hs
    · split at h
      · cases h
      · split at h
        · cases h
        · split at h
          · split at h
            · cases h
            · rename_i hc
              exact pJoin_lt hG k _ _ _ _ (sgn_lt hG (by simpa using hc)) h
          · split at h
            · cases h
            · split at h
              · cases h
              · split at h
                · cases h
                · split at h
                  · cases h
                  · rename_i hc
                    exact pJoin_lt hG k _ _ _ _ (sgn_lt hG (by simpa using hc)) h

theorem pPred_lt {ws : List Wd} (hG : Gd ws) {k : Nat} {s s' : Ps} {q : Pd} (h : pPred (gx ws) k s = .ok q s') : s'.i < ws.length := by
  unfold pPred at h
  split at h
  · cases h
  · rename_i hs
    exact pJoin_lt hG _ _ _ _ _ (pPlain_lt hG hs) h

theorem RdP.shape {w : World} {S : Nat → Prop} {op : ByteArray} {l : List T} {kids : List Pd} {v : Value} (h : RdP w S (.mk op l kids) v) : ∃ lA lc kA kc, v = .agg #[.string op, .slice lA l.length lc, .slice kA kids.length kc] := by
  obtain ⟨m, h⟩ := h
  cases m with
  | zero =>
    obtain ⟨lv, rfl, h1, rfl⟩ := h
    obtain ⟨A, c, rfl⟩ := h1.shape
    exact ⟨A, c, none, 0, rfl⟩
  | succ m =>
    obtain ⟨lv, kv, rfl, h1, h2⟩ := h
    obtain ⟨A, c, rfl⟩ := h1.shape
    obtain ⟨B, e, rfl⟩ := h2.shape
    exact ⟨A, c, B, e, rfl⟩

theorem rdP_one {w : World} {S : Nat → Prop} (op : ByteArray) {p : Pd} {u : Value} {b : Nat} (hS : S b) (hp : RdP w S p u) (hc : ∀ k c, u.cells[k]? = some c → w.cell? ⟨b, k, none⟩ = some c) :
    RdP w S (.mk op [] [p]) (.agg #[.string op, .slice none 0 0, .slice (some ⟨b, 0, none⟩) 1 1]) := by
  obtain ⟨m, hp⟩ := hp
  refine ⟨m + 1, _, _, rfl, .inl ⟨rfl, rfl⟩, .inr ⟨b, 1, rfl, Nat.le_refl _, by decide, hS, fun j hj => ?_⟩⟩
  obtain rfl : j = 0 := by simp at hj; exact hj
  exact ⟨u, fun k c h => by rw [Nat.zero_mul, Nat.zero_add]; exact hc k c h, hp⟩

theorem rdP_two {w : World} {S : Nat → Prop} (op : ByteArray) {p q : Pd} {u v : Value} {b : Nat} (hS : S b) (hp : RdP w S p u) (hq : RdP w S q v) (hc : ∀ k c, u.cells[k]? = some c → w.cell? ⟨b, k, none⟩ = some c) (hd : ∀ k c, v.cells[k]? = some c → w.cell? ⟨b, 3 + k, none⟩ = some c) :
    RdP w S (.mk op [] [p, q]) (.agg #[.string op, .slice none 0 0, .slice (some ⟨b, 0, none⟩) 2 2]) := by
  obtain ⟨m, hp⟩ := hp
  obtain ⟨m', hq⟩ := hq
  refine ⟨max m m' + 1, _, _, rfl, .inl ⟨rfl, rfl⟩, .inr ⟨b, 2, rfl, Nat.le_refl _, by decide, hS, fun j hj => ?_⟩⟩
  match j, hj with
  | 0, _ => exact ⟨u, fun k c h => by rw [Nat.zero_mul, Nat.zero_add]; exact hc k c h, rdP_le (Nat.le_max_left _ _) hp⟩
  | 1, _ => exact ⟨v, fun k c h => hd k c h, rdP_le (Nat.le_max_right _ _) hq⟩

/-- what stands at the head of a round: the predicate so far, in its box -/
structure PJ (pb g cap : Nat) (ws : List Wd) (d : Nat) (w : World) (ob : Nat) (r : Rs Pd) (k m : Nat) (out : Pd) (kk i n : Nat) (W : World) : Prop where
  eq : r = pJoin (gx ws) kk out ⟨i, n⟩
  sum : m + kk = k
  p : PB W pb g cap ws i (d + m) n
  o : ∃ op lA ln lc kA kn kc, Blk W ob 46 #[.string op, .slice lA ln lc, .slice kA kn kc] ∧ RdP W (fun b => w.heap.size < b ∧ b < W.heap.size ∧ b ≠ ob) out (.agg #[.string op, .slice lA ln lc, .slice kA kn kc])
  b : w.heap.size < ob ∧ ob < W.heap.size
  f : FR pb w W
  rb : Blk W w.heap.size 46 #[.string ⟨#[]⟩, .slice none 0 0, .slice none 0 0]

/-- .. within a round: the word behind the point in its box -/
structure PK (pb g cap : Nat) (ws : List Wd) (w wr : World) (ob tb : Nat) (y : Wd) (o : Array Value) (i d n : Nat) (W : World) : Prop where
  p : PB W pb g cap ws i d n
  t : Blk W tb 56 #[.int .i64 y.k, .string y.s, .int .i64 y.n, .float .f64 y.f, .int .i64 (y.at_ : Nat)]
  o : Blk W ob 46 o
  rb : Blk W w.heap.size 46 #[.string ⟨#[]⟩, .slice none 0 0, .slice none 0 0]
  f : FR pb w W
  lt : (pb < w.heap.size ∧ g < w.heap.size) ∧ w.heap.size < ob ∧ ob < tb ∧ wr.heap.size ≤ tb
  k : wr.heap.size ≤ W.heap.size ∧ ∀ b, w.heap.size < b → b < wr.heap.size → b ≠ ob → W.heap[b]? = wr.heap[b]?

section
variable {pb g cap : Nat} {ws : List Wd} {w wr : World} {ob tb : Nat} {y : Wd} {o : Array Value} {i d n i' d' n' : Nat} {W W' : World}

theorem PK.go (h : PK pb g cap ws w wr ob tb y o i d n W) (hp : PB W' pb g cap ws i' d' n') (ho : FR pb W W') : PK pb g cap ws w wr ob tb y o i' d' n' W' := by
  obtain ⟨⟨h1, h0⟩, h2, h3, h4⟩ := h.lt
  exact ⟨hp, (ho.block _ h.t.lt (by omega)).trans h.t, (ho.block _ h.o.lt (by omega)).trans h.o, (ho.block _ h.rb.lt (by omega)).trans h.rb, h.f.trans ho, h.lt, Nat.le_trans h.k.1 ho.size,
    fun b hb1 hb2 hb3 => (ho.block b (by have := h.k.1; omega) (by omega)).trans (h.k.2 b hb1 hb2 hb3)⟩

theorem PK.on (h : PK pb g cap ws w wr ob tb y o i d n W) (hb : Below W.heap.size W W') : PK pb g cap ws w wr ob tb y o i d n W' := h.go (h.p.on hb) (FR.of hb)

theorem PK.word (h : PK pb g cap ws w wr ob tb y o i d n W) : W.cell? ⟨tb, 0, none⟩ = some (.int .i64 y.k) ∧ W.cell? ⟨tb, 1, none⟩ = some (.string y.s) ∧ W.cell? ⟨tb, 2, none⟩ = some (.int .i64 y.n) ∧ W.cell? ⟨tb, 3, none⟩ = some (.float .f64 y.f) ∧ W.cell? ⟨tb, 4, none⟩ = some (.int .i64 (y.at_ : Nat)) :=
  ⟨h.t.cell 0, h.t.cell 1, h.t.cell 2, h.t.cell 3, h.t.cell 4⟩

theorem PK.out3 {a b c : Value} (h : PK pb g cap ws w wr ob tb y #[a, b, c] i d n W) : W.cell? ⟨ob, 0, none⟩ = some a ∧ W.cell? ⟨ob, 1, none⟩ = some b ∧ W.cell? ⟨ob, 2, none⟩ = some c ∧ W.frozen? ⟨ob, 0, none⟩ = false ∧ W.frozen? ⟨ob, 1, none⟩ = false ∧ W.frozen? ⟨ob, 2, none⟩ = false :=
  ⟨h.o.cell 0, h.o.cell 1, h.o.cell 2, h.o.frozen 0, h.o.frozen 1, h.o.frozen 2⟩

theorem PK.put {a0 a1 a2 : Value} (h : PK pb g cap ws w wr ob tb y #[a0, a1, a2] i d n W) (X : Obj) (a b c : Value) :
    PK pb g cap ws w wr ob tb y #[a, b, c] i d n ((((W.alloc X).setCell ⟨ob, 0, none⟩ a).setCell ⟨ob, 1, none⟩ b).setCell ⟨ob, 2, none⟩ c) := by
  have h' := h.on ((Below.refl _ _).alloc (Nat.le_refl _) X)
  obtain ⟨⟨h1, h0⟩, h2, h3, h4⟩ := h.lt
  have hp : pb ≠ ob := by omega
  have hg : g ≠ ob := by omega
  have ht : tb ≠ ob := by omega
  have hr : w.heap.size ≠ ob := by omega
  refine ⟨((h'.p.far (q := ⟨ob, 0, none⟩) hp hg a).far (q := ⟨ob, 1, none⟩) hp hg b).far (q := ⟨ob, 2, none⟩) hp hg c, ((h'.t.far (p := ⟨ob, 0, none⟩) ht a).far (p := ⟨ob, 1, none⟩) ht b).far (p := ⟨ob, 2, none⟩) ht c, ((h'.o.set_ 0 a).set_ 1 b).set_ 2 c,
    ((h'.rb.far (p := ⟨ob, 0, none⟩) hr a).far (p := ⟨ob, 1, none⟩) hr b).far (p := ⟨ob, 2, none⟩) hr c, ((h'.f.setCell (p := ⟨ob, 0, none⟩) (.inr (by show _ ≤ ob; omega)) a).setCell (p := ⟨ob, 1, none⟩) (.inr (by show _ ≤ ob; omega)) b).setCell (p := ⟨ob, 2, none⟩) (.inr (by show _ ≤ ob; omega)) c, h.lt, ?_, fun q hq1 hq2 hq3 => ?_⟩
  · have := h'.k.1
    simpa [World.setCell] using this
  · exact (((Below.heap_setCell _ ⟨ob, 2, none⟩ c q hq3).trans (Below.heap_setCell _ ⟨ob, 1, none⟩ b q hq3)).trans (Below.heap_setCell _ ⟨ob, 0, none⟩ a q hq3)).trans (h'.k.2 q hq1 hq2 hq3)

theorem PK.start {r : Rs Pd} {k m kk i1 n1 dd : Nat} {out : Pd} {w1 w2 w3 : World} (h : PJ pb g cap ws dd w ob r k m out kk i1 n1 wr) (ho : Blk wr ob 46 o) (hp : PB w1 pb g cap ws i d n) (hf : FR pb wr w1) (h2 : Below w1.heap.size w1 w2) (h3 : Below w2.heap.size w2 w3) (ht : Blk w3 w2.heap.size 56 #[.int .i64 y.k, .string y.s, .int .i64 y.n, .float .f64 y.f, .int .i64 (y.at_ : Nat)]) (hpl : pb < w.heap.size ∧ g < w.heap.size) :
    PK pb g cap ws w wr ob w2.heap.size y o i d n w3 := by
  have h13 := h2.trans (h3.mono h2.size)
  have hsf := hf.size
  have hs2 := h2.size
  have hs3 := h3.size
  obtain ⟨hb1, hb2⟩ := h.b
  have hk : ∀ b, b < wr.heap.size → b ≠ pb → w3.heap[b]? = wr.heap[b]? := fun b hb hn => (h13.block b (by omega)).trans (hf.block b hb hn)
  exact ⟨hp.on h13, ht, (hk _ hb2 (by omega)).trans ho, (hk _ h.rb.lt (by omega)).trans h.rb, (h.f.trans hf).trans (FR.of h13), ⟨hpl, hb1, by omega, by omega⟩, by omega, fun b q1 q2 q3 => hk b q2 (by omega)⟩

/-- a round is done -/
theorem PK.back {r : Rs Pd} {k m kk' dd : Nat} {out' : Pd} {op : ByteArray} {lA kA : Option Addr} {ln lc kn kc : Nat} (h : PK pb g cap ws w wr ob tb y #[.string op, .slice lA ln lc, .slice kA kn kc] i d n W)
    (he : r = pJoin (gx ws) kk' out' ⟨i, n⟩) (hs : m + 1 + kk' = k) (hd : d = dd + (m + 1)) (hr : RdP W (fun b => w.heap.size < b ∧ b < W.heap.size ∧ b ≠ ob) out' (.agg #[.string op, .slice lA ln lc, .slice kA kn kc])) : PJ pb g cap ws dd w ob r k (m + 1) out' kk' i n W :=
  ⟨he, hs, hd ▸ h.p, ⟨op, lA, ln, lc, kA, kn, kc, h.o, hr⟩, ⟨h.lt.2.1, h.o.lt⟩, h.f, h.rb⟩

/-- the predicate so far, later in the round -/
theorem PK.outs {out : Pd} {v : Value} (h : PK pb g cap ws w wr ob tb y o i d n W) (hr : RdP wr (fun b => w.heap.size < b ∧ b < wr.heap.size ∧ b ≠ ob) out v) : RdP W (fun b => w.heap.size < b ∧ b < W.heap.size ∧ b ≠ ob) out v :=
  keepS_Pd _ _ _ _ _ _ (fun _ hq => World.cell?_of_block (h.k.2 _ hq.1 hq.2.1 hq.2.2)) (fun _ hb => ⟨hb.1, Nat.lt_of_lt_of_le hb.2.1 h.k.1, hb.2.2⟩) hr

end

section
variable {pb g cap : Nat} {ws : List Wd} {w wr : World} {ob tb : Nat} {y : Wd} {i d n : Nat} {W : World} {op : ByteArray} {lA kA : Option Addr} {ln lc kn kc : Nat}

theorem put_keep {w : World} {ob : Nat} {X : Obj} (a b c : Value) {q : Nat} (hq : q < w.heap.size) (hn : q ≠ ob) : ((((w.alloc X).setCell ⟨ob, 0, none⟩ a).setCell ⟨ob, 1, none⟩ b).setCell ⟨ob, 2, none⟩ c).heap[q]? = w.heap[q]? :=
  (((Below.heap_setCell _ ⟨ob, 2, none⟩ c q hn).trans (Below.heap_setCell _ ⟨ob, 1, none⟩ b q hn)).trans (Below.heap_setCell _ ⟨ob, 0, none⟩ a q hn)).trans (((Below.refl w.heap.size w).alloc (Nat.le_refl _) X).block q hq)

theorem put_size {w : World} {ob : Nat} {X : Obj} (a b c : Value) : ((((w.alloc X).setCell ⟨ob, 0, none⟩ a).setCell ⟨ob, 1, none⟩ b).setCell ⟨ob, 2, none⟩ c).heap.size = w.heap.size + 1 := by simp [World.setCell]

theorem put_blk {w : World} {ob : Nat} {t : TypeId} {cs : Array Value} (h : w.heap.size ≠ ob) (a b c : Value) : Blk ((((w.alloc (.cells cs t)).setCell ⟨ob, 0, none⟩ a).setCell ⟨ob, 1, none⟩ b).setCell ⟨ob, 2, none⟩ c) w.heap.size t cs :=
  (((Blk.new w t cs).far (p := ⟨ob, 0, none⟩) h a).far (p := ⟨ob, 1, none⟩) h b).far (p := ⟨ob, 2, none⟩) h c

theorem PK.one {out : Pd} {o : Array Value} (h : PK pb g cap ws w wr ob tb y o i d n W) (hr : RdP wr (fun b => w.heap.size < b ∧ b < wr.heap.size ∧ b ≠ ob) out (.agg #[.string op, .slice lA ln lc, .slice kA kn kc])) (nm : ByteArray) (a b c : Value) :
    RdP ((((W.alloc (.cells #[.string op, .slice lA ln lc, .slice kA kn kc] 46)).setCell ⟨ob, 0, none⟩ a).setCell ⟨ob, 1, none⟩ b).setCell ⟨ob, 2, none⟩ c) (fun q => w.heap.size < q ∧ q < ((((W.alloc (.cells #[.string op, .slice lA ln lc, .slice kA kn kc] 46)).setCell ⟨ob, 0, none⟩ a).setCell ⟨ob, 1, none⟩ b).setCell ⟨ob, 2, none⟩ c).heap.size ∧ q ≠ ob)
      (.mk nm [] [out]) (.agg #[.string nm, .slice none 0 0, .slice (some ⟨W.heap.size, 0, none⟩) 1 1]) := by
  have ho := h.o.lt
  have hne : W.heap.size ≠ ob := by omega
  have hrb := h.rb.lt
  refine rdP_one nm ⟨by omega, by rw [put_size]; omega, hne⟩ (keepS_Pd _ _ _ _ _ _ (fun q hq => World.cell?_of_block (put_keep a b c hq.2.1 hq.2.2)) (fun q hq => ⟨hq.1, by rw [put_size]; have := hq.2.1; omega, hq.2.2⟩) (h.outs hr)) (fun k u hu => ?_)
  rw [(put_blk hne a b c).cell k]
  exact hu

theorem PK.two {out q : Pd} {o : Array Value} {W1 : World} {qop : ByteArray} {qA qB : Option Addr} {qn qc qm qe : Nat} (h : PK pb g cap ws w wr ob tb y o i d n W) (hr : RdP wr (fun b => w.heap.size < b ∧ b < wr.heap.size ∧ b ≠ ob) out (.agg #[.string op, .slice lA ln lc, .slice kA kn kc]))
    (hq : RdP W (fun b => W1.heap.size ≤ b ∧ b < W.heap.size) q (.agg #[.string qop, .slice qA qn qc, .slice qB qm qe])) (h1 : ob < W1.heap.size) (nm : ByteArray) (a b c : Value) :
    RdP ((((W.alloc (.cells #[.string op, .slice lA ln lc, .slice kA kn kc, .string qop, .slice qA qn qc, .slice qB qm qe] 46)).setCell ⟨ob, 0, none⟩ a).setCell ⟨ob, 1, none⟩ b).setCell ⟨ob, 2, none⟩ c) (fun q => w.heap.size < q ∧ q < ((((W.alloc (.cells #[.string op, .slice lA ln lc, .slice kA kn kc, .string qop, .slice qA qn qc, .slice qB qm qe] 46)).setCell ⟨ob, 0, none⟩ a).setCell ⟨ob, 1, none⟩ b).setCell ⟨ob, 2, none⟩ c).heap.size ∧ q ≠ ob)
      (.mk nm [] [out, q]) (.agg #[.string nm, .slice none 0 0, .slice (some ⟨W.heap.size, 0, none⟩) 2 2]) := by
  have ho := h.o.lt
  have hne : W.heap.size ≠ ob := by omega
  have hrb := h.rb.lt
  have hob := h.lt.2.1
  refine rdP_two nm ⟨by omega, by rw [put_size]; omega, hne⟩ (keepS_Pd _ _ _ _ _ _ (fun q hq => World.cell?_of_block (put_keep a b c hq.2.1 hq.2.2)) (fun q hq => ⟨hq.1, by rw [put_size]; have := hq.2.1; omega, hq.2.2⟩) (h.outs hr))
    (keepS_Pd _ _ _ _ _ _ (fun q hq => World.cell?_of_block (put_keep a b c hq.2 (by have := hq.1; omega))) (fun q hq => ⟨by have := hq.1; omega, by rw [put_size]; have := hq.2; omega, by have := hq.1; omega⟩) hq) (fun k u hu => ?_) (fun k u hu => ?_)
  · rw [(put_blk hne a b c).cell k]
    have hk := (Array.getElem?_eq_some_iff.1 hu).1
    match k, hk, hu with
    | 0, _, hu => exact hu
    | 1, _, hu => exact hu
    | 2, _, hu => exact hu
  · rw [(put_blk hne a b c).cell (3 + k)]
    have hk := (Array.getElem?_eq_some_iff.1 hu).1
    match k, hk, hu with
    | 0, _, hu => exact hu
    | 1, _, hu => exact hu
    | 2, _, hu => exact hu

theorem rd_far {W W' : World} {out : Pd} {v : Value} (h : RdP W (fun q => w.heap.size < q ∧ q < W.heap.size ∧ q ≠ ob) out v) (hf : FR pb W W') (hp : pb < w.heap.size) : RdP W' (fun q => w.heap.size < q ∧ q < W'.heap.size ∧ q ≠ ob) out v :=
  keepS_Pd _ _ _ _ _ _ (fun q hq => World.cell?_of_block (hf.block _ hq.2.1 (by have := hq.1; omega))) (fun _ hq => ⟨hq.1, Nat.lt_of_lt_of_le hq.2.1 hf.size, hq.2.2⟩) h

end

theorem join_name {y : Wd} (h : isJoin y = true) : isNam y txAnd = true ∨ (isNam y txAnd = false ∧ isNam y txOr = true) ∨ (isNam y txAnd = false ∧ isNam y txOr = false ∧ isNam y txNeg = true) := by
  unfold isJoin at h
  cases h1 : isNam y txAnd <;> cases h2 : isNam y txOr <;> cases h3 : isNam y txNeg <;> simp_all

theorem join_none {y : Wd} (h : isJoin y = false) : isNam y txAnd = false ∧ isNam y txOr = false ∧ isNam y txNeg = false := by
  unfold isJoin at h
  cases h1 : isNam y txAnd <;> cases h2 : isNam y txOr <;> cases h3 : isNam y txNeg <;> simp_all

theorem nam_list {y : Wd} {l : List UInt8} (h : isNam y l = true) : y.k = 1 ∧ y.s.data.toList = l := by
  unfold isNam isL at h
  rw [Bool.and_eq_true, decide_eq_true_eq, beq_iff_eq] at h
  exact h

end Go.Proofs.YtnehbpfgdeilhaaGreatDoor
