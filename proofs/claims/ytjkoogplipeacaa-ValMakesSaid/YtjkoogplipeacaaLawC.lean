/- the walk of ValCopies -/
import Derived.Test.YtjkoogplipeacaaLawO
import Derived.Test.YtjkoogplipeacaaCopyO
import Derived.Test.YtjkoogplipeacaaPoke
import Derived.Test.YtjkoogplipeacaaSame
import Derived.Deep.RegionHeld3
namespace Go.Proofs.Ytjkoogplipeacaa
open Go.ChangeShapes Go.WideShapes Go.ChangeAt Go.RowKit Go.Fl

mutual
theorem smT_refl : ∀ t : T, smT t t = true
  | .mk k b n f s l => by rw [smT, smL_refl l]; unfold hdB; simp
theorem smL_refl : ∀ l : List T, smL l l = true
  | [] => rfl
  | t :: r => by rw [smL, smT_refl t, smL_refl r]; rfl
end

/-- two boxes' cells, in a world that has grown -/
theorem boxes_keep {W w w' : World} {g h : Nat} {a0 a1 a2 a3 a4 a5 b0 b1 b2 b3 b4 b5 : Value} (hb : Below w.heap.size w w')
    (H : (w.cell? ⟨g, 0, none⟩ = some a0 ∧ w.cell? ⟨g, 1, none⟩ = some a1 ∧ w.cell? ⟨g, 2, none⟩ = some a2 ∧ w.cell? ⟨g, 3, none⟩ = some a3 ∧ w.cell? ⟨g, 4, none⟩ = some a4 ∧ w.cell? ⟨g, 5, none⟩ = some a5) ∧
      (w.cell? ⟨h, 0, none⟩ = some b0 ∧ w.cell? ⟨h, 1, none⟩ = some b1 ∧ w.cell? ⟨h, 2, none⟩ = some b2 ∧ w.cell? ⟨h, 3, none⟩ = some b3 ∧ w.cell? ⟨h, 4, none⟩ = some b4 ∧ w.cell? ⟨h, 5, none⟩ = some b5) ∧ Below W.heap.size W w) :
    (w'.cell? ⟨g, 0, none⟩ = some a0 ∧ w'.cell? ⟨g, 1, none⟩ = some a1 ∧ w'.cell? ⟨g, 2, none⟩ = some a2 ∧ w'.cell? ⟨g, 3, none⟩ = some a3 ∧ w'.cell? ⟨g, 4, none⟩ = some a4 ∧ w'.cell? ⟨g, 5, none⟩ = some a5) ∧
      (w'.cell? ⟨h, 0, none⟩ = some b0 ∧ w'.cell? ⟨h, 1, none⟩ = some b1 ∧ w'.cell? ⟨h, 2, none⟩ = some b2 ∧ w'.cell? ⟨h, 3, none⟩ = some b3 ∧ w'.cell? ⟨h, 4, none⟩ = some b4 ∧ w'.cell? ⟨h, 5, none⟩ = some b5) ∧ Below W.heap.size W w' := by
  have k : ∀ {p : Addr} {u : Value}, w.cell? p = some u → w'.cell? p = some u := fun h => (hb.cell (World.block_lt_of_cell? w _ h)).trans h
  obtain ⟨⟨h0, h1, h2, h3, h4, h5⟩, ⟨g0, g1, g2, g3, g4, g5⟩, hB⟩ := H
  exact ⟨⟨k h0, k h1, k h2, k h3, k h4, k h5⟩, ⟨k g0, k g1, k g2, k g3, k g4, k g5⟩, hB.trans (hb.mono hB.size)⟩

/-- what the loop over a copy's list leaves of the world -/
def Laid (w W wr : World) (A : Option Addr) (m lo hi : Nat) : Prop :=
  Below w.heap.size w wr ∧ wr.heap.size = W.heap.size ∧ (m = 0 ∧ A = none ∧ wr.heap = W.heap ∨ ∃ g cs, A = some ⟨g, 0, none⟩ ∧ lo ≤ g ∧ g < hi ∧ Blk wr g 25 cs ∧ cs.size = m * 6 ∧ ∀ b, b ≠ g → wr.heap[b]? = W.heap[b]?)

theorem Laid.far {w W wr : World} {A : Option Addr} {m lo hi : Nat} (h : Laid w W wr A m lo hi) {b : Nat} (hb : b < lo ∨ hi ≤ b) : wr.heap[b]? = W.heap[b]? := by
  obtain ⟨-, -, ⟨-, -, h⟩ | ⟨g, cs, -, h1, h2, -, -, h⟩⟩ := h
  · rw [h]
  · exact h b (by omega)

theorem Laid.step {w W wr : World} {g o m lo hi : Nat} {cs : Array Value} {v0 v1 v2 v3 v4 v5 : Value} (hb : Below w.heap.size w wr) (hz : wr.heap.size = W.heap.size) (hw : w.heap.size ≤ lo) (h1 : lo ≤ g) (h2 : g < hi) (hblk : Blk wr g 25 cs) (hsz : cs.size = m * 6)
    (hrest : ∀ b, b ≠ g → wr.heap[b]? = W.heap[b]?) : Laid w W (set6 wr g o v0 v1 v2 v3 v4 v5) (some ⟨g, 0, none⟩) m lo hi :=
  ⟨set6_below hb (by omega) _ _ _ _ _ _, (set6_size _ _ _ _ _ _ _ _ _).trans hz, .inr ⟨g, put6 cs o v0 v1 v2 v3 v4 v5, rfl, h1, h2, set6_blk hblk _ _ _ _ _ _, by rw [put6_size, hsz], fun b hb => (set6_far _ _ _ _ _ _ hb).trans (hrest b hb)⟩⟩

set_option maxHeartbeats 4000000 in
set_option maxRecDepth 100000 in
theorem copies_law (t0 : T) (v0 : Value) (w : World) (rd0 : Rd w w.heap.size t0 v0) :
    Calls Try.prog 10 #[v0] w fun e w' => e = .returned (.bool true) ∧ Below w.heap.size w w' := by
  have hw0 := wgh_le t0 1000 (by decide)
  obtain ⟨p, hp⟩ : ∃ p, wgh t0 1000 = p := ⟨_, rfl⟩
  rw [hp] at hw0
  have Hp := Lib.hid hp
  have Hsm := Lib.hid (smT_refl t0)
  clear hp
  obtain ⟨k0, b0, n0, f0, s0, l0⟩ := t0
  obtain ⟨A0, c0, rfl, hk, hn, hf, hs, hc, hm, -⟩ := rd0.open
  have H0 := Lib.hid rd0
  have HK := Lib.hid (And.intro hk (And.intro hn (And.intro hf (And.intro hs hm.2))))
  have hlen : l0.length ≤ 1954687338211 := hm.2
  clear rd0 hk hn hf hs hc hm
  have hB0 := (Below.refl w.heap.size w).alloc (Nat.le_refl _) (.cells #[.int .i64 k0, .bool b0, .int .i64 n0, .float .f64 f0, .string s0, .slice A0 l0.length c0] 25)
  have HX0 := Lib.hid (Blk.new w 25 #[.int .i64 k0, .bool b0, .int .i64 n0, .float .f64 f0, .string s0, .slice A0 l0.length c0])
  by_cases h0 : 1000 < p
  · have d0 : decide (1000 < p) = true := by simpa using h0
    clear h0
    go_enter Try.func10, Try.ntmps10
    go_wp2_with fail
    refine (weigh_any _ _ 1000 _ (H0.out.on hB0) (by decide) (by decide)).mono ?_
    rw [Hp.out]
    rintro e w1 ⟨rfl, hb1⟩
    have hB1 := hB0.trans (hb1.mono hB0.size)
    clear hb1
    go_wp2_with fail
    refine (awake_any _).mono ?_
    rintro e w2 ⟨rfl, hb2⟩
    go_wp2_with fail
    go_ret
    exact ⟨rfl, hB1.trans (hb2.mono hB1.size)⟩
  have d0 : decide (1000 < p) = false := by simpa using h0
  clear h0
  go_enter Try.func10, Try.ntmps10
  go_wp2_with fail
  refine (weigh_any _ _ 1000 _ (H0.out.on hB0) (by decide) (by decide)).mono ?_
  rw [Hp.out]
  rintro e w1 ⟨rfl, hb1⟩
  have hB1 := hB0.trans (hb1.mono hB0.size)
  have HX1 := Lib.hid (HX0.out.below hb1 HX0.out.lt)
  have hz1 := HX1.out.lt
  clear hb1 HX0 hB0
  obtain ⟨x0, x1, x2, x3, x4, x5⟩ := six_of HX1.out
  go_wp2_with fail
  refine (copy_own k0 b0 n0 f0 s0 l0 _ _ (H0.out.on hB1)).mono ?_
  rintro e w2 ⟨hb2, hcc⟩
  clear x0 x1 x2 x3 x4 x5
  obtain ⟨A, he, HA⟩ : ∃ A, e = .returned (.agg #[.int .i64 k0, .bool b0, .int .i64 n0, .float .f64 f0, .string s0, .slice A l0.length l0.length]) ∧ Hid ((l0.length = 0 ∧ A = none) ∨ ∃ g, w1.heap.size ≤ g ∧ A = some ⟨g, 0, none⟩ ∧ PartAt g w2 l0) := by
    rcases hcc with ⟨c1, c2⟩ | ⟨g, c1, c2, c3⟩
    · exact ⟨none, c2, Lib.hid (.inl ⟨c1, rfl⟩)⟩
    · exact ⟨_, c2, Lib.hid (.inr ⟨g, c1, rfl, c3⟩)⟩
  subst he
  clear hcc
  have hB2 := hB1.trans (hb2.mono hB1.size)
  have HX2 := Lib.hid (HX1.out.below hb2 HX1.out.lt)
  have hz2 := hb2.size
  have HC2 : Hid (Rd w2 w2.heap.size (.mk k0 b0 n0 f0 s0 l0) (.agg #[.int .i64 k0, .bool b0, .int .i64 n0, .float .f64 f0, .string s0, .slice A l0.length l0.length])) := by
    refine RdX.of A l0.length HK.out.1 HK.out.2.1 HK.out.2.2.1 HK.out.2.2.2.1 (Nat.le_refl _) ⟨by omega, HK.out.2.2.2.2⟩ (fun hn => ?_) ?_
    · rcases HA.out with ⟨c1, -⟩ | ⟨g, -, c2, -⟩
      · exact c1
      · rw [hn] at c2; cases c2
    · rcases HA.out with ⟨c1, -⟩ | ⟨g, -, rfl, c3⟩
      · intro i hi; omega
      · exact c3.list.up (Nat.zero_le _) (Nat.le_refl _)
  clear hb2 HX1 hB1
  -- the copy's box
  have hbx := (Below.refl w2.heap.size w2).alloc (Nat.le_refl _) (.cells #[.int .i64 k0, .bool b0, .int .i64 n0, .float .f64 f0, .string s0, .slice A l0.length l0.length] 25)
  have HY := Lib.hid (Blk.new w2 25 #[.int .i64 k0, .bool b0, .int .i64 n0, .float .f64 f0, .string s0, .slice A l0.length l0.length])
  go_wp2_with fail
  refine (vcopy_any (HC2.out.on hbx)).mono ?_
  rintro e w3 ⟨v', rfl, hd, hb3⟩
  obtain ⟨A3, c3, rfl, -⟩ := hd.open
  have Hd := Lib.hid hd
  have hB3 := (hB2.trans (hbx.mono hB2.size)).trans (hb3.mono (by simp; have := hB2.size; omega))
  have HX3 := Lib.hid ((HX2.out.below hbx HX2.out.lt).below hb3 (by have := HX2.out.lt; simp; omega))
  have HY3 := Lib.hid (HY.out.below hb3 HY.out.lt)
  have hz3 : w2.heap.size + 1 ≤ w3.heap.size := by have := hb3.size; simpa using this
  have HC3 := Lib.hid ((HC2.out.on hbx).on hb3)
  have hby := (Below.refl w3.heap.size w3).alloc (Nat.le_refl _) (.cells #[.int .i64 k0, .bool b0, .int .i64 n0, .float .f64 f0, .string s0, .slice A3 l0.length c3] 25)
  have HP3 : Hid ((l0.length = 0 ∧ A = none) ∨ ∃ g, w1.heap.size ≤ g ∧ g < w2.heap.size ∧ A = some ⟨g, 0, none⟩ ∧ PartAt g (w3.alloc (.cells #[.int .i64 k0, .bool b0, .int .i64 n0, .float .f64 f0, .string s0, .slice A3 l0.length c3] 25)) l0) := by
    rcases HA.out with h | ⟨g, h1, h2, h3⟩
    · exact .inl h
    · have hg : g < w2.heap.size := by obtain ⟨cs, hcs, -⟩ := h3; exact hcs.lt
      refine .inr ⟨g, h1, hg, h2, h3.keep (fun b hb1 hb2 => ?_) (by simp; omega)⟩
      exact (hby.block b (by omega)).trans ((hb3.block b (by simp; omega)).trans (hbx.block b hb2))
  have HZ4 := Lib.hid (Blk.new w3 25 #[.int .i64 k0, .bool b0, .int .i64 n0, .float .f64 f0, .string s0, .slice A3 l0.length c3])
  have HX4 := Lib.hid (HX3.out.below hby HX3.out.lt)
  have HY4 := Lib.hid (HY3.out.below hby HY3.out.lt)
  have hB4 := hB3.alloc hB3.size (.cells #[.int .i64 k0, .bool b0, .int .i64 n0, .float .f64 f0, .string s0, .slice A3 l0.length c3] 25)
  have HC4 := Lib.hid (HC3.out.on hby)
  have HD4 := Lib.hid (RdS.keep (w' := w3.alloc (.cells #[.int .i64 k0, .bool b0, .int .i64 n0, .float .f64 f0, .string s0, .slice A3 l0.length c3] 25)) (L' := w2.heap.size + 1) (B' := w3.heap.size) (fun q _ h => hby.cell h) (by simp) (Nat.le_refl _) Hd.out)
  clear hd Hd hb3 HX2 HX3 HY HY3 HC2 HC3 HA hbx hby hB2 hB3
  go_upto_region 5 with fail
  obtain ⟨W, hW⟩ : ∃ W, W = w3.alloc (.cells #[.int .i64 k0, .bool b0, .int .i64 n0, .float .f64 f0, .string s0, .slice A3 l0.length c3] 25) := ⟨_, rfl⟩
  have hWz : W.heap.size = w3.heap.size + 1 := by rw [hW]; simp
  rw [← hW]
  rw [← hW] at HP3 HZ4 HX4 HY4 hB4 HC4 HD4
  have HWz := Lib.hid hWz
  clear hW hWz
  obtain ⟨y0, y1, y2, y3, y4, y5⟩ := six_of HY4.out
  obtain ⟨x0, x1, x2, x3, x4, x5⟩ := six_of HX4.out
  obtain ⟨m, Hm⟩ : ∃ m, Hid (pkT (.mk k0 b0 n0 f0 s0 l0) 9 = m) := ⟨_, Lib.hid rfl⟩
  go_cut [28] from 14 to 28 (fun a wx => a = .bool false ∧ Below W.heap.size W wx)
  case first =>
    have hBW := Below.refl W.heap.size W
    have d9 : (m != m) = false := by simp
    have HPc : Hid (∀ wn, Below W.heap.size W wn → Calls Try.prog 39 #[.agg #[.int .i64 k0, .bool b0, .int .i64 n0, .float .f64 f0, .string s0, .slice A l0.length l0.length], .int .i64 9] wn fun e w' => e = .returned (.int .i64 m) ∧ Below wn.heap.size wn w') :=
      Lib.hid (fun wn hb => by have := poked_any _ _ 9 _ (HC4.out.on hb) (by decide) (by decide); rwa [Hm.out] at this)
    have HPv : Hid (∀ wn, Below W.heap.size W wn → Calls Try.prog 39 #[.agg #[.int .i64 k0, .bool b0, .int .i64 n0, .float .f64 f0, .string s0, .slice A0 l0.length c0], .int .i64 9] wn fun e w' => e = .returned (.int .i64 m) ∧ Below wn.heap.size wn w') :=
      Lib.hid (fun wn hb => by have := poked_any _ _ 9 _ (H0.out.on (hB4.trans (hb.mono hB4.size))) (by decide) (by decide); rwa [Hm.out] at this)
    have HSm : Hid (∀ wn, Below W.heap.size W wn → Calls Try.prog 18 #[.agg #[.int .i64 k0, .bool b0, .int .i64 n0, .float .f64 f0, .string s0, .slice A l0.length l0.length], .agg #[.int .i64 k0, .bool b0, .int .i64 n0, .float .f64 f0, .string s0, .slice A0 l0.length c0]] wn fun e w' => e = .returned (.bool true) ∧ Below wn.heap.size wn w') :=
      Lib.hid (fun wn hb => by have := rsame_any (HC4.out.on hb) (H0.out.on (hB4.trans (hb.mono hB4.size))); rwa [Hsm.out] at this)
    go_region_held3 (fun w' => (w'.cell? ⟨w2.heap.size, 0, none⟩ = some (.int .i64 k0) ∧ w'.cell? ⟨w2.heap.size, 1, none⟩ = some (.bool b0) ∧ w'.cell? ⟨w2.heap.size, 2, none⟩ = some (.int .i64 n0) ∧ w'.cell? ⟨w2.heap.size, 3, none⟩ = some (.float .f64 f0) ∧ w'.cell? ⟨w2.heap.size, 4, none⟩ = some (.string s0) ∧ w'.cell? ⟨w2.heap.size, 5, none⟩ = some (.slice A l0.length l0.length)) ∧
        (w'.cell? ⟨w.heap.size, 0, none⟩ = some (.int .i64 k0) ∧ w'.cell? ⟨w.heap.size, 1, none⟩ = some (.bool b0) ∧ w'.cell? ⟨w.heap.size, 2, none⟩ = some (.int .i64 n0) ∧ w'.cell? ⟨w.heap.size, 3, none⟩ = some (.float .f64 f0) ∧ w'.cell? ⟨w.heap.size, 4, none⟩ = some (.string s0) ∧ w'.cell? ⟨w.heap.size, 5, none⟩ = some (.slice A0 l0.length c0)) ∧ Below W.heap.size W w')
      (first | (exact boxes_keep ((Below.refl W.heap.size W).drew) ⟨⟨y0, y1, y2, y3, y4, y5⟩, ⟨x0, x1, x2, x3, x4, x5⟩, hBW⟩) | (exact boxes_keep (by assumption) (by assumption)))
      (first
        | (go_at_call 12; refine (awake_any _).mono ?_; rintro e wn ⟨rfl, hbn⟩)
        | (go_at_call 18; (with_reducible refine (HSm.out _ (by go_split_ands; assumption)).mono ?_); rintro e wn ⟨rfl, hbn⟩)
        | (go_at_call 39; (first | (with_reducible refine (HPc.out _ (by go_split_ands; assumption)).mono ?_) | (with_reducible refine (HPv.out _ (by go_split_ands; assumption)).mono ?_)); rintro e wn ⟨rfl, hbn⟩))
    all_goals (go_wp2_with fail; go_meet; exact ⟨rfl, by go_split_ands; assumption⟩)
  case rest =>
    obtain ⟨rfl, hb5⟩ := hcut
    clear x0 x1 x2 x3 x4 x5 y0 y1 y2 y3 y4 y5
    have hBc := hB4.trans (hb5.mono hB4.size)
    have HX5 := Lib.hid (HX4.out.below hb5 HX4.out.lt)
    have HY5 := Lib.hid (HY4.out.below hb5 HY4.out.lt)
    have HZ5 := Lib.hid (HZ4.out.below hb5 HZ4.out.lt)
    have HD5 := Lib.hid (RdS.keep (w' := wc) (L' := w2.heap.size + 1) (B' := w3.heap.size) (fun q _ h => hb5.cell (by rw [HWz.out]; omega)) (Nat.le_refl _) (Nat.le_refl _) HD4.out)
    have hw1 : w.heap.size ≤ w1.heap.size := by omega
    have hz3c : w3.heap.size + 1 ≤ wc.heap.size := by have h1 := hb5.size; have h2 := HWz.out; omega
    have HP5 : Hid (Laid w wc wc A l0.length w1.heap.size w2.heap.size) := by
      refine Lib.hid ⟨hBc, rfl, ?_⟩
      rcases HP3.out with ⟨h1, h2⟩ | ⟨g, h1, h2, h3, cs, h4, h5, -⟩
      · exact .inl ⟨h1, h2, rfl⟩
      · exact .inr ⟨g, cs, h3, h1, h2, h4.below hb5 h4.lt, h5, fun _ _ => rfl⟩
    clear HX4 HY4 HZ4 HD4 HC4 HP3 hb5 hB4 HWz hBc
    go_wp2_with fail
    go_loopw [5] (fun si wr => ∃ i : Nat, i ≤ l0.length ∧ si = .int .i64 i ∧ Laid w wc wr A l0.length w1.heap.size w2.heap.size) (fun si _ => l0.length - (intOf si).toNat)
    case atStart => exact ⟨0, Nat.zero_le _, rfl, HP5.out⟩
    case round =>
      obtain ⟨i, hi, rfl, hL⟩ := hrel
      have y5 : wr.cell? ⟨w2.heap.size, 5, none⟩ = some (.slice A l0.length l0.length) := (World.cell?_of_block (hL.far (.inr (Nat.le_refl _)))).trans ((HY5.out.cell 5).trans rfl)
      by_cases hlt : i < l0.length
      · obtain ⟨hb, hz, ⟨h1, -, -⟩ | ⟨g, cs, rfl, hg1, hg2, hblk, hsz, hrest⟩⟩ := hL
        · omega
        have hcell : ∀ j, j < 6 → ∃ u, wr.cell? ⟨g, i * 6 + j, none⟩ = some u ∧ wr.frozen? ⟨g, i * 6 + j, none⟩ = false := by
          intro j hj
          have hb3 : i * 6 + j < cs.size := by rw [hsz]; omega
          exact ⟨cs[i * 6 + j], by rw [hblk.cell, Array.getElem?_eq_getElem hb3], hblk.frozen _⟩
        obtain ⟨u0, c0, z0⟩ := hcell 0 (by omega)
        obtain ⟨u1, c1, z1⟩ := hcell 1 (by omega)
        obtain ⟨u2, c2, z2⟩ := hcell 2 (by omega)
        obtain ⟨u3, c3, z3⟩ := hcell 3 (by omega)
        obtain ⟨u4, c4, z4⟩ := hcell 4 (by omega)
        obtain ⟨u5, c5, z5⟩ := hcell 5 (by omega)
        clear hcell
        simp only [Nat.add_zero] at c0 z0
        have Hb := Lib.hid hb; have Hz := Lib.hid hz; have Hblk := Lib.hid hblk; have Hsz := Lib.hid hsz; have Hrest := Lib.hid hrest
        clear hb hz hblk hsz hrest
        go_wp2_with fail
        go_roundw
        case rel => exact ⟨i + 1, by omega, by go_num, Laid.step Hb.out Hz.out hw1 hg1 hg2 Hblk.out Hsz.out Hrest.out⟩
        case measure => simp [intOf]; omega
      · obtain ⟨x0, x1, x2, x3, x4, x5⟩ := six_of ((hL.far (.inl (by omega))).trans HX5.out : Blk wr w.heap.size _ _)
        obtain ⟨q0, q1, q2, q3, q4, q5⟩ := six_of ((hL.far (.inr (by omega))).trans HZ5.out : Blk wr w3.heap.size _ _)
        have hB := hL.1
        have HDr : Hid (Rd wr wr.heap.size (.mk k0 b0 n0 f0 s0 l0) (.agg #[.int .i64 k0, .bool b0, .int .i64 n0, .float .f64 f0, .string s0, .slice A3 l0.length c3])) :=
          Lib.hid (RdS.keep (fun q h1 h2 => World.cell?_of_block (hL.far (.inr (by omega)))) (Nat.zero_le _) (by have := hL.2.1; omega) HD5.out)
        clear hL
        go_wp2_with fail
        refine (rsame_any HDr.out (H0.out.on hB)).mono ?_
        rw [Hsm.out]
        rintro e w6 ⟨rfl, hb6⟩
        go_wp2_with fail
        go_ret
        exact ⟨rfl, hB.trans (hb6.mono hB.size)⟩

end Go.Proofs.Ytjkoogplipeacaa
