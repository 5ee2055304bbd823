/- halves of a node -/
import Derived.Test.YtmhpgbhmhbldfaaTrW
import Derived.Deep.Cut
import Derived.Deep.CutRange
namespace Go.Proofs.Ytmhpgbhmhbldfaa
open Go.ChangeShapes Go.WideShapes Go.ChangeAt Go.RowKit

/-- two boxes of their own -/
def HalfCut (W : World) (l1 l2 r1 r2 : Value) (a b : Value) (wx : World) : Prop := ∃ g h, a = .pointer (some ⟨g, 0, none⟩) ∧ b = .pointer (some ⟨h, 0, none⟩) ∧ g ≠ h ∧ W.heap.size ≤ g ∧ W.heap.size ≤ h ∧ Two wx g l1 l2 ∧ Two wx h r1 r2 ∧ Below W.heap.size W wx

theorem half_a (W : World) (l1 l2 r1 r2 : Value) : HalfCut W l1 l2 r1 r2 (.pointer (some ⟨W.heap.size, 0, none⟩)) (.pointer (some ⟨W.heap.size + 1, 0, none⟩)) ((W.alloc (.cells #[l1, l2] 60)).alloc (.cells #[r1, r2] 60)).drew := by
  refine ⟨_, _, rfl, rfl, by omega, Nat.le_refl _, by omega, ?_, ?_, (((Below.refl _ _).alloc (Nat.le_refl _) _).alloc (by simp) _).drew⟩
  · have h1 : Two (W.alloc (.cells #[l1, l2] 60)) W.heap.size l1 l2 := heap_alloc_new W _
    exact h1.on (((Below.refl _ _).alloc (Nat.le_refl _) _).drew) h1.cells.2.2
  · have := heap_alloc_new (W.alloc (.cells #[l1, l2] 60)) (.cells #[r1, r2] 60)
    simp only [World.size_alloc] at this
    exact this

theorem half_b (W : World) (l1 l2 r1 r2 : Value) : HalfCut W l1 l2 r1 r2 (.pointer (some ⟨W.heap.size + 1, 0, none⟩)) (.pointer (some ⟨W.heap.size, 0, none⟩)) ((W.alloc (.cells #[r1, r2] 60)).alloc (.cells #[l1, l2] 60)).drew := by
  obtain ⟨g, h, e1, e2, h3, h4, h5, h6, h7, h8⟩ := half_a W r1 r2 l1 l2
  cases e1; cases e2
  exact ⟨_, _, rfl, rfl, fun e => h3 e.symm, h5, h4, h7, h6, h8⟩

theorem two_two {w : World} {p q : Nat} {x y u v : Value} (hp : Two w p x y) (hq : Two w q u v) (hne : p ≠ q) (a b c d : Value) :
    Two ((((w.setCell ⟨p, 0, none⟩ a).setCell ⟨p, 1, none⟩ b).setCell ⟨q, 0, none⟩ c).setCell ⟨q, 1, none⟩ d) p a b ∧ Two ((((w.setCell ⟨p, 0, none⟩ a).setCell ⟨p, 1, none⟩ b).setCell ⟨q, 0, none⟩ c).setCell ⟨q, 1, none⟩ d) q c d :=
  ⟨((hp.set a b).far (p := ⟨q, 0, none⟩) hne c).far (p := ⟨q, 1, none⟩) hne d, ((hq.far (p := ⟨p, 0, none⟩) (fun e => hne e.symm) a).far (p := ⟨p, 1, none⟩) (fun e => hne e.symm) b).set c d⟩

set_option maxHeartbeats 4000000 in
set_option maxRecDepth 100000 in
/-- halves of a leaf -/
theorem halves_leaf (ks : List ByteArray) (m : ByteArray) (A A' : Option Addr) (c c' at_ : Nat) (w : World) (hA : SAt w w.heap.size A ks) (hn : ks.length ≤ 900) (hc : ks.length ≤ c) (hat : ks.length / 2 = at_) (hm : ks[at_]? = some m) :
    Calls Try.prog 35 #[.agg #[.slice A ks.length c, .slice A' 0 c']] w fun e w' =>
      e = .returned (.tuple #[.agg #[.slice A at_ c, .slice none 0 0], .string m, .agg #[.slice (if c = at_ + 1 then A else A.map (·.add (at_ + 1))) (ks.length - (at_ + 1)) (c - (at_ + 1)), .slice none 0 0]]) ∧ Below w.heap.size w w' := by
  obtain ⟨W0, hW0⟩ : ∃ W0, w.alloc (.cells #[.slice A ks.length c, .slice A' 0 c'] 60) = W0 := ⟨_, rfl⟩
  obtain ⟨W1, hW1⟩ : ∃ W1, W0.alloc (.cells #[.slice none 0 0, .slice none 0 0] 60) = W1 := ⟨_, rfl⟩
  obtain ⟨W2, hW2⟩ : ∃ W2, W1.alloc (.cells #[.slice none 0 0, .slice none 0 0] 60) = W2 := ⟨_, rfl⟩
  have hatl : at_ < ks.length := (List.getElem?_eq_some_iff.1 hm).1
  have hb0 : Below w.heap.size w W0 := hW0 ▸ (Below.refl _ _).alloc (Nat.le_refl _) _
  have hb01 : Below W0.heap.size W0 W1 := hW1 ▸ (Below.refl _ _).alloc (Nat.le_refl _) _
  have hb12 : Below W1.heap.size W1 W2 := hW2 ▸ (Below.refl _ _).alloc (Nat.le_refl _) _
  have hz0 : W0.heap.size = w.heap.size + 1 := by rw [← hW0]; simp
  have hz1 : W1.heap.size = w.heap.size + 2 := by rw [← hW1, World.size_alloc, hz0]
  have hz2 : W2.heap.size = w.heap.size + 3 := by rw [← hW2, World.size_alloc, hz1]
  have hb02 : Below W0.heap.size W0 W2 := hb01.trans (hb12.mono hb01.size)
  have hb2 : Below w.heap.size w W2 := hb0.trans (hb02.mono hb0.size)
  have ht0 : Two W0 w.heap.size (.slice A ks.length c) (.slice A' 0 c') := hW0 ▸ heap_alloc_new w _
  have ht2 : Two W2 w.heap.size (.slice A ks.length c) (.slice A' 0 c') := ht0.on hb02 (by omega)
  have hr1 : Two W1 (w.heap.size + 1) (.slice none 0 0) (.slice none 0 0) := by have := heap_alloc_new W0 (.cells #[.slice none 0 0, .slice none 0 0] 60); rw [hz0] at this; exact hW1 ▸ this
  have hr12 : Two W2 (w.heap.size + 1) (.slice none 0 0) (.slice none 0 0) := hr1.on hb12 (by omega)
  have hr2 : Two W2 (w.heap.size + 2) (.slice none 0 0) (.slice none 0 0) := by have := heap_alloc_new W1 (.cells #[.slice none 0 0, .slice none 0 0] 60); rw [hz1] at this; exact hW2 ▸ this
  obtain ⟨⟨x0, x1⟩, -, -⟩ := ht2.cells
  have hZ : ∀ W, Below W2.heap.size W2 W → W.cell? ⟨w.heap.size, 0, none⟩ = some (.slice A ks.length c) := fun W hb => by obtain ⟨⟨h, -⟩, -, -⟩ := (ht2.on hb (by omega)).cells; exact h
  have y0 : ∀ o, (W2.alloc o).cell? ⟨w.heap.size, 0, none⟩ = some (.slice A ks.length c) := fun o => hZ _ ((Below.refl _ _).alloc (Nat.le_refl _) _)
  have y1 : ∀ o o', ((W2.alloc o).alloc o').cell? ⟨w.heap.size, 0, none⟩ = some (.slice A ks.length c) := fun o o' => hZ _ (((Below.refl _ _).alloc (Nat.le_refl _) _).alloc (by simp) _)
  have hh := fun W => body_headS A ks.length c at_ (by omega) W
  obtain ⟨a1, ha1⟩ : ∃ a1, at_ + 1 = a1 := ⟨_, rfl⟩
  rw [ha1]
  obtain ⟨A2, hA2⟩ : ∃ A2, (if c = a1 then A else A.map (·.add a1)) = A2 := ⟨_, rfl⟩
  rw [hA2]
  have htl := fun W => body_tailS A ks.length c a1 (by omega) W
  rw [hA2] at htl
  have hw1 : IntKind.i64.wrap ((at_ : Int) + 1) = (a1 : Int) := by rw [IntKind.wrap_i64]; omega
  have hdv : ((ks.length : Int) / 2) = (at_ : Int) := by omega
  have HA2 := Lib.hid hA2; have HA1 := Lib.hid ha1; have HB2 := Lib.hid hb2; have HT2 := Lib.hid ht2; have HR1 := Lib.hid hr12; have HR2 := Lib.hid hr2; have HSA := Lib.hid (hA.on hb2)
  have hA0 := Lib.hid hA; have HM := Lib.hid hm; have HZ := Lib.hid (And.intro hz0 (And.intro hz1 hz2))
  have ha900 : at_ ≤ 900 := by omega
  clear hb0 hb01 hb12 hb02 hb2 hz0 hz1 hz2 ht0 ht2 hr1 hr12 hr2 hZ hA hat hm ha1 hc hA2
  go_enter Try.func35, Try.ntmps35
  go_upto_region 2 with fail
  have mixed : Try.prog.follows Departure.mixedOrders = true := by kernel_rfl
  go_cut [6, 7] from 12 to 22 (HalfCut W2 (.slice A at_ c) (.slice none 0 0) (.slice A2 (ks.length - a1) (c - a1)) (.slice none 0 0))
  case first =>
    go_region_law_o (fail)
    all_goals
      go_wp2_with fail
      go_meet
      first | exact half_a _ _ _ _ _ | exact half_b _ _ _ _ _ | fail "HALF"
  case rest =>
    obtain ⟨g, h, rfl, rfl, hgh, hg, hh', hL, hR, hb⟩ := hcut
    have hT := HT2.out.on hb HT2.out.cells.2.2
    have hr1 := HR1.out.on hb HR1.out.cells.2.2
    have hr2 := HR2.out.on hb HR2.out.cells.2.2
    obtain ⟨⟨x0, x1⟩, -, -⟩ := hT.cells
    have HB := Lib.hid hb; have HL := Lib.hid hL; have HR := Lib.hid hR; have HG := Lib.hid (And.intro hgh (And.intro hg hh')); have HRa := Lib.hid hr1; have HRb := Lib.hid hr2; have HTc := Lib.hid hT
    clear hb hL hR hgh hg hh' y0 y1 hr1 hr2 hT
    go_wp2_with fail
    refine (leaf_c A A' ks.length c 0 c' wc).mono ?_
    rintro e w4 ⟨rfl, hb4⟩
    have hT := HTc.out.on hb4 HTc.out.cells.2.2
    have hr1 := HRa.out.on hb4 HRa.out.cells.2.2
    have hr2 := HRb.out.on hb4 HRb.out.cells.2.2
    have hL := HL.out.on hb4 HL.out.cells.2.2
    have hR := HR.out.on hb4 HR.out.cells.2.2
    have hB24 : Below W2.heap.size W2 w4 := HB.out.trans (hb4.mono HB.out.size)
    obtain ⟨b, o, rfl, hbl, c0⟩ := (HSA.out.on hB24) at_ m HM.out
    have hz := HZ.out; have hg := HG.out
    have hbw : b < w.heap.size := by
      obtain ⟨b', o', e, h2, -⟩ := hA0.out at_ m HM.out
      cases e; exact h2
    have HF := Lib.hid (HB2.out.trans (hB24.mono HB2.out.size))
    have hz0 : W0.heap.size = w.heap.size + 1 := hz.1
    have hz1 : W1.heap.size = w.heap.size + 2 := hz.2.1
    have hz2 : W2.heap.size = w.heap.size + 3 := hz.2.2
    rw [← hz0] at hr1
    rw [← hz1] at hr2
    have n1 : ¬ (W0.heap.size = W1.heap.size) := by omega
    have n2 : ¬ (W1.heap.size = W0.heap.size) := by omega
    have n3 : ¬ (W0.heap.size = g) := by omega
    have n4 : ¬ (g = W0.heap.size) := by omega
    have n5 : ¬ (W0.heap.size = h) := by omega
    have n6 : ¬ (h = W0.heap.size) := by omega
    have n7 : ¬ (W1.heap.size = g) := by omega
    have n8 : ¬ (g = W1.heap.size) := by omega
    have n9 : ¬ (W1.heap.size = h) := by omega
    have n10 : ¬ (h = W1.heap.size) := by omega
    have n11 : ¬ (W0.heap.size = b) := by omega
    have n12 : ¬ (b = W0.heap.size) := by omega
    have n13 : ¬ (W1.heap.size = b) := by omega
    have n14 : ¬ (b = W1.heap.size) := by omega
    have n15 : ¬ (W0.heap.size = w.heap.size) := by omega
    have n16 : ¬ (w.heap.size = W0.heap.size) := by omega
    have n17 : ¬ (W1.heap.size = w.heap.size) := by omega
    have n18 : ¬ (w.heap.size = W1.heap.size) := by omega
    obtain ⟨⟨l0, l1⟩, -, -⟩ := hL.cells
    obtain ⟨⟨r0, r1⟩, -, -⟩ := hR.cells
    obtain ⟨⟨t0, t1⟩, -, -⟩ := hT.cells
    obtain ⟨⟨p0, p1⟩, pf, -⟩ := hr1.cells
    obtain ⟨⟨q0, q1⟩, qf, -⟩ := hr2.cells
    have pf0 := pf 0; have pf1 := pf 1; have qf0 := qf 0; have qf1 := qf 1
    have HP := Lib.hid hr1; have HQ := Lib.hid hr2; have HZ0 := Lib.hid hz0; have HZ1 := Lib.hid hz1
    have HL4 := Lib.hid hL; have HR4 := Lib.hid hR
    clear hb4 hT hr1 hr2 hL hR hB24 x0 x1 hz hg hz0 hz1 hz2 pf qf hbl hbw
    go_wp2_with fail
    have mixed : Try.prog.follows Departure.mixedOrders = true := by kernel_rfl
    go_region_law_o (fail)
    all_goals
      go_wp2_with fail
      obtain ⟨hp, hq⟩ := two_two HP.out HQ.out n1 (.slice (some ⟨b, o, none⟩) at_ c) (.slice none 0 0) (.slice A2 (ks.length - a1) (c - a1)) (.slice none 0 0)
      obtain ⟨⟨s0, s1⟩, -, -⟩ := hp.cells
      obtain ⟨⟨s2, s3⟩, -, -⟩ := hq.cells
      refine bodyPost_ret (v := .tuple #[.agg #[.slice (some ⟨b, o, none⟩) at_ c, .slice none 0 0], .string m, .agg #[.slice A2 (ks.length - a1) (c - a1), .slice none 0 0]]) (by simp [results, Try.results35, go_sem, s0, s1, s2, s3]) rfl ?_
      have hz0 := HZ0.out; have hz1 := HZ1.out
      exact ⟨rfl, (((((HF.out.setCell (by simp; omega) _).setCell (by simp; omega) _).setCell (by simp; omega) _).setCell (by simp; omega) _).drew)⟩

end Go.Proofs.Ytmhpgbhmhbldfaa
