/- nodes: leaf, find, with -/
import Derived.Test.YtmhpgbhmhbldfaaTrK
namespace Go.Proofs.Ytmhpgbhmhbldfaa
open Go.ChangeShapes Go.WideShapes Go.ChangeAt Go.RowKit

theorem owns_on {w w' : World} {base : Nat} {e : TypeId} {size : Nat} {v : Value} {n : Nat} {xs : List Value} (h : w.ownsRow base e size v n xs) (hb : Below w.heap.size w w') : w'.ownsRow base e size v n xs := by
  refine ⟨h.1, ?_⟩
  rcases h.2 with h2 | ⟨g, cap, cur, rfl, h3, hg, r⟩
  · exact .inl h2
  · exact .inr ⟨g, cap, cur, rfl, h3, (hb.block g (Array.getElem?_eq_some_iff.1 hg).1).trans hg, r⟩

theorem leaf_c (A A' : Option Addr) (n c m c' : Nat) (w : World) :
    Calls Try.prog 30 #[.agg #[.slice A n c, .slice A' m c']] w fun e w' => e = .returned (.bool (m == 0)) ∧ Below w.heap.size w w' := by
  go_enter Try.func30, Try.ntmps30
  go_wp2_with fail
  go_ret
  refine ⟨?_, (Below.refl _ _).alloc (Nat.le_refl _) _⟩
  cases m with
  | zero => rfl
  | succ m => simp; omega

theorem find_c (ks : List ByteArray) (k : ByteArray) (A A' : Option Addr) (c m c' : Nat) (w : World) (hA : SAt w w.heap.size A ks) (hr : RisK ltS ks) (hn : ks.length ≤ 1000) :
    Calls Try.prog 27 #[.agg #[.slice A ks.length c, .slice A' m c'], .string k] w fun e w' => e = .returned (.tuple #[.int .i64 (placeK ltS k ks : Nat), .bool (hasS k ks)]) ∧ Below w.heap.size w w' := by
  have hb : Below w.heap.size w (w.alloc (.cells #[.slice A ks.length c, .slice A' m c'] 60)) := (Below.refl _ _).alloc (Nat.le_refl _) _
  have hc := search_s ks k A c _ (hA.on hb) hr hn
  have HC := Lib.hid hc; have HB := Lib.hid hb
  clear hc hb hA hr
  go_enter Try.func27, Try.ntmps27
  go_wp2_with fail
  refine HC.out.mono ?_
  rintro e w' ⟨rfl, hb'⟩
  go_wp2_with fail
  go_ret2
  exact ⟨rfl, HB.out.trans (hb'.mono HB.out.size)⟩

/-- what stands in a box of two cells, in a world that has grown -/
def Two (w : World) (g : Nat) (a b : Value) : Prop := w.heap[g]? = some (.cells #[a, b] 60 (0, 0))

theorem Two.cells {w : World} {g : Nat} {a b : Value} (h : Two w g a b) : (w.cell? ⟨g, 0, none⟩ = some a ∧ w.cell? ⟨g, 1, none⟩ = some b) ∧ (∀ i, w.frozen? ⟨g, i, none⟩ = false) ∧ g < w.heap.size := by
  refine ⟨⟨by rw [cell_of_row _ _ _ _ _ _ h]; rfl, by rw [cell_of_row _ _ _ _ _ _ h]; rfl⟩, fun i => ?_, (Array.getElem?_eq_some_iff.1 h).1⟩
  have h' : w.heap[g]? = some (.cells #[a, b] 60 (0, 0)) := h
  simp [World.frozen?, h']

theorem Two.on {w w' : World} {g n : Nat} {a b : Value} (h : Two w g a b) (hb : Below n w w') (hg : g < n) : Two w' g a b := (hb.block g hg).trans h

theorem Two.set {w : World} {g : Nat} {x y : Value} (h : Two w g x y) (a b : Value) : Two ((w.setCell ⟨g, 0, none⟩ a).setCell ⟨g, 1, none⟩ b) g a b := by
  unfold Two at h ⊢
  simp [World.setCell, Array.getElem?_modify, h]

theorem Two.set1 {w : World} {g : Nat} {x y : Value} (h : Two w g x y) (b : Value) : Two (w.setCell ⟨g, 1, none⟩ b) g x b := by
  unfold Two at h ⊢
  simp [World.setCell, Array.getElem?_modify, h]

theorem Two.far {w : World} {g : Nat} {x y : Value} (h : Two w g x y) {p : Addr} (hp : g ≠ p.block) (u : Value) : Two (w.setCell p u) g x y := (Below.heap_setCell w p u g hp).trans h

theorem SAt.far {w : World} {B : Nat} {A : Option Addr} {l : List ByteArray} (h : SAt w B A l) {p : Addr} (hp : ∀ b o, A = some ⟨b, o, none⟩ → b ≠ p.block) (u : Value) : SAt (w.setCell p u) B A l := by
  intro i s hi
  obtain ⟨b, o, rfl, h1, h2⟩ := h i s hi
  exact ⟨b, o, rfl, h1, (World.cell?_of_block (a := ⟨b, o + i, none⟩) (Below.heap_setCell w p u b (hp b o rfl))).trans h2⟩

theorem NAt.far {w : World} {B : Nat} {A : Option Addr} {l : List Nat} (h : NAt w B A l) {p : Addr} (hp : ∀ b o, A = some ⟨b, o, none⟩ → b ≠ p.block) (u : Value) : NAt (w.setCell p u) B A l := by
  intro i s hi
  obtain ⟨b, o, rfl, h1, h2⟩ := h i s hi
  exact ⟨b, o, rfl, h1, (World.cell?_of_block (a := ⟨b, o + i, none⟩) (Below.heap_setCell w p u b (hp b o rfl))).trans h2⟩

/-- a row of one's own lies where one's own blocks lie -/
theorem own_at {w : World} {base : Nat} {e : TypeId} {size n n' c : Nat} {A : Option Addr} {xs : List Value} (h : w.ownsRow base e size (.slice A n c) n' xs) : (A = none → c = 0) ∧ ∀ b o, A = some ⟨b, o, none⟩ → base ≤ b ∧ b < w.heap.size := by
  rcases h.2 with ⟨e, -⟩ | ⟨g, cap, cur, e, hb, hg, -⟩
  · simp only [Value.slice.injEq] at e
    obtain ⟨rfl, -, rfl⟩ := e
    exact ⟨fun _ => rfl, fun b o e => by cases e⟩
  · simp only [Value.slice.injEq] at e
    obtain ⟨rfl, -, rfl⟩ := e
    exact ⟨fun e => (by cases e), fun b o e => (by cases e; exact ⟨hb, (Array.getElem?_eq_some_iff.1 hg).1⟩)⟩

set_option maxHeartbeats 2000000 in
set_option maxRecDepth 100000 in
/-- a node with a key more, and a kid more -/
theorem with_c (ks : List ByteArray) (ids : List Nat) (k : ByteArray) (kid i : Nat) (A A' : Option Addr) (c c' : Nat) (w : World) (hA : SAt w w.heap.size A ks) (hA' : NAt w w.heap.size A' ids) (hc : A = none → c = 0) (hc' : A' = none → c' = 0) (hn : ks.length ≤ 900) (hm : ids.length ≤ 900)
    (hi : i ≤ ks.length) (hk : ids = [] ∨ ids.length = ks.length + 1) :
    Calls Try.prog 33 #[.agg #[.slice A ks.length c, .slice A' ids.length c'], .int .i64 i, .string k, .int .u64 (kid : Int)] w fun e w' =>
      ∃ B b B' b', e = .returned (.agg #[.slice B (ks.length + 1) b, .slice B' (if ids = [] then 0 else ids.length + 1) b']) ∧ SAt w' w'.heap.size B (ks.take i ++ k :: ks.drop i) ∧ NAt w' w'.heap.size B' (if ids = [] then [] else ids.take (i + 1) ++ kid :: ids.drop (i + 1)) ∧ (B = none → b = 0) ∧ (B' = none → b' = 0) ∧ ks.length + 1 ≤ b ∧ (if ids = [] then 0 else ids.length + 1) ≤ b' ∧ (∀ x o, B = some ⟨x, o, none⟩ → w.heap.size ≤ x) ∧ (∀ x o, B' = some ⟨x, o, none⟩ → w.heap.size ≤ x) ∧ Below w.heap.size w w' := by
  obtain ⟨W0, hW0⟩ : ∃ W0, w.alloc (.cells #[.slice A ks.length c, .slice A' ids.length c'] 60) = W0 := ⟨_, rfl⟩
  obtain ⟨W1, hW1⟩ : ∃ W1, W0.alloc (.cells #[.slice none 0 0, .slice none 0 0] 60) = W1 := ⟨_, rfl⟩
  have hb0 : Below w.heap.size w W0 := hW0 ▸ (Below.refl _ _).alloc (Nat.le_refl _) _
  have hz0 : W0.heap.size = w.heap.size + 1 := by rw [← hW0]; simp
  have hz1 : W1.heap.size = w.heap.size + 2 := by rw [← hW1, World.size_alloc, hz0]
  have hb01 : Below W0.heap.size W0 W1 := hW1 ▸ (Below.refl _ _).alloc (Nat.le_refl _) _
  have hb1 : Below w.heap.size w W1 := hb0.trans (hb01.mono hb0.size)
  have ht0 : Two W0 w.heap.size (.slice A ks.length c) (.slice A' ids.length c') := hW0 ▸ heap_alloc_new w _
  have hT1 := Lib.hid (ht0.on hb01 (by omega))
  have hR1 : Hid (Two W1 (w.heap.size + 1) (.slice none 0 0) (.slice none 0 0)) := Lib.hid (by have := heap_alloc_new W0 (.cells #[.slice none 0 0, .slice none 0 0] 60); rw [hz0] at this; exact hW1 ▸ this)
  have HA := Lib.hid (hA.on hb1); have HA' := Lib.hid (hA'.on hb1)
  have HC := Lib.hid hc; have HC' := Lib.hid hc'; have HN := Lib.hid hn; have HM := Lib.hid hm; have HI := Lib.hid hi; have HK := Lib.hid hk
  have HB1 := Lib.hid hb1; have HZ1 := Lib.hid hz1
  obtain ⟨⟨x0, x1⟩, -, -⟩ := hT1.out.cells
  clear hb0 hb01 hb1 ht0 hA hA' hc hc' hn hm hi hk hz1
  go_enter Try.func33, Try.ntmps33
  go_wp2_with fail
  refine (clone_SAt ks A c W1 HA.out (by have := HN.out; omega) HC.out).mono ?_
  rintro e w1 ⟨v1, rfl, ho1, hb⟩
  have hba : Below w1.heap.size w1 (w1.alloc (.cells #[.string k] 9)) := (Below.refl _ _).alloc (Nat.le_refl _) _
  have hins := insert_anyS (owns_on ho1 hba) i HI.out k w1.heap.size (heap_alloc_new _ _) (fun e => by have := (ho1.lt _ e.symm).2; omega) (by have := HN.out; omega) (by rw [World.size_alloc]; have := hb.size; omega)
  have HINS := Lib.hid hins; have HO1 := Lib.hid ho1; have HBa := Lib.hid hb; have HBb := Lib.hid hba
  clear hins ho1 hb hba x0 x1
  go_wp2_with fail
  refine HINS.out.mono ?_
  rintro e w2 ⟨v2, rfl, ho2, hon, -⟩
  have hb2 : Below W1.heap.size W1 w2 := HBa.out.trans ((HBb.out.mono HBa.out.size).trans (hon.below (by rw [World.size_alloc]; have := HBa.out.size; omega) fun k e => (HO1.out.lt k e.symm).1))
  obtain ⟨B, b, rfl, hBl, -, hBS⟩ := own_SAt ho2
  have hlen : (ks.take i ++ k :: ks.drop i).length = ks.length + 1 := by have := HI.out; simp; omega
  rw [hlen] at hBl ⊢
  obtain ⟨W3, hW3⟩ : ∃ W3, w2.alloc (.cells #[.slice B (ks.length + 1) b, .slice none 0 0] 60) = W3 := ⟨_, rfl⟩
  have hb3 : Below w2.heap.size w2 W3 := hW3 ▸ (Below.refl _ _).alloc (Nat.le_refl _) _
  have hB13 : Below W1.heap.size W1 W3 := hb2.trans (hb3.mono hb2.size)
  have HT4 := Lib.hid (hT1.out.on hB13 (by have := HZ1.out; omega)); have HT8 := Lib.hid (hR1.out.on hB13 (by have := HZ1.out; omega))
  have HT9 : Hid (Two W3 w2.heap.size (.slice B (ks.length + 1) b) (.slice none 0 0)) := Lib.hid (hW3 ▸ heap_alloc_new w2 _)
  have HBS := Lib.hid (hBS.on hb3); have HB13 := Lib.hid hB13; have HBl := Lib.hid hBl
  obtain ⟨hnb, hbb⟩ := own_at ho2
  have HNB := Lib.hid hnb; have HBB := Lib.hid hbb; have HZ2 := Lib.hid hb2.size
  clear hnb hbb
  clear ho2 hon hb2 hBl hBS hb3 hB13 HINS HO1 HBa HBb
  obtain ⟨⟨x0, x1⟩, -, -⟩ := HT4.out.cells
  rw [← hW3] at x0 x1
  have HW3 := Lib.hid hW3
  clear hW3
  go_wp2_with fail
  rw [HW3.out] at x0 x1 ⊢
  clear HW3
  refine (leaf_c A A' ks.length c ids.length c' W3).mono ?_
  rintro e w4 ⟨rfl, hb4⟩
  have HB4 := Lib.hid hb4
  have HB14 : Hid (Below W1.heap.size W1 w4) := Lib.hid (HB13.out.trans (hb4.mono HB13.out.size))
  have HZ4 : Hid (w.heap.size + 2 ≤ w4.heap.size ∧ w.heap.size + 2 ≤ w2.heap.size) := Lib.hid (by
    have h1 := HB14.out.size; have h2 := HZ1.out; have h3 := HZ2.out
    omega)
  clear hb4 x0 x1
  by_cases hids : ids = []
  · subst hids
    have HT8' := Lib.hid (HT8.out.on HB4.out HT8.out.cells.2.2)
    obtain ⟨⟨y0, y1⟩, yf, yl⟩ := (HT9.out.on HB4.out HT9.out.cells.2.2).cells
    obtain ⟨⟨z0, z1⟩, zf, zl⟩ := HT8'.out.cells
    have zf0 := zf 0; have zf1 := zf 1
    clear zf yf
    go_wp2_with fail
    obtain ⟨⟨s0, s1⟩, -, -⟩ := (HT8'.out.set (.slice B (ks.length + 1) b) (.slice none 0 0)).cells
    change bodyPost _ _ _ _ _ ((w4.setCell ⟨w.heap.size + 1, 0, none⟩ (.slice B (ks.length + 1) b)).setCell ⟨w.heap.size + 1, 1, none⟩ (.slice none 0 0))
    refine bodyPost_ret (v := .agg #[.slice B (ks.length + 1) b, .slice none 0 0]) (by simp [results, Try.results33, go_sem, s0, s1]) rfl ?_
    have hW4 := (HBS.out.on HB4.out)
    have hne : ∀ b' o, B = some ⟨b', o, none⟩ → b' ≠ w.heap.size + 1 := fun b' o e => by have := (HBB.out b' o e).1; have := HZ1.out; omega
    have hfin : Below w.heap.size w ((w4.setCell ⟨w.heap.size + 1, 0, none⟩ (.slice B (ks.length + 1) b)).setCell ⟨w.heap.size + 1, 1, none⟩ (.slice none 0 0)) := ((HB1.out.trans (HB14.out.mono HB1.out.size)).setCell (by simp) _).setCell (by simp) _
    exact ⟨B, b, none, 0, rfl, ((hW4.far (p := ⟨w.heap.size + 1, 0, none⟩) hne _).far (p := ⟨w.heap.size + 1, 1, none⟩) hne _).up (by simp [World.setCell]), fun i s hi => by simp at hi, HNB.out, fun _ => rfl, HBl.out, fun x o e => by have := (HBB.out x o e).1; have := HZ1.out; omega, fun x o e => (by cases e), hfin⟩
  · have HNE := Lib.hid hids
    have hlz : (ids.length == 0) = false := by
      cases ids with
      | nil => exact absurd rfl hids
      | cons _ _ => rfl
    have HIL : Hid (i + 1 ≤ ids.length) := Lib.hid (by have h1 := HK.out; have h2 := HI.out; rcases h1 with h | h; exact absurd h hids; omega)
    rw [hlz]
    obtain ⟨⟨x0, x1⟩, -, -⟩ := (HT4.out.on HB4.out HT4.out.cells.2.2).cells
    obtain ⟨i1, hi1⟩ : ∃ i1, i + 1 = i1 := ⟨_, rfl⟩
    have hw1 : wrap64 (i1 : Int) = (i1 : Int) := wrap64_id (is64_iff.2 (by have := HM.out; have := HIL.out; omega))
    have hii : (i : Int) + 1 = (i1 : Int) := by omega
    have HI1 := Lib.hid hi1
    clear hids hlz hi1
    go_wp2_with fail
    refine (clone_NAt ids A' c' w4 (HA'.out.on HB14.out) (by have := HM.out; omega) HC'.out).mono ?_
    rintro e w5 ⟨v5, rfl, ho5, hb5⟩
    have hba : Below w5.heap.size w5 (w5.alloc (.cells #[.int .u64 (kid : Int)] 26)) := (Below.refl _ _).alloc (Nat.le_refl _) _
    have hins := insert_anyN (owns_on ho5 hba) i1 (by rw [← HI1.out]; exact HIL.out) kid w5.heap.size (heap_alloc_new _ _) (fun e => by have := (ho5.lt _ e.symm).2; omega) (by have := HM.out; omega) (by rw [World.size_alloc]; have := hb5.size; omega)
    have HINS := Lib.hid hins; have HO5 := Lib.hid ho5; have HBa := Lib.hid hb5; have HBb := Lib.hid hba
    clear hins ho5 hb5 hba x0 x1
    go_wp2_with fail
    refine HINS.out.mono ?_
    rintro e w6 ⟨v6, rfl, ho6, hon, -⟩
    have hb6 : Below w4.heap.size w4 w6 := HBa.out.trans ((HBb.out.mono HBa.out.size).trans (hon.below (by rw [World.size_alloc]; have := HBa.out.size; omega) fun k e => (HO5.out.lt k e.symm).1))
    obtain ⟨D, d, rfl, hDl, -, hDS⟩ := own_NAt ho6
    have hlen2 : (ids.take i1 ++ kid :: ids.drop i1).length = ids.length + 1 := by have := HIL.out; have := HI1.out; simp; omega
    rw [hlen2] at hDl ⊢
    obtain ⟨hnd, hdb⟩ := own_at ho6
    have h92 : w2.heap.size < w4.heap.size := Nat.lt_of_lt_of_le HT9.out.cells.2.2 HB4.out.size
    have HT96 := Lib.hid ((HT9.out.on HB4.out HT9.out.cells.2.2).on hb6 h92)
    have HT86 := Lib.hid ((HT8.out.on HB4.out HT8.out.cells.2.2).on hb6 (Nat.lt_of_lt_of_le HT8.out.cells.2.2 HB4.out.size))
    have HND := Lib.hid hnd; have HDB := Lib.hid hdb; have HDL := Lib.hid hDl; have HDS := Lib.hid hDS; have HB6 := Lib.hid hb6; have H92 := Lib.hid h92
    obtain ⟨⟨y0, y1⟩, yf, yl⟩ := HT96.out.cells
    obtain ⟨⟨z0, z1⟩, zf, zl⟩ := HT86.out.cells
    have zf0 := zf 0; have zf1 := zf 1; have yf1 := yf 1
    have hne1 : ¬ (w2.heap.size = w.heap.size + 1) := by have := HZ4.out; omega
    have hne2 : ¬ (w.heap.size + 1 = w2.heap.size) := by have := HZ4.out; omega
    clear zf yf ho6 hon hb6 hDl hDS hnd hdb h92 hw1 hii
    go_wp2_with fail
    obtain ⟨⟨s0, s1⟩, -, -⟩ := ((HT86.out.far (p := ⟨w2.heap.size, 1, none⟩) hne2 (.slice D (ids.length + 1) d)).set (.slice B (ks.length + 1) b) (.slice D (ids.length + 1) d)).cells
    refine bodyPost_ret (v := .agg #[.slice B (ks.length + 1) b, .slice D (ids.length + 1) d]) (by simp [results, Try.results33, go_sem, s0, s1]) rfl ?_
    have hz2 := HZ1.out; have hz4 := HZ4.out; have h92 := H92.out
    have hB1 : ∀ b' o, B = some ⟨b', o, none⟩ → b' ≠ w2.heap.size := fun b' o e => by have := (HBB.out b' o e).2; omega
    have hB2 : ∀ b' o, B = some ⟨b', o, none⟩ → b' ≠ w.heap.size + 1 := fun b' o e => by have := (HBB.out b' o e).1; omega
    have hD1 : ∀ b' o, D = some ⟨b', o, none⟩ → b' ≠ w2.heap.size := fun b' o e => by have := (HDB.out b' o e).1; omega
    have hD2 : ∀ b' o, D = some ⟨b', o, none⟩ → b' ≠ w.heap.size + 1 := fun b' o e => by have := (HDB.out b' o e).1; omega
    have hfin : Below w.heap.size w (((w6.setCell ⟨w2.heap.size, 1, none⟩ (.slice D (ids.length + 1) d)).setCell ⟨w.heap.size + 1, 0, none⟩ (.slice B (ks.length + 1) b)).setCell ⟨w.heap.size + 1, 1, none⟩ (.slice D (ids.length + 1) d)) :=
      (((HB1.out.trans ((HB14.out.trans (HB6.out.mono HB14.out.size)).mono HB1.out.size)).setCell (by simp; omega) _).setCell (by simp) _).setCell (by simp) _
    have hS := (HBS.out.on HB4.out).on HB6.out
    have hN := HDS.out
    rw [← HI1.out] at hN
    exact ⟨B, b, D, d, rfl, (((hS.far (p := ⟨w2.heap.size, 1, none⟩) hB1 _).far (p := ⟨w.heap.size + 1, 0, none⟩) hB2 _).far (p := ⟨w.heap.size + 1, 1, none⟩) hB2 _).up (by simp [World.setCell]),
      (((hN.far (p := ⟨w2.heap.size, 1, none⟩) hD1 _).far (p := ⟨w.heap.size + 1, 0, none⟩) hD2 _).far (p := ⟨w.heap.size + 1, 1, none⟩) hD2 _).up (by simp [World.setCell]), HNB.out, HND.out, HBl.out, HDL.out, fun x o e => by have := (HBB.out x o e).1; omega, fun x o e => by have := (HDB.out x o e).1; omega, hfin⟩

end Go.Proofs.Ytmhpgbhmhbldfaa
