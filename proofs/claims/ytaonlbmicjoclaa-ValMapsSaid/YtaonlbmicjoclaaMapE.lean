/- the document's Map: a pair laid among others -/
import Derived.Test.YtaonlbmicjoclaaMapD
namespace Go.Proofs.Ytaonlbmicjoclaa
open Go.ChangeShapes Go.WideShapes Go.ChangeAt Go.RowKit Go.Fl

/-- the last two of three appends -/
theorem tail_runs {W w1 : World} {B g n c at_ c1 e o : Nat} {p1 : Option Addr} {L : List T} {xs : List Value} {ka va : T} {x0 x1 x2 x3 x4 x5 y0 y1 y2 y3 y4 y5 : Value} (hW : Below W.heap.size W w1) (hB : B ≤ W.heap.size) (hg : g < W.heap.size)
    (R1 : RV w1 B W.heap.size (.slice p1 at_ c1) (L.take at_)) (hL : L.length = n) (hat : at_ ≤ n) (hn : n ≤ 100) (hxs : CellsT W (fun b => b < B) xs L) (hone : ∀ u ∈ xs, u.oneCell' = true) (hcell : ∀ j u, xs[j]? = some u → W.cell? ⟨g, j, none⟩ = some u)
    (r1 : RdS W (fun b => b < B) ka (.agg #[x0, x1, x2, x3, x4, x5])) (r2 : RdS W (fun b => b < B) va (.agg #[y0, y1, y2, y3, y4, y5])) (he : w1.heap[e]? = some (.cells #[x0, x1, x2, x3, x4, x5, y0, y1, y2, y3, y4, y5] 26 (0, 0))) (ho : at_ < n → o = at_ * 6) :
    ∃ p2 c2 w2 p3 c3 w3, (∀ ty, (Builtin.append_ #[22, 22] ty #[.slice p1 at_ c1, .slice (some ⟨e, 0, none⟩) 2 2]).run Try.prog w1 = .ok (.slice p2 (at_ + 2) c2) w2) ∧
      (∀ ty, (Builtin.append_ #[22, 22] ty #[.slice p2 (at_ + 2) c2, .slice (some ⟨g, o, none⟩) (n - at_) (c - at_)]).run Try.prog w2 = .ok (.slice p3 (n + 2) c3) w3) ∧
      RV w3 B W.heap.size (.slice p3 (n + 2) c3) (L.take at_ ++ [ka, va] ++ L.drop at_) ∧ Below W.heap.size W w3 := by
  have e1 := r1.keepS (w' := w1) (S' := fun b => b < B) (fun q hq => World.cell?_of_block (hW.block _ (Nat.lt_of_lt_of_le hq hB))) (fun _ h => h)
  have e2 := r2.keepS (w' := w1) (S' := fun b => b < B) (fun q hq => World.cell?_of_block (hW.block _ (Nat.lt_of_lt_of_le hq hB))) (fun _ h => h)
  obtain ⟨p2, c2, w2, hr2, R2, b2, -⟩ := R1.app (by rw [List.length_take]; omega) ((CellsT.one e1).app (CellsT.one e2)) (by
    intro u hu
    rcases List.mem_append.1 hu with hu | hu
    · exact e1.one.2 u hu
    · exact e2.one.2 u hu) ⟨e, 0, none⟩ (m := 2) 2 rfl (fun j u hj => by
      rw [adr_add, Nat.zero_add, cell_of_row _ _ _ _ _ _ he, ← Array.getElem?_toList]
      exact hj) (k := at_ + 2) rfl (by omega)
  have hW2 := hW.trans b2
  obtain ⟨p3, c3, w3, hr3, R3, b3, -⟩ := R2.app (q := L.drop at_) (m := n - at_) (by rw [List.length_append, List.length_take]; simp; omega) ((hxs.drop at_ (by omega)).keepB hW2 hB) (fun u hu => hone u (List.mem_of_mem_drop hu)) ⟨g, o, none⟩ (c - at_) (by rw [List.length_drop]; omega) (fun j u hj => by
      rw [List.getElem?_drop] at hj
      have hlt : at_ < n := by
        have h1 := (List.getElem?_eq_some_iff.1 hj).1
        have h2 := hxs.1
        rw [h2, hL] at h1
        rcases Nat.lt_or_ge at_ n with h | h
        · exact h
        · have := Nat.mul_le_mul_right 6 h; omega
      rw [ho hlt, adr_add]
      exact (hW2.cell (p := ⟨g, at_ * 6 + j, none⟩) hg).trans (hcell _ _ hj)) (k := n + 2) (by omega) (by omega)
  exact ⟨p2, c2, w2, p3, c3, w3, hr2, hr3, R3, hW2.trans b3⟩

/-- what three appends come to, whichever of the two new blocks comes first -/
def Runs3 (W Wx : World) (B N z e g n c at_ o : Nat) (after : Bool) (L : List T) (ka va : T) (E2 : Obj) : Prop :=
  ∃ p1 c1 w1, (∀ ty, (Builtin.append_ #[22, 22] ty #[.slice (some ⟨z, 0, none⟩) 0 0, .slice (some ⟨g, 0, none⟩) at_ c]).run Try.prog Wx = .ok (.slice p1 at_ c1) w1) ∧ Below W.heap.size W w1 ∧
    ∃ p2 c2 w2 p3 c3 w3, (∀ ty, (Builtin.append_ #[22, 22] ty #[.slice p1 at_ c1, .slice (some ⟨if after then w1.heap.size else e, 0, none⟩) 2 2]).run Try.prog (if after then w1.alloc E2 else w1) = .ok (.slice p2 (at_ + 2) c2) w2) ∧
      (∀ ty, (Builtin.append_ #[22, 22] ty #[.slice p2 (at_ + 2) c2, .slice (some ⟨g, o, none⟩) (n - at_) (c - at_)]).run Try.prog w2 = .ok (.slice p3 (n + 2) c3) w3) ∧
      RV w3 B N (.slice p3 (n + 2) c3) (L.take at_ ++ [ka, va] ++ L.drop at_) ∧ Below W.heap.size W w3

theorem ins_runs {W : World} {B N g n c at_ : Nat} {L : List T} (h : RV W B N (.slice (some ⟨g, 0, none⟩) n c) L) (hat : at_ ≤ n) (hn : n ≤ 100) {ka va : T} {x0 x1 x2 x3 x4 x5 y0 y1 y2 y3 y4 y5 : Value}
    (r1 : RdS W (fun b => b < B) ka (.agg #[x0, x1, x2, x3, x4, x5])) (r2 : RdS W (fun b => b < B) va (.agg #[y0, y1, y2, y3, y4, y5])) :
    ∃ o, (∀ W', (Instr.sliceAt 22 (.slice (some ⟨g, 0, none⟩) n c) (some (.int .i64 (at_ : Int))) none none).run Try.prog W' = .ok (.slice (some ⟨g, o, none⟩) (n - at_) (c - at_)) W') ∧
      (∀ W', (Instr.sliceAt 22 (.slice (some ⟨g, 0, none⟩) n c) none (some (.int .i64 (at_ : Int))) none).run Try.prog W' = .ok (.slice (some ⟨g, 0, none⟩) at_ c) W') ∧
      Runs3 W (W.alloc (.cells #[] 26)) B N W.heap.size 0 g n c at_ o true L ka va (.cells #[x0, x1, x2, x3, x4, x5, y0, y1, y2, y3, y4, y5] 26) ∧
      Runs3 W ((W.alloc (.cells #[] 26)).alloc (.cells #[x0, x1, x2, x3, x4, x5, y0, y1, y2, y3, y4, y5] 26)) B N W.heap.size (W.heap.size + 1) g n c at_ o false L ka va (.cells #[] 26) ∧
      Runs3 W ((W.alloc (.cells #[x0, x1, x2, x3, x4, x5, y0, y1, y2, y3, y4, y5] 26)).alloc (.cells #[] 26)) B N (W.heap.size + 1) W.heap.size g n c at_ o false L ka va (.cells #[] 26) := by
  have hBN := h.2.1
  have hN := h.2.2
  have hB : B ≤ W.heap.size := by omega
  obtain ⟨hL, hnc, xs, hxs, hone, hxl, hsrc⟩ := h.src
  obtain ⟨hgl, hcell⟩ : g < W.heap.size ∧ ∀ j u, xs[j]? = some u → W.cell? ⟨g, j, none⟩ = some u := by
    rcases hsrc with ⟨e, -⟩ | ⟨g', e, h1, h2⟩
    · cases e
    · cases e; exact ⟨h1, h2⟩
  obtain ⟨o, hR3, ho⟩ := vals_tail g n c at_ hat hnc
  refine ⟨o, hR3, fun W' => vals_head _ n c at_ (by omega) W', ?_, ?_, ?_⟩
  · have hb0 : Below W.heap.size W (W.alloc (.cells #[] 26)) := (Below.refl _ W).alloc (Nat.le_refl _) _
    obtain ⟨p1, c1, w1, hr1, R1, b1, -⟩ := (RV.made W hB).app (q := L.take at_) rfl ((hxs.take at_ (by omega)).keepB hb0 hB) (fun u hu => hone u (List.mem_of_mem_take hu)) ⟨g, 0, none⟩ (m := at_) c (by rw [List.length_take]; omega) (fun j u hj => by
      rw [List.getElem?_take] at hj
      split at hj
      · rw [adr_add, Nat.zero_add]; exact (hb0.cell (p := ⟨g, j, none⟩) hgl).trans (hcell _ _ hj)
      · cases hj) (k := at_) (by omega) (by omega)
    have hb1 := hb0.trans b1
    have hb2 : Below W.heap.size W (w1.alloc (.cells #[x0, x1, x2, x3, x4, x5, y0, y1, y2, y3, y4, y5] 26)) := hb1.alloc hb1.size _
    obtain ⟨p2, c2, w2, p3, c3, w3, k1, k2, k3, k4⟩ := tail_runs (c := c) hb2 hB hgl ((RV.on (l := L.take at_) (by simpa using R1) ((Below.refl _ w1).alloc (Nat.le_refl _) _))) hL hat hn hxs hone hcell r1 r2 (e := w1.heap.size) (heap_alloc_new w1 _) ho
    exact ⟨p1, c1, w1, hr1, hb1, p2, c2, w2, p3, c3, w3, k1, k2, k3.low hN hBN, k4⟩
  · have hb0 : Below W.heap.size W ((W.alloc (.cells #[] 26)).alloc (.cells #[x0, x1, x2, x3, x4, x5, y0, y1, y2, y3, y4, y5] 26)) := ((Below.refl _ W).alloc (Nat.le_refl _) _).alloc (by simp) _
    obtain ⟨p1, c1, w1, hr1, R1, b1, g1⟩ := ((RV.made W hB).on ((Below.refl _ (W.alloc (.cells #[] 26))).alloc (Nat.le_refl _) (.cells #[x0, x1, x2, x3, x4, x5, y0, y1, y2, y3, y4, y5] 26))).app (q := L.take at_) rfl ((hxs.take at_ (by omega)).keepB hb0 hB) (fun u hu => hone u (List.mem_of_mem_take hu)) ⟨g, 0, none⟩ (m := at_) c (by rw [List.length_take]; omega) (fun j u hj => by
      rw [List.getElem?_take] at hj
      split at hj
      · rw [adr_add, Nat.zero_add]; exact (hb0.cell (p := ⟨g, j, none⟩) hgl).trans (hcell _ _ hj)
      · cases hj) (k := at_) (by omega) (by omega)
    have hb1 := hb0.trans b1
    have he : w1.heap[W.heap.size + 1]? = some (.cells #[x0, x1, x2, x3, x4, x5, y0, y1, y2, y3, y4, y5] 26 (0, 0)) := (g1.block _ (by simp) (by simp [Value.ownBlock])).trans (by have := heap_alloc_new (W.alloc (.cells #[] 26)) (.cells #[x0, x1, x2, x3, x4, x5, y0, y1, y2, y3, y4, y5] 26); simpa using this)
    obtain ⟨p2, c2, w2, p3, c3, w3, k1, k2, k3, k4⟩ := tail_runs (c := c) hb1 hB hgl (by simpa using R1) hL hat hn hxs hone hcell r1 r2 he ho
    exact ⟨p1, c1, w1, hr1, hb1, p2, c2, w2, p3, c3, w3, k1, k2, k3.low hN hBN, k4⟩
  · have hbE : Below W.heap.size W (W.alloc (.cells #[x0, x1, x2, x3, x4, x5, y0, y1, y2, y3, y4, y5] 26)) := (Below.refl _ W).alloc (Nat.le_refl _) _
    have hb0 : Below W.heap.size W ((W.alloc (.cells #[x0, x1, x2, x3, x4, x5, y0, y1, y2, y3, y4, y5] 26)).alloc (.cells #[] 26)) := hbE.alloc hbE.size _
    have hmade := (RV.made (W.alloc (.cells #[x0, x1, x2, x3, x4, x5, y0, y1, y2, y3, y4, y5] 26)) (B := B) (by simp; omega)).low (M := W.heap.size) (by simp) hB
    rw [World.size_alloc] at hmade
    obtain ⟨p1, c1, w1, hr1, R1, b1, g1⟩ := hmade.app (q := L.take at_) rfl ((hxs.take at_ (by omega)).keepB hb0 hB) (fun u hu => hone u (List.mem_of_mem_take hu)) ⟨g, 0, none⟩ (m := at_) c (by rw [List.length_take]; omega) (fun j u hj => by
      rw [List.getElem?_take] at hj
      split at hj
      · rw [adr_add, Nat.zero_add]; exact (hb0.cell (p := ⟨g, j, none⟩) hgl).trans (hcell _ _ hj)
      · cases hj) (k := at_) (by omega) (by omega)
    have hb1 := hb0.trans b1
    have he : w1.heap[W.heap.size]? = some (.cells #[x0, x1, x2, x3, x4, x5, y0, y1, y2, y3, y4, y5] 26 (0, 0)) := (g1.block _ (by simp; omega) (by simp [Value.ownBlock])).trans (((Below.refl _ (W.alloc (.cells #[x0, x1, x2, x3, x4, x5, y0, y1, y2, y3, y4, y5] 26))).alloc (Nat.le_refl _) (.cells #[] 26)).block _ (by simp) |>.trans (heap_alloc_new W _))
    obtain ⟨p2, c2, w2, p3, c3, w3, k1, k2, k3, k4⟩ := tail_runs (c := c) hb1 hB hgl (by simpa using R1) hL hat hn hxs hone hcell r1 r2 he ho
    exact ⟨p1, c1, w1, hr1, hb1, p2, c2, w2, p3, c3, w3, k1, k2, k3.low hN hBN, k4⟩

theorem RV.ptr {w : World} {B N n c : Nat} {p : Option Addr} {l : List T} (h : RV w B N (.slice p n c) l) (hn : 0 < n) : ∃ g, p = some ⟨g, 0, none⟩ := by
  obtain ⟨hl, -, xs, -, -, -, h1⟩ := h.src
  rcases h1 with ⟨-, rfl⟩ | ⟨g, hg, -⟩
  · simp at hl; omega
  · exact ⟨g, hg⟩

theorem RV.list {w : World} {B N n c : Nat} {p : Option Addr} {l : List T} (h : RV w B N (.slice p n c) l) : l.length = n ∧ l.length ≤ c ∧ c ≤ 9223372036854775807 ∧ (p = none → c = 0) ∧ RdL w w.heap.size l p := by
  obtain ⟨h1, h2, h3, h4, h5⟩ := h.1.list
  exact ⟨h1.symm, h2, h3, h4, h5⟩

/-- the result's box has the map -/
theorem rmap_end {wr : World} {rb n c : Nat} {A : Option Addr} {L : List T} (hV : RV wr rb (rb + 1) (.slice A n c) L) (hs : L.length ≤ 1000) (v0 v1 v2 v3 v4 v5 : Value) :
    Rd (set6 wr rb 0 v0 v1 v2 v3 v4 v5) (set6 wr rb 0 v0 v1 v2 v3 v4 v5).heap.size (.mk 6 false 0 0 ⟨#[]⟩ L) (.agg #[.int .i64 6, .bool false, .int .i64 0, .float .f64 0, .string ⟨#[]⟩, .slice A n c]) := by
  have hlt : ∀ k, (Value.slice A n c).ownBlock = some k → rb + 1 ≤ k ∧ k < wr.heap.size := by obtain ⟨⟨-, xs, ho, -⟩, -⟩ := hV; exact ho.lt
  have hV' : VR (set6 wr rb 0 v0 v1 v2 v3 v4 v5) (rb + 1) (fun b => b < rb) (.slice A n c) L := hV.1.only (by rw [set6_size]; exact Nat.le_refl _) (fun b hb => set6_far _ _ _ _ _ _ (by omega)) (fun k hk => set6_far _ _ _ _ _ _ (by have := (hlt k hk).1; omega))
  obtain ⟨hn, h1, h2, h3, h4⟩ := hV'.list
  subst hn
  exact RdX.of A c (by decide) (by decide) (by decide) (by decide) h1 ⟨h2, by omega⟩ h3 h4

end Go.Proofs.Ytaonlbmicjoclaa
