/- Range -/
import Derived.Test.YtmhpgbhmhbldfaaTrD1
import Derived.Test.YtmhpgbhmhbldfaaTrS3
namespace Go.Proofs.Ytmhpgbhmhbldfaa
open Go.ChangeShapes Go.WideShapes Go.ChangeAt Go.RowKit Go.Shelf

/-- .. none of its nodes' rows in a block of one's own -/
def TSO (w : World) (own : Nat → Prop) (t next root : Nat) (m : List ByteArray) : Prop :=
  (m = [] ∧ root = 0 ∧ IsT w t none none 0 next false) ∨
    ∃ M G laid T, T.id = root ∧ IsT w t (some M) (some G) root next false ∧ OwnU w M VNo laid ∧ Inv w (fun b => b = t ∨ own b) laid next T ∧ ¬ own M ∧ M ≠ t ∧ T.flat = m

theorem TSt.own {w w' : World} {own : Nat → Prop} {N t next root : Nat} {m : List ByteArray} (h : TSt w N t next root m) (hb : Below w.heap.size w w') (ho : ∀ b, own b → w.heap.size ≤ b) : TSO w' own t next root m := by
  rcases h with ⟨-, ⟨e, e', h⟩ | ⟨M, G, laid, T, -, e', h, hM, hG, hne, hl, hi, e⟩⟩
  · exact .inl ⟨e, e', h.on hb h.cells.2.2⟩
  · refine .inr ⟨M, G, laid, T, e', h.on hb h.cells.2.2, hM.keep (hb.block _ hM.lt), ?_, fun hx => by have := ho _ hx; have := hM.lt; omega, ?_, e⟩
    · refine Inv.on (w := w) ⟨fun x hx => (hi.nodes x hx).wide (fun b hb' => ?_), hi.nodup, hi.low, hi.ris⟩ hb
      rcases hb' with rfl | hb'
      · exact .inl (.inl rfl)
      · exact .inr (ho _ hb')
    · rintro rfl
      exact hM.no_cells h

/-- below's four boxes -/
def RgB (w : World) (q id deep : Nat) (lo hi : ByteArray) (M G : Nat) : Prop :=
  w.heap[q + 3]? = some (.cells #[.int .i64 (deep : Int)] 3 (0, 0)) ∧ w.heap[q]? = some (.cells #[.nilFunc, .map (some M), .map (some G)] 48 (0, 0)) ∧ w.heap[q + 1]? = some (.cells #[.int .u64 (id : Int)] 26 (0, 0)) ∧ SpB w (q + 2) lo hi

theorem RgB.on {w w' : World} {q id deep : Nat} {lo hi : ByteArray} {M G : Nat} (h : RgB w q id deep lo hi M G) (hb : Below w.heap.size w w') : RgB w' q id deep lo hi M G :=
  ⟨(hb.block _ (Array.getElem?_eq_some_iff.1 h.1).1).trans h.1, (hb.block _ (Array.getElem?_eq_some_iff.1 h.2.1).1).trans h.2.1, (hb.block _ (Array.getElem?_eq_some_iff.1 h.2.2.1).1).trans h.2.2.1, (hb.block _ h.2.2.2.cells.2.2).trans h.2.2.2⟩

/-- a function value below$1 and its boxes -/
def RgF (w : World) (id deep : Nat) (lo hi : ByteArray) (M G : Nat) (v : Value) (w' : World) : Prop :=
  ∃ q, w.heap.size ≤ q ∧ v = .func (.func 37) #[] #[.pointer (some ⟨q + 3, 0, none⟩), .pointer (some ⟨q, 0, none⟩), .pointer (some ⟨q + 1, 0, none⟩), .pointer (some ⟨q + 2, 0, none⟩)] ∧ RgB w' q id deep lo hi M G

theorem below_d (id deep : Nat) (lo hi : ByteArray) (M G : Nat) (w : World) :
    Calls Try.prog 23 #[.agg #[.nilFunc, .map (some M), .map (some G)], .int .u64 (id : Int), .agg #[.string lo, .string hi], .int .i64 (deep : Int)] w fun e w' => ∃ v, e = .returned v ∧ RgF w id deep lo hi M G v w' ∧ Below w.heap.size w w' := by
  refine (below_c id deep lo hi M G w).mono ?_
  rintro e w' ⟨rfl, rfl⟩
  have e0 := heap_alloc_new w (.cells #[.nilFunc, .map (some M), .map (some G)] 48)
  obtain ⟨w1, h1⟩ : ∃ w1, w.alloc (.cells #[.nilFunc, .map (some M), .map (some G)] 48) = w1 := ⟨_, rfl⟩
  have z1 : w1.heap.size = w.heap.size + 1 := by rw [← h1]; simp
  have b1 : Below w.heap.size w w1 := h1 ▸ (Below.refl _ _).alloc (Nat.le_refl _) _
  rw [h1] at e0 ⊢
  have e1 := heap_alloc_new w1 (.cells #[.int .u64 (id : Int)] 26)
  obtain ⟨w2, h2⟩ : ∃ w2, w1.alloc (.cells #[.int .u64 (id : Int)] 26) = w2 := ⟨_, rfl⟩
  have z2 : w2.heap.size = w.heap.size + 2 := by rw [← h2, World.size_alloc, z1]
  have b2 : Below w1.heap.size w1 w2 := h2 ▸ (Below.refl _ _).alloc (Nat.le_refl _) _
  rw [h2] at e1 ⊢
  have e2 := heap_alloc_new w2 (.cells #[.string lo, .string hi] 34)
  obtain ⟨w3, h3⟩ : ∃ w3, w2.alloc (.cells #[.string lo, .string hi] 34) = w3 := ⟨_, rfl⟩
  have z3 : w3.heap.size = w.heap.size + 3 := by rw [← h3, World.size_alloc, z2]
  have b3 : Below w2.heap.size w2 w3 := h3 ▸ (Below.refl _ _).alloc (Nat.le_refl _) _
  rw [h3] at e2 ⊢
  have e3 := heap_alloc_new w3 (.cells #[.int .i64 (deep : Int)] 3)
  have b4 : Below w3.heap.size w3 (w3.alloc (.cells #[.int .i64 (deep : Int)] 3)) := (Below.refl _ _).alloc (Nat.le_refl _) _
  rw [z1] at e1; rw [z2] at e2; rw [z3] at e3
  refine ⟨_, rfl, ⟨w.heap.size, Nat.le_refl _, rfl, e3, ?_, ?_, ?_⟩, ?_⟩
  · exact (b4.block _ (by omega)).trans ((b3.block _ (by omega)).trans ((b2.block _ (by omega)).trans e0))
  · exact (b4.block _ (by omega)).trans ((b3.block _ (by omega)).trans e1)
  · exact (b4.block _ (by omega)).trans e2
  · exact b1.trans ((b2.trans ((b3.trans (b4.mono b3.size)).mono b2.size)).mono b1.size)

/-- what Range hands out -/
def RgP (w : World) (own : Nat → Prop) (t : Nat) (m : List ByteArray) (lo hi : ByteArray) (e : Ending) (w' : World) : Prop :=
  ∃ gf lb, e = .returned (.func (.func gf) #[] lb) ∧ (∀ args W, (callFunc gf args).run Try.prog W = .ok (.enter gf args) W) ∧ Only (fun k => k = t) w w' ∧
    ∀ n, Iter Fence.wide n Try.prog gf lb (fun s : ByteArray => #[Value.string s]) (fun xs => xs = spanF lo hi m) (fun _ => True) (spanF lo hi m).length (fun b => b < w'.heap.size ∧ ¬ own b) w'

/-- no key at all -/
theorem range_none (m lo hi) (hm : m = ([] : List ByteArray)) (N n : Nat) (read : Nat → Prop) (w : World) : Iter Fence.wide n Try.prog 22 #[] (fun s : ByteArray => #[Value.string s]) (fun xs => xs = spanF lo hi m) (fun _ => True) N read w := by
  intro l J Jx mine W hJ hJx hH hY h0 hmi
  subst hm
  refine callsIn_wide.2 ?_
  have H := Lib.hid h0; have HJ := Lib.hid hJ
  clear hY hH hJx hJ h0 hmi
  show Calls Try.prog 22 #[.func (.yield l) #[] #[]] W _
  go_enter Try.func22, Try.ntmps22
  go_wp2_with fail
  go_end0
  exact ⟨⟨_, rfl⟩, .inl ⟨[], _, rfl, H.out⟩⟩

theorem range_empty {w : World} {own : Nat → Prop} {t next : Nat} (hT : IsT w t none none 0 next false) (lo hi : ByteArray) :
    Calls Try.prog 11 #[.pointer (some ⟨t, 0, none⟩), .agg #[.string lo, .string hi]] w (RgP w own t [] lo hi) := by
  have hb : Below w.heap.size w (w.alloc (.cells #[.string lo, .string hi] 34)) := (Below.refl _ _).alloc (Nat.le_refl _) _
  obtain ⟨⟨x0, x1, x2, x3, x4, x5⟩, -, -⟩ := (hT.on hb hT.cells.2.2).cells
  have heq := fun W => eql_treeptr t W
  have HB := Lib.hid hb
  clear hT hb
  go_enter Try.func11, Try.ntmps11
  go_wp2_with fail
  go_ret
  exact ⟨_, _, rfl, enters_of Try.func22 (by kernel_rfl) rfl, Only.of_below HB.out, fun n => range_none [] lo hi rfl _ n _ _⟩

theorem range_held {t g : Nat} {M G : Option Nat} {root : Nat} {lo hi : ByteArray} {W w1 w' : World} (hb : Below w1.heap.size w1 w')
    (h : (w1.cell? ⟨t, 0, none⟩ = some .nilFunc ∧ w1.cell? ⟨t, 1, none⟩ = some (.map M) ∧ w1.cell? ⟨t, 2, none⟩ = some (.map G) ∧ w1.cell? ⟨t, 3, none⟩ = some (.int .u64 (root : Int)) ∧ w1.cell? ⟨g, 0, none⟩ = some (.string lo) ∧ w1.cell? ⟨g, 1, none⟩ = some (.string hi)) ∧ Below W.heap.size W w1) :
    (w'.cell? ⟨t, 0, none⟩ = some .nilFunc ∧ w'.cell? ⟨t, 1, none⟩ = some (.map M) ∧ w'.cell? ⟨t, 2, none⟩ = some (.map G) ∧ w'.cell? ⟨t, 3, none⟩ = some (.int .u64 (root : Int)) ∧ w'.cell? ⟨g, 0, none⟩ = some (.string lo) ∧ w'.cell? ⟨g, 1, none⟩ = some (.string hi)) ∧ Below W.heap.size W w' := by
  obtain ⟨⟨h0, h1, h2, h3, h4, h5⟩, hw⟩ := h
  have lt : ∀ {b i : Nat} {v : Value}, w1.cell? ⟨b, i, none⟩ = some v → b < w1.heap.size := fun h => World.block_lt_of_cell? w1 _ h
  exact ⟨⟨(hb.cell (p := ⟨t, 0, none⟩) (lt h0)).trans h0, (hb.cell (p := ⟨t, 1, none⟩) (lt h0)).trans h1, (hb.cell (p := ⟨t, 2, none⟩) (lt h0)).trans h2, (hb.cell (p := ⟨t, 3, none⟩) (lt h0)).trans h3, (hb.cell (p := ⟨g, 0, none⟩) (lt h4)).trans h4, (hb.cell (p := ⟨g, 1, none⟩) (lt h4)).trans h5⟩, hw.trans (hb.mono hw.size)⟩

/-- what below$1 stands on, as Range hands it out -/
theorem range_blw {w W w' : World} {own : Nat → Prop} {t next M G q : Nat} {laid : List (Nat × Value)} {T : B ByteArray} {lo hi : ByteArray} (hO : Only (fun k => k = t) w W) (hb : Below W.heap.size W w') (hM : OwnU w M VNo laid) (hi' : Inv w (fun b => b = t ∨ own b) laid next T) (hno : ¬ own M) (hMt : M ≠ t) (hn : next < 400000) (hm : T.flat.length ≤ 60)
    (hown : ∀ b, own b → b < w.heap.size) (hq : w.heap.size ≤ q) (hR : RgB w' q T.id 64 lo hi M G) : Blw w' (fun b => b < w'.heap.size ∧ ¬ own b) (q + 3) q (q + 1) (q + 2) M G laid 64 T lo hi := by
  have hl : ∀ k, w.heap.size ≤ k → k < w'.heap.size → k < w'.heap.size ∧ ¬ own k := fun k h1 h2 => ⟨h2, fun h => by have := hown k h; omega⟩
  have hOw : Only (fun k => k = t) w w' := hO.trans (Only.of_below hb)
  have hkd : Keyed1 T.nodes := fun x hx => ⟨(hi'.nodes x hx).1.1, (hi'.nodes x hx).1.2.2⟩
  have hk : ∀ x ∈ T.nodes, Laid w' (fun b => b = t ∨ own b) laid x := fun x hx => (hi'.nodes x hx).only hOw (fun k h => .inl h)
  refine ⟨hR.1, hR.2.1, hR.2.2.1, hR.2.2.2, ⟨hl _ (by omega) (Array.getElem?_eq_some_iff.1 hR.1).1, hl _ (by omega) (Array.getElem?_eq_some_iff.1 hR.2.1).1, hl _ (by omega) (Array.getElem?_eq_some_iff.1 hR.2.2.1).1, hl _ (by omega) hR.2.2.2.cells.2.2, ⟨Nat.lt_of_lt_of_le hM.lt hOw.size, hno⟩⟩,
    hM.keep (hOw.block _ hM.lt hMt), fun x hx => (hk x hx).wide (fun b hb' => ?_), fun x hx => by have := hi'.low x hx; omega, hi'.ris, Nat.le_trans (hgt_flat T hkd) (by omega), Nat.le_refl _⟩
  by_cases h : b < w'.heap.size
  · exact .inl (.inr (Classical.not_not.1 fun hn => hb' ⟨h, hn⟩))
  · exact .inr (by omega)

set_option maxHeartbeats 2000000 in
set_option maxRecDepth 100000 in
theorem range_c {w : World} {own : Nat → Prop} {t next root : Nat} {m : List ByteArray} {lo hi : ByteArray} (h : TSO w own t next root m) (hown : ∀ b, own b → b < w.heap.size) (hm : m.length ≤ 60) (hn : next < 400000) (hks : ∀ k ∈ m, k.size ≤ 1000) (hlo : lo.size ≤ 281474976710656) (hhi : hi.size ≤ 281474976710656) :
    Calls Try.prog 11 #[.pointer (some ⟨t, 0, none⟩), .agg #[.string lo, .string hi]] w (RgP w own t m lo hi) := by
  rcases h with ⟨rfl, rfl, h⟩ | ⟨M, G, laid, T, rfl, hT, hM, hi', hno, hMt, rfl⟩
  · exact range_empty h lo hi
  obtain ⟨W1, hW1⟩ : ∃ W1, w.alloc (.cells #[.string lo, .string hi] 34) = W1 := ⟨_, rfl⟩
  obtain ⟨W, hW⟩ : ∃ W, W1.setCell ⟨t, 5, none⟩ (.bool true) = W := ⟨_, rfl⟩
  have hb1 : Below w.heap.size w W1 := hW1 ▸ (Below.refl _ _).alloc (Nat.le_refl _) _
  have hT1 := hT.on hb1 hT.cells.2.2
  have hs1 : SpB W1 w.heap.size lo hi := hW1 ▸ heap_alloc_new w _
  have hO : Only (fun k => k = t) w W := hW ▸ (Only.of_below (ok := fun k => k = t) hb1).setCell (p := ⟨t, 5, none⟩) (.inl rfl) _
  have htl := hT.cells.2.2
  have hTW : IsT W t (some M) (some G) T.id next true := by
    rw [← hW]
    unfold IsT at hT1 ⊢
    simp [World.setCell, Array.getElem?_modify, hT1]
  have hsW : SpB W w.heap.size lo hi := by
    rw [← hW]
    exact (Below.heap_setCell W1 ⟨t, 5, none⟩ _ _ (by show w.heap.size ≠ t; omega)).trans hs1
  obtain ⟨⟨z0, z1, z2, z3, z4, z5⟩, zf, -⟩ := hT1.cells
  have zf5 := zf 5
  obtain ⟨⟨y0, y1, y2, y3, -, -⟩, -, -⟩ := hTW.cells
  obtain ⟨⟨s0, s1⟩, -, -⟩ := hsW.cells
  have hroot : 1 ≤ T.id := (hi'.low _ (node_mem T)).1
  have hr1 : ((T.id : Int) == 0) = false := by have : ¬ ((T.id : Int) = 0) := by omega
                                               simpa using this
  have heq := fun W => eql_treeptr t W
  have HF : Hid (∀ v w', RgF W T.id 64 lo hi M G v w' → Below W.heap.size W w' → RgP w own t T.flat lo hi (.returned v) w') := Lib.hid (by
    rintro v w' ⟨q, hq, rfl, hR⟩ hb
    have hq' : w.heap.size ≤ q := Nat.le_trans hO.size hq
    have hBl := range_blw (own := own) hO hb hM hi' hno hMt hn hm hown hq' hR
    exact ⟨_, _, rfl, enters_of Try.func37 (by kernel_rfl) rfl, hO.trans (Only.of_below hb), fun n => blw_iter 64 T lo hi w' _ _ _ _ _ M G laid hBl (fun b hb => hb.1) (fun x hx k hk => hks k (flat_nodes T x hx k hk)) n⟩)
  have HC1 := Lib.hid (fun wn => cloneB lo wn hlo)
  have HC2 := Lib.hid (fun wn => cloneB hi wn hhi)
  have HC3 : Hid (∀ wn, Below W.heap.size W wn → Calls Try.prog 23 #[.agg #[.nilFunc, .map (some M), .map (some G)], .int .u64 (T.id : Int), .agg #[.string lo, .string hi], .int .i64 64] wn fun e w' => ∃ v, e = .returned v ∧ RgP w own t T.flat lo hi (.returned v) w' ∧ Below wn.heap.size wn w') := Lib.hid (fun wn hbn => (below_d T.id 64 lo hi M G wn).mono (by
    rintro e w' ⟨v, rfl, ⟨q, hq, h1, h2⟩, hb⟩
    exact ⟨v, rfl, HF.out v w' ⟨q, Nat.le_trans hbn.size hq, h1, h2⟩ (hbn.trans (hb.mono hbn.size)), hb⟩))
  have hBW := Below.refl W.heap.size W
  clear hb1 hT1 hs1 hO hTW hsW hT hM hi' zf hks hlo hhi hroot hm hn hno hMt hown
  go_enter Try.func11, Try.ntmps11
  go_wp2_with fail
  clear hW z0 z1 z2 z3 z4 z5 zf5
  go_region_held3 (fun w' => (w'.cell? ⟨t, 0, none⟩ = some .nilFunc ∧ w'.cell? ⟨t, 1, none⟩ = some (.map (some M)) ∧ w'.cell? ⟨t, 2, none⟩ = some (.map (some G)) ∧ w'.cell? ⟨t, 3, none⟩ = some (.int .u64 (T.id : Int)) ∧ w'.cell? ⟨w.heap.size, 0, none⟩ = some (.string lo) ∧ w'.cell? ⟨w.heap.size, 1, none⟩ = some (.string hi)) ∧ Below W.heap.size W w')
    (first | (exact range_held ((Below.refl W.heap.size W).drew) ⟨⟨y0, y1, y2, y3, s0, s1⟩, hBW⟩) | (exact range_held (by assumption) (by assumption)))
    (first
      | (go_at_call 21; (first | (with_reducible refine (HC1.out _).mono ?_) | (with_reducible refine (HC2.out _).mono ?_)); rintro e wn ⟨rfl, hbn⟩)
      | (go_at_call 23; (with_reducible refine (HC3.out _ (And.right (by assumption))).mono ?_); rintro e wn ⟨v, rfl, hv, hbn⟩))
  all_goals
    go_wp2_with fail
    go_ret
    exact (by assumption)

end Go.Proofs.Ytmhpgbhmhbldfaa
