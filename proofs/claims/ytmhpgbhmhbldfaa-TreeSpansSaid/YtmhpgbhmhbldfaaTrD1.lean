/- Add and Has of a tree -/
import Derived.Test.YtmhpgbhmhbldfaaTrP5
import Derived.Test.YtmhpgbhmhbldfaaClB
namespace Go.Proofs.Ytmhpgbhmhbldfaa
open Go.ChangeShapes Go.WideShapes Go.ChangeAt Go.RowKit Go.Shelf

theorem mix_keys {K : Type} : ∀ (ts : List (B K)) (ks : List K) (k : K), k ∈ ks → k ∈ mix ts ks
  | [], ks, k, h => by rw [mix_nil]; exact h
  | t :: ts, [], k, h => by cases h
  | t :: ts, k0 :: ks, k, h => by
    rw [mix_cons]
    rcases List.mem_cons.1 h with rfl | h
    · exact List.mem_append_right _ List.mem_cons_self
    · exact List.mem_append_right _ (List.mem_cons_of_mem _ (mix_keys ts ks k h))

theorem mix_none {K : Type} (t : B K) (ts : List (B K)) : mix (t :: ts) [] = t.flat ++ mix ts [] := by rw [mix]

mutual
theorem flat_nodes {K : Type} : ∀ (t : B K) (x : Nd K), x ∈ t.nodes → ∀ k ∈ x.2.1, k ∈ t.flat
  | .mk i ks ts, x, hx, k, hk => by
    rw [nodes_mk] at hx
    rw [B.flat]
    rcases List.mem_cons.1 hx with rfl | hx
    · exact mix_keys ts ks k hk
    · exact mix_nodes ts ks x hx k hk
theorem mix_nodes {K : Type} : ∀ (ts : List (B K)) (ks : List K) (x : Nd K), x ∈ nodesL ts → ∀ k ∈ x.2.1, k ∈ mix ts ks
  | [], ks, x, hx, k, hk => by rw [nodesL_nil] at hx; cases hx
  | t :: ts, ks, x, hx, k, hk => by
    rw [nodesL_cons] at hx
    cases ks with
    | nil =>
      rw [mix_none]
      rcases List.mem_append.1 hx with hx | hx
      · exact List.mem_append_left _ (flat_nodes t x hx k hk)
      · exact List.mem_append_right _ (mix_nodes ts [] x hx k hk)
    | cons k0 ks =>
      rw [mix_cons]
      rcases List.mem_append.1 hx with hx | hx
      · exact List.mem_append_left _ (flat_nodes t x hx k hk)
      · exact List.mem_append_right _ (List.mem_cons_of_mem _ (mix_nodes ts ks x hx k hk))
end

/-- but for a tree's own cells, whatever is cells stays -/
structure CellsKeep (t : Nat) (w w' : World) : Prop where
  os : w'.os = w.os
  tape : w'.tape = w.tape
  output : w'.output = w.output
  size : w.heap.size ≤ w'.heap.size
  block : ∀ b cs T q, b ≠ t → w.heap[b]? = some (.cells cs T q) → w'.heap[b]? = some (.cells cs T q)

theorem CellsKeep.trans {t : Nat} {a b c : World} (h : CellsKeep t a b) (k : CellsKeep t b c) : CellsKeep t a c :=
  ⟨k.os.trans h.os, k.tape.trans h.tape, k.output.trans h.output, Nat.le_trans h.size k.size, fun x cs T q hx hh => k.block x cs T q hx (h.block x cs T q hx hh)⟩

theorem CellsKeep.of_below {t : Nat} {a b : World} (h : Below a.heap.size a b) : CellsKeep t a b :=
  ⟨h.os, h.tape, h.output, h.size, fun x _ _ _ _ hh => (h.block x (Array.getElem?_eq_some_iff.1 hh).1).trans hh⟩

theorem CellsKeep.of_only {t M G : Nat} {a b : World} {laid : List (Nat × Value)} (h : Only (badT t M G) a b) (hM : OwnU a M VNo laid) (hG : OwnU a G VGo ([] : List (Nat × Unit))) : CellsKeep t a b :=
  ⟨h.os, h.tape, h.output, h.size, fun x _ _ _ hx hh => (h.block x (Array.getElem?_eq_some_iff.1 hh).1 (by
    rintro (e | e | e)
    · exact hx e
    · subst e; exact hM.no_cells hh
    · subst e; exact hG.no_cells hh)).trans hh⟩

theorem CellsKeep.of_t {t : Nat} {a b : World} (h : Only (fun k => k = t) a b) : CellsKeep t a b :=
  ⟨h.os, h.tape, h.output, h.size, fun x _ _ _ hx hh => (h.block x (Array.getElem?_eq_some_iff.1 hh).1 hx).trans hh⟩

theorem cell_text {w : World} {t : Nat} {laid gone : Option Nat} {root next : Nat} {lent : Bool} (hT : IsT w t laid gone root next lent) {b i : Nat} {s : ByteArray} (h : w.cell? ⟨b, i, none⟩ = some (.string s)) : b ≠ t := by
  rintro rfl
  rw [cell_of_row _ _ _ _ _ _ hT] at h
  rcases i with _ | _ | _ | _ | _ | _ | i <;> simp at h

/-- a row of texts stays -/
theorem SAt.keepT {w w' : World} {t B : Nat} {laid gone : Option Nat} {root next : Nat} {lent : Bool} {A : Option Addr} {l : List ByteArray} (h : SAt w B A l) (hT : IsT w t laid gone root next lent) (hk : CellsKeep t w w') : SAt w' B A l := by
  intro i s hi
  obtain ⟨b, o, e, hb, hc⟩ := h i s hi
  refine ⟨b, o, e, hb, ?_⟩
  obtain ⟨ob, ho, hcl⟩ := cells_of_cell hc
  have hne := cell_text hT hc
  cases ob with
  | cells cs T q => exact (World.cell?_of_block ((hk.block b cs T q hne ho).trans ho.symm)).trans hc
  | _ => simp [Obj.isCells] at hcl

/-- a tree that holds keys, in blocks from N on; its root told -/
def TSt (w : World) (N t next root : Nat) (m : List ByteArray) : Prop :=
  N ≤ t ∧ ((m = [] ∧ root = 0 ∧ IsT w t none none 0 next false) ∨
    ∃ M G laid T, (N ≤ M ∧ N ≤ G) ∧ T.id = root ∧ IsT w t (some M) (some G) root next false ∧ OwnU w M VNo laid ∧ OwnU w G VGo ([] : List (Nat × Unit)) ∧ M ≠ G ∧ (∀ p ∈ laid, p.1 < next) ∧ Inv w (badT t M G) laid next T ∧ T.flat = m)

theorem TSt.isT {w : World} {N t next root : Nat} {m : List ByteArray} (h : TSt w N t next root m) : ∃ laid gone, IsT w t laid gone root next false := by
  rcases h with ⟨-, ⟨-, rfl, h⟩ | ⟨M, G, laid, T, -, -, h, -⟩⟩
  · exact ⟨_, _, h⟩
  · exact ⟨_, _, h⟩

theorem TSt.on {w w' : World} {N t next root : Nat} {m : List ByteArray} (h : TSt w N t next root m) (hb : Below w.heap.size w w') : TSt w' N t next root m := by
  rcases h with ⟨hN, ⟨e, e', h⟩ | ⟨M, G, laid, T, hMG, e', h, hM, hG, hne, hl, hi, e⟩⟩
  · exact ⟨hN, .inl ⟨e, e', h.on hb h.cells.2.2⟩⟩
  · exact ⟨hN, .inr ⟨M, G, laid, T, hMG, e', h.on hb h.cells.2.2, hM.keep (hb.block _ hM.lt), hG.keep (hb.block _ hG.lt), hne, hl, hi.on hb, e⟩⟩

theorem TSt.low {w : World} {N N' t next root : Nat} {m : List ByteArray} (h : TSt w N t next root m) (hN' : N' ≤ N) : TSt w N' t next root m := by
  rcases h with ⟨hN, h | ⟨M, G, laid, T, ⟨h1, h2⟩, h⟩⟩
  · exact ⟨Nat.le_trans hN' hN, .inl h⟩
  · exact ⟨Nat.le_trans hN' hN, .inr ⟨M, G, laid, T, ⟨Nat.le_trans hN' h1, Nat.le_trans hN' h2⟩, h⟩⟩

theorem ris_ins {k : ByteArray} {a b : List ByteArray} (h : RisK ltS (a ++ b)) (ha : ∀ x ∈ a, ltS x k = true) (hb : ∀ x ∈ b, ltS k x = true) : RisK ltS (a ++ k :: b) := by
  obtain ⟨h1, h2, h3⟩ := List.pairwise_append.1 h
  refine List.pairwise_append.2 ⟨h1, List.pairwise_cons.2 ⟨hb, h2⟩, fun x hx y hy => ?_⟩
  rcases List.mem_cons.1 hy with rfl | hy
  · exact ha x hx
  · exact h3 x hx y hy

/-- what goes up is the tree with the key in its place -/
theorem up_ins {w : World} {bad : Nat → Prop} {laid : List (Nat × Value)} {next : Nat} {T c d : B ByteArray} {z : List (Fr ByteArray)} {k : ByteArray} (h : Inv w bad laid next T) (hp : plug z c = T) (hc : c.kids = []) (hg : GoodZ z) (hk : ∀ f ∈ z, f.at_ = placeK ltS k f.keys ∧ k ∉ f.keys) (hkc : k ∉ c.keys) :
    (up 4 2 z ⟨c.id, c.keys, [], placeK ltS k c.keys⟩ k d next).1.flat = insK ltS k T.flat ∧ RisK ltS (insK ltS k T.flat) := by
  have hr : RisK ltS (plug z c).flat := by rw [hp]; exact h.ris
  obtain ⟨a, b, e1, e2, h3, h4⟩ := ctx ltS linS k 4 2 z c hg hr hk
  have e3 := e2 ⟨c.id, c.keys, [], placeK ltS k c.keys⟩ k d next ⟨.inl rfl, placeK_le _ _ _⟩
  have e4 : tsUp (⟨c.id, c.keys, [], placeK ltS k c.keys⟩ : Fr ByteArray) d = [] := if_pos rfl
  rw [e4, mix_nil] at e3
  have e5 : T.flat = (a ++ c.keys.take (placeK ltS k c.keys)) ++ (c.keys.drop (placeK ltS k c.keys) ++ b) := by
    rw [← hp, e1, flat_leaf hc]
    simp only [List.append_assoc]
    rw [← List.append_assoc (c.keys.take _), List.take_append_drop]
  have hrc : RisK ltS c.keys := by
    rw [e1, flat_leaf hc] at hr
    exact hr.sublist ((List.sublist_append_right a _).trans (List.sublist_append_left _ b))
  have ha : ∀ x ∈ a ++ c.keys.take (placeK ltS k c.keys), ltS x k = true := fun x hx => by
    rcases List.mem_append.1 hx with hx | hx
    · exact h3 x hx
    · exact placeK_take x hx
  have hb : ∀ x ∈ c.keys.drop (placeK ltS k c.keys) ++ b, ltS k x = true := fun x hx => by
    rcases List.mem_append.1 hx with hx | hx
    · exact placeK_drop linS hrc hkc x hx
    · exact h4 x hx
  have hT := h.ris
  rw [e5] at hT
  rw [e5, insK_at linS ha hb]
  refine ⟨?_, ris_ins hT ha hb⟩
  rw [e3]
  unfold ksUp
  simp

/-- a key that is there is not put twice -/
def AddYes (w : World) (N t next root : Nat) (m : List ByteArray) (e : Ending) (w' : World) : Prop := e = .returned (.tuple #[.bool false, .int .i64 0]) ∧ Below w.heap.size w w' ∧ TSt w' N t next root m

/-- a key is put -/
def AddNo (w : World) (N t next : Nat) (m : List ByteArray) (k : ByteArray) (e : Ending) (w' : World) : Prop :=
  e = .returned (.tuple #[.bool true, .int .i64 0]) ∧ ∃ next' root', next ≤ next' ∧ next' ≤ next + 70 ∧ (m = [] → next' = next + 1 ∧ root' = next) ∧ TSt w' N t next' root' (insK ltS k m) ∧ CellsKeep t w w' ∧ Below N w w'

theorem eql_treeptr (t : Nat) (W : World) : (binOp .eql 24 (.pointer (some ⟨t, 0, none⟩)) (.pointer none)).run Try.prog W = .ok (.bool false) W := by
  have hq : ∀ d, (Op.equalIn (d + 1) 24 (.pointer (some ⟨t, 0, none⟩)) (.pointer none)).run Try.prog W = .ok false W := fun d => by
    simp [Op.equalIn, run_underlying Try.underlying24]
  simp only [binOp]
  simp [show Op.equal 24 (.pointer (some ⟨t, 0, none⟩)) (.pointer none) = Op.equalIn (9999 + 1) 24 (.pointer (some ⟨t, 0, none⟩)) (.pointer none) from rfl, hq 9999]

set_option maxHeartbeats 2000000 in
set_option maxRecDepth 100000 in
theorem add_yes {w : World} {N t next root : Nat} {m : List ByteArray} {k : ByteArray} (h : TSt w N t next root m) (hk : k.size ≤ 90) (hm : m.length ≤ 60) (hn : next < 400000) (hin : k ∈ m) :
    Calls Try.prog 8 #[.pointer (some ⟨t, 0, none⟩), .string k] w (AddYes w N t next root m) := by
  have HS := Lib.hid h
  rcases h with ⟨-, ⟨rfl, -⟩ | ⟨M, G, laid, T, -, rfl, hT, hM, hG, hne, hl, hi, rfl⟩⟩
  · cases hin
  have HC := Lib.hid (way_c hT hM hi (by omega) hm k)
  have hk2 : (k.size : Int) ≤ 90 := by omega
  have hk3 : ¬ (90 : Int) < (k.size : Int) := by omega
  have heq := fun W => eql_treeptr t W
  clear hT hM hG hl hi hm hk
  go_enter Try.func8, Try.ntmps8
  go_wp2_with fail
  refine HC.out.mono ?_
  rintro e w1 ⟨v, b, rfl, hb, ⟨rfl, -⟩ | ⟨-, h2, -⟩⟩
  · have HB := Lib.hid hb
    clear hb
    go_wp2_with fail
    go_ret2
    exact ⟨rfl, HB.out, HS.out.on HB.out⟩
  · exact absurd hin h2

set_option maxHeartbeats 2000000 in
set_option maxRecDepth 100000 in
theorem add_no {w : World} {N t next root : Nat} {m : List ByteArray} {k : ByteArray} (h : TSt w N t next root m) (hNw : N ≤ w.heap.size) (hk : k.size ≤ 90) (hm : m.length ≤ 60) (h1 : 1 ≤ next) (hn : next < 400000) (hin : k ∉ m) :
    Calls Try.prog 8 #[.pointer (some ⟨t, 0, none⟩), .string k] w (AddNo w N t next m k) := by
  have hk2 : (k.size : Int) ≤ 90 := by omega
  have hk3 : ¬ (90 : Int) < (k.size : Int) := by omega
  have hks : k.size ≤ 281474976710656 := by omega
  have heq := fun W => eql_treeptr t W
  rcases h with ⟨hNt, ⟨rfl, rfl, hT⟩ | ⟨M, G, laid, T, hMG, rfl, hT, hM, hG, hne, hl, hi, rfl⟩⟩
  · have HC := Lib.hid (way_zero hT k)
    have HT := Lib.hid hT; have HN := Lib.hid (And.intro h1 hn); have HNT := Lib.hid (And.intro hNt hNw)
    clear hT hm hk hNt hNw
    go_enter Try.func8, Try.ntmps8
    go_wp2_with fail
    refine HC.out.mono ?_
    rintro e w1 ⟨rfl, hb1⟩
    have HB1 := Lib.hid hb1
    have HC2 := Lib.hid (own_first (HT.out.on hb1 HT.out.cells.2.2))
    clear hb1
    go_wp2_with fail
    refine HC2.out.mono ?_
    rintro e w2 ⟨rfl, M, G, hT2, hM2, hG2, hne, hM0, hG0, hO2⟩
    have hz1 := HB1.out.size
    have HMG : Hid (N ≤ M ∧ N ≤ G) := Lib.hid (by have := HNT.out.2; omega)
    have HC3 := Lib.hid (cloneB k w2 hks)
    have HT2 := Lib.hid hT2; have HM2 := Lib.hid hM2; have HG2 := Lib.hid hG2; have HO2 := Lib.hid hO2
    clear hT2 hM2 hG2 hO2 hM0 hG0 hz1
    go_wp2_with fail
    refine HC3.out.mono ?_
    rintro e w3 ⟨rfl, hb3⟩
    have HB3 := Lib.hid hb3
    have HC4 := Lib.hid (put_first (k := k) (HT2.out.on hb3 HT2.out.cells.2.2) (HM2.out.keep (hb3.block _ HM2.out.lt)) (HG2.out.keep (hb3.block _ HG2.out.lt)) hne HN.out.1 (by have := HN.out.2; omega))
    clear hb3
    go_wp2_with fail
    refine HC4.out.mono ?_
    rintro e w4 ⟨rfl, laid, ⟨k1, k2, k3, k4, k5⟩, kw⟩
    have HF : Hid (AddNo w N t next [] k (.returned (.tuple #[.bool true, .int .i64 0])) w4) := Lib.hid (by
      refine ⟨rfl, next + 1, next, by omega, by omega, fun _ => ⟨rfl, rfl⟩, ⟨HNT.out.1, .inr ⟨M, G, laid, .mk next [k] [], HMG.out, rfl, k1, k2, k3, hne, k4, ⟨kw.1, kw.2.1, fun x hx => kw.2.2 x.1 (List.mem_map.2 ⟨x, hx, rfl⟩), ?_⟩, ?_⟩⟩, ?_, ?_⟩
      · rw [B.flat, mix_nil]; exact List.pairwise_singleton _ _
      · rw [B.flat, mix_nil]; rfl
      · exact (((CellsKeep.of_below HB1.out).trans (CellsKeep.of_t HO2.out)).trans (CellsKeep.of_below HB3.out)).trans (CellsKeep.of_only k5 (HM2.out.keep (HB3.out.block _ HM2.out.lt)) (HG2.out.keep (HB3.out.block _ HG2.out.lt)))
      · have hn1 := HNT.out
        have hs1 := HB1.out.size
        have hs2 := HO2.out.size
        have hs3 := HB3.out.size
        have hbt : ∀ b, badT t M G b → N ≤ b := fun b hb => by
          rcases hb with rfl | rfl | rfl
          · exact hn1.1
          · exact HMG.out.1
          · exact HMG.out.2
        exact (HB1.out.mono hn1.2).trans ((HO2.out.below (by omega) (fun b hb => hbt b (.inl hb))).trans ((HB3.out.mono (by omega)).trans (k5.below (by omega) hbt))))
    clear k1 k2 k3 k4 k5 kw
    go_wp2_with fail
    go_ret2
    exact HF.out
  · have HC := Lib.hid (way_c hT hM hi (by omega) hm k)
    have HT := Lib.hid hT; have HM := Lib.hid hM; have HG := Lib.hid hG; have HL := Lib.hid hl; have HI := Lib.hid hi; have HN := Lib.hid (And.intro h1 hn); have HFL := Lib.hid hm; have HNT := Lib.hid (And.intro hNt hNw); have HMG := Lib.hid hMG
    clear hT hM hG hl hi hm hk hNt hNw hMG
    go_enter Try.func8, Try.ntmps8
    go_wp2_with fail
    refine HC.out.mono ?_
    rintro e w1 ⟨v, b, rfl, hb1, ⟨rfl, hx⟩ | ⟨rfl, -, hway⟩⟩
    · exact absurd hx hin
    obtain ⟨z, c, l, g, cap, rfl, hg, hst, hp, hc, hz, hlk, hkk, hkc, hs⟩ := hway
    have hTl := HT.out.cells.2.2
    have hT1 := HT.out.on hb1 hTl
    have HC2 := Lib.hid (own_c hT1)
    have HW := Lib.hid (And.intro hg (And.intro hst (And.intro hp (And.intro hc (And.intro hz (And.intro hlk (And.intro hkk (And.intro hkc hs))))))))
    have HB1 := Lib.hid hb1; have HT1 := Lib.hid hT1; have HTL := Lib.hid hTl
    clear hb1 hg hst hp hc hz hlk hkk hkc hs hT1 hTl
    go_wp2_with fail
    refine HC2.out.mono ?_
    rintro e w2 ⟨rfl, hb2⟩
    have HC3 := Lib.hid (cloneB k w2 hks)
    have HB2 := Lib.hid hb2
    clear hb2
    go_wp2_with fail
    refine HC3.out.mono ?_
    rintro e w3 ⟨rfl, hb3⟩
    have hb13 := HB2.out.trans (hb3.mono HB2.out.size)
    have hb03 := HB1.out.trans (hb13.mono HB1.out.size)
    have HB03 := Lib.hid hb03
    obtain ⟨hg, hst, hp, hc, hz, hlk, hkk, hkc, hs⟩ := HW.out
    have hll : l.length ≤ 62 := by
      obtain ⟨-, -, -, -, -, h6, -⟩ := way_node HI.out hp hz hkk
      have h7 := hs.len
      have h8 := HFL.out
      simp only [List.length_cons] at h7
      omega
    have hM3 := HM.out.keep (hb03.block _ HM.out.lt)
    have hG3 := HG.out.keep (hb03.block _ HG.out.lt)
    have HC4 := Lib.hid (put_c (m := l.length) (cap := cap) (T := T) (k := k) (.mk 0 [] []) (HT.out.on hb03 HTL.out) hM3 hG3 HL.out (HI.out.on hb03) (hst.on hb13) (by have h1 := HM.out.lt; have h2 := HG.out.lt; have h3 := HTL.out; rintro (e | e | e) <;> omega) hp hc hz hlk hkk (hs.on hb13) hne HN.out.1 (by have := HN.out.2; omega) rfl hll)
    have HM3 := Lib.hid hM3; have HG3 := Lib.hid hG3
    clear hb3 hb13 hb03 hg hst hp hc hz hlk hkk hkc hs hM3 hG3 hll
    go_wp2_with fail
    refine HC4.out.mono ?_
    rintro e w4 ⟨rfl, laid', ⟨k1, k2, k3, k4, k5⟩, kw⟩
    have HF : Hid (AddNo w N t next T.flat k (.returned (.tuple #[.bool true, .int .i64 0])) w4) := Lib.hid (by
      obtain ⟨hg, hst, hp, hc, hz, hlk, hkk, hkc, hs⟩ := HW.out
      obtain ⟨u1, u2⟩ := up_next 4 2 z (⟨c.id, c.keys, [], placeK ltS k c.keys⟩ : Fr ByteArray) k (.mk 0 [] []) next
      obtain ⟨u3, u4⟩ := up_ins (d := .mk 0 [] []) HI.out hp hc hz hkk hkc
      obtain ⟨-, -, -, -, -, h6, -⟩ := way_node HI.out hp hz hkk
      have h8 := HFL.out
      have hTne : T.flat ≠ [] := fun e => by
        have h1 := flat_nodes T _ (node_mem T)
        have h2 := (HI.out.nodes _ (node_mem T)).1.1
        rw [e] at h1
        obtain ⟨y, hy⟩ := List.exists_mem_of_length_pos h2
        cases h1 y hy
      have hbt : ∀ b, badT t M G b → N ≤ b := fun b hb => by
        rcases hb with rfl | rfl | rfl
        · exact HNT.out.1
        · exact HMG.out.1
        · exact HMG.out.2
      refine ⟨rfl, _, _, u1, by omega, fun e => absurd e hTne, ⟨HNT.out.1, .inr ⟨M, G, laid', _, HMG.out, rfl, k1, k2, k3, hne, k4, ⟨kw.1, kw.2.1, fun x hx => kw.2.2 x.1 (List.mem_map.2 ⟨x, hx, rfl⟩), by rw [u3]; exact u4⟩, u3⟩⟩, ?_, ?_⟩
      · exact (CellsKeep.of_below HB03.out).trans (CellsKeep.of_only k5 HM3.out HG3.out)
      · exact (HB03.out.mono HNT.out.2).trans (k5.below (Nat.le_trans HNT.out.2 HB03.out.size) hbt))
    clear k1 k2 k3 k4 k5 kw
    go_wp2_with fail
    go_ret2
    exact HF.out

end Go.Proofs.Ytmhpgbhmhbldfaa
