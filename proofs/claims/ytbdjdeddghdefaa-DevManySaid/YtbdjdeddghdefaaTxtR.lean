/- rows of texts, of falls -/
import Derived.Test.YtbdjdeddghdefaaDevM
import Derived.Test.YtbdjdeddghdefaaRowL
import Derived.Test.YtbdjdeddghdefaaTxt
import Derived.Laws.AppendOwnNone
import Derived.Deep.WholeRow
namespace Go.Proofs.Ytbdjdeddghdefaa
open Go.ChangeShapes Go.WideShapes Go.ChangeAt Go.RowKit Go.Deep

/-- a text, as a value -/
def strV (s : Sec) : Value := .string ⟨s.toArray⟩

/-- a row of texts of one's own -/
def Texts (w : World) (base : Nat) (v : Value) (l : List Sec) : Prop := w.ownsRow base 9 1 v l.length (l.map strV)

theorem Texts.on {w w' : World} {base : Nat} {v : Value} {l : List Sec} (h : Texts w base v l) (hb : Below w.heap.size w w') : Texts w' base v l := by
  refine World.ownsRow.kept (row := none) h ⟨hb.os, hb.tape, hb.output, hb.size, fun k hk _ => hb.block k hk⟩ ?_
  cases hv : v.ownBlock <;> simp

theorem info_text : (Try.prog.info? 9).map (fun i => (i.zero, i.size, i.bytes)) = some (some (.string ⟨#[]⟩), 1, 16) := by kernel_rfl

theorem Texts.ge {w : World} {base : Nat} {v : Value} {l : List Sec} (h : Texts w base v l) : ∀ g, v.ownBlock = some g → base ≤ g ∧ ∃ cs, w.heap[g]? = some (.cells cs 9 (0, 0)) := by
  intro g hg
  rcases h.2 with ⟨rfl, -⟩ | ⟨g', cap, cur, rfl, hbg, hh, -⟩
  · simp [Value.ownBlock] at hg
  · simp only [Value.ownBlock, Option.some.injEq] at hg
    subst hg
    exact ⟨hbg, cur, hh⟩

theorem Texts.only {w w' : World} {base : Nat} {v : Value} {l : List Sec} {ok : Nat → Prop} (h : Texts w base v l) (ho : Only ok w w') (hk : ∀ k, ok k → k < base ∨ w.heap.size ≤ k) : Texts w' base v l := by
  refine ⟨h.1, ?_⟩
  rcases h.2 with h2 | ⟨g, cap, cur, hv, hbg, hh, r⟩
  · exact .inl h2
  · refine .inr ⟨g, cap, cur, hv, hbg, (ho.block g (Array.getElem?_eq_some_iff.1 hh).1 fun h' => ?_).trans hh, r⟩
    have := hk g h'
    have := (Array.getElem?_eq_some_iff.1 hh).1
    omega

theorem run_append_text (w : World) (base : Nat) (v : Value) (l : List Sec) (s : Sec) (h : Texts w base v l) (hbytes : (l.length + 1) * 16 ≤ 140737488355328) (hb : base ≤ w.heap.size) (ty : TypeId) :
    ∃ v' w', (Builtin.append_ #[27, 27] ty #[v, .slice (some ⟨w.heap.size, 0, none⟩) 1 1]).run Try.prog (w.alloc (.cells #[strV s] 9)) = .ok v' w' ∧ Texts w' base v' (l ++ [s]) ∧
      Only (fun k => v.ownBlock = some k) w w' := by
  obtain ⟨i0, hi0, hz0, hz1, hz2⟩ := info_parts info_text
  have h1 : Texts (w.alloc (.cells #[strV s] 9)) base v l := h.on ((Below.refl _ w).alloc (Nat.le_refl _) _)
  obtain ⟨v', w2, hr, hown, hgr, -⟩ := run_append_own (P := Try.prog) (w.alloc (.cells #[strV s] 9)) base 27 ty 9 i0 _ 1 16 Try.underlying27 hi0 hz0 hz1 hz2 rfl (by decide) v l.length (l.map strV) h1 ⟨w.heap.size, 0, none⟩ 1 1 [strV s] rfl
    (fun j u hu => by
      rw [adr_add, Nat.zero_add, cell_of_row _ _ _ _ _ _ (heap_alloc_last w _), ← Array.getElem?_toList]
      exact hu) (by intro u hu; rw [List.mem_singleton] at hu; subst hu; rfl) (by unfold maxLen; omega) (by omega) (Nat.le_trans hb (by simp))
  refine ⟨v', w2, hr, ?_, ?_⟩
  · unfold Texts
    rw [List.length_append, List.map_append]
    exact hown
  · exact ((Only.refl _ w).alloc _).trans ⟨hgr.os, hgr.tape, hgr.output, hgr.size, fun k hk hn => hgr.block k hk (fun e => hn e.symm)⟩

/-- what a row of texts gives a walk -/
theorem Texts.form {w : World} {base : Nat} {v : Value} {l : List Sec} (h : Texts w base v l) :
    ∃ A cap, v = .slice A l.length cap ∧ l.length ≤ cap ∧ (l ≠ [] → ∃ g, A = some ⟨g, 0, none⟩ ∧ base ≤ g ∧ ∀ (i : Nat) s, l[i]? = some s → w.cell? ⟨g, i, none⟩ = some (.string ⟨s.toArray⟩)) := by
  rcases h.2 with ⟨rfl, h0⟩ | ⟨g, cap, cur, rfl, hb, hg, hc, -, -, ht⟩
  · refine ⟨none, 0, by rw [h0], by omega, fun hl => absurd (List.length_eq_zero_iff.1 h0) hl⟩
  · refine ⟨_, _, rfl, hc, fun _ => ⟨g, rfl, hb, fun i s hs => ?_⟩⟩
    rw [cell_of_row _ _ _ _ _ _ hg, ← Array.getElem?_toList]
    have h1 : (l.map strV)[i]? = some (strV s) := by rw [List.getElem?_map, hs]; rfl
    rw [← ht, List.getElem?_take] at h1
    split at h1
    · exact h1
    · cases h1

/-- a row of texts that a call makes -/
structure TB (w0 : World) (v : Value) (l : List Sec) (w : World) : Prop where
  below : Below w0.heap.size w0 w
  texts : Texts w w0.heap.size v l

theorem TB.on {w0 w w' : World} {v : Value} {l : List Sec} (h : TB w0 v l w) (hb : Below w.heap.size w w') : TB w0 v l w' :=
  ⟨h.below.trans (hb.mono h.below.size), h.texts.on hb⟩

theorem TB.none (w : World) : TB w (.slice (some ⟨w.heap.size, 0, none⟩) 0 0) [] (w.alloc (.cells #[] 9)) :=
  ⟨(Below.refl _ w).alloc (Nat.le_refl _) _, World.ownsRow_made w #[] 0 (Nat.le_refl _) (Nat.zero_le _) (by simp)⟩

theorem tb_append {w0 w : World} {v : Value} {l : List Sec} (h : TB w0 v l w) (s : Sec) (hl : l.length ≤ 65536) (ty : TypeId) :
    ∃ v' w', (Builtin.append_ #[27, 27] ty #[v, .slice (some ⟨w.heap.size, 0, none⟩) 1 1]).run Try.prog (w.alloc (.cells #[.string ⟨s.toArray⟩] 9)) = .ok v' w' ∧ TB w0 v' (l ++ [s]) w' := by
  obtain ⟨v', w', hr, ht, ho⟩ := run_append_text w w0.heap.size v l s h.texts (by omega) h.below.size ty
  exact ⟨v', w', hr, h.below.trans (ho.below h.below.size fun k hk => (h.texts.ge k hk).1), ht⟩

/-- texts that can be read -/
structure SeenT (w : World) (v : Value) (l : List Sec) : Prop where
  form : ∃ A cap, v = .slice A l.length cap ∧ l.length ≤ cap ∧ ∀ (i : Nat) s, l[i]? = some s → ∃ g o, A = some ⟨g, o, none⟩ ∧ w.cell? ⟨g, o + i, none⟩ = some (.string ⟨s.toArray⟩)

theorem Texts.seen {w : World} {base : Nat} {v : Value} {l : List Sec} (h : Texts w base v l) : SeenT w v l := by
  obtain ⟨A, cap, hv, hc, hx⟩ := h.form
  refine ⟨A, cap, hv, hc, fun i s hs => ?_⟩
  have hl : l ≠ [] := by rintro rfl; simp at hs
  obtain ⟨g, hA, -, hy⟩ := hx hl
  exact ⟨g, 0, hA, by rw [Nat.zero_add]; exact hy i s hs⟩

theorem below_nE {n : Nat} {w wr : World} (h : Below n w wr) (q : Nat) : Below n w (wr.drewN q) := ⟨h.os, h.tape, h.output, h.size, h.block⟩

theorem World.cell_lt {w : World} {p : Addr} {v : Value} (h : w.cell? p = some v) : p.block < w.heap.size := by
  rcases Nat.lt_or_ge p.block w.heap.size with h' | h'
  · exact h'
  · unfold World.cell? at h
    rw [Array.getElem?_eq_none h'] at h
    cases h

theorem SeenT.on {w w' : World} {v : Value} {l : List Sec} (h : SeenT w v l) (hb : Below w.heap.size w w') : SeenT w' v l := by
  obtain ⟨A, cap, hv, hc, hx⟩ := h.form
  refine ⟨A, cap, hv, hc, fun i s hs => ?_⟩
  obtain ⟨g, o, hA, hy⟩ := hx i s hs
  refine ⟨g, o, hA, ?_⟩
  rw [hb.cell (p := ⟨g, o + i, none⟩) (World.cell_lt hy)]
  exact hy

theorem same_str (s t : Sec) : ((⟨s.toArray⟩ : ByteArray) = ⟨t.toArray⟩) ↔ s = t := by
  constructor
  · intro h
    have := congrArg (fun b : ByteArray => b.data.toList) h
    simpa using this
  · rintro rfl; rfl

/-- a slice of falls that came in -/
structure InF (w : World) (v : Value) (l : List Fal) : Prop where
  form : ∃ A cap, v = .slice A l.length cap ∧ ∀ (i : Nat) f, l[i]? = some f → ∃ b o, A = some ⟨b, o, none⟩ ∧ f.keep < 18446744073709551616 ∧
    w.cell? ⟨b, o + i * 3, none⟩ = some (.int .i64 f.at_) ∧ w.cell? ⟨b, o + i * 3 + 1, none⟩ = some (.int .u64 (f.keep : Int)) ∧ w.cell? ⟨b, o + i * 3 + 2, none⟩ = some (.int .i64 f.torn)

theorem cell_below {w wr : World} (hb : Below w.heap.size w wr) {p : Addr} {v : Value} (h : w.cell? p = some v) : wr.cell? p = some v := (hb.cell (World.cell_lt h)).trans h

theorem Texts.base {w : World} {b b' : Nat} {v : Value} {l : List Sec} (h : Texts w b v l) (hb : b' ≤ b) : Texts w b' v l := by
  refine ⟨h.1, ?_⟩
  rcases h.2 with h2 | ⟨g, cap, cur, hv, hbg, r⟩
  · exact .inl h2
  · exact .inr ⟨g, cap, cur, hv, by omega, r⟩

/-- a row of texts copied -/
theorem run_copy_text {w : World} {base : Nat} {v : Value} {l : List Sec} (h : Texts w base v l) (hl : l.length ≤ 65536) (ty : TypeId) :
    ∃ v' w', (Builtin.append_ #[27, 27] ty #[.slice (some ⟨w.heap.size, 0, none⟩) 0 0, v]).run Try.prog (w.alloc (.cells #[] 9)) = .ok v' w' ∧ TB w v' l w' := by
  obtain ⟨i0, hi0, hz0, hz1, hz2⟩ := info_parts info_text
  have h0 := TB.none w
  rcases h.2 with ⟨rfl, hl0⟩ | ⟨g, cap, cur, rfl, -, hg, hc, -, -, ht⟩
  · have hl0' := List.length_eq_zero_iff.1 hl0
    subst hl0'
    have hr := run_append_owned_none (P := Try.prog) (w := w.alloc (.cells #[] 9)) w.heap.size 27 ty 9 i0 1 Try.underlying27 hi0 (.slice (some ⟨w.heap.size, 0, none⟩) 0 0) 0 [] h0.texts
    exact ⟨_, _, hr, h0⟩
  · have hrow : ∀ j u, (l.map strV)[j]? = some u → w.cell? ⟨g, j, none⟩ = some u := fun j u hu => by
      rw [cell_of_row _ _ _ _ _ _ hg, ← Array.getElem?_toList]
      rw [← ht, List.getElem?_take] at hu
      split at hu
      · exact hu
      · cases hu
    have hgw : g < w.heap.size := (Array.getElem?_eq_some_iff.1 hg).1
    obtain ⟨v', w2, hr, hown, hgr, -⟩ := run_append_own (P := Try.prog) (w.alloc (.cells #[] 9)) w.heap.size 27 ty 9 i0 _ 1 16 Try.underlying27 hi0 hz0 hz1 hz2 rfl (by decide) _ 0 [] h0.texts ⟨g, 0, none⟩ l.length cap (l.map strV) (by simp)
      (fun j u hu => by rw [adr_add, Nat.zero_add]; exact (World.cell?_of_block (a := ⟨g, j, none⟩) (Below.heap_alloc w _ g hgw)).trans (hrow j u hu)) (by intro u hu; obtain ⟨s, -, rfl⟩ := List.mem_map.1 hu; rfl) (by unfold maxLen; omega) (by omega) (by simp)
    refine ⟨v', w2, hr, h0.below.trans ⟨hgr.os, hgr.tape, hgr.output, hgr.size, fun k hk => hgr.block k (by simp; omega) (by simp only [Value.ownBlock, ne_eq, Option.some.injEq]; omega)⟩, ?_⟩
    rw [Nat.zero_add, List.nil_append] at hown
    exact hown

end Go.Proofs.Ytbdjdeddghdefaa
