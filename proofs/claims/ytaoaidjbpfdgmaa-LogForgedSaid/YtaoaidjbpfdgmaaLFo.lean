/- LogFalls: what it is handed, opened; its calls -/
import Derived.Test.YtaoaidjbpfdgmaaLFb
import Derived.Test.YtaoaidjbpfdgmaaDevQ
import Derived.Test.YtaoaidjbpfdgmaaDevO
import Derived.Laws.AppendOwnNone
namespace Go.Proofs.Ytaoaidjbpfdgmaa
open Go.ChangeShapes Go.WideShapes Go.ChangeAt Go.RowKit Go.Deep

/-- a slice of falls that came in -/
structure InF (w : World) (v : Value) (l : List Fal) : Prop where
  form : ∃ A cap, v = .slice A l.length cap ∧ ∀ (i : Nat) f, l[i]? = some f → ∃ b o, A = some ⟨b, o, none⟩ ∧ f.keep < 18446744073709551616 ∧
    w.cell? ⟨b, o + i * 3, none⟩ = some (.int .i64 f.at_) ∧ w.cell? ⟨b, o + i * 3 + 1, none⟩ = some (.int .u64 (f.keep : Int)) ∧ w.cell? ⟨b, o + i * 3 + 2, none⟩ = some (.int .i64 f.torn)

/-- a slice of bools that came in -/
structure InB (w : World) (v : Value) (l : List Bool) : Prop where
  form : ∃ A cap, v = .slice A l.length cap ∧ ∀ (i : Nat) x, l[i]? = some x → ∃ b o, A = some ⟨b, o, none⟩ ∧ w.cell? ⟨b, o + i, none⟩ = some (.bool x)

section
variable {H : Type} {enc : TypeId × Value → H} {w : World} {spare : Nat → Bool} {held : Bool}

set_option maxRecDepth 100000 in
theorem open_falls {v : Value} {b0 : Nat} {d : DataW H} {p : List MemPlace} (hv : Value.okWide Try.prog w .any b0 57 v) (h : DataW.Trod enc Try.prog w 0 spare held 57 v d p) :
    ∃ l, InF w v l := by
  obtain ⟨a0, len, cap, rfl⟩ := okWide_slice Try.underlying57 hv
  obtain ⟨fuel, hf⟩ := h
  have hf' : DataW.trod enc Try.prog w 0 spare held fuel 57 [.slice a0 len cap] = some (d, p) := hf
  rcases open_slice Try.underlying57 hf' with ⟨he, -⟩ | ⟨a, len', cap', m', n2, D, Pl, he, _, hl, hm, hmm, -, hi⟩
  · simp only [List.cons.injEq, and_true, Value.slice.injEq] at he
    obtain ⟨rfl, rfl, rfl⟩ := he
    exact ⟨[], ⟨none, 0, rfl, fun i f h => by simp at h⟩⟩
  · simp only [List.cons.injEq, and_true, Value.slice.injEq] at he
    obtain ⟨rfl, rfl, rfl⟩ := he
    rw [cells_fall] at hi
    have hle : len ≤ m' := by rw [hmm]; split <;> omega
    have hel : ∀ i, i < len → ∃ x : Fal, (∀ j u, [Value.int .i64 x.at_, .int .u64 (x.keep : Int), .int .i64 x.torn][j]? = some u → w.cell? (a.add (i * 3 + j)) = some u) ∧ x.keep < 18446744073709551616 := by
      intro i hil
      obtain ⟨cs', hcs, htr⟩ := hi i (by omega)
      obtain ⟨_, hcl', hcell⟩ := World.cells?_some hcs
      obtain ⟨xa, xt, xk, hx, -, -, hk⟩ := trod_fall htr
      refine ⟨⟨xa, xk, xt⟩, fun j u hu => ?_, hk⟩
      have hu' : cs'[j]? = some u := by rw [hx]; exact hu
      have hj : j < 3 := by have := (List.getElem?_eq_some_iff.1 hu').1; omega
      rw [← Go.Deep.add_add, hcell j hj, hu']
    obtain ⟨X, hX⟩ := @choose_lt Fal ⟨⟨0, 0, 0⟩⟩ len _ hel
    have hll : ((List.range len).map X).length = len := by simp
    refine ⟨(List.range len).map X, ⟨some a, cap, by rw [hll], fun i f hf => ?_⟩⟩
    rw [List.getElem?_map] at hf
    have hi' : i < len := by
      rcases Nat.lt_or_ge i len with h | h
      · exact h
      · rw [List.getElem?_eq_none (by simpa using h)] at hf; cases hf
    rw [List.getElem?_range hi'] at hf
    simp only [Option.map_some, Option.some.injEq] at hf
    subst hf
    obtain ⟨b, off, spot⟩ := a
    have c0 := (hX 0 (by omega)).1 0 _ rfl
    have hspot : spot = none := by simpa [Addr.add] using World.cell?_spot c0
    subst hspot
    have hadd : ∀ q, (⟨b, off, none⟩ : Addr).add q = ⟨b, off + q, none⟩ := fun q => by unfold Addr.add; split <;> simp_all
    have g : ∀ j u, [Value.int .i64 (X i).at_, .int .u64 ((X i).keep : Int), .int .i64 (X i).torn][j]? = some u → w.cell? ⟨b, off + i * 3 + j, none⟩ = some u := fun j u hu => by
      have := (hX i hi').1 j u hu
      rw [hadd, ← Nat.add_assoc] at this
      exact this
    exact ⟨b, off, rfl, (hX i hi').2, g 0 _ rfl, g 1 _ rfl, g 2 _ rfl⟩

set_option maxRecDepth 100000 in
theorem open_bools {v : Value} {b0 : Nat} {d : DataW H} {p : List MemPlace} (hv : Value.okWide Try.prog w .any b0 58 v) (h : DataW.Trod enc Try.prog w 0 spare held 58 v d p) :
    ∃ l, InB w v l := by
  obtain ⟨a0, len, cap, rfl⟩ := okWide_slice Try.underlying58 hv
  obtain ⟨fuel, hf⟩ := h
  rcases Go.Deep.open_slice1 Try.underlying58 (by kernel_rfl) hf with ⟨hcs, _⟩ | ⟨x, l, c, m, n, V, D, Pl, hcs, _, hl, hm, hmm, _, hcell⟩
  · simp [Value.cells] at hcs
    obtain ⟨rfl, rfl, rfl⟩ := hcs
    exact ⟨[], ⟨none, 0, rfl, fun i f h => by simp at h⟩⟩
  · simp [Value.cells] at hcs
    obtain ⟨rfl, rfl, rfl⟩ := hcs
    have hlm : len ≤ m := by rw [hmm]; split <;> omega
    have hfl : ∀ i, i < len → ∃ z, V i = .bool z := by
      intro i hi
      obtain ⟨h1, h2⟩ := hcell i (by omega)
      obtain ⟨z, hz, -⟩ := DataW.trod_bool Try.underlying4 h2
      simp at hz
      exact ⟨z, hz⟩
    have hll : ((List.range len).map fun i => match V i with | .bool z => z | _ => false).length = len := by simp
    refine ⟨(List.range len).map fun i => match V i with | .bool z => z | _ => false, ⟨some x, cap, by rw [hll], fun i z hi => ?_⟩⟩
    have hil : i < len := by have := (List.getElem?_eq_some_iff.1 hi).1; rwa [hll] at this
    obtain ⟨b, off, spot⟩ := x
    have hspot : spot = none := by simpa [Addr.add] using World.cell?_spot (hcell 0 (by omega)).1
    subst hspot
    have h1 := (hcell i (by omega)).1
    rw [Go.WideShapes.add_plain] at h1
    obtain ⟨y, hy⟩ := hfl i hil
    rw [List.getElem?_map, List.getElem?_range hil] at hi
    simp only [Option.map_some, hy, Option.some.injEq] at hi
    exact ⟨b, off, rfl, by rw [h1, hy, hi]⟩

end

theorem cell_below {w wr : World} (hb : Below w.heap.size w wr) {p : Addr} {v : Value} (h : w.cell? p = some v) : wr.cell? p = some v := (hb.cell (World.cell_lt h)).trans h

section
variable {n : Nat → Prop} {a w : World} {G B S M : Nat} {d : Dv} {g : Lg} {v : Value} {acc : List Sec}

theorem lt_plan_one (h : LT n a w G B S M d g v acc) {b : Nat} {f : Fal} (hw : w.heap[b]? = some (.cells (cellsF f).toArray 40 (0, 0))) (hk : f.keep < 18446744073709551616) (c : Nat) :
    Calls Try.prog 28 #[.pointer (some ⟨B, 0, none⟩), .slice (some ⟨b, 0, none⟩) 1 c] w fun e w' => e = .returned (.tuple #[]) ∧ LT n a w' G B S M { d with plan := [f] } g v acc := by
  refine (plan_one h.ld.self hw hk c).mono ?_
  rintro e w' ⟨rfl, h'⟩
  exact ⟨rfl, h.turn h'⟩

theorem lt_plan_none (h : LT n a w G B S M d g v acc) :
    Calls Try.prog 28 #[.pointer (some ⟨B, 0, none⟩), .slice none 0 0] w fun e w' => e = .returned (.tuple #[]) ∧ LT n a w' G B S M { d with plan := [] } g v acc := by
  refine (plan_none h.ld.self).mono ?_
  rintro e w' ⟨rfl, h'⟩
  exact ⟨rfl, h.turn h'⟩

theorem lt_up (h : LT n a w G B S M d g v acc) :
    Calls Try.prog 29 #[.pointer (some ⟨B, 0, none⟩)] w fun e w' => e = .returned (.bool d.off) ∧ LT n a w' G B S M { d with off := false } g v acc := by
  refine (ld_up h.ld.self).mono ?_
  rintro e w' ⟨rfl, h'⟩
  exact ⟨rfl, h.turn h'⟩

theorem lt_bytes (h : LT n a w G B S M d g v acc) : ∀ s ∈ d.sure, s.length = 128 := by
  obtain ⟨pv, hd⟩ := h.ld.now.dev
  exact hd.bytes

/-- opened anew; the texts that were there stay -/
theorem lt_open (h : LT n a w G B S M d g v acc) (hn : ∀ k, w.heap.size ≤ k → n k) (ho : d.off = false) (fr hi : Nat) (hft : fr ≤ hi) (hto : hi ≤ d.sure.length) (nx : Nat) (hn0 : nx ≠ 0) (hnx : nx < 18446744073709551616) :
    Calls Try.prog 15 #[.pointer (some ⟨B, 0, none⟩), .int .i64 fr, .int .i64 hi, .int .u64 nx] w fun e w' => ∃ v', e = .returned (.tuple #[.pointer (some ⟨w.heap.size, 0, none⟩), v', .int .i64 0]) ∧
      LT n a w' w.heap.size B S M d (openG d ⟨fr, hi, fr, nx⟩).2 v' (openG d ⟨fr, hi, fr, nx⟩).1 ∧ Texts w' (G + 1) v acc := by
  have hbG := h.bG; have hsG := h.sG; have hmG := h.mG
  have hGl := LogAt.lt h.ld.log
  have hself : NowK (fun k => k = B ∨ k = S ∨ k = M ∨ w.heap.size ≤ k) w w B S M d := ⟨h.ld.now.dev, Only.refl _ _, .inl rfl, .inr (.inl rfl), .inr (.inr (.inl rfl))⟩
  refine (open_any hself ho fr hi hft hto nx hn0 hnx (.inr (.inr (.inr (Nat.le_refl _))))).mono ?_
  rintro e w' ⟨v', rfl, h'⟩
  refine ⟨v', rfl, ⟨⟨⟨h'.ld.now.dev, h.ld.now.below.trans (h'.ld.now.below.mono ?_), h.ld.now.b, h.ld.now.s, h.ld.now.m⟩, h'.ld.log, hn _ (Nat.le_refl _), h'.ld.le, h'.ld.lt, h'.ld.next⟩, h'.texts, h'.bG, h'.sG, h'.mG, h.ld.now.below.size⟩, h.texts.only h'.ld.now.below ?_⟩
  · have h1 := h.ld.now.b; have h2 := h.ld.now.s; have h3 := h.ld.now.m
    rintro k hk (rfl | rfl | rfl | hk')
    · exact h1
    · exact h2
    · exact h3
    · exact hn k hk'
  · rintro k (rfl | rfl | rfl | hk') <;> omega

end

theorem Texts.base {w : World} {b b' : Nat} {v : Value} {l : List Sec} (h : Texts w b v l) (hb : b' ≤ b) : Texts w b' v l := by
  refine ⟨h.1, ?_⟩
  rcases h.2 with h2 | ⟨g, cap, cur, hv, hbg, r⟩
  · exact .inl h2
  · exact .inr ⟨g, cap, cur, hv, by omega, r⟩

/-- a row of texts copied -/
theorem run_copy_text {w : World} {base : Nat} {v : Value} {l : List Sec} (h : Texts w base v l) (hl : l.length ≤ 65536) (ty : TypeId) :
    ∃ v' w', (Builtin.append_ #[27, 27] ty #[.slice (some ⟨w.heap.size, 0, none⟩) 0 0, v]).run Try.prog (w.alloc (.cells #[] 9)) = .ok v' w' ∧ TB w v' l w' := by
  obtain ⟨i0, hi0, hz0, hz1, hz2⟩ := info_parts info_text
  have h0 := TB.none w
  rcases h.2 with ⟨rfl, hl0⟩ | ⟨g, cap, cur, rfl, -, hg, hc, -, -, ht⟩
  · have hl0' := List.length_eq_zero_iff.1 hl0
    subst hl0'
    have hr := run_append_owned_none (P := Try.prog) (w := w.alloc (.cells #[] 9)) w.heap.size 27 ty 9 i0 1 Try.underlying27 hi0 (.slice (some ⟨w.heap.size, 0, none⟩) 0 0) 0 [] h0.texts
    exact ⟨_, _, hr, h0⟩
  · have hrow : ∀ j u, (l.map strV)[j]? = some u → w.cell? ⟨g, j, none⟩ = some u := fun j u hu => by
      rw [cell_of_row _ _ _ _ _ _ hg, ← Array.getElem?_toList]
      rw [← ht, List.getElem?_take] at hu
      split at hu
      · exact hu
      · cases hu
    have hgw : g < w.heap.size := (Array.getElem?_eq_some_iff.1 hg).1
    obtain ⟨v', w2, hr, hown, hgr, -⟩ := run_append_own (P := Try.prog) (w.alloc (.cells #[] 9)) w.heap.size 27 ty 9 i0 _ 1 16 Try.underlying27 hi0 hz0 hz1 hz2 rfl (by decide) _ 0 [] h0.texts ⟨g, 0, none⟩ l.length cap (l.map strV) (by simp)
      (fun j u hu => by rw [adr_add, Nat.zero_add]; exact (World.cell?_of_block (a := ⟨g, j, none⟩) (Below.heap_alloc w _ g hgw)).trans (hrow j u hu)) (by intro u hu; obtain ⟨s, -, rfl⟩ := List.mem_map.1 hu; rfl) (by unfold maxLen; omega) (by omega) (by simp)
    refine ⟨v', w2, hr, h0.below.trans ⟨hgr.os, hgr.tape, hgr.output, hgr.size, fun k hk => hgr.block k (by simp; omega) (by simp only [Value.ownBlock, ne_eq, Option.some.injEq]; omega)⟩, ?_⟩
    rw [Nat.zero_add, List.nil_append] at hown
    exact hown

/-- a row copied, and one text more -/
theorem LT.other {n : Nat → Prop} {a w w' : World} {G B S M : Nat} {d : Dv} {g : Lg} {v v' : Value} {acc l : List Sec} (h : LT n a w G B S M d g v acc) (h' : TB w v' l w') : LT n a w' G B S M d g v' l := by
  have h1 := h.on h'.below
  exact ⟨h1.ld, h'.texts.base (LogAt.lt h.ld.log), h.bG, h.sG, h.mG, h.new⟩

end Go.Proofs.Ytaoaidjbpfdgmaa
