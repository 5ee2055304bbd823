/- the document's device: laid -/
import Derived.Test.YtbdjdeddghdefaaRfA
namespace Go.Proofs.Ytbdjdeddghdefaa
open Go.ChangeShapes Go.WideShapes Go.ChangeAt Go.RowKit

/-- a row of texts, whosever, copied -/
theorem run_copy_seen {w : World} {v : Value} {l : List Sec} (h : SeenT w v l) (hne : 0 < l.length) (hl : l.length ≤ 65536) (ty : TypeId) :
    ∃ v' w', (Builtin.append_ #[27, 27] ty #[.slice (some ⟨w.heap.size, 0, none⟩) 0 0, v]).run Try.prog (w.alloc (.cells #[] 9)) = .ok v' w' ∧ TB w v' l w' := by
  obtain ⟨i0, hi0, hz0, hz1, hz2⟩ := info_parts info_text
  have h0 := TB.none w
  obtain ⟨A, cap, rfl, hc, hx⟩ := h.form
  obtain ⟨g, o, rfl, -⟩ := hx 0 l[0] (List.getElem?_eq_getElem hne)
  have hrow : ∀ j u, (l.map strV)[j]? = some u → w.cell? ⟨g, o + j, none⟩ = some u := fun j u hu => by
    rw [List.getElem?_map] at hu
    obtain ⟨s, hs, rfl⟩ := Option.map_eq_some_iff.1 hu
    obtain ⟨g2, o2, e, hy⟩ := hx j s hs
    simp only [Option.some.injEq, Addr.mk.injEq, and_true] at e
    obtain ⟨rfl, rfl⟩ := e
    exact hy
  have hadd : ∀ j, (⟨g, o, none⟩ : Addr).add j = ⟨g, o + j, none⟩ := fun j => by unfold Addr.add; split <;> simp_all
  have hgw : g < w.heap.size := World.cell_lt (hrow 0 (strV l[0]) (by rw [List.getElem?_map, List.getElem?_eq_getElem hne]; rfl))
  obtain ⟨v', w2, hr, hown, hgr, -⟩ := run_append_own (P := Try.prog) (w.alloc (.cells #[] 9)) w.heap.size 27 ty 9 i0 _ 1 16 Try.underlying27 hi0 hz0 hz1 hz2 rfl (by decide) _ 0 [] h0.texts ⟨g, o, none⟩ l.length cap (l.map strV) (by simp)
    (fun j u hu => by rw [hadd]; exact (World.cell?_of_block (a := ⟨g, o + j, none⟩) (Below.heap_alloc w _ g hgw)).trans (hrow j u hu)) (by intro u hu; obtain ⟨s, -, rfl⟩ := List.mem_map.1 hu; rfl) (by unfold maxLen; omega) (by omega) (by simp)
  refine ⟨v', w2, hr, h0.below.trans ⟨hgr.os, hgr.tape, hgr.output, hgr.size, fun k hk => hgr.block k (by simp; omega) (by simp only [Value.ownBlock, ne_eq, Option.some.injEq]; omega)⟩, ?_⟩
  rw [Nat.zero_add, List.nil_append] at hown
  exact hown

/-- one text of a row of one's own laid anew -/
theorem TB.set_ {w0 w : World} {g cap : Nat} {l : List Sec} (h : TB w0 (.slice (some ⟨g, 0, Option.none⟩) l.length cap) l w) {i : Nat} (hi : i < l.length) (s : Sec) :
    w0.heap.size ≤ g ∧ w.frozen? ⟨g, i, Option.none⟩ = false ∧ (∃ u, w.cell? ⟨g, i, Option.none⟩ = some u) ∧ TB w0 (.slice (some ⟨g, 0, Option.none⟩) l.length cap) (l.set i s) (w.setCell ⟨g, i, Option.none⟩ (strV s)) := by
  obtain ⟨h1, h2⟩ := h.texts
  rcases h2 with ⟨e, -⟩ | ⟨g', cap', cur, e, hg, hh, hc, hm, hsz, ht⟩
  · cases e
  simp only [Value.slice.injEq, Option.some.injEq, Addr.mk.injEq, and_true, true_and] at e
  obtain ⟨rfl, rfl⟩ := e
  have hcur : i < cur.size := by omega
  refine ⟨hg, by simp [World.frozen?, hh], ⟨cur[i], by rw [cell_of_row _ _ _ _ _ _ hh, Array.getElem?_eq_getElem hcur]⟩, h.below.setCell (p := ⟨g, i, Option.none⟩) hg _, by simp, .inr ⟨g, cap, cur.setIfInBounds i (strV s), by simp, hg, Go.heap_setCell_same w g i _ _ _ hh, by simpa using hc, hm, by simpa using hsz, ?_⟩⟩
  rw [Array.toList_setIfInBounds, List.take_set, Nat.mul_one]
  rw [Nat.mul_one] at ht
  simp only [List.length_set]
  rw [ht, List.map_set]

set_option maxRecDepth 100000 in
theorem rflaid_any {w : World} {v : Value} {l : List Sec} (h : SeenT w v l) (hl : l.length ≤ 65536) (i : Nat) (hi : i < l.length) (s : Sec) :
    Calls Try.prog 57 #[v, .int .i64 (i : Int), .string ⟨s.toArray⟩] w fun e w' => ∃ v', e = .returned v' ∧ TB w v' (l.set i s) w' := by
  obtain ⟨v1, w1, hr, hb⟩ := run_copy_seen h (by omega) hl 27
  obtain ⟨A, cap, hv1, -, hx⟩ := hb.texts.form
  obtain ⟨g, rfl, -, -⟩ := hx (by rintro rfl; simp at hi)
  subst hv1
  obtain ⟨hg, hf, ⟨u, hu⟩, hset⟩ := hb.set_ hi s
  obtain ⟨A0, c0, rfl, -, -⟩ := h.form
  have z1 : (i : Int) < (l.length : Int) := by omega
  have HS := Lib.hid hset
  clear hx hb h hset
  go_enter Try.func57, Try.ntmps57
  go_wp2_with (first
    | (at_builtin; refine Lib.wpList_append_run _ rfl _ _ _ _ rfl _ _ rfl rfl _ _ hr ?_)
    | fail)
  go_ret
  exact ⟨_, rfl, HS.out⟩

end Go.Proofs.Ytbdjdeddghdefaa
