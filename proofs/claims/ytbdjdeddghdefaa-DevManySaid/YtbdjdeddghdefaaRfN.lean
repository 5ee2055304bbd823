/- both.do: a plan; all kinds (written by tools/laws03v.py) -/
import Derived.Test.YtbdjdeddghdefaaRfM
namespace Go.Proofs.Ytbdjdeddghdefaa
open Go.ChangeShapes Go.WideShapes Go.ChangeAt Go.RowKit

section
variable {n : Nat} {a w : World} {B S M : Nat} {d : Dv} {v : Value} {F : List Fal} {k : Int}

theorem setsW_alloc {b : Nat} (o : Obj) : ∀ (l : List Value) (w : World) (j : Nat), b < w.heap.size → setsW (w.alloc o) b j l = (setsW w b j l).alloc o
  | [], _, _, _ => rfl
  | x :: r, w, j, h => by
    show setsW ((w.alloc o).setCell ⟨b, j, none⟩ x) b (j + 1) r = _
    rw [World.setCell_alloc_past o b j x h, setsW_alloc o r _ (j + 1) (by simpa [World.setCell] using h)]
    rfl

theorem setsW_size {b : Nat} : ∀ (l : List Value) (w : World) (j : Nat), (setsW w b j l).heap.size = w.heap.size
  | [], _, _ => rfl
  | x :: r, w, j => (setsW_size r _ (j + 1)).trans (by simp [World.setCell])

/-- the document's device has other falls -/
theorem Two.plans {v0 v1 v2 v3 v4 : Value} {fl : Fal} (h : Two n a w B S M { d with plan := [fl] } (.agg #[v0, v1, v2, v3, v4]) d F) {g : Nat} {T : TypeId} (hg : w.heap[g]? = some (.cells #[.int .i64 fl.at_, .int .u64 (fl.keep : Int), .int .i64 fl.torn] T (0, 0))) (hk : fl.keep < 18446744073709551616) :
    Two n a w B S M { d with plan := [fl] } (.agg #[v0, v1, v2, .slice (some ⟨g, 0, none⟩) 1 1, v4]) { d with plan := [fl] } [fl] := by
  refine ⟨h.dev, h.below, h.nb, h.ns, h.nm, ?_, h.fits (by simp)⟩
  obtain ⟨u0, u1, u3, e, h0, h1, h3⟩ := h.ref.form
  simp only [Value.agg.injEq, Array.mk.injEq, List.cons.injEq, and_true] at e
  obtain ⟨rfl, rfl, rfl, rfl, rfl⟩ := e
  refine ⟨_, _, _, rfl, h0, h1, ⟨_, 1, rfl, fun i x hx => ?_⟩⟩
  have hi : i = 0 := by
    rcases Nat.eq_zero_or_pos i with hi | hi
    · exact hi
    · rw [List.getElem?_eq_none (by simp; omega)] at hx; cases hx
  subst hi
  simp only [List.getElem?_cons_zero, Option.some.injEq] at hx
  subst hx
  refine ⟨g, 0, rfl, hk, ?_, ?_, ?_⟩ <;> rw [cell_of_row _ _ _ _ _ _ hg] <;> rfl

set_option maxHeartbeats 4000000 in
set_option maxRecDepth 100000 in
theorem do_plan_neg (h : Two n a w B S M d v d F) (hf : Few k d) (x : Act3) (hx : x.kind = 6) (hkeep : x.fall.keep < 18446744073709551616) (hat : x.fall.at_ < 0) : DoC n a w B S M v k x := by
  obtain ⟨A, c, L, e, C, f, rfl⟩ := h.ref.open_
  obtain ⟨kd, at_, cc, odd, ⟨fa, fk, ft⟩⟩ := x
  simp only at hx hkeep hat
  subst hx
  obtain ⟨n0, hn0⟩ : ∃ q, d.sure.length = q := ⟨_, rfl⟩
  obtain ⟨n1, hn1⟩ : ∃ q, d.loose.length = q := ⟨_, rfl⟩
  obtain ⟨n3, hn3⟩ : ∃ q, F.length = q := ⟨_, rfl⟩
  obtain ⟨st, hst⟩ : ∃ q, d.steps = q := ⟨_, rfl⟩
  obtain ⟨o, ho⟩ : ∃ q, d.off = q := ⟨_, rfl⟩
  rw [hn0, hn1, hn3, hst, ho] at h ⊢
  obtain ⟨q, hq⟩ : ∃ q, fa = q := ⟨_, rfl⟩
  have hw : wrap64 (st + fa) = wrap64 (st + fa) := rfl
  have HFW : Hid (Few (k + 1) { d with plan := [⟨q, fk, ft⟩] }) := Lib.hid ⟨hf.1, by have := hf.2; show d.steps ≤ k + 1; omega⟩
  have d1 : decide (0 ≤ fa) = false := decide_eq_false_iff_not.2 (by omega)
  subst hq
  have r3 := Run.start h #[.pointer (some ⟨B, 0, none⟩), .slice A n0 c, .slice L n1 e, .int .i64 st, .slice C n3 f, .bool o] #[.int .i64 6, .int .i64 at_, .int .u8 (cc.toNat : Int), .bool odd, .int .i64 fa, .int .u64 (fk : Int), .int .i64 ft]
  have b4 := (Below.refl (((w.alloc (.cells #[.pointer (some ⟨B, 0, none⟩), .slice A n0 c, .slice L n1 e, .int .i64 st, .slice C n3 f, .bool o] 34)).alloc (.cells #[.int .i64 6, .int .i64 at_, .int .u8 (cc.toNat : Int), .bool odd, .int .i64 fa, .int .u64 (fk : Int), .int .i64 ft] 42)).alloc (.cells #[.pointer none, .slice none 0 0, .slice none 0 0, .int .i64 0, .slice none 0 0, .bool false] 34)).heap.size (((w.alloc (.cells #[.pointer (some ⟨B, 0, none⟩), .slice A n0 c, .slice L n1 e, .int .i64 st, .slice C n3 f, .bool o] 34)).alloc (.cells #[.int .i64 6, .int .i64 at_, .int .u8 (cc.toNat : Int), .bool odd, .int .i64 fa, .int .u64 (fk : Int), .int .i64 ft] 42)).alloc (.cells #[.pointer none, .slice none 0 0, .slice none 0 0, .int .i64 0, .slice none 0 0, .bool false] 34))).alloc (Nat.le_refl _) (.cells #[.int .i64 fa, .int .u64 (fk : Int), .int .i64 ft] 40)
  have b5 := b4.alloc b4.size (.cells #[.int .i64 fa, .int .u64 (fk : Int), .int .i64 ft] 40)
  have r5 := r3.call (r3.two.on b5) (Only.of_below b5)
  have hrow4 : (((((w.alloc (.cells #[.pointer (some ⟨B, 0, none⟩), .slice A n0 c, .slice L n1 e, .int .i64 st, .slice C n3 f, .bool o] 34)).alloc (.cells #[.int .i64 6, .int .i64 at_, .int .u8 (cc.toNat : Int), .bool odd, .int .i64 fa, .int .u64 (fk : Int), .int .i64 ft] 42)).alloc (.cells #[.pointer none, .slice none 0 0, .slice none 0 0, .int .i64 0, .slice none 0 0, .bool false] 34)).alloc (.cells #[.int .i64 fa, .int .u64 (fk : Int), .int .i64 ft] 40)).alloc (.cells #[.int .i64 fa, .int .u64 (fk : Int), .int .i64 ft] 40)).heap[w.heap.size + 3]? = some (.cells #[.int .i64 fa, .int .u64 (fk : Int), .int .i64 ft] 40 (0, 0)) := by
    refine (Below.heap_alloc _ _ _ (by simp)).trans ?_
    have := heap_alloc_last (((w.alloc (.cells #[.pointer (some ⟨B, 0, none⟩), .slice A n0 c, .slice L n1 e, .int .i64 st, .slice C n3 f, .bool o] 34)).alloc (.cells #[.int .i64 6, .int .i64 at_, .int .u8 (cc.toNat : Int), .bool odd, .int .i64 fa, .int .u64 (fk : Int), .int .i64 ft] 42)).alloc (.cells #[.pointer none, .slice none 0 0, .slice none 0 0, .int .i64 0, .slice none 0 0, .bool false] 34)) (.cells #[.int .i64 fa, .int .u64 (fk : Int), .int .i64 ft] 40)
    simp only [World.size_alloc] at this
    exact this
  have hrow5 : (((((w.alloc (.cells #[.pointer (some ⟨B, 0, none⟩), .slice A n0 c, .slice L n1 e, .int .i64 st, .slice C n3 f, .bool o] 34)).alloc (.cells #[.int .i64 6, .int .i64 at_, .int .u8 (cc.toNat : Int), .bool odd, .int .i64 fa, .int .u64 (fk : Int), .int .i64 ft] 42)).alloc (.cells #[.pointer none, .slice none 0 0, .slice none 0 0, .int .i64 0, .slice none 0 0, .bool false] 34)).alloc (.cells #[.int .i64 fa, .int .u64 (fk : Int), .int .i64 ft] 40)).alloc (.cells #[.int .i64 fa, .int .u64 (fk : Int), .int .i64 ft] 40)).heap[w.heap.size + 4]? = some (.cells (cellsF ⟨fa, fk, ft⟩).toArray 40 (0, 0)) := by
    have := heap_alloc_last ((((w.alloc (.cells #[.pointer (some ⟨B, 0, none⟩), .slice A n0 c, .slice L n1 e, .int .i64 st, .slice C n3 f, .bool o] 34)).alloc (.cells #[.int .i64 6, .int .i64 at_, .int .u8 (cc.toNat : Int), .bool odd, .int .i64 fa, .int .u64 (fk : Int), .int .i64 ft] 42)).alloc (.cells #[.pointer none, .slice none 0 0, .slice none 0 0, .int .i64 0, .slice none 0 0, .bool false] 34)).alloc (.cells #[.int .i64 fa, .int .u64 (fk : Int), .int .i64 ft] 40)) (.cells #[.int .i64 fa, .int .u64 (fk : Int), .int .i64 ft] 40)
    simp only [World.size_alloc] at this
    exact this
  have cP := two_plan r5.two hrow5 hkeep 1
  have R5 := Lib.hid r5; have H4 := Lib.hid hrow4; have HK := Lib.hid hkeep
  clear h hf hkeep hat hn0 hn1 hn3 hst ho r3 b4 b5 r5 hrow4 hrow5 hw
  show Calls _ _ #[.agg #[.pointer (some ⟨B, 0, none⟩), .slice A n0 c, .slice L n1 e, .int .i64 st, .slice C n3 f, .bool o], .agg #[.int .i64 6, .int .i64 at_, .int .u8 (cc.toNat : Int), .bool odd, .int .i64 fa, .int .u64 (fk : Int), .int .i64 ft]] _ _
  go_enter Try.func13, Try.ntmps13
  go_wp2_with fail
  refine cP.mono ?_
  rintro e1 w1 ⟨rfl, h1, ho1⟩
  have r1 := R5.out.call h1 ho1
  have h4 := R5.out.two.keep ho1 H4.out (by decide) (by decide)
  have h0' := r1.h0; have h2' := r1.h2
  have p0 : w1.cell? ⟨w.heap.size, 0, none⟩ = some (.pointer (some ⟨B, 0, none⟩)) := by rw [cell_of_row _ _ _ _ _ _ h0']; rfl
  have p1 : w1.cell? ⟨w.heap.size, 1, none⟩ = some (.slice A n0 c) := by rw [cell_of_row _ _ _ _ _ _ h0']; rfl
  have p2 : w1.cell? ⟨w.heap.size, 2, none⟩ = some (.slice L n1 e) := by rw [cell_of_row _ _ _ _ _ _ h0']; rfl
  have p3 : w1.cell? ⟨w.heap.size, 3, none⟩ = some (.int .i64 st) := by rw [cell_of_row _ _ _ _ _ _ h0']; rfl
  have p4 : w1.cell? ⟨w.heap.size, 4, none⟩ = some (.slice C n3 f) := by rw [cell_of_row _ _ _ _ _ _ h0']; rfl
  have p5 : w1.cell? ⟨w.heap.size, 5, none⟩ = some (.bool o) := by rw [cell_of_row _ _ _ _ _ _ h0']; rfl
  have pf4 : w1.frozen? ⟨w.heap.size, 4, none⟩ = false := by simp [World.frozen?, h0']
  have z0 : w1.cell? ⟨w.heap.size + 2, 0, none⟩ = some (.pointer none) := by rw [cell_of_row _ _ _ _ _ _ h2']; rfl
  have z1 : w1.cell? ⟨w.heap.size + 2, 1, none⟩ = some (.slice none 0 0) := by rw [cell_of_row _ _ _ _ _ _ h2']; rfl
  have z2 : w1.cell? ⟨w.heap.size + 2, 2, none⟩ = some (.slice none 0 0) := by rw [cell_of_row _ _ _ _ _ _ h2']; rfl
  have z3 : w1.cell? ⟨w.heap.size + 2, 3, none⟩ = some (.int .i64 0) := by rw [cell_of_row _ _ _ _ _ _ h2']; rfl
  have z4 : w1.cell? ⟨w.heap.size + 2, 4, none⟩ = some (.slice none 0 0) := by rw [cell_of_row _ _ _ _ _ _ h2']; rfl
  have z5 : w1.cell? ⟨w.heap.size + 2, 5, none⟩ = some (.bool false) := by rw [cell_of_row _ _ _ _ _ _ h2']; rfl
  have zf0 : w1.frozen? ⟨w.heap.size + 2, 0, none⟩ = false := by simp [World.frozen?, h2']
  have zf1 : w1.frozen? ⟨w.heap.size + 2, 1, none⟩ = false := by simp [World.frozen?, h2']
  have zf2 : w1.frozen? ⟨w.heap.size + 2, 2, none⟩ = false := by simp [World.frozen?, h2']
  have zf3 : w1.frozen? ⟨w.heap.size + 2, 3, none⟩ = false := by simp [World.frozen?, h2']
  have zf4 : w1.frozen? ⟨w.heap.size + 2, 4, none⟩ = false := by simp [World.frozen?, h2']
  have zf5 : w1.frozen? ⟨w.heap.size + 2, 5, none⟩ = false := by simp [World.frozen?, h2']
  have o0 : w1.cell? ⟨w.heap.size + 3, 0, none⟩ = some (.int .i64 fa) := by rw [cell_of_row _ _ _ _ _ _ h4]; rfl
  have o1 : w1.cell? ⟨w.heap.size + 3, 1, none⟩ = some (.int .u64 (fk : Int)) := by rw [cell_of_row _ _ _ _ _ _ h4]; rfl
  have o2 : w1.cell? ⟨w.heap.size + 3, 2, none⟩ = some (.int .i64 ft) := by rw [cell_of_row _ _ _ _ _ _ h4]; rfl
  have hz : w.heap.size < w1.heap.size := (Array.getElem?_eq_some_iff.1 h0').1
  have hz2 : w.heap.size + 2 < w1.heap.size := (Array.getElem?_eq_some_iff.1 h2').1
  have hbn := (Below.refl w1.heap.size w1).alloc (Nat.le_refl _) (.cells #[.int .i64 fa, .int .u64 (fk : Int), .int .i64 ft] 78)
  have hnew := heap_alloc_last w1 (.cells #[.int .i64 fa, .int .u64 (fk : Int), .int .i64 ft] 78)
  have r2 := r1.call ((h1.on hbn).plans (fl := ⟨fa, fk, ft⟩) hnew HK.out) (Only.of_below hbn)
  have R2 := Lib.hid (r2.box (by simp [plainV]) 4 [.slice (some ⟨w1.heap.size, 0, none⟩) 1 1] (by simp [plainV]))
  clear h0' h2' h4 cP h1 ho1 r1 R5 H4 hbn hnew r2
  have HZ := Lib.hid hz; have HZ2 := Lib.hid hz2
  go_wp2_with fail
  obtain ⟨hfin, hof, hrow⟩ := R2.out.done [.pointer (some ⟨B, 0, none⟩), .slice A n0 c, .slice L n1 e, .int .i64 st, .slice (some ⟨w1.heap.size, 0, none⟩) 1 1, .bool o] (by simp [plainV])
  rw [setsR_six] at hrow
  have s0 := cell_of_row _ _ 0 _ _ _ hrow
  have s1 := cell_of_row _ _ 1 _ _ _ hrow
  have s2 := cell_of_row _ _ 2 _ _ _ hrow
  have s3 := cell_of_row _ _ 3 _ _ _ hrow
  have s4 := cell_of_row _ _ 4 _ _ _ hrow
  have s5 := cell_of_row _ _ 5 _ _ _ hrow
  simp only [List.getElem?_toArray, List.getElem?_cons_zero, List.getElem?_cons_succ] at s0 s1 s2 s3 s4 s5
  rw [setsW_alloc _ _ _ _ HZ.out, setsW_alloc _ _ _ _ (by rw [setsW_size]; exact HZ2.out)] at hfin hof s0 s1 s2 s3 s4 s5
  change bodyPost _ _ _ _ _ ((setsW (setsW w1 w.heap.size 4 [.slice (some ⟨w1.heap.size, 0, none⟩) 1 1]) (w.heap.size + 2) 0 [.pointer (some ⟨B, 0, none⟩), .slice A n0 c, .slice L n1 e, .int .i64 st, .slice (some ⟨w1.heap.size, 0, none⟩) 1 1, .bool o]).alloc (.cells #[.int .i64 fa, .int .u64 (fk : Int), .int .i64 ft] 78))
  refine bodyPost_ret (v := .tuple #[.agg #[.pointer (some ⟨B, 0, none⟩), .slice A n0 c, .slice L n1 e, .int .i64 st, .slice (some ⟨w1.heap.size, 0, none⟩) 1 1, .bool o], .bool true]) (by simp [results, Try.results13, go_sem, s0, s1, s2, s3, s4, s5]) rfl ?_
  exact ⟨{ d with plan := [⟨fa, fk, ft⟩] }, _, _, rfl, hfin, .inr ⟨_, rfl, .inl rfl⟩, HFW.out, hof⟩

set_option maxHeartbeats 4000000 in
set_option maxRecDepth 100000 in
theorem do_plan_far (h : Two n a w B S M d v d F) (hf : Few k d) (x : Act3) (hx : x.kind = 6) (hkeep : x.fall.keep < 18446744073709551616) (hat : 1000 ≤ x.fall.at_) : DoC n a w B S M v k x := by
  obtain ⟨A, c, L, e, C, f, rfl⟩ := h.ref.open_
  obtain ⟨kd, at_, cc, odd, ⟨fa, fk, ft⟩⟩ := x
  simp only at hx hkeep hat
  subst hx
  obtain ⟨n0, hn0⟩ : ∃ q, d.sure.length = q := ⟨_, rfl⟩
  obtain ⟨n1, hn1⟩ : ∃ q, d.loose.length = q := ⟨_, rfl⟩
  obtain ⟨n3, hn3⟩ : ∃ q, F.length = q := ⟨_, rfl⟩
  obtain ⟨st, hst⟩ : ∃ q, d.steps = q := ⟨_, rfl⟩
  obtain ⟨o, ho⟩ : ∃ q, d.off = q := ⟨_, rfl⟩
  rw [hn0, hn1, hn3, hst, ho] at h ⊢
  obtain ⟨q, hq⟩ : ∃ q, fa = q := ⟨_, rfl⟩
  have hw : wrap64 (st + fa) = wrap64 (st + fa) := rfl
  have HFW : Hid (Few (k + 1) { d with plan := [⟨q, fk, ft⟩] }) := Lib.hid ⟨hf.1, by have := hf.2; show d.steps ≤ k + 1; omega⟩
  have d1 : decide (0 ≤ fa) = true := decide_eq_true_iff.2 (by omega)
  have d2 : decide (fa < 1000) = false := decide_eq_false_iff_not.2 (by omega)
  subst hq
  have r3 := Run.start h #[.pointer (some ⟨B, 0, none⟩), .slice A n0 c, .slice L n1 e, .int .i64 st, .slice C n3 f, .bool o] #[.int .i64 6, .int .i64 at_, .int .u8 (cc.toNat : Int), .bool odd, .int .i64 fa, .int .u64 (fk : Int), .int .i64 ft]
  have b4 := (Below.refl (((w.alloc (.cells #[.pointer (some ⟨B, 0, none⟩), .slice A n0 c, .slice L n1 e, .int .i64 st, .slice C n3 f, .bool o] 34)).alloc (.cells #[.int .i64 6, .int .i64 at_, .int .u8 (cc.toNat : Int), .bool odd, .int .i64 fa, .int .u64 (fk : Int), .int .i64 ft] 42)).alloc (.cells #[.pointer none, .slice none 0 0, .slice none 0 0, .int .i64 0, .slice none 0 0, .bool false] 34)).heap.size (((w.alloc (.cells #[.pointer (some ⟨B, 0, none⟩), .slice A n0 c, .slice L n1 e, .int .i64 st, .slice C n3 f, .bool o] 34)).alloc (.cells #[.int .i64 6, .int .i64 at_, .int .u8 (cc.toNat : Int), .bool odd, .int .i64 fa, .int .u64 (fk : Int), .int .i64 ft] 42)).alloc (.cells #[.pointer none, .slice none 0 0, .slice none 0 0, .int .i64 0, .slice none 0 0, .bool false] 34))).alloc (Nat.le_refl _) (.cells #[.int .i64 fa, .int .u64 (fk : Int), .int .i64 ft] 40)
  have b5 := b4.alloc b4.size (.cells #[.int .i64 fa, .int .u64 (fk : Int), .int .i64 ft] 40)
  have r5 := r3.call (r3.two.on b5) (Only.of_below b5)
  have hrow4 : (((((w.alloc (.cells #[.pointer (some ⟨B, 0, none⟩), .slice A n0 c, .slice L n1 e, .int .i64 st, .slice C n3 f, .bool o] 34)).alloc (.cells #[.int .i64 6, .int .i64 at_, .int .u8 (cc.toNat : Int), .bool odd, .int .i64 fa, .int .u64 (fk : Int), .int .i64 ft] 42)).alloc (.cells #[.pointer none, .slice none 0 0, .slice none 0 0, .int .i64 0, .slice none 0 0, .bool false] 34)).alloc (.cells #[.int .i64 fa, .int .u64 (fk : Int), .int .i64 ft] 40)).alloc (.cells #[.int .i64 fa, .int .u64 (fk : Int), .int .i64 ft] 40)).heap[w.heap.size + 3]? = some (.cells #[.int .i64 fa, .int .u64 (fk : Int), .int .i64 ft] 40 (0, 0)) := by
    refine (Below.heap_alloc _ _ _ (by simp)).trans ?_
    have := heap_alloc_last (((w.alloc (.cells #[.pointer (some ⟨B, 0, none⟩), .slice A n0 c, .slice L n1 e, .int .i64 st, .slice C n3 f, .bool o] 34)).alloc (.cells #[.int .i64 6, .int .i64 at_, .int .u8 (cc.toNat : Int), .bool odd, .int .i64 fa, .int .u64 (fk : Int), .int .i64 ft] 42)).alloc (.cells #[.pointer none, .slice none 0 0, .slice none 0 0, .int .i64 0, .slice none 0 0, .bool false] 34)) (.cells #[.int .i64 fa, .int .u64 (fk : Int), .int .i64 ft] 40)
    simp only [World.size_alloc] at this
    exact this
  have hrow5 : (((((w.alloc (.cells #[.pointer (some ⟨B, 0, none⟩), .slice A n0 c, .slice L n1 e, .int .i64 st, .slice C n3 f, .bool o] 34)).alloc (.cells #[.int .i64 6, .int .i64 at_, .int .u8 (cc.toNat : Int), .bool odd, .int .i64 fa, .int .u64 (fk : Int), .int .i64 ft] 42)).alloc (.cells #[.pointer none, .slice none 0 0, .slice none 0 0, .int .i64 0, .slice none 0 0, .bool false] 34)).alloc (.cells #[.int .i64 fa, .int .u64 (fk : Int), .int .i64 ft] 40)).alloc (.cells #[.int .i64 fa, .int .u64 (fk : Int), .int .i64 ft] 40)).heap[w.heap.size + 4]? = some (.cells (cellsF ⟨fa, fk, ft⟩).toArray 40 (0, 0)) := by
    have := heap_alloc_last ((((w.alloc (.cells #[.pointer (some ⟨B, 0, none⟩), .slice A n0 c, .slice L n1 e, .int .i64 st, .slice C n3 f, .bool o] 34)).alloc (.cells #[.int .i64 6, .int .i64 at_, .int .u8 (cc.toNat : Int), .bool odd, .int .i64 fa, .int .u64 (fk : Int), .int .i64 ft] 42)).alloc (.cells #[.pointer none, .slice none 0 0, .slice none 0 0, .int .i64 0, .slice none 0 0, .bool false] 34)).alloc (.cells #[.int .i64 fa, .int .u64 (fk : Int), .int .i64 ft] 40)) (.cells #[.int .i64 fa, .int .u64 (fk : Int), .int .i64 ft] 40)
    simp only [World.size_alloc] at this
    exact this
  have cP := two_plan r5.two hrow5 hkeep 1
  have R5 := Lib.hid r5; have H4 := Lib.hid hrow4; have HK := Lib.hid hkeep
  clear h hf hkeep hat hn0 hn1 hn3 hst ho r3 b4 b5 r5 hrow4 hrow5 hw
  show Calls _ _ #[.agg #[.pointer (some ⟨B, 0, none⟩), .slice A n0 c, .slice L n1 e, .int .i64 st, .slice C n3 f, .bool o], .agg #[.int .i64 6, .int .i64 at_, .int .u8 (cc.toNat : Int), .bool odd, .int .i64 fa, .int .u64 (fk : Int), .int .i64 ft]] _ _
  go_enter Try.func13, Try.ntmps13
  go_wp2_with fail
  refine cP.mono ?_
  rintro e1 w1 ⟨rfl, h1, ho1⟩
  have r1 := R5.out.call h1 ho1
  have h4 := R5.out.two.keep ho1 H4.out (by decide) (by decide)
  have h0' := r1.h0; have h2' := r1.h2
  have p0 : w1.cell? ⟨w.heap.size, 0, none⟩ = some (.pointer (some ⟨B, 0, none⟩)) := by rw [cell_of_row _ _ _ _ _ _ h0']; rfl
  have p1 : w1.cell? ⟨w.heap.size, 1, none⟩ = some (.slice A n0 c) := by rw [cell_of_row _ _ _ _ _ _ h0']; rfl
  have p2 : w1.cell? ⟨w.heap.size, 2, none⟩ = some (.slice L n1 e) := by rw [cell_of_row _ _ _ _ _ _ h0']; rfl
  have p3 : w1.cell? ⟨w.heap.size, 3, none⟩ = some (.int .i64 st) := by rw [cell_of_row _ _ _ _ _ _ h0']; rfl
  have p4 : w1.cell? ⟨w.heap.size, 4, none⟩ = some (.slice C n3 f) := by rw [cell_of_row _ _ _ _ _ _ h0']; rfl
  have p5 : w1.cell? ⟨w.heap.size, 5, none⟩ = some (.bool o) := by rw [cell_of_row _ _ _ _ _ _ h0']; rfl
  have pf4 : w1.frozen? ⟨w.heap.size, 4, none⟩ = false := by simp [World.frozen?, h0']
  have z0 : w1.cell? ⟨w.heap.size + 2, 0, none⟩ = some (.pointer none) := by rw [cell_of_row _ _ _ _ _ _ h2']; rfl
  have z1 : w1.cell? ⟨w.heap.size + 2, 1, none⟩ = some (.slice none 0 0) := by rw [cell_of_row _ _ _ _ _ _ h2']; rfl
  have z2 : w1.cell? ⟨w.heap.size + 2, 2, none⟩ = some (.slice none 0 0) := by rw [cell_of_row _ _ _ _ _ _ h2']; rfl
  have z3 : w1.cell? ⟨w.heap.size + 2, 3, none⟩ = some (.int .i64 0) := by rw [cell_of_row _ _ _ _ _ _ h2']; rfl
  have z4 : w1.cell? ⟨w.heap.size + 2, 4, none⟩ = some (.slice none 0 0) := by rw [cell_of_row _ _ _ _ _ _ h2']; rfl
  have z5 : w1.cell? ⟨w.heap.size + 2, 5, none⟩ = some (.bool false) := by rw [cell_of_row _ _ _ _ _ _ h2']; rfl
  have zf0 : w1.frozen? ⟨w.heap.size + 2, 0, none⟩ = false := by simp [World.frozen?, h2']
  have zf1 : w1.frozen? ⟨w.heap.size + 2, 1, none⟩ = false := by simp [World.frozen?, h2']
  have zf2 : w1.frozen? ⟨w.heap.size + 2, 2, none⟩ = false := by simp [World.frozen?, h2']
  have zf3 : w1.frozen? ⟨w.heap.size + 2, 3, none⟩ = false := by simp [World.frozen?, h2']
  have zf4 : w1.frozen? ⟨w.heap.size + 2, 4, none⟩ = false := by simp [World.frozen?, h2']
  have zf5 : w1.frozen? ⟨w.heap.size + 2, 5, none⟩ = false := by simp [World.frozen?, h2']
  have o0 : w1.cell? ⟨w.heap.size + 3, 0, none⟩ = some (.int .i64 fa) := by rw [cell_of_row _ _ _ _ _ _ h4]; rfl
  have o1 : w1.cell? ⟨w.heap.size + 3, 1, none⟩ = some (.int .u64 (fk : Int)) := by rw [cell_of_row _ _ _ _ _ _ h4]; rfl
  have o2 : w1.cell? ⟨w.heap.size + 3, 2, none⟩ = some (.int .i64 ft) := by rw [cell_of_row _ _ _ _ _ _ h4]; rfl
  have hz : w.heap.size < w1.heap.size := (Array.getElem?_eq_some_iff.1 h0').1
  have hz2 : w.heap.size + 2 < w1.heap.size := (Array.getElem?_eq_some_iff.1 h2').1
  have hbn := (Below.refl w1.heap.size w1).alloc (Nat.le_refl _) (.cells #[.int .i64 fa, .int .u64 (fk : Int), .int .i64 ft] 78)
  have hnew := heap_alloc_last w1 (.cells #[.int .i64 fa, .int .u64 (fk : Int), .int .i64 ft] 78)
  have r2 := r1.call ((h1.on hbn).plans (fl := ⟨fa, fk, ft⟩) hnew HK.out) (Only.of_below hbn)
  have R2 := Lib.hid (r2.box (by simp [plainV]) 4 [.slice (some ⟨w1.heap.size, 0, none⟩) 1 1] (by simp [plainV]))
  clear h0' h2' h4 cP h1 ho1 r1 R5 H4 hbn hnew r2
  have HZ := Lib.hid hz; have HZ2 := Lib.hid hz2
  go_wp2_with fail
  obtain ⟨hfin, hof, hrow⟩ := R2.out.done [.pointer (some ⟨B, 0, none⟩), .slice A n0 c, .slice L n1 e, .int .i64 st, .slice (some ⟨w1.heap.size, 0, none⟩) 1 1, .bool o] (by simp [plainV])
  rw [setsR_six] at hrow
  have s0 := cell_of_row _ _ 0 _ _ _ hrow
  have s1 := cell_of_row _ _ 1 _ _ _ hrow
  have s2 := cell_of_row _ _ 2 _ _ _ hrow
  have s3 := cell_of_row _ _ 3 _ _ _ hrow
  have s4 := cell_of_row _ _ 4 _ _ _ hrow
  have s5 := cell_of_row _ _ 5 _ _ _ hrow
  simp only [List.getElem?_toArray, List.getElem?_cons_zero, List.getElem?_cons_succ] at s0 s1 s2 s3 s4 s5
  rw [setsW_alloc _ _ _ _ HZ.out, setsW_alloc _ _ _ _ (by rw [setsW_size]; exact HZ2.out)] at hfin hof s0 s1 s2 s3 s4 s5
  change bodyPost _ _ _ _ _ ((setsW (setsW w1 w.heap.size 4 [.slice (some ⟨w1.heap.size, 0, none⟩) 1 1]) (w.heap.size + 2) 0 [.pointer (some ⟨B, 0, none⟩), .slice A n0 c, .slice L n1 e, .int .i64 st, .slice (some ⟨w1.heap.size, 0, none⟩) 1 1, .bool o]).alloc (.cells #[.int .i64 fa, .int .u64 (fk : Int), .int .i64 ft] 78))
  refine bodyPost_ret (v := .tuple #[.agg #[.pointer (some ⟨B, 0, none⟩), .slice A n0 c, .slice L n1 e, .int .i64 st, .slice (some ⟨w1.heap.size, 0, none⟩) 1 1, .bool o], .bool true]) (by simp [results, Try.results13, go_sem, s0, s1, s2, s3, s4, s5]) rfl ?_
  exact ⟨{ d with plan := [⟨fa, fk, ft⟩] }, _, _, rfl, hfin, .inr ⟨_, rfl, .inl rfl⟩, HFW.out, hof⟩

set_option maxHeartbeats 4000000 in
set_option maxRecDepth 100000 in
theorem do_plan_near (h : Two n a w B S M d v d F) (hf : Few k d) (hk : k ≤ 900) (x : Act3) (hx : x.kind = 6) (hkeep : x.fall.keep < 18446744073709551616) (hat : 0 ≤ x.fall.at_ ∧ x.fall.at_ < 1000) : DoC n a w B S M v k x := by
  obtain ⟨A, c, L, e, C, f, rfl⟩ := h.ref.open_
  obtain ⟨kd, at_, cc, odd, ⟨fa, fk, ft⟩⟩ := x
  simp only at hx hkeep hat
  subst hx
  obtain ⟨n0, hn0⟩ : ∃ q, d.sure.length = q := ⟨_, rfl⟩
  obtain ⟨n1, hn1⟩ : ∃ q, d.loose.length = q := ⟨_, rfl⟩
  obtain ⟨n3, hn3⟩ : ∃ q, F.length = q := ⟨_, rfl⟩
  obtain ⟨st, hst⟩ : ∃ q, d.steps = q := ⟨_, rfl⟩
  obtain ⟨o, ho⟩ : ∃ q, d.off = q := ⟨_, rfl⟩
  rw [hn0, hn1, hn3, hst, ho] at h ⊢
  obtain ⟨q, hq⟩ : ∃ q, st + fa = q := ⟨_, rfl⟩
  have hw : wrap64 (st + fa) = wrap64 (st + fa) := rfl
  have HFW : Hid (Few (k + 1) { d with plan := [⟨q, fk, ft⟩] }) := Lib.hid ⟨hf.1, by have := hf.2; show d.steps ≤ k + 1; omega⟩
  have d1 : decide (0 ≤ fa) = true := decide_eq_true_iff.2 (by omega)
  have d2 : decide (fa < 1000) = true := decide_eq_true_iff.2 (by omega)
  have hs : wrap64 (st + fa) = q := by
    rw [← hq]
    exact wrap64_id (by rw [is64_iff]; have := hf.1; have := hf.2; omega)
  have r3 := Run.start h #[.pointer (some ⟨B, 0, none⟩), .slice A n0 c, .slice L n1 e, .int .i64 st, .slice C n3 f, .bool o] #[.int .i64 6, .int .i64 at_, .int .u8 (cc.toNat : Int), .bool odd, .int .i64 fa, .int .u64 (fk : Int), .int .i64 ft]
  have b4 := (Below.refl (((w.alloc (.cells #[.pointer (some ⟨B, 0, none⟩), .slice A n0 c, .slice L n1 e, .int .i64 st, .slice C n3 f, .bool o] 34)).alloc (.cells #[.int .i64 6, .int .i64 at_, .int .u8 (cc.toNat : Int), .bool odd, .int .i64 fa, .int .u64 (fk : Int), .int .i64 ft] 42)).alloc (.cells #[.pointer none, .slice none 0 0, .slice none 0 0, .int .i64 0, .slice none 0 0, .bool false] 34)).heap.size (((w.alloc (.cells #[.pointer (some ⟨B, 0, none⟩), .slice A n0 c, .slice L n1 e, .int .i64 st, .slice C n3 f, .bool o] 34)).alloc (.cells #[.int .i64 6, .int .i64 at_, .int .u8 (cc.toNat : Int), .bool odd, .int .i64 fa, .int .u64 (fk : Int), .int .i64 ft] 42)).alloc (.cells #[.pointer none, .slice none 0 0, .slice none 0 0, .int .i64 0, .slice none 0 0, .bool false] 34))).alloc (Nat.le_refl _) (.cells #[.int .i64 q, .int .u64 (fk : Int), .int .i64 ft] 40)
  have b5 := b4.alloc b4.size (.cells #[.int .i64 q, .int .u64 (fk : Int), .int .i64 ft] 40)
  have r5 := r3.call (r3.two.on b5) (Only.of_below b5)
  have hrow4 : (((((w.alloc (.cells #[.pointer (some ⟨B, 0, none⟩), .slice A n0 c, .slice L n1 e, .int .i64 st, .slice C n3 f, .bool o] 34)).alloc (.cells #[.int .i64 6, .int .i64 at_, .int .u8 (cc.toNat : Int), .bool odd, .int .i64 fa, .int .u64 (fk : Int), .int .i64 ft] 42)).alloc (.cells #[.pointer none, .slice none 0 0, .slice none 0 0, .int .i64 0, .slice none 0 0, .bool false] 34)).alloc (.cells #[.int .i64 q, .int .u64 (fk : Int), .int .i64 ft] 40)).alloc (.cells #[.int .i64 q, .int .u64 (fk : Int), .int .i64 ft] 40)).heap[w.heap.size + 3]? = some (.cells #[.int .i64 q, .int .u64 (fk : Int), .int .i64 ft] 40 (0, 0)) := by
    refine (Below.heap_alloc _ _ _ (by simp)).trans ?_
    have := heap_alloc_last (((w.alloc (.cells #[.pointer (some ⟨B, 0, none⟩), .slice A n0 c, .slice L n1 e, .int .i64 st, .slice C n3 f, .bool o] 34)).alloc (.cells #[.int .i64 6, .int .i64 at_, .int .u8 (cc.toNat : Int), .bool odd, .int .i64 fa, .int .u64 (fk : Int), .int .i64 ft] 42)).alloc (.cells #[.pointer none, .slice none 0 0, .slice none 0 0, .int .i64 0, .slice none 0 0, .bool false] 34)) (.cells #[.int .i64 q, .int .u64 (fk : Int), .int .i64 ft] 40)
    simp only [World.size_alloc] at this
    exact this
  have hrow5 : (((((w.alloc (.cells #[.pointer (some ⟨B, 0, none⟩), .slice A n0 c, .slice L n1 e, .int .i64 st, .slice C n3 f, .bool o] 34)).alloc (.cells #[.int .i64 6, .int .i64 at_, .int .u8 (cc.toNat : Int), .bool odd, .int .i64 fa, .int .u64 (fk : Int), .int .i64 ft] 42)).alloc (.cells #[.pointer none, .slice none 0 0, .slice none 0 0, .int .i64 0, .slice none 0 0, .bool false] 34)).alloc (.cells #[.int .i64 q, .int .u64 (fk : Int), .int .i64 ft] 40)).alloc (.cells #[.int .i64 q, .int .u64 (fk : Int), .int .i64 ft] 40)).heap[w.heap.size + 4]? = some (.cells (cellsF ⟨q, fk, ft⟩).toArray 40 (0, 0)) := by
    have := heap_alloc_last ((((w.alloc (.cells #[.pointer (some ⟨B, 0, none⟩), .slice A n0 c, .slice L n1 e, .int .i64 st, .slice C n3 f, .bool o] 34)).alloc (.cells #[.int .i64 6, .int .i64 at_, .int .u8 (cc.toNat : Int), .bool odd, .int .i64 fa, .int .u64 (fk : Int), .int .i64 ft] 42)).alloc (.cells #[.pointer none, .slice none 0 0, .slice none 0 0, .int .i64 0, .slice none 0 0, .bool false] 34)).alloc (.cells #[.int .i64 q, .int .u64 (fk : Int), .int .i64 ft] 40)) (.cells #[.int .i64 q, .int .u64 (fk : Int), .int .i64 ft] 40)
    simp only [World.size_alloc] at this
    exact this
  have cP := two_plan r5.two hrow5 hkeep 1
  have R5 := Lib.hid r5; have H4 := Lib.hid hrow4; have HK := Lib.hid hkeep
  clear h hf hk hkeep hat hn0 hn1 hn3 hst ho r3 b4 b5 r5 hrow4 hrow5 hw hq
  show Calls _ _ #[.agg #[.pointer (some ⟨B, 0, none⟩), .slice A n0 c, .slice L n1 e, .int .i64 st, .slice C n3 f, .bool o], .agg #[.int .i64 6, .int .i64 at_, .int .u8 (cc.toNat : Int), .bool odd, .int .i64 fa, .int .u64 (fk : Int), .int .i64 ft]] _ _
  go_enter Try.func13, Try.ntmps13
  go_wp2_with fail
  refine cP.mono ?_
  rintro e1 w1 ⟨rfl, h1, ho1⟩
  have r1 := R5.out.call h1 ho1
  have h4 := R5.out.two.keep ho1 H4.out (by decide) (by decide)
  have h0' := r1.h0; have h2' := r1.h2
  have p0 : w1.cell? ⟨w.heap.size, 0, none⟩ = some (.pointer (some ⟨B, 0, none⟩)) := by rw [cell_of_row _ _ _ _ _ _ h0']; rfl
  have p1 : w1.cell? ⟨w.heap.size, 1, none⟩ = some (.slice A n0 c) := by rw [cell_of_row _ _ _ _ _ _ h0']; rfl
  have p2 : w1.cell? ⟨w.heap.size, 2, none⟩ = some (.slice L n1 e) := by rw [cell_of_row _ _ _ _ _ _ h0']; rfl
  have p3 : w1.cell? ⟨w.heap.size, 3, none⟩ = some (.int .i64 st) := by rw [cell_of_row _ _ _ _ _ _ h0']; rfl
  have p4 : w1.cell? ⟨w.heap.size, 4, none⟩ = some (.slice C n3 f) := by rw [cell_of_row _ _ _ _ _ _ h0']; rfl
  have p5 : w1.cell? ⟨w.heap.size, 5, none⟩ = some (.bool o) := by rw [cell_of_row _ _ _ _ _ _ h0']; rfl
  have pf4 : w1.frozen? ⟨w.heap.size, 4, none⟩ = false := by simp [World.frozen?, h0']
  have z0 : w1.cell? ⟨w.heap.size + 2, 0, none⟩ = some (.pointer none) := by rw [cell_of_row _ _ _ _ _ _ h2']; rfl
  have z1 : w1.cell? ⟨w.heap.size + 2, 1, none⟩ = some (.slice none 0 0) := by rw [cell_of_row _ _ _ _ _ _ h2']; rfl
  have z2 : w1.cell? ⟨w.heap.size + 2, 2, none⟩ = some (.slice none 0 0) := by rw [cell_of_row _ _ _ _ _ _ h2']; rfl
  have z3 : w1.cell? ⟨w.heap.size + 2, 3, none⟩ = some (.int .i64 0) := by rw [cell_of_row _ _ _ _ _ _ h2']; rfl
  have z4 : w1.cell? ⟨w.heap.size + 2, 4, none⟩ = some (.slice none 0 0) := by rw [cell_of_row _ _ _ _ _ _ h2']; rfl
  have z5 : w1.cell? ⟨w.heap.size + 2, 5, none⟩ = some (.bool false) := by rw [cell_of_row _ _ _ _ _ _ h2']; rfl
  have zf0 : w1.frozen? ⟨w.heap.size + 2, 0, none⟩ = false := by simp [World.frozen?, h2']
  have zf1 : w1.frozen? ⟨w.heap.size + 2, 1, none⟩ = false := by simp [World.frozen?, h2']
  have zf2 : w1.frozen? ⟨w.heap.size + 2, 2, none⟩ = false := by simp [World.frozen?, h2']
  have zf3 : w1.frozen? ⟨w.heap.size + 2, 3, none⟩ = false := by simp [World.frozen?, h2']
  have zf4 : w1.frozen? ⟨w.heap.size + 2, 4, none⟩ = false := by simp [World.frozen?, h2']
  have zf5 : w1.frozen? ⟨w.heap.size + 2, 5, none⟩ = false := by simp [World.frozen?, h2']
  have o0 : w1.cell? ⟨w.heap.size + 3, 0, none⟩ = some (.int .i64 q) := by rw [cell_of_row _ _ _ _ _ _ h4]; rfl
  have o1 : w1.cell? ⟨w.heap.size + 3, 1, none⟩ = some (.int .u64 (fk : Int)) := by rw [cell_of_row _ _ _ _ _ _ h4]; rfl
  have o2 : w1.cell? ⟨w.heap.size + 3, 2, none⟩ = some (.int .i64 ft) := by rw [cell_of_row _ _ _ _ _ _ h4]; rfl
  have hz : w.heap.size < w1.heap.size := (Array.getElem?_eq_some_iff.1 h0').1
  have hz2 : w.heap.size + 2 < w1.heap.size := (Array.getElem?_eq_some_iff.1 h2').1
  have hbn := (Below.refl w1.heap.size w1).alloc (Nat.le_refl _) (.cells #[.int .i64 q, .int .u64 (fk : Int), .int .i64 ft] 78)
  have hnew := heap_alloc_last w1 (.cells #[.int .i64 q, .int .u64 (fk : Int), .int .i64 ft] 78)
  have r2 := r1.call ((h1.on hbn).plans (fl := ⟨q, fk, ft⟩) hnew HK.out) (Only.of_below hbn)
  have R2 := Lib.hid (r2.box (by simp [plainV]) 4 [.slice (some ⟨w1.heap.size, 0, none⟩) 1 1] (by simp [plainV]))
  clear h0' h2' h4 cP h1 ho1 r1 R5 H4 hbn hnew r2
  have HZ := Lib.hid hz; have HZ2 := Lib.hid hz2
  go_wp2_with fail
  obtain ⟨hfin, hof, hrow⟩ := R2.out.done [.pointer (some ⟨B, 0, none⟩), .slice A n0 c, .slice L n1 e, .int .i64 st, .slice (some ⟨w1.heap.size, 0, none⟩) 1 1, .bool o] (by simp [plainV])
  rw [setsR_six] at hrow
  have s0 := cell_of_row _ _ 0 _ _ _ hrow
  have s1 := cell_of_row _ _ 1 _ _ _ hrow
  have s2 := cell_of_row _ _ 2 _ _ _ hrow
  have s3 := cell_of_row _ _ 3 _ _ _ hrow
  have s4 := cell_of_row _ _ 4 _ _ _ hrow
  have s5 := cell_of_row _ _ 5 _ _ _ hrow
  simp only [List.getElem?_toArray, List.getElem?_cons_zero, List.getElem?_cons_succ] at s0 s1 s2 s3 s4 s5
  rw [setsW_alloc _ _ _ _ HZ.out, setsW_alloc _ _ _ _ (by rw [setsW_size]; exact HZ2.out)] at hfin hof s0 s1 s2 s3 s4 s5
  change bodyPost _ _ _ _ _ ((setsW (setsW w1 w.heap.size 4 [.slice (some ⟨w1.heap.size, 0, none⟩) 1 1]) (w.heap.size + 2) 0 [.pointer (some ⟨B, 0, none⟩), .slice A n0 c, .slice L n1 e, .int .i64 st, .slice (some ⟨w1.heap.size, 0, none⟩) 1 1, .bool o]).alloc (.cells #[.int .i64 q, .int .u64 (fk : Int), .int .i64 ft] 78))
  refine bodyPost_ret (v := .tuple #[.agg #[.pointer (some ⟨B, 0, none⟩), .slice A n0 c, .slice L n1 e, .int .i64 st, .slice (some ⟨w1.heap.size, 0, none⟩) 1 1, .bool o], .bool true]) (by simp [results, Try.results13, go_sem, s0, s1, s2, s3, s4, s5]) rfl ?_
  exact ⟨{ d with plan := [⟨q, fk, ft⟩] }, _, _, rfl, hfin, .inr ⟨_, rfl, .inl rfl⟩, HFW.out, hof⟩

/-- both.do -/
theorem do_any (h : Two n a w B S M d v d F) (hp : Plans d F) (hf : Few k d) (hk : k ≤ 900) (x : Act3) (hkeep : x.fall.keep < 18446744073709551616) : DoC n a w B S M v k x := by
  by_cases x3 : x.kind = 3
  · exact do_flush h hp hf hk x x3
  by_cases x4 : x.kind = 4
  · exact do_crash h hp hf x x4 hkeep
  by_cases x5 : x.kind = 5
  · exact do_up h hp hf x x5
  by_cases x6 : x.kind = 6
  · by_cases y1 : x.fall.at_ < 0
    · exact do_plan_neg h hf x x6 hkeep y1
    by_cases y2 : 1000 ≤ x.fall.at_
    · exact do_plan_far h hf x x6 hkeep y2
    exact do_plan_near h hf hk x x6 hkeep ⟨by omega, by omega⟩
  cases ho : x.odd
  · exact do_even h hp hf hk x ⟨x3, x4, x5, x6⟩ ho
  · exact do_odd h hp hf hk x ⟨x3, x4, x5, x6⟩ ho

end

end Go.Proofs.Ytbdjdeddghdefaa
