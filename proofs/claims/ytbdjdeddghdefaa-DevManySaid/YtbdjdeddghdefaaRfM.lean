/- both.do: the power comes again (written by tools/laws03u.py) -/
import Derived.Test.YtbdjdeddghdefaaRfL
namespace Go.Proofs.Ytbdjdeddghdefaa
open Go.ChangeShapes Go.WideShapes Go.ChangeAt Go.RowKit

section
variable {n : Nat} {a w : World} {B S M : Nat} {d : Dv} {v : Value} {F : List Fal} {k : Int}

/-- the document's device has power -/
theorem RfAt.power {w : World} {v0 v1 v2 v3 v4 : Value} {d : Dv} {F : List Fal} (h : RfAt w (.agg #[v0, v1, v2, v3, v4]) d F) : RfAt w (.agg #[v0, v1, v2, v3, .bool false]) { d with off := false } F := by
  obtain ⟨u0, u1, u3, e, h0, h1, h3⟩ := h.form
  simp only [Value.agg.injEq, Array.mk.injEq, List.cons.injEq, and_true] at e
  obtain ⟨rfl, rfl, rfl, rfl, -⟩ := e
  exact ⟨_, _, _, rfl, h0, h1, h3⟩

theorem Two.power {v0 v1 v2 v3 v4 : Value} (h : Two n a w B S M { d with off := false } (.agg #[v0, v1, v2, v3, v4]) d F) : Two n a w B S M { d with off := false } (.agg #[v0, v1, v2, v3, .bool false]) { d with off := false } F :=
  ⟨h.dev, h.below, h.nb, h.ns, h.nm, h.ref.power, h.fits h.fit.one⟩

set_option maxHeartbeats 4000000 in
set_option maxRecDepth 100000 in
theorem do_up (h : Two n a w B S M d v d F) (hp : Plans d F) (hf : Few k d) (x : Act3) (hx : x.kind = 5) : DoC n a w B S M v k x := by
  obtain ⟨A, c, L, e, C, f, rfl⟩ := h.ref.open_
  obtain ⟨kd, at_, cc, odd, ⟨fa, fk, ft⟩⟩ := x
  simp only at hx
  subst hx
  have hfw : Few (k + 1) { d with off := false } := ⟨hf.1, by have := hf.2; show d.steps ≤ k + 1; omega⟩
  have hpl : Plans { d with off := false } F := hp
  have HFW := Lib.hid hfw; have HPL := Lib.hid hpl
  obtain ⟨n0, hn0⟩ : ∃ q, d.sure.length = q := ⟨_, rfl⟩
  obtain ⟨n1, hn1⟩ : ∃ q, d.loose.length = q := ⟨_, rfl⟩
  obtain ⟨n3, hn3⟩ : ∃ q, F.length = q := ⟨_, rfl⟩
  obtain ⟨st, hst⟩ : ∃ q, d.steps = q := ⟨_, rfl⟩
  obtain ⟨o, ho⟩ : ∃ q, d.off = q := ⟨_, rfl⟩
  rw [hn0, hn1, hn3, hst, ho] at h ⊢
  have HO := Lib.hid ho
  have r := Run.start h #[.pointer (some ⟨B, 0, none⟩), .slice A n0 c, .slice L n1 e, .int .i64 st, .slice C n3 f, .bool false] #[.int .i64 5, .int .i64 at_, .int .u8 (cc.toNat : Int), .bool odd, .int .i64 fa, .int .u64 (fk : Int), .int .i64 ft]
  have HU : Hid (∀ wn, Two n a wn B S M d (.agg #[.slice A n0 c, .slice L n1 e, .int .i64 st, .slice C n3 f, .bool o]) d F → Calls Try.prog 29 #[.pointer (some ⟨B, 0, none⟩)] wn fun ex w' => ex = .returned (.bool o) ∧ Two n a w' B S M { d with off := false } (.agg #[.slice A n0 c, .slice L n1 e, .int .i64 st, .slice C n3 f, .bool o]) d F ∧ Only (dev3 B S M) wn w') := Lib.hid fun wn hn => by
    have := two_up hn
    rw [ho] at this
    exact this
  have R := Lib.hid r
  clear hp hf hfw hpl h hn0 hn1 hn3 hst ho r
  show Calls _ _ #[.agg #[.pointer (some ⟨B, 0, none⟩), .slice A n0 c, .slice L n1 e, .int .i64 st, .slice C n3 f, .bool o], .agg #[.int .i64 5, .int .i64 at_, .int .u8 (cc.toNat : Int), .bool odd, .int .i64 fa, .int .u64 (fk : Int), .int .i64 ft]] _ _
  go_enter Try.func13, Try.ntmps13
  go_upto_region 17 with fail
  have R1 := R
  clear R
  generalize (((w.alloc (.cells #[.pointer (some ⟨B, 0, none⟩), .slice A n0 c, .slice L n1 e, .int .i64 st, .slice C n3 f, .bool false] 34)).alloc (.cells #[.int .i64 5, .int .i64 at_, .int .u8 (cc.toNat : Int), .bool odd, .int .i64 fa, .int .u64 (fk : Int), .int .i64 ft] 42)).alloc (.cells #[.pointer none, .slice none 0 0, .slice none 0 0, .int .i64 0, .slice none 0 0, .bool false] 34)) = W at R1 ⊢
  have R := Lib.hid R1.out.drew
  clear R1
  have h0' := R.out.h0; have h2' := R.out.h2
  have p0 : W.drew.cell? ⟨w.heap.size, 0, none⟩ = some (.pointer (some ⟨B, 0, none⟩)) := by rw [cell_of_row _ _ _ _ _ _ h0']; rfl
  have p1 : W.drew.cell? ⟨w.heap.size, 1, none⟩ = some (.slice A n0 c) := by rw [cell_of_row _ _ _ _ _ _ h0']; rfl
  have p2 : W.drew.cell? ⟨w.heap.size, 2, none⟩ = some (.slice L n1 e) := by rw [cell_of_row _ _ _ _ _ _ h0']; rfl
  have p3 : W.drew.cell? ⟨w.heap.size, 3, none⟩ = some (.int .i64 st) := by rw [cell_of_row _ _ _ _ _ _ h0']; rfl
  have p4 : W.drew.cell? ⟨w.heap.size, 4, none⟩ = some (.slice C n3 f) := by rw [cell_of_row _ _ _ _ _ _ h0']; rfl
  have p5 : W.drew.cell? ⟨w.heap.size, 5, none⟩ = some (.bool false) := by rw [cell_of_row _ _ _ _ _ _ h0']; rfl
  have q0 : W.drew.cell? ⟨w.heap.size + 2, 0, none⟩ = some (.pointer none) := by rw [cell_of_row _ _ _ _ _ _ h2']; rfl
  have q1 : W.drew.cell? ⟨w.heap.size + 2, 1, none⟩ = some (.slice none 0 0) := by rw [cell_of_row _ _ _ _ _ _ h2']; rfl
  have q2 : W.drew.cell? ⟨w.heap.size + 2, 2, none⟩ = some (.slice none 0 0) := by rw [cell_of_row _ _ _ _ _ _ h2']; rfl
  have q3 : W.drew.cell? ⟨w.heap.size + 2, 3, none⟩ = some (.int .i64 0) := by rw [cell_of_row _ _ _ _ _ _ h2']; rfl
  have q4 : W.drew.cell? ⟨w.heap.size + 2, 4, none⟩ = some (.slice none 0 0) := by rw [cell_of_row _ _ _ _ _ _ h2']; rfl
  have q5 : W.drew.cell? ⟨w.heap.size + 2, 5, none⟩ = some (.bool false) := by rw [cell_of_row _ _ _ _ _ _ h2']; rfl
  have qf0 : W.drew.frozen? ⟨w.heap.size + 2, 0, none⟩ = false := by simp [World.frozen?, h2']
  have qf1 : W.drew.frozen? ⟨w.heap.size + 2, 1, none⟩ = false := by simp [World.frozen?, h2']
  have qf2 : W.drew.frozen? ⟨w.heap.size + 2, 2, none⟩ = false := by simp [World.frozen?, h2']
  have qf3 : W.drew.frozen? ⟨w.heap.size + 2, 3, none⟩ = false := by simp [World.frozen?, h2']
  have qf4 : W.drew.frozen? ⟨w.heap.size + 2, 4, none⟩ = false := by simp [World.frozen?, h2']
  have qf5 : W.drew.frozen? ⟨w.heap.size + 2, 5, none⟩ = false := by simp [World.frozen?, h2']
  obtain ⟨hsd, hso, hsr⟩ := R.out.done [.pointer (some ⟨B, 0, none⟩), .slice A n0 c, .slice L n1 e, .int .i64 st, .slice C n3 f, .bool false] (by simp [plainV])
  rw [setsR_six] at hsr
  have HSD := Lib.hid hsd; have HSO := Lib.hid hso; have HSR := Lib.hid hsr
  clear hsd hso hsr h0' h2'
  go_region_with (first
    | (go_at_call 29; (with_reducible refine (HU.out _ R.out.two).mono ?_); rintro ex w2 ⟨rfl, h2, ho2⟩; have r2 := R.out.call h2 ho2; have h0' := r2.h0; have h2' := r2.h2;
       have p0 : w2.cell? ⟨w.heap.size, 0, none⟩ = some (.pointer (some ⟨B, 0, none⟩)) := by rw [cell_of_row _ _ _ _ _ _ h0']; rfl;
       have p1 : w2.cell? ⟨w.heap.size, 1, none⟩ = some (.slice A n0 c) := by rw [cell_of_row _ _ _ _ _ _ h0']; rfl;
       have p2 : w2.cell? ⟨w.heap.size, 2, none⟩ = some (.slice L n1 e) := by rw [cell_of_row _ _ _ _ _ _ h0']; rfl;
       have p3 : w2.cell? ⟨w.heap.size, 3, none⟩ = some (.int .i64 st) := by rw [cell_of_row _ _ _ _ _ _ h0']; rfl;
       have p4 : w2.cell? ⟨w.heap.size, 4, none⟩ = some (.slice C n3 f) := by rw [cell_of_row _ _ _ _ _ _ h0']; rfl;
       have p5 : w2.cell? ⟨w.heap.size, 5, none⟩ = some (.bool false) := by rw [cell_of_row _ _ _ _ _ _ h0']; rfl;
       have q0 : w2.cell? ⟨w.heap.size + 2, 0, none⟩ = some (.pointer none) := by rw [cell_of_row _ _ _ _ _ _ h2']; rfl;
       have q1 : w2.cell? ⟨w.heap.size + 2, 1, none⟩ = some (.slice none 0 0) := by rw [cell_of_row _ _ _ _ _ _ h2']; rfl;
       have q2 : w2.cell? ⟨w.heap.size + 2, 2, none⟩ = some (.slice none 0 0) := by rw [cell_of_row _ _ _ _ _ _ h2']; rfl;
       have q3 : w2.cell? ⟨w.heap.size + 2, 3, none⟩ = some (.int .i64 0) := by rw [cell_of_row _ _ _ _ _ _ h2']; rfl;
       have q4 : w2.cell? ⟨w.heap.size + 2, 4, none⟩ = some (.slice none 0 0) := by rw [cell_of_row _ _ _ _ _ _ h2']; rfl;
       have q5 : w2.cell? ⟨w.heap.size + 2, 5, none⟩ = some (.bool false) := by rw [cell_of_row _ _ _ _ _ _ h2']; rfl;
       have qf0 : w2.frozen? ⟨w.heap.size + 2, 0, none⟩ = false := by simp [World.frozen?, h2'];
       have qf1 : w2.frozen? ⟨w.heap.size + 2, 1, none⟩ = false := by simp [World.frozen?, h2'];
       have qf2 : w2.frozen? ⟨w.heap.size + 2, 2, none⟩ = false := by simp [World.frozen?, h2'];
       have qf3 : w2.frozen? ⟨w.heap.size + 2, 3, none⟩ = false := by simp [World.frozen?, h2'];
       have qf4 : w2.frozen? ⟨w.heap.size + 2, 4, none⟩ = false := by simp [World.frozen?, h2'];
       have qf5 : w2.frozen? ⟨w.heap.size + 2, 5, none⟩ = false := by simp [World.frozen?, h2'];
       clear h0' h2'))
  all_goals
    go_wp2_with fail
    have r3 := R.out.call h2.power ho2
    obtain ⟨hfin, hof, hrow⟩ := r3.done [.pointer (some ⟨B, 0, none⟩), .slice A n0 c, .slice L n1 e, .int .i64 st, .slice C n3 f, .bool false] (by simp [plainV])
    rw [setsR_six] at hrow
    have s0 := cell_of_row _ _ 0 _ _ _ hrow
    have s1 := cell_of_row _ _ 1 _ _ _ hrow
    have s2 := cell_of_row _ _ 2 _ _ _ hrow
    have s3 := cell_of_row _ _ 3 _ _ _ hrow
    have s4 := cell_of_row _ _ 4 _ _ _ hrow
    have s5 := cell_of_row _ _ 5 _ _ _ hrow
    simp only [List.getElem?_toArray, List.getElem?_cons_zero, List.getElem?_cons_succ] at s0 s1 s2 s3 s4 s5
    change bodyPost _ _ _ _ _ (setsW w2 (w.heap.size + 2) 0 [.pointer (some ⟨B, 0, none⟩), .slice A n0 c, .slice L n1 e, .int .i64 st, .slice C n3 f, .bool false])
    refine bodyPost_ret (v := .tuple #[.agg #[.pointer (some ⟨B, 0, none⟩), .slice A n0 c, .slice L n1 e, .int .i64 st, .slice C n3 f, .bool false], .bool true]) (by simp [results, Try.results13, go_sem, s0, s1, s2, s3, s4, s5]) rfl ?_
    exact ⟨{ d with off := false }, _, _, rfl, hfin, HPL.out, HFW.out, hof⟩

end

end Go.Proofs.Ytbdjdeddghdefaa
