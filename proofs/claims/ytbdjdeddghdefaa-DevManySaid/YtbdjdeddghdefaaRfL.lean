/- both.do: a theorem a kind (written by tools/laws03d.py) -/
import Derived.Test.YtbdjdeddghdefaaRfK
namespace Go.Proofs.Ytbdjdeddghdefaa
open Go.ChangeShapes Go.WideShapes Go.ChangeAt Go.RowKit

section
variable {n : Nat} {a w : World} {B S M : Nat} {d : Dv} {v : Value} {F : List Fal} {k : Int}

set_option maxHeartbeats 4000000 in
set_option maxRecDepth 100000 in
theorem do_flush (h : Two n a w B S M d v d F) (hp : Plans d F) (hf : Few k d) (hk : k ≤ 900) (x : Act3) (hx : x.kind = 3) : DoC n a w B S M v k x := by
  obtain ⟨A, c, L, e, C, f, rfl⟩ := h.ref.open_
  obtain ⟨kd, at_, cc, odd, ⟨fa, fk, ft⟩⟩ := x
  simp only at hx
  subst hx
  obtain ⟨hal, hpl, hfw, hee⟩ := flush_both hp hf (by omega) h.ris
  have r := Run.start h #[.pointer (some ⟨B, 0, none⟩), .slice A d.sure.length c, .slice L d.loose.length e, .int .i64 d.steps, .slice C F.length f, .bool d.off] #[.int .i64 3, .int .i64 at_, .int .u8 (cc.toNat : Int), .bool odd, .int .i64 fa, .int .u64 (fk : Int), .int .i64 ft]
  obtain ⟨z, hz⟩ : ∃ z, (flushX d).2 = z := ⟨_, rfl⟩
  obtain ⟨F1, hF1⟩ : ∃ q, (rflushX d F).2.1 = q := ⟨_, rfl⟩
  have c1 := two_flush r.two
  have c2 : ∀ w1, Two n a w1 B S M (flushX d).1 (.agg #[.slice A d.sure.length c, .slice L d.loose.length e, .int .i64 d.steps, .slice C F.length f, .bool d.off]) d F → Calls Try.prog 35 #[(.agg #[.slice A d.sure.length c, .slice L d.loose.length e, .int .i64 d.steps, .slice C F.length f, .bool d.off])] w1 fun e w' => ∃ v', e = .returned (.tuple #[v', .int .i64 z]) ∧ Two n a w' B S M (flushX d).1 v' (flushX d).1 F1 ∧ Only (dev3 B S M) w1 w' := fun w1 h1 => by
    have := two_rfflush h1 hal hpl
    rw [← hee, hz, hF1] at this
    exact this
  rw [hz] at c1
  rw [hF1] at hpl
  generalize (flushX d).1 = D at c1 c2 hpl hfw
  have R := Lib.hid r; have C2' := Lib.hid c2
  clear hal hee hz hF1 h r c2 hp hf
  show Calls _ _ #[.agg #[.pointer (some ⟨B, 0, none⟩), .slice A d.sure.length c, .slice L d.loose.length e, .int .i64 d.steps, .slice C F.length f, .bool d.off], .agg #[.int .i64 3, .int .i64 at_, .int .u8 (cc.toNat : Int), .bool odd, .int .i64 fa, .int .u64 (fk : Int), .int .i64 ft]] _ _
  go_enter Try.func13, Try.ntmps13
  go_wp2_with fail
  refine c1.mono ?_
  rintro e1 w1 ⟨rfl, h1, ho1⟩
  have r1 := R.out.call h1 ho1
  have h0' := r1.h0
  have p0 : w1.cell? ⟨w.heap.size, 0, none⟩ = some (.pointer (some ⟨B, 0, none⟩)) := by rw [cell_of_row _ _ _ _ _ _ h0']; rfl
  have p1 : w1.cell? ⟨w.heap.size, 1, none⟩ = some (.slice A d.sure.length c) := by rw [cell_of_row _ _ _ _ _ _ h0']; rfl
  have p2 : w1.cell? ⟨w.heap.size, 2, none⟩ = some (.slice L d.loose.length e) := by rw [cell_of_row _ _ _ _ _ _ h0']; rfl
  have p3 : w1.cell? ⟨w.heap.size, 3, none⟩ = some (.int .i64 d.steps) := by rw [cell_of_row _ _ _ _ _ _ h0']; rfl
  have p4 : w1.cell? ⟨w.heap.size, 4, none⟩ = some (.slice C F.length f) := by rw [cell_of_row _ _ _ _ _ _ h0']; rfl
  have p5 : w1.cell? ⟨w.heap.size, 5, none⟩ = some (.bool d.off) := by rw [cell_of_row _ _ _ _ _ _ h0']; rfl
  clear h0' c1 R
  go_wp2_with fail
  refine (C2'.out w1 h1).mono ?_
  rintro e2 w2 ⟨v2, rfl, h2, ho2⟩
  clear p0 p1 p2 p3 p4 p5
  have hpl2 := Lib.hid hpl; have hfw2 := Lib.hid hfw
  obtain ⟨A2, c2, L2, e2, C2, f2, hv2⟩ := h2.ref.open_
  have r2 := r1.call h2 ho2
  obtain ⟨n0, hn0⟩ : ∃ q, D.sure.length = q := ⟨_, rfl⟩
  obtain ⟨n1, hn1⟩ : ∃ q, D.loose.length = q := ⟨_, rfl⟩
  obtain ⟨n3, hn3⟩ : ∃ q, F1.length = q := ⟨_, rfl⟩
  obtain ⟨st, hst⟩ : ∃ q, D.steps = q := ⟨_, rfl⟩
  obtain ⟨po, hpo⟩ : ∃ q, D.off = q := ⟨_, rfl⟩
  rw [hn0, hn1, hn3, hst, hpo] at hv2
  subst hv2
  clear hn0 hn1 hn3 hst hpo h2 ho2 r1 hpl hfw
  have HR2 := Lib.hid r2
  have h0' := r2.h0; have h2' := r2.h2
  have p0 : w2.cell? ⟨w.heap.size, 0, none⟩ = some (.pointer (some ⟨B, 0, none⟩)) := by rw [cell_of_row _ _ _ _ _ _ h0']; rfl
  have p1 : w2.cell? ⟨w.heap.size, 1, none⟩ = some (.slice A d.sure.length c) := by rw [cell_of_row _ _ _ _ _ _ h0']; rfl
  have p2 : w2.cell? ⟨w.heap.size, 2, none⟩ = some (.slice L d.loose.length e) := by rw [cell_of_row _ _ _ _ _ _ h0']; rfl
  have p3 : w2.cell? ⟨w.heap.size, 3, none⟩ = some (.int .i64 d.steps) := by rw [cell_of_row _ _ _ _ _ _ h0']; rfl
  have p4 : w2.cell? ⟨w.heap.size, 4, none⟩ = some (.slice C F.length f) := by rw [cell_of_row _ _ _ _ _ _ h0']; rfl
  have p5 : w2.cell? ⟨w.heap.size, 5, none⟩ = some (.bool d.off) := by rw [cell_of_row _ _ _ _ _ _ h0']; rfl
  have pf1 : w2.frozen? ⟨w.heap.size, 1, none⟩ = false := by simp [World.frozen?, h0']
  have pf2 : w2.frozen? ⟨w.heap.size, 2, none⟩ = false := by simp [World.frozen?, h0']
  have pf3 : w2.frozen? ⟨w.heap.size, 3, none⟩ = false := by simp [World.frozen?, h0']
  have pf4 : w2.frozen? ⟨w.heap.size, 4, none⟩ = false := by simp [World.frozen?, h0']
  have pf5 : w2.frozen? ⟨w.heap.size, 5, none⟩ = false := by simp [World.frozen?, h0']
  have q0 : w2.cell? ⟨w.heap.size + 2, 0, none⟩ = some (.pointer none) := by rw [cell_of_row _ _ _ _ _ _ h2']; rfl
  have q1 : w2.cell? ⟨w.heap.size + 2, 1, none⟩ = some (.slice none 0 0) := by rw [cell_of_row _ _ _ _ _ _ h2']; rfl
  have q2 : w2.cell? ⟨w.heap.size + 2, 2, none⟩ = some (.slice none 0 0) := by rw [cell_of_row _ _ _ _ _ _ h2']; rfl
  have q3 : w2.cell? ⟨w.heap.size + 2, 3, none⟩ = some (.int .i64 0) := by rw [cell_of_row _ _ _ _ _ _ h2']; rfl
  have q4 : w2.cell? ⟨w.heap.size + 2, 4, none⟩ = some (.slice none 0 0) := by rw [cell_of_row _ _ _ _ _ _ h2']; rfl
  have q5 : w2.cell? ⟨w.heap.size + 2, 5, none⟩ = some (.bool false) := by rw [cell_of_row _ _ _ _ _ _ h2']; rfl
  have qf0 : w2.frozen? ⟨w.heap.size + 2, 0, none⟩ = false := by simp [World.frozen?, h2']
  have qf1 : w2.frozen? ⟨w.heap.size + 2, 1, none⟩ = false := by simp [World.frozen?, h2']
  have qf2 : w2.frozen? ⟨w.heap.size + 2, 2, none⟩ = false := by simp [World.frozen?, h2']
  have qf3 : w2.frozen? ⟨w.heap.size + 2, 3, none⟩ = false := by simp [World.frozen?, h2']
  have qf4 : w2.frozen? ⟨w.heap.size + 2, 4, none⟩ = false := by simp [World.frozen?, h2']
  have qf5 : w2.frozen? ⟨w.heap.size + 2, 5, none⟩ = false := by simp [World.frozen?, h2']
  have z2 : w.heap.size ≠ w.heap.size + 2 := by omega
  clear h0' h2' r2
  go_wp2_with fail
  have r3 := HR2.out.box (by simp [plainV]) 1 [.slice A2 n0 c2, .slice L2 n1 e2, .int .i64 st, .slice C2 n3 f2, .bool po] (by simp [plainV])
  obtain ⟨hfin, hof, hrow⟩ := r3.done [.pointer (some ⟨B, 0, none⟩), .slice A2 n0 c2, .slice L2 n1 e2, .int .i64 st, .slice C2 n3 f2, .bool po] (by simp [plainV])
  rw [setsR_six] at hrow
  have r0 := cell_of_row _ _ 0 _ _ _ hrow
  have r1 := cell_of_row _ _ 1 _ _ _ hrow
  have r2 := cell_of_row _ _ 2 _ _ _ hrow
  have r3 := cell_of_row _ _ 3 _ _ _ hrow
  have r4 := cell_of_row _ _ 4 _ _ _ hrow
  have r5 := cell_of_row _ _ 5 _ _ _ hrow
  simp only [List.getElem?_toArray, List.getElem?_cons_zero, List.getElem?_cons_succ] at r0 r1 r2 r3 r4 r5
  change bodyPost _ _ _ _ _ (setsW (setsW w2 w.heap.size 1 [.slice A2 n0 c2, .slice L2 n1 e2, .int .i64 st, .slice C2 n3 f2, .bool po]) (w.heap.size + 2) 0 [.pointer (some ⟨B, 0, none⟩), .slice A2 n0 c2, .slice L2 n1 e2, .int .i64 st, .slice C2 n3 f2, .bool po])
  refine bodyPost_ret (v := .tuple #[.agg #[.pointer (some ⟨B, 0, none⟩), .slice A2 n0 c2, .slice L2 n1 e2, .int .i64 st, .slice C2 n3 f2, .bool po], .bool true]) (by simp [results, Try.results13, go_sem, r0, r1, r2, r3, r4, r5]) rfl ?_
  exact ⟨D, _, _, rfl, hfin, hpl2.out, hfw2.out, hof⟩

set_option maxHeartbeats 4000000 in
set_option maxRecDepth 100000 in
theorem do_crash (h : Two n a w B S M d v d F) (hp : Plans d F) (hf : Few k d) (x : Act3) (hx : x.kind = 4) (hkeep : x.fall.keep < 18446744073709551616) : DoC n a w B S M v k x := by
  obtain ⟨A, c, L, e, C, f, rfl⟩ := h.ref.open_
  obtain ⟨kd, at_, cc, odd, ⟨fa, fk, ft⟩⟩ := x
  simp only at hx hkeep
  subst hx
  have hpl := hp.crash fk ft
  have hfw : Few (k + 1) (crashD d fk ft) := by
    obtain ⟨q0, q1⟩ := hf
    unfold Few
    rw [(crash_plan d fk ft).2]
    omega
  have r := Run.start h #[.pointer (some ⟨B, 0, none⟩), .slice A d.sure.length c, .slice L d.loose.length e, .int .i64 d.steps, .slice C F.length f, .bool d.off] #[.int .i64 4, .int .i64 at_, .int .u8 (cc.toNat : Int), .bool odd, .int .i64 fa, .int .u64 (fk : Int), .int .i64 ft]
  obtain ⟨F1, hF1⟩ : ∃ q, q = F := ⟨F, rfl⟩
  have c1 := two_crash r.two hkeep ft
  have c2 : ∀ w1, Two n a w1 B S M (crashD d fk ft) (.agg #[.slice A d.sure.length c, .slice L d.loose.length e, .int .i64 d.steps, .slice C F.length f, .bool d.off]) d F → Calls Try.prog 36 #[(.agg #[.slice A d.sure.length c, .slice L d.loose.length e, .int .i64 d.steps, .slice C F.length f, .bool d.off]), .int .u64 fk, .int .i64 ft] w1 fun e w' => ∃ v', e = .returned v' ∧ Two n a w' B S M (crashD d fk ft) v' (crashD d fk ft) F1 ∧ Only (dev3 B S M) w1 w' := fun w1 h1 => by
    rw [hF1]
    exact two_rfcrash h1 hkeep ft (.refl _) hpl
  rw [← hF1] at hpl
  generalize crashD d fk ft = D at c1 c2 hpl hfw
  have R := Lib.hid r; have C2' := Lib.hid c2
  clear hF1 h r c2 hp hf
  show Calls _ _ #[.agg #[.pointer (some ⟨B, 0, none⟩), .slice A d.sure.length c, .slice L d.loose.length e, .int .i64 d.steps, .slice C F.length f, .bool d.off], .agg #[.int .i64 4, .int .i64 at_, .int .u8 (cc.toNat : Int), .bool odd, .int .i64 fa, .int .u64 (fk : Int), .int .i64 ft]] _ _
  go_enter Try.func13, Try.ntmps13
  go_wp2_with fail
  refine c1.mono ?_
  rintro e1 w1 ⟨rfl, h1, ho1⟩
  have r1 := R.out.call h1 ho1
  have h0' := r1.h0; have h1' := r1.h1
  have p0 : w1.cell? ⟨w.heap.size, 0, none⟩ = some (.pointer (some ⟨B, 0, none⟩)) := by rw [cell_of_row _ _ _ _ _ _ h0']; rfl
  have p1 : w1.cell? ⟨w.heap.size, 1, none⟩ = some (.slice A d.sure.length c) := by rw [cell_of_row _ _ _ _ _ _ h0']; rfl
  have p2 : w1.cell? ⟨w.heap.size, 2, none⟩ = some (.slice L d.loose.length e) := by rw [cell_of_row _ _ _ _ _ _ h0']; rfl
  have p3 : w1.cell? ⟨w.heap.size, 3, none⟩ = some (.int .i64 d.steps) := by rw [cell_of_row _ _ _ _ _ _ h0']; rfl
  have p4 : w1.cell? ⟨w.heap.size, 4, none⟩ = some (.slice C F.length f) := by rw [cell_of_row _ _ _ _ _ _ h0']; rfl
  have p5 : w1.cell? ⟨w.heap.size, 5, none⟩ = some (.bool d.off) := by rw [cell_of_row _ _ _ _ _ _ h0']; rfl
  have o5 : w1.cell? ⟨w.heap.size + 1, 5, none⟩ = some (.int .u64 (fk : Int)) := by rw [cell_of_row _ _ _ _ _ _ h1']; rfl
  have o6 : w1.cell? ⟨w.heap.size + 1, 6, none⟩ = some (.int .i64 ft) := by rw [cell_of_row _ _ _ _ _ _ h1']; rfl
  clear h0' h1' c1 R
  go_wp2_with fail
  refine (C2'.out w1 h1).mono ?_
  rintro e2 w2 ⟨v2, rfl, h2, ho2⟩
  clear p0 p1 p2 p3 p4 p5 o5 o6
  have hpl2 := Lib.hid hpl; have hfw2 := Lib.hid hfw
  obtain ⟨A2, c2, L2, e2, C2, f2, hv2⟩ := h2.ref.open_
  have r2 := r1.call h2 ho2
  obtain ⟨n0, hn0⟩ : ∃ q, D.sure.length = q := ⟨_, rfl⟩
  obtain ⟨n1, hn1⟩ : ∃ q, D.loose.length = q := ⟨_, rfl⟩
  obtain ⟨n3, hn3⟩ : ∃ q, F1.length = q := ⟨_, rfl⟩
  obtain ⟨st, hst⟩ : ∃ q, D.steps = q := ⟨_, rfl⟩
  obtain ⟨po, hpo⟩ : ∃ q, D.off = q := ⟨_, rfl⟩
  rw [hn0, hn1, hn3, hst, hpo] at hv2
  subst hv2
  clear hn0 hn1 hn3 hst hpo h2 ho2 r1 hpl hfw
  have HR2 := Lib.hid r2
  have h0' := r2.h0; have h2' := r2.h2
  have p0 : w2.cell? ⟨w.heap.size, 0, none⟩ = some (.pointer (some ⟨B, 0, none⟩)) := by rw [cell_of_row _ _ _ _ _ _ h0']; rfl
  have p1 : w2.cell? ⟨w.heap.size, 1, none⟩ = some (.slice A d.sure.length c) := by rw [cell_of_row _ _ _ _ _ _ h0']; rfl
  have p2 : w2.cell? ⟨w.heap.size, 2, none⟩ = some (.slice L d.loose.length e) := by rw [cell_of_row _ _ _ _ _ _ h0']; rfl
  have p3 : w2.cell? ⟨w.heap.size, 3, none⟩ = some (.int .i64 d.steps) := by rw [cell_of_row _ _ _ _ _ _ h0']; rfl
  have p4 : w2.cell? ⟨w.heap.size, 4, none⟩ = some (.slice C F.length f) := by rw [cell_of_row _ _ _ _ _ _ h0']; rfl
  have p5 : w2.cell? ⟨w.heap.size, 5, none⟩ = some (.bool d.off) := by rw [cell_of_row _ _ _ _ _ _ h0']; rfl
  have pf1 : w2.frozen? ⟨w.heap.size, 1, none⟩ = false := by simp [World.frozen?, h0']
  have pf2 : w2.frozen? ⟨w.heap.size, 2, none⟩ = false := by simp [World.frozen?, h0']
  have pf3 : w2.frozen? ⟨w.heap.size, 3, none⟩ = false := by simp [World.frozen?, h0']
  have pf4 : w2.frozen? ⟨w.heap.size, 4, none⟩ = false := by simp [World.frozen?, h0']
  have pf5 : w2.frozen? ⟨w.heap.size, 5, none⟩ = false := by simp [World.frozen?, h0']
  have q0 : w2.cell? ⟨w.heap.size + 2, 0, none⟩ = some (.pointer none) := by rw [cell_of_row _ _ _ _ _ _ h2']; rfl
  have q1 : w2.cell? ⟨w.heap.size + 2, 1, none⟩ = some (.slice none 0 0) := by rw [cell_of_row _ _ _ _ _ _ h2']; rfl
  have q2 : w2.cell? ⟨w.heap.size + 2, 2, none⟩ = some (.slice none 0 0) := by rw [cell_of_row _ _ _ _ _ _ h2']; rfl
  have q3 : w2.cell? ⟨w.heap.size + 2, 3, none⟩ = some (.int .i64 0) := by rw [cell_of_row _ _ _ _ _ _ h2']; rfl
  have q4 : w2.cell? ⟨w.heap.size + 2, 4, none⟩ = some (.slice none 0 0) := by rw [cell_of_row _ _ _ _ _ _ h2']; rfl
  have q5 : w2.cell? ⟨w.heap.size + 2, 5, none⟩ = some (.bool false) := by rw [cell_of_row _ _ _ _ _ _ h2']; rfl
  have qf0 : w2.frozen? ⟨w.heap.size + 2, 0, none⟩ = false := by simp [World.frozen?, h2']
  have qf1 : w2.frozen? ⟨w.heap.size + 2, 1, none⟩ = false := by simp [World.frozen?, h2']
  have qf2 : w2.frozen? ⟨w.heap.size + 2, 2, none⟩ = false := by simp [World.frozen?, h2']
  have qf3 : w2.frozen? ⟨w.heap.size + 2, 3, none⟩ = false := by simp [World.frozen?, h2']
  have qf4 : w2.frozen? ⟨w.heap.size + 2, 4, none⟩ = false := by simp [World.frozen?, h2']
  have qf5 : w2.frozen? ⟨w.heap.size + 2, 5, none⟩ = false := by simp [World.frozen?, h2']
  have z2 : w.heap.size ≠ w.heap.size + 2 := by omega
  clear h0' h2' r2
  go_wp2_with fail
  have r3 := HR2.out.box (by simp [plainV]) 1 [.slice A2 n0 c2, .slice L2 n1 e2, .int .i64 st, .slice C2 n3 f2, .bool po] (by simp [plainV])
  obtain ⟨hfin, hof, hrow⟩ := r3.done [.pointer (some ⟨B, 0, none⟩), .slice A2 n0 c2, .slice L2 n1 e2, .int .i64 st, .slice C2 n3 f2, .bool po] (by simp [plainV])
  rw [setsR_six] at hrow
  have r0 := cell_of_row _ _ 0 _ _ _ hrow
  have r1 := cell_of_row _ _ 1 _ _ _ hrow
  have r2 := cell_of_row _ _ 2 _ _ _ hrow
  have r3 := cell_of_row _ _ 3 _ _ _ hrow
  have r4 := cell_of_row _ _ 4 _ _ _ hrow
  have r5 := cell_of_row _ _ 5 _ _ _ hrow
  simp only [List.getElem?_toArray, List.getElem?_cons_zero, List.getElem?_cons_succ] at r0 r1 r2 r3 r4 r5
  change bodyPost _ _ _ _ _ (setsW (setsW w2 w.heap.size 1 [.slice A2 n0 c2, .slice L2 n1 e2, .int .i64 st, .slice C2 n3 f2, .bool po]) (w.heap.size + 2) 0 [.pointer (some ⟨B, 0, none⟩), .slice A2 n0 c2, .slice L2 n1 e2, .int .i64 st, .slice C2 n3 f2, .bool po])
  refine bodyPost_ret (v := .tuple #[.agg #[.pointer (some ⟨B, 0, none⟩), .slice A2 n0 c2, .slice L2 n1 e2, .int .i64 st, .slice C2 n3 f2, .bool po], .bool true]) (by simp [results, Try.results13, go_sem, r0, r1, r2, r3, r4, r5]) rfl ?_
  exact ⟨D, _, _, rfl, hfin, hpl2.out, hfw2.out, hof⟩

set_option maxHeartbeats 4000000 in
set_option maxRecDepth 100000 in
theorem do_even (h : Two n a w B S M d v d F) (hp : Plans d F) (hf : Few k d) (hk : k ≤ 900) (x : Act3) (hx : x.kind ≠ 3 ∧ x.kind ≠ 4 ∧ x.kind ≠ 5 ∧ x.kind ≠ 6) (hodd : x.odd = false) : DoC n a w B S M v k x := by
  obtain ⟨A, c, L, e, C, f, rfl⟩ := h.ref.open_
  obtain ⟨kd, at_, cc, odd, ⟨fa, fk, ft⟩⟩ := x
  simp only at hx hodd
  subst hodd
  obtain ⟨x3, x4, x5, x6⟩ := hx
  have k3 : (kd == 3) = false := beq_eq_false_iff_ne.2 x3
  have k4 : (kd == 4) = false := beq_eq_false_iff_ne.2 x4
  have k5 : (kd == 5) = false := beq_eq_false_iff_ne.2 x5
  have k6 : (kd == 6) = false := beq_eq_false_iff_ne.2 x6
  clear x3 x4 x5 x6
  have r := Run.start h #[.pointer (some ⟨B, 0, none⟩), .slice A d.sure.length c, .slice L d.loose.length e, .int .i64 d.steps, .slice C F.length f, .bool d.off] #[.int .i64 kd, .int .i64 at_, .int .u8 (cc.toNat : Int), .bool false, .int .i64 fa, .int .u64 (fk : Int), .int .i64 ft]
  obtain ⟨Z, hZ⟩ : ∃ q, letter cc = q := ⟨_, rfl⟩
  obtain ⟨hal, hpl, hfw, hee⟩ := write_both hp hf (by omega) h.ris at_ Z
  obtain ⟨z, hz⟩ : ∃ z, (writeD d at_ Z).2 = z := ⟨_, rfl⟩
  obtain ⟨F1, hF1⟩ : ∃ q, (rwriteX d F at_ Z).2.1 = q := ⟨_, rfl⟩
  have c1 : ∀ w1, Two n a w1 B S M d (.agg #[.slice A d.sure.length c, .slice L d.loose.length e, .int .i64 d.steps, .slice C F.length f, .bool d.off]) d F → Calls Try.prog 31 #[.pointer (some ⟨B, 0, none⟩), .int .i64 at_, .string ⟨Z.toArray⟩] w1 fun ex w' => ex = .returned (.int .i64 z) ∧ Two n a w' B S M (writeD d at_ Z).1 (.agg #[.slice A d.sure.length c, .slice L d.loose.length e, .int .i64 d.steps, .slice C F.length f, .bool d.off]) d F ∧ Only (dev3 B S M) w1 w' := fun w1 h1 => by
    have := two_write h1 at_ Z
    rw [hz] at this
    exact this
  have c2 : ∀ w1, Two n a w1 B S M (writeD d at_ Z).1 (.agg #[.slice A d.sure.length c, .slice L d.loose.length e, .int .i64 d.steps, .slice C F.length f, .bool d.off]) d F → Calls Try.prog 37 #[(.agg #[.slice A d.sure.length c, .slice L d.loose.length e, .int .i64 d.steps, .slice C F.length f, .bool d.off]), .int .i64 at_, .string ⟨Z.toArray⟩] w1 fun e w' => ∃ v', e = .returned (.tuple #[v', .int .i64 z]) ∧ Two n a w' B S M (writeD d at_ Z).1 v' (writeD d at_ Z).1 F1 ∧ Only (dev3 B S M) w1 w' := fun w1 h1 => by
    have := two_rfwrite h1 at_ Z hal hpl
    rw [← hee, hz, hF1] at this
    exact this
  rw [hF1] at hpl
  generalize (writeD d at_ Z).1 = D at c1 c2 hpl hfw
  have c0 := sector_any cc (((w.alloc (.cells #[.pointer (some ⟨B, 0, none⟩), .slice A d.sure.length c, .slice L d.loose.length e, .int .i64 d.steps, .slice C F.length f, .bool d.off] 34)).alloc (.cells #[.int .i64 kd, .int .i64 at_, .int .u8 (cc.toNat : Int), .bool false, .int .i64 fa, .int .u64 (fk : Int), .int .i64 ft] 42)).alloc (.cells #[.pointer none, .slice none 0 0, .slice none 0 0, .int .i64 0, .slice none 0 0, .bool false] 34))
  rw [hZ] at c0
  have R := Lib.hid r; have C1' := Lib.hid c1; have C2' := Lib.hid c2
  clear hal hee hz hF1 h r c1 c2 hp hf hZ
  show Calls _ _ #[.agg #[.pointer (some ⟨B, 0, none⟩), .slice A d.sure.length c, .slice L d.loose.length e, .int .i64 d.steps, .slice C F.length f, .bool d.off], .agg #[.int .i64 kd, .int .i64 at_, .int .u8 (cc.toNat : Int), .bool false, .int .i64 fa, .int .u64 (fk : Int), .int .i64 ft]] _ _
  go_enter Try.func13, Try.ntmps13
  go_wp2_with fail
  refine c0.mono ?_
  rintro e0 w0 ⟨rfl, hb0⟩
  have r0 := R.out.call (R.out.two.on hb0) (Only.of_below hb0)
  have h0' := r0.h0; have h1' := r0.h1
  have p0 : w0.cell? ⟨w.heap.size, 0, none⟩ = some (.pointer (some ⟨B, 0, none⟩)) := by rw [cell_of_row _ _ _ _ _ _ h0']; rfl
  have o1 : w0.cell? ⟨w.heap.size + 1, 1, none⟩ = some (.int .i64 at_) := by rw [cell_of_row _ _ _ _ _ _ h1']; rfl
  have o3 : w0.cell? ⟨w.heap.size + 1, 3, none⟩ = some (.bool false) := by rw [cell_of_row _ _ _ _ _ _ h1']; rfl
  clear h0' h1' c0 R hb0
  go_wp2_with fail
  refine (C1'.out w0 r0.two).mono ?_
  rintro e1 w1 ⟨rfl, h1, ho1⟩
  have r1 := r0.call h1 ho1
  have h0' := r1.h0; have h1' := r1.h1
  clear p0 o1 o3 r0
  have p0 : w1.cell? ⟨w.heap.size, 0, none⟩ = some (.pointer (some ⟨B, 0, none⟩)) := by rw [cell_of_row _ _ _ _ _ _ h0']; rfl
  have p1 : w1.cell? ⟨w.heap.size, 1, none⟩ = some (.slice A d.sure.length c) := by rw [cell_of_row _ _ _ _ _ _ h0']; rfl
  have p2 : w1.cell? ⟨w.heap.size, 2, none⟩ = some (.slice L d.loose.length e) := by rw [cell_of_row _ _ _ _ _ _ h0']; rfl
  have p3 : w1.cell? ⟨w.heap.size, 3, none⟩ = some (.int .i64 d.steps) := by rw [cell_of_row _ _ _ _ _ _ h0']; rfl
  have p4 : w1.cell? ⟨w.heap.size, 4, none⟩ = some (.slice C F.length f) := by rw [cell_of_row _ _ _ _ _ _ h0']; rfl
  have p5 : w1.cell? ⟨w.heap.size, 5, none⟩ = some (.bool d.off) := by rw [cell_of_row _ _ _ _ _ _ h0']; rfl
  have o1 : w1.cell? ⟨w.heap.size + 1, 1, none⟩ = some (.int .i64 at_) := by rw [cell_of_row _ _ _ _ _ _ h1']; rfl
  clear h0' h1'
  go_wp2_with fail
  refine (C2'.out w1 h1).mono ?_
  rintro e2 w2 ⟨v2, rfl, h2, ho2⟩
  clear p0 p1 p2 p3 p4 p5 o1
  have hpl2 := Lib.hid hpl; have hfw2 := Lib.hid hfw
  obtain ⟨A2, c2, L2, e2, C2, f2, hv2⟩ := h2.ref.open_
  have r2 := r1.call h2 ho2
  obtain ⟨n0, hn0⟩ : ∃ q, D.sure.length = q := ⟨_, rfl⟩
  obtain ⟨n1, hn1⟩ : ∃ q, D.loose.length = q := ⟨_, rfl⟩
  obtain ⟨n3, hn3⟩ : ∃ q, F1.length = q := ⟨_, rfl⟩
  obtain ⟨st, hst⟩ : ∃ q, D.steps = q := ⟨_, rfl⟩
  obtain ⟨po, hpo⟩ : ∃ q, D.off = q := ⟨_, rfl⟩
  rw [hn0, hn1, hn3, hst, hpo] at hv2
  subst hv2
  clear hn0 hn1 hn3 hst hpo h2 ho2 r1 hpl hfw
  have HR2 := Lib.hid r2
  have h0' := r2.h0; have h2' := r2.h2
  have p0 : w2.cell? ⟨w.heap.size, 0, none⟩ = some (.pointer (some ⟨B, 0, none⟩)) := by rw [cell_of_row _ _ _ _ _ _ h0']; rfl
  have p1 : w2.cell? ⟨w.heap.size, 1, none⟩ = some (.slice A d.sure.length c) := by rw [cell_of_row _ _ _ _ _ _ h0']; rfl
  have p2 : w2.cell? ⟨w.heap.size, 2, none⟩ = some (.slice L d.loose.length e) := by rw [cell_of_row _ _ _ _ _ _ h0']; rfl
  have p3 : w2.cell? ⟨w.heap.size, 3, none⟩ = some (.int .i64 d.steps) := by rw [cell_of_row _ _ _ _ _ _ h0']; rfl
  have p4 : w2.cell? ⟨w.heap.size, 4, none⟩ = some (.slice C F.length f) := by rw [cell_of_row _ _ _ _ _ _ h0']; rfl
  have p5 : w2.cell? ⟨w.heap.size, 5, none⟩ = some (.bool d.off) := by rw [cell_of_row _ _ _ _ _ _ h0']; rfl
  have pf1 : w2.frozen? ⟨w.heap.size, 1, none⟩ = false := by simp [World.frozen?, h0']
  have pf2 : w2.frozen? ⟨w.heap.size, 2, none⟩ = false := by simp [World.frozen?, h0']
  have pf3 : w2.frozen? ⟨w.heap.size, 3, none⟩ = false := by simp [World.frozen?, h0']
  have pf4 : w2.frozen? ⟨w.heap.size, 4, none⟩ = false := by simp [World.frozen?, h0']
  have pf5 : w2.frozen? ⟨w.heap.size, 5, none⟩ = false := by simp [World.frozen?, h0']
  have q0 : w2.cell? ⟨w.heap.size + 2, 0, none⟩ = some (.pointer none) := by rw [cell_of_row _ _ _ _ _ _ h2']; rfl
  have q1 : w2.cell? ⟨w.heap.size + 2, 1, none⟩ = some (.slice none 0 0) := by rw [cell_of_row _ _ _ _ _ _ h2']; rfl
  have q2 : w2.cell? ⟨w.heap.size + 2, 2, none⟩ = some (.slice none 0 0) := by rw [cell_of_row _ _ _ _ _ _ h2']; rfl
  have q3 : w2.cell? ⟨w.heap.size + 2, 3, none⟩ = some (.int .i64 0) := by rw [cell_of_row _ _ _ _ _ _ h2']; rfl
  have q4 : w2.cell? ⟨w.heap.size + 2, 4, none⟩ = some (.slice none 0 0) := by rw [cell_of_row _ _ _ _ _ _ h2']; rfl
  have q5 : w2.cell? ⟨w.heap.size + 2, 5, none⟩ = some (.bool false) := by rw [cell_of_row _ _ _ _ _ _ h2']; rfl
  have qf0 : w2.frozen? ⟨w.heap.size + 2, 0, none⟩ = false := by simp [World.frozen?, h2']
  have qf1 : w2.frozen? ⟨w.heap.size + 2, 1, none⟩ = false := by simp [World.frozen?, h2']
  have qf2 : w2.frozen? ⟨w.heap.size + 2, 2, none⟩ = false := by simp [World.frozen?, h2']
  have qf3 : w2.frozen? ⟨w.heap.size + 2, 3, none⟩ = false := by simp [World.frozen?, h2']
  have qf4 : w2.frozen? ⟨w.heap.size + 2, 4, none⟩ = false := by simp [World.frozen?, h2']
  have qf5 : w2.frozen? ⟨w.heap.size + 2, 5, none⟩ = false := by simp [World.frozen?, h2']
  have z2 : w.heap.size ≠ w.heap.size + 2 := by omega
  clear h0' h2' r2
  go_wp2_with fail
  have r3 := HR2.out.box (by simp [plainV]) 1 [.slice A2 n0 c2, .slice L2 n1 e2, .int .i64 st, .slice C2 n3 f2, .bool po] (by simp [plainV])
  obtain ⟨hfin, hof, hrow⟩ := r3.done [.pointer (some ⟨B, 0, none⟩), .slice A2 n0 c2, .slice L2 n1 e2, .int .i64 st, .slice C2 n3 f2, .bool po] (by simp [plainV])
  rw [setsR_six] at hrow
  have r0 := cell_of_row _ _ 0 _ _ _ hrow
  have r1 := cell_of_row _ _ 1 _ _ _ hrow
  have r2 := cell_of_row _ _ 2 _ _ _ hrow
  have r3 := cell_of_row _ _ 3 _ _ _ hrow
  have r4 := cell_of_row _ _ 4 _ _ _ hrow
  have r5 := cell_of_row _ _ 5 _ _ _ hrow
  simp only [List.getElem?_toArray, List.getElem?_cons_zero, List.getElem?_cons_succ] at r0 r1 r2 r3 r4 r5
  change bodyPost _ _ _ _ _ (setsW (setsW w2 w.heap.size 1 [.slice A2 n0 c2, .slice L2 n1 e2, .int .i64 st, .slice C2 n3 f2, .bool po]) (w.heap.size + 2) 0 [.pointer (some ⟨B, 0, none⟩), .slice A2 n0 c2, .slice L2 n1 e2, .int .i64 st, .slice C2 n3 f2, .bool po])
  refine bodyPost_ret (v := .tuple #[.agg #[.pointer (some ⟨B, 0, none⟩), .slice A2 n0 c2, .slice L2 n1 e2, .int .i64 st, .slice C2 n3 f2, .bool po], .bool true]) (by simp [results, Try.results13, go_sem, r0, r1, r2, r3, r4, r5]) rfl ?_
  exact ⟨D, _, _, rfl, hfin, hpl2.out, hfw2.out, hof⟩

set_option maxHeartbeats 4000000 in
set_option maxRecDepth 100000 in
theorem do_odd (h : Two n a w B S M d v d F) (hp : Plans d F) (hf : Few k d) (hk : k ≤ 900) (x : Act3) (hx : x.kind ≠ 3 ∧ x.kind ≠ 4 ∧ x.kind ≠ 5 ∧ x.kind ≠ 6) (hodd : x.odd = true) : DoC n a w B S M v k x := by
  obtain ⟨A, c, L, e, C, f, rfl⟩ := h.ref.open_
  obtain ⟨kd, at_, cc, odd, ⟨fa, fk, ft⟩⟩ := x
  simp only at hx hodd
  subst hodd
  obtain ⟨x3, x4, x5, x6⟩ := hx
  have k3 : (kd == 3) = false := beq_eq_false_iff_ne.2 x3
  have k4 : (kd == 4) = false := beq_eq_false_iff_ne.2 x4
  have k5 : (kd == 5) = false := beq_eq_false_iff_ne.2 x5
  have k6 : (kd == 6) = false := beq_eq_false_iff_ne.2 x6
  clear x3 x4 x5 x6
  have r := Run.start h #[.pointer (some ⟨B, 0, none⟩), .slice A d.sure.length c, .slice L d.loose.length e, .int .i64 d.steps, .slice C F.length f, .bool d.off] #[.int .i64 kd, .int .i64 at_, .int .u8 (cc.toNat : Int), .bool true, .int .i64 fa, .int .u64 (fk : Int), .int .i64 ft]
  have hsl : ∀ W, (Instr.slice 9 (.string ⟨(letter cc).toArray⟩) (some (.int .i64 1)) none none).run Try.prog W = .ok (.string ⟨((letter cc).drop 1).toArray⟩) W := fun W => sl_tail (N := 1) rfl (by rw [letter_len]; decide) W
  obtain ⟨Z, hZ⟩ : ∃ q, (letter cc).drop 1 = q := ⟨_, rfl⟩
  obtain ⟨hal, hpl, hfw, hee⟩ := write_both hp hf (by omega) h.ris at_ Z
  obtain ⟨z, hz⟩ : ∃ z, (writeD d at_ Z).2 = z := ⟨_, rfl⟩
  obtain ⟨F1, hF1⟩ : ∃ q, (rwriteX d F at_ Z).2.1 = q := ⟨_, rfl⟩
  have c1 : ∀ w1, Two n a w1 B S M d (.agg #[.slice A d.sure.length c, .slice L d.loose.length e, .int .i64 d.steps, .slice C F.length f, .bool d.off]) d F → Calls Try.prog 31 #[.pointer (some ⟨B, 0, none⟩), .int .i64 at_, .string ⟨Z.toArray⟩] w1 fun ex w' => ex = .returned (.int .i64 z) ∧ Two n a w' B S M (writeD d at_ Z).1 (.agg #[.slice A d.sure.length c, .slice L d.loose.length e, .int .i64 d.steps, .slice C F.length f, .bool d.off]) d F ∧ Only (dev3 B S M) w1 w' := fun w1 h1 => by
    have := two_write h1 at_ Z
    rw [hz] at this
    exact this
  have c2 : ∀ w1, Two n a w1 B S M (writeD d at_ Z).1 (.agg #[.slice A d.sure.length c, .slice L d.loose.length e, .int .i64 d.steps, .slice C F.length f, .bool d.off]) d F → Calls Try.prog 37 #[(.agg #[.slice A d.sure.length c, .slice L d.loose.length e, .int .i64 d.steps, .slice C F.length f, .bool d.off]), .int .i64 at_, .string ⟨Z.toArray⟩] w1 fun e w' => ∃ v', e = .returned (.tuple #[v', .int .i64 z]) ∧ Two n a w' B S M (writeD d at_ Z).1 v' (writeD d at_ Z).1 F1 ∧ Only (dev3 B S M) w1 w' := fun w1 h1 => by
    have := two_rfwrite h1 at_ Z hal hpl
    rw [← hee, hz, hF1] at this
    exact this
  rw [hF1] at hpl
  generalize (writeD d at_ Z).1 = D at c1 c2 hpl hfw
  have c0 := sector_any cc (((w.alloc (.cells #[.pointer (some ⟨B, 0, none⟩), .slice A d.sure.length c, .slice L d.loose.length e, .int .i64 d.steps, .slice C F.length f, .bool d.off] 34)).alloc (.cells #[.int .i64 kd, .int .i64 at_, .int .u8 (cc.toNat : Int), .bool true, .int .i64 fa, .int .u64 (fk : Int), .int .i64 ft] 42)).alloc (.cells #[.pointer none, .slice none 0 0, .slice none 0 0, .int .i64 0, .slice none 0 0, .bool false] 34))
  rw [hZ] at hsl
  have R := Lib.hid r; have C1' := Lib.hid c1; have C2' := Lib.hid c2
  clear hal hee hz hF1 h r c1 c2 hp hf hZ
  show Calls _ _ #[.agg #[.pointer (some ⟨B, 0, none⟩), .slice A d.sure.length c, .slice L d.loose.length e, .int .i64 d.steps, .slice C F.length f, .bool d.off], .agg #[.int .i64 kd, .int .i64 at_, .int .u8 (cc.toNat : Int), .bool true, .int .i64 fa, .int .u64 (fk : Int), .int .i64 ft]] _ _
  go_enter Try.func13, Try.ntmps13
  go_wp2_with fail
  refine c0.mono ?_
  rintro e0 w0 ⟨rfl, hb0⟩
  have r0 := R.out.call (R.out.two.on hb0) (Only.of_below hb0)
  have h0' := r0.h0; have h1' := r0.h1
  have p0 : w0.cell? ⟨w.heap.size, 0, none⟩ = some (.pointer (some ⟨B, 0, none⟩)) := by rw [cell_of_row _ _ _ _ _ _ h0']; rfl
  have o1 : w0.cell? ⟨w.heap.size + 1, 1, none⟩ = some (.int .i64 at_) := by rw [cell_of_row _ _ _ _ _ _ h1']; rfl
  have o3 : w0.cell? ⟨w.heap.size + 1, 3, none⟩ = some (.bool true) := by rw [cell_of_row _ _ _ _ _ _ h1']; rfl
  clear h0' h1' c0 R hb0
  go_wp2_with fail
  refine (C1'.out w0 r0.two).mono ?_
  rintro e1 w1 ⟨rfl, h1, ho1⟩
  have r1 := r0.call h1 ho1
  have h0' := r1.h0; have h1' := r1.h1
  clear p0 o1 o3 r0
  have p0 : w1.cell? ⟨w.heap.size, 0, none⟩ = some (.pointer (some ⟨B, 0, none⟩)) := by rw [cell_of_row _ _ _ _ _ _ h0']; rfl
  have p1 : w1.cell? ⟨w.heap.size, 1, none⟩ = some (.slice A d.sure.length c) := by rw [cell_of_row _ _ _ _ _ _ h0']; rfl
  have p2 : w1.cell? ⟨w.heap.size, 2, none⟩ = some (.slice L d.loose.length e) := by rw [cell_of_row _ _ _ _ _ _ h0']; rfl
  have p3 : w1.cell? ⟨w.heap.size, 3, none⟩ = some (.int .i64 d.steps) := by rw [cell_of_row _ _ _ _ _ _ h0']; rfl
  have p4 : w1.cell? ⟨w.heap.size, 4, none⟩ = some (.slice C F.length f) := by rw [cell_of_row _ _ _ _ _ _ h0']; rfl
  have p5 : w1.cell? ⟨w.heap.size, 5, none⟩ = some (.bool d.off) := by rw [cell_of_row _ _ _ _ _ _ h0']; rfl
  have o1 : w1.cell? ⟨w.heap.size + 1, 1, none⟩ = some (.int .i64 at_) := by rw [cell_of_row _ _ _ _ _ _ h1']; rfl
  clear h0' h1'
  go_wp2_with fail
  refine (C2'.out w1 h1).mono ?_
  rintro e2 w2 ⟨v2, rfl, h2, ho2⟩
  clear p0 p1 p2 p3 p4 p5 o1
  have hpl2 := Lib.hid hpl; have hfw2 := Lib.hid hfw
  obtain ⟨A2, c2, L2, e2, C2, f2, hv2⟩ := h2.ref.open_
  have r2 := r1.call h2 ho2
  obtain ⟨n0, hn0⟩ : ∃ q, D.sure.length = q := ⟨_, rfl⟩
  obtain ⟨n1, hn1⟩ : ∃ q, D.loose.length = q := ⟨_, rfl⟩
  obtain ⟨n3, hn3⟩ : ∃ q, F1.length = q := ⟨_, rfl⟩
  obtain ⟨st, hst⟩ : ∃ q, D.steps = q := ⟨_, rfl⟩
  obtain ⟨po, hpo⟩ : ∃ q, D.off = q := ⟨_, rfl⟩
  rw [hn0, hn1, hn3, hst, hpo] at hv2
  subst hv2
  clear hn0 hn1 hn3 hst hpo h2 ho2 r1 hpl hfw
  have HR2 := Lib.hid r2
  have h0' := r2.h0; have h2' := r2.h2
  have p0 : w2.cell? ⟨w.heap.size, 0, none⟩ = some (.pointer (some ⟨B, 0, none⟩)) := by rw [cell_of_row _ _ _ _ _ _ h0']; rfl
  have p1 : w2.cell? ⟨w.heap.size, 1, none⟩ = some (.slice A d.sure.length c) := by rw [cell_of_row _ _ _ _ _ _ h0']; rfl
  have p2 : w2.cell? ⟨w.heap.size, 2, none⟩ = some (.slice L d.loose.length e) := by rw [cell_of_row _ _ _ _ _ _ h0']; rfl
  have p3 : w2.cell? ⟨w.heap.size, 3, none⟩ = some (.int .i64 d.steps) := by rw [cell_of_row _ _ _ _ _ _ h0']; rfl
  have p4 : w2.cell? ⟨w.heap.size, 4, none⟩ = some (.slice C F.length f) := by rw [cell_of_row _ _ _ _ _ _ h0']; rfl
  have p5 : w2.cell? ⟨w.heap.size, 5, none⟩ = some (.bool d.off) := by rw [cell_of_row _ _ _ _ _ _ h0']; rfl
  have pf1 : w2.frozen? ⟨w.heap.size, 1, none⟩ = false := by simp [World.frozen?, h0']
  have pf2 : w2.frozen? ⟨w.heap.size, 2, none⟩ = false := by simp [World.frozen?, h0']
  have pf3 : w2.frozen? ⟨w.heap.size, 3, none⟩ = false := by simp [World.frozen?, h0']
  have pf4 : w2.frozen? ⟨w.heap.size, 4, none⟩ = false := by simp [World.frozen?, h0']
  have pf5 : w2.frozen? ⟨w.heap.size, 5, none⟩ = false := by simp [World.frozen?, h0']
  have q0 : w2.cell? ⟨w.heap.size + 2, 0, none⟩ = some (.pointer none) := by rw [cell_of_row _ _ _ _ _ _ h2']; rfl
  have q1 : w2.cell? ⟨w.heap.size + 2, 1, none⟩ = some (.slice none 0 0) := by rw [cell_of_row _ _ _ _ _ _ h2']; rfl
  have q2 : w2.cell? ⟨w.heap.size + 2, 2, none⟩ = some (.slice none 0 0) := by rw [cell_of_row _ _ _ _ _ _ h2']; rfl
  have q3 : w2.cell? ⟨w.heap.size + 2, 3, none⟩ = some (.int .i64 0) := by rw [cell_of_row _ _ _ _ _ _ h2']; rfl
  have q4 : w2.cell? ⟨w.heap.size + 2, 4, none⟩ = some (.slice none 0 0) := by rw [cell_of_row _ _ _ _ _ _ h2']; rfl
  have q5 : w2.cell? ⟨w.heap.size + 2, 5, none⟩ = some (.bool false) := by rw [cell_of_row _ _ _ _ _ _ h2']; rfl
  have qf0 : w2.frozen? ⟨w.heap.size + 2, 0, none⟩ = false := by simp [World.frozen?, h2']
  have qf1 : w2.frozen? ⟨w.heap.size + 2, 1, none⟩ = false := by simp [World.frozen?, h2']
  have qf2 : w2.frozen? ⟨w.heap.size + 2, 2, none⟩ = false := by simp [World.frozen?, h2']
  have qf3 : w2.frozen? ⟨w.heap.size + 2, 3, none⟩ = false := by simp [World.frozen?, h2']
  have qf4 : w2.frozen? ⟨w.heap.size + 2, 4, none⟩ = false := by simp [World.frozen?, h2']
  have qf5 : w2.frozen? ⟨w.heap.size + 2, 5, none⟩ = false := by simp [World.frozen?, h2']
  have z2 : w.heap.size ≠ w.heap.size + 2 := by omega
  clear h0' h2' r2
  go_wp2_with fail
  have r3 := HR2.out.box (by simp [plainV]) 1 [.slice A2 n0 c2, .slice L2 n1 e2, .int .i64 st, .slice C2 n3 f2, .bool po] (by simp [plainV])
  obtain ⟨hfin, hof, hrow⟩ := r3.done [.pointer (some ⟨B, 0, none⟩), .slice A2 n0 c2, .slice L2 n1 e2, .int .i64 st, .slice C2 n3 f2, .bool po] (by simp [plainV])
  rw [setsR_six] at hrow
  have r0 := cell_of_row _ _ 0 _ _ _ hrow
  have r1 := cell_of_row _ _ 1 _ _ _ hrow
  have r2 := cell_of_row _ _ 2 _ _ _ hrow
  have r3 := cell_of_row _ _ 3 _ _ _ hrow
  have r4 := cell_of_row _ _ 4 _ _ _ hrow
  have r5 := cell_of_row _ _ 5 _ _ _ hrow
  simp only [List.getElem?_toArray, List.getElem?_cons_zero, List.getElem?_cons_succ] at r0 r1 r2 r3 r4 r5
  change bodyPost _ _ _ _ _ (setsW (setsW w2 w.heap.size 1 [.slice A2 n0 c2, .slice L2 n1 e2, .int .i64 st, .slice C2 n3 f2, .bool po]) (w.heap.size + 2) 0 [.pointer (some ⟨B, 0, none⟩), .slice A2 n0 c2, .slice L2 n1 e2, .int .i64 st, .slice C2 n3 f2, .bool po])
  refine bodyPost_ret (v := .tuple #[.agg #[.pointer (some ⟨B, 0, none⟩), .slice A2 n0 c2, .slice L2 n1 e2, .int .i64 st, .slice C2 n3 f2, .bool po], .bool true]) (by simp [results, Try.results13, go_sem, r0, r1, r2, r3, r4, r5]) rfl ?_
  exact ⟨D, _, _, rfl, hfin, hpl2.out, hfw2.out, hof⟩

end

end Go.Proofs.Ytbdjdeddghdefaa
