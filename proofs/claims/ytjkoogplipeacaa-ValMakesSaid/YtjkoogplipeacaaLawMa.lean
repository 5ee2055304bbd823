/- the walk of ValMakes -/
import Derived.Test.YtjkoogplipeacaaLawC
namespace Go.Proofs.Ytjkoogplipeacaa
open Go.ChangeShapes Go.WideShapes Go.ChangeAt Go.RowKit Go.Fl

theorem sm_none : smT (.mk 0 false 0 0 ⟨#[]⟩ []) (.mk 0 false 0 0 ⟨#[]⟩ []) = true := smT_refl _

theorem sm_float (f : Nat) : smT (.mk 3 false 0 (canonN f) ⟨#[]⟩ []) (.mk 3 false 0 f ⟨#[]⟩ []) = true := by
  rw [smT, smL]; unfold hdB; simp [canonN_canonN]

/-- what is known of the four rows, in a world -/
def Kn (w : World) (gl gv g gc : Nat) (n : Int) (s : ByteArray) (cs : Array Value) : Prop :=
  Blk w gl 25 #[.int .i64 2, .bool false, .int .i64 n, .float .f64 0, .string ⟨#[]⟩, .slice none 0 0, .int .i64 4, .bool false, .int .i64 0, .float .f64 0, .string s, .slice none 0 0] ∧
  Blk w gv 25 #[.int .i64 5, .bool false, .int .i64 0, .float .f64 0, .string ⟨#[]⟩, .slice (some ⟨gl, 0, none⟩) 2 2] ∧
  Blk w g 25 cs ∧ Blk w gc 25 #[.int .i64 5, .bool false, .int .i64 0, .float .f64 0, .string ⟨#[]⟩, .slice (some ⟨g, 0, none⟩) 2 2]

theorem Kn.below {w w' : World} {gl gv g gc : Nat} {n : Int} {s : ByteArray} {cs : Array Value} (h : Kn w gl gv g gc n s cs) (hb : Below w.heap.size w w') : Kn w' gl gv g gc n s cs :=
  ⟨h.1.below hb h.1.lt, h.2.1.below hb h.2.1.lt, h.2.2.1.below hb h.2.2.1.lt, h.2.2.2.below hb h.2.2.2.lt⟩

/-- the second of two parts -/
theorem second_part {g : Nat} {w : World} {t : T} {s : ByteArray} (h : PartAt g w [t, .mk 4 false 0 0 s []]) : ∃ (cs : Array Value) (A : Option Addr) (c : Nat), Blk w g 25 cs ∧ cs.size = 12 ∧ g < w.heap.size ∧
    (cs[6]? = some (.int .i64 4) ∧ cs[7]? = some (.bool false) ∧ cs[8]? = some (.int .i64 0) ∧ cs[9]? = some (.float .f64 0) ∧ cs[10]? = some (.string s) ∧ cs[11]? = some (.slice A 0 c)) ∧
    RdX w (g + 1) w.heap.size (.mk 4 false 0 0 s []) (.agg #[.int .i64 4, .bool false, .int .i64 0, .float .f64 0, .string s, .slice A 0 c]) := by
  obtain ⟨cs, hblk, hsz, hp⟩ := h
  obtain ⟨v, h1, h2⟩ := hp 1 (by simp)
  have h3 : RdX w (g + 1) w.heap.size (.mk 4 false 0 0 s []) v := h2
  obtain ⟨A, c, rfl, -⟩ := h3.open
  exact ⟨cs, A, c, hblk, hsz, hblk.lt, ⟨h1 0 _ rfl, h1 1 _ rfl, h1 2 _ rfl, h1 3 _ rfl, h1 4 _ rfl, h1 5 _ rfl⟩, h3⟩

/-- a known row of two values -/
theorem twelve {w : World} {g : Nat} {ta tb : T} {a0 a1 a2 a3 a4 a5 b0 b1 b2 b3 b4 b5 : Value} (hB : Blk w g 25 #[a0, a1, a2, a3, a4, a5, b0, b1, b2, b3, b4, b5]) (ha : Rd w w.heap.size ta (.agg #[a0, a1, a2, a3, a4, a5])) (hb : Rd w w.heap.size tb (.agg #[b0, b1, b2, b3, b4, b5])) :
    RdL w w.heap.size [ta, tb] (some ⟨g, 0, none⟩) := by
  intro i hi
  have hi2 : i < 2 := hi
  match i, hi2 with
  | 0, _ =>
    refine ⟨_, _, rfl, ⟨Nat.zero_le _, hB.lt⟩, fun j u hu => ?_, ha⟩
    rw [add0, hB.cell]
    have hj : j < 6 := by have := (Array.getElem?_eq_some_iff.1 hu).1; simpa [Value.cells] using this
    match j, hj with
    | 0, _ => simpa [Value.cells] using hu
    | 1, _ => simpa [Value.cells] using hu
    | 2, _ => simpa [Value.cells] using hu
    | 3, _ => simpa [Value.cells] using hu
    | 4, _ => simpa [Value.cells] using hu
    | 5, _ => simpa [Value.cells] using hu
  | 1, _ =>
    refine ⟨_, _, rfl, ⟨Nat.zero_le _, hB.lt⟩, fun j u hu => ?_, hb⟩
    rw [add0, hB.cell]
    have hj : j < 6 := by have := (Array.getElem?_eq_some_iff.1 hu).1; simpa [Value.cells] using this
    match j, hj with
    | 0, _ => simpa [Value.cells] using hu
    | 1, _ => simpa [Value.cells] using hu
    | 2, _ => simpa [Value.cells] using hu
    | 3, _ => simpa [Value.cells] using hu
    | 4, _ => simpa [Value.cells] using hu
    | 5, _ => simpa [Value.cells] using hu

/-- twenty cells, in a world that has grown -/
theorem keep20 {W w w' : World} {p0 p1 p2 p3 p4 p5 p6 p7 p8 p9 p10 p11 p12 p13 p14 p15 p16 p17 p18 p19 : Addr} {u0 u1 u2 u3 u4 u5 u6 u7 u8 u9 u10 u11 u12 u13 u14 u15 u16 u17 u18 u19 : Value} (hb : Below w.heap.size w w')
    (H : w.cell? p0 = some u0 ∧ w.cell? p1 = some u1 ∧ w.cell? p2 = some u2 ∧ w.cell? p3 = some u3 ∧ w.cell? p4 = some u4 ∧ w.cell? p5 = some u5 ∧ w.cell? p6 = some u6 ∧ w.cell? p7 = some u7 ∧ w.cell? p8 = some u8 ∧ w.cell? p9 = some u9 ∧ w.cell? p10 = some u10 ∧ w.cell? p11 = some u11 ∧ w.cell? p12 = some u12 ∧ w.cell? p13 = some u13 ∧ w.cell? p14 = some u14 ∧ w.cell? p15 = some u15 ∧ w.cell? p16 = some u16 ∧ w.cell? p17 = some u17 ∧ w.cell? p18 = some u18 ∧ w.cell? p19 = some u19 ∧ Below W.heap.size W w) :
    w'.cell? p0 = some u0 ∧ w'.cell? p1 = some u1 ∧ w'.cell? p2 = some u2 ∧ w'.cell? p3 = some u3 ∧ w'.cell? p4 = some u4 ∧ w'.cell? p5 = some u5 ∧ w'.cell? p6 = some u6 ∧ w'.cell? p7 = some u7 ∧ w'.cell? p8 = some u8 ∧ w'.cell? p9 = some u9 ∧ w'.cell? p10 = some u10 ∧ w'.cell? p11 = some u11 ∧ w'.cell? p12 = some u12 ∧ w'.cell? p13 = some u13 ∧ w'.cell? p14 = some u14 ∧ w'.cell? p15 = some u15 ∧ w'.cell? p16 = some u16 ∧ w'.cell? p17 = some u17 ∧ w'.cell? p18 = some u18 ∧ w'.cell? p19 = some u19 ∧ Below W.heap.size W w' := by
  have k : ∀ {p : Addr} {u : Value}, w.cell? p = some u → w'.cell? p = some u := fun h => (hb.cell (World.block_lt_of_cell? w _ h)).trans h
  obtain ⟨h0, h1, h2, h3, h4, h5, h6, h7, h8, h9, h10, h11, h12, h13, h14, h15, h16, h17, h18, h19, hB⟩ := H
  exact ⟨k h0, k h1, k h2, k h3, k h4, k h5, k h6, k h7, k h8, k h9, k h10, k h11, k h12, k h13, k h14, k h15, k h16, k h17, k h18, k h19, hB.trans (hb.mono hB.size)⟩


end Go.Proofs.Ytjkoogplipeacaa
