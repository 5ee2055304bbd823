/- what is done to a device, as a list that came in -/
import Derived.Test.YtbdjdeddghdefaaDevO
import Derived.Test.YtbdjdeddghdefaaDevM
namespace Go.Proofs.Ytbdjdeddghdefaa
open Go.ChangeShapes Go.WideShapes Go.ChangeAt Go.RowKit Go.Deep

/-- something that is done -/
structure Act3 where
  kind : Int
  at_ : Int
  c : UInt8
  odd : Bool
  fall : Fal

/-- the slice of them: what its cells hold -/
def IsActs (w : World) (A : Option Addr) (l : List Act3) : Prop :=
  l.length ≤ 9223372036854775807 ∧ (l = [] ∨ ∃ b o, A = some ⟨b, o, none⟩ ∧ b < w.heap.size ∧ ∀ i x, l[i]? = some x →
    w.cell? ⟨b, o + i * 7, none⟩ = some (.int .i64 x.kind) ∧ w.cell? ⟨b, o + i * 7 + 1, none⟩ = some (.int .i64 x.at_) ∧ w.cell? ⟨b, o + i * 7 + 2, none⟩ = some (.int .u8 (x.c.toNat : Int)) ∧
    w.cell? ⟨b, o + i * 7 + 3, none⟩ = some (.bool x.odd) ∧ w.cell? ⟨b, o + i * 7 + 4, none⟩ = some (.int .i64 x.fall.at_) ∧ w.cell? ⟨b, o + i * 7 + 5, none⟩ = some (.int .u64 (x.fall.keep : Int)) ∧
    w.cell? ⟨b, o + i * 7 + 6, none⟩ = some (.int .i64 x.fall.torn) ∧ is64 x.kind = true ∧ is64 x.at_ = true ∧ is64 x.fall.at_ = true ∧ is64 x.fall.torn = true ∧ x.fall.keep < 18446744073709551616)

theorem IsActs.on {w w' : World} {A : Option Addr} {l : List Act3} (h : IsActs w A l) (hb : Below w.heap.size w w') : IsActs w' A l := by
  refine ⟨h.1, ?_⟩
  rcases h.2 with h | ⟨b, o, e, hlt, hc⟩
  · exact .inl h
  · refine .inr ⟨b, o, e, Nat.lt_of_lt_of_le hlt hb.size, fun i x hx => ?_⟩
    obtain ⟨h0, h1, h2, h3, h4, h5, h6, r⟩ := hc i x hx
    have e : ∀ q : Nat, w'.cell? ⟨b, q, none⟩ = w.cell? ⟨b, q, none⟩ := fun q => hb.cell hlt
    exact ⟨(e _).trans h0, (e _).trans h1, (e _).trans h2, (e _).trans h3, (e _).trans h4, (e _).trans h5, (e _).trans h6, r⟩

theorem cells_bool : Try.prog.cellsOf 4 = 1 := by kernel_rfl
theorem cells_uint8 : Try.prog.cellsOf 5 = 1 := by kernel_rfl
theorem cells_act : Try.prog.cellsOf 42 = 7 := by kernel_rfl

section
variable {H : Type} {enc : TypeId × Value → H} {w : World} {spare : Nat → Bool} {held : Bool}

set_option maxRecDepth 100000 in
theorem trod_act {n : Nat} {cs : List Value} {d : DataW H} {p : List MemPlace} (h : DataW.trod enc Try.prog w 0 spare held n 42 cs = some (d, p)) :
    ∃ x : Act3, cs = [.int .i64 x.kind, .int .i64 x.at_, .int .u8 (x.c.toNat : Int), .bool x.odd, .int .i64 x.fall.at_, .int .u64 (x.fall.keep : Int), .int .i64 x.fall.torn] ∧
      is64 x.kind = true ∧ is64 x.at_ = true ∧ is64 x.fall.at_ = true ∧ is64 x.fall.torn = true ∧ x.fall.keep < 18446744073709551616 := by
  obtain ⟨xs, n', rfl, hx, hcl, hxl, hg⟩ := DataW.trod_struct Try.underlying42 h
  rw [cells_act] at hcl
  match cs, hcl with
  | [c0, c1, c2, c3, c4, c5, c6], _ =>
  match xs, hxl with
  | [x0, x1, x2, x3, x4], _ =>
  have g0 : DataW.trod enc Try.prog w 0 spare held n' 3 [c0] = some x0 := by simpa [cells_int, cells_uint8, cells_bool, cells_fall] using hg 0 _ rfl
  have g1 : DataW.trod enc Try.prog w 0 spare held n' 3 [c1] = some x1 := by simpa [cells_int, cells_uint8, cells_bool, cells_fall] using hg 1 _ rfl
  have g2 : DataW.trod enc Try.prog w 0 spare held n' 5 [c2] = some x2 := by simpa [cells_int, cells_uint8, cells_bool, cells_fall] using hg 2 _ rfl
  have g3 : DataW.trod enc Try.prog w 0 spare held n' 4 [c3] = some x3 := by simpa [cells_int, cells_uint8, cells_bool, cells_fall] using hg 3 _ rfl
  have g4 : DataW.trod enc Try.prog w 0 spare held n' 40 [c4, c5, c6] = some x4 := by simpa [cells_int, cells_uint8, cells_bool, cells_fall] using hg 4 _ rfl
  obtain ⟨k, e0, rfl, wk⟩ := DataW.trod_int Try.underlying3 g0
  obtain ⟨a, e1, rfl, wa⟩ := DataW.trod_int Try.underlying3 g1
  obtain ⟨c, e2, rfl, wc⟩ := DataW.trod_int Try.underlying5 g2
  obtain ⟨o, e3, rfl⟩ := DataW.trod_bool Try.underlying4 g3
  obtain ⟨fa, ft, fk, e4, w1, w2, w3⟩ := trod_fall (d := x4.1) (p := x4.2) g4
  simp only [List.cons.injEq, and_true] at e0 e1 e2 e3 e4
  obtain ⟨c', rfl⟩ := u8_byte wc
  obtain ⟨e40, e41, e42⟩ := e4
  subst e0 e1 e2 e3 e40 e41 e42
  exact ⟨⟨k, a, c', o, ⟨fa, fk, ft⟩⟩, rfl, is64_wf wk, is64_wf wa, w1, w2, w3⟩

set_option maxRecDepth 100000 in
theorem open_act {v : Value} {b0 : Nat} {d : DataW H} {p : List MemPlace} (hv : Value.okWide Try.prog w .any b0 42 v) (h : DataW.Trod enc Try.prog w 0 spare held 42 v d p) :
    ∃ x : Act3, v = .agg #[.int .i64 x.kind, .int .i64 x.at_, .int .u8 (x.c.toNat : Int), .bool x.odd, .int .i64 x.fall.at_, .int .u64 (x.fall.keep : Int), .int .i64 x.fall.torn] ∧
      is64 x.kind = true ∧ is64 x.at_ = true ∧ is64 x.fall.at_ = true ∧ is64 x.fall.torn = true ∧ x.fall.keep < 18446744073709551616 := by
  obtain ⟨cs, rfl, hsz⟩ := okWide_struct Try.underlying42 hv
  obtain ⟨n, hn⟩ := h
  obtain ⟨x, h1, r⟩ := trod_act hn
  refine ⟨x, ?_, r⟩
  have := congrArg List.toArray h1
  rw [show cs = #[.int .i64 x.kind, .int .i64 x.at_, .int .u8 (x.c.toNat : Int), .bool x.odd, .int .i64 x.fall.at_, .int .u64 (x.fall.keep : Int), .int .i64 x.fall.torn] from by simpa [Value.cells] using this]

set_option maxRecDepth 100000 in
theorem open_acts {v : Value} {b0 : Nat} {d : DataW H} {p : List MemPlace} (hv : Value.okWide Try.prog w .any b0 22 v) (h : DataW.Trod enc Try.prog w 0 spare held 22 v d p) :
    ∃ A cap l, v = .slice A (l : List Act3).length cap ∧ IsActs w A l := by
  obtain ⟨a0, len, cap, rfl⟩ := okWide_slice Try.underlying22 hv
  obtain ⟨fuel, hf⟩ := h
  have hf' : DataW.trod enc Try.prog w 0 spare held fuel 22 [.slice a0 len cap] = some (d, p) := hf
  rcases open_slice Try.underlying22 hf' with ⟨he, -⟩ | ⟨a, len', cap', m', n2, D, Pl, he, _, hl, hm, hmm, -, hi⟩
  · simp only [List.cons.injEq, and_true, Value.slice.injEq] at he
    obtain ⟨rfl, rfl, rfl⟩ := he
    exact ⟨none, 0, [], rfl, by simp, .inl rfl⟩
  · simp only [List.cons.injEq, and_true, Value.slice.injEq] at he
    obtain ⟨rfl, rfl, rfl⟩ := he
    rw [cells_act] at hi
    have hle : len ≤ m' := by rw [hmm]; split <;> omega
    have hel : ∀ i, i < len → ∃ x : Act3, (∀ j u, [Value.int .i64 x.kind, .int .i64 x.at_, .int .u8 (x.c.toNat : Int), .bool x.odd, .int .i64 x.fall.at_, .int .u64 (x.fall.keep : Int), .int .i64 x.fall.torn][j]? = some u → w.cell? (a.add (i * 7 + j)) = some u) ∧
        is64 x.kind = true ∧ is64 x.at_ = true ∧ is64 x.fall.at_ = true ∧ is64 x.fall.torn = true ∧ x.fall.keep < 18446744073709551616 := by
      intro i hil
      obtain ⟨cs', hcs, htr⟩ := hi i (by omega)
      obtain ⟨_, hcl', hcell⟩ := World.cells?_some hcs
      obtain ⟨x, hx, r⟩ := trod_act htr
      refine ⟨x, fun j u hu => ?_, r⟩
      have hu' : cs'[j]? = some u := by rw [hx]; exact hu
      have hj : j < 7 := by have := (List.getElem?_eq_some_iff.1 hu').1; omega
      rw [← Go.Deep.add_add, hcell j hj, hu']
    obtain ⟨X, hX⟩ := @choose_lt Act3 ⟨⟨0, 0, 0, false, ⟨0, 0, 0⟩⟩⟩ len _ hel
    have hll : ((List.range len).map X).length = len := by simp
    unfold maxLen at hm
    refine ⟨some a, cap, (List.range len).map X, by rw [hll], by rw [hll]; omega, ?_⟩
    by_cases h0 : len = 0
    · exact .inl (by rw [h0]; rfl)
    · right
      obtain ⟨b, off, spot⟩ := a
      have c0 := (hX 0 (by omega)).1 0 _ rfl
      have hspot : spot = none := by simpa [Addr.add] using World.cell?_spot c0
      subst hspot
      have hadd : ∀ q, (⟨b, off, none⟩ : Addr).add q = ⟨b, off + q, none⟩ := fun q => by unfold Addr.add; split <;> simp_all
      refine ⟨b, off, rfl, ?_, fun i x hx => ?_⟩
      · have := World.block_lt_of_cell? w _ c0
        rw [hadd] at this; exact this
      · rw [List.getElem?_map] at hx
        have hi' : i < len := by
          rcases Nat.lt_or_ge i len with h | h
          · exact h
          · rw [List.getElem?_eq_none (by simpa using h)] at hx; cases hx
        rw [List.getElem?_range hi'] at hx
        simp only [Option.map_some, Option.some.injEq] at hx
        subst hx
        obtain ⟨hc, r⟩ := hX i hi'
        have g : ∀ j u, [Value.int .i64 (X i).kind, .int .i64 (X i).at_, .int .u8 ((X i).c.toNat : Int), .bool (X i).odd, .int .i64 (X i).fall.at_, .int .u64 ((X i).fall.keep : Int), .int .i64 (X i).fall.torn][j]? = some u → w.cell? ⟨b, off + i * 7 + j, none⟩ = some u := fun j u hu => by
          have := hc j u hu
          rw [hadd, ← Nat.add_assoc] at this
          exact this
        exact ⟨g 0 _ rfl, g 1 _ rfl, g 2 _ rfl, g 3 _ rfl, g 4 _ rfl, g 5 _ rfl, g 6 _ rfl, r⟩

end

end Go.Proofs.Ytbdjdeddghdefaa
