/- what PagePlays is handed, opened -/
import Derived.Test.YtdfkahkomcfoeaaPgX
import Derived.Deep.Fields
import Derived.ChangeOld
namespace Go.Proofs.Ytdfkahkomcfoeaa
open Go.ChangeShapes Go.WideShapes Go.ChangeAt Go.RowKit Go.Deep

/-- something that is done to a page -/
structure ActP where
  kind : Int
  id : Nat
  s : List UInt8

/-- the slice of them: what its cells hold -/
def IsActsP (w : World) (A : Option Addr) (l : List ActP) : Prop :=
  l.length ≤ 9223372036854775807 ∧ (l = [] ∨ ∃ b o, A = some ⟨b, o, none⟩ ∧ b < w.heap.size ∧ ∀ i x, l[i]? = some x →
    w.cell? ⟨b, o + i * 3, none⟩ = some (.int .i64 x.kind) ∧ w.cell? ⟨b, o + i * 3 + 1, none⟩ = some (.int .u64 (x.id : Int)) ∧ w.cell? ⟨b, o + i * 3 + 2, none⟩ = some (.string ⟨x.s.toArray⟩) ∧ x.id < 18446744073709551616 ∧ x.s.length ≤ 9223372036854775807)

theorem IsActsP.on {w w' : World} {A : Option Addr} {l : List ActP} (h : IsActsP w A l) (hb : Below w.heap.size w w') : IsActsP w' A l := by
  refine ⟨h.1, ?_⟩
  rcases h.2 with h | ⟨b, o, e, hlt, hc⟩
  · exact .inl h
  · refine .inr ⟨b, o, e, Nat.lt_of_lt_of_le hlt hb.size, fun i x hx => ?_⟩
    obtain ⟨h0, h1, h2, r⟩ := hc i x hx
    have e : ∀ q : Nat, w'.cell? ⟨b, q, none⟩ = w.cell? ⟨b, q, none⟩ := fun q => World.cell?_of_block (a := ⟨b, q, none⟩) (hb.block b hlt)
    exact ⟨(e _).trans h0, (e _).trans h1, (e _).trans h2, r⟩

theorem cellsP_int : Try.prog.cellsOf 3 = 1 := by kernel_rfl
theorem cellsP_uint64 : Try.prog.cellsOf 27 = 1 := by kernel_rfl
theorem cellsP_string : Try.prog.cellsOf 9 = 1 := by kernel_rfl
theorem cellsP_act : Try.prog.cellsOf 29 = 3 := by kernel_rfl

theorem u64_natP {a : Int} (h : (Lit.int .u64 a).wf = true) : ∃ n : Nat, a = n ∧ n < 18446744073709551616 := by
  have e1 : IntKind.u64.min = 0 := by decide
  have e2 : IntKind.u64.max = 18446744073709551615 := by decide
  have h' : 0 ≤ a ∧ a ≤ 18446744073709551615 := by simpa [Lit.wf, e1, e2] using h
  exact ⟨a.toNat, by omega, by omega⟩

section
variable {H : Type} {enc : TypeId × Value → H} {w : World} {spare : Nat → Bool} {held : Bool}

set_option maxRecDepth 100000 in
theorem trod_actP {n : Nat} {cs : List Value} {d : DataW H} {p : List MemPlace} (h : DataW.trod enc Try.prog w 0 spare held n 29 cs = some (d, p)) :
    ∃ x : ActP, cs = [.int .i64 x.kind, .int .u64 (x.id : Int), .string ⟨x.s.toArray⟩] ∧ x.id < 18446744073709551616 ∧ x.s.length ≤ 9223372036854775807 := by
  obtain ⟨xs, n', rfl, hx, hcl, hxl, hg⟩ := DataW.trod_struct Try.underlying29 h
  rw [cellsP_act] at hcl
  match cs, hcl with
  | [c0, c1, c2], _ =>
  match xs, hxl with
  | [x0, x1, x2], _ =>
  have g0 : DataW.trod enc Try.prog w 0 spare held n' 3 [c0] = some x0 := by simpa [cellsP_int] using hg 0 _ rfl
  have g1 : DataW.trod enc Try.prog w 0 spare held n' 27 [c1] = some x1 := by simpa [cellsP_int, cellsP_uint64] using hg 1 _ rfl
  have g2 : DataW.trod enc Try.prog w 0 spare held n' 9 [c2] = some x2 := by simpa [cellsP_int, cellsP_uint64, cellsP_string] using hg 2 _ rfl
  obtain ⟨k, e0, rfl, wk⟩ := DataW.trod_int Try.underlying3 g0
  obtain ⟨a, e1, rfl, wa⟩ := DataW.trod_int Try.underlying27 g1
  obtain ⟨s, e2, rfl, ws⟩ := DataW.trod_string Try.underlying9 g2
  simp only [List.cons.injEq, and_true] at e0 e1 e2
  obtain ⟨a', rfl, ha⟩ := u64_natP wa
  subst e0 e1 e2
  have es : s = ⟨s.data.toList.toArray⟩ := by apply ByteArray.ext; simp
  exact ⟨⟨k, a', s.data.toList⟩, by rw [← es], ha, by show s.data.toList.length ≤ _; have : s.data.toList.length = s.size := rfl; unfold maxLen at ws; omega⟩

set_option maxRecDepth 100000 in
theorem open_actsP {v : Value} {b0 : Nat} {d : DataW H} {p : List MemPlace} (hv : Value.okWide Try.prog w .any b0 22 v) (h : DataW.Trod enc Try.prog w 0 spare held 22 v d p) :
    ∃ A cap l, v = .slice A (l : List ActP).length cap ∧ IsActsP w A l := by
  obtain ⟨a0, len, cap, rfl⟩ := okWide_slice Try.underlying22 hv
  obtain ⟨fuel, hf⟩ := h
  have hf' : DataW.trod enc Try.prog w 0 spare held fuel 22 [.slice a0 len cap] = some (d, p) := hf
  rcases open_slice Try.underlying22 hf' with ⟨he, -⟩ | ⟨a, len', cap', m', n2, D, Pl, he, _, hl, hm, hmm, -, hi⟩
  · simp only [List.cons.injEq, and_true, Value.slice.injEq] at he
    obtain ⟨rfl, rfl, rfl⟩ := he
    exact ⟨none, 0, [], rfl, by simp, .inl rfl⟩
  · simp only [List.cons.injEq, and_true, Value.slice.injEq] at he
    obtain ⟨rfl, rfl, rfl⟩ := he
    rw [cellsP_act] at hi
    have hle : len ≤ m' := by rw [hmm]; split <;> omega
    have hel : ∀ i, i < len → ∃ x : ActP, (∀ j u, [Value.int .i64 x.kind, .int .u64 (x.id : Int), .string ⟨x.s.toArray⟩][j]? = some u → w.cell? (a.add (i * 3 + j)) = some u) ∧ x.id < 18446744073709551616 ∧ x.s.length ≤ 9223372036854775807 := by
      intro i hil
      obtain ⟨cs', hcs, htr⟩ := hi i (by omega)
      obtain ⟨_, hcl', hcell⟩ := World.cells?_some hcs
      obtain ⟨x, hx, r⟩ := trod_actP htr
      refine ⟨x, fun j u hu => ?_, r⟩
      have hu' : cs'[j]? = some u := by rw [hx]; exact hu
      have hj : j < 3 := by have := (List.getElem?_eq_some_iff.1 hu').1; omega
      rw [← Go.Deep.add_add, hcell j hj, hu']
    obtain ⟨X, hX⟩ := @choose_lt ActP ⟨⟨0, 0, []⟩⟩ len _ hel
    have hll : ((List.range len).map X).length = len := by simp
    unfold maxLen at hm
    refine ⟨some a, cap, (List.range len).map X, by rw [hll], by rw [hll]; omega, ?_⟩
    by_cases h0 : len = 0
    · exact .inl (by rw [h0]; rfl)
    · right
      obtain ⟨b, off, spot⟩ := a
      have c0 := (hX 0 (by omega)).1 0 _ rfl
      have hspot : spot = none := by simpa [Addr.add] using World.cell?_spot c0
      subst hspot
      have hadd : ∀ q, (⟨b, off, none⟩ : Addr).add q = ⟨b, off + q, none⟩ := fun q => by unfold Addr.add; split <;> simp_all
      refine ⟨b, off, rfl, ?_, fun i x hx => ?_⟩
      · have := World.block_lt_of_cell? w _ c0
        rw [hadd] at this; exact this
      · rw [List.getElem?_map] at hx
        have hi' : i < len := by
          rcases Nat.lt_or_ge i len with h | h
          · exact h
          · rw [List.getElem?_eq_none (by simpa using h)] at hx; cases hx
        rw [List.getElem?_range hi'] at hx
        simp only [Option.map_some, Option.some.injEq] at hx
        subst hx
        obtain ⟨hc, r⟩ := hX i hi'
        have g : ∀ j u, [Value.int .i64 (X i).kind, .int .u64 ((X i).id : Int), .string ⟨(X i).s.toArray⟩][j]? = some u → w.cell? ⟨b, off + i * 3 + j, none⟩ = some u := fun j u hu => by
          have := hc j u hu
          rw [hadd, ← Nat.add_assoc] at this
          exact this
        exact ⟨g 0 _ rfl, g 1 _ rfl, g 2 _ rfl, r⟩
end

end Go.Proofs.Ytdfkahkomcfoeaa
