/- layer 9: what TxLater is handed, opened -/
import Derived.Test.YtkhhmmblkfogcaaTxJ
namespace Go.Proofs.Ytkhhmmblkfogcaa
open Go.ChangeShapes Go.WideShapes Go.ChangeAt Go.RowKit Go.Deep

theorem cellsT_bool : Try.prog.cellsOf 4 = 1 := by kernel_rfl
theorem cellsT_uint64 : Try.prog.cellsOf 22 = 1 := by kernel_rfl
theorem cellsT_string : Try.prog.cellsOf 9 = 1 := by kernel_rfl
theorem cellsT_change : Try.prog.cellsOf 38 = 3 := by kernel_rfl

theorem weights_all {H : Type} {P : Program} {e : TypeId} : ∀ {ds : List (DataW H)} {d : DataW H}, d ∈ ds → ∀ n ∈ d.weights P e, n ∈ DataW.weightsAll P e ds
  | c :: r, d, h, n, hn => by
    rw [DataW.weightsAll, List.mem_append]
    rcases List.mem_cons.1 h with rfl | hr
    · exact .inl hn
    · exact .inr (weights_all hr n hn)

section
variable {H : Type} {enc : TypeId × Value → H} {w : World} {spare : Nat → Bool} {held : Bool}

set_option maxRecDepth 100000 in
theorem trod_ch {n : Nat} {cs : List Value} {d : DataW H} {p : List MemPlace} (h : DataW.trod enc Try.prog w 0 spare held n 38 cs = some (d, p)) (hw : ∀ x ∈ d.weights Try.prog 38, x ≤ reachBytes) :
    ∃ x : Nat × Ch, cs = [.int .u64 (x.1 : Int), .string x.2.s, .bool x.2.gone] ∧ x.1 < 18446744073709551616 ∧ x.2.s.size ≤ 281474976710656 := by
  obtain ⟨xs, n', rfl, hx, hcl, hxl, hg⟩ := DataW.trod_struct Try.underlying38 h
  rw [cellsT_change] at hcl
  match cs, hcl with
  | [c0, c1, c2], _ =>
  match xs, hxl with
  | [x0, x1, x2], _ =>
  have g0 : DataW.trod enc Try.prog w 0 spare held n' 22 [c0] = some x0 := by simpa [cellsT_uint64] using hg 0 _ rfl
  have g1 : DataW.trod enc Try.prog w 0 spare held n' 9 [c1] = some x1 := by simpa [cellsT_uint64, cellsT_string] using hg 1 _ rfl
  have g2 : DataW.trod enc Try.prog w 0 spare held n' 4 [c2] = some x2 := by simpa [cellsT_uint64, cellsT_string, cellsT_bool] using hg 2 _ rfl
  obtain ⟨a, e0, rfl, wa⟩ := DataW.trod_int Try.underlying22 g0
  obtain ⟨s, e1, rfl, ws⟩ := DataW.trod_string Try.underlying9 g1
  obtain ⟨g, e2, rfl⟩ := DataW.trod_bool Try.underlying4 g2
  simp only [List.cons.injEq, and_true] at e0 e1 e2
  obtain ⟨a', rfl, ha⟩ := u64_of wa
  subst e0 e1 e2
  refine ⟨(a', ⟨s, g⟩), rfl, ha, ?_⟩
  simp only [Prod.mk.injEq] at hx
  have hws : s.data.toList.length ≤ reachBytes := hw _ (by
    rw [hx.1, DataW.weights, Try.underlying38]
    simp [DataW.weightsEach, DataW.weights])
  have := reachBytes_lt
  have e : s.data.toList.length = s.size := rfl
  show s.size ≤ _
  omega

set_option maxRecDepth 100000 in
theorem open_chs {v : Value} {b0 : Nat} {d : DataW H} {p : List MemPlace} (hv : Value.okWide Try.prog w .any b0 30 v) (h : DataW.Trod enc Try.prog w 0 spare held 30 v d p) (hw : ∀ x ∈ d.weights Try.prog 30, x ≤ reachBytes) :
    ∃ A cap l, v = .slice A (l : List (Nat × Ch)).length cap ∧ IsChs w A l := by
  obtain ⟨a0, len, cap, rfl⟩ := okWide_slice Try.underlying30 hv
  obtain ⟨fuel, hf⟩ := h
  have hf' : DataW.trod enc Try.prog w 0 spare held fuel 30 [.slice a0 len cap] = some (d, p) := hf
  rcases open_slice Try.underlying30 hf' with ⟨he, -⟩ | ⟨a, len', cap', m', n2, D, Pl, he, -, hl, hm, hmm, hdd, hi⟩
  · simp only [List.cons.injEq, and_true, Value.slice.injEq] at he
    obtain ⟨rfl, rfl, rfl⟩ := he
    exact ⟨none, 0, [], rfl, by simp, by simp, .inl rfl⟩
  · simp only [List.cons.injEq, and_true, Value.slice.injEq] at he
    obtain ⟨rfl, rfl, rfl⟩ := he
    rw [cellsT_change] at hi
    have hle : len ≤ m' := by rw [hmm]; split <;> omega
    simp only [Prod.mk.injEq] at hdd
    rw [hdd.1, DataW.weights, Try.underlying30] at hw
    simp only [List.mem_cons, List.mem_append] at hw
    have hel : ∀ i, i < len → ∃ x : Nat × Ch, (∀ j u, [Value.int .u64 (x.1 : Int), .string x.2.s, .bool x.2.gone][j]? = some u → w.cell? (a.add (i * 3 + j)) = some u) ∧ x.1 < 18446744073709551616 ∧ x.2.s.size ≤ 281474976710656 := by
      intro i hil
      obtain ⟨cs', hcs, htr⟩ := hi i (by omega)
      obtain ⟨_, hcl', hcell⟩ := World.cells?_some hcs
      obtain ⟨x, hx, r⟩ := trod_ch htr (fun y hy => hw y (.inr (.inl (weights_all (by
        simp only [List.mem_map, List.mem_range]
        exact ⟨i, hil, rfl⟩) y hy))))
      refine ⟨x, fun j u hu => ?_, r⟩
      have hu' : cs'[j]? = some u := by rw [hx]; exact hu
      have hj : j < 3 := by have := (List.getElem?_eq_some_iff.1 hu').1; omega
      rw [← Go.Deep.add_add, hcell j hj, hu']
    obtain ⟨X, hX⟩ := @choose_lt (Nat × Ch) ⟨(0, ⟨noB, false⟩)⟩ len _ hel
    have hll : ((List.range len).map X).length = len := by simp
    unfold maxLen at hm
    refine ⟨some a, cap, (List.range len).map X, by rw [hll], by rw [hll]; omega, fun x hx => ?_, ?_⟩
    · obtain ⟨i, hi', rfl⟩ := List.mem_map.1 hx
      exact (hX i (List.mem_range.1 hi')).2
    by_cases h0 : len = 0
    · exact .inl (by rw [h0]; rfl)
    · right
      obtain ⟨b, off, spot⟩ := a
      have c0 := (hX 0 (by omega)).1 0 _ rfl
      have hspot : spot = none := by simpa [Addr.add] using World.cell?_spot c0
      subst hspot
      have hadd : ∀ q, (⟨b, off, none⟩ : Addr).add q = ⟨b, off + q, none⟩ := fun q => by unfold Addr.add; split <;> simp_all
      refine ⟨b, off, rfl, ?_, fun i x hx => ?_⟩
      · have := World.block_lt_of_cell? w _ c0
        rw [hadd] at this; exact this
      · rw [List.getElem?_map] at hx
        have hi' : i < len := by
          rcases Nat.lt_or_ge i len with h | h
          · exact h
          · rw [List.getElem?_eq_none (by simpa using h)] at hx; cases hx
        rw [List.getElem?_range hi'] at hx
        simp only [Option.map_some, Option.some.injEq] at hx
        subst hx
        obtain ⟨hc, r⟩ := hX i hi'
        have g : ∀ j u, [Value.int .u64 ((X i).1 : Int), .string (X i).2.s, .bool (X i).2.gone][j]? = some u → w.cell? ⟨b, off + i * 3 + j, none⟩ = some u := fun j u hu => by
          have := hc j u hu
          rw [hadd, ← Nat.add_assoc] at this
          exact this
        exact ⟨g 0 _ rfl, g 1 _ rfl, g 2 _ rfl⟩
end

end Go.Proofs.Ytkhhmmblkfogcaa
