/- FlS, Open -/
import Derived.Test.YtgmjhoppjjjilaaDoorQ51
import Derived.Deep.Fields
import Derived.SizedLaws
import Derived.ChangeOld

namespace Go.Fl
/-- the word of a result that is no number, as the tape has it -/
def nanDrawn (w : World) (x y : Nat) : Nat := (Question.nanBits .f64 x y).cut (w.tape w.drawn (.nanBits .f64 x y))

theorem nanDrawn_nan (w : World) (x y : Nat) : nanDrawn w x y < 18446744073709551616 ∧ nanB (nanDrawn w x y) = true := by
  have h : nanDrawn w x y < 18446744073709551616 ∧ 9218868437227405312 < rung (nanDrawn w x y) := by
    unfold nanDrawn rung Question.cut
    generalize w.tape w.drawn (.nanBits .f64 x y) = t
    simp only
    have e1 : (2 : Nat) ^ 63 = 9223372036854775808 := by decide
    have e2 : (2 : Nat) ^ 52 - 1 = 4503599627370495 := by decide
    rw [e1, e2]
    have h1 : t % 2 < 2 := Nat.mod_lt _ (by decide)
    have h2 : t / 2 % 4503599627370495 < 4503599627370495 := Nat.mod_lt _ (by decide)
    generalize t / 2 % 4503599627370495 = v at *
    have h3 : t % 2 = 0 ∨ t % 2 = 1 := by omega
    rcases h3 with h3 | h3 <;> rw [h3] <;> omega
  exact ⟨h.1, (nan_iff h.1).2 h.2⟩

theorem run_float_add_nan {P : Program} (w : World) (t : TypeId) (x y : Nat) (h : floatBits .add .f64 x y = none) : (binOp .add t (.float .f64 x) (.float .f64 y)).run P w = .ok (.float .f64 (nanDrawn w x y)) w.drew := by
  unfold floatBits at h
  simp only at h
  simp [binOp, Op.floatArith, h]
  rfl

theorem add_nan_l {x y : Nat} (hx : x < 18446744073709551616) (h : nanB x = true) : floatBits .add .f64 x y = none := by
  show Ieee.double.add x y = none
  unfold Ieee.Format.add
  rw [read_nan hx ((nan_iff hx).1 h)]
  rfl

/-- the sum of the first k -/
def sumS (fs : Nat → Nat) : Nat → Option Nat
  | 0 => some 0
  | k + 1 => (sumS fs k).bind fun s => floatBits .add .f64 s (fs k)

/-- a word stands for it: it is just that; or any that is no number -/
def okS (o : Option Nat) (z : Nat) : Prop := match o with
  | some s => z = s
  | none => nanB z = true ∧ z < 18446744073709551616

def canS (o : Option Nat) : Nat := match o with
  | some s => canonN s
  | none => 9221120237041090561

theorem okS_can {o : Option Nat} {z : Nat} (h : okS o z) : canonN z = canS o := by
  cases o with
  | some s => unfold okS at h; subst h; rfl
  | none => unfold canonN canS; rw [h.1]; rfl

/-- one more: either it is known, or it is no number and drawn -/
theorem sum_step {fs : Nat → Nat} {k z : Nat} (h : okS (sumS fs k) z) :
    (∃ r, floatBits .add .f64 z (fs k) = some r ∧ okS (sumS fs (k + 1)) r) ∨ (floatBits .add .f64 z (fs k) = none ∧ sumS fs (k + 1) = none) := by
  rcases ho : sumS fs k with _ | s
  · rw [ho] at h
    refine Or.inr ⟨add_nan_l h.2 h.1, ?_⟩
    show (sumS fs k).bind _ = none
    rw [ho]; rfl
  · rw [ho] at h
    have hz : z = s := h
    subst hz
    have hs : sumS fs (k + 1) = floatBits .add .f64 z (fs k) := by
      show (sumS fs k).bind _ = _
      rw [ho]; rfl
    rcases hf : floatBits .add .f64 z (fs k) with _ | r
    · exact Or.inr ⟨rfl, by rw [hs, hf]⟩
    · exact Or.inl ⟨r, rfl, by rw [hs, hf]; rfl⟩

theorem okS_drawn {o : Option Nat} (w : World) (x y : Nat) (h : o = none) : okS o (nanDrawn w x y) := by
  subst h; exact ⟨(nanDrawn_nan w x y).2, (nanDrawn_nan w x y).1⟩

/-- a slice of floats that came in -/
def IsFloats (w : World) (a : Option Addr) (len cap : Nat) (fs : Nat → Nat) : Prop :=
  (len = 0 ∨ ∃ b off, a = some ⟨b, off, none⟩ ∧ ∀ i, i < len → w.cell? ⟨b, off + i, none⟩ = some (.float .f64 (fs i))) ∧ len ≤ cap ∧ len ≤ 9223372036854775807

end Go.Fl

namespace Go.Proofs.YtgmjhoppjjjilaaDoor
open Go.ChangeShapes Go.WideShapes Go.ChangeAt Go.RowKit Go.Deep

theorem cells_int : Tryd.prog.cellsOf 3 = 1 := by kernel_rfl
theorem cells_bool : Tryd.prog.cellsOf 4 = 1 := by kernel_rfl
theorem cells_int64 : Tryd.prog.cellsOf 2 = 1 := by kernel_rfl
theorem cells_float64 : Tryd.prog.cellsOf 22 = 1 := by kernel_rfl
theorem cells_string : Tryd.prog.cellsOf 9 = 1 := by kernel_rfl
theorem cells_values : Tryd.prog.cellsOf 23 = 1 := by kernel_rfl
theorem cells_value : Tryd.prog.cellsOf 25 = 6 := by kernel_rfl
theorem bytes_value : Tryd.prog.bytesOf 25 = 72 := by kernel_rfl

section
variable {H : Type} {enc : TypeId × Value → H} {w : World} {spare : Nat → Bool} {held : Bool}

theorem trod_float {P : Program} {base : Nat} {t : TypeId} {fuel : Nat} {cs : List Value} {x : DataW H × List MemPlace} (ht : P.underlying t = some (.float .f64)) (h : DataW.trod enc P w base spare held fuel t cs = some x) : ∃ z, cs = [.float .f64 z] ∧ x = (.lit (.float .f64 z), []) ∧ (Lit.float .f64 z).wf = true := by
  cases fuel with
  | zero => simp [DataW.trod] at h
  | succ n =>
    unfold DataW.trod at h
    rw [ht] at h
    split at h <;> simp_all

/-- what it weighs is within the reach -/
def Fits {H : Type} (d : DataW H) : Prop := ∀ x ∈ d.weights Tryd.prog 25, x ≤ reachBytes

theorem weights_mem_all {P : Program} {e : TypeId} : ∀ {ds : List (DataW H)} {d : DataW H}, d ∈ ds → ∀ n ∈ d.weights P e, n ∈ DataW.weightsAll P e ds
  | x :: r, d, hd, n, hn => by
    rw [DataW.weightsAll, List.mem_append]
    rcases List.mem_cons.1 hd with rfl | hr
    · exact .inl hn
    · exact .inr (weights_mem_all hr n hn)

set_option maxRecDepth 100000 in
theorem open_trod (m : Nat) : ∀ (d : DataW H), SizeOf.sizeOf d < m → ∀ (n : Nat) (cs : List Value) (p : List MemPlace), DataW.trod enc Tryd.prog w 0 spare held n 25 cs = some (d, p) → Fits d →
    ∃ (t : T) (v : Value), cs = v.cells.toList ∧ Rd w w.heap.size t v := by
  induction m with
  | zero => intro d hd; exact absurd hd (Nat.not_lt_zero _)
  | succ m ih =>
    intro d hd n cs p h hfit
    have hlt := DataW.trod_lt _ _ _ _ h
    obtain ⟨xs, n', rfl, hx, hcl, hxl, hg⟩ := DataW.trod_struct Tryd.underlying25 h
    rw [cells_value] at hcl
    match cs, hcl with
    | [c0, c1, c2, c3, c4, c5], _ =>
    match xs, hxl with
    | [x0, x1, x2, x3, x4, x5], _ =>
    have g0 : DataW.trod enc Tryd.prog w 0 spare held n' 3 [c0] = some x0 := by simpa [cells_int] using hg 0 _ rfl
    have g1 : DataW.trod enc Tryd.prog w 0 spare held n' 4 [c1] = some x1 := by simpa [cells_bool] using hg 1 _ rfl
    have g2 : DataW.trod enc Tryd.prog w 0 spare held n' 2 [c2] = some x2 := by simpa [cells_int64] using hg 2 _ rfl
    have g3 : DataW.trod enc Tryd.prog w 0 spare held n' 22 [c3] = some x3 := by simpa [cells_float64] using hg 3 _ rfl
    have g4 : DataW.trod enc Tryd.prog w 0 spare held n' 9 [c4] = some x4 := by simpa [cells_string] using hg 4 _ rfl
    have g5 : DataW.trod enc Tryd.prog w 0 spare held n' 23 [c5] = some x5 := by simpa [cells_values] using hg 5 _ rfl
    clear hg
    obtain ⟨k, e0, rfl, wk⟩ := DataW.trod_int Tryd.underlying3 g0
    obtain ⟨b, e1, rfl⟩ := DataW.trod_bool Tryd.underlying4 g1
    obtain ⟨z, e2, rfl, wz⟩ := DataW.trod_int Tryd.underlying2 g2
    obtain ⟨f, e3, rfl, wf⟩ := trod_float Tryd.underlying22 g3
    obtain ⟨s, e4, rfl, ws⟩ := DataW.trod_string Tryd.underlying9 g4
    simp only [List.cons.injEq, and_true] at e0 e1 e2 e3 e4
    subst e0 e1 e2 e3 e4
    simp only [List.map_cons, List.map_nil, List.flatMap_cons, List.flatMap_nil, List.nil_append, List.append_nil, Prod.mk.injEq] at hx
    obtain ⟨rfl, rfl⟩ := hx
    have hs : s.size ≤ 140737488351232 := by
      have := hfit s.data.toList.length (by
        unfold DataW.weights
        rw [Tryd.underlying25]
        simp [DataW.weightsEach, DataW.weights])
      simpa [reachBytes] using this
    rcases open_slice Tryd.underlying23 g5 with ⟨he, rfl⟩ | ⟨a, len, cap, m', n2, D, Pl, he, _, hl, hm, hmm, rfl, hi⟩
    · simp only [List.cons.injEq, and_true] at he
      subst he
      exact ⟨.mk k b z f s [], _, rfl, RdX.of (l := []) none 0 (is64_wf wk) (is64_wf wz) (f64_wf wf) hs (by simp) (by simp) (fun _ => rfl) (fun i hi => absurd hi (Nat.not_lt_zero _))⟩
    · simp only [List.cons.injEq, and_true] at he
      subst he
      rw [cells_value] at hi
      have hle : len ≤ m' := by rw [hmm]; split <;> omega
      have hw5 : ∀ x ∈ DataW.weights Tryd.prog 23 (DataW.slice ((List.range len).map D) ((List.range (m' - len)).map fun j => D (len + j))), x ≤ reachBytes := fun x hx => hfit x (by
        rw [DataW.weights]
        rw [Tryd.underlying25]
        simp only [List.map_cons, List.map_nil, DataW.weightsEach, List.append_nil, List.mem_append]
        exact .inr (.inr (.inr (.inr (.inr hx)))))
      have hw5' := hw5
      rw [DataW.weights, Tryd.underlying23] at hw5
      simp only [List.mem_cons, List.mem_append] at hw5
      have hlen : len ≤ 1954687338211 := by
        have := hw5 _ (.inl rfl)
        simp only [List.length_map, List.length_range, bytes_value, reachBytes] at this
        omega
      have hel : ∀ i, i < len → ∃ (tv : T × Value), (∀ j u, tv.2.cells[j]? = some u → w.cell? (a.add (i * 6 + j)) = some u) ∧ Rd w w.heap.size tv.1 tv.2 ∧ a.block < w.heap.size := by
        intro i hil
        obtain ⟨cs', hcs, htr⟩ := hi i (by omega)
        obtain ⟨_, hcl', hcell⟩ := World.cells?_some hcs
        have hmem : D i ∈ (List.range len).map D := List.mem_map.2 ⟨i, List.mem_range.2 hil, rfl⟩
        obtain ⟨t, v, hv, hr⟩ := ih (D i) (by
          have h1 := List.sizeOf_lt_of_mem hmem
          simp only [DataW.agg.sizeOf_spec, List.cons.sizeOf_spec, List.nil.sizeOf_spec, DataW.slice.sizeOf_spec] at hd
          omega) n2 cs' (Pl i) htr (fun x hx => hw5 x (.inr (.inl (weights_mem_all hmem x hx))))
        have hc : ∀ j u, v.cells[j]? = some u → w.cell? (a.add (i * 6 + j)) = some u := by
          intro j u hu
          have hu' : cs'[j]? = some u := by rw [hv, Array.getElem?_toList]; exact hu
          have hj : j < 6 := by have := (List.getElem?_eq_some_iff.1 hu').1; omega
          rw [← Go.Deep.add_add, hcell j hj, hu']
        refine ⟨(t, v), hc, hr, ?_⟩
        obtain ⟨u, hu⟩ : ∃ u, cs'[0]? = some u := ⟨cs'[0]'(by omega), List.getElem?_eq_getElem _⟩
        have h0 := hcell 0 (by omega)
        rw [hu] at h0
        have := World.block_lt_of_cell? w _ h0
        rw [Go.Deep.add_add] at this
        unfold Addr.add at this
        split at this <;> exact this
      obtain ⟨TV, hTV⟩ := @choose_lt (T × Value) ⟨(.mk 0 false 0 0 ByteArray.empty [], .bool false)⟩ len _ hel
      have hll : ((List.range len).map fun i => (TV i).1).length = len := by simp
      have hrd := RdX.of (w := w) (L := 0) (B := w.heap.size) (b := b) (l := (List.range len).map fun i => (TV i).1) (some a) cap (is64_wf wk) (is64_wf wz) (f64_wf wf) hs (by rw [hll]; exact hl) (by rw [hll]; exact ⟨hm, hlen⟩) (fun h => by cases h)
        (fun i hi' => by
          rw [hll] at hi'
          obtain ⟨h1, h2, h3⟩ := hTV i hi'
          exact ⟨a, (TV i).2, rfl, ⟨Nat.zero_le _, h3⟩, h1, by simp only [List.getElem_map, List.getElem_range]; exact h2⟩)
      rw [hll] at hrd
      exact ⟨_, _, rfl, hrd⟩

set_option maxRecDepth 100000 in
/-- an argument -/
theorem open_val {v : Value} {b0 : Nat} {d : DataW H} {p : List MemPlace} (hv : Value.okWide Tryd.prog w .any b0 25 v) (h : DataW.Trod enc Tryd.prog w 0 spare held 25 v d p) (hf : Fits d) : ∃ t, Rd w w.heap.size t v := by
  obtain ⟨cs, rfl, hsz⟩ := okWide_struct Tryd.underlying25 hv
  obtain ⟨n, hn⟩ := h
  obtain ⟨t, v', h1, h2⟩ := open_trod _ d (Nat.lt_succ_self _) n _ p hn hf
  refine ⟨t, ?_⟩
  obtain ⟨k, b, z, f, s, l⟩ := t
  obtain ⟨A, cap, rfl, -⟩ := h2.open
  have : cs = #[.int .i64 k, .bool b, .int .i64 z, .float .f64 f, .string s, .slice A l.length cap] := by
    have := congrArg List.toArray h1
    simpa [Value.cells] using this
  rw [this]
  exact h2
end

end Go.Proofs.YtgmjhoppjjjilaaDoor
