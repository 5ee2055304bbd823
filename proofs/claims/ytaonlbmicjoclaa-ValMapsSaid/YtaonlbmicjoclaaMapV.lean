/- ValMaps, walked (written by tools/laws02v.py) -/
import Derived.Test.YtaonlbmicjoclaaInts
import Derived.Test.YtaonlbmicjoclaaVal
import Derived.Deep.Fields
import Derived.SizedLaws
import Derived.ChangeOld
import Derived.Test.YtaonlbmicjoclaaCmpA
import Derived.Test.YtaonlbmicjoclaaChkA
import Derived.StillTailTactics
import Derived.Test.YtaonlbmicjoclaaChkM
import Derived.Test.YtaonlbmicjoclaaGetS
import Derived.Test.YtaonlbmicjoclaaCopy
import Derived.Test.YtaonlbmicjoclaaCmpB
import Derived.Test.YtaonlbmicjoclaaMapE
import Derived.Deep.RegionHeld3
import Derived.Test.YtaonlbmicjoclaaMapF
import Derived.Test.YtaonlbmicjoclaaMapB
import Derived.Test.YtaonlbmicjoclaaCmpS
import Derived.BigRegion
import Derived.Deep.LoopGhost

namespace Go.Fl
/-- the word of a result that is no number, as the tape has it -/
def nanDrawn (w : World) (x y : Nat) : Nat := (Question.nanBits .f64 x y).cut (w.tape w.drawn (.nanBits .f64 x y))

theorem nanDrawn_nan (w : World) (x y : Nat) : nanDrawn w x y < 18446744073709551616 ∧ nanB (nanDrawn w x y) = true := by
  have h : nanDrawn w x y < 18446744073709551616 ∧ 9218868437227405312 < rung (nanDrawn w x y) := by
    unfold nanDrawn rung Question.cut
    generalize w.tape w.drawn (.nanBits .f64 x y) = t
    simp only
    have e1 : (2 : Nat) ^ 63 = 9223372036854775808 := by decide
    have e2 : (2 : Nat) ^ 52 - 1 = 4503599627370495 := by decide
    rw [e1, e2]
    have h1 : t % 2 < 2 := Nat.mod_lt _ (by decide)
    have h2 : t / 2 % 4503599627370495 < 4503599627370495 := Nat.mod_lt _ (by decide)
    generalize t / 2 % 4503599627370495 = v at *
    have h3 : t % 2 = 0 ∨ t % 2 = 1 := by omega
    rcases h3 with h3 | h3 <;> rw [h3] <;> omega
  exact ⟨h.1, (nan_iff h.1).2 h.2⟩

theorem run_float_add_nan {P : Program} (w : World) (t : TypeId) (x y : Nat) (h : floatBits .add .f64 x y = none) : (binOp .add t (.float .f64 x) (.float .f64 y)).run P w = .ok (.float .f64 (nanDrawn w x y)) w.drew := by
  unfold floatBits at h
  simp only at h
  simp [binOp, Op.floatArith, h]
  rfl

theorem add_nan_l {x y : Nat} (hx : x < 18446744073709551616) (h : nanB x = true) : floatBits .add .f64 x y = none := by
  show Ieee.double.add x y = none
  unfold Ieee.Format.add
  rw [read_nan hx ((nan_iff hx).1 h)]
  rfl

/-- the sum of the first k -/
def sumS (fs : Nat → Nat) : Nat → Option Nat
  | 0 => some 0
  | k + 1 => (sumS fs k).bind fun s => floatBits .add .f64 s (fs k)

/-- a word stands for it: it is just that; or any that is no number -/
def okS (o : Option Nat) (z : Nat) : Prop := match o with
  | some s => z = s
  | none => nanB z = true ∧ z < 18446744073709551616

def canS (o : Option Nat) : Nat := match o with
  | some s => canonN s
  | none => 9221120237041090561

theorem okS_can {o : Option Nat} {z : Nat} (h : okS o z) : canonN z = canS o := by
  cases o with
  | some s => unfold okS at h; subst h; rfl
  | none => unfold canonN canS; rw [h.1]; rfl

/-- one more: either it is known, or it is no number and drawn -/
theorem sum_step {fs : Nat → Nat} {k z : Nat} (h : okS (sumS fs k) z) :
    (∃ r, floatBits .add .f64 z (fs k) = some r ∧ okS (sumS fs (k + 1)) r) ∨ (floatBits .add .f64 z (fs k) = none ∧ sumS fs (k + 1) = none) := by
  rcases ho : sumS fs k with _ | s
  · rw [ho] at h
    refine Or.inr ⟨add_nan_l h.2 h.1, ?_⟩
    show (sumS fs k).bind _ = none
    rw [ho]; rfl
  · rw [ho] at h
    have hz : z = s := h
    subst hz
    have hs : sumS fs (k + 1) = floatBits .add .f64 z (fs k) := by
      show (sumS fs k).bind _ = _
      rw [ho]; rfl
    rcases hf : floatBits .add .f64 z (fs k) with _ | r
    · exact Or.inr ⟨rfl, by rw [hs, hf]⟩
    · exact Or.inl ⟨r, rfl, by rw [hs, hf]; rfl⟩

theorem okS_drawn {o : Option Nat} (w : World) (x y : Nat) (h : o = none) : okS o (nanDrawn w x y) := by
  subst h; exact ⟨(nanDrawn_nan w x y).2, (nanDrawn_nan w x y).1⟩

/-- a slice of floats that came in -/
def IsFloats (w : World) (a : Option Addr) (len cap : Nat) (fs : Nat → Nat) : Prop :=
  (len = 0 ∨ ∃ b off, a = some ⟨b, off, none⟩ ∧ ∀ i, i < len → w.cell? ⟨b, off + i, none⟩ = some (.float .f64 (fs i))) ∧ len ≤ cap ∧ len ≤ 9223372036854775807

end Go.Fl

namespace Go.Proofs.Ytaonlbmicjoclaa
open Go.ChangeShapes Go.WideShapes Go.ChangeAt Go.RowKit Go.Deep

theorem cells_int : Try.prog.cellsOf 3 = 1 := by kernel_rfl
theorem cells_bool : Try.prog.cellsOf 4 = 1 := by kernel_rfl
theorem cells_int64 : Try.prog.cellsOf 2 = 1 := by kernel_rfl
theorem cells_float64 : Try.prog.cellsOf 24 = 1 := by kernel_rfl
theorem cells_string : Try.prog.cellsOf 9 = 1 := by kernel_rfl
theorem cells_values : Try.prog.cellsOf 22 = 1 := by kernel_rfl
theorem cells_value : Try.prog.cellsOf 26 = 6 := by kernel_rfl
theorem bytes_value : Try.prog.bytesOf 26 = 72 := by kernel_rfl

section
variable {H : Type} {enc : TypeId × Value → H} {w : World} {spare : Nat → Bool} {held : Bool}

theorem trod_float {P : Program} {base : Nat} {t : TypeId} {fuel : Nat} {cs : List Value} {x : DataW H × List MemPlace} (ht : P.underlying t = some (.float .f64)) (h : DataW.trod enc P w base spare held fuel t cs = some x) : ∃ z, cs = [.float .f64 z] ∧ x = (.lit (.float .f64 z), []) ∧ (Lit.float .f64 z).wf = true := by
  cases fuel with
  | zero => simp [DataW.trod] at h
  | succ n =>
    unfold DataW.trod at h
    rw [ht] at h
    split at h <;> simp_all

/-- what it weighs is within the reach -/
def Fits {H : Type} (d : DataW H) : Prop := ∀ x ∈ d.weights Try.prog 26, x ≤ reachBytes

theorem weights_mem_all {P : Program} {e : TypeId} : ∀ {ds : List (DataW H)} {d : DataW H}, d ∈ ds → ∀ n ∈ d.weights P e, n ∈ DataW.weightsAll P e ds
  | x :: r, d, hd, n, hn => by
    rw [DataW.weightsAll, List.mem_append]
    rcases List.mem_cons.1 hd with rfl | hr
    · exact .inl hn
    · exact .inr (weights_mem_all hr n hn)

set_option maxRecDepth 100000 in
theorem open_trod (m : Nat) : ∀ (d : DataW H), SizeOf.sizeOf d < m → ∀ (n : Nat) (cs : List Value) (p : List MemPlace), DataW.trod enc Try.prog w 0 spare held n 26 cs = some (d, p) → Fits d →
    ∃ (t : T) (v : Value), cs = v.cells.toList ∧ Rd w w.heap.size t v := by
  induction m with
  | zero => intro d hd; exact absurd hd (Nat.not_lt_zero _)
  | succ m ih =>
    intro d hd n cs p h hfit
    have hlt := DataW.trod_lt _ _ _ _ h
    obtain ⟨xs, n', rfl, hx, hcl, hxl, hg⟩ := DataW.trod_struct Try.underlying26 h
    rw [cells_value] at hcl
    match cs, hcl with
    | [c0, c1, c2, c3, c4, c5], _ =>
    match xs, hxl with
    | [x0, x1, x2, x3, x4, x5], _ =>
    have g0 : DataW.trod enc Try.prog w 0 spare held n' 3 [c0] = some x0 := by simpa [cells_int] using hg 0 _ rfl
    have g1 : DataW.trod enc Try.prog w 0 spare held n' 4 [c1] = some x1 := by simpa [cells_bool] using hg 1 _ rfl
    have g2 : DataW.trod enc Try.prog w 0 spare held n' 2 [c2] = some x2 := by simpa [cells_int64] using hg 2 _ rfl
    have g3 : DataW.trod enc Try.prog w 0 spare held n' 24 [c3] = some x3 := by simpa [cells_float64] using hg 3 _ rfl
    have g4 : DataW.trod enc Try.prog w 0 spare held n' 9 [c4] = some x4 := by simpa [cells_string] using hg 4 _ rfl
    have g5 : DataW.trod enc Try.prog w 0 spare held n' 22 [c5] = some x5 := by simpa [cells_values] using hg 5 _ rfl
    clear hg
    obtain ⟨k, e0, rfl, wk⟩ := DataW.trod_int Try.underlying3 g0
    obtain ⟨b, e1, rfl⟩ := DataW.trod_bool Try.underlying4 g1
    obtain ⟨z, e2, rfl, wz⟩ := DataW.trod_int Try.underlying2 g2
    obtain ⟨f, e3, rfl, wf⟩ := trod_float Try.underlying24 g3
    obtain ⟨s, e4, rfl, ws⟩ := DataW.trod_string Try.underlying9 g4
    simp only [List.cons.injEq, and_true] at e0 e1 e2 e3 e4
    subst e0 e1 e2 e3 e4
    simp only [List.map_cons, List.map_nil, List.flatMap_cons, List.flatMap_nil, List.nil_append, List.append_nil, Prod.mk.injEq] at hx
    obtain ⟨rfl, rfl⟩ := hx
    have hs : s.size ≤ 140737488351232 := by
      have := hfit s.data.toList.length (by
        unfold DataW.weights
        rw [Try.underlying26]
        simp [DataW.weightsEach, DataW.weights])
      simpa [reachBytes] using this
    rcases open_slice Try.underlying22 g5 with ⟨he, rfl⟩ | ⟨a, len, cap, m', n2, D, Pl, he, _, hl, hm, hmm, rfl, hi⟩
    · simp only [List.cons.injEq, and_true] at he
      subst he
      exact ⟨.mk k b z f s [], _, rfl, RdX.of (l := []) none 0 (is64_wf wk) (is64_wf wz) (f64_wf wf) hs (by simp) (by simp) (fun _ => rfl) (fun i hi => absurd hi (Nat.not_lt_zero _))⟩
    · simp only [List.cons.injEq, and_true] at he
      subst he
      rw [cells_value] at hi
      have hle : len ≤ m' := by rw [hmm]; split <;> omega
      have hw5 : ∀ x ∈ DataW.weights Try.prog 22 (DataW.slice ((List.range len).map D) ((List.range (m' - len)).map fun j => D (len + j))), x ≤ reachBytes := fun x hx => hfit x (by
        rw [DataW.weights]
        rw [Try.underlying26]
        simp only [List.map_cons, List.map_nil, DataW.weightsEach, List.append_nil, List.mem_append]
        exact .inr (.inr (.inr (.inr (.inr hx)))))
      have hw5' := hw5
      rw [DataW.weights, Try.underlying22] at hw5
      simp only [List.mem_cons, List.mem_append] at hw5
      have hlen : len ≤ 1954687338211 := by
        have := hw5 _ (.inl rfl)
        simp only [List.length_map, List.length_range, bytes_value, reachBytes] at this
        omega
      have hel : ∀ i, i < len → ∃ (tv : T × Value), (∀ j u, tv.2.cells[j]? = some u → w.cell? (a.add (i * 6 + j)) = some u) ∧ Rd w w.heap.size tv.1 tv.2 ∧ a.block < w.heap.size := by
        intro i hil
        obtain ⟨cs', hcs, htr⟩ := hi i (by omega)
        obtain ⟨_, hcl', hcell⟩ := World.cells?_some hcs
        have hmem : D i ∈ (List.range len).map D := List.mem_map.2 ⟨i, List.mem_range.2 hil, rfl⟩
        obtain ⟨t, v, hv, hr⟩ := ih (D i) (by
          have h1 := List.sizeOf_lt_of_mem hmem
          simp only [DataW.agg.sizeOf_spec, List.cons.sizeOf_spec, List.nil.sizeOf_spec, DataW.slice.sizeOf_spec] at hd
          omega) n2 cs' (Pl i) htr (fun x hx => hw5 x (.inr (.inl (weights_mem_all hmem x hx))))
        have hc : ∀ j u, v.cells[j]? = some u → w.cell? (a.add (i * 6 + j)) = some u := by
          intro j u hu
          have hu' : cs'[j]? = some u := by rw [hv, Array.getElem?_toList]; exact hu
          have hj : j < 6 := by have := (List.getElem?_eq_some_iff.1 hu').1; omega
          rw [← Go.Deep.add_add, hcell j hj, hu']
        refine ⟨(t, v), hc, hr, ?_⟩
        obtain ⟨u, hu⟩ : ∃ u, cs'[0]? = some u := ⟨cs'[0]'(by omega), List.getElem?_eq_getElem _⟩
        have h0 := hcell 0 (by omega)
        rw [hu] at h0
        have := World.block_lt_of_cell? w _ h0
        rw [Go.Deep.add_add] at this
        unfold Addr.add at this
        split at this <;> exact this
      obtain ⟨TV, hTV⟩ := @choose_lt (T × Value) ⟨(.mk 0 false 0 0 ByteArray.empty [], .bool false)⟩ len _ hel
      have hll : ((List.range len).map fun i => (TV i).1).length = len := by simp
      have hrd := RdX.of (w := w) (L := 0) (B := w.heap.size) (b := b) (l := (List.range len).map fun i => (TV i).1) (some a) cap (is64_wf wk) (is64_wf wz) (f64_wf wf) hs (by rw [hll]; exact hl) (by rw [hll]; exact ⟨hm, hlen⟩) (fun h => by cases h)
        (fun i hi' => by
          rw [hll] at hi'
          obtain ⟨h1, h2, h3⟩ := hTV i hi'
          exact ⟨a, (TV i).2, rfl, ⟨Nat.zero_le _, h3⟩, h1, by simp only [List.getElem_map, List.getElem_range]; exact h2⟩)
      rw [hll] at hrd
      exact ⟨_, _, rfl, hrd⟩

set_option maxRecDepth 100000 in
/-- an argument -/
theorem open_val {v : Value} {b0 : Nat} {d : DataW H} {p : List MemPlace} (hv : Value.okWide Try.prog w .any b0 26 v) (h : DataW.Trod enc Try.prog w 0 spare held 26 v d p) (hf : Fits d) : ∃ t, Rd w w.heap.size t v := by
  obtain ⟨cs, rfl, hsz⟩ := okWide_struct Try.underlying26 hv
  obtain ⟨n, hn⟩ := h
  obtain ⟨t, v', h1, h2⟩ := open_trod _ d (Nat.lt_succ_self _) n _ p hn hf
  refine ⟨t, ?_⟩
  obtain ⟨k, b, z, f, s, l⟩ := t
  obtain ⟨A, cap, rfl, -⟩ := h2.open
  have : cs = #[.int .i64 k, .bool b, .int .i64 z, .float .f64 f, .string s, .slice A l.length cap] := by
    have := congrArg List.toArray h1
    simpa [Value.cells] using this
  rw [this]
  exact h2
end

end Go.Proofs.Ytaonlbmicjoclaa

namespace Go.Proofs.Ytaonlbmicjoclaa
open Go.ChangeShapes Go.WideShapes Go.ChangeAt Go.RowKit Go.Fl

/-- the same but for their parts -/
def hdB (k : Int) (b : Bool) (n : Int) (f : Nat) (s : ByteArray) (m : Nat) (k' : Int) (b' : Bool) (n' : Int) (f' : Nat) (s' : ByteArray) (m' : Nat) : Bool :=
  k == k' && b == b' && n == n' && canonN f == canonN f' && s.toList == s'.toList && m == m'

mutual
/-- the same, bits and all -/
def smT : T → T → Bool
  | .mk k b n f s l, .mk k' b' n' f' s' l' => hdB k b n f s l.length k' b' n' f' s' l'.length && smL l l'
def smL : List T → List T → Bool
  | [], [] => true
  | [], _ :: _ => false
  | _ :: _, [] => false
  | x :: r, y :: q => smT x y && smL r q
end

/-- Same at one left side -/
def SmAt (a : T) : Prop := ∀ (b : T) (v v' : Value) (w : World), Rd w w.heap.size a v → Rd w w.heap.size b v' →
  Calls Try.prog 7 #[v, v'] w fun e w' => e = .returned (.bool (smT a b)) ∧ Below w.heap.size w w'

set_option maxRecDepth 100000 in
theorem sm_k (k k' n n' : Int) (b b' : Bool) (f f' : Nat) (s s' : ByteArray) (m m' : Nat) (A A' : Option Addr) (cap cap' : Nat) (w : World) (h : k ≠ k') :
    Calls Try.prog 7 #[.agg #[.int .i64 k, .bool b, .int .i64 n, .float .f64 f, .string s, .slice A m cap], .agg #[.int .i64 k', .bool b', .int .i64 n', .float .f64 f', .string s', .slice A' m' cap']] w fun e w' => e = .returned (.bool false) ∧ Below w.heap.size w w' := by
  have d0 : (k != k') = true := by simpa using h
  have d0' : (k == k') = false := by simpa using h
  clear h
  go_enter Try.func7, Try.ntmps7
  go_wp2_with fail
  go_quiet ((go_at_call 21; (first | exact quiet_left (rcanon_any _ _) | exact quiet_add_left (rcanon_any _ _))))
  go_wp2_with fail
  go_ret
  exact ⟨rfl, below_drewN (((Below.refl _ _).alloc (Nat.le_refl _) _).alloc (by simp) _) _⟩

set_option maxRecDepth 100000 in
theorem sm_bt (k k' n n' : Int) (f f' : Nat) (s s' : ByteArray) (m m' : Nat) (A A' : Option Addr) (cap cap' : Nat) (w : World) (hk : k = k') :
    Calls Try.prog 7 #[.agg #[.int .i64 k, .bool true, .int .i64 n, .float .f64 f, .string s, .slice A m cap], .agg #[.int .i64 k', .bool false, .int .i64 n', .float .f64 f', .string s', .slice A' m' cap']] w fun e w' => e = .returned (.bool false) ∧ Below w.heap.size w w' := by
  subst hk
  go_enter Try.func7, Try.ntmps7
  go_wp2_with fail
  go_quiet ((go_at_call 21; (first | exact quiet_left (rcanon_any _ _) | exact quiet_add_left (rcanon_any _ _))))
  go_wp2_with fail
  go_ret
  exact ⟨rfl, below_drewN (((Below.refl _ _).alloc (Nat.le_refl _) _).alloc (by simp) _) _⟩

set_option maxRecDepth 100000 in
theorem sm_bf (k k' n n' : Int) (f f' : Nat) (s s' : ByteArray) (m m' : Nat) (A A' : Option Addr) (cap cap' : Nat) (w : World) (hk : k = k') :
    Calls Try.prog 7 #[.agg #[.int .i64 k, .bool false, .int .i64 n, .float .f64 f, .string s, .slice A m cap], .agg #[.int .i64 k', .bool true, .int .i64 n', .float .f64 f', .string s', .slice A' m' cap']] w fun e w' => e = .returned (.bool false) ∧ Below w.heap.size w w' := by
  subst hk
  go_enter Try.func7, Try.ntmps7
  go_wp2_with fail
  go_quiet ((go_at_call 21; (first | exact quiet_left (rcanon_any _ _) | exact quiet_add_left (rcanon_any _ _))))
  go_wp2_with fail
  go_ret
  exact ⟨rfl, below_drewN (((Below.refl _ _).alloc (Nat.le_refl _) _).alloc (by simp) _) _⟩

set_option maxRecDepth 100000 in
theorem sm_n (k k' n n' : Int) (b b' : Bool) (f f' : Nat) (s s' : ByteArray) (m m' : Nat) (A A' : Option Addr) (cap cap' : Nat) (w : World) (hk : k = k') (hb : b = b') (h : n ≠ n') :
    Calls Try.prog 7 #[.agg #[.int .i64 k, .bool b, .int .i64 n, .float .f64 f, .string s, .slice A m cap], .agg #[.int .i64 k', .bool b', .int .i64 n', .float .f64 f', .string s', .slice A' m' cap']] w fun e w' => e = .returned (.bool false) ∧ Below w.heap.size w w' := by
  subst hk hb
  have d0 : (n != n') = true := by simpa using h
  have d0' : (n == n') = false := by simpa using h
  clear h
  go_enter Try.func7, Try.ntmps7
  go_wp2_with fail
  go_quiet ((go_at_call 21; (first | exact quiet_left (rcanon_any _ _) | exact quiet_add_left (rcanon_any _ _))))
  go_wp2_with fail
  go_ret
  exact ⟨rfl, below_drewN (((Below.refl _ _).alloc (Nat.le_refl _) _).alloc (by simp) _) _⟩

set_option maxRecDepth 100000 in
theorem sm_f (k k' n n' : Int) (b b' : Bool) (f f' : Nat) (s s' : ByteArray) (m m' : Nat) (A A' : Option Addr) (cap cap' : Nat) (w : World) (hk : k = k') (hb : b = b') (hn : n = n') (h : canonN f ≠ canonN f') :
    Calls Try.prog 7 #[.agg #[.int .i64 k, .bool b, .int .i64 n, .float .f64 f, .string s, .slice A m cap], .agg #[.int .i64 k', .bool b', .int .i64 n', .float .f64 f', .string s', .slice A' m' cap']] w fun e w' => e = .returned (.bool false) ∧ Below w.heap.size w w' := by
  subst hk hb hn
  have d0 : ((canonN f : Int) != (canonN f' : Int)) = true := by simp; omega
  have d0' : ((canonN f : Int) == (canonN f' : Int)) = false := by simp; omega
  clear h
  go_enter Try.func7, Try.ntmps7
  go_wp2_with fail
  go_quiet ((go_at_call 21; (first | exact quiet_left (rcanon_any _ _) | exact quiet_add_left (rcanon_any _ _))))
  go_wp2_with fail
  go_ret
  exact ⟨rfl, below_drewN (((Below.refl _ _).alloc (Nat.le_refl _) _).alloc (by simp) _) _⟩

set_option maxRecDepth 100000 in
theorem sm_s (k k' n n' : Int) (b b' : Bool) (f f' : Nat) (s s' : ByteArray) (m m' : Nat) (A A' : Option Addr) (cap cap' : Nat) (w : World) (hk : k = k') (hb : b = b') (hn : n = n') (hf : canonN f = canonN f') (h : s.toList ≠ s'.toList) :
    Calls Try.prog 7 #[.agg #[.int .i64 k, .bool b, .int .i64 n, .float .f64 f, .string s, .slice A m cap], .agg #[.int .i64 k', .bool b', .int .i64 n', .float .f64 f', .string s', .slice A' m' cap']] w fun e w' => e = .returned (.bool false) ∧ Below w.heap.size w w' := by
  subst hk hb hn
  have e0 : ((canonN f : Int) != (canonN f' : Int)) = false := by simp; omega
  have e0' : ((canonN f : Int) == (canonN f' : Int)) = true := by simp; omega
  clear hf
  have d0 : (s.toList == s'.toList) = false := by simpa using h
  have d1 : (s.toList != s'.toList) = true := by simpa using h
  clear h
  go_enter Try.func7, Try.ntmps7
  go_wp2_with fail
  go_quiet ((go_at_call 21; (first | exact quiet_left (rcanon_any _ _) | exact quiet_add_left (rcanon_any _ _))))
  go_wp2_with fail
  go_ret
  exact ⟨rfl, below_drewN (((Below.refl _ _).alloc (Nat.le_refl _) _).alloc (by simp) _) _⟩

set_option maxRecDepth 100000 in
theorem sm_m (k k' n n' : Int) (b b' : Bool) (f f' : Nat) (s s' : ByteArray) (m m' : Nat) (A A' : Option Addr) (cap cap' : Nat) (w : World) (hk : k = k') (hb : b = b') (hn : n = n') (hf : canonN f = canonN f') (hs : s.toList = s'.toList) (h : m ≠ m') :
    Calls Try.prog 7 #[.agg #[.int .i64 k, .bool b, .int .i64 n, .float .f64 f, .string s, .slice A m cap], .agg #[.int .i64 k', .bool b', .int .i64 n', .float .f64 f', .string s', .slice A' m' cap']] w fun e w' => e = .returned (.bool false) ∧ Below w.heap.size w w' := by
  subst hk hb hn
  have e0 : ((canonN f : Int) != (canonN f' : Int)) = false := by simp; omega
  have e0' : ((canonN f : Int) == (canonN f' : Int)) = true := by simp; omega
  clear hf
  have e1 : (s.toList == s'.toList) = true := by simpa using hs
  have e1' : (s.toList != s'.toList) = false := by simpa using hs
  clear hs
  have d0 : ((m : Int) != (m' : Int)) = true := by simp; omega
  have d0' : ((m : Int) == (m' : Int)) = false := by simp; omega
  have d1 : (m != m') = true := by simpa using h
  have d1' : (m == m') = false := by simpa using h
  clear h
  go_enter Try.func7, Try.ntmps7
  go_wp2_with fail
  go_quiet ((go_at_call 21; (first | exact quiet_left (rcanon_any _ _) | exact quiet_add_left (rcanon_any _ _))))
  go_wp2_with fail
  go_ret
  exact ⟨rfl, below_drewN (((Below.refl _ _).alloc (Nat.le_refl _) _).alloc (by simp) _) _⟩

set_option maxRecDepth 100000 in
theorem sm_yes (k n : Int) (b : Bool) (f f' : Nat) (s s' : ByteArray) (l l' : List T) (A A' : Option Addr) (cap cap' : Nat) (w : World) (ih : ∀ i (hi : i < l.length), SmAt l[i]) (hf : canonN f = canonN f') (hs : s.toList = s'.toList) (hm : l.length = l'.length)
    (hl : RdL w w.heap.size l A) (hl' : RdL w w.heap.size l' A') (hq : l.length ≤ 1954687338211) :
    Calls Try.prog 7 #[.agg #[.int .i64 k, .bool b, .int .i64 n, .float .f64 f, .string s, .slice A l.length cap], .agg #[.int .i64 k, .bool b, .int .i64 n, .float .f64 f', .string s', .slice A' l'.length cap']] w fun e w' => e = .returned (.bool (smL l l')) ∧ Below w.heap.size w w' := by
  have IH := Lib.hid ih; clear ih
  have e0 : ((canonN f : Int) != (canonN f' : Int)) = false := by simp; omega
  have e0' : ((canonN f : Int) == (canonN f' : Int)) = true := by simp; omega
  clear hf
  have e1 : (s.toList == s'.toList) = true := by simpa using hs
  have e1' : (s.toList != s'.toList) = false := by simpa using hs
  clear hs
  have e2 : ((l.length : Int) != (l'.length : Int)) = false := by simp; omega
  have e2' : ((l.length : Int) == (l'.length : Int)) = true := by simp; omega
  have e3 : (l.length != l'.length) = false := by simpa using hm
  have e3' : (l.length == l'.length) = true := by simpa using hm
  have Hm := Lib.hid hm; clear hm
  have HE := Lib.hid (show smL l l' = smL (l.drop 0) (l'.drop 0) by rfl)
  go_enter Try.func7, Try.ntmps7
  go_wp2_with fail
  go_quiet ((go_at_call 21; (first | exact quiet_left (rcanon_any _ _) | exact quiet_add_left (rcanon_any _ _))))
  go_wp2_with fail
  clear e0 e0' e1 e1' e2 e2' e3 e3'
  have hb2 := below_drewN (((Below.refl w.heap.size w).alloc (Nat.le_refl _) (.cells #[.int .i64 k, .bool b, .int .i64 n, .float .f64 f, .string s, .slice A l.length cap] 26)).alloc (by simp) (.cells #[.int .i64 k, .bool b, .int .i64 n, .float .f64 f', .string s', .slice A' l'.length cap'] 26)) nq
  go_loopw [5] (fun si wr => ∃ i : Nat, i ≤ l.length ∧ si = .int .i64 i ∧ Hid (smL l l' = smL (l.drop i) (l'.drop i)) ∧
      Below (w.heap.size + 2) (((w.alloc (.cells #[.int .i64 k, .bool b, .int .i64 n, .float .f64 f, .string s, .slice A l.length cap] 26)).alloc (.cells #[.int .i64 k, .bool b, .int .i64 n, .float .f64 f', .string s', .slice A' l'.length cap'] 26)).drewN nq) wr) (fun si _ => l.length - (intOf si).toNat)
  case atStart => exact ⟨0, by omega, rfl, HE, Below.refl _ _⟩
  case round =>
    obtain ⟨i, hi, rfl, HI, hbr⟩ := hrel
    have hb := hb2.trans (hbr.mono (Nat.le_add_right _ _))
    have hz : w.heap.size + 2 ≤ wr.heap.size := by have := hbr.size; simpa using this
    have hcell := hbr.cell (p := ⟨w.heap.size, 5, none⟩) (by simp)
    have hcell' := hbr.cell (p := ⟨w.heap.size + 1, 5, none⟩) (by simp)
    by_cases hlt : i < l.length
    · have hlt' : i < l'.length := by have := Hm.out; omega
      obtain ⟨a, k, b, n, f, s, q, D, capi, rfl, hab, -, hrd, e0, e1, e2, e3, e4, e5⟩ := (hl.on hb).item hlt
      obtain ⟨a', k', b', n', f', s', q', D', capi', rfl, hab', -, hrd', e0', e1', e2', e3', e4', e5'⟩ := (hl'.on hb).item hlt'
      have IHi := Lib.hid (IH.out i hlt)
      have HS : Hid (smL l l' = (smT l[i] l'[i] && smL (l.drop (i + 1)) (l'.drop (i + 1)))) := by rw [HI.out, List.drop_eq_getElem_cons hlt, List.drop_eq_getElem_cons hlt', smL]; rfl
      go_wp2_with fail
      go_still_tail 10, (by kernel_rfl)
      go_wp2_with fail
      refine (IHi.out _ _ _ _ (hrd.on ((Below.refl _ _).drew)) (hrd'.on ((Below.refl _ _).drew))).mono ?_
      rintro e w1 ⟨rfl, hb1⟩
      have hb3 := hbr.trans (((Below.refl wr.heap.size wr).drew.trans hb1).mono hz)
      have hb4 := hb2.trans (hb3.mono (Nat.le_add_right _ _))
      rcases hc0 : smT l[i] l'[i] with _ | _
      · have HS' : Hid (smL l l' = false) := by rw [HS.out, hc0]; rfl
        have Hc0 := Lib.hid hc0; clear hc0
        go_wp2_with fail
        go_ret
        exact ⟨ret_b HS'.out.symm, hb4⟩
      · have HS' : Hid (smL l l' = smL (l.drop (i + 1)) (l'.drop (i + 1))) := by rw [HS.out, hc0]; rfl
        have Hc0 := Lib.hid hc0; clear hc0
        go_wp2_with fail
        go_roundw
        case rel => exact ⟨i + 1, by omega, by go_num, HS', hb3⟩
        case measure => simp [intOf]; omega
    · have HS' : Hid (smL l l' = true) := by
        rw [HI.out, List.drop_eq_nil_of_le (by omega), List.drop_eq_nil_of_le (by have := Hm.out; omega)]; rfl
      go_wp2_with fail
      go_ret
      exact ⟨ret_b HS'.out.symm, hb⟩

theorem sm_at (a : T) : SmAt a := by
  induction a using T.ind with | h k b n f s l ih => _
  rintro ⟨k', b', n', f', s', l'⟩ v v' w h h'
  obtain ⟨A, cap, rfl, hk, hn, hf, hs, hc, hm, hA, hl⟩ := h.open
  obtain ⟨A', cap', rfl, hk', hn', hf', hs', hc', hm', hA', hl'⟩ := h'.open
  rw [smT]
  by_cases e0 : k = k'
  rotate_left
  · rw [show hdB k b n f s l.length k' b' n' f' s' l'.length = false by unfold hdB; simp [e0]]
    exact sm_k k k' n n' b b' f f' s s' _ _ A A' cap cap' w e0
  subst e0
  by_cases e1 : b = b'
  rotate_left
  · rw [show hdB k b n f s l.length k b' n' f' s' l'.length = false by unfold hdB; simp [e1]]
    cases b <;> cases b'
    · exact absurd rfl e1
    · exact sm_bf k k n n' f f' s s' _ _ A A' cap cap' w rfl
    · exact sm_bt k k n n' f f' s s' _ _ A A' cap cap' w rfl
    · exact absurd rfl e1
  subst e1
  by_cases e2 : n = n'
  rotate_left
  · rw [show hdB k b n f s l.length k b n' f' s' l'.length = false by unfold hdB; simp [e2]]
    exact sm_n k k n n' b b f f' s s' _ _ A A' cap cap' w rfl rfl e2
  subst e2
  by_cases e3 : canonN f = canonN f'
  rotate_left
  · rw [show hdB k b n f s l.length k b n f' s' l'.length = false by unfold hdB; simp [e3]]
    exact sm_f k k n n b b f f' s s' _ _ A A' cap cap' w rfl rfl rfl e3
  by_cases e4 : s.toList = s'.toList
  rotate_left
  · rw [show hdB k b n f s l.length k b n f' s' l'.length = false by unfold hdB; simp [e4]]
    exact sm_s k k n n b b f f' s s' _ _ A A' cap cap' w rfl rfl rfl e3 e4
  by_cases e5 : l.length = l'.length
  rotate_left
  · rw [show hdB k b n f s l.length k b n f' s' l'.length = false by unfold hdB; simp [e5]]
    exact sm_m k k n n b b f f' s s' _ _ A A' cap cap' w rfl rfl rfl e3 e4 e5
  rw [show hdB k b n f s l.length k b n f' s' l'.length = true by unfold hdB; simp [e3, e4, e5], Bool.true_and]
  exact sm_yes k n b f f' s s' l l' A A' cap cap' w ih e3 e4 e5 hl hl' hm.2

theorem rsame_any {a b : T} {v v' : Value} {w : World} (h : Rd w w.heap.size a v) (h' : Rd w w.heap.size b v') :
    Calls Try.prog 7 #[v, v'] w fun e w' => e = .returned (.bool (smT a b)) ∧ Below w.heap.size w w' := sm_at a b v v' w h h'

end Go.Proofs.Ytaonlbmicjoclaa

namespace Go.Proofs.Ytaonlbmicjoclaa
open Go.ChangeShapes Go.WideShapes Go.ChangeAt Go.RowKit

mutual
/-- how many values stand in one, counted up to so many -/
def wgh : T → Int → Int
  | .mk _ _ _ _ _ l, most => wghL l 1 most
def wghL : List T → Int → Int → Int
  | [], n, _ => n
  | t :: r, n, most => if n ≤ most then wghL r (n + wgh t (most - n)) most else n
end

theorem wgh_le (t : T) : ∀ most : Int, 0 ≤ most → 1 ≤ wgh t most ∧ wgh t most ≤ most + 1 := by
  refine T.ind (p := fun t => ∀ most : Int, 0 ≤ most → 1 ≤ wgh t most ∧ wgh t most ≤ most + 1) ?_ t
  intro k b n f s l ih most hm
  suffices hs : ∀ (r : List T) (n : Int), (∀ i (hi : i < r.length), ∀ most : Int, 0 ≤ most → 1 ≤ wgh r[i] most ∧ wgh r[i] most ≤ most + 1) → 1 ≤ n → n ≤ most + 1 → 1 ≤ wghL r n most ∧ wghL r n most ≤ most + 1 by
    rw [wgh]; exact hs l 1 ih (by omega) (by omega)
  intro r
  induction r with
  | nil => intro n _ h1 h2; rw [wghL]; exact ⟨h1, h2⟩
  | cons t r ihr =>
    intro n h h1 h2
    rw [wghL]
    split
    · have h0 := h 0 (by simp) (most - n) (by omega)
      simp only [List.getElem_cons_zero] at h0
      exact ihr _ (fun i hi => by have := h (i + 1) (by simpa using hi); simpa using this) (by omega) (by omega)
    · exact ⟨h1, h2⟩

theorem wghL_step {l : List T} {i : Nat} (hi : i < l.length) (n most : Int) : wghL (l.drop i) n most = if n ≤ most then wghL (l.drop (i + 1)) (n + wgh l[i] (most - n)) most else n := by
  rw [List.drop_eq_getElem_cons hi, wghL]

theorem wghL_end {l : List T} {i : Nat} (hi : l.length ≤ i) (n most : Int) : wghL (l.drop i) n most = n := by
  rw [List.drop_eq_nil_of_le hi, wghL]

theorem wghL_over {l : List T} {i : Nat} {n most : Int} (h : ¬ n ≤ most) : wghL (l.drop i) n most = n := by
  rcases hl : l.drop i with _ | ⟨t, r⟩
  · rw [wghL]
  · rw [wghL, if_neg h]

theorem weigh_any (t : T) : ∀ (v : Value) (most : Int) (w : World), Rd w w.heap.size t v → 0 ≤ most → most ≤ 3000 →
    Calls Try.prog 4 #[v, .int .i64 most] w fun e w' => e = .returned (.int .i64 (wgh t most)) ∧ Below w.heap.size w w' := by
  induction t using T.ind with | h k b n f s l ih => _
  intro v most w hr h0 h1
  obtain ⟨A, cap, rfl, hk, hn, hf, hs, hc, hm, hA, hl⟩ := hr.open
  have HW := Lib.hid (show wgh (.mk k b n f s l) most = wghL (l.drop 0) 1 most by rw [wgh]; rfl)
  have Hk := Lib.hid hk; have Hn := Lib.hid hn; have HA := Lib.hid hA
  clear hk hn hA hr
  have IH := Lib.hid ih; clear ih
  go_enter Try.func4, Try.ntmps4
  go_wp2_with fail
  go_loopw [5, 6] (fun sn si wr => ∃ (i : Nat) (m : Int), i ≤ l.length ∧ 1 ≤ m ∧ m ≤ most + 1 ∧ sn = .int .i64 m ∧ si = .int .i64 i ∧ Hid (wgh (.mk k b n f s l) most = wghL (l.drop i) m most) ∧
      Below (w.heap.size + 1) (w.alloc (.cells #[.int .i64 k, .bool b, .int .i64 n, .float .f64 f, .string s, .slice A l.length cap] 26)) wr) (fun _ si _ => l.length - (intOf si).toNat)
  case atStart => exact ⟨0, 1, by omega, by omega, by omega, rfl, rfl, HW, Below.refl _ _⟩
  case round =>
    obtain ⟨i, m, hi, hm1, hm2, rfl, rfl, HE, hb⟩ := hrel
    have hcell := hb.cell (p := ⟨w.heap.size, 5, none⟩) (by simp)
    have hb0 := bel1 hb
    have hsz := hb.size
    have hsz' : w.heap.size < wr.heap.size := by have := hb.size; simp at this; omega
    clear hsz
    by_cases hlt : i < l.length
    · obtain ⟨a, c0, c1, c2, c3, c4, c5, rfl, hab, hrd, e0, e1, e2, e3, e4, e5⟩ := (hl.on hb0).at_ hlt
      have ih := Lib.hid (IH.out i hlt)
      by_cases hmm : m ≤ most
      · go_wp2_with fail
        refine (ih.out _ _ _ hrd (by omega) (by omega)).mono ?_
        rintro e w' ⟨rfl, hb'⟩
        have hg := wgh_le l[i] (most - m) (by omega)
        have HS : Hid (wghL (l.drop i) m most = wghL (l.drop (i + 1)) (m + wgh l[i] (most - m)) most) := by rw [wghL_step hlt, if_pos hmm]; rfl
        generalize hgg : wgh l[i] (most - m) = g at *
        clear hgg
        obtain ⟨g1, g2⟩ := hg
        go_wp2
        go_roundw
        case rel => exact ⟨i + 1, m + g, by omega, by omega, by omega, rfl, by go_num, HE.out.trans HS.out, hb.trans (hb'.mono hsz')⟩
        case measure => simp [intOf]; omega
      · have hd : decide (m ≤ most) = false := by simpa using hmm
        go_wp2_with fail
        go_ret
        exact ⟨ret_int (by rw [HE.out, wghL_over (by omega)]), hb0⟩
    · go_wp2_with fail
      go_ret
      exact ⟨ret_int (by rw [HE.out, wghL_end (by omega)]), hb0⟩

end Go.Proofs.Ytaonlbmicjoclaa

namespace Go.Proofs.Ytaonlbmicjoclaa
open Go.ChangeShapes Go.WideShapes Go.ChangeAt Go.RowKit Go.Fl

def aT : T := .mk 2 false 5 0 ⟨#[]⟩ []
def bT : T := .mk 4 false 0 0 ⟨#[97]⟩ []
/-- the list of 5 and 'a' -/
def tA : T := .mk 5 false 0 0 ⟨#[]⟩ [aT, bT]

theorem chk_A : chkF tA = 0 := by
  have ha : chkT aT 2 = 0 := chk_mk (by decide) (shp_mk ⟨by decide, by decide, by decide, by decide, by decide, by decide, fun h => absurd empty_list h, by decide⟩) (by decide) (by decide) (by rw [chkL]) (fun h => absurd h (by decide))
  have hb : chkT bT 2 = 0 := chk_mk (by decide) (shp_mk ⟨by decide, by decide, by decide, by decide, by decide, by decide, fun _ => rfl, by decide⟩) (by decide) (by decide) (by rw [chkL]) (fun h => absurd h (by decide))
  have hL : chkL [aT, bT] 2 = 0 := by rw [chkL, chkL, chkL, ha, hb]; rfl
  have ht : chkT tA 1 = 0 := chk_mk (by decide) (shp_mk ⟨by decide, by decide, by decide, by decide, by decide, by decide, fun h => absurd empty_list h, by decide⟩) (by decide) (by decide) hL (fun h => absurd h (by decide))
  have h16 : tot tA = 16 := by
    unfold tA aT bT
    rw [tot, totL, totL, totL, tot, tot, totL]
    decide
  unfold chkF
  rw [h16, ht]
  decide

theorem add0 (g k : Nat) : (⟨g, 0, none⟩ : Addr).add k = ⟨g, k, none⟩ := by unfold Addr.add; split <;> simp_all

/-- a new row of two values -/
theorem pair_list {w : World} {ta tb : T} {a0 a1 a2 a3 a4 a5 b0 b1 b2 b3 b4 b5 : Value} (ha : Rd w w.heap.size ta (.agg #[a0, a1, a2, a3, a4, a5])) (hb : Rd w w.heap.size tb (.agg #[b0, b1, b2, b3, b4, b5])) :
    RdL (w.alloc (.cells #[a0, a1, a2, a3, a4, a5, b0, b1, b2, b3, b4, b5] 26)) (w.alloc (.cells #[a0, a1, a2, a3, a4, a5, b0, b1, b2, b3, b4, b5] 26)).heap.size [ta, tb] (some ⟨w.heap.size, 0, none⟩) := by
  have hB := Blk.new w 26 #[a0, a1, a2, a3, a4, a5, b0, b1, b2, b3, b4, b5]
  have hbel := (Below.refl w.heap.size w).alloc (Nat.le_refl _) (.cells #[a0, a1, a2, a3, a4, a5, b0, b1, b2, b3, b4, b5] 26)
  intro i hi
  have hi2 : i < 2 := hi
  match i, hi2 with
  | 0, _ =>
    refine ⟨_, _, rfl, ⟨Nat.zero_le _, by simp⟩, fun j u hu => ?_, ha.on hbel⟩
    rw [add0, hB.cell]
    have hj : j < 6 := by have := (Array.getElem?_eq_some_iff.1 hu).1; simpa [Value.cells] using this
    match j, hj with
    | 0, _ => simpa [Value.cells] using hu
    | 1, _ => simpa [Value.cells] using hu
    | 2, _ => simpa [Value.cells] using hu
    | 3, _ => simpa [Value.cells] using hu
    | 4, _ => simpa [Value.cells] using hu
    | 5, _ => simpa [Value.cells] using hu
  | 1, _ =>
    refine ⟨_, _, rfl, ⟨Nat.zero_le _, by simp⟩, fun j u hu => ?_, hb.on hbel⟩
    rw [add0, hB.cell]
    have hj : j < 6 := by have := (Array.getElem?_eq_some_iff.1 hu).1; simpa [Value.cells] using this
    match j, hj with
    | 0, _ => simpa [Value.cells] using hu
    | 1, _ => simpa [Value.cells] using hu
    | 2, _ => simpa [Value.cells] using hu
    | 3, _ => simpa [Value.cells] using hu
    | 4, _ => simpa [Value.cells] using hu
    | 5, _ => simpa [Value.cells] using hu

theorem cmp_1 : cmpT (.mk 2 false 1 0 ⟨#[]⟩ []) (.mk 3 false 0 (canonN 4607182418800017408) ⟨#[]⟩ []) < 0 := by
  rw [cmpT]
  decide +kernel

set_option maxHeartbeats 1000000 in
set_option maxRecDepth 100000 in
theorem awake_any (w : World) : Calls Try.prog 5 #[] w fun e w' => e = .returned (.bool true) ∧ Below w.heap.size w w' := by
  obtain ⟨S, hS⟩ : ∃ S, (⟨(bys tA).toArray⟩ : ByteArray) = S := ⟨_, rfl⟩
  have hp : putV tA = .tuple #[.string S, .int .i64 0] := by unfold putV; rw [if_pos chk_A, hS]
  have hS2 : bst (bys tA ++ []) = S := by rw [List.append_nil]; exact hS
  have hsz : S.size = (bys tA).length := by rw [← hS]; exact bst_size _
  have hbt := bys_tot tA
  have ht16 := (chkF_parts chk_A).1
  obtain ⟨m, hm⟩ : ∃ m, (bys tA).length = m := ⟨_, rfl⟩
  have hm6 : S.size ≤ 140737488351000 := by omega
  have hget := fun W (h : ∃ w B v, Rd w B tA v) => vget_any h chk_A [] S W hS2 hm6
  have hcn : cnT tA = .mk 5 false 0 0 ⟨#[]⟩ [aT, bT] := by unfold tA aT bT; rw [cnT, cnL, cnL, cnL, cnT, cnT, cnL, canon0]
  have hsm : S.size = m := by omega
  rw [hm, hcn] at hget
  have hc1 := cmp_1
  obtain ⟨z, hz⟩ : ∃ z, cmpT (.mk 2 false 1 0 ⟨#[]⟩ []) (.mk 3 false 0 (canonN 4607182418800017408) ⟨#[]⟩ []) = z := ⟨_, rfl⟩
  rw [hz] at hc1
  have hd : decide (z < 0) = true := by simpa using hc1
  have Hp := Lib.hid hp; have Hget := Lib.hid hget; have Hz := Lib.hid hz
  obtain rfl : m = S.size := hsm.symm
  clear hS hp hS2 hsz hbt ht16 hm hget hcn hc1 hz hsm
  go_enter Try.func5, Try.ntmps5
  go_wp2_with fail
  refine (vint_any 5 _).mono ?_
  rintro e w1 ⟨rfl, hb1⟩
  go_wp2_with fail
  refine (vtext_any ⟨#[97]⟩ _).mono ?_
  rintro e w2 ⟨rfl, hb2⟩
  unfold valV
  go_wp2_with fail
  refine (vlist_any (l := [aT, bT]) (pair_list (RdX.leaf _ _ _ 2 false 5 0 ⟨#[]⟩ (by decide) (by decide) (by decide) (by decide)) (RdX.leaf _ _ _ 4 false 0 0 ⟨#[97]⟩ (by decide) (by decide) (by decide) (by decide))) (by decide)).mono ?_
  rintro e w3 ⟨v', rfl, hv', hb3⟩
  have hba := hb1.trans (hb2.mono hb1.size)
  have hba3 := (hba.alloc hba.size (.cells #[.int .i64 2, .bool false, .int .i64 5, .float .f64 0, .string ⟨#[]⟩, .slice none 0 0, .int .i64 4, .bool false, .int .i64 0, .float .f64 0, .string ⟨#[97]⟩, .slice none 0 0] 26))
  have hbb := hba3.trans (hb3.mono hba3.size)
  clear hb1 hb2 hb3 hba hba3
  have hv0 := hv'
  obtain ⟨A0, cap0, rfl, -⟩ := hv0.open
  have HV := Lib.hid (show Rd w3 w3.heap.size tA _ from hv'.up (Nat.zero_le _) (Nat.le_refl _))
  clear hv' hv0
  go_wp2_with fail
  refine (vput_any HV.out).mono ?_
  rw [Hp.out]
  rintro e w4 ⟨rfl, hb4⟩
  go_wp2_with fail
  refine (Hget.out _ ⟨_, _, _, HV.out⟩).mono ?_
  rintro e w5 ⟨v5, rfl, hv5, hb5⟩
  have hbc := (hbb.trans (hb4.mono hbb.size))
  have hbd := hbc.trans (hb5.mono hbc.size)
  obtain ⟨A, cap, rfl, -, -, -, -, -, -, -, hl⟩ := hv5.open
  obtain ⟨a, k, b, n, f, s, q, D, capi, rfl, hab, hx, hrd, e0, e1, e2, e3, e4, e5⟩ := hl.item (i := 0) (by decide)
  obtain ⟨rfl, rfl, rfl, rfl, rfl, rfl⟩ : k = 2 ∧ b = false ∧ n = 5 ∧ f = 0 ∧ s = ⟨#[]⟩ ∧ q = [] := by
    have : aT = .mk k b n f s q := hx
    unfold aT at this
    simp only [T.mk.injEq] at this
    exact ⟨this.1.symm, this.2.1.symm, this.2.2.1.symm, this.2.2.2.1.symm, this.2.2.2.2.1.symm, this.2.2.2.2.2.symm⟩
  have ha0 : a.add (0 * 6) = a := by simp [Addr.add]
  rw [ha0] at e2
  have c2 : (w5.alloc (.cells #[.int .i64 5, .bool false, .int .i64 0, .float .f64 0, .string ⟨#[]⟩, .slice (some a) 2 cap] 26)).cell? ⟨a.block, a.off + 2, none⟩ = some (.int .i64 5) :=
    ((Below.refl w5.heap.size w5).alloc (Nat.le_refl _) _).cell (p := ⟨a.block, a.off + 2, none⟩) (World.block_lt_of_cell? w5 _ e2) |>.trans e2
  clear ha0
  clear e0 e1 e2 e3 e4 e5 hx hrd hl hv5 hb4 hb5 hbb hbc
  go_wp2_with fail
  refine (vint_any 1 _).mono ?_
  rintro e w6 ⟨rfl, hb6⟩
  go_wp2_with fail
  refine (vfloat_any 4607182418800017408 _).mono ?_
  rintro e w7 ⟨rfl, hb7⟩
  go_wp2_with fail
  refine (vcmp_any (RdX.leaf _ _ _ 2 false 1 0 ⟨#[]⟩ (by decide) (by decide) (by decide) (by decide)) (RdX.leaf _ _ _ 3 false 0 (canonN 4607182418800017408) ⟨#[]⟩ (by decide) (by decide) (by decide) (by decide))).mono ?_
  rw [Hz.out]
  rintro e w8 ⟨rfl, hb8⟩
  go_wp2_with fail
  go_ret
  have hbe := hbd.alloc hbd.size (.cells #[.int .i64 5, .bool false, .int .i64 0, .float .f64 0, .string ⟨#[]⟩, .slice (some a) 2 cap] 26)
  have hbf := hbe.trans (hb6.mono hbe.size)
  have hbg := hbf.trans (hb7.mono hbf.size)
  exact ⟨rfl, hbg.trans (hb8.mono hbg.size)⟩

end Go.Proofs.Ytaonlbmicjoclaa

namespace Go.Proofs.Ytaonlbmicjoclaa
open Go.ChangeShapes Go.WideShapes Go.ChangeAt Go.RowKit Go.Fl Go.Deep

section
variable {H : Type} {enc : TypeId × Value → H} {w : World} {spare : Nat → Bool} {held : Bool}

set_option maxRecDepth 100000 in
/-- a list of values that came in -/
theorem open_vals {v : Value} {b0 : Nat} {d : DataW H} {p : List MemPlace} (hv : Value.okWide Try.prog w .any b0 22 v) (h : DataW.Trod enc Try.prog w 0 spare held 22 v d p) (hw : ∀ x ∈ d.weights Try.prog 22, x ≤ reachBytes) :
    ∃ (l : List T) (A : Option Addr) (c : Nat), v = .slice A l.length c ∧ RdL w w.heap.size l A ∧ l.length ≤ 9223372036854775807 := by
  obtain ⟨a0, len, cap, rfl⟩ := okWide_slice Try.underlying22 hv
  obtain ⟨fuel, hf⟩ := h
  have hf' : DataW.trod enc Try.prog w 0 spare held fuel 22 [.slice a0 len cap] = some (d, p) := hf
  rcases open_slice Try.underlying22 hf' with ⟨he, -⟩ | ⟨a, len', cap', m', n2, D, Pl, he, -, hl, hm, hmm, hdd, hi⟩
  · simp only [List.cons.injEq, and_true, Value.slice.injEq] at he
    obtain ⟨rfl, rfl, rfl⟩ := he
    exact ⟨[], none, 0, rfl, fun i hi => absurd hi (Nat.not_lt_zero _), by simp⟩
  · simp only [List.cons.injEq, and_true, Value.slice.injEq] at he
    obtain ⟨rfl, rfl, rfl⟩ := he
    rw [cells_value] at hi
    have hle : len ≤ m' := by rw [hmm]; split <;> omega
    simp only [Prod.mk.injEq] at hdd
    rw [hdd.1, DataW.weights, Try.underlying22] at hw
    simp only [List.mem_cons, List.mem_append] at hw
    have hel : ∀ i, i < len → ∃ (tv : T × Value), (∀ j u, tv.2.cells[j]? = some u → w.cell? (a.add (i * 6 + j)) = some u) ∧ Rd w w.heap.size tv.1 tv.2 ∧ a.block < w.heap.size := by
      intro i hil
      obtain ⟨cs', hcs, htr⟩ := hi i (by omega)
      obtain ⟨_, hcl', hcell⟩ := World.cells?_some hcs
      have hmem : D i ∈ (List.range len).map D := List.mem_map.2 ⟨i, List.mem_range.2 hil, rfl⟩
      obtain ⟨t, v, hv', hr⟩ := open_trod _ (D i) (Nat.lt_succ_self _) n2 cs' (Pl i) htr (fun x hx => hw x (.inr (.inl (weights_mem_all hmem x hx))))
      obtain ⟨k, b, n, f, s, q⟩ := t
      obtain ⟨A', cp, e, -⟩ := hr.open
      subst e
      have hc : ∀ j u, (Value.agg #[.int .i64 k, .bool b, .int .i64 n, .float .f64 f, .string s, .slice A' q.length cp]).cells[j]? = some u → w.cell? (a.add (i * 6 + j)) = some u := by
        intro j u hu
        have hu' : cs'[j]? = some u := by rw [hv', Array.getElem?_toList]; exact hu
        have hj : j < 6 := by have := (List.getElem?_eq_some_iff.1 hu').1; omega
        rw [← Go.Deep.add_add, hcell j hj, hu']
      refine ⟨(_, _), hc, hr, ?_⟩
      have h0 := hc 0 _ rfl
      have := World.block_lt_of_cell? w _ h0
      rwa [add_block] at this
    obtain ⟨TV, hTV⟩ := @choose_lt (T × Value) ⟨(.mk 0 false 0 0 ByteArray.empty [], .bool false)⟩ len _ hel
    have hll : ((List.range len).map fun i => (TV i).1).length = len := by simp
    unfold maxLen at hm
    refine ⟨(List.range len).map fun i => (TV i).1, some a, cap, by rw [hll], fun i hi' => ?_, by rw [hll]; omega⟩
    rw [hll] at hi'
    obtain ⟨h1, h2, h3⟩ := hTV i hi'
    exact ⟨a, (TV i).2, rfl, ⟨Nat.zero_le _, h3⟩, h1, by simp only [List.getElem_map, List.getElem_range]; exact h2⟩
end

mutual
theorem smT_same : ∀ t : T, smT t t = true
  | .mk k b n f s l => by rw [smT, smL_same l]; unfold hdB; simp
theorem smL_same : ∀ l : List T, smL l l = true
  | [] => rfl
  | t :: r => by rw [smL, smT_same t, smL_same r]; rfl
end

theorem prs_flat : ∀ l : List (T × T), prs (flat l) = l
  | [] => rfl
  | p :: r => by rw [flat, prs, prs_flat r]

/-- what has been laid, going down from the last pair -/
def downF (q : List T) (r : Nat) : List T := flat ((prs q).drop r).reverse

theorem downF_step {q : List T} {r : Nat} {ka va : T} (h : (prs q)[r]? = some (ka, va)) : downF q r = downF q (r + 1) ++ [ka, va] := by
  unfold downF
  have hr := (List.getElem?_eq_some_iff.1 h)
  rw [List.drop_eq_getElem_cons hr.1, List.reverse_cons, flat_app, hr.2]
  rfl

theorem downF_len (q : List T) (r : Nat) : (downF q r).length = 2 * ((prs q).length - r) := by
  unfold downF
  rw [flat_len, List.length_reverse, List.length_drop]

/-- keys from b on are unlike all ahead of them -/
def UnlF (q : List T) (r : Nat) : Prop := ∀ b a (hb : b < (prs q).length), r ≤ b → (ha : a < b) → cmpT ((prs q)[b]).1 ((prs q)[a]'(by omega)).1 ≠ 0

theorem unlF_all {q : List T} (h : UnlF q 0) : Unl (prs q) := by
  unfold Unl
  rw [List.pairwise_iff_getElem]
  intro i j hi hj hij e
  exact h j i hj (Nat.zero_le _) hij (by rw [cmp_flip, e]; rfl)

/-- six cells of a box, in a world that has grown -/
theorem box_keep {W w w' : World} {g : Nat} {a0 a1 a2 a3 a4 a5 : Value} (hb : Below w.heap.size w w')
    (H : (w.cell? ⟨g, 0, none⟩ = some a0 ∧ w.cell? ⟨g, 1, none⟩ = some a1 ∧ w.cell? ⟨g, 2, none⟩ = some a2 ∧ w.cell? ⟨g, 3, none⟩ = some a3 ∧ w.cell? ⟨g, 4, none⟩ = some a4 ∧ w.cell? ⟨g, 5, none⟩ = some a5) ∧ Below W.heap.size W w) :
    (w'.cell? ⟨g, 0, none⟩ = some a0 ∧ w'.cell? ⟨g, 1, none⟩ = some a1 ∧ w'.cell? ⟨g, 2, none⟩ = some a2 ∧ w'.cell? ⟨g, 3, none⟩ = some a3 ∧ w'.cell? ⟨g, 4, none⟩ = some a4 ∧ w'.cell? ⟨g, 5, none⟩ = some a5) ∧ Below W.heap.size W w' := by
  have k : ∀ {p : Addr} {u : Value}, w.cell? p = some u → w'.cell? p = some u := fun h => (hb.cell (World.block_lt_of_cell? w _ h)).trans h
  obtain ⟨⟨h0, h1, h2, h3, h4, h5⟩, hB⟩ := H
  exact ⟨⟨k h0, k h1, k h2, k h3, k h4, k h5⟩, hB.trans (hb.mono hB.size)⟩

/-- one value appended to a row -/
theorem RV.app1 {W : World} {B N : Nat} {p0 : Option Addr} {n c : Nat} {l : List T} (h : RV W B N (.slice p0 n c) l) (hn : n ≤ 100) {t : T} {x0 x1 x2 x3 x4 x5 : Value} (r : RdS W (fun b => b < B) t (.agg #[x0, x1, x2, x3, x4, x5])) :
    ∃ p c' w', (∀ ty, (Builtin.append_ #[22, 22] ty #[.slice p0 n c, .slice (some ⟨W.heap.size, 0, none⟩) 1 1]).run Try.prog (W.alloc (.cells #[x0, x1, x2, x3, x4, x5] 26)) = .ok (.slice (some ⟨p, 0, none⟩) (n + 1) c') w') ∧ RV w' B N (.slice (some ⟨p, 0, none⟩) (n + 1) c') (l ++ [t]) ∧ Below N W w' := by
  have hb : Below W.heap.size W (W.alloc (.cells #[x0, x1, x2, x3, x4, x5] 26)) := (Below.refl _ W).alloc (Nat.le_refl _) _
  have hBW : B ≤ W.heap.size := Nat.le_trans h.2.1 h.2.2
  have e1 := r.keepS (w' := W.alloc (.cells #[x0, x1, x2, x3, x4, x5] 26)) (S' := fun b => b < B) (fun q hq => World.cell?_of_block (hb.block _ (Nat.lt_of_lt_of_le hq hBW))) (fun _ h => h)
  obtain ⟨p, c', w', hr, R1, b1, -⟩ := (h.on hb).app (by have := h.src.1; exact this) (CellsT.one e1) (fun u hu => e1.one.2 u hu) ⟨W.heap.size, 0, none⟩ (m := 1) 1 rfl (fun j u hj => by
    rw [adr_add, Nat.zero_add, cell_of_row _ _ _ _ _ _ (heap_alloc_new W _), ← Array.getElem?_toList]
    exact hj) (k := n + 1) rfl (by omega)
  obtain ⟨g, rfl⟩ := R1.ptr (by omega)
  exact ⟨g, c', w', hr, R1, (hb.mono h.2.2).trans b1⟩

/-- two values appended to a row -/
theorem RV.app2 {W : World} {B N : Nat} {p0 : Option Addr} {n c : Nat} {l : List T} (h : RV W B N (.slice p0 n c) l) (hn : n ≤ 100) {t u : T} {x0 x1 x2 x3 x4 x5 y0 y1 y2 y3 y4 y5 : Value} (r : RdS W (fun b => b < B) t (.agg #[x0, x1, x2, x3, x4, x5])) (r' : RdS W (fun b => b < B) u (.agg #[y0, y1, y2, y3, y4, y5])) :
    ∃ p c' w', (∀ ty, (Builtin.append_ #[22, 22] ty #[.slice p0 n c, .slice (some ⟨W.heap.size, 0, none⟩) 2 2]).run Try.prog (W.alloc (.cells #[x0, x1, x2, x3, x4, x5, y0, y1, y2, y3, y4, y5] 26)) = .ok (.slice (some ⟨p, 0, none⟩) (n + 2) c') w') ∧ RV w' B N (.slice (some ⟨p, 0, none⟩) (n + 2) c') (l ++ [t, u]) ∧ Below N W w' := by
  have hb : Below W.heap.size W (W.alloc (.cells #[x0, x1, x2, x3, x4, x5, y0, y1, y2, y3, y4, y5] 26)) := (Below.refl _ W).alloc (Nat.le_refl _) _
  have hBW : B ≤ W.heap.size := Nat.le_trans h.2.1 h.2.2
  have e1 := r.keepS (w' := W.alloc (.cells #[x0, x1, x2, x3, x4, x5, y0, y1, y2, y3, y4, y5] 26)) (S' := fun b => b < B) (fun q hq => World.cell?_of_block (hb.block _ (Nat.lt_of_lt_of_le hq hBW))) (fun _ h => h)
  have e2 := r'.keepS (w' := W.alloc (.cells #[x0, x1, x2, x3, x4, x5, y0, y1, y2, y3, y4, y5] 26)) (S' := fun b => b < B) (fun q hq => World.cell?_of_block (hb.block _ (Nat.lt_of_lt_of_le hq hBW))) (fun _ h => h)
  obtain ⟨p, c', w', hr, R1, b1, -⟩ := (h.on hb).app (by have := h.src.1; exact this) ((CellsT.one e1).app (CellsT.one e2)) (by
    intro u hu
    rcases List.mem_append.1 hu with hu | hu
    · exact e1.one.2 u hu
    · exact e2.one.2 u hu) ⟨W.heap.size, 0, none⟩ (m := 2) 2 rfl (fun j u hj => by
    rw [adr_add, Nat.zero_add, cell_of_row _ _ _ _ _ _ (heap_alloc_new W _), ← Array.getElem?_toList]
    exact hj) (k := n + 2) rfl (by omega)
  obtain ⟨g, rfl⟩ := R1.ptr (by omega)
  exact ⟨g, c', w', hr, R1, (hb.mono h.2.2).trans b1⟩

end Go.Proofs.Ytaonlbmicjoclaa

namespace Go.Proofs.Ytaonlbmicjoclaa
open Go.ChangeShapes Go.WideShapes Go.ChangeAt Go.RowKit Go.Fl


theorem wrap_start {i r : Nat} (h : r = i / 2) (hi : i ≤ 12) : wrap64 (wrap64 (wrap64 ((i : Int) / 2) * 2) - 2) = 2 * (r : Int) - 2 := by
  have h1 : wrap64 ((i : Int) / 2) = (r : Int) := by rw [wrap64_id (by rw [is64_iff]; omega)]; omega
  have h2 : wrap64 ((r : Int) * 2) = 2 * (r : Int) := by rw [wrap64_id (by rw [is64_iff]; omega)]; omega
  rw [h1, h2, wrap64_id (by rw [is64_iff]; omega)]

theorem wrap_down {e s : Nat} (h : e = 2 * s) (hi : e ≤ 12) : wrap64 ((e : Int) - 2) = 2 * (s : Int) - 2 := by
  rw [wrap64_id (by rw [is64_iff]; omega)]; omega

theorem downF_top (q : List T) : downF q (prs q).length = [] := by unfold downF; rw [List.drop_length]; rfl

theorem unlF_top (q : List T) : UnlF q (prs q).length := fun _ _ hb h => absurd hb (Nat.not_lt.2 h)

theorem unlF_step {q : List T} {s : Nat} {ka va : T} (h : UnlF q (s + 1)) (hs : (prs q)[s]? = some (ka, va)) (hk : ∀ a p, a < s → (prs q)[a]? = some p → cmpT ka p.1 ≠ 0) : UnlF q s := by
  intro b a hb hsb hab
  rcases Nat.lt_or_ge s b with hlt | hge
  · exact h b a hb hlt hab
  · obtain rfl : s = b := by omega
    have := (List.getElem?_eq_some_iff.1 hs).2
    rw [this]
    exact hk a _ hab (List.getElem?_eq_getElem (by omega))

/-- one value of a row -/
theorem RV.item {w : World} {B N g n c : Nat} {l : List T} (h : RV w B N (.slice (some ⟨g, 0, none⟩) n c) l) {i : Nat} (hi : i < l.length) :
    ∃ k b n' f s q D c', RdS w (fun b => b < B) l[i] (.agg #[.int .i64 k, .bool b, .int .i64 n', .float .f64 f, .string s, .slice D q c']) ∧ Rd w w.heap.size l[i] (.agg #[.int .i64 k, .bool b, .int .i64 n', .float .f64 f, .string s, .slice D q c']) ∧
      w.cell? ⟨g, i * 6, none⟩ = some (.int .i64 k) ∧ w.cell? ⟨g, i * 6 + 1, none⟩ = some (.bool b) ∧ w.cell? ⟨g, i * 6 + 2, none⟩ = some (.int .i64 n') ∧ w.cell? ⟨g, i * 6 + 3, none⟩ = some (.float .f64 f) ∧ w.cell? ⟨g, i * 6 + 4, none⟩ = some (.string s) ∧ w.cell? ⟨g, i * 6 + 5, none⟩ = some (.slice D q c') := by
  obtain ⟨hl, hnc, xs, hxs, -, hxl, hsrc⟩ := h.src
  have hBw : B ≤ w.heap.size := Nat.le_trans h.2.1 h.2.2
  obtain ⟨hx, hc⟩ := hxs
  obtain ⟨v, h1, h2⟩ := hc i (by omega)
  obtain ⟨t, ht⟩ : ∃ t, l[i] = t := ⟨_, rfl⟩
  rw [ht] at h2 ⊢
  obtain ⟨k, b, n', f, s, q⟩ := t
  obtain ⟨A', cap, e, -⟩ := h2.open
  subst e
  have hcells : (Value.agg #[.int .i64 k, .bool b, .int .i64 n', .float .f64 f, .string s, .slice A' q.length cap]).cells = #[.int .i64 k, .bool b, .int .i64 n', .float .f64 f, .string s, .slice A' q.length cap] := rfl
  have hcell : ∀ j u, xs[j]? = some u → w.cell? ⟨g, j, none⟩ = some u := by
    rcases hsrc with ⟨e, -⟩ | ⟨g', e, -, h3⟩
    · cases e
    · cases e; exact h3
  have hg : ∀ j u, (#[Value.int .i64 k, .bool b, .int .i64 n', .float .f64 f, .string s, .slice A' q.length cap])[j]? = some u → w.cell? ⟨g, i * 6 + j, none⟩ = some u := fun j u hu => hcell _ _ (h1 j u (by rw [hcells]; exact hu)).2
  exact ⟨k, b, n', f, s, q.length, A', cap, h2, h2.keepS (fun _ _ => rfl) (fun b hb => ⟨Nat.zero_le _, Nat.lt_of_lt_of_le hb hBw⟩), hg 0 _ rfl, hg 1 _ rfl, hg 2 _ rfl, hg 3 _ rfl, hg 4 _ rfl, hg 5 _ rfl⟩

set_option maxHeartbeats 8000000 in
set_option maxRecDepth 100000 in
theorem maps_any (l : List T) (A : Option Addr) (cap : Nat) (w : World) (h : RdL w w.heap.size l A) (hl : l.length ≤ 9223372036854775807) :
    Calls Try.prog 3 #[.slice A l.length cap] w fun e w' => e = .returned (.bool true) ∧ Below w.heap.size w w' := by
  obtain ⟨m, hm⟩ : ∃ m, l.length = m := ⟨_, rfl⟩
  have H := Lib.hid h; have HM := Lib.hid hm
  rw [hm] at hl ⊢
  have hmade := RV.made w (B := w.heap.size) (Nat.le_refl _)
  have hb0 := (Below.refl w.heap.size w).alloc (Nat.le_refl _) (.cells #[] 26)
  have HMD := Lib.hid hmade; have HB1 := Lib.hid hb0; have HML := Lib.hid hl
  clear h hm hmade hb0 hl
  go_enter Try.func3, Try.ntmps3
  go_wp2_with fail
  go_loopg [3, 4] m (fun g ov iv wr => ∃ (i c G : Nat), ov = .slice (some ⟨G, 0, none⟩) i c ∧ iv = .int .i64 i ∧ m - i ≤ g ∧ Hid (i ≤ m ∧ i ≤ 12) ∧ Hid (RV wr w.heap.size w.heap.size (.slice (some ⟨G, 0, none⟩) i c) (l.take i)) ∧ Hid (Below w.heap.size w wr))
  case atStart => exact ⟨0, 0, w.heap.size, rfl, rfl, by omega, Lib.hid ⟨Nat.zero_le _, Nat.zero_le _⟩, HMD, HB1⟩
  case round =>
    obtain ⟨i, c, G, rfl, rfl, hg, HI, HRV, HBR⟩ := hrel
    clear HMD HB1
    by_cases hlt : i < m ∧ i < 12
    · obtain ⟨hlt, h12⟩ := hlt
      have hil : i < l.length := by rw [HM.out]; exact hlt
      obtain ⟨i1, hi1⟩ : ∃ i1, i + 1 = i1 := ⟨_, rfl⟩
      have HI1 := Lib.hid hi1
      have hlz : (i : Int) < (m : Int) := by omega
      have hlz12 : (i : Int) < 12 := by omega
      obtain ⟨a, k1, b1, n1, f1, s1, q1, D1, c1, rfl, -, -, hr1, hs1⟩ := H.out.item hil
      obtain ⟨u0, u1, u2, u3, u4, u5⟩ := hs1.on HBR.out
      obtain ⟨xi, hxi⟩ : ∃ xi, l[i] = xi := ⟨_, rfl⟩
      have HTK : Hid (l.take i1 = l.take i ++ [xi]) := Lib.hid (by rw [← hi1, List.take_succ_eq_append_getElem hil, hxi])
      rw [hxi] at hr1
      have Hr1 := Lib.hid hr1; have Hs1 := Lib.hid hs1
      have HI1M : Hid (i1 ≤ m ∧ i1 ≤ 12) := Lib.hid (by omega)
      have HMS : Hid (m - i1 < m - i) := Lib.hid (by omega)
      obtain ⟨z, hz⟩ : ∃ z, wgh xi 50 = z := ⟨_, rfl⟩
      have HZ := Lib.hid hz
      have hinc : wrap64 ((i : Int) + 1) = (i1 : Int) := wrap_next hi1 (by omega)
      have HINC := Lib.hid hinc
      clear hr1 hs1 hz hlt h12 hi1 hinc hxi
      go_wp2_with fail
      refine (weigh_any _ _ 50 _ (Hr1.out.on HBR.out) (by decide) (by decide)).mono ?_
      rw [HZ.out]
      rintro e w1 ⟨rfl, hb1⟩
      have HB1 := Lib.hid hb1
      clear hb1
      obtain hzz | hzz : decide (50 < z) = true ∨ decide (50 < z) = false := by cases decide (50 < z) <;> simp
      · go_wp2_with fail
        refine (awake_any _).mono ?_
        rintro e w2 ⟨rfl, hb2⟩
        have HB2 : Hid (Below w.heap.size w w2) := Lib.hid (HBR.out.trans ((HB1.out.trans (hb2.mono HB1.out.size)).mono HBR.out.size))
        clear hb2
        go_wp2_with fail
        go_ret
        exact ⟨rfl, HB2.out⟩
      · clear u0 u1 u2 u3 u4 u5
        obtain ⟨u0, u1, u2, u3, u4, u5⟩ := (Hs1.out.on HBR.out).on HB1.out
        have hap := (HRV.out.on HB1.out).app1 (by have := HI.out; omega) (Hr1.out.keepS (w' := w1) (S' := fun b => b < w.heap.size) (fun p hp => (HBR.out.trans (HB1.out.mono HBR.out.size)).cell hp.2) (fun b hb => hb.2))
        obtain ⟨p, c', w2, hr, R2, B2⟩ := hap
        have HR2 : Hid (RV w2 w.heap.size w.heap.size (.slice (some ⟨p, 0, none⟩) i1 c') (l.take i1)) := Lib.hid (by
          rw [HTK.out, ← HI1.out]; exact R2)
        have HB2 : Hid (Below w.heap.size w w2) := Lib.hid ((HBR.out.trans (HB1.out.mono HBR.out.size)).trans B2)
        have hr' : ∀ ty, (Builtin.append_ #[22, 22] ty #[.slice (some ⟨G, 0, none⟩) i c, .slice (some ⟨w1.heap.size, 0, none⟩) 1 1]).run Try.prog (w1.alloc (.cells #[.int .i64 k1, .bool b1, .int .i64 n1, .float .f64 f1, .string s1, .slice D1 q1.length c1] 26)) = .ok (.slice (some ⟨p, 0, none⟩) i1 c') w2 := fun ty => by rw [← HI1.out]; exact hr ty
        clear hr R2 B2
        go_wp2_with (first | (at_builtin; refine Lib.wpList_append_run _ rfl _ _ _ _ rfl _ _ rfl rfl _ _ (hr' _) ?_) | fail)
        go_roundg (m - i1)
        case measure => exact Nat.lt_of_lt_of_le HMS.out hg
        case rel => exact ⟨i1, c', p, rfl, by have := HI1.out; congr 1; omega, Nat.le_refl _, HI1M, HR2, HB2⟩
    · rename World => w0
      have hex : ¬ (i : Int) < (m : Int) ∨ ((i : Int) < (m : Int) ∧ ¬ (i : Int) < 12) := by omega
      clear hlt hg
      obtain ⟨K, hK⟩ : ∃ K, l.take i = K := ⟨_, rfl⟩
      rw [hK] at HRV
      obtain ⟨hKl, -, -, -, hrl⟩ := HRV.out.list
      have hi12 : i ≤ 12 := HI.out.2
      have HKL := Lib.hid hKl
      have HRL := Lib.hid hrl
      have HI12 := Lib.hid hi12
      obtain ⟨M, hM⟩ : ∃ M, T.mk 6 false 0 0 ⟨#[]⟩ (flat (mapR (prs K))) = M := ⟨_, rfl⟩
      have HMM := Lib.hid hM
      have HC6 : Hid (∀ W, Below w0.heap.size w0 W → Calls Try.prog 6 #[.slice (some ⟨G, 0, none⟩) i c] W fun e w' => ∃ q D cp, e = .returned (.agg #[.int .i64 6, .bool false, .int .i64 0, .float .f64 0, .string ⟨#[]⟩, .slice D q cp]) ∧ Rd w' w'.heap.size M (.agg #[.int .i64 6, .bool false, .int .i64 0, .float .f64 0, .string ⟨#[]⟩, .slice D q cp]) ∧ Below W.heap.size W w') := Lib.hid (fun W hW => by
        have hc := map_any K (some ⟨G, 0, none⟩) c W (HRL.out.on hW) (by rw [HKL.out]; exact HI12.out)
        rw [HKL.out, HMM.out] at hc
        refine hc.mono ?_
        rintro e w' ⟨v, rfl, hr, hb⟩
        have hr' := hr
        rw [← HMM.out] at hr
        obtain ⟨D, cp, rfl, -⟩ := hr.open
        exact ⟨_, D, cp, rfl, hr', hb⟩)
      have HC8 : Hid (∀ W, Below w0.heap.size w0 W → Calls Try.prog 8 #[.slice (some ⟨G, 0, none⟩) i c] W fun e w' => ∃ v, e = .returned v ∧ Rd w' w'.heap.size M v ∧ Below W.heap.size W w') := Lib.hid (fun W hW => by
        have hc := rmap_any K (some ⟨G, 0, none⟩) c W (HRL.out.on hW) (by rw [HKL.out]; exact HI12.out)
        rw [HKL.out, HMM.out] at hc
        exact hc)
      have HC7 : Hid (∀ W v v', Rd W W.heap.size M v → Rd W W.heap.size M v' → Calls Try.prog 7 #[v, v'] W fun e w' => e = .returned (.bool true) ∧ Below W.heap.size W w') := Lib.hid (fun W v v' h h' => by
        have hc := rsame_any h h'
        rw [smT_same] at hc
        exact hc)
      clear hK hKl hrl hi12 hM
      rcases hex with hlz | ⟨hlz, hlz12⟩
      all_goals
        go_wp2_with fail
        refine (HC6.out _ (Below.refl _ _)).mono ?_
        rintro e w1 ⟨q, D, cp, rfl, hr1, hb1⟩
        have HR1 := Lib.hid hr1; have HB1 := Lib.hid hb1
        have hB2 : Below w1.heap.size w1 (w1.alloc (.cells #[.int .i64 6, .bool false, .int .i64 0, .float .f64 0, .string ⟨#[]⟩, .slice D q cp] 26)) := (Below.refl _ _).alloc (Nat.le_refl _) _
        have HB2 := Lib.hid hB2
        have HX : Hid (Blk (w1.alloc (.cells #[.int .i64 6, .bool false, .int .i64 0, .float .f64 0, .string ⟨#[]⟩, .slice D q cp] 26)) w1.heap.size 26 #[.int .i64 6, .bool false, .int .i64 0, .float .f64 0, .string ⟨#[]⟩, .slice D q cp]) := Lib.hid (Blk.new _ _ _)
        clear hr1 hb1 hB2
        go_wp2_with fail
        generalize w1.alloc (.cells #[.int .i64 6, .bool false, .int .i64 0, .float .f64 0, .string ⟨#[]⟩, .slice D q cp] 26) = w2 at HB2 HX ⊢
        have HB3 : Hid (Below w0.heap.size w0 w2) := Lib.hid (HB1.out.trans (HB2.out.mono HB1.out.size))
        have HRM : Hid (Rd w2 w2.heap.size M (.agg #[.int .i64 6, .bool false, .int .i64 0, .float .f64 0, .string ⟨#[]⟩, .slice D q cp])) := Lib.hid (HR1.out.on HB2.out)
        have HD8 : Hid (∀ wn, Below w2.heap.size w2 wn → Calls Try.prog 8 #[.slice (some ⟨G, 0, none⟩) i c] wn fun e w' => ∃ v, e = .returned v ∧ Rd w' w'.heap.size M v ∧ Below wn.heap.size wn w') := Lib.hid (fun wn h => HC8.out _ (HB3.out.trans (h.mono HB3.out.size)))
        have HD7 : Hid (∀ wn v, Below w2.heap.size w2 wn → Rd wn wn.heap.size M v → Calls Try.prog 7 #[.agg #[.int .i64 6, .bool false, .int .i64 0, .float .f64 0, .string ⟨#[]⟩, .slice D q cp], v] wn fun e w' => e = .returned (.bool true) ∧ Below wn.heap.size wn w') := Lib.hid (fun wn v h h' => HC7.out _ _ _ (HRM.out.on h) h')
        obtain ⟨x0, x1, x2, x3, x4, x5⟩ := six_of HX.out
        have hBW := Below.refl w2.heap.size w2
        clear HC8 HB1 HB2 HX HR1
        go_region_held3 (fun w' => (w'.cell? ⟨w1.heap.size, 0, none⟩ = some (.int .i64 6) ∧ w'.cell? ⟨w1.heap.size, 1, none⟩ = some (.bool false) ∧ w'.cell? ⟨w1.heap.size, 2, none⟩ = some (.int .i64 0) ∧ w'.cell? ⟨w1.heap.size, 3, none⟩ = some (.float .f64 0) ∧ w'.cell? ⟨w1.heap.size, 4, none⟩ = some (.string ⟨#[]⟩) ∧ w'.cell? ⟨w1.heap.size, 5, none⟩ = some (.slice D q cp)) ∧ Below w2.heap.size w2 w')
          (first | (exact box_keep ((Below.refl w2.heap.size w2).drew) ⟨⟨x0, x1, x2, x3, x4, x5⟩, hBW⟩) | (exact box_keep (by assumption) (by assumption)))
          (first
            | (go_at_call 5; (with_reducible refine (awake_any _).mono ?_); rintro e wn ⟨rfl, hbn⟩)
            | (go_at_call 8; (with_reducible refine (HD8.out _ (by go_split_ands; assumption)).mono ?_); rintro e wn ⟨v, rfl, hrv, hbn⟩)
            | (go_at_call 7; (with_reducible refine (HD7.out _ _ (by go_split_ands; assumption) (by assumption)).mono ?_); rintro e wn ⟨rfl, hbn⟩))
        all_goals
          rename World => w5
          rename (_ ∧ _) ∧ _ => hh
          have HS : Hid ((w5.cell? ⟨w1.heap.size, 0, none⟩ = some (.int .i64 6) ∧ w5.cell? ⟨w1.heap.size, 1, none⟩ = some (.bool false) ∧ w5.cell? ⟨w1.heap.size, 2, none⟩ = some (.int .i64 0) ∧ w5.cell? ⟨w1.heap.size, 3, none⟩ = some (.float .f64 0) ∧ w5.cell? ⟨w1.heap.size, 4, none⟩ = some (.string ⟨#[]⟩) ∧ w5.cell? ⟨w1.heap.size, 5, none⟩ = some (.slice D q cp)) ∧ Below w2.heap.size w2 w5) := Lib.hid hh
          have HB5 : Hid (Below w0.heap.size w0 w5) := Lib.hid (HB3.out.trans (HS.out.2.mono HB3.out.size))
          have HMD := Lib.hid (RV.made w5 (B := w.heap.size) (Nat.le_trans HBR.out.size HB5.out.size))
          have HB6 := Lib.hid ((Below.refl w5.heap.size w5).alloc (Nat.le_refl _) (.cells #[] 26))
          clear x0 x1 x2 x3 x4 x5 hBW hh
          go_wp2_with fail
          go_loopg [6, 7, 8] ((prs K).length) (fun g6 tv uv iv wr => ∃ (r n c6 G6 : Nat) (u : Bool) (z : Int), tv = .slice (some ⟨G6, 0, none⟩) n c6 ∧ uv = .bool u ∧ iv = .int .i64 z ∧ r ≤ g6 ∧ Hid (z = 2 * (r : Int) - 2 ∧ r ≤ (prs K).length ∧ n = 2 * ((prs K).length - r)) ∧ Hid (RV wr w.heap.size w5.heap.size (.slice (some ⟨G6, 0, none⟩) n c6) (downF K r)) ∧ Hid (u = true → UnlF K r) ∧ Hid (Below w5.heap.size w5 wr))
          case atStart => exact ⟨(prs K).length, 0, 0, w5.heap.size, true, _, rfl, rfl, rfl, Nat.le_refl _, Lib.hid ⟨wrap_start (by rw [prs_len, HKL.out]) HI12.out, Nat.le_refl _, by omega⟩, Lib.hid (by rw [downF_top]; exact HMD.out), Lib.hid (fun _ => unlF_top K), HB6⟩
          case round =>
            obtain ⟨r, n, c6, G6, u, z, rfl, rfl, rfl, hg6, HR, HRT, HUU, HBK⟩ := hrel
            clear HMD HB6
            by_cases hz : 0 ≤ z
            · obtain ⟨s, rfl⟩ : ∃ s, r = s + 1 := ⟨r - 1, by have := HR.out; omega⟩
              obtain ⟨e, rfl⟩ : ∃ e : Nat, z = (e : Int) := ⟨z.toNat, by omega⟩
              have HE : Hid (e = 2 * s ∧ s < (prs K).length ∧ n = 2 * ((prs K).length - (s + 1)) ∧ e ≤ 12 ∧ n ≤ 100 ∧ n + 2 = 2 * ((prs K).length - s)) := Lib.hid (by have := HR.out; have h1 := prs_len K; have := HKL.out; have := HI12.out; omega)
              obtain ⟨ka, va, ha1, ha2, ha3⟩ := prs_get K s HE.out.2.1
              rw [← HE.out.1] at ha1 ha2
              obtain ⟨e1, he1⟩ : ∃ e1, e + 1 = e1 := ⟨_, rfl⟩
              rw [he1] at ha2
              have hel : e < K.length := (List.getElem?_eq_some_iff.1 ha1).1
              have he1l : e1 < K.length := (List.getElem?_eq_some_iff.1 ha2).1
              have hx1 : K[e] = ka := (List.getElem?_eq_some_iff.1 ha1).2
              have hx2 : K[e1] = va := (List.getElem?_eq_some_iff.1 ha2).2
              have HBW : Hid (Below w0.heap.size w0 wr) := Lib.hid (HB5.out.trans (HBK.out.mono HB5.out.size))
              have hrvk := HRV.out.on HBW.out
              obtain ⟨k1, b1, n1, f1, s1, q1, D1, c1, hs1, -, a0, a1, a2, a3, a4, a5⟩ := hrvk.item hel
              obtain ⟨k2, b2, n2, f2, s2, q2, D2, c2, hs2, -, v0, v1, v2, v3, v4, v5⟩ := hrvk.item he1l
              rw [hx1] at hs1; rw [hx2] at hs2
              have hbd : Below wr.heap.size wr wr.drew := (Below.refl wr.heap.size wr).drew
              have hap := (HRT.out.on hbd).app2 HE.out.2.2.2.2.1 (hs1.keepS (w' := wr.drew) (S' := fun b => b < w.heap.size) (fun p hp => hbd.cell (Nat.lt_of_lt_of_le hp (Nat.le_trans HBR.out.size HBW.out.size))) (fun b hb => hb)) (hs2.keepS (w' := wr.drew) (S' := fun b => b < w.heap.size) (fun p hp => hbd.cell (Nat.lt_of_lt_of_le hp (Nat.le_trans HBR.out.size HBW.out.size))) (fun b hb => hb))
              obtain ⟨p, c', w7, hr, R7, B7⟩ := hap
              have HRT7 : Hid (RV w7 w.heap.size w5.heap.size (.slice (some ⟨p, 0, none⟩) (n + 2) c') (downF K s)) := Lib.hid (by rw [downF_step ha3]; exact R7)
              have HB7 : Hid (Below w5.heap.size w5 w7) := Lib.hid (HBK.out.drew.trans B7)
              have HA3 := Lib.hid ha3; have HEL : Hid (∃ h : e < K.length, K[e] = ka) := Lib.hid ⟨hel, hx1⟩
              have hw2 : IntKind.i64.wrap ((e : Int) + 1) = (e1 : Int) := by rw [IntKind.wrap_i64]; have := HE.out; omega
              have hle1 : (e1 : Int) < (i : Int) := by have := HKL.out; omega
              have hle0 : (e : Int) < (i : Int) := by have := HKL.out; omega
              have HSG : Hid (s < s + 1 ∧ s + 1 ≤ gk) := Lib.hid ⟨Nat.lt_succ_self _, hg6⟩
              clear hrvk hs1 hs2 R7 B7 ha1 ha2 ha3 hel he1l hx1 hx2 he1 hbd hg6 HRT HBK HBW HR
              go_wp2_with fail
              have mixed : Try.prog.follows Departure.mixedOrders = true := by kernel_rfl
              go_region_law_o (first
                | (with_reducible refine step_append_runM rfl _ _ 22 22 rfl _ _ (by simp [Act.eval]) (by simp [Act.eval]) (hr _) ?_)
                | fail)
              all_goals
                clear hr a0 a1 a2 a3 a4 a5 v0 v1 v2 v3 v4 v5 hw2 hle1 hle0
                go_wp2_with fail
                go_loopg [7, 9] e (fun g9 uv jv wr => ∃ (t j : Nat) (u : Bool), uv = .bool u ∧ jv = .int .i64 j ∧ e - j ≤ g9 ∧ Hid (j = 2 * t ∧ t ≤ s) ∧ Hid (u = true → UnlF K (s + 1) ∧ ∀ a p, a < t → (prs K)[a]? = some p → cmpT ka p.1 ≠ 0) ∧ Hid (Below w7.heap.size w7 wr))
                case atStart => exact ⟨0, 0, u, rfl, rfl, Nat.le_refl _, Lib.hid ⟨rfl, Nat.zero_le _⟩, Lib.hid (fun h => ⟨HUU.out h, fun a p ha => absurd ha (Nat.not_lt_zero _)⟩), Lib.hid (Below.refl _ _)⟩
                case round =>
                  clear HUU
                  obtain ⟨t, j, u, rfl, rfl, hgm, HJ, HUI, HBJ⟩ := hrel
                  by_cases hjl : j < e
                  · have hjz : (j : Int) < (e : Int) := by omega
                    have hjd : decide (j < e) = true := by simpa using hjl
                    have HTS : Hid (t < s ∧ e - (j + 2) < e - j) := Lib.hid (by have := HJ.out; have := HE.out; omega)
                    have HJW : Hid (wrap64 ((j : Int) + 2) = ((j + 2 : Nat) : Int)) := Lib.hid (by have := HE.out; rw [wrap64_id (by rw [is64_iff]; omega)]; omega)
                    cases u
                    · clear hjl
                      go_wp2_with fail
                      go_quiet (fail)
                      rename Nat => nq
                      go_wp2_with fail
                      go_roundg (e - (j + 2))
                      case measure => exact Nat.lt_of_lt_of_le HTS.out.2 hgm
                      case rel => exact ⟨t + 1, j + 2, false, rfl, by first | rw [HJW.out] | (congr 1), Nat.le_refl _, Lib.hid (by have := HJ.out; have := HTS.out; omega), Lib.hid (fun h => by cases h), Lib.hid (below_drewN HBJ.out nq)⟩
                    · obtain ⟨kb, vb, hb1, -, hb3⟩ := prs_get K t (Nat.lt_trans HTS.out.1 HE.out.2.1)
                      rw [← HJ.out.1] at hb1
                      have hjL : j < K.length := (List.getElem?_eq_some_iff.1 hb1).1
                      have hxj : K[j] = kb := (List.getElem?_eq_some_iff.1 hb1).2
                      have HPB := Lib.hid hb3
                      have hji : (j : Int) < (i : Int) := by have := HKL.out; omega
                      obtain ⟨hel, hxe⟩ := HEL.out
                      have hei : (e : Int) < (i : Int) := by have := HKL.out; omega
                      have HBX : Hid (Below w0.heap.size w0 wr) := Lib.hid ((HB5.out.trans (HB7.out.mono HB5.out.size)).trans (HBJ.out.mono (HB5.out.trans (HB7.out.mono HB5.out.size)).size))
                      have hrvk := HRV.out.on HBX.out
                      obtain ⟨k1, b1, n1, f1, s1, q1, D1, c1, -, hr1, a0, a1, a2, a3, a4, a5⟩ := hrvk.item hel
                      obtain ⟨k2, b2, n2, f2, s2, q2, D2, c2, -, hr2, v0, v1, v2, v3, v4, v5⟩ := hrvk.item hjL
                      rw [hxe] at hr1; rw [hxj] at hr2
                      have HR1 := Lib.hid hr1; have HR2 := Lib.hid hr2
                      obtain ⟨z, hz⟩ : ∃ z, cmpT ka kb = z := ⟨_, rfl⟩
                      have HZ := Lib.hid hz
                      clear hrvk hr1 hr2 hb1 hb3 hxj hxe hel hjL hz hjl
                      go_wp2_with fail
                      have mixed : Try.prog.follows Departure.mixedOrders = true := by kernel_rfl
                      refine region_tail 10 mixed (by kernel_rfl) ?_
                      simp only [List.take_succ_cons, List.take_zero, List.drop_succ_cons, List.drop_zero]
                      repeat still_step
                      refine wpStill_nil ?_
                      go_wp2_with fail
                      refine (rfcmp_any (HR1.out.on (Below.refl _ _).drew) (HR2.out.on (Below.refl _ _).drew)).mono ?_
                      rw [HZ.out]
                      rintro e' wd ⟨rfl, hbd⟩
                      have HBD : Hid (Below w7.heap.size w7 wd) := Lib.hid (HBJ.out.drew.trans (hbd.mono HBJ.out.size))
                      clear hbd a0 a1 a2 a3 a4 a5 v0 v1 v2 v3 v4 v5 hji hei
                      obtain ⟨hz0, hz1⟩ | ⟨hz0, hz1⟩ : ((z == 0) = true ∧ z = 0) ∨ ((z == 0) = false ∧ ¬ z = 0) := by
                        by_cases h : z = 0
                        · exact .inl ⟨by simpa using h, h⟩
                        · exact .inr ⟨by simpa using h, h⟩
                      · have HZ1 := Lib.hid hz1
                        clear hz1
                        go_wp2_with fail
                        go_roundg (e - (j + 2))
                        case measure => exact Nat.lt_of_lt_of_le HTS.out.2 hgm
                        case rel => exact ⟨t + 1, j + 2, false, by first | rfl | simp [HZ1.out], by first | rw [HJW.out] | (congr 1), Nat.le_refl _, Lib.hid (by have := HJ.out; have := HTS.out; omega), Lib.hid (fun h => by cases h), HBD⟩
                      · have HZ1 := Lib.hid hz1
                        clear hz1
                        go_wp2_with fail
                        go_roundg (e - (j + 2))
                        case measure => exact Nat.lt_of_lt_of_le HTS.out.2 hgm
                        case rel => exact ⟨t + 1, j + 2, true, by first | rfl | simp [HZ1.out], by first | rw [HJW.out] | (congr 1), Nat.le_refl _, Lib.hid (by have := HJ.out; have := HTS.out; omega), Lib.hid (fun _ => ⟨(HUI.out (by simp)).1, fun a p ha hp => by
                          rcases Nat.lt_or_ge a t with h | h
                          · exact (HUI.out (by simp)).2 a p h hp
                          · obtain rfl : a = t := by omega
                            rw [HPB.out] at hp
                            cases hp
                            rw [HZ.out]; exact HZ1.out⟩), HBD⟩
                  · have hjz : ¬ (j : Int) < (e : Int) := by omega
                    have hjd : decide (j < e) = false := by simpa using hjl
                    have HTS : Hid (t = s) := Lib.hid (by have := HJ.out; have := HE.out; omega)
                    have HWD : Hid (wrap64 ((e : Int) - 2) = 2 * (s : Int) - 2) := Lib.hid (wrap_down HE.out.1 HE.out.2.2.2.1)
                    clear hjl
                    go_wp2_with fail
                    go_roundg s
                    case measure => exact Nat.lt_of_lt_of_le HSG.out.1 HSG.out.2
                    case rel => exact ⟨s, n + 2, c', p, u, _, rfl, rfl, rfl, Nat.le_refl _, Lib.hid ⟨by first | exact HWD.out | (have := HE.out; omega), by have := HE.out; omega, HE.out.2.2.2.2.2⟩, Lib.hid (HRT7.out.on HBJ.out), Lib.hid (fun h => unlF_step (HUI.out h).1 HA3.out (fun a q ha hq => (HUI.out h).2 a q (by rw [HTS.out]; exact ha) hq)), Lib.hid (HB7.out.trans (HBJ.out.mono HB7.out.size))⟩
            · obtain rfl : r = 0 := by have := HR.out; omega
              have HBW : Hid (Below w.heap.size w wr) := Lib.hid (HBR.out.trans ((HB5.out.trans (HBK.out.mono HB5.out.size)).mono HBR.out.size))
              cases u
              · clear hg6
                go_wp2_with fail
                go_quiet (fail)
                rename Nat => nq
                go_wp2_with fail
                go_ret
                exact ⟨rfl, below_drewN HBW.out nq⟩
              · have HSW := Lib.hid (box_keep HBK.out HS.out)
                have HMT : Hid (T.mk 6 false 0 0 ⟨#[]⟩ (flat (mapR (prs (downF K 0)))) = M) := Lib.hid (by
                  rw [← HMM.out]
                  unfold downF
                  rw [prs_flat, List.drop_zero, mapR_turned _ (unlF_all (HUU.out (by simp)))])
                have HLN : Hid ((downF K 0).length = n ∧ n ≤ 12) := Lib.hid (by
                  have h1 := HRT.out.list.1
                  refine ⟨h1, ?_⟩
                  have h2 := downF_len K 0
                  have := prs_len K
                  have := HKL.out; have := HI12.out
                  omega)
                have HD6 : Hid (∀ wn, Below wr.heap.size wr wn → Calls Try.prog 6 #[.slice (some ⟨G6, 0, none⟩) n c6] wn fun e w' => ∃ v, e = .returned v ∧ Rd w' w'.heap.size M v ∧ Below wn.heap.size wn w') := Lib.hid (fun wn h => by
                  have hc := map_any (downF K 0) (some ⟨G6, 0, none⟩) c6 wn (HRT.out.list.2.2.2.2.on h) (by rw [HLN.out.1]; exact HLN.out.2)
                  rw [HLN.out.1, HMT.out] at hc
                  exact hc)
                have HRW : Hid (Rd wr wr.heap.size M (.agg #[.int .i64 6, .bool false, .int .i64 0, .float .f64 0, .string ⟨#[]⟩, .slice D q cp])) := Lib.hid ((HRM.out.on HS.out.2).on HBK.out)
                have HE7 : Hid (∀ wn v, Below wr.heap.size wr wn → Rd wn wn.heap.size M v → Calls Try.prog 7 #[v, .agg #[.int .i64 6, .bool false, .int .i64 0, .float .f64 0, .string ⟨#[]⟩, .slice D q cp]] wn fun e w' => e = .returned (.bool true) ∧ Below wn.heap.size wn w') := Lib.hid (fun wn v h h' => HC7.out _ _ _ h' (HRW.out.on h))
                obtain ⟨⟨x0, x1, x2, x3, x4, x5⟩, -⟩ := HSW.out
                have hBW := Below.refl wr.heap.size wr
                clear hg6 HD7 HD8 HC7 HC6 HSW
                go_wp2_with fail
                go_region_held3 (fun w' => (w'.cell? ⟨w1.heap.size, 0, none⟩ = some (.int .i64 6) ∧ w'.cell? ⟨w1.heap.size, 1, none⟩ = some (.bool false) ∧ w'.cell? ⟨w1.heap.size, 2, none⟩ = some (.int .i64 0) ∧ w'.cell? ⟨w1.heap.size, 3, none⟩ = some (.float .f64 0) ∧ w'.cell? ⟨w1.heap.size, 4, none⟩ = some (.string ⟨#[]⟩) ∧ w'.cell? ⟨w1.heap.size, 5, none⟩ = some (.slice D q cp)) ∧ Below wr.heap.size wr w')
                  (first | (exact box_keep ((Below.refl wr.heap.size wr).drew) ⟨⟨x0, x1, x2, x3, x4, x5⟩, hBW⟩) | (exact box_keep (by assumption) (by assumption)))
                  (first
                    | (go_at_call 6; (with_reducible refine (HD6.out _ (by go_split_ands; assumption)).mono ?_); rintro e wn ⟨v, rfl, hrv, hbn⟩)
                    | (go_at_call 7; (with_reducible refine (HE7.out _ _ (by go_split_ands; assumption) (by assumption)).mono ?_); rintro e wn ⟨rfl, hbn⟩))
                all_goals
                  go_wp2_with fail
                  go_ret
                  exact ⟨rfl, HBW.out.trans ((And.right (by assumption) : Below wr.heap.size wr _).mono HBW.out.size)⟩

end Go.Proofs.Ytaonlbmicjoclaa
