/- the document's Map: rows of values whose lists came in -/
import Derived.Test.YtaonlbmicjoclaaMapC
namespace Go.Proofs.Ytaonlbmicjoclaa
open Go.ChangeShapes Go.WideShapes Go.ChangeAt Go.RowKit Go.Fl

theorem CellsT.take {w : World} {S : Nat → Prop} {xs : List Value} {l : List T} (h : CellsT w S xs l) (k : Nat) (hk : k ≤ l.length) : CellsT w S (xs.take (k * 6)) (l.take k) := by
  obtain ⟨hx, h⟩ := h
  refine ⟨by rw [List.length_take, List.length_take, hx]; have := Nat.mul_le_mul_right 6 hk; rw [Nat.min_eq_left this, Nat.min_eq_left hk], fun j hj => ?_⟩
  rw [List.length_take] at hj
  obtain ⟨v, h1, h2⟩ := h j (by omega)
  refine ⟨v, fun i u hu => ?_, by rw [List.getElem_take]; exact h2⟩
  obtain ⟨hi, hu'⟩ := h1 i u hu
  have : j * 6 + i < k * 6 := by have := Nat.mul_le_mul_right 6 (show j + 1 ≤ k by omega); omega
  exact ⟨hi, by rw [List.getElem?_take, if_pos this]; exact hu'⟩

theorem CellsT.drop {w : World} {S : Nat → Prop} {xs : List Value} {l : List T} (h : CellsT w S xs l) (k : Nat) (hk : k ≤ l.length) : CellsT w S (xs.drop (k * 6)) (l.drop k) := by
  obtain ⟨hx, h⟩ := h
  refine ⟨by rw [List.length_drop, List.length_drop, hx, Nat.sub_mul], fun j hj => ?_⟩
  rw [List.length_drop] at hj
  obtain ⟨v, h1, h2⟩ := h (k + j) (by omega)
  refine ⟨v, fun i u hu => ?_, by rw [List.getElem_drop]; exact h2⟩
  obtain ⟨hi, hu'⟩ := h1 i u hu
  exact ⟨hi, by rw [List.getElem?_drop, ← Nat.add_assoc, ← Nat.add_mul]; exact hu'⟩

/-- a row of one's own, in blocks from N on, of values whose lists lie below B -/
abbrev RV (w : World) (B N : Nat) (A : Value) (l : List T) : Prop := VR w N (fun b => b < B) A l ∧ B ≤ N ∧ N ≤ w.heap.size

theorem RV.on {w w' : World} {B N : Nat} {A : Value} {l : List T} (h : RV w B N A l) (hb : Below w.heap.size w w') : RV w' B N A l := ⟨h.1.on hb, h.2.1, Nat.le_trans h.2.2 hb.size⟩

theorem RV.low {w : World} {B N M : Nat} {A : Value} {l : List T} (h : RV w B N A l) (hM : M ≤ N) (hB : B ≤ M) : RV w B M A l := by
  obtain ⟨⟨hS, xs, hown, hc⟩, h1, h2⟩ := h
  refine ⟨⟨hS, xs, ⟨hown.1, ?_⟩, hc⟩, hB, by omega⟩
  rcases hown.2 with h3 | ⟨g, cap, cur, rfl, hbg, r⟩
  · exact .inl h3
  · exact .inr ⟨g, cap, cur, rfl, by omega, r⟩

/-- more values laid behind: any number of them -/
theorem RV.app {w : World} {B N : Nat} {p0 : Option Addr} {n0 c0 : Nat} {l q : List T} (h : RV w B N (.slice p0 n0 c0) l) (hl : l.length = n0) {news : List Value} (hn : CellsT w (fun b => b < B) news q)
    (h1 : ∀ u ∈ news, u.oneCell' = true) (a : Addr) {m : Nat} (c : Nat) (hq : q.length = m) (hcell : ∀ j u, news[j]? = some u → w.cell? (a.add j) = some u) {k : Nat} (hk : n0 + m = k) (hsm : k ≤ 1000) :
    ∃ p c' w', (∀ ty, (Builtin.append_ #[22, 22] ty #[.slice p0 n0 c0, .slice (some a) m c]).run Try.prog w = .ok (.slice p k c') w') ∧ RV w' B N (.slice p k c') (l ++ q) ∧ Below N w w' ∧ w.grownBy w' (Value.slice p0 n0 c0).ownBlock := by
  obtain ⟨i0, hi0, hz0, hz1, hz2⟩ := info_parts info_value
  obtain ⟨⟨-, xs, hown, hc⟩, hBN, hN⟩ := h
  subst hl hq hk
  obtain ⟨v', w', hr, ho, hg, -⟩ := run_append_own (P := Try.prog) w N 22 0 26 i0 _ 6 72 Try.underlying22 hi0 hz0 hz1 hz2 rfl (by decide) _ l.length xs hown a q.length c news hn.1 hcell h1 (by unfold maxLen; omega) (by omega) hN
  have hlt := hown.lt
  have hbel : Below N w w' := (Below.refl N w).grown hg hN fun k e => (hlt k e).1
  obtain ⟨p, c', rfl⟩ : ∃ p c', v' = .slice p (l.length + q.length) c' := by
    rcases ho.2 with ⟨e, h0⟩ | ⟨g, cap, cur, rfl, -⟩
    · exact ⟨none, 0, by rw [e, h0]⟩
    · exact ⟨_, _, rfl⟩
  refine ⟨p, c', w', fun ty => hr, ⟨⟨fun b hb => ⟨by have := hbel.size; omega, fun e => ?_⟩, xs ++ news, by rw [List.length_append]; exact ho, (hc.app hn).kept (fun b hb => hbel.block b (by omega)) fun _ h => h⟩, hBN, Nat.le_trans hN hbel.size⟩, hbel, hg⟩
  have := (ho.lt b e.symm).1
  omega

theorem RV.made (w : World) {B : Nat} (hB : B ≤ w.heap.size) : RV (w.alloc (.cells #[] 26)) B w.heap.size (.slice (some ⟨w.heap.size, 0, none⟩) 0 0) [] :=
  ⟨⟨fun b hb => ⟨by simp; omega, by simp [Value.ownBlock]; omega⟩, [], World.ownsRow_made w #[] 0 (Nat.le_refl _) (Nat.zero_le _) (by simp), CellsT.nil _ _⟩, hB, by simp⟩

/-- the cells of a row: each is one cell -/
theorem RV.ones {w : World} {B N : Nat} {A : Value} {l : List T} (h : VR w N (fun b => b < B) A l) : ∃ xs, w.ownsRow N 26 6 A l.length xs ∧ CellsT w (fun b => b < B) xs l ∧ ∀ u ∈ xs, u.oneCell' = true := by
  obtain ⟨-, xs, hown, hc⟩ := h
  refine ⟨xs, hown, hc, fun u hu => ?_⟩
  obtain ⟨i, hi, rfl⟩ := List.getElem_of_mem hu
  obtain ⟨hx, hc⟩ := hc
  obtain ⟨v, h1, h2⟩ := hc (i / 6) (by omega)
  obtain ⟨t, ht⟩ : ∃ t, l[i / 6]'(by omega) = t := ⟨_, rfl⟩
  rw [ht] at h2
  obtain ⟨k, b, n, f, s, q⟩ := t
  obtain ⟨A', cap, e, -⟩ := h2.open
  subst e
  have hm : i % 6 < 6 := Nat.mod_lt _ (by decide)
  have hcells : (Value.agg #[.int .i64 k, .bool b, .int .i64 n, .float .f64 f, .string s, .slice A' q.length cap]).cells = #[.int .i64 k, .bool b, .int .i64 n, .float .f64 f, .string s, .slice A' q.length cap] := rfl
  have hidx : i / 6 * 6 + i % 6 = i := by omega
  have hget : ∀ u, (#[Value.int .i64 k, .bool b, .int .i64 n, .float .f64 f, .string s, .slice A' q.length cap])[i % 6]? = some u → xs[i] = u := fun u hu => by
    have := (h1 (i % 6) u (by rw [hcells]; exact hu)).2
    rw [hidx, List.getElem?_eq_getElem hi] at this
    exact Option.some.inj this
  match hmm : i % 6, hm with
  | 0, _ => rw [hget _ (by rw [hmm]; rfl)]; rfl
  | 1, _ => rw [hget _ (by rw [hmm]; rfl)]; rfl
  | 2, _ => rw [hget _ (by rw [hmm]; rfl)]; rfl
  | 3, _ => rw [hget _ (by rw [hmm]; rfl)]; rfl
  | 4, _ => rw [hget _ (by rw [hmm]; rfl)]; rfl
  | 5, _ => rw [hget _ (by rw [hmm]; rfl)]; rfl

/-- where a row's cells lie -/
theorem RV.src {w : World} {B N : Nat} {p : Option Addr} {n c : Nat} {l : List T} (h : RV w B N (.slice p n c) l) : l.length = n ∧ n ≤ c ∧ ∃ xs, CellsT w (fun b => b < B) xs l ∧ (∀ u ∈ xs, u.oneCell' = true) ∧ xs.length = l.length * 6 ∧ ((p = none ∧ l = []) ∨ ∃ g, p = some ⟨g, 0, none⟩ ∧ g < w.heap.size ∧ ∀ j u, xs[j]? = some u → w.cell? ⟨g, j, none⟩ = some u) := by
  obtain ⟨xs, hown, hc, h1⟩ := RV.ones h.1
  have hcl := fun g hg => hown.cells (g := g) hg
  rcases hown.2 with ⟨e, hn⟩ | ⟨g, cap, cur, e, hbg, hg, hnc, hcm, -⟩
  · simp only [Value.slice.injEq] at e
    obtain ⟨rfl, rfl, rfl⟩ := e
    exact ⟨hn, Nat.le_refl _, xs, hc, h1, hc.1, .inl ⟨rfl, List.eq_nil_of_length_eq_zero hn⟩⟩
  · simp only [Value.slice.injEq] at e
    obtain ⟨rfl, rfl, rfl⟩ := e
    exact ⟨rfl, hnc, xs, hc, h1, hc.1, .inr ⟨g, rfl, (Array.getElem?_eq_some_iff.1 hg).1, fun j u hu => by have := hcl g rfl j u hu; rwa [adr_add, Nat.zero_add] at this⟩⟩

theorem CellsT.keepB {w w' : World} {B : Nat} {xs : List Value} {l : List T} (h : CellsT w (fun b => b < B) xs l) {n : Nat} (hb : Below n w w') (hB : B ≤ n) : CellsT w' (fun b => b < B) xs l :=
  h.kept (fun b hb' => hb.block b (by omega)) fun _ h => h

theorem vals_head (A : Option Addr) (n c i : Nat) (hi : i ≤ c) (W : World) :
    (Instr.sliceAt 22 (.slice A n c) none (some (.int .i64 (i : Int))) none).run Try.prog W = .ok (.slice A i c) W := by
  have e2 : Try.prog.elem 22 = 26 := by kernel_rfl
  have hu : Try.prog.underlying 22 = some (.slice (Try.prog.elem 22)) := by rw [e2]; exact Try.underlying22
  have hs : ∀ W, (sizeOf (Try.prog.elem 22)).run Try.prog W = .ok 6 W := fun W => by rw [e2]; exact Try.sizeOf26 W
  rw [run_sliceAt_slice W 22 _ _ _ _ hu, run_slice_h W 22 A n c hu .i64 i (by omega) (by omega), hs]
  simp only [Result.andThen_ok, sliced, Int.toNat_natCast, Nat.sub_zero]
  congr 2
  split
  · rfl
  · cases A with
    | none => rfl
    | some a => simp [Addr.add]

theorem vals_tail (g n c i : Nat) (hi : i ≤ n) (hc : n ≤ c) : ∃ o, (∀ W,
    (Instr.sliceAt 22 (.slice (some ⟨g, 0, none⟩) n c) (some (.int .i64 (i : Int))) none none).run Try.prog W = .ok (.slice (some ⟨g, o, none⟩) (n - i) (c - i)) W) ∧ (i < n → o = i * 6) := by
  have e2 : Try.prog.elem 22 = 26 := by kernel_rfl
  have hu : Try.prog.underlying 22 = some (.slice (Try.prog.elem 22)) := by rw [e2]; exact Try.underlying22
  have hs : ∀ W, (sizeOf (Try.prog.elem 22)).run Try.prog W = .ok 6 W := fun W => by rw [e2]; exact Try.sizeOf26 W
  refine ⟨if c = i then 0 else i * 6, fun W => ?_, fun h => by rw [if_neg (by omega)]⟩
  rw [run_sliceAt_slice W 22 _ _ _ _ hu, run_slice_l W 22 _ n c hu .i64 i (by omega) (by omega), hs]
  simp only [Result.andThen_ok, sliced, Int.toNat_natCast]
  congr 2
  split
  · rfl
  · simp [adr_add]

end Go.Proofs.Ytaonlbmicjoclaa
