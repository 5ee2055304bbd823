/- pairs: their order; the insertion sort of a row of them -/
import Derived.Test.YtaonlbmicjoclaaCmpB
import Derived.Test.YtaonlbmicjoclaaMapM
namespace Go.Proofs.Ytaonlbmicjoclaa
open Go.ChangeShapes Go.WideShapes Go.ChangeAt Go.RowKit Go.Fl

theorem pcmp_any {ka kb : T} {a0 a1 a2 a3 a4 a5 a6 a7 a8 a9 a10 a11 b0 b1 b2 b3 b4 b5 b6 b7 b8 b9 b10 b11 : Value} {w : World} (ha : Rd w w.heap.size ka (.agg #[a0, a1, a2, a3, a4, a5])) (hb : Rd w w.heap.size kb (.agg #[b0, b1, b2, b3, b4, b5])) :
    Calls Try.prog 18 #[.agg #[a0, a1, a2, a3, a4, a5, a6, a7, a8, a9, a10, a11], .agg #[b0, b1, b2, b3, b4, b5, b6, b7, b8, b9, b10, b11]] w fun e w' => e = .returned (.int .i64 (cmpT ka kb)) ∧ Below w.heap.size w w' := by
  have hB := ((Below.refl w.heap.size w).alloc (Nat.le_refl _) (.cells #[a0, a1, a2, a3, a4, a5, a6, a7, a8, a9, a10, a11] 43)).alloc (by simp) (.cells #[b0, b1, b2, b3, b4, b5, b6, b7, b8, b9, b10, b11] 43)
  have Ha := Lib.hid ha; have Hb := Lib.hid hb
  obtain ⟨k, b, n, f, s, l⟩ := ka
  obtain ⟨k', b', n', f', s', l'⟩ := kb
  obtain ⟨A, c, e, -⟩ := ha.open
  obtain ⟨A', c', e', -⟩ := hb.open
  simp only [Value.agg.injEq, Array.mk.injEq, List.cons.injEq, and_true] at e e'
  obtain ⟨rfl, rfl, rfl, rfl, rfl, rfl⟩ := e
  obtain ⟨rfl, rfl, rfl, rfl, rfl, rfl⟩ := e'
  clear ha hb
  go_enter Try.func18, Try.ntmps18
  go_wp2_with fail
  refine (vcmp_any (Ha.out.on hB) (Hb.out.on hB)).mono ?_
  rintro e w1 ⟨rfl, hb1⟩
  go_wp2_with fail
  go_ret
  exact ⟨rfl, hB.trans (hb1.mono hB.size)⟩

/-- a pair's cells in a row, as they read in a world -/
def PairAt (w : World) (B : Nat) (cs : Array Value) (o : Nat) (p : T × T) : Prop :=
  ∃ c0 c1 c2 c3 c4 c5 c6 c7 c8 c9 c10 c11 : Value, (cs[o + 0]? = some c0 ∧ cs[o + 1]? = some c1 ∧ cs[o + 2]? = some c2 ∧ cs[o + 3]? = some c3 ∧ cs[o + 4]? = some c4 ∧ cs[o + 5]? = some c5 ∧ cs[o + 6]? = some c6 ∧ cs[o + 7]? = some c7 ∧ cs[o + 8]? = some c8 ∧ cs[o + 9]? = some c9 ∧ cs[o + 10]? = some c10 ∧ cs[o + 11]? = some c11) ∧ Rd w B p.1 (.agg #[c0, c1, c2, c3, c4, c5]) ∧ Rd w B p.2 (.agg #[c6, c7, c8, c9, c10, c11])

/-- a row of pairs -/
def RowP (w : World) (B : Nat) (wr : World) (g : Nat) (l : List (T × T)) : Prop :=
  ∃ cs : Array Value, Blk wr g 43 cs ∧ cs.size = l.length * 12 ∧ ∀ j (hj : j < l.length), PairAt w B cs (j * 12) l[j]

/-- all but one block as it was -/
def Beside (g : Nat) (w w' : World) : Prop := w'.os = w.os ∧ w'.tape = w.tape ∧ w'.output = w.output ∧ w.heap.size ≤ w'.heap.size ∧ ∀ b, b < w.heap.size → b ≠ g → w'.heap[b]? = w.heap[b]?

theorem Beside.refl (g : Nat) (w : World) : Beside g w w := ⟨rfl, rfl, rfl, Nat.le_refl _, fun _ _ _ => rfl⟩

theorem Beside.below {g : Nat} {w w' w'' : World} (h : Beside g w w') (hb : Below w'.heap.size w' w'') : Beside g w w'' :=
  ⟨hb.os.trans h.1, hb.tape.trans h.2.1, hb.output.trans h.2.2.1, Nat.le_trans h.2.2.2.1 hb.size, fun b h1 h2 => (hb.block b (Nat.lt_of_lt_of_le h1 h.2.2.2.1)).trans (h.2.2.2.2 b h1 h2)⟩

theorem Beside.of {g B : Nat} {w w' : World} (h : Beside g w w') (hg : B ≤ g) (hB : B ≤ w.heap.size) : Below B w w' :=
  ⟨h.1, h.2.1, h.2.2.1, h.2.2.2.1, fun b hb => h.2.2.2.2 b (by omega) (by omega)⟩

theorem Beside.set {g : Nat} {w w' : World} (h : Beside g w w') (o : Nat) (v : Value) : Beside g w (w'.setCell ⟨g, o, none⟩ v) :=
  ⟨h.1, h.2.1, h.2.2.1, by simp [World.setCell]; exact h.2.2.2.1, fun b h1 h2 => (Below.heap_setCell _ _ _ _ (by simpa using h2)).trans (h.2.2.2.2 b h1 h2)⟩

/-- twelve cells laid -/
def put12 (cs : Array Value) (o : Nat) (c0 c1 c2 c3 c4 c5 c6 c7 c8 c9 c10 c11 : Value) : Array Value := put6 (put6 cs o c0 c1 c2 c3 c4 c5) (o + 6) c6 c7 c8 c9 c10 c11

def set12 (w : World) (g o : Nat) (c0 c1 c2 c3 c4 c5 c6 c7 c8 c9 c10 c11 : Value) : World := set6 (set6 w g o c0 c1 c2 c3 c4 c5) g (o + 6) c6 c7 c8 c9 c10 c11

theorem set12_blk {w : World} {g o : Nat} {t : TypeId} {cs : Array Value} (h : Blk w g t cs) (c0 c1 c2 c3 c4 c5 c6 c7 c8 c9 c10 c11 : Value) : Blk (set12 w g o c0 c1 c2 c3 c4 c5 c6 c7 c8 c9 c10 c11) g t (put12 cs o c0 c1 c2 c3 c4 c5 c6 c7 c8 c9 c10 c11) := set6_blk (set6_blk h _ _ _ _ _ _) _ _ _ _ _ _

theorem put12_size (cs : Array Value) (o : Nat) (c0 c1 c2 c3 c4 c5 c6 c7 c8 c9 c10 c11 : Value) : (put12 cs o c0 c1 c2 c3 c4 c5 c6 c7 c8 c9 c10 c11).size = cs.size := by unfold put12; rw [put6_size, put6_size]

theorem put12_far {cs : Array Value} {o i : Nat} (c0 c1 c2 c3 c4 c5 c6 c7 c8 c9 c10 c11 : Value) (h : i < o ∨ o + 12 ≤ i) : (put12 cs o c0 c1 c2 c3 c4 c5 c6 c7 c8 c9 c10 c11)[i]? = cs[i]? := by
  unfold put12; rw [put6_far _ _ _ _ _ _ (by omega), put6_far _ _ _ _ _ _ (by omega)]

theorem Beside.set12 {g : Nat} {w w' : World} (h : Beside g w w') (o : Nat) (c0 c1 c2 c3 c4 c5 c6 c7 c8 c9 c10 c11 : Value) : Beside g w (set12 w' g o c0 c1 c2 c3 c4 c5 c6 c7 c8 c9 c10 c11) := by
  unfold Proofs.Ytaonlbmicjoclaa.set12 set6
  exact (((((((((((h.set _ _).set _ _).set _ _).set _ _).set _ _).set _ _).set _ _).set _ _).set _ _).set _ _).set _ _).set _ _

theorem PairAt.far {w : World} {B : Nat} {cs cs' : Array Value} {o : Nat} {p : T × T} (h : PairAt w B cs o p) (hc : ∀ i, i < 12 → cs'[o + i]? = cs[o + i]?) : PairAt w B cs' o p := by
  obtain ⟨c0, c1, c2, c3, c4, c5, c6, c7, c8, c9, c10, c11, ⟨h0, h1, h2, h3, h4, h5, h6, h7, h8, h9, h10, h11⟩, r1, r2⟩ := h
  exact ⟨c0, c1, c2, c3, c4, c5, c6, c7, c8, c9, c10, c11, ⟨(hc 0 (by decide)).trans h0, (hc 1 (by decide)).trans h1, (hc 2 (by decide)).trans h2, (hc 3 (by decide)).trans h3, (hc 4 (by decide)).trans h4, (hc 5 (by decide)).trans h5, (hc 6 (by decide)).trans h6, (hc 7 (by decide)).trans h7, (hc 8 (by decide)).trans h8, (hc 9 (by decide)).trans h9, (hc 10 (by decide)).trans h10, (hc 11 (by decide)).trans h11⟩, r1, r2⟩

theorem put12_pair {w : World} {B : Nat} {cs : Array Value} {o : Nat} {p : T × T} {c0 c1 c2 c3 c4 c5 c6 c7 c8 c9 c10 c11 : Value} (hs : o + 12 ≤ cs.size) (h1 : Rd w B p.1 (.agg #[c0, c1, c2, c3, c4, c5])) (h2 : Rd w B p.2 (.agg #[c6, c7, c8, c9, c10, c11])) : PairAt w B (put12 cs o c0 c1 c2 c3 c4 c5 c6 c7 c8 c9 c10 c11) o p := by
  refine ⟨c0, c1, c2, c3, c4, c5, c6, c7, c8, c9, c10, c11, ⟨?_, ?_, ?_, ?_, ?_, ?_, ?_, ?_, ?_, ?_, ?_, ?_⟩, h1, h2⟩
  all_goals unfold put12
  · rw [put6_far _ _ _ _ _ _ (by omega)]; exact put6_at (k := 0) _ _ _ _ _ _ (by omega) rfl
  · rw [put6_far _ _ _ _ _ _ (by omega)]; exact put6_at (k := 1) _ _ _ _ _ _ (by omega) rfl
  · rw [put6_far _ _ _ _ _ _ (by omega)]; exact put6_at (k := 2) _ _ _ _ _ _ (by omega) rfl
  · rw [put6_far _ _ _ _ _ _ (by omega)]; exact put6_at (k := 3) _ _ _ _ _ _ (by omega) rfl
  · rw [put6_far _ _ _ _ _ _ (by omega)]; exact put6_at (k := 4) _ _ _ _ _ _ (by omega) rfl
  · rw [put6_far _ _ _ _ _ _ (by omega)]; exact put6_at (k := 5) _ _ _ _ _ _ (by omega) rfl
  · exact put6_at (o := o + 6) (k := 0) _ _ _ _ _ _ (by rw [put6_size]; omega) rfl
  · exact put6_at (o := o + 6) (k := 1) _ _ _ _ _ _ (by rw [put6_size]; omega) rfl
  · exact put6_at (o := o + 6) (k := 2) _ _ _ _ _ _ (by rw [put6_size]; omega) rfl
  · exact put6_at (o := o + 6) (k := 3) _ _ _ _ _ _ (by rw [put6_size]; omega) rfl
  · exact put6_at (o := o + 6) (k := 4) _ _ _ _ _ _ (by rw [put6_size]; omega) rfl
  · exact put6_at (o := o + 6) (k := 5) _ _ _ _ _ _ (by rw [put6_size]; omega) rfl

end Go.Proofs.Ytaonlbmicjoclaa
