/- val.Copy, once more: the copy's list is a new row of its own -/
import Derived.Test.YtjkoogplipeacaaCopy
namespace Go.Proofs.Ytjkoogplipeacaa
open Go.ChangeShapes Go.WideShapes Go.ChangeAt Go.RowKit Go.Fl

/-- a row of its own: known whole, what stands in it lies behind it -/
def PartAt (g : Nat) (w : World) (l : List T) : Prop :=
  ∃ cs : Array Value, Blk w g 25 cs ∧ cs.size = l.length * 6 ∧ ∀ j (hj : j < l.length), ∃ v, (∀ k u, v.cells[k]? = some u → cs[j * 6 + k]? = some u) ∧ RdX w (g + 1) w.heap.size l[j] v

theorem part_at {w wr : World} {l : List T} {i : Nat} (hi : l.length ≤ i) (hp : Part w wr l i) : PartAt w.heap.size wr l := by
  obtain ⟨cs, h1, h2, h3⟩ := hp
  exact ⟨cs, h1, h2, fun j hj => h3 j hj (by omega)⟩

theorem PartAt.list {g : Nat} {w : World} {l : List T} (h : PartAt g w l) : RdXL w g w.heap.size l (some ⟨g, 0, none⟩) := by
  obtain ⟨cs, hblk, hsz, hpart⟩ := h
  intro j hj
  obtain ⟨v, h1, h2⟩ := hpart j hj
  refine ⟨⟨g, 0, none⟩, v, rfl, ⟨Nat.le_refl _, hblk.lt⟩, fun k u hu => ?_, h2.up (Nat.le_succ _) (Nat.le_refl _)⟩
  have : (⟨g, 0, none⟩ : Addr).add (j * 6 + k) = ⟨g, j * 6 + k, none⟩ := by unfold Addr.add; split <;> simp_all
  rw [this, hblk.cell]
  exact h1 k u hu

theorem PartAt.keep {g : Nat} {w w' : World} {l : List T} (h : PartAt g w l) (hb : ∀ b, g ≤ b → b < w.heap.size → w'.heap[b]? = w.heap[b]?) (hs : w.heap.size ≤ w'.heap.size) : PartAt g w' l := by
  obtain ⟨cs, h1, h2, h3⟩ := h
  refine ⟨cs, (hb g (Nat.le_refl _) h1.lt).trans h1, h2, fun j hj => ?_⟩
  obtain ⟨v, h4, h5⟩ := h3 j hj
  exact ⟨v, h4, h5.keep (fun p hp1 hp2 => World.cell?_of_block (hb _ (by omega) hp2)) (Nat.le_refl _) hs⟩

/-- a slice of copies, in a new row -/
def Copied2 (w : World) (l : List T) (e : Ending) (w' : World) : Prop :=
  (l.length = 0 ∧ e = .returned (.slice none l.length l.length) ∧ Below w.heap.size w w') ∨
  (e = .returned (.slice (some ⟨w.heap.size, 0, none⟩) l.length l.length) ∧ PartAt w.heap.size w' l ∧ w.heap.size < w'.heap.size ∧ Below w.heap.size w w')

set_option maxHeartbeats 1000000 in
set_option maxRecDepth 100000 in
theorem copies_own (l : List T) (ih : ∀ i (hi : i < l.length), CopyAt l[i]) (A : Option Addr) (cap : Nat) (w : World) (h : RdL w w.heap.size l A) (hm : l.length ≤ 1954687338211) :
    Calls Try.prog 62 #[.slice A l.length cap] w (Copied2 w l) := by
  by_cases h0 : l.length = 0
  · have d0 : ((l.length : Int) == 0) = true := by simp [h0]
    have H0 := Lib.hid h0; clear h0
    go_enter Try.func62, Try.ntmps62
    go_wp2_with fail
    go_ret
    exact .inl ⟨H0.out, by rw [H0.out]; rfl, Below.refl _ _⟩
  · have d0 : ((l.length : Int) == 0) = false := by simpa using h0
    obtain ⟨i0, hi0, hz0, hz1, hz2⟩ := info_parts info_value
    have hmk := fun W => run_make_rowN (P := Try.prog) 23 25 i0 _ Try.underlying23 hi0 hz0 .i64 .i64 l.length l.length (Nat.le_refl _) (by rw [hz2]; omega) (by omega) W
    rw [hz1] at hmk
    generalize hcs : madeCells (valV 0 false 0 0 ⟨#[]⟩).cells (l.length * 6) = cs0 at hmk
    have Hcs := Lib.hid hcs
    clear hi0 hz0 hz1 hz2 hcs h0
    have IH := Lib.hid ih; clear ih
    go_enter Try.func62, Try.ntmps62
    go_wp2_with fail
    go_loopw [14] (fun si wr => ∃ i : Nat, i ≤ l.length ∧ si = .int .i64 i ∧ Below w.heap.size w wr ∧ w.heap.size < wr.heap.size ∧ Part w wr l i) (fun si _ => l.length - (intOf si).toNat)
    case atStart => exact ⟨0, by omega, rfl, (Below.refl _ _).alloc (Nat.le_refl _) _, by simp, cs0, heap_alloc_new w _, by rw [← Hcs.out]; simp [madeCells, valV, Value.cells], fun j hj hh => absurd hh (Nat.not_lt_zero _)⟩
    case round =>
      obtain ⟨i, hi, rfl, hb, hz, cs, hblk, hsz, hpart⟩ := hrel
      have hpart' : Part w wr l i := ⟨cs, hblk, hsz, hpart⟩
      have Hblk := Lib.hid hblk; have Hsz := Lib.hid hsz; clear hblk hsz
      by_cases hlt : i < l.length
      · obtain ⟨a, k, b, n, f, s, q, D, capi, rfl, hab, hx, hrd, e0, e1, e2, e3, e4, e5⟩ := (h.on hb).item hlt
        have IHi := Lib.hid (IH.out i hlt)
        have Hx := Lib.hid hx; clear hx
        go_wp2_with fail
        refine (IHi.out _ _ (hrd.on ((Below.refl _ _).alloc (Nat.le_refl _) _))).mono ?_
        rintro e w1 ⟨v', rfl, hv', hb1⟩
        have hb2 := ((Below.refl wr.heap.size wr).alloc (Nat.le_refl _) (.cells #[.int .i64 k, .bool b, .int .i64 n, .float .f64 f, .string s, .slice D q.length capi] 25)).trans (hb1.mono (by simp))
        have hblk1 : w1.heap[w.heap.size]? = some (.cells cs 25 (0, 0)) := (hb2.block _ hz).trans Hblk.out
        have hv2 := hv'
        rw [Hx.out] at hv2
        obtain ⟨D', capj, rfl, -⟩ := hv2.open
        have hcell : ∀ j, j < 6 → ∃ u, w1.cell? ⟨w.heap.size, i * 6 + j, none⟩ = some u ∧ w1.frozen? ⟨w.heap.size, i * 6 + j, none⟩ = false := by
          intro j hj
          have hb3 : i * 6 + j < cs.size := by rw [Hsz.out]; omega
          exact ⟨cs[i * 6 + j], by rw [cell_of_row w1 _ _ cs _ _ hblk1, Array.getElem?_eq_getElem hb3], by simp [World.frozen?, hblk1]⟩
        have Hblk1 := Lib.hid hblk1; clear hblk1
        obtain ⟨u0, c0, z0⟩ := hcell 0 (by omega)
        obtain ⟨u1, c1, z1⟩ := hcell 1 (by omega)
        obtain ⟨u2, c2, z2⟩ := hcell 2 (by omega)
        obtain ⟨u3, c3, z3⟩ := hcell 3 (by omega)
        obtain ⟨u4, c4, z4⟩ := hcell 4 (by omega)
        obtain ⟨u5, c5, z5⟩ := hcell 5 (by omega)
        clear hcell
        simp only [Nat.add_zero] at c0 z0
        go_wp2_with fail
        go_roundw
        case rel => exact part_step hi hlt hb hz Hblk.out Hsz.out hpart hb2 Hx.out (hv'.up (by simp) (Nat.le_refl _))
        case measure => simp [intOf]; omega
      · go_wp2_with fail
        go_ret
        exact .inr ⟨rfl, part_at (by omega) hpart', hz, hb⟩

/-- what Copy answers: a value, and its row -/
def Owned (w : World) (k : Int) (b : Bool) (n : Int) (f : Nat) (s : ByteArray) (l : List T) (e : Ending) (w' : World) : Prop :=
  Below w.heap.size w w' ∧ ((l.length = 0 ∧ e = .returned (.agg #[.int .i64 k, .bool b, .int .i64 n, .float .f64 f, .string s, .slice none l.length l.length])) ∨
    ∃ g, w.heap.size ≤ g ∧ e = .returned (.agg #[.int .i64 k, .bool b, .int .i64 n, .float .f64 f, .string s, .slice (some ⟨g, 0, none⟩) l.length l.length]) ∧ PartAt g w' l)

set_option maxRecDepth 100000 in
theorem copy_own (k : Int) (b : Bool) (n : Int) (f : Nat) (s : ByteArray) (l : List T) (v : Value) (w : World) (h : Rd w w.heap.size (.mk k b n f s l) v) :
    Calls Try.prog 26 #[v] w (Owned w k b n f s l) := by
  have ih : ∀ i (hi : i < l.length), CopyAt l[i] := fun i _ => copy_at l[i]
  obtain ⟨A, cap, rfl, hk, hn, hf, hs, hc, hm, hA, hl⟩ := h.open
  have IH := Lib.hid ih; clear ih h
  have HK : Hid (is64 k = true ∧ is64 n = true ∧ f < 18446744073709551616 ∧ s.size ≤ 140737488351232) := ⟨hk, hn, hf, hs⟩
  have HA := Lib.hid hA
  clear hk hn hf hs hA
  have hb2 := ((Below.refl w.heap.size w).alloc (Nat.le_refl _) (.cells #[.int .i64 k, .bool b, .int .i64 n, .float .f64 f, .string s, .slice A l.length cap] 25)).alloc (by simp) (.cells #[.int .i64 0, .bool false, .int .i64 0, .float .f64 0, .string ⟨#[]⟩, .slice none 0 0] 25)
  go_enter Try.func26, Try.ntmps26
  go_wp2_with fail
  refine (copies_own l IH.out A cap _ (hl.on hb2) hm.2).mono ?_
  rintro e w1 hcc
  obtain ⟨A', he, hl', hb1⟩ : ∃ A', e = .returned (.slice A' l.length l.length) ∧ ((l.length = 0 ∧ A' = none) ∨ (A' = some ⟨w.heap.size + 2, 0, none⟩ ∧ PartAt (w.heap.size + 2) w1 l)) ∧ Below ((w.alloc (.cells #[.int .i64 k, .bool b, .int .i64 n, .float .f64 f, .string s, .slice A l.length cap] 25)).alloc (.cells #[.int .i64 0, .bool false, .int .i64 0, .float .f64 0, .string ⟨#[]⟩, .slice none 0 0] 25)).heap.size ((w.alloc (.cells #[.int .i64 k, .bool b, .int .i64 n, .float .f64 f, .string s, .slice A l.length cap] 25)).alloc (.cells #[.int .i64 0, .bool false, .int .i64 0, .float .f64 0, .string ⟨#[]⟩, .slice none 0 0] 25)) w1 := by
    rcases hcc with ⟨c1, c2, c3⟩ | ⟨c1, c2, c3, c4⟩
    · exact ⟨none, c2, .inl ⟨c1, rfl⟩, c3⟩
    · simp only [World.size_alloc] at c1 c2
      exact ⟨_, c1, .inr ⟨rfl, c2⟩, c4⟩
  subst he
  clear hcc
  have Hl := Lib.hid hl'; clear hl'
  have hsz := hb1.size
  simp only [World.size_alloc] at hsz
  have hbox : Blk w1 w.heap.size 25 #[.int .i64 k, .bool b, .int .i64 n, .float .f64 f, .string s, .slice A l.length cap] :=
    Blk.below (Blk.below (Blk.new w _ _) ((Below.refl _ _).alloc (Nat.le_refl _) _) (by simp)) hb1 (by simp; omega)
  have hbox2 : Blk w1 (w.heap.size + 1) 25 #[.int .i64 0, .bool false, .int .i64 0, .float .f64 0, .string ⟨#[]⟩, .slice none 0 0] :=
    Blk.below (by have := Blk.new (w.alloc (.cells #[.int .i64 k, .bool b, .int .i64 n, .float .f64 f, .string s, .slice A l.length cap] 25)) 25 #[.int .i64 0, .bool false, .int .i64 0, .float .f64 0, .string ⟨#[]⟩, .slice none 0 0]; simpa using this) hb1 (by simp)
  have b0 : w1.cell? ⟨w.heap.size, 0, none⟩ = some (.int .i64 k) := (hbox.cell 0).trans rfl
  have b1 : w1.cell? ⟨w.heap.size, 1, none⟩ = some (.bool b) := (hbox.cell 1).trans rfl
  have b2 : w1.cell? ⟨w.heap.size, 2, none⟩ = some (.int .i64 n) := (hbox.cell 2).trans rfl
  have b3 : w1.cell? ⟨w.heap.size, 3, none⟩ = some (.float .f64 f) := (hbox.cell 3).trans rfl
  have b4 : w1.cell? ⟨w.heap.size, 4, none⟩ = some (.string s) := (hbox.cell 4).trans rfl
  have b5 : w1.cell? ⟨w.heap.size, 5, none⟩ = some (.slice A l.length cap) := (hbox.cell 5).trans rfl
  have d0 : w1.cell? ⟨w.heap.size + 1, 0, none⟩ = some (.int .i64 0) := (hbox2.cell 0).trans rfl
  have d1 : w1.cell? ⟨w.heap.size + 1, 1, none⟩ = some (.bool false) := (hbox2.cell 1).trans rfl
  have d2 : w1.cell? ⟨w.heap.size + 1, 2, none⟩ = some (.int .i64 0) := (hbox2.cell 2).trans rfl
  have d3 : w1.cell? ⟨w.heap.size + 1, 3, none⟩ = some (.float .f64 0) := (hbox2.cell 3).trans rfl
  have d4 : w1.cell? ⟨w.heap.size + 1, 4, none⟩ = some (.string ⟨#[]⟩) := (hbox2.cell 4).trans rfl
  have d5 : w1.cell? ⟨w.heap.size + 1, 5, none⟩ = some (.slice none 0 0) := (hbox2.cell 5).trans rfl
  have bz : w1.frozen? ⟨w.heap.size, 5, none⟩ = false := hbox.frozen 5
  have z0 : w1.frozen? ⟨w.heap.size + 1, 0, none⟩ = false := hbox2.frozen 0
  have z1 : w1.frozen? ⟨w.heap.size + 1, 1, none⟩ = false := hbox2.frozen 1
  have z2 : w1.frozen? ⟨w.heap.size + 1, 2, none⟩ = false := hbox2.frozen 2
  have z3 : w1.frozen? ⟨w.heap.size + 1, 3, none⟩ = false := hbox2.frozen 3
  have z4 : w1.frozen? ⟨w.heap.size + 1, 4, none⟩ = false := hbox2.frozen 4
  have z5 : w1.frozen? ⟨w.heap.size + 1, 5, none⟩ = false := hbox2.frozen 5
  have hfin := set6_load (hbox2.far (p := ⟨w.heap.size, 5, none⟩) (by simp) (.slice A' l.length l.length)) (by simp) (.int .i64 k) (.bool b) (.int .i64 n) (.float .f64 f) (.string s) (.slice A' l.length l.length)
  clear hbox hbox2
  have Hfin := Lib.hid hfin; clear hfin
  have hbw := hb2.trans (hb1.mono hb2.size)
  go_wp2_with fail
  have hlt : ∀ p : Addr, w.heap.size + 2 ≤ p.block → (set6 (w1.setCell ⟨w.heap.size, 5, none⟩ (.slice A' l.length l.length)) (w.heap.size + 1) 0 (.int .i64 k) (.bool b) (.int .i64 n) (.float .f64 f) (.string s) (.slice A' l.length l.length)).cell? p = w1.cell? p := fun p hp =>
    World.cell?_of_block ((set6_far _ _ _ _ _ _ (by omega)).trans (Below.heap_setCell _ _ _ _ (by simp; omega)))
  have hbe := set6_below (hbw.setCell (p := ⟨w.heap.size, 5, none⟩) (Nat.le_refl _) (.slice A' l.length l.length)) (Nat.le_succ _) (g := w.heap.size + 1) (o := 0) (.int .i64 k) (.bool b) (.int .i64 n) (.float .f64 f) (.string s) (.slice A' l.length l.length)
  obtain ⟨f0, f1, f2, f3, f4, f5⟩ := Hfin.out
  refine bodyPost_ret (v := .agg #[.int .i64 k, .bool b, .int .i64 n, .float .f64 f, .string s, .slice A' l.length l.length]) (by simp [results, Try.results26, go_sem, f0, f1, f2, f3, f4, f5]) rfl ⟨hbe, ?_⟩
  rcases Hl.out with ⟨c1, c2⟩ | ⟨c1, c2⟩
  · exact .inl ⟨c1, by rw [c2]⟩
  · refine .inr ⟨w.heap.size + 2, by omega, by rw [c1], c2.keep (fun b' hb' _ => ?_) (by simp [World.setCell])⟩
    exact (set6_far _ _ _ _ _ _ (by omega)).trans (Below.heap_setCell _ _ _ _ (by simp; omega))

end Go.Proofs.Ytjkoogplipeacaa
