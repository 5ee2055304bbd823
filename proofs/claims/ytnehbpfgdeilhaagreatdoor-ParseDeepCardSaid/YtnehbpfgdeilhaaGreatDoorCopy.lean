/- val.Copy, copies, List -/
import Derived.Test.YtnehbpfgdeilhaaGreatDoorCmpA
import Derived.Laws.MakeOwn
import Derived.OwnWalk
namespace Go.Proofs.YtnehbpfgdeilhaaGreatDoor
open Go.ChangeShapes Go.WideShapes Go.ChangeAt Go.RowKit Go.Fl

theorem info_value : (Tryz.prog.info? 49).map (fun i => (i.zero, i.size, i.bytes)) = some (some (valV 0 false 0 0 ⟨#[]⟩), 6, 72) := by kernel_rfl

theorem run_make_rowN {P : Program} (t e : TypeId) (i : TypeInfo) (z : Value) (ht : P.underlying t = some (.slice e)) (hi : P.info? e = some i) (hz : i.zero = some z)
    (kl kc : IntKind) (n c : Nat) (hnc : n ≤ c) (hbytes : i.bytes * c ≤ 281474976710656) (h63 : c ≤ 9223372036854775807) (w : World) :
    (Instr.makeSlice t (.int kl (n : Int)) (.int kc (c : Int))).run P w = .ok (.slice (some ⟨w.heap.size, 0, none⟩) n c) (w.alloc (.cells (madeCells z.cells (c * i.size)) e)) := by
  have hb : (i.bytes : Int) * (c : Int) ≤ 281474976710656 := by
    have h : ((i.bytes * c : Nat) : Int) ≤ 281474976710656 := by omega
    rwa [Int.natCast_mul] at h
  have hr := run_make (P := P) w t e i z ht hi hz kl kc n c (by omega) (by omega) hb (by omega)
  simp only [Int.toNat_natCast] at hr
  exact hr

/-- the contract of Copy at a tree -/
def CopyAt (t : T) : Prop := ∀ (v : Value) (w : World), Rd w w.heap.size t v →
  Calls Tryz.prog 111 #[v] w fun e w' => ∃ v', e = .returned v' ∧ RdX w' w.heap.size w'.heap.size t v' ∧ Below w.heap.size w w'

/-- a slice of copies -/
def Copied (w : World) (l : List T) (e : Ending) (w' : World) : Prop :=
  ∃ A, e = .returned (.slice A l.length l.length) ∧ (A = none → l.length = 0) ∧ RdXL w' w.heap.size w'.heap.size l A ∧ Below w.heap.size w w'

/-- what stands in the new block behind i rounds -/
def Part (w wr : World) (l : List T) (i : Nat) : Prop :=
  ∃ cs : Array Value, wr.heap[w.heap.size]? = some (.cells cs 49 (0, 0)) ∧ cs.size = l.length * 6 ∧
    ∀ j (hj : j < l.length), j < i → ∃ v, (∀ k u, v.cells[k]? = some u → cs[j * 6 + k]? = some u) ∧ RdX wr (w.heap.size + 1) wr.heap.size l[j] v

theorem part_step {w wr w1 : World} {l : List T} {i : Nat} {cs : Array Value} {k : Int} {b : Bool} {n : Int} {f : Nat} {s : ByteArray} {q : List T} {D : Option Addr} {c : Nat} (hi : i ≤ l.length) (hlt : i < l.length) (hb : Below w.heap.size w wr) (hz : w.heap.size < wr.heap.size)
    (hblk : wr.heap[w.heap.size]? = some (.cells cs 49 (0, 0))) (hsz : cs.size = l.length * 6)
    (hpart : ∀ j (hj : j < l.length), j < i → ∃ v, (∀ k u, v.cells[k]? = some u → cs[j * 6 + k]? = some u) ∧ RdX wr (w.heap.size + 1) wr.heap.size l[j] v)
    (hb1 : Below wr.heap.size wr w1) (hx : l[i] = .mk k b n f s q) (hv : RdX w1 (wr.heap.size + 1) w1.heap.size l[i] (.agg #[.int .i64 k, .bool b, .int .i64 n, .float .f64 f, .string s, .slice D q.length c])) :
    ∃ i', i' ≤ l.length ∧ Value.int .i64 ((i : Int) + 1) = .int .i64 (i' : Nat) ∧ Below w.heap.size w (set6 w1 w.heap.size (i * 6) (.int .i64 k) (.bool b) (.int .i64 n) (.float .f64 f) (.string s) (.slice D q.length c)) ∧
      w.heap.size < (set6 w1 w.heap.size (i * 6) (.int .i64 k) (.bool b) (.int .i64 n) (.float .f64 f) (.string s) (.slice D q.length c)).heap.size ∧
      Part w (set6 w1 w.heap.size (i * 6) (.int .i64 k) (.bool b) (.int .i64 n) (.float .f64 f) (.string s) (.slice D q.length c)) l i' := by
  have hblk1 : Blk w1 w.heap.size 49 cs := Blk.below (w := wr) hblk hb1 hz
  have hz1 := hb1.size
  refine ⟨i + 1, hlt, by go_num, set6_below (hb.trans (hb1.mono (Nat.le_of_lt hz))) (Nat.le_refl _) _ _ _ _ _ _, by rw [set6_size]; omega,
    put6 cs (i * 6) (.int .i64 k) (.bool b) (.int .i64 n) (.float .f64 f) (.string s) (.slice D q.length c), set6_blk hblk1 _ _ _ _ _ _, by rw [put6_size, hsz], fun j hj hji => ?_⟩
  have hkeep : ∀ p : Addr, w.heap.size + 1 ≤ p.block → (set6 w1 w.heap.size (i * 6) (.int .i64 k) (.bool b) (.int .i64 n) (.float .f64 f) (.string s) (.slice D q.length c)).cell? p = w1.cell? p := fun p hp =>
    World.cell?_of_block (set6_far _ _ _ _ _ _ (by omega))
  by_cases hj' : j < i
  · obtain ⟨v, h1, h2⟩ := hpart j hj hj'
    refine ⟨v, fun k' u hu => ?_, h2.keep (fun p hp hp' => (hkeep p hp).trans (hb1.cell hp')) (Nat.le_refl _) (by rw [set6_size]; omega)⟩
    have hu' := h1 k' u hu
    have hk6 : k' < 6 := by
      rcases hxj : l[j] with ⟨kj, bj, nj, fj, sj, qj⟩
      rw [hxj] at h2
      obtain ⟨A', c', rfl, -⟩ := h2.open
      have := (Array.getElem?_eq_some_iff.1 hu).1
      simpa [Value.cells] using this
    rw [put6_far _ _ _ _ _ _ (by omega)]
    exact hu'
  · obtain rfl : j = i := by omega
    refine ⟨.agg #[.int .i64 k, .bool b, .int .i64 n, .float .f64 f, .string s, .slice D q.length c], fun k' u hu => put6_at _ _ _ _ _ _ (by rw [hsz]; omega) hu, hv.keep (fun p hp _ => hkeep p (by omega)) (by omega) (by rw [set6_size]; omega)⟩

theorem part_end {w wr : World} {l : List T} {i : Nat} (hi : l.length ≤ i) (hb : Below w.heap.size w wr) (hp : Part w wr l i) :
    Copied w l (.returned (.slice (some ⟨w.heap.size, 0, none⟩) l.length l.length)) wr := by
  obtain ⟨cs, hblk, hsz, hpart⟩ := hp
  refine ⟨some ⟨w.heap.size, 0, none⟩, rfl, (fun h => by cases h), fun j hj => ?_, hb⟩
  obtain ⟨v, h1, h2⟩ := hpart j hj (by omega)
  have hlt : w.heap.size < wr.heap.size := Blk.lt (w := wr) hblk
  refine ⟨⟨w.heap.size, 0, none⟩, v, rfl, ⟨Nat.le_refl _, hlt⟩, fun k u hu => ?_, h2.up (Nat.le_succ _) (Nat.le_refl _)⟩
  have : (⟨w.heap.size, 0, none⟩ : Addr).add (j * 6 + k) = ⟨w.heap.size, j * 6 + k, none⟩ := by unfold Addr.add; split <;> simp_all
  rw [this, Blk.cell (w := wr) hblk]
  exact h1 k u hu

theorem copies_any (l : List T) (ih : ∀ i (hi : i < l.length), CopyAt l[i]) (A : Option Addr) (cap : Nat) (w : World) (h : RdL w w.heap.size l A) (hm : l.length ≤ 1954687338211) :
    Calls Tryz.prog 108 #[.slice A l.length cap] w (Copied w l) := by
  by_cases h0 : l.length = 0
  · have d0 : ((l.length : Int) == 0) = true := by simp [h0]
    have H0 := Lib.hid h0; clear h0
    go_enter Tryz.func108, Tryz.ntmps108
    go_wp2_with fail
    go_ret
    exact ⟨none, by rw [H0.out]; rfl, fun _ => H0.out, fun i hi => absurd hi (by rw [H0.out]; exact Nat.not_lt_zero _), Below.refl _ _⟩
  · have d0 : ((l.length : Int) == 0) = false := by simpa using h0
    obtain ⟨i0, hi0, hz0, hz1, hz2⟩ := info_parts info_value
    have hmk := fun W => run_make_rowN (P := Tryz.prog) 43 49 i0 _ Tryz.underlying43 hi0 hz0 .i64 .i64 l.length l.length (Nat.le_refl _) (by rw [hz2]; omega) (by omega) W
    rw [hz1] at hmk
    generalize hcs : madeCells (valV 0 false 0 0 ⟨#[]⟩).cells (l.length * 6) = cs0 at hmk
    have Hcs := Lib.hid hcs
    clear hi0 hz0 hz1 hz2 hcs h0
    have IH := Lib.hid ih; clear ih
    go_enter Tryz.func108, Tryz.ntmps108
    go_wp2_with fail
    go_loopw [14] (fun si wr => ∃ i : Nat, i ≤ l.length ∧ si = .int .i64 i ∧ Below w.heap.size w wr ∧ w.heap.size < wr.heap.size ∧ Part w wr l i) (fun si _ => l.length - (intOf si).toNat)
    case atStart => exact ⟨0, by omega, rfl, (Below.refl _ _).alloc (Nat.le_refl _) _, by simp, cs0, heap_alloc_new w _, by rw [← Hcs.out]; simp [madeCells, valV, Value.cells], fun j hj hh => absurd hh (Nat.not_lt_zero _)⟩
    case round =>
      obtain ⟨i, hi, rfl, hb, hz, cs, hblk, hsz, hpart⟩ := hrel
      have hpart' : Part w wr l i := ⟨cs, hblk, hsz, hpart⟩
      have Hblk := Lib.hid hblk; have Hsz := Lib.hid hsz; clear hblk hsz
      by_cases hlt : i < l.length
      · obtain ⟨a, k, b, n, f, s, q, D, capi, rfl, hab, hx, hrd, e0, e1, e2, e3, e4, e5⟩ := (h.on hb).item hlt
        have IHi := Lib.hid (IH.out i hlt)
        have Hx := Lib.hid hx; clear hx
        go_wp2_with fail
        refine (IHi.out _ _ (hrd.on ((Below.refl _ _).alloc (Nat.le_refl _) _))).mono ?_
        rintro e w1 ⟨v', rfl, hv', hb1⟩
        have hb2 := ((Below.refl wr.heap.size wr).alloc (Nat.le_refl _) (.cells #[.int .i64 k, .bool b, .int .i64 n, .float .f64 f, .string s, .slice D q.length capi] 49)).trans (hb1.mono (by simp))
        have hblk1 : w1.heap[w.heap.size]? = some (.cells cs 49 (0, 0)) := (hb2.block _ hz).trans Hblk.out
        have hv2 := hv'
        rw [Hx.out] at hv2
        obtain ⟨D', capj, rfl, -⟩ := hv2.open
        have hcell : ∀ j, j < 6 → ∃ u, w1.cell? ⟨w.heap.size, i * 6 + j, none⟩ = some u ∧ w1.frozen? ⟨w.heap.size, i * 6 + j, none⟩ = false := by
          intro j hj
          have hb3 : i * 6 + j < cs.size := by rw [Hsz.out]; omega
          exact ⟨cs[i * 6 + j], by rw [cell_of_row w1 _ _ cs _ _ hblk1, Array.getElem?_eq_getElem hb3], by simp [World.frozen?, hblk1]⟩
        have Hblk1 := Lib.hid hblk1; clear hblk1
        obtain ⟨u0, c0, z0⟩ := hcell 0 (by omega)
        obtain ⟨u1, c1, z1⟩ := hcell 1 (by omega)
        obtain ⟨u2, c2, z2⟩ := hcell 2 (by omega)
        obtain ⟨u3, c3, z3⟩ := hcell 3 (by omega)
        obtain ⟨u4, c4, z4⟩ := hcell 4 (by omega)
        obtain ⟨u5, c5, z5⟩ := hcell 5 (by omega)
        clear hcell
        simp only [Nat.add_zero] at c0 z0
        go_wp2_with fail
        go_roundw
        case rel => exact part_step hi hlt hb hz Hblk.out Hsz.out hpart hb2 Hx.out (hv'.up (by simp) (Nat.le_refl _))
        case measure => simp [intOf]; omega
      · go_wp2_with fail
        go_ret
        exact part_end (by omega) hb hpart'

theorem copy_at (t : T) : CopyAt t := by
  induction t using T.ind with | h k b n f s l ih => _
  intro v w h
  obtain ⟨A, cap, rfl, hk, hn, hf, hs, hc, hm, hA, hl⟩ := h.open
  have IH := Lib.hid ih; clear ih h
  have HK : Hid (is64 k = true ∧ is64 n = true ∧ f < 18446744073709551616 ∧ s.size ≤ 140737488351232) := ⟨hk, hn, hf, hs⟩
  have HA := Lib.hid hA
  clear hk hn hf hs hA
  have hb2 := ((Below.refl w.heap.size w).alloc (Nat.le_refl _) (.cells #[.int .i64 k, .bool b, .int .i64 n, .float .f64 f, .string s, .slice A l.length cap] 49)).alloc (by simp) (.cells #[.int .i64 0, .bool false, .int .i64 0, .float .f64 0, .string ⟨#[]⟩, .slice none 0 0] 49)
  go_enter Tryz.func111, Tryz.ntmps111
  go_wp2_with fail
  refine (copies_any l IH.out A cap _ (hl.on hb2) hm.2).mono ?_
  rintro e w1 ⟨A', rfl, hA', hl', hb1⟩
  have HA' := Lib.hid hA'; clear hA'
  have hsz := hb1.size
  simp only [World.size_alloc] at hsz
  have hbox : Blk w1 w.heap.size 49 #[.int .i64 k, .bool b, .int .i64 n, .float .f64 f, .string s, .slice A l.length cap] :=
    Blk.below (Blk.below (Blk.new w _ _) ((Below.refl _ _).alloc (Nat.le_refl _) _) (by simp)) hb1 (by simp; omega)
  have hbox2 : Blk w1 (w.heap.size + 1) 49 #[.int .i64 0, .bool false, .int .i64 0, .float .f64 0, .string ⟨#[]⟩, .slice none 0 0] :=
    Blk.below (by have := Blk.new (w.alloc (.cells #[.int .i64 k, .bool b, .int .i64 n, .float .f64 f, .string s, .slice A l.length cap] 49)) 49 #[.int .i64 0, .bool false, .int .i64 0, .float .f64 0, .string ⟨#[]⟩, .slice none 0 0]; simpa using this) hb1 (by simp)
  have b0 : w1.cell? ⟨w.heap.size, 0, none⟩ = some (.int .i64 k) := (hbox.cell 0).trans rfl
  have b1 : w1.cell? ⟨w.heap.size, 1, none⟩ = some (.bool b) := (hbox.cell 1).trans rfl
  have b2 : w1.cell? ⟨w.heap.size, 2, none⟩ = some (.int .i64 n) := (hbox.cell 2).trans rfl
  have b3 : w1.cell? ⟨w.heap.size, 3, none⟩ = some (.float .f64 f) := (hbox.cell 3).trans rfl
  have b4 : w1.cell? ⟨w.heap.size, 4, none⟩ = some (.string s) := (hbox.cell 4).trans rfl
  have b5 : w1.cell? ⟨w.heap.size, 5, none⟩ = some (.slice A l.length cap) := (hbox.cell 5).trans rfl
  have d0 : w1.cell? ⟨w.heap.size + 1, 0, none⟩ = some (.int .i64 0) := (hbox2.cell 0).trans rfl
  have d1 : w1.cell? ⟨w.heap.size + 1, 1, none⟩ = some (.bool false) := (hbox2.cell 1).trans rfl
  have d2 : w1.cell? ⟨w.heap.size + 1, 2, none⟩ = some (.int .i64 0) := (hbox2.cell 2).trans rfl
  have d3 : w1.cell? ⟨w.heap.size + 1, 3, none⟩ = some (.float .f64 0) := (hbox2.cell 3).trans rfl
  have d4 : w1.cell? ⟨w.heap.size + 1, 4, none⟩ = some (.string ⟨#[]⟩) := (hbox2.cell 4).trans rfl
  have d5 : w1.cell? ⟨w.heap.size + 1, 5, none⟩ = some (.slice none 0 0) := (hbox2.cell 5).trans rfl
  have bz : w1.frozen? ⟨w.heap.size, 5, none⟩ = false := hbox.frozen 5
  have z0 : w1.frozen? ⟨w.heap.size + 1, 0, none⟩ = false := hbox2.frozen 0
  have z1 : w1.frozen? ⟨w.heap.size + 1, 1, none⟩ = false := hbox2.frozen 1
  have z2 : w1.frozen? ⟨w.heap.size + 1, 2, none⟩ = false := hbox2.frozen 2
  have z3 : w1.frozen? ⟨w.heap.size + 1, 3, none⟩ = false := hbox2.frozen 3
  have z4 : w1.frozen? ⟨w.heap.size + 1, 4, none⟩ = false := hbox2.frozen 4
  have z5 : w1.frozen? ⟨w.heap.size + 1, 5, none⟩ = false := hbox2.frozen 5
  have hfin := set6_load (hbox2.far (p := ⟨w.heap.size, 5, none⟩) (by simp) (.slice A' l.length l.length)) (by simp) (.int .i64 k) (.bool b) (.int .i64 n) (.float .f64 f) (.string s) (.slice A' l.length l.length)
  clear hbox hbox2
  have Hfin := Lib.hid hfin; clear hfin
  have hbw := hb2.trans (hb1.mono hb2.size)
  go_wp2_with fail
  have hlt : ∀ p : Addr, w.heap.size + 2 ≤ p.block → (set6 (w1.setCell ⟨w.heap.size, 5, none⟩ (.slice A' l.length l.length)) (w.heap.size + 1) 0 (.int .i64 k) (.bool b) (.int .i64 n) (.float .f64 f) (.string s) (.slice A' l.length l.length)).cell? p = w1.cell? p := fun p hp =>
    World.cell?_of_block ((set6_far _ _ _ _ _ _ (by omega)).trans (Below.heap_setCell _ _ _ _ (by simp; omega)))
  have hbe := set6_below (hbw.setCell (p := ⟨w.heap.size, 5, none⟩) (Nat.le_refl _) (.slice A' l.length l.length)) (Nat.le_succ _) (g := w.heap.size + 1) (o := 0) (.int .i64 k) (.bool b) (.int .i64 n) (.float .f64 f) (.string s) (.slice A' l.length l.length)
  have hre : RdX (set6 (w1.setCell ⟨w.heap.size, 5, none⟩ (.slice A' l.length l.length)) (w.heap.size + 1) 0 (.int .i64 k) (.bool b) (.int .i64 n) (.float .f64 f) (.string s) (.slice A' l.length l.length)) w.heap.size
      (set6 (w1.setCell ⟨w.heap.size, 5, none⟩ (.slice A' l.length l.length)) (w.heap.size + 1) 0 (.int .i64 k) (.bool b) (.int .i64 n) (.float .f64 f) (.string s) (.slice A' l.length l.length)).heap.size (.mk k b n f s l)
      (.agg #[.int .i64 k, .bool b, .int .i64 n, .float .f64 f, .string s, .slice A' l.length l.length]) :=
    RdX.of A' l.length HK.out.1 HK.out.2.1 HK.out.2.2.1 HK.out.2.2.2 (Nat.le_refl _) ⟨by omega, hm.2⟩ HA'.out (hl'.keep (fun p hp _ => hlt p (by simpa using hp)) (by simp; omega) (by rw [set6_size]; simp [World.setCell]))
  obtain ⟨f0, f1, f2, f3, f4, f5⟩ := Hfin.out
  exact bodyPost_ret (v := .agg #[.int .i64 k, .bool b, .int .i64 n, .float .f64 f, .string s, .slice A' l.length l.length]) (by simp [results, Tryz.results111, go_sem, f0, f1, f2, f3, f4, f5]) rfl ⟨_, rfl, hre, hbe⟩

theorem vcopy_any {t : T} {v : Value} {w : World} (h : Rd w w.heap.size t v) :
    Calls Tryz.prog 111 #[v] w fun e w' => ∃ v', e = .returned v' ∧ RdX w' w.heap.size w'.heap.size t v' ∧ Below w.heap.size w w' := copy_at t v w h

theorem vlist_any {l : List T} {A : Option Addr} {cap : Nat} {w : World} (h : RdL w w.heap.size l A) (hm : l.length ≤ 1954687338211) :
    Calls Tryz.prog 97 #[.slice A l.length cap] w fun e w' => ∃ v', e = .returned v' ∧ RdX w' w.heap.size w'.heap.size (.mk 5 false 0 0 ⟨#[]⟩ l) v' ∧ Below w.heap.size w w' := by
  have H := Lib.hid h; clear h
  have hb2 := (Below.refl w.heap.size w).alloc (Nat.le_refl _) (.cells #[.int .i64 0, .bool false, .int .i64 0, .float .f64 0, .string ⟨#[]⟩, .slice none 0 0] 49)
  go_enter Tryz.func97, Tryz.ntmps97
  go_wp2_with fail
  refine (copies_any l (fun i _ => copy_at l[i]) A cap _ (H.out.on hb2) hm).mono ?_
  rintro e w1 ⟨A', rfl, hA', hl', hb1⟩
  have HA' := Lib.hid hA'; clear hA'
  have hsz := hb1.size
  simp only [World.size_alloc] at hsz
  have hbox : Blk w1 w.heap.size 49 #[.int .i64 0, .bool false, .int .i64 0, .float .f64 0, .string ⟨#[]⟩, .slice none 0 0] := Blk.below (Blk.new w _ _) hb1 (by simp)
  have d0 : w1.cell? ⟨w.heap.size, 0, none⟩ = some (.int .i64 0) := (hbox.cell 0).trans rfl
  have d1 : w1.cell? ⟨w.heap.size, 1, none⟩ = some (.bool false) := (hbox.cell 1).trans rfl
  have d2 : w1.cell? ⟨w.heap.size, 2, none⟩ = some (.int .i64 0) := (hbox.cell 2).trans rfl
  have d3 : w1.cell? ⟨w.heap.size, 3, none⟩ = some (.float .f64 0) := (hbox.cell 3).trans rfl
  have d4 : w1.cell? ⟨w.heap.size, 4, none⟩ = some (.string ⟨#[]⟩) := (hbox.cell 4).trans rfl
  have d5 : w1.cell? ⟨w.heap.size, 5, none⟩ = some (.slice none 0 0) := (hbox.cell 5).trans rfl
  have z0 : w1.frozen? ⟨w.heap.size, 0, none⟩ = false := hbox.frozen 0
  have z1 : w1.frozen? ⟨w.heap.size, 1, none⟩ = false := hbox.frozen 1
  have z2 : w1.frozen? ⟨w.heap.size, 2, none⟩ = false := hbox.frozen 2
  have z3 : w1.frozen? ⟨w.heap.size, 3, none⟩ = false := hbox.frozen 3
  have z4 : w1.frozen? ⟨w.heap.size, 4, none⟩ = false := hbox.frozen 4
  have z5 : w1.frozen? ⟨w.heap.size, 5, none⟩ = false := hbox.frozen 5
  have hfin := set6_load hbox (by simp) (.int .i64 5) (.bool false) (.int .i64 0) (.float .f64 0) (.string ⟨#[]⟩) (.slice A' l.length l.length)
  clear hbox
  have Hfin := Lib.hid hfin; clear hfin
  have hbw := hb2.trans (hb1.mono hb2.size)
  go_wp2_with fail
  have hbe := set6_below hbw (Nat.le_refl _) (o := 0) (.int .i64 5) (.bool false) (.int .i64 0) (.float .f64 0) (.string ⟨#[]⟩) (.slice A' l.length l.length)
  have hre : RdX (set6 w1 w.heap.size 0 (.int .i64 5) (.bool false) (.int .i64 0) (.float .f64 0) (.string ⟨#[]⟩) (.slice A' l.length l.length)) w.heap.size
      (set6 w1 w.heap.size 0 (.int .i64 5) (.bool false) (.int .i64 0) (.float .f64 0) (.string ⟨#[]⟩) (.slice A' l.length l.length)).heap.size (.mk 5 false 0 0 ⟨#[]⟩ l)
      (.agg #[.int .i64 5, .bool false, .int .i64 0, .float .f64 0, .string ⟨#[]⟩, .slice A' l.length l.length]) :=
    RdX.of A' l.length (by decide) (by decide) (by decide) (by decide) (Nat.le_refl _) ⟨by omega, hm⟩ HA'.out (hl'.keep (fun p hp _ => World.cell?_of_block (set6_far _ _ _ _ _ _ (by simp at hp; omega))) (by simp) (by rw [set6_size]; omega))
  obtain ⟨f0, f1, f2, f3, f4, f5⟩ := Hfin.out
  exact bodyPost_ret (v := .agg #[.int .i64 5, .bool false, .int .i64 0, .float .f64 0, .string ⟨#[]⟩, .slice A' l.length l.length]) (by simp [results, Tryz.results97, go_sem, f0, f1, f2, f3, f4, f5]) rfl ⟨_, rfl, hre, hbe⟩

end Go.Proofs.YtnehbpfgdeilhaaGreatDoor
