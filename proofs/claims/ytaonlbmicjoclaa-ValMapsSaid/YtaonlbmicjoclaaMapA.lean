/- val.Map: pairs, what its loops stand on -/
import Derived.Test.YtaonlbmicjoclaaVRow
import Derived.Test.YtaonlbmicjoclaaStb
import Derived.Deep.DeepCutAuto
import Derived.Deep.CutRange
import Derived.Deep.RegionWith
namespace Go.Proofs.Ytaonlbmicjoclaa
open Go.ChangeShapes Go.WideShapes Go.ChangeAt Go.RowKit Go.Fl

/-- values two by two -/
def prs : List T → List (T × T)
  | a :: b :: r => (a, b) :: prs r
  | _ => []

theorem prs_len : ∀ l : List T, (prs l).length = l.length / 2
  | [] => rfl
  | [_] => by simp [prs]
  | a :: b :: r => by rw [prs, List.length_cons, prs_len r, List.length_cons, List.length_cons]; omega

theorem prs_get : ∀ (l : List T) (i : Nat), i < (prs l).length → ∃ a b, l[2 * i]? = some a ∧ l[2 * i + 1]? = some b ∧ (prs l)[i]? = some (a, b)
  | [], i, h => absurd h (Nat.not_lt_zero _)
  | [_], i, h => absurd h (Nat.not_lt_zero _)
  | a :: b :: r, 0, _ => ⟨a, b, rfl, rfl, rfl⟩
  | a :: b :: r, i + 1, h => by
    obtain ⟨x, y, h1, h2, h3⟩ := prs_get r i (by rw [prs, List.length_cons] at h; omega)
    exact ⟨x, y, by rw [show 2 * (i + 1) = 2 * i + 2 by omega]; exact h1, by rw [show 2 * (i + 1) + 1 = 2 * i + 1 + 2 by omega]; exact h2, h3⟩

/-- one behind the other -/
def flat : List (T × T) → List T
  | [] => []
  | p :: r => p.1 :: p.2 :: flat r

theorem flat_len (l : List (T × T)) : (flat l).length = 2 * l.length := by
  induction l with
  | nil => rfl
  | cons p r ih => rw [flat, List.length_cons, List.length_cons, ih, List.length_cons]; omega

theorem flat_app (a b : List (T × T)) : flat (a ++ b) = flat a ++ flat b := by
  induction a with
  | nil => rfl
  | cons p r ih => rw [List.cons_append, flat, ih, flat]; rfl

theorem info_pair : (Try.prog.info? 43).map (fun i => (i.zero, i.size, i.bytes)) = some (some (.agg #[.int .i64 0, .bool false, .int .i64 0, .float .f64 0, .string ⟨#[]⟩, .slice none 0 0, .int .i64 0, .bool false, .int .i64 0, .float .f64 0, .string ⟨#[]⟩, .slice none 0 0]), 12, 144) := by kernel_rfl

/-- the pairs that are laid already -/
def PartP (w : World) (wr : World) (g m i : Nat) (l : List (T × T)) : Prop :=
  ∃ cs : Array Value, Blk wr g 43 cs ∧ cs.size = m * 12 ∧ ∀ j (hj : j < l.length), j < i → PairAt w w.heap.size cs (j * 12) l[j]

theorem set12_size (w : World) (g o : Nat) (c0 c1 c2 c3 c4 c5 c6 c7 c8 c9 c10 c11 : Value) : (set12 w g o c0 c1 c2 c3 c4 c5 c6 c7 c8 c9 c10 c11).heap.size = w.heap.size := (set6_size _ _ _ _ _ _ _ _ _).trans (set6_size _ _ _ _ _ _ _ _ _)

theorem set12_below {B : Nat} {a w : World} {g : Nat} (h : Below B a w) (hg : B ≤ g) (o : Nat) (c0 c1 c2 c3 c4 c5 c6 c7 c8 c9 c10 c11 : Value) : Below B a (set12 w g o c0 c1 c2 c3 c4 c5 c6 c7 c8 c9 c10 c11) :=
  set6_below (set6_below h hg _ _ _ _ _ _) hg _ _ _ _ _ _

theorem set12_far {w : World} {g o : Nat} (c0 c1 c2 c3 c4 c5 c6 c7 c8 c9 c10 c11 : Value) {b : Nat} (hb : b ≠ g) : (set12 w g o c0 c1 c2 c3 c4 c5 c6 c7 c8 c9 c10 c11).heap[b]? = w.heap[b]? :=
  (set6_far _ _ _ _ _ _ hb).trans (set6_far _ _ _ _ _ _ hb)

theorem PartP.drew {w wr : World} {g m i : Nat} {l : List (T × T)} (h : PartP w wr g m i l) : PartP w wr.drew g m i l := by
  obtain ⟨cs, h1, h2, h3⟩ := h
  exact ⟨cs, h1, h2, h3⟩

/-- one more pair laid -/
theorem partP_step {w wr : World} {g m i o : Nat} {l : List (T × T)} {cs : Array Value} {ka va : T} {c0 c1 c2 c3 c4 c5 c6 c7 c8 c9 c10 c11 : Value} (hblk : Blk wr g 43 cs) (hcs : cs.size = m * 12)
    (hpr : ∀ j (hj : j < l.length), j < i → PairAt w w.heap.size cs (j * 12) l[j])
    (hr1 : Rd w w.heap.size ka (.agg #[c0, c1, c2, c3, c4, c5])) (hr2 : Rd w w.heap.size va (.agg #[c6, c7, c8, c9, c10, c11])) (hl : l[i]? = some (ka, va)) (ho : i * 12 = o) (hos : o + 12 ≤ cs.size) :
    PartP w (set12 wr g o c0 c1 c2 c3 c4 c5 c6 c7 c8 c9 c10 c11) g m (i + 1) l := by
  refine ⟨put12 cs o c0 c1 c2 c3 c4 c5 c6 c7 c8 c9 c10 c11, set12_blk hblk c0 c1 c2 c3 c4 c5 c6 c7 c8 c9 c10 c11, by rw [put12_size]; exact hcs, fun j hj hji => ?_⟩
  by_cases hij : j = i
  · subst hij
    have e : l[j] = (ka, va) := (List.getElem?_eq_some_iff.1 hl).2
    rw [e, ho]
    exact put12_pair hos hr1 hr2
  · refine (hpr j hj (by omega)).far fun k hk => put12_far _ _ _ _ _ _ _ _ _ _ _ _ (by omega)

theorem wrap_next {i i2 : Nat} (h : i + 1 = i2) (hi : i ≤ 1000) : wrap64 ((i : Int) + 1) = (i2 : Int) := by
  rw [wrap64_id (is64_iff.2 (by omega))]; omega

theorem blk_drew {w : World} {g : Nat} {t : TypeId} {cs : Array Value} (h : Blk w g t cs) : Blk w.drew g t cs := h

theorem set12_keep {w : World} {g b : Nat} {t : TypeId} {cs : Array Value} (h : Blk w b t cs) (hb : b ≠ g) (o : Nat) (c0 c1 c2 c3 c4 c5 c6 c7 c8 c9 c10 c11 : Value) : Blk (set12 w g o c0 c1 c2 c3 c4 c5 c6 c7 c8 c9 c10 c11) b t cs :=
  (set12_far c0 c1 c2 c3 c4 c5 c6 c7 c8 c9 c10 c11 hb).trans h

theorem PairAt.under {w w' : World} {B o : Nat} {cs : Array Value} {p : T × T} (h : PairAt w B cs o p) (hb : Below B w w') : PairAt w' B cs o p := by
  obtain ⟨c0, c1, c2, c3, c4, c5, c6, c7, c8, c9, c10, c11, hc, r1, r2⟩ := h
  exact ⟨c0, c1, c2, c3, c4, c5, c6, c7, c8, c9, c10, c11, hc, r1.under hb (Nat.le_refl _) (Nat.le_refl _), r2.under hb (Nat.le_refl _) (Nat.le_refl _)⟩

theorem PartP.row {w wr : World} {g m : Nat} {l : List (T × T)} (h : PartP w wr g m m l) (hm : l.length = m) (hb : Below w.heap.size w wr) : RowP wr w.heap.size wr g l := by
  obtain ⟨cs, h1, h2, h3⟩ := h
  exact ⟨cs, h1, by rw [hm]; exact h2, fun j hj => (h3 j hj (by omega)).under hb⟩

/-- a pair of a row: its twelve cells, as they are -/
theorem RowP.item {w wr : World} {B g : Nat} {l : List (T × T)} (h : RowP w B wr g l) {j : Nat} {ka va : T} (hj : l[j]? = some (ka, va)) :
    ∃ (k1 : Int) (b1 : Bool) (n1 : Int) (f1 : Nat) (s1 : ByteArray) (D1 : Option Addr) (m1 c1 : Nat) (k2 : Int) (b2 : Bool) (n2 : Int) (f2 : Nat) (s2 : ByteArray) (D2 : Option Addr) (m2 c2 : Nat) (cs : Array Value), Blk wr g 43 cs ∧
      Rd w B ka (.agg #[.int .i64 k1, .bool b1, .int .i64 n1, .float .f64 f1, .string s1, .slice D1 m1 c1]) ∧ Rd w B va (.agg #[.int .i64 k2, .bool b2, .int .i64 n2, .float .f64 f2, .string s2, .slice D2 m2 c2]) ∧
      (cs[j * 12]? = some (.int .i64 k1) ∧ cs[j * 12 + 1]? = some (.bool b1) ∧ cs[j * 12 + 2]? = some (.int .i64 n1) ∧ cs[j * 12 + 3]? = some (.float .f64 f1) ∧ cs[j * 12 + 4]? = some (.string s1) ∧ cs[j * 12 + 5]? = some (.slice D1 m1 c1) ∧
       cs[j * 12 + 6]? = some (.int .i64 k2) ∧ cs[j * 12 + 7]? = some (.bool b2) ∧ cs[j * 12 + 8]? = some (.int .i64 n2) ∧ cs[j * 12 + 9]? = some (.float .f64 f2) ∧ cs[j * 12 + 10]? = some (.string s2) ∧ cs[j * 12 + 11]? = some (.slice D2 m2 c2)) := by
  obtain ⟨cs, hb, hs, hp⟩ := h
  have hjl : j < l.length := (List.getElem?_eq_some_iff.1 hj).1
  have e : l[j] = (ka, va) := (List.getElem?_eq_some_iff.1 hj).2
  have := hp j hjl
  rw [e] at this
  obtain ⟨c0, c1, c2, c3, c4, c5, c6, c7, c8, c9, c10, c11, ⟨h0, h1, h2, h3, h4, h5, h6, h7, h8, h9, h10, h11⟩, r1, r2⟩ := this
  obtain ⟨k, b, n, f, s, q⟩ := ka
  obtain ⟨k', b', n', f', s', q'⟩ := va
  obtain ⟨A, cap, e1, -⟩ := r1.open
  obtain ⟨A', cap', e2, -⟩ := r2.open
  simp only [Value.agg.injEq, Array.mk.injEq, List.cons.injEq, and_true] at e1 e2
  obtain ⟨rfl, rfl, rfl, rfl, rfl, rfl⟩ := e1
  obtain ⟨rfl, rfl, rfl, rfl, rfl, rfl⟩ := e2
  exact ⟨k, b, n, f, s, A, q.length, cap, k', b', n', f', s', A', q'.length, cap', cs, hb, r1, r2, h0, h1, h2, h3, h4, h5, h6, h7, h8, h9, h10, h11⟩

theorem len_prs {l : List T} {m : Nat} (h : l.length / 2 = m) : (prs l).length = m := by rw [prs_len]; exact h

/-- a pair of values laid behind a row -/
theorem VR.app2 {wq wb : World} {base : Nat} {S : Nat → Prop} {A : Option Addr} {n c : Nat} {l : List T} (h : VR wq base S (.slice A n c) l) (hb : Below wq.heap.size wq wb) {ka va : T} {x0 x1 x2 x3 x4 x5 y0 y1 y2 y3 y4 y5 : Value}
    (h1 : RdS wb (fun b => wq.heap.size ≤ b ∧ b < wb.heap.size) ka (.agg #[x0, x1, x2, x3, x4, x5])) (h2 : RdS wb (fun b => wq.heap.size ≤ b ∧ b < wb.heap.size) va (.agg #[y0, y1, y2, y3, y4, y5])) (hsm : l.length + 2 ≤ 1954687338211) (hbase : base ≤ wq.heap.size) (hSb : ∀ b, S b → base ≤ b) (ty : TypeId) :
    ∃ g c' w', (Builtin.append_ #[22, 22] ty #[.slice A n c, .slice (some ⟨wb.heap.size, 0, none⟩) 2 2]).run Try.prog (wb.alloc (.cells #[x0, x1, x2, x3, x4, x5, y0, y1, y2, y3, y4, y5] 26)) = .ok (.slice (some ⟨g, 0, none⟩) (l.length + 2) c') w' ∧
      (∃ S', VR w' base S' (.slice (some ⟨g, 0, none⟩) (l.length + 2) c') (l ++ [ka, va]) ∧ ∀ b, S' b → base ≤ b) ∧ wq.heap.size ≤ w'.heap.size ∧ w'.os = wq.os ∧ w'.tape = wq.tape ∧ w'.output = wq.output ∧ (∀ b, b < wq.heap.size → b < base → w'.heap[b]? = wq.heap[b]?) := by
  have hal := (Below.refl wb.heap.size wb).alloc (Nat.le_refl _) (.cells #[x0, x1, x2, x3, x4, x5, y0, y1, y2, y3, y4, y5] 26)
  have hB := hb.trans (hal.mono hb.size)
  have hV := h.on hB
  have hlt : ∀ k, (Value.slice A n c).ownBlock = some k → base ≤ k ∧ k < wq.heap.size := by obtain ⟨-, xs, ho, -⟩ := h; exact ho.lt
  obtain ⟨hn, -⟩ := h.list
  subst hn
  have hS' : ∀ b, (S b ∨ (wq.heap.size ≤ b ∧ b < wb.heap.size)) → b < (wb.alloc (.cells #[x0, x1, x2, x3, x4, x5, y0, y1, y2, y3, y4, y5] 26)).heap.size ∧ some b ≠ (Value.slice A l.length c).ownBlock := fun b hb => by
    rcases hb with hb | hb
    · exact hV.1 b hb
    · exact ⟨by rw [World.size_alloc]; omega, fun e => by have := (hlt b e.symm).2; omega⟩
  have hin : ∀ b, (wq.heap.size ≤ b ∧ b < wb.heap.size) → S b ∨ (wq.heap.size ≤ b ∧ b < wb.heap.size) := fun b hb => .inr hb
  have e1 := (h1.keepS (w' := wb.alloc (.cells #[x0, x1, x2, x3, x4, x5, y0, y1, y2, y3, y4, y5] 26)) (fun p hp => World.cell?_of_block (hal.block _ hp.2)) hin)
  have e2 := (h2.keepS (w' := wb.alloc (.cells #[x0, x1, x2, x3, x4, x5, y0, y1, y2, y3, y4, y5] 26)) (fun p hp => World.cell?_of_block (hal.block _ hp.2)) hin)
  obtain ⟨g, c', w', hr, hV', hgr, -⟩ := hV.app (fun b hb => .inl hb) hS' ((CellsT.one e1).app (CellsT.one e2)) (by simp) (by
    intro u hu
    rcases List.mem_append.1 hu with hu | hu
    · exact e1.one.2 u hu
    · exact e2.one.2 u hu) ⟨wb.heap.size, 0, none⟩ 2 (fun j u hj => by
      have hbk := Blk.new wb 26 #[x0, x1, x2, x3, x4, x5, y0, y1, y2, y3, y4, y5]
      rw [adr_add, Nat.zero_add, hbk.cell, ← Array.getElem?_toList]
      exact hj) hsm (by rw [World.size_alloc]; have := hb.size; omega) ty
  refine ⟨g, c', w', hr, ⟨_, hV', fun b hb => hb.elim (hSb b) fun h => Nat.le_trans hbase h.1⟩, Nat.le_trans hB.size hgr.size, hgr.os.trans hB.os, hgr.tape.trans hB.tape, hgr.output.trans hB.output, fun b hbq hbb => (hgr.block b (Nat.lt_of_lt_of_le hbq hB.size) fun e => ?_).trans (hB.block b hbq)⟩
  have := (hlt b e.symm).1
  omega

/-- a copy of a value: its fields are the same, its list lies in new blocks -/
theorem copy_form {w : World} {t : T} {k1 : Int} {b1 : Bool} {n1 : Int} {f1 : Nat} {s1 : ByteArray} {D1 : Option Addr} {m1 c1 : Nat} (h : Rd w w.heap.size t (.agg #[.int .i64 k1, .bool b1, .int .i64 n1, .float .f64 f1, .string s1, .slice D1 m1 c1])) :
    Calls Try.prog 20 #[.agg #[.int .i64 k1, .bool b1, .int .i64 n1, .float .f64 f1, .string s1, .slice D1 m1 c1]] w fun e w' => ∃ E1 d1, e = .returned (.agg #[.int .i64 k1, .bool b1, .int .i64 n1, .float .f64 f1, .string s1, .slice E1 m1 d1]) ∧ RdX w' w.heap.size w'.heap.size t (.agg #[.int .i64 k1, .bool b1, .int .i64 n1, .float .f64 f1, .string s1, .slice E1 m1 d1]) ∧ Below w.heap.size w w' := by
  refine (vcopy_any h).mono ?_
  rintro e w' ⟨v', rfl, hv, hb⟩
  obtain ⟨k, b, n, f, s, q⟩ := t
  obtain ⟨A, cap, e1, -⟩ := h.open
  simp only [Value.agg.injEq, Array.mk.injEq, List.cons.injEq, and_true, Value.int.injEq, Value.bool.injEq, Value.float.injEq, Value.string.injEq, Value.slice.injEq, true_and] at e1
  obtain ⟨rfl, rfl, rfl, rfl, rfl, rfl, rfl, rfl⟩ := e1
  obtain ⟨E, d, rfl, -⟩ := hv.open
  exact ⟨E, d, rfl, hv, hb⟩

/-- the first copy of a pair -/
theorem copy_first {wq : World} {mb pb : Nat} {vA : Value} {t : T} {k1 : Int} {b1 : Bool} {n1 : Int} {f1 : Nat} {s1 : ByteArray} {D1 : Option Addr} {m1 c1 : Nat} {k2 : Int} {b2 : Bool} {n2 : Int} {f2 : Nat} {s2 : ByteArray} {D2 : Option Addr} {m2 c2 : Nat} (hr : Rd wq wq.heap.size t (.agg #[.int .i64 k1, .bool b1, .int .i64 n1, .float .f64 f1, .string s1, .slice D1 m1 c1])) (hc : wq.cell? ⟨mb, 5, none⟩ = some vA) (hp : Blk wq pb 43 #[.int .i64 k1, .bool b1, .int .i64 n1, .float .f64 f1, .string s1, .slice D1 m1 c1, .int .i64 k2, .bool b2, .int .i64 n2, .float .f64 f2, .string s2, .slice D2 m2 c2]) :
    ∀ W, Hid (Below wq.heap.size wq W) → Calls Try.prog 20 #[.agg #[.int .i64 k1, .bool b1, .int .i64 n1, .float .f64 f1, .string s1, .slice D1 m1 c1]] W fun e w' => ∃ E1 d1, e = .returned (.agg #[.int .i64 k1, .bool b1, .int .i64 n1, .float .f64 f1, .string s1, .slice E1 m1 d1]) ∧ Hid (Below wq.heap.size wq w' ∧ RdS w' (fun b => wq.heap.size ≤ b ∧ b < w'.heap.size) t (.agg #[.int .i64 k1, .bool b1, .int .i64 n1, .float .f64 f1, .string s1, .slice E1 m1 d1])) ∧ w'.cell? ⟨mb, 5, none⟩ = some vA ∧ w'.cell? ⟨pb, 6, none⟩ = some (.int .i64 k2) ∧ w'.cell? ⟨pb, 7, none⟩ = some (.bool b2) ∧ w'.cell? ⟨pb, 8, none⟩ = some (.int .i64 n2) ∧ w'.cell? ⟨pb, 9, none⟩ = some (.float .f64 f2) ∧ w'.cell? ⟨pb, 10, none⟩ = some (.string s2) ∧ w'.cell? ⟨pb, 11, none⟩ = some (.slice D2 m2 c2) := by
  intro W hW
  have hlt : mb < wq.heap.size := World.block_lt_of_cell? wq ⟨mb, 5, none⟩ hc
  refine (copy_form (hr.on hW.out)).mono ?_
  rintro e w' ⟨E1, d1, rfl, hv, hb⟩
  have hB := hW.out.trans (hb.mono hW.out.size)
  have hpb := hp.below hB hp.lt
  exact ⟨E1, d1, rfl, Lib.hid ⟨hB, hv.keepS (fun _ _ => rfl) fun b hb => ⟨Nat.le_trans hW.out.size hb.1, hb.2⟩⟩, (hB.cell (p := ⟨mb, 5, none⟩) hlt).trans hc, (hpb.cell 6).trans rfl, (hpb.cell 7).trans rfl, (hpb.cell 8).trans rfl, (hpb.cell 9).trans rfl, (hpb.cell 10).trans rfl, (hpb.cell 11).trans rfl⟩

/-- the second copy, and the pair laid behind a row -/
theorem copy_second {wq : World} {base mb : Nat} {S : Nat → Prop} {A : Option Addr} {n c : Nat} {l : List T} {ka va : T} {k1 : Int} {b1 : Bool} {n1 : Int} {f1 : Nat} {s1 : ByteArray} {m1 : Nat} {k2 : Int} {b2 : Bool} {n2 : Int} {f2 : Nat} {s2 : ByteArray} {D2 : Option Addr} {m2 c2 : Nat} (hV : VR wq base S (.slice A n c) l) (hr : Rd wq wq.heap.size va (.agg #[.int .i64 k2, .bool b2, .int .i64 n2, .float .f64 f2, .string s2, .slice D2 m2 c2]))
    (hm : Blk wq mb 26 #[.int .i64 6, .bool false, .int .i64 0, .float .f64 0, .string ⟨#[]⟩, .slice A n c]) (hmb : mb < base) (hsm : l.length + 2 ≤ 1000) (hbase : base ≤ wq.heap.size) (hSb : ∀ b, S b → base ≤ b) :
    ∀ E1 d1 W, Hid (Below wq.heap.size wq W ∧ RdS W (fun b => wq.heap.size ≤ b ∧ b < W.heap.size) ka (.agg #[.int .i64 k1, .bool b1, .int .i64 n1, .float .f64 f1, .string s1, .slice E1 m1 d1])) → Calls Try.prog 20 #[.agg #[.int .i64 k2, .bool b2, .int .i64 n2, .float .f64 f2, .string s2, .slice D2 m2 c2]] W fun e w' => ∃ E2 d2 g c' wz, e = .returned (.agg #[.int .i64 k2, .bool b2, .int .i64 n2, .float .f64 f2, .string s2, .slice E2 m2 d2]) ∧
      (Builtin.append_ #[22, 22] 22 #[.slice A n c, .slice (some ⟨w'.heap.size, 0, none⟩) 2 2]).run Try.prog (w'.alloc (.cells #[.int .i64 k1, .bool b1, .int .i64 n1, .float .f64 f1, .string s1, .slice E1 m1 d1, .int .i64 k2, .bool b2, .int .i64 n2, .float .f64 f2, .string s2, .slice E2 m2 d2] 26)) = .ok (.slice (some ⟨g, 0, none⟩) (l.length + 2) c') wz ∧
      w'.cell? ⟨mb, 5, none⟩ = some (.slice A n c) ∧ mb < w'.heap.size ∧ wz.cell? ⟨mb, 5, none⟩ = some (.slice A n c) ∧ wz.frozen? ⟨mb, 5, none⟩ = false ∧
      Hid ((∃ S', VR wz base S' (.slice (some ⟨g, 0, none⟩) (l.length + 2) c') (l ++ [ka, va]) ∧ ∀ b, S' b → base ≤ b) ∧ wq.heap.size ≤ wz.heap.size ∧ wz.os = wq.os ∧ wz.tape = wq.tape ∧ wz.output = wq.output ∧ (∀ b, b < wq.heap.size → b < base → wz.heap[b]? = wq.heap[b]?)) := by
  intro E1 d1 W hW
  obtain ⟨hW1, hW2⟩ := hW.out
  refine (copy_form (hr.on hW1)).mono ?_
  rintro e w' ⟨E2, d2, rfl, hv, hb⟩
  have hB := hW1.trans (hb.mono hW1.size)
  have h1 := hW2.keepS (w' := w') (S' := fun b => wq.heap.size ≤ b ∧ b < w'.heap.size) (fun p hp => World.cell?_of_block (hb.block _ hp.2)) (fun b hp => ⟨hp.1, Nat.lt_of_lt_of_le hp.2 hb.size⟩)
  have h2 := hv.keepS (w' := w') (S' := fun b => wq.heap.size ≤ b ∧ b < w'.heap.size) (fun _ _ => rfl) (fun b hp => ⟨Nat.le_trans hW1.size hp.1, hp.2⟩)
  obtain ⟨g, c', wz, hrun, hVz, z1, z2, z3, z4, z5⟩ := hV.app2 hB h1 h2 (by omega) hbase hSb 22
  have hmz : Blk wz mb 26 _ := (z5 mb hm.lt hmb).trans hm
  exact ⟨E2, d2, g, c', wz, rfl, hrun, ((hm.below hB hm.lt).cell 5).trans rfl, Nat.lt_of_lt_of_le hm.lt hB.size, (hmz.cell 5).trans rfl, hmz.frozen 5, Lib.hid ⟨hVz, z1, z2, z3, z4, z5⟩⟩

theorem step_append_runM {P : Program} {ops : Array Oper} {o : Oper} {a : Act} {w : World} {K : Act → World → Prop} {Q : Exit → Act → World → Prop} {E : Prop}
    (hg : o.guard = none) (d x : Operand) (dT sT : TypeId) (hop : o.op = Op.call { callee := Callee.builtin Builtin.append, args := #[d, x], argTypes := #[dT, sT] })
    (v u : Value) (hd : a.eval d = v) (hx : a.eval x = u) {v' : Value} {w' : World} (hr : (Builtin.append_ #[dT, sT] o.type #[v, u]).run P w = .ok v' w') (hK : K (a.put o.dst v') w') :
    if Region.wanted o (yielded ops a.tmps) = true then Oper.wp P o a w K Q else E := by
  have hw : Region.wanted o (yielded ops a.tmps) = true := by simp [Region.wanted, hg]
  rw [if_pos hw]
  unfold Oper.wp
  simp [execOp, hop, resolve, invoke, builtin, hd, hx, hr, Result.andThen]
  exact hK

theorem VR.nil0 (w : World) (base : Nat) : VR w base (fun _ => False) (.slice none 0 0) [] :=
  ⟨fun _ h => h.elim, [], World.ownsRow_nil _ _ _ _, CellsT.nil _ _⟩

/-- behind the append: the map's box has the new slice -/
theorem map_after {w2 wr wq wz : World} {A : Option Addr} {n c g c' N : Nat} {l' : List T} (hB : Below w2.heap.size w2 wr) (hQ : Below wr.heap.size wr wq) (hm : Blk wq w2.heap.size 26 #[.int .i64 6, .bool false, .int .i64 0, .float .f64 0, .string ⟨#[]⟩, .slice A n c])
    (h : (∃ S', VR wz (w2.heap.size + 1) S' (.slice (some ⟨g, 0, none⟩) N c') l' ∧ ∀ b, S' b → w2.heap.size + 1 ≤ b) ∧ wq.heap.size ≤ wz.heap.size ∧ wz.os = wq.os ∧ wz.tape = wq.tape ∧ wz.output = wq.output ∧ (∀ b, b < wq.heap.size → b < w2.heap.size + 1 → wz.heap[b]? = wq.heap[b]?)) :
    Hid (Below w2.heap.size w2 (wz.setCell ⟨w2.heap.size, 5, none⟩ (.slice (some ⟨g, 0, none⟩) N c'))) ∧ Hid (Blk (wz.setCell ⟨w2.heap.size, 5, none⟩ (.slice (some ⟨g, 0, none⟩) N c')) w2.heap.size 26 #[.int .i64 6, .bool false, .int .i64 0, .float .f64 0, .string ⟨#[]⟩, .slice (some ⟨g, 0, none⟩) N c']) ∧
      ∃ S', Hid (VR (wz.setCell ⟨w2.heap.size, 5, none⟩ (.slice (some ⟨g, 0, none⟩) N c')) (w2.heap.size + 1) S' (.slice (some ⟨g, 0, none⟩) N c') l' ∧ ∀ b, S' b → w2.heap.size + 1 ≤ b) := by
  obtain ⟨⟨S', hV, hSb⟩, z1, z2, z3, z4, z5⟩ := h
  have hbase := hV.blk.1
  have hmz : Blk wz w2.heap.size 26 _ := (z5 _ hm.lt (Nat.lt_succ_self _)).trans hm
  have hBq := hB.trans (hQ.mono hB.size)
  refine ⟨Lib.hid ?_, Lib.hid (hmz.set_ 5 _), S', Lib.hid ⟨hV.only (by simp [World.setCell]) (fun b hb => Below.heap_setCell _ _ _ _ ?_) (fun k hk => Below.heap_setCell _ _ _ _ ?_), hSb⟩⟩
  · have : Below w2.heap.size w2 wz := ⟨z2.trans hBq.os, z3.trans hBq.tape, z4.trans hBq.output, Nat.le_trans hBq.size z1, fun b hb => (z5 b (Nat.lt_of_lt_of_le hb hBq.size) (by omega)).trans (hBq.block b hb)⟩
    exact this.setCell (p := ⟨w2.heap.size, 5, none⟩) (Nat.le_refl _) _
  · have := hSb b hb; show b ≠ w2.heap.size; omega
  · simp only [Value.ownBlock, Option.some.injEq] at hk
    show k ≠ w2.heap.size; omega

theorem VR.ptr {w : World} {base : Nat} {S : Nat → Prop} {A : Option Addr} {n c : Nat} {l : List T} (h : VR w base S (.slice A n c) l) (hl : 0 < l.length) : ∃ g, A = some ⟨g, 0, none⟩ := by
  obtain ⟨-, xs, ho, -⟩ := h
  rcases ho.2 with ⟨-, h0⟩ | ⟨g, cap, cur, e, -⟩
  · omega
  · simp only [Value.slice.injEq] at e
    exact ⟨g, e.1⟩

theorem flat_last (xs : List (T × T)) (u : T × T) : (flat (xs ++ [u]))[2 * xs.length]? = some u.1 := by
  rw [flat_app, List.getElem?_append_right (by rw [flat_len]; omega), flat_len, Nat.sub_self]; rfl

theorem flat_set (xs : List (T × T)) (u : T × T) (v : T) : (flat (xs ++ [u])).set (2 * xs.length + 1) v = flat (xs ++ [(u.1, v)]) := by
  rw [flat_app, flat_app, List.set_append_right _ _ (by rw [flat_len]; omega), flat_len]
  rw [show 2 * xs.length + 1 - 2 * xs.length = 1 by omega]; rfl

theorem stp_same {xs : List (T × T)} {u p : T × T} (h : cmpT u.1 p.1 = 0) : flat (stp (xs ++ [u]) p) = (flat (xs ++ [u])).set (2 * xs.length + 1) p.2 := by rw [stp_last, if_pos h, flat_set]

theorem stp_more {xs : List (T × T)} {u p : T × T} (h : ¬ cmpT u.1 p.1 = 0) : flat (stp (xs ++ [u]) p) = flat (xs ++ [u]) ++ [p.1, p.2] := by
  rw [stp_last, if_neg h, show xs ++ [u, p] = (xs ++ [u]) ++ [p] by simp, flat_app _ [p]]; rfl

theorem grp_len (r : List (T × T)) : ∀ k v, (grp k v r).length ≤ r.length + 1 := by
  induction r with
  | nil => intro k v; exact Nat.le_refl _
  | cons q r ih =>
    intro k v
    rw [grp]
    split
    · have := ih k q.2; rw [List.length_cons]; omega
    · have := ih q.1 q.2; rw [List.length_cons, List.length_cons]; omega

theorem mrg_len (l : List (T × T)) : (mrg l).length ≤ l.length := by
  cases l with
  | nil => exact Nat.le_refl _
  | cons q r => exact grp_len r q.1 q.2

/-- the last value's copy, laid in the place of one -/
theorem copy_third {wq : World} {base mb g i : Nat} {S : Nat → Prop} {n c : Nat} {l : List T} {va : T} {k2 : Int} {b2 : Bool} {n2 : Int} {f2 : Nat} {s2 : ByteArray} {D2 : Option Addr} {m2 c2 : Nat} (hV : VR wq base S (.slice (some ⟨g, 0, none⟩) n c) l) (hr : Rd wq wq.heap.size va (.agg #[.int .i64 k2, .bool b2, .int .i64 n2, .float .f64 f2, .string s2, .slice D2 m2 c2]))
    (hm : Blk wq mb 26 #[.int .i64 6, .bool false, .int .i64 0, .float .f64 0, .string ⟨#[]⟩, .slice (some ⟨g, 0, none⟩) n c]) (hmb : mb < base) (hi : i < l.length) (hbase : base ≤ wq.heap.size) (hSb : ∀ b, S b → base ≤ b) :
    ∀ W, Hid (Below wq.heap.size wq W) → Calls Try.prog 20 #[.agg #[.int .i64 k2, .bool b2, .int .i64 n2, .float .f64 f2, .string s2, .slice D2 m2 c2]] W fun e w' => ∃ E2 d2 y0 y1 y2 y3 y4 y5, e = .returned (.agg #[.int .i64 k2, .bool b2, .int .i64 n2, .float .f64 f2, .string s2, .slice E2 m2 d2]) ∧
      w'.cell? ⟨mb, 5, none⟩ = some (.slice (some ⟨g, 0, none⟩) n c) ∧ w'.cell? ⟨g, i * 6, none⟩ = some y0 ∧ w'.cell? ⟨g, i * 6 + 1, none⟩ = some y1 ∧ w'.cell? ⟨g, i * 6 + 2, none⟩ = some y2 ∧ w'.cell? ⟨g, i * 6 + 3, none⟩ = some y3 ∧ w'.cell? ⟨g, i * 6 + 4, none⟩ = some y4 ∧ w'.cell? ⟨g, i * 6 + 5, none⟩ = some y5 ∧
      w'.frozen? ⟨g, i * 6, none⟩ = false ∧ w'.frozen? ⟨g, i * 6 + 1, none⟩ = false ∧ w'.frozen? ⟨g, i * 6 + 2, none⟩ = false ∧ w'.frozen? ⟨g, i * 6 + 3, none⟩ = false ∧ w'.frozen? ⟨g, i * 6 + 4, none⟩ = false ∧ w'.frozen? ⟨g, i * 6 + 5, none⟩ = false ∧
      Hid (Below base wq (set6 w' g (i * 6) (.int .i64 k2) (.bool b2) (.int .i64 n2) (.float .f64 f2) (.string s2) (.slice E2 m2 d2)) ∧ Blk (set6 w' g (i * 6) (.int .i64 k2) (.bool b2) (.int .i64 n2) (.float .f64 f2) (.string s2) (.slice E2 m2 d2)) mb 26 #[.int .i64 6, .bool false, .int .i64 0, .float .f64 0, .string ⟨#[]⟩, .slice (some ⟨g, 0, none⟩) n c] ∧
        ∃ S', VR (set6 w' g (i * 6) (.int .i64 k2) (.bool b2) (.int .i64 n2) (.float .f64 f2) (.string s2) (.slice E2 m2 d2)) base S' (.slice (some ⟨g, 0, none⟩) n c) (l.set i va) ∧ ∀ b, S' b → base ≤ b) := by
  intro W hW
  refine (copy_form (hr.on hW.out)).mono ?_
  rintro e w' ⟨E2, d2, rfl, hv, hb⟩
  have hB := hW.out.trans (hb.mono hW.out.size)
  have hV' := hV.on hB
  obtain ⟨hbg, cs, hbk, hcs⟩ := hV'.blk
  have hgl : g < wq.heap.size := by obtain ⟨-, _, hbk0, -⟩ := hV.blk; exact hbk0.lt
  have hin : i * 6 + 6 ≤ cs.size := by have := Nat.mul_le_mul_right 6 (show i + 1 ≤ l.length by omega); omega
  have hcell : ∀ k, k < 6 → w'.cell? ⟨g, i * 6 + k, none⟩ = some (cs[i * 6 + k]?.getD (.bool false)) := fun k hk => by
    rw [hbk.cell, Array.getElem?_eq_getElem (by omega)]; rfl
  refine ⟨E2, d2, _, _, _, _, _, _, rfl, ((hm.below hB hm.lt).cell 5).trans rfl, hcell 0 (by decide), hcell 1 (by decide), hcell 2 (by decide), hcell 3 (by decide), hcell 4 (by decide), hcell 5 (by decide), hbk.frozen _, hbk.frozen _, hbk.frozen _, hbk.frozen _, hbk.frozen _, hbk.frozen _, Lib.hid ⟨set6_below (hB.mono hbase) hbg _ _ _ _ _ _, (set6_far _ _ _ _ _ _ (by omega)).trans (hm.below hB hm.lt), fun b => S b ∨ (wq.heap.size ≤ b ∧ b < w'.heap.size), ?_, fun b hb => hb.elim (hSb b) fun h => Nat.le_trans hbase h.1⟩⟩
  refine hV'.set_ (fun b hb => .inl hb) (fun b hb => ?_) (hv.keepS (fun _ _ => rfl) fun b hb => .inr ⟨Nat.le_trans hW.out.size hb.1, hb.2⟩) i hi
  rcases hb with hb | hb
  · have := hV'.1 b hb
    exact ⟨this.1, fun e => this.2 (by rw [e]; rfl)⟩
  · exact ⟨hb.2, by omega⟩

theorem six_of {w : World} {g : Nat} {t : TypeId} {c0 c1 c2 c3 c4 c5 : Value} (h : Blk w g t #[c0, c1, c2, c3, c4, c5]) :
    w.cell? ⟨g, 0, none⟩ = some c0 ∧ w.cell? ⟨g, 1, none⟩ = some c1 ∧ w.cell? ⟨g, 2, none⟩ = some c2 ∧ w.cell? ⟨g, 3, none⟩ = some c3 ∧ w.cell? ⟨g, 4, none⟩ = some c4 ∧ w.cell? ⟨g, 5, none⟩ = some c5 :=
  ⟨(h.cell 0).trans rfl, (h.cell 1).trans rfl, (h.cell 2).trans rfl, (h.cell 3).trans rfl, (h.cell 4).trans rfl, (h.cell 5).trans rfl⟩

theorem six_frozen {w : World} {g : Nat} {t : TypeId} {cs : Array Value} (h : Blk w g t cs) :
    w.frozen? ⟨g, 0, none⟩ = false ∧ w.frozen? ⟨g, 1, none⟩ = false ∧ w.frozen? ⟨g, 2, none⟩ = false ∧ w.frozen? ⟨g, 3, none⟩ = false ∧ w.frozen? ⟨g, 4, none⟩ = false ∧ w.frozen? ⟨g, 5, none⟩ = false :=
  ⟨h.frozen 0, h.frozen 1, h.frozen 2, h.frozen 3, h.frozen 4, h.frozen 5⟩

/-- the result's box has the map -/
theorem map_end {wr : World} {base rb : Nat} {S : Nat → Prop} {A : Option Addr} {n c : Nat} {L : List T} (hV : VR wr base S (.slice A n c) L) (hSb : ∀ b, S b → base ≤ b) (hrb : rb < base) (hs : L.length ≤ 1000) (v0 v1 v2 v3 v4 v5 : Value) :
    Rd (set6 wr rb 0 v0 v1 v2 v3 v4 v5) (set6 wr rb 0 v0 v1 v2 v3 v4 v5).heap.size (.mk 6 false 0 0 ⟨#[]⟩ L) (.agg #[.int .i64 6, .bool false, .int .i64 0, .float .f64 0, .string ⟨#[]⟩, .slice A n c]) := by
  have hlt : ∀ k, (Value.slice A n c).ownBlock = some k → base ≤ k ∧ k < wr.heap.size := by obtain ⟨-, xs, ho, -⟩ := hV; exact ho.lt
  have hV' : VR (set6 wr rb 0 v0 v1 v2 v3 v4 v5) base S (.slice A n c) L := hV.only (by rw [set6_size]; exact Nat.le_refl _) (fun b hb => set6_far _ _ _ _ _ _ (by have := hSb b hb; omega)) (fun k hk => set6_far _ _ _ _ _ _ (by have := (hlt k hk).1; omega))
  obtain ⟨hn, h1, h2, h3, h4⟩ := hV'.list
  subst hn
  exact RdX.of A c (by decide) (by decide) (by decide) (by decide) h1 ⟨h2, by omega⟩ h3 h4

end Go.Proofs.Ytaonlbmicjoclaa
