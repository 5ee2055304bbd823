/- slices.Insert of one record -/
import Derived.Test.YtdfkahkomcfoeaaPgA
import Derived.Test.YtdfkahkomcfoeaaRowL
namespace Go.Proofs.Ytdfkahkomcfoeaa
open Go.ChangeShapes Go.WideShapes Go.ChangeAt Go.RowKit

theorem info_body : (Try.prog.info? 47).map (fun i => (i.zero, i.size, i.bytes)) = some (some (.agg #[.int .u64 0, .string ⟨#[]⟩]), 2, 24) := by kernel_rfl

theorem body_tail (A : Option Addr) (n c i : Nat) (h : i ≤ n) (W : World) :
    (Instr.sliceAt 25 (.slice A n c) (some (.int .i64 i)) none none).run Try.prog W = .ok (.slice (if c = i then A else A.map (·.add (i * 2))) (n - i) (c - i)) W := by
  have e2 : Try.prog.elem 25 = 47 := by kernel_rfl
  have hu : Try.prog.underlying 25 = some (.slice (Try.prog.elem 25)) := by rw [e2]; exact Try.underlying25
  have hs : (sizeOf (Try.prog.elem 25)).run Try.prog W = .ok 2 W := by rw [e2]; exact Try.sizeOf47 W
  rw [run_sliceAt_slice W 25 _ _ _ _ hu, run_slice_l W 25 A n c hu .i64 i (by omega) (by omega), hs]
  simp only [Result.andThen_ok, sliced, Int.toNat_natCast]

theorem body_tail_some (g n c i : Nat) (h : i ≤ n) (hc : i < c) (W : World) :
    (Instr.sliceAt 25 (.slice (some ⟨g, 0, none⟩) n c) (some (.int .i64 i)) none none).run Try.prog W = .ok (.slice (some ⟨g, i * 2, none⟩) (n - i) (c - i)) W := by
  rw [body_tail _ _ _ _ h, if_neg (by omega)]
  simp [adr_add]

theorem body_head (A : Option Addr) (n c i : Nat) (h : i ≤ c) (W : World) :
    (Instr.sliceAt 25 (.slice A n c) none (some (.int .i64 i)) none).run Try.prog W = .ok (.slice A i c) W := by
  have e2 : Try.prog.elem 25 = 47 := by kernel_rfl
  have hu : Try.prog.underlying 25 = some (.slice (Try.prog.elem 25)) := by rw [e2]; exact Try.underlying25
  have hs : (sizeOf (Try.prog.elem 25)).run Try.prog W = .ok 2 W := by rw [e2]; exact Try.sizeOf47 W
  rw [run_sliceAt_slice W 25 _ _ _ _ hu, run_slice_h W 25 A n c hu .i64 i (by omega) (by omega), hs]
  simp only [Result.andThen_ok, sliced, Int.toNat_natCast, Nat.zero_mul]
  cases A with
  | none => simp
  | some a => simp [Addr.add]

theorem cellsB_take : ∀ (l : Pg) (i : Nat), (cellsB l).take (i * 2) = cellsB (l.take i)
  | [], i => by simp [cellsB]
  | r :: t, 0 => by simp [cellsB]
  | r :: t, i + 1 => by
    rw [show (i + 1) * 2 = i * 2 + 2 by omega]
    simp only [cellsB, List.take_succ_cons, cellsB_take t i]

theorem cellsB_drop : ∀ (l : Pg) (i : Nat), (cellsB l).drop (i * 2) = cellsB (l.drop i)
  | [], i => by simp [cellsB]
  | r :: t, 0 => by simp
  | r :: t, i + 1 => by
    rw [show (i + 1) * 2 = i * 2 + 2 by omega]
    simp only [cellsB, List.drop_succ_cons, cellsB_drop t i]

/-- the cells behind the two copies, where there was room -/
theorem ins_room (cur : List Value) (l : Pg) (i : Nat) (r : Bod) (hi : i ≤ l.length) (htake : cur.take (l.length * 2) = cellsB l) (hcap : (l.length + 1) * 2 ≤ cur.length) {c1 : List Value} (h1 : c1 = cur.take ((i + 1) * 2) ++ cellsB (l.drop i) ++ cur.drop ((i + 1) * 2 + (cellsB (l.drop i)).length)) :
    (c1.take (i * 2) ++ cellsB [r] ++ c1.drop (i * 2 + (cellsB [r]).length)).take ((l.length + 1) * 2) = cellsB (l.take i ++ r :: l.drop i) ∧ (c1.take (i * 2) ++ cellsB [r] ++ c1.drop (i * 2 + (cellsB [r]).length)).length = cur.length ∧ c1.length = cur.length := by
  have hdl : (cellsB (l.drop i)).length = (l.length - i) * 2 := by rw [cellsB_len, List.length_drop]
  have hrl : (cellsB [r]).length = 2 := rfl
  have hc1 : c1.length = cur.length := by
    rw [h1]; simp only [List.length_append, List.length_take, List.length_drop, hdl]; omega
  have e1 : c1.take (i * 2) = cellsB (l.take i) := by
    rw [h1, List.append_assoc, List.take_append_of_le_length (by rw [List.length_take]; omega), List.take_take, ← cellsB_take l i, ← htake, List.take_take]
    congr 1
    omega
  have e2 : c1.drop (i * 2 + 2) = cellsB (l.drop i) ++ cur.drop ((i + 1) * 2 + (cellsB (l.drop i)).length) := by
    rw [h1, List.append_assoc]
    exact List.drop_left' (by rw [List.length_take]; omega)
  rw [hrl, e1, e2]
  refine ⟨?_, ?_, hc1⟩
  · have e3 : cellsB (l.take i) ++ cellsB [r] ++ (cellsB (l.drop i) ++ cur.drop ((i + 1) * 2 + (cellsB (l.drop i)).length)) = cellsB (l.take i ++ r :: l.drop i) ++ cur.drop ((i + 1) * 2 + (cellsB (l.drop i)).length) := by
      rw [cellsB_app]
      simp [cellsB]
    rw [e3]
    have hl : (cellsB (l.take i ++ r :: l.drop i)).length = (l.length + 1) * 2 := by
      rw [cellsB_len]; simp only [List.length_append, List.length_take, List.length_cons, List.length_drop]; omega
    rw [List.take_append_of_le_length (by omega), List.take_of_length_le (by omega)]
  · simp only [List.length_append, List.length_drop, hdl, hrl, cellsB_len, List.length_take]
    omega

/-- a row of one's own is nil, or a block from its first cell on -/
theorem owns_form {w : World} {base : Nat} {e : TypeId} {size : Nat} {v : Value} {n : Nat} {xs : List Value} (h : w.ownsRow base e size v n xs) : ∃ A c, v = .slice A n c ∧ n ≤ c ∧ (n ≠ 0 → ∃ g cur, A = some ⟨g, 0, none⟩ ∧ base ≤ g ∧ w.heap[g]? = some (.cells cur e (0, 0)) ∧ c ≤ maxLen ∧ cur.size = c * size ∧ cur.toList.take (n * size) = xs) := by
  rcases h.2 with ⟨rfl, rfl⟩ | ⟨g, cap, cur, rfl, hb, hg, hnc, hcm, hcs, ht⟩
  · exact ⟨none, 0, rfl, Nat.le_refl _, fun h => absurd rfl h⟩
  · exact ⟨_, cap, rfl, hnc, fun _ => ⟨g, cur, rfl, hb, hg, hcm, hcs, ht⟩⟩

/-- what slices.Insert leaves -/
def Inserted (base : Nat) (w : World) (v : Value) (l : Pg) (e : Ending) (w' : World) : Prop :=
  ∃ v', e = .returned v' ∧ w'.ownsRow base 47 2 v' l.length (cellsB l) ∧ Only (fun k => some k = v.ownBlock) w w' ∧ (v'.ownBlock = v.ownBlock ∨ ∃ g, v'.ownBlock = some g ∧ w.heap.size ≤ g)

theorem grown_only {w w' : World} {v : Value} (h : w.grownBy w' v.ownBlock) : Only (fun k => some k = v.ownBlock) w w' :=
  ⟨h.os, h.tape, h.output, h.size, fun k hk hn => h.block k hk hn⟩

set_option maxHeartbeats 4000000 in
set_option maxRecDepth 100000 in
/-- .. at the end -/
theorem insert_end {base : Nat} {v : Value} {l : Pg} {w : World} (hown : w.ownsRow base 47 2 v l.length (cellsB l)) (r : Bod) (vb : Nat) (hvb : w.heap[vb]? = some (.cells #[.int .u64 (r.1 : Int), .string ⟨r.2.toArray⟩] 47 (0, 0))) (hl : l.length ≤ 1000) (hbase : base ≤ w.heap.size) :
    Calls Try.prog 28 #[v, .int .i64 l.length, .slice (some ⟨vb, 0, none⟩) 1 1] w (Inserted base w v (l ++ [r])) := by
  obtain ⟨i0, hi0, hz0, hz1, hz2⟩ := info_parts info_body
  obtain ⟨v', w2, hr, hown', hgr, hA⟩ := run_append_fresh (P := Try.prog) w base 25 25 47 i0 _ 2 24 Try.underlying25 hi0 hz0 hz1 hz2 rfl (by decide) v l.length (cellsB l) hown ⟨vb, 0, none⟩ 1 1 (cellsB [r]) rfl
    (fun j u hj => by rw [adr_add, Nat.zero_add, cell_of_row _ _ _ _ _ _ hvb]; simpa [cellsB] using hj) (cellsB_one [r]) (by unfold maxLen; omega) (by omega) hbase (by decide)
  obtain ⟨A, c, rfl, hnc, -⟩ := owns_form hown
  have hsl := fun W => body_tail A l.length c l.length (Nat.le_refl _) W
  generalize Value.slice (if c = l.length then A else A.map (·.add (l.length * 2))) (l.length - l.length) (c - l.length) = nv at hsl
  have HO := Lib.hid hown'; have HG := Lib.hid hgr; have HA := Lib.hid hA
  clear hown hown' hgr hA hvb hbase hi0 hz0 hz1 hz2
  go_enter Try.func28, Try.ntmps28
  go_wp2_with (first
    | (at_builtin; refine Lib.wpList_append_run _ rfl _ _ _ _ rfl _ _ rfl rfl _ _ hr ?_)
    | fail)
  go_ret
  refine ⟨_, rfl, ?_, grown_only HG.out, HA.out.imp id fun h => ⟨_, h, Nat.le_refl _⟩⟩
  rw [List.length_append, cellsB_app]
  exact HO.out

set_option maxHeartbeats 4000000 in
set_option maxRecDepth 100000 in
/-- .. ahead of others, where there is room -/
theorem insert_room {base g cap : Nat} {cur : Array Value} {l : Pg} {w : World} (hb : base ≤ g) (hg : w.heap[g]? = some (.cells cur 47 (0, 0))) (hcm : cap ≤ maxLen) (hcs : cur.size = cap * 2) (ht : cur.toList.take (l.length * 2) = cellsB l)
    (i : Nat) (hi : i < l.length) (hroom : l.length + 1 ≤ cap) (r : Bod) (vb : Nat) (hvb : w.heap[vb]? = some (.cells #[.int .u64 (r.1 : Int), .string ⟨r.2.toArray⟩] 47 (0, 0))) (hne : vb ≠ g) (hl : l.length ≤ 1000) :
    Calls Try.prog 28 #[.slice (some ⟨g, 0, none⟩) l.length cap, .int .i64 i, .slice (some ⟨vb, 0, none⟩) 1 1] w (Inserted base w (.slice (some ⟨g, 0, none⟩) l.length cap) (l.take i ++ r :: l.drop i)) := by
  obtain ⟨i0, hi0, hz0, hz1, hz2⟩ := info_parts info_body
  have hcl : cap * 2 = cur.toList.length := by rw [Array.length_toList, hcs]
  have hrow : ∀ j u, (cellsB l)[j]? = some u → w.cell? ⟨g, j, none⟩ = some u := fun j u hu => by
    rw [cell_of_row _ _ _ _ _ _ hg, ← Array.getElem?_toList]
    rw [← ht, List.getElem?_take] at hu
    split at hu
    · exact hu
    · cases hu
  have hdl : (cellsB (l.drop i)).length = (l.length - i) * 2 := by rw [cellsB_len, List.length_drop]
  obtain ⟨c1, hc1⟩ : ∃ c1, c1 = cur.toList.take ((i + 1) * 2) ++ cellsB (l.drop i) ++ cur.toList.drop ((i + 1) * 2 + (cellsB (l.drop i)).length) := ⟨_, rfl⟩
  obtain ⟨f1, f2, f3⟩ := ins_room cur.toList l i r (by omega) ht (by omega) hc1
  have hcp1 : ∀ (W : World), W.heap = w.heap → ∀ ty dc sc, (Builtin.copy_ #[25, 25] ty #[.slice (some ⟨g, (i + 1) * 2, none⟩) (l.length + 1 - (i + 1)) dc, .slice (some ⟨g, i * 2, none⟩) (l.length + 1 - i) sc]).run Try.prog W = .ok (goInt (l.length - i : Nat)) (W.setRow g c1.toArray) := fun W hW ty dc sc => by
    rw [hc1]
    exact run_copy_at W _ _ ty 47 i0 Try.underlying25 hi0 g _ cur (by rw [hW]; exact hg) (l.length - i) _ _ _ _ _ (by simp only [Nat.min_def]; split <;> omega) (cellsB (l.drop i)) (by rw [hdl, hz1])
      (fun j u hu => by
        rw [adr_add]
        have := hrow (i * 2 + j) u (by rw [← cellsB_drop, List.getElem?_drop] at hu; exact hu)
        simpa [World.cell?, hW] using this) (cellsB_one _) (by rw [hdl, hcs]; omega)
  have hcp2 : ∀ (W : World), W.heap = (w.setRow g c1.toArray).heap → ∀ ty dc, (Builtin.copy_ #[25, 25] ty #[.slice (some ⟨g, i * 2, none⟩) (l.length + 1 - i) dc, .slice (some ⟨vb, 0, none⟩) 1 1]).run Try.prog W = .ok (goInt (1 : Nat)) (W.setRow g (c1.take (i * 2) ++ cellsB [r] ++ c1.drop (i * 2 + (cellsB [r]).length)).toArray) := fun W hW ty dc => by
    have hg1 : W.heap[g]? = some (.cells c1.toArray 47 (0, 0)) := by rw [hW]; exact setRow_heap w g cur _ _ _ hg
    have := run_copy_at (P := Try.prog) W 25 25 ty 47 i0 Try.underlying25 hi0 g (i * 2) c1.toArray hg1 1 (l.length + 1 - i) dc ⟨vb, 0, none⟩ 1 1 (by simp only [Nat.min_def]; split <;> omega) (cellsB [r]) (by rw [hz1]; rfl)
      (fun j u hu => by
        rw [adr_add, Nat.zero_add]
        have h2 : W.heap[vb]? = some (.cells #[.int .u64 (r.1 : Int), .string ⟨r.2.toArray⟩] 47 (0, 0)) := by rw [hW, heap_setRow_other _ _ _ _ hne]; exact hvb
        rw [cell_of_row _ _ _ _ _ _ h2]
        simpa [cellsB] using hu) (cellsB_one _) (by rw [show (cellsB [r]).length = 2 from rfl]; simp only [List.size_toArray]; omega)
    simpa using this
  have n1 : ((l.length + 1 : Nat) : Int) = (l.length : Int) + 1 := by omega
  have n2 : ((i + 1 : Nat) : Int) = (i : Int) + 1 := by omega
  have hs1 := fun W => body_tail_some g l.length cap i (by omega) (by omega) W
  have hs2 := fun W => body_head (some ⟨g, 0, none⟩) l.length cap (l.length + 1) hroom W
  have hs3 := fun W => body_tail_some g (l.length + 1) cap (i + 1) (by omega) (by omega) W
  have hs4 := fun W => body_tail_some g (l.length + 1) cap i (by omega) (by omega) W
  rw [n1] at hs2
  rw [n2] at hs3
  have hsa : w.shape? vb = some (47, 2) := by simp [World.shape?, hvb]
  have hsb : w.shape? g = some (47, cap * 2) := by simp [World.shape?, hg, hcs]
  have hov : ∀ lb cb, (callFunc 45 #[.slice (some ⟨vb, 0, none⟩) 1 1, .slice (some ⟨g, (i + 1) * 2, none⟩) lb cb]).run Try.prog w = .ok (.value (.bool false)) w := fun lb cb => by
    rw [run_callFunc_extern Try.func45 (by kernel_rfl) (by kernel_rfl) (by kernel_rfl) (e := Extern.SlicesOverlaps.overlaps #[25, 25] #[4]) (by kernel_rfl),
      Lib.run_overlaps_apart w 25 4 47 Try.underlying25 2 Try.sizeOf47 ⟨vb, 0, none⟩ ⟨g, (i + 1) * 2, none⟩ 1 1 lb cb hne 47 47 2 (cap * 2) hsa hsb (by omega) (by simp [World.frozen?, hvb]) (by simp [World.frozen?, hvb])]
    rfl
  have b1 : (((i : Int)) == (l.length : Int)) = false := by simp; omega
  have b2 : decide ((cap : Int) < (l.length : Int) + 1) = false := by simp; omega
  have mixed : Try.prog.follows Departure.mixedOrders = true := by kernel_rfl
  have q1 : (0 : Int) ≤ (i : Int) + 1 := by omega
  have q2 : (i : Int) + 1 ≤ (l.length : Int) + 1 := by omega
  have q3 : ((i : Int) + 1).toNat = i + 1 := by omega
  have q4 : ¬ (cap = i + 1) := by omega
  have q5 : ¬ (cap = i) := by omega
  have q6 : i ≤ l.length + 1 := by omega
  have q7 : (i : Int) ≤ (l.length : Int) + 1 := by omega
  have q8 : IntKind.i64.wrap ((i : Int) + 1) = (i : Int) + 1 := by rw [IntKind.wrap_i64]; omega
  have HF1 := Lib.hid f1; have HF2 := Lib.hid f2; have HG := Lib.hid hg; have HCS := Lib.hid hcs; have HB := Lib.hid hb; have HCM := Lib.hid hcm; have HRO := Lib.hid hroom; have HI := Lib.hid hi
  generalize hc2 : c1.take (i * 2) ++ cellsB [r] ++ c1.drop (i * 2 + (cellsB [r]).length) = c2 at hcp2 HF1 HF2
  have hr1 := fun ty dc sc => hcp1 w.drew rfl ty dc sc
  have hr2 := fun ty dc => hcp2 ((w.drew).setRow g c1.toArray) rfl ty dc
  clear f1 f2 f3 hc1 hc2 hcp1 hcp2 hrow hsa hsb hdl hcl ht hg hcs hb hcm hvb hne hi0 hz0 hz1 hz2 n1 n2
  go_enter Try.func28, Try.ntmps28
  go_wp2_with (simp only [hov])
  go_region_law_o (refine step_copy_runI rfl _ _ 25 25 rfl (.slice (some ⟨g, (i + 1) * 2, none⟩) (l.length + 1 - (i + 1)) (cap - (i + 1))) (.slice (some ⟨g, i * 2, none⟩) (l.length + 1 - i) (cap - i)) (by simp [Act.eval, Act.put]) (by simp [Act.eval, Act.put]) (hr1 _ (cap - (i + 1)) (cap - i)) ?_)
  go_wp2_with (at_builtin; refine wpList_copy_runI _ rfl _ _ 25 25 rfl _ _ rfl rfl (hr2 _ _) ?_)
  go_ret
  have hfin : ((w.drew.setRow g c1.toArray).setRow g c2.toArray).heap[g]? = some (.cells c2.toArray 47 (0, 0)) := setRow_heap _ g c1.toArray _ _ _ (setRow_heap w.drew g cur _ _ _ HG.out)
  refine ⟨_, rfl, ⟨cellsB_len _, .inr ⟨g, cap, c2.toArray, ?_, HB.out, hfin, ?_, HCM.out, ?_, ?_⟩⟩, ?_, .inl rfl⟩
  · have : (l.take i ++ r :: l.drop i).length = l.length + 1 := by simp only [List.length_append, List.length_take, List.length_cons, List.length_drop]; have := HI.out; omega
    rw [this]
    rfl
  · have := HI.out; have := HRO.out; simp only [List.length_append, List.length_take, List.length_cons, List.length_drop]; omega
  · have := HF2.out; simp only [List.size_toArray, Array.length_toList] at this ⊢; rw [this, HCS.out]
  · have : (l.take i ++ r :: l.drop i).length = l.length + 1 := by simp only [List.length_append, List.length_take, List.length_cons, List.length_drop]; have := HI.out; omega
    rw [this]; simpa using HF1.out
  · have ho : Only (fun k => k = g) w ((w.drew.setRow g c1.toArray).setRow g c2.toArray) := (((Only.refl (fun k => k = g) w).drew).setRow (g := g) (.inl rfl) _).setRow (g := g) (.inl rfl) _
    exact ho.mono fun k _ hk => by rw [hk]; rfl

/-- the cells behind the two copies, where there was no room -/
theorem ins_grow (l : Pg) (i : Nat) (r : Bod) (z : List Value) (hi : i ≤ l.length) (hz : (l.length + 1 - i) * 2 ≤ z.length) {c1 : List Value} (h1 : c1 = (cellsB (l.take i) ++ z).take (i * 2) ++ cellsB [r] ++ (cellsB (l.take i) ++ z).drop (i * 2 + (cellsB [r]).length)) :
    (c1.take ((i + 1) * 2) ++ cellsB (l.drop i) ++ c1.drop ((i + 1) * 2 + (cellsB (l.drop i)).length)).take ((l.length + 1) * 2) = cellsB (l.take i ++ r :: l.drop i) ∧ (c1.take ((i + 1) * 2) ++ cellsB (l.drop i) ++ c1.drop ((i + 1) * 2 + (cellsB (l.drop i)).length)).length = i * 2 + z.length ∧ c1.length = i * 2 + z.length := by
  have hdl : (cellsB (l.drop i)).length = (l.length - i) * 2 := by rw [cellsB_len, List.length_drop]
  have htl : (cellsB (l.take i)).length = i * 2 := by rw [cellsB_len, List.length_take]; omega
  have hrl : (cellsB [r]).length = 2 := rfl
  have hc1 : c1.length = i * 2 + z.length := by
    rw [h1]; simp only [List.length_append, List.length_take, List.length_drop, htl, hrl]; omega
  have e1 : c1.take ((i + 1) * 2) = cellsB (l.take i ++ [r]) := by
    rw [h1, List.take_append_of_le_length (by simp only [List.length_append, List.length_take, htl, hrl]; omega), List.take_append_of_le_length (l₁ := cellsB (l.take i)) (by omega), List.take_of_length_le (l := cellsB (l.take i)) (by omega), ← cellsB_app]
    exact List.take_of_length_le (by rw [cellsB_len, List.length_append, List.length_take]; simp only [List.length_cons, List.length_nil]; omega)
  rw [e1]
  refine ⟨?_, ?_, hc1⟩
  · have e3 : cellsB (l.take i ++ [r]) ++ cellsB (l.drop i) = cellsB (l.take i ++ r :: l.drop i) := by rw [← cellsB_app]; simp
    rw [e3]
    have hl : (cellsB (l.take i ++ r :: l.drop i)).length = (l.length + 1) * 2 := by
      rw [cellsB_len]; simp only [List.length_append, List.length_take, List.length_cons, List.length_drop]; omega
    rw [List.take_append_of_le_length (by omega), List.take_of_length_le (by omega)]
  · have : (cellsB (l.take i ++ [r])).length = (i + 1) * 2 := by rw [cellsB_len, List.length_append, List.length_take]; simp only [List.length_cons, List.length_nil]; omega
    simp only [List.length_append, List.length_drop, hdl, this, hc1]
    omega

set_option maxHeartbeats 4000000 in
set_option maxRecDepth 100000 in
/-- .. ahead of others, where there is no room -/
theorem insert_grow {base g cap : Nat} {cur : Array Value} {l : Pg} {w : World} (hbase : base ≤ w.heap.size) (hg : w.heap[g]? = some (.cells cur 47 (0, 0))) (hnc : l.length ≤ cap) (ht : cur.toList.take (l.length * 2) = cellsB l)
    (i : Nat) (hi : i < l.length) (hroom : cap < l.length + 1) (r : Bod) (vb : Nat) (hvb : w.heap[vb]? = some (.cells #[.int .u64 (r.1 : Int), .string ⟨r.2.toArray⟩] 47 (0, 0))) (hl : l.length ≤ 1000) :
    Calls Try.prog 28 #[.slice (some ⟨g, 0, none⟩) l.length cap, .int .i64 i, .slice (some ⟨vb, 0, none⟩) 1 1] w (Inserted base w (.slice (some ⟨g, 0, none⟩) l.length cap) (l.take i ++ r :: l.drop i)) := by
  obtain ⟨i0, hi0, hz0, hz1, hz2⟩ := info_parts info_body
  have hgw : g < w.heap.size := (Array.getElem?_eq_some_iff.1 hg).1
  have hvw : vb < w.heap.size := (Array.getElem?_eq_some_iff.1 hvb).1
  have hrow : ∀ j u, (cellsB l)[j]? = some u → w.cell? ⟨g, j, none⟩ = some u := fun j u hu => by
    rw [cell_of_row _ _ _ _ _ _ hg, ← Array.getElem?_toList]
    rw [← ht, List.getElem?_take] at hu
    split at hu
    · exact hu
    · cases hu
  have hdl : (cellsB (l.drop i)).length = (l.length - i) * 2 := by rw [cellsB_len, List.length_drop]
  have htl : (cellsB (l.take i)).length = i * 2 := by rw [cellsB_len, List.length_take]; omega
  have n1 : ((l.length + 1 : Nat) : Int) = (l.length : Int) + 1 := by omega
  have n2 : ((i + 1 : Nat) : Int) = (i : Int) + 1 := by omega
  have n3 : ((l.length + 1 - i : Nat) : Int) = (l.length : Int) + 1 - (i : Int) := by omega
  have hik : i + (l.length + 1 - i) = l.length + 1 := by omega
  have hold : (Builtin.firstCells i0.size i (.slice (some ⟨g, 0, none⟩) i cap)).run Try.prog w.drew = .ok (cellsB (l.take i)).toArray w.drew :=
    run_firstCells_some w.drew i0.size i ⟨g, 0, none⟩ i cap _ (by rw [htl, hz1]) (fun j u hu => by
      rw [adr_add, Nat.zero_add]
      rw [← cellsB_take, List.getElem?_take] at hu
      split at hu
      · exact hrow j u hu
      · cases hu)
  have hap := fun ty => Lib.run_append_grow_zeros (P := Try.prog) w 25 3 ty 47 i0 _ .i64 .i64 Try.underlying25 Try.underlying3 hi0 hz0 (some ⟨g, 0, none⟩) i cap (cellsB (l.take i)) hold (l.length + 1 - i) (by omega) (by omega) (by omega) (by omega) (by rw [hz2]; omega) (by rw [hz2, hik]; exact growslice_fits hroom (by omega))
  rw [hik, n3] at hap
  have hG1 := grownCap_ge w (l.length + 1) cap 47
  have hG2 := grownCap_le_maxLen w (l.length + 1) cap 47 (by unfold maxLen; omega)
  generalize grownCap w (l.length + 1) cap 47 = G at hap hG1 hG2
  have hzl : (Builtin.zeroCells (Value.agg #[.int .u64 0, .string ⟨#[]⟩]).cells (l.length + 1 - i) ++ Builtin.zeroCells (Value.agg #[.int .u64 0, .string ⟨#[]⟩]).cells (G - (l.length + 1))).toList.length = (G - i) * 2 := by
    rw [Array.length_toList, Array.size_append, size_zeroCells, size_zeroCells]
    simp only [Value.cells, List.size_toArray, List.length_cons, List.length_nil]
    omega
  obtain ⟨zz, hzz⟩ : ∃ zz, zz = (Builtin.zeroCells (Value.agg #[.int .u64 0, .string ⟨#[]⟩]).cells (l.length + 1 - i) ++ Builtin.zeroCells (Value.agg #[.int .u64 0, .string ⟨#[]⟩]).cells (G - (l.length + 1))).toList := ⟨_, rfl⟩
  have hR : (cellsB (l.take i)).toArray ++ Builtin.zeroCells (Value.agg #[.int .u64 0, .string ⟨#[]⟩]).cells (l.length + 1 - i) ++ Builtin.zeroCells (Value.agg #[.int .u64 0, .string ⟨#[]⟩]).cells (G - (l.length + 1)) = (cellsB (l.take i) ++ zz).toArray := by
    rw [hzz]; apply Array.toList_inj.1; simp
  rw [← hzz] at hzl
  rw [hR] at hap
  clear hR hzz hold
  have hq : ((w.drew.alloc (.cells (cellsB (l.take i) ++ zz).toArray 47))).heap[w.heap.size]? = some (.cells (cellsB (l.take i) ++ zz).toArray 47 (0, 0)) := heap_alloc_new w.drew _
  obtain ⟨c1, hc1⟩ : ∃ c1, c1 = (cellsB (l.take i) ++ zz).take (i * 2) ++ cellsB [r] ++ (cellsB (l.take i) ++ zz).drop (i * 2 + (cellsB [r]).length) := ⟨_, rfl⟩
  obtain ⟨f1, f2, f3⟩ := ins_grow l i r zz (by omega) (by omega) hc1
  have hcp1 : ∀ (W : World), W.heap = (w.drew.alloc (.cells (cellsB (l.take i) ++ zz).toArray 47)).heap → ∀ ty dc, (Builtin.copy_ #[25, 25] ty #[.slice (some ⟨w.heap.size, i * 2, none⟩) (l.length + 1 - i) dc, .slice (some ⟨vb, 0, none⟩) 1 1]).run Try.prog W = .ok (goInt (1 : Nat)) (W.setRow w.heap.size c1.toArray) := fun W hW ty dc => by
    have := run_copy_at (P := Try.prog) W 25 25 ty 47 i0 Try.underlying25 hi0 w.heap.size (i * 2) (cellsB (l.take i) ++ zz).toArray (by rw [hW]; exact hq) 1 (l.length + 1 - i) dc ⟨vb, 0, none⟩ 1 1 (by simp only [Nat.min_def]; split <;> omega) (cellsB [r]) (by rw [hz1]; rfl)
      (fun j u hu => by
        rw [adr_add, Nat.zero_add]
        have h2 : W.heap[vb]? = some (.cells #[.int .u64 (r.1 : Int), .string ⟨r.2.toArray⟩] 47 (0, 0)) := by rw [hW, Below.heap_alloc w.drew _ vb hvw]; exact hvb
        rw [cell_of_row _ _ _ _ _ _ h2]
        simpa [cellsB] using hu) (cellsB_one _) (by rw [show (cellsB [r]).length = 2 from rfl]; simp only [List.size_toArray, List.length_append, htl, hzl]; omega)
    rw [hc1]
    simpa using this
  have hcp2 : ∀ (W : World), W.heap = ((w.drew.alloc (.cells (cellsB (l.take i) ++ zz).toArray 47)).setRow w.heap.size c1.toArray).heap → ∀ ty dc sc, (Builtin.copy_ #[25, 25] ty #[.slice (some ⟨w.heap.size, (i + 1) * 2, none⟩) (l.length + 1 - (i + 1)) dc, .slice (some ⟨g, i * 2, none⟩) (l.length - i) sc]).run Try.prog W = .ok (goInt (l.length - i : Nat)) (W.setRow w.heap.size (c1.take ((i + 1) * 2) ++ cellsB (l.drop i) ++ c1.drop ((i + 1) * 2 + (cellsB (l.drop i)).length)).toArray) := fun W hW ty dc sc => by
    have hg1 : W.heap[w.heap.size]? = some (.cells c1.toArray 47 (0, 0)) := by rw [hW]; exact setRow_heap _ _ _ _ _ _ hq
    have := run_copy_at (P := Try.prog) W 25 25 ty 47 i0 Try.underlying25 hi0 w.heap.size ((i + 1) * 2) c1.toArray hg1 (l.length - i) (l.length + 1 - (i + 1)) dc ⟨g, i * 2, none⟩ (l.length - i) sc (by simp only [Nat.min_def]; split <;> omega) (cellsB (l.drop i)) (by rw [hdl, hz1])
      (fun j u hu => by
        rw [adr_add]
        have h2 : W.heap[g]? = some (.cells cur 47 (0, 0)) := by rw [hW, heap_setRow_other _ _ _ _ (by omega), Below.heap_alloc w.drew _ g hgw]; exact hg
        have h3 := hrow (i * 2 + j) u (by rw [← cellsB_drop, List.getElem?_drop] at hu; exact hu)
        rw [cell_of_row _ _ _ _ _ _ hg] at h3
        rw [cell_of_row _ _ _ _ _ _ h2]
        exact h3) (cellsB_one _) (by rw [hdl]; simp only [List.size_toArray, f3, hzl]; omega)
    simpa using this
  have hs2 := fun W => body_head (some ⟨g, 0, none⟩) l.length cap i (by omega) W
  have hs3 := fun W => body_tail_some w.heap.size (l.length + 1) G i (by omega) (by omega) W
  have hs4 := fun W => body_tail_some w.heap.size (l.length + 1) G (i + 1) (by omega) (by omega) W
  have hs5 := fun W => body_tail_some g l.length cap i (by omega) (by omega) W
  rw [n2] at hs4
  have mixed : Try.prog.follows Departure.mixedOrders = true := by kernel_rfl
  have q1 : (0 : Int) ≤ (i : Int) + 1 := by omega
  have q2 : (i : Int) + 1 ≤ (l.length : Int) + 1 := by omega
  have q3 : ((i : Int) + 1).toNat = i + 1 := by omega
  have q4 : ¬ (G = i + 1) := by omega
  have q5 : ¬ (G = i) := by omega
  have q6 : ¬ (cap = i) := by omega
  have q7 : (i : Int) ≤ (l.length : Int) := by omega
  have q8 : IntKind.i64.wrap ((i : Int) + 1) = (i : Int) + 1 := by rw [IntKind.wrap_i64]; omega
  have q9 : IntKind.i64.wrap ((l.length : Int) + 1 - (i : Int)) = (l.length : Int) + 1 - (i : Int) := by rw [IntKind.wrap_i64]; omega
  have q10 : wrap64 ((l.length : Int) + 1 - (i : Int)) = (l.length : Int) + 1 - (i : Int) := wrap64_id (is64_iff.2 (by omega))
  have b1 : (((i : Int)) == (l.length : Int)) = false := by simp; omega
  have b2 : decide ((cap : Int) < (l.length : Int) + 1) = true := by simp; omega
  have b3 : ¬ ((i : Int) = (l.length : Int)) := by omega
  have b4 : (cap : Int) < (l.length : Int) + 1 := by omega
  have HF1 := Lib.hid f1; have HF2 := Lib.hid f2; have HB := Lib.hid hbase; have HI := Lib.hid hi; have HG2 := Lib.hid hG2; have HG1 := Lib.hid hG1; have HZ := Lib.hid hzl; have HQ := Lib.hid hq
  generalize hc2 : c1.take ((i + 1) * 2) ++ cellsB (l.drop i) ++ c1.drop ((i + 1) * 2 + (cellsB (l.drop i)).length) = c2 at hcp2 HF1 HF2
  generalize (cellsB (l.take i) ++ zz).toArray = ROW at hap hcp1 hcp2 HQ
  have hr1 := fun ty dc => hcp1 (w.alloc (.cells ROW 47)).drew rfl ty dc
  have hr2 := fun ty dc sc => hcp2 ((w.alloc (.cells ROW 47)).drew.setRow w.heap.size c1.toArray).drew rfl ty dc sc
  clear hcp1 hcp2
  clear f1 f2 f3 hc1 hc2 hrow hdl htl ht hg hvb hi0 hz0 hz1 hz2 n1 n2 n3 hik hbase hzl hq hG2
  go_enter Try.func28, Try.ntmps28
  go_wp2_with (first
    | (at_builtin; refine Lib.wpList_append_run _ rfl _ _ _ _ rfl _ _ rfl rfl _ _ (hap _) ?_)
    | (at_builtin; refine wpList_copy_runI _ rfl _ _ 25 25 rfl _ _ rfl rfl (hr1 _ _) ?_)
    | fail)
  go_region_law_o (refine step_copy_runI rfl _ _ 25 25 rfl (.slice (some ⟨w.heap.size, (i + 1) * 2, none⟩) (l.length + 1 - (i + 1)) (G - (i + 1))) (.slice (some ⟨g, i * 2, none⟩) (l.length - i) (cap - i)) (by simp [Act.eval, Act.put]) (by simp [Act.eval, Act.put]) (hr2 _ (G - (i + 1)) (cap - i)) ?_)
  go_wp2_with fail
  go_ret
  have hfin : (((w.alloc (.cells ROW 47)).drew.setRow w.heap.size c1.toArray).drew.setRow w.heap.size c2.toArray).heap[w.heap.size]? = some (.cells c2.toArray 47 (0, 0)) := setRow_heap _ _ c1.toArray _ _ _ (setRow_heap _ _ ROW _ _ _ HQ.out)
  have hlen : (l.take i ++ r :: l.drop i).length = l.length + 1 := by simp only [List.length_append, List.length_take, List.length_cons, List.length_drop]; have := HI.out; omega
  refine ⟨_, rfl, ⟨cellsB_len _, .inr ⟨w.heap.size, G, c2.toArray, ?_, HB.out, hfin, ?_, HG2.out, ?_, ?_⟩⟩, ?_, .inr ⟨_, rfl, Nat.le_refl _⟩⟩
  · rw [hlen]
    rfl
  · rw [hlen]; exact HG1.out
  · have := HF2.out; have := HZ.out; have := HG1.out; have := HI.out; simp only [List.size_toArray]; omega
  · rw [hlen]; simpa using HF1.out
  · exact (((((Only.refl _ w).alloc _).drew).setRow (g := w.heap.size) (.inr (Nat.le_refl _)) _).drew).setRow (g := w.heap.size) (.inr (Nat.le_refl _)) _

/-- slices.Insert of one record -/
theorem insert_any {base : Nat} {v : Value} {l : Pg} {w : World} (hown : w.ownsRow base 47 2 v l.length (cellsB l)) (i : Nat) (hi : i ≤ l.length) (r : Bod) (vb : Nat) (hvb : w.heap[vb]? = some (.cells #[.int .u64 (r.1 : Int), .string ⟨r.2.toArray⟩] 47 (0, 0))) (hne : some vb ≠ v.ownBlock) (hl : l.length ≤ 1000) (hbase : base ≤ w.heap.size) :
    Calls Try.prog 28 #[v, .int .i64 i, .slice (some ⟨vb, 0, none⟩) 1 1] w (Inserted base w v (l.take i ++ r :: l.drop i)) := by
  by_cases he : i = l.length
  · subst he
    rw [List.take_length, List.drop_length]
    exact insert_end hown r vb hvb hl hbase
  · have hlt : i < l.length := by omega
    have hn0 : l.length ≠ 0 := by omega
    obtain ⟨A, c, rfl, hnc, hx⟩ := owns_form hown
    obtain ⟨g, cur, rfl, hb, hg, hcm, hcs, ht⟩ := hx hn0
    clear hx hn0
    have hvg : vb ≠ g := fun e => hne (by rw [e]; rfl)
    rcases Nat.lt_or_ge c (l.length + 1) with h | h
    · exact insert_grow hbase hg hnc ht i hlt h r vb hvb hl
    · exact insert_room hb hg hcm hcs ht i hlt h r vb hvb hvg hl

end Go.Proofs.Ytdfkahkomcfoeaa
