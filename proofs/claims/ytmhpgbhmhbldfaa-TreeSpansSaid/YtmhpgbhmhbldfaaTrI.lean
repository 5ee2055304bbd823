/- slices.Insert of one text (written by tools/ins1.py) -/
import Derived.Test.YtmhpgbhmhbldfaaTrA
import Derived.Test.YtmhpgbhmhbldfaaRowL
import Derived.BigRegion
import Derived.Lib.SlFresh
namespace Go.Proofs.Ytmhpgbhmhbldfaa
open Go.ChangeShapes Go.WideShapes Go.ChangeAt Go.RowKit

theorem info_bodyS : (Try.prog.info? 9).map (fun i => (i.zero, i.size, i.bytes)) = some (some (.string ⟨#[]⟩), 1, 16) := by kernel_rfl

theorem body_tailS (A : Option Addr) (n c i : Nat) (h : i ≤ n) (W : World) :
    (Instr.sliceAt 22 (.slice A n c) (some (.int .i64 i)) none none).run Try.prog W = .ok (.slice (if c = i then A else A.map (·.add (i))) (n - i) (c - i)) W := by
  have e2 : Try.prog.elem 22 = 9 := by kernel_rfl
  have hu : Try.prog.underlying 22 = some (.slice (Try.prog.elem 22)) := by rw [e2]; exact Try.underlying22
  have hs : (sizeOf (Try.prog.elem 22)).run Try.prog W = .ok 1 W := by rw [e2]; exact Try.sizeOf9 W
  rw [run_sliceAt_slice W 22 _ _ _ _ hu, run_slice_l W 22 A n c hu .i64 i (by omega) (by omega), hs]
  simp only [Result.andThen_ok, sliced, Int.toNat_natCast, Nat.mul_one]

theorem body_tail_someS (g n c i : Nat) (h : i ≤ n) (hc : i < c) (W : World) :
    (Instr.sliceAt 22 (.slice (some ⟨g, 0, none⟩) n c) (some (.int .i64 i)) none none).run Try.prog W = .ok (.slice (some ⟨g, i, none⟩) (n - i) (c - i)) W := by
  rw [body_tailS _ _ _ _ h, if_neg (by omega)]
  simp [adr_add]

theorem body_headS (A : Option Addr) (n c i : Nat) (h : i ≤ c) (W : World) :
    (Instr.sliceAt 22 (.slice A n c) none (some (.int .i64 i)) none).run Try.prog W = .ok (.slice A i c) W := by
  have e2 : Try.prog.elem 22 = 9 := by kernel_rfl
  have hu : Try.prog.underlying 22 = some (.slice (Try.prog.elem 22)) := by rw [e2]; exact Try.underlying22
  have hs : (sizeOf (Try.prog.elem 22)).run Try.prog W = .ok 1 W := by rw [e2]; exact Try.sizeOf9 W
  rw [run_sliceAt_slice W 22 _ _ _ _ hu, run_slice_h W 22 A n c hu .i64 i (by omega) (by omega), hs]
  simp only [Result.andThen_ok, sliced, Int.toNat_natCast, Nat.zero_mul]
  cases A with
  | none => simp
  | some a => simp [Addr.add]

/-- a row's cells -/
def cellsS (l : List ByteArray) : List Value := l.map fun (r : ByteArray) => .string r

theorem cellsS_len (l : List ByteArray) : (cellsS l).length = l.length := by unfold cellsS; simp
theorem cellsS_app (a b : List ByteArray) : cellsS (a ++ b) = cellsS a ++ cellsS b := by unfold cellsS; simp
theorem cellsS_one (l : List ByteArray) (u : Value) (h : u ∈ cellsS l) : u.oneCell' = true := by
  obtain ⟨r, -, rfl⟩ := List.mem_map.1 h
  rfl
theorem cellsS_take (l : List ByteArray) (i : Nat) : (cellsS l).take i = cellsS (l.take i) := by unfold cellsS; rw [List.map_take]
theorem cellsS_drop (l : List ByteArray) (i : Nat) : (cellsS l).drop i = cellsS (l.drop i) := by unfold cellsS; rw [List.map_drop]

/-- the cells behind the two copies, where there was room -/
theorem ins_roomS (cur : List Value) (l : List ByteArray) (i : Nat) (r : ByteArray) (hi : i ≤ l.length) (htake : cur.take (l.length) = cellsS l) (hcap : (l.length + 1) ≤ cur.length) {c1 : List Value} (h1 : c1 = cur.take ((i + 1)) ++ cellsS (l.drop i) ++ cur.drop ((i + 1) + (cellsS (l.drop i)).length)) :
    (c1.take (i) ++ cellsS [r] ++ c1.drop (i + (cellsS [r]).length)).take ((l.length + 1)) = cellsS (l.take i ++ r :: l.drop i) ∧ (c1.take (i) ++ cellsS [r] ++ c1.drop (i + (cellsS [r]).length)).length = cur.length ∧ c1.length = cur.length := by
  have hdl : (cellsS (l.drop i)).length = (l.length - i) := by rw [cellsS_len, List.length_drop]
  have hrl : (cellsS [r]).length = 1 := rfl
  have hc1 : c1.length = cur.length := by
    rw [h1]; simp only [List.length_append, List.length_take, List.length_drop, hdl]; omega
  have e1 : c1.take (i) = cellsS (l.take i) := by
    rw [h1, List.append_assoc, List.take_append_of_le_length (by rw [List.length_take]; omega), List.take_take, ← cellsS_take l i, ← htake, List.take_take]
    congr 1
    omega
  have e2 : c1.drop (i + 1) = cellsS (l.drop i) ++ cur.drop ((i + 1) + (cellsS (l.drop i)).length) := by
    rw [h1, List.append_assoc]
    exact List.drop_left' (by rw [List.length_take]; omega)
  rw [hrl, e1, e2]
  refine ⟨?_, ?_, hc1⟩
  · have e3 : cellsS (l.take i) ++ cellsS [r] ++ (cellsS (l.drop i) ++ cur.drop ((i + 1) + (cellsS (l.drop i)).length)) = cellsS (l.take i ++ r :: l.drop i) ++ cur.drop ((i + 1) + (cellsS (l.drop i)).length) := by
      rw [cellsS_app]
      simp [cellsS]
    rw [e3]
    have hl : (cellsS (l.take i ++ r :: l.drop i)).length = (l.length + 1) := by
      rw [cellsS_len]; simp only [List.length_append, List.length_take, List.length_cons, List.length_drop]; omega
    rw [List.take_append_of_le_length (by omega), List.take_of_length_le (by omega)]
  · simp only [List.length_append, List.length_drop, hdl, hrl, cellsS_len, List.length_take]
    omega

/-- a row of one's own is nil, or a block from its first cell on -/
theorem owns_formS {w : World} {base : Nat} {e : TypeId} {size : Nat} {v : Value} {n : Nat} {xs : List Value} (h : w.ownsRow base e size v n xs) : ∃ A c, v = .slice A n c ∧ n ≤ c ∧ (n ≠ 0 → ∃ g cur, A = some ⟨g, 0, none⟩ ∧ base ≤ g ∧ w.heap[g]? = some (.cells cur e (0, 0)) ∧ c ≤ maxLen ∧ cur.size = c * size ∧ cur.toList.take (n * size) = xs) := by
  rcases h.2 with ⟨rfl, rfl⟩ | ⟨g, cap, cur, rfl, hb, hg, hnc, hcm, hcs, ht⟩
  · exact ⟨none, 0, rfl, Nat.le_refl _, fun h => absurd rfl h⟩
  · exact ⟨_, cap, rfl, hnc, fun _ => ⟨g, cur, rfl, hb, hg, hcm, hcs, ht⟩⟩

/-- what slices.Insert leaves -/
def InsertedS (base : Nat) (w : World) (v : Value) (l : List ByteArray) (e : Ending) (w' : World) : Prop :=
  ∃ v', e = .returned v' ∧ w'.ownsRow base 9 1 v' l.length (cellsS l) ∧ Only (fun k => some k = v.ownBlock) w w' ∧ (v'.ownBlock = v.ownBlock ∨ ∃ g, v'.ownBlock = some g ∧ w.heap.size ≤ g)

theorem grown_onlyS {w w' : World} {v : Value} (h : w.grownBy w' v.ownBlock) : Only (fun k => some k = v.ownBlock) w w' :=
  ⟨h.os, h.tape, h.output, h.size, fun k hk hn => h.block k hk hn⟩

set_option maxHeartbeats 4000000 in
set_option maxRecDepth 100000 in
/-- .. at the end -/
theorem insert_endS {base : Nat} {v : Value} {l : List ByteArray} {w : World} (hown : w.ownsRow base 9 1 v l.length (cellsS l)) (r : ByteArray) (vb : Nat) (hvb : w.heap[vb]? = some (.cells #[.string r] 9 (0, 0))) (hl : l.length ≤ 1000) (hbase : base ≤ w.heap.size) :
    Calls Try.prog 52 #[v, .int .i64 l.length, .slice (some ⟨vb, 0, none⟩) 1 1] w (InsertedS base w v (l ++ [r])) := by
  obtain ⟨i0, hi0, hz0, hz1, hz2⟩ := info_parts info_bodyS
  obtain ⟨v', w2, hr, hown', hgr, hA⟩ := run_append_fresh (P := Try.prog) w base 22 22 9 i0 _ 1 16 Try.underlying22 hi0 hz0 hz1 hz2 rfl (by decide) v l.length (cellsS l) hown ⟨vb, 0, none⟩ 1 1 (cellsS [r]) rfl
    (fun j u hj => by rw [adr_add, Nat.zero_add, cell_of_row _ _ _ _ _ _ hvb]; simpa [cellsS] using hj) (cellsS_one [r]) (by unfold maxLen; omega) (by omega) hbase (by decide)
  obtain ⟨A, c, rfl, hnc, -⟩ := owns_formS hown
  have hsl := fun W => body_tailS A l.length c l.length (Nat.le_refl _) W
  generalize Value.slice (if c = l.length then A else A.map (·.add (l.length))) (l.length - l.length) (c - l.length) = nv at hsl
  have HO := Lib.hid hown'; have HG := Lib.hid hgr; have HA := Lib.hid hA
  clear hown hown' hgr hA hvb hbase hi0 hz0 hz1 hz2
  go_enter Try.func52, Try.ntmps52
  go_wp2_with (first
    | (at_builtin; refine Lib.wpList_append_run _ rfl _ _ _ _ rfl _ _ rfl rfl _ _ hr ?_)
    | fail)
  go_ret
  refine ⟨_, rfl, ?_, grown_onlyS HG.out, HA.out.imp id fun h => ⟨_, h, Nat.le_refl _⟩⟩
  rw [List.length_append, cellsS_app]
  exact HO.out

set_option maxHeartbeats 4000000 in
set_option maxRecDepth 100000 in
/-- .. ahead of others, where there is room -/
theorem insert_roomS {base g cap : Nat} {cur : Array Value} {l : List ByteArray} {w : World} (hb : base ≤ g) (hg : w.heap[g]? = some (.cells cur 9 (0, 0))) (hcm : cap ≤ maxLen) (hcs : cur.size = cap) (ht : cur.toList.take (l.length) = cellsS l)
    (i : Nat) (hi : i < l.length) (hroom : l.length + 1 ≤ cap) (r : ByteArray) (vb : Nat) (hvb : w.heap[vb]? = some (.cells #[.string r] 9 (0, 0))) (hne : vb ≠ g) (hl : l.length ≤ 1000) :
    Calls Try.prog 52 #[.slice (some ⟨g, 0, none⟩) l.length cap, .int .i64 i, .slice (some ⟨vb, 0, none⟩) 1 1] w (InsertedS base w (.slice (some ⟨g, 0, none⟩) l.length cap) (l.take i ++ r :: l.drop i)) := by
  obtain ⟨i0, hi0, hz0, hz1, hz2⟩ := info_parts info_bodyS
  have hcl : cap = cur.toList.length := by rw [Array.length_toList, hcs]
  have hrow : ∀ j u, (cellsS l)[j]? = some u → w.cell? ⟨g, j, none⟩ = some u := fun j u hu => by
    rw [cell_of_row _ _ _ _ _ _ hg, ← Array.getElem?_toList]
    rw [← ht, List.getElem?_take] at hu
    split at hu
    · exact hu
    · cases hu
  have hdl : (cellsS (l.drop i)).length = (l.length - i) := by rw [cellsS_len, List.length_drop]
  obtain ⟨c1, hc1⟩ : ∃ c1, c1 = cur.toList.take ((i + 1)) ++ cellsS (l.drop i) ++ cur.toList.drop ((i + 1) + (cellsS (l.drop i)).length) := ⟨_, rfl⟩
  obtain ⟨f1, f2, f3⟩ := ins_roomS cur.toList l i r (by omega) ht (by omega) hc1
  have hcp1 : ∀ (W : World), W.heap = w.heap → ∀ ty dc sc, (Builtin.copy_ #[22, 22] ty #[.slice (some ⟨g, (i + 1), none⟩) (l.length + 1 - (i + 1)) dc, .slice (some ⟨g, i, none⟩) (l.length + 1 - i) sc]).run Try.prog W = .ok (goInt (l.length - i : Nat)) (W.setRow g c1.toArray) := fun W hW ty dc sc => by
    rw [hc1]
    exact run_copy_at W _ _ ty 9 i0 Try.underlying22 hi0 g _ cur (by rw [hW]; exact hg) (l.length - i) _ _ _ _ _ (by simp only [Nat.min_def]; split <;> omega) (cellsS (l.drop i)) (by rw [hdl, hz1, Nat.mul_one])
      (fun j u hu => by
        rw [adr_add]
        have := hrow (i + j) u (by rw [← cellsS_drop, List.getElem?_drop] at hu; exact hu)
        simpa [World.cell?, hW] using this) (cellsS_one _) (by rw [hdl, hcs]; omega)
  have hcp2 : ∀ (W : World), W.heap = (w.setRow g c1.toArray).heap → ∀ ty dc, (Builtin.copy_ #[22, 22] ty #[.slice (some ⟨g, i, none⟩) (l.length + 1 - i) dc, .slice (some ⟨vb, 0, none⟩) 1 1]).run Try.prog W = .ok (goInt (1 : Nat)) (W.setRow g (c1.take (i) ++ cellsS [r] ++ c1.drop (i + (cellsS [r]).length)).toArray) := fun W hW ty dc => by
    have hg1 : W.heap[g]? = some (.cells c1.toArray 9 (0, 0)) := by rw [hW]; exact setRow_heap w g cur _ _ _ hg
    have := run_copy_at (P := Try.prog) W 22 22 ty 9 i0 Try.underlying22 hi0 g (i) c1.toArray hg1 1 (l.length + 1 - i) dc ⟨vb, 0, none⟩ 1 1 (by simp only [Nat.min_def]; split <;> omega) (cellsS [r]) (by rw [hz1]; rfl)
      (fun j u hu => by
        rw [adr_add, Nat.zero_add]
        have h2 : W.heap[vb]? = some (.cells #[.string r] 9 (0, 0)) := by rw [hW, heap_setRow_other _ _ _ _ hne]; exact hvb
        rw [cell_of_row _ _ _ _ _ _ h2]
        simpa [cellsS] using hu) (cellsS_one _) (by rw [show (cellsS [r]).length = 1 from rfl]; simp only [List.size_toArray]; omega)
    simpa using this
  have n1 : ((l.length + 1 : Nat) : Int) = (l.length : Int) + 1 := by omega
  have n2 : ((i + 1 : Nat) : Int) = (i : Int) + 1 := by omega
  have hs1 := fun W => body_tail_someS g l.length cap i (by omega) (by omega) W
  have hs2 := fun W => body_headS (some ⟨g, 0, none⟩) l.length cap (l.length + 1) hroom W
  have hs3 := fun W => body_tail_someS g (l.length + 1) cap (i + 1) (by omega) (by omega) W
  have hs4 := fun W => body_tail_someS g (l.length + 1) cap i (by omega) (by omega) W
  rw [n1] at hs2
  rw [n2] at hs3
  have hsa : w.shape? vb = some (9, 1) := by simp [World.shape?, hvb]
  have hsb : w.shape? g = some (9, cap) := by simp [World.shape?, hg, hcs]
  have hov : ∀ lb cb, (callFunc 64 #[.slice (some ⟨vb, 0, none⟩) 1 1, .slice (some ⟨g, (i + 1), none⟩) lb cb]).run Try.prog w = .ok (.value (.bool false)) w := fun lb cb => by
    rw [run_callFunc_extern Try.func64 (by kernel_rfl) (by kernel_rfl) (by kernel_rfl) (e := Extern.SlicesOverlaps.overlaps #[22, 22] #[4]) (by kernel_rfl),
      Lib.run_overlaps_apart w 22 4 9 Try.underlying22 1 Try.sizeOf9 ⟨vb, 0, none⟩ ⟨g, (i + 1), none⟩ 1 1 lb cb hne 9 9 1 (cap) hsa hsb (by omega) (by simp [World.frozen?, hvb]) (by simp [World.frozen?, hvb])]
    rfl
  have b1 : (((i : Int)) == (l.length : Int)) = false := by simp; omega
  have b2 : decide ((cap : Int) < (l.length : Int) + 1) = false := by simp; omega
  have mixed : Try.prog.follows Departure.mixedOrders = true := by kernel_rfl
  have q1 : (0 : Int) ≤ (i : Int) + 1 := by omega
  have q2 : (i : Int) + 1 ≤ (l.length : Int) + 1 := by omega
  have q3 : ((i : Int) + 1).toNat = i + 1 := by omega
  have q4 : ¬ (cap = i + 1) := by omega
  have q5 : ¬ (cap = i) := by omega
  have q6 : i ≤ l.length + 1 := by omega
  have q7 : (i : Int) ≤ (l.length : Int) + 1 := by omega
  have q8 : IntKind.i64.wrap ((i : Int) + 1) = (i : Int) + 1 := by rw [IntKind.wrap_i64]; omega
  have HF1 := Lib.hid f1; have HF2 := Lib.hid f2; have HG := Lib.hid hg; have HCS := Lib.hid hcs; have HB := Lib.hid hb; have HCM := Lib.hid hcm; have HRO := Lib.hid hroom; have HI := Lib.hid hi
  generalize hc2 : c1.take (i) ++ cellsS [r] ++ c1.drop (i + (cellsS [r]).length) = c2 at hcp2 HF1 HF2
  have hr1 := fun ty dc sc => hcp1 w.drew rfl ty dc sc
  have hr2 := fun ty dc => hcp2 ((w.drew).setRow g c1.toArray) rfl ty dc
  clear f1 f2 f3 hc1 hc2 hcp1 hcp2 hrow hsa hsb hdl hcl ht hg hcs hb hcm hvb hne hi0 hz0 hz1 hz2 n1 n2
  go_enter Try.func52, Try.ntmps52
  go_wp2_with (simp only [hov])
  go_region_law_o (refine step_copy_runI rfl _ _ 22 22 rfl (.slice (some ⟨g, (i + 1), none⟩) (l.length + 1 - (i + 1)) (cap - (i + 1))) (.slice (some ⟨g, i, none⟩) (l.length + 1 - i) (cap - i)) (by simp [Act.eval, Act.put]) (by simp [Act.eval, Act.put]) (hr1 _ (cap - (i + 1)) (cap - i)) ?_)
  go_wp2_with (at_builtin; refine wpList_copy_runI _ rfl _ _ 22 22 rfl _ _ rfl rfl (hr2 _ _) ?_)
  go_ret
  have hfin : ((w.drew.setRow g c1.toArray).setRow g c2.toArray).heap[g]? = some (.cells c2.toArray 9 (0, 0)) := setRow_heap _ g c1.toArray _ _ _ (setRow_heap w.drew g cur _ _ _ HG.out)
  refine ⟨_, rfl, ⟨(cellsS_len _).trans (Nat.mul_one _).symm, .inr ⟨g, cap, c2.toArray, ?_, HB.out, hfin, ?_, HCM.out, ?_, ?_⟩⟩, ?_, .inl rfl⟩
  · have : (l.take i ++ r :: l.drop i).length = l.length + 1 := by simp only [List.length_append, List.length_take, List.length_cons, List.length_drop]; have := HI.out; omega
    rw [this]
    rfl
  · have := HI.out; have := HRO.out; simp only [List.length_append, List.length_take, List.length_cons, List.length_drop]; omega
  · have := HF2.out; simp only [List.size_toArray, Array.length_toList, Nat.mul_one] at this ⊢; rw [this, HCS.out]
  · have : (l.take i ++ r :: l.drop i).length = l.length + 1 := by simp only [List.length_append, List.length_take, List.length_cons, List.length_drop]; have := HI.out; omega
    rw [this]; simpa using HF1.out
  · have ho : Only (fun k => k = g) w ((w.drew.setRow g c1.toArray).setRow g c2.toArray) := (((Only.refl (fun k => k = g) w).drew).setRow (g := g) (.inl rfl) _).setRow (g := g) (.inl rfl) _
    exact ho.mono fun k _ hk => by rw [hk]; rfl

/-- the cells behind the two copies, where there was no room -/
theorem ins_growS (l : List ByteArray) (i : Nat) (r : ByteArray) (z : List Value) (hi : i ≤ l.length) (hz : (l.length + 1 - i) ≤ z.length) {c1 : List Value} (h1 : c1 = (cellsS (l.take i) ++ z).take (i) ++ cellsS [r] ++ (cellsS (l.take i) ++ z).drop (i + (cellsS [r]).length)) :
    (c1.take ((i + 1)) ++ cellsS (l.drop i) ++ c1.drop ((i + 1) + (cellsS (l.drop i)).length)).take ((l.length + 1)) = cellsS (l.take i ++ r :: l.drop i) ∧ (c1.take ((i + 1)) ++ cellsS (l.drop i) ++ c1.drop ((i + 1) + (cellsS (l.drop i)).length)).length = i + z.length ∧ c1.length = i + z.length := by
  have hdl : (cellsS (l.drop i)).length = (l.length - i) := by rw [cellsS_len, List.length_drop]
  have htl : (cellsS (l.take i)).length = i := by rw [cellsS_len, List.length_take]; omega
  have hrl : (cellsS [r]).length = 1 := rfl
  have hc1 : c1.length = i + z.length := by
    rw [h1]; simp only [List.length_append, List.length_take, List.length_drop, htl, hrl]; omega
  have e1 : c1.take ((i + 1)) = cellsS (l.take i ++ [r]) := by
    rw [h1, List.take_append_of_le_length (by simp only [List.length_append, List.length_take, htl, hrl]; omega), List.take_append_of_le_length (l₁ := cellsS (l.take i)) (by omega), List.take_of_length_le (l := cellsS (l.take i)) (by omega), ← cellsS_app]
    exact List.take_of_length_le (by rw [cellsS_len, List.length_append, List.length_take]; simp only [List.length_cons, List.length_nil]; omega)
  rw [e1]
  refine ⟨?_, ?_, hc1⟩
  · have e3 : cellsS (l.take i ++ [r]) ++ cellsS (l.drop i) = cellsS (l.take i ++ r :: l.drop i) := by rw [← cellsS_app]; simp
    rw [e3]
    have hl : (cellsS (l.take i ++ r :: l.drop i)).length = (l.length + 1) := by
      rw [cellsS_len]; simp only [List.length_append, List.length_take, List.length_cons, List.length_drop]; omega
    rw [List.take_append_of_le_length (by omega), List.take_of_length_le (by omega)]
  · have : (cellsS (l.take i ++ [r])).length = (i + 1) := by rw [cellsS_len, List.length_append, List.length_take]; simp only [List.length_cons, List.length_nil]; omega
    simp only [List.length_append, List.length_drop, hdl, this, hc1]
    omega

set_option maxHeartbeats 4000000 in
set_option maxRecDepth 100000 in
/-- .. ahead of others, where there is no room -/
theorem insert_growS {base g cap : Nat} {cur : Array Value} {l : List ByteArray} {w : World} (hbase : base ≤ w.heap.size) (hg : w.heap[g]? = some (.cells cur 9 (0, 0))) (hnc : l.length ≤ cap) (ht : cur.toList.take (l.length) = cellsS l)
    (i : Nat) (hi : i < l.length) (hroom : cap < l.length + 1) (r : ByteArray) (vb : Nat) (hvb : w.heap[vb]? = some (.cells #[.string r] 9 (0, 0))) (hl : l.length ≤ 1000) :
    Calls Try.prog 52 #[.slice (some ⟨g, 0, none⟩) l.length cap, .int .i64 i, .slice (some ⟨vb, 0, none⟩) 1 1] w (InsertedS base w (.slice (some ⟨g, 0, none⟩) l.length cap) (l.take i ++ r :: l.drop i)) := by
  obtain ⟨i0, hi0, hz0, hz1, hz2⟩ := info_parts info_bodyS
  have hgw : g < w.heap.size := (Array.getElem?_eq_some_iff.1 hg).1
  have hvw : vb < w.heap.size := (Array.getElem?_eq_some_iff.1 hvb).1
  have hrow : ∀ j u, (cellsS l)[j]? = some u → w.cell? ⟨g, j, none⟩ = some u := fun j u hu => by
    rw [cell_of_row _ _ _ _ _ _ hg, ← Array.getElem?_toList]
    rw [← ht, List.getElem?_take] at hu
    split at hu
    · exact hu
    · cases hu
  have hdl : (cellsS (l.drop i)).length = (l.length - i) := by rw [cellsS_len, List.length_drop]
  have htl : (cellsS (l.take i)).length = i := by rw [cellsS_len, List.length_take]; omega
  have n1 : ((l.length + 1 : Nat) : Int) = (l.length : Int) + 1 := by omega
  have n2 : ((i + 1 : Nat) : Int) = (i : Int) + 1 := by omega
  have n3 : ((l.length + 1 - i : Nat) : Int) = (l.length : Int) + 1 - (i : Int) := by omega
  have hik : i + (l.length + 1 - i) = l.length + 1 := by omega
  have hold : (Builtin.firstCells i0.size i (.slice (some ⟨g, 0, none⟩) i cap)).run Try.prog w.drew = .ok (cellsS (l.take i)).toArray w.drew :=
    run_firstCells_some w.drew i0.size i ⟨g, 0, none⟩ i cap _ (by rw [htl, hz1, Nat.mul_one]) (fun j u hu => by
      rw [adr_add, Nat.zero_add]
      rw [← cellsS_take, List.getElem?_take] at hu
      split at hu
      · exact hrow j u hu
      · cases hu)
  have hap := fun ty => Lib.run_append_grow_zeros (P := Try.prog) w 22 3 ty 9 i0 _ .i64 .i64 Try.underlying22 Try.underlying3 hi0 hz0 (some ⟨g, 0, none⟩) i cap (cellsS (l.take i)) hold (l.length + 1 - i) (by omega) (by omega) (by omega) (by omega) (by rw [hz2]; omega) (by rw [hz2, hik]; exact growslice_fits hroom (by omega))
  rw [hik, n3] at hap
  have hG1 := grownCap_ge w (l.length + 1) cap 9
  have hG2 := grownCap_le_maxLen w (l.length + 1) cap 9 (by unfold maxLen; omega)
  generalize grownCap w (l.length + 1) cap 9 = G at hap hG1 hG2
  have hzl : (Builtin.zeroCells (Value.string ⟨#[]⟩).cells (l.length + 1 - i) ++ Builtin.zeroCells (Value.string ⟨#[]⟩).cells (G - (l.length + 1))).toList.length = (G - i) := by
    rw [Array.length_toList, Array.size_append, size_zeroCells, size_zeroCells]
    simp only [Value.cells, List.size_toArray, List.length_cons, List.length_nil]
    omega
  obtain ⟨zz, hzz⟩ : ∃ zz, zz = (Builtin.zeroCells (Value.string ⟨#[]⟩).cells (l.length + 1 - i) ++ Builtin.zeroCells (Value.string ⟨#[]⟩).cells (G - (l.length + 1))).toList := ⟨_, rfl⟩
  have hR : (cellsS (l.take i)).toArray ++ Builtin.zeroCells (Value.string ⟨#[]⟩).cells (l.length + 1 - i) ++ Builtin.zeroCells (Value.string ⟨#[]⟩).cells (G - (l.length + 1)) = (cellsS (l.take i) ++ zz).toArray := by
    rw [hzz]; apply Array.toList_inj.1; simp
  rw [← hzz] at hzl
  rw [hR] at hap
  clear hR hzz hold
  have hq : ((w.drew.alloc (.cells (cellsS (l.take i) ++ zz).toArray 9))).heap[w.heap.size]? = some (.cells (cellsS (l.take i) ++ zz).toArray 9 (0, 0)) := heap_alloc_new w.drew _
  obtain ⟨c1, hc1⟩ : ∃ c1, c1 = (cellsS (l.take i) ++ zz).take (i) ++ cellsS [r] ++ (cellsS (l.take i) ++ zz).drop (i + (cellsS [r]).length) := ⟨_, rfl⟩
  obtain ⟨f1, f2, f3⟩ := ins_growS l i r zz (by omega) (by omega) hc1
  have hcp1 : ∀ (W : World), W.heap = (w.drew.alloc (.cells (cellsS (l.take i) ++ zz).toArray 9)).heap → ∀ ty dc, (Builtin.copy_ #[22, 22] ty #[.slice (some ⟨w.heap.size, i, none⟩) (l.length + 1 - i) dc, .slice (some ⟨vb, 0, none⟩) 1 1]).run Try.prog W = .ok (goInt (1 : Nat)) (W.setRow w.heap.size c1.toArray) := fun W hW ty dc => by
    have := run_copy_at (P := Try.prog) W 22 22 ty 9 i0 Try.underlying22 hi0 w.heap.size (i) (cellsS (l.take i) ++ zz).toArray (by rw [hW]; exact hq) 1 (l.length + 1 - i) dc ⟨vb, 0, none⟩ 1 1 (by simp only [Nat.min_def]; split <;> omega) (cellsS [r]) (by rw [hz1]; rfl)
      (fun j u hu => by
        rw [adr_add, Nat.zero_add]
        have h2 : W.heap[vb]? = some (.cells #[.string r] 9 (0, 0)) := by rw [hW, Below.heap_alloc w.drew _ vb hvw]; exact hvb
        rw [cell_of_row _ _ _ _ _ _ h2]
        simpa [cellsS] using hu) (cellsS_one _) (by rw [show (cellsS [r]).length = 1 from rfl]; simp only [List.size_toArray, List.length_append, htl, hzl]; omega)
    rw [hc1]
    simpa using this
  have hcp2 : ∀ (W : World), W.heap = ((w.drew.alloc (.cells (cellsS (l.take i) ++ zz).toArray 9)).setRow w.heap.size c1.toArray).heap → ∀ ty dc sc, (Builtin.copy_ #[22, 22] ty #[.slice (some ⟨w.heap.size, (i + 1), none⟩) (l.length + 1 - (i + 1)) dc, .slice (some ⟨g, i, none⟩) (l.length - i) sc]).run Try.prog W = .ok (goInt (l.length - i : Nat)) (W.setRow w.heap.size (c1.take ((i + 1)) ++ cellsS (l.drop i) ++ c1.drop ((i + 1) + (cellsS (l.drop i)).length)).toArray) := fun W hW ty dc sc => by
    have hg1 : W.heap[w.heap.size]? = some (.cells c1.toArray 9 (0, 0)) := by rw [hW]; exact setRow_heap _ _ _ _ _ _ hq
    have := run_copy_at (P := Try.prog) W 22 22 ty 9 i0 Try.underlying22 hi0 w.heap.size ((i + 1)) c1.toArray hg1 (l.length - i) (l.length + 1 - (i + 1)) dc ⟨g, i, none⟩ (l.length - i) sc (by simp only [Nat.min_def]; split <;> omega) (cellsS (l.drop i)) (by rw [hdl, hz1, Nat.mul_one])
      (fun j u hu => by
        rw [adr_add]
        have h2 : W.heap[g]? = some (.cells cur 9 (0, 0)) := by rw [hW, heap_setRow_other _ _ _ _ (by omega), Below.heap_alloc w.drew _ g hgw]; exact hg
        have h3 := hrow (i + j) u (by rw [← cellsS_drop, List.getElem?_drop] at hu; exact hu)
        rw [cell_of_row _ _ _ _ _ _ hg] at h3
        rw [cell_of_row _ _ _ _ _ _ h2]
        exact h3) (cellsS_one _) (by rw [hdl]; simp only [List.size_toArray, f3, hzl]; omega)
    simpa using this
  have hs2 := fun W => body_headS (some ⟨g, 0, none⟩) l.length cap i (by omega) W
  have hs3 := fun W => body_tail_someS w.heap.size (l.length + 1) G i (by omega) (by omega) W
  have hs4 := fun W => body_tail_someS w.heap.size (l.length + 1) G (i + 1) (by omega) (by omega) W
  have hs5 := fun W => body_tail_someS g l.length cap i (by omega) (by omega) W
  rw [n2] at hs4
  have mixed : Try.prog.follows Departure.mixedOrders = true := by kernel_rfl
  have q1 : (0 : Int) ≤ (i : Int) + 1 := by omega
  have q2 : (i : Int) + 1 ≤ (l.length : Int) + 1 := by omega
  have q3 : ((i : Int) + 1).toNat = i + 1 := by omega
  have q4 : ¬ (G = i + 1) := by omega
  have q5 : ¬ (G = i) := by omega
  have q6 : ¬ (cap = i) := by omega
  have q7 : (i : Int) ≤ (l.length : Int) := by omega
  have q8 : IntKind.i64.wrap ((i : Int) + 1) = (i : Int) + 1 := by rw [IntKind.wrap_i64]; omega
  have q9 : IntKind.i64.wrap ((l.length : Int) + 1 - (i : Int)) = (l.length : Int) + 1 - (i : Int) := by rw [IntKind.wrap_i64]; omega
  have q10 : wrap64 ((l.length : Int) + 1 - (i : Int)) = (l.length : Int) + 1 - (i : Int) := wrap64_id (is64_iff.2 (by omega))
  have b1 : (((i : Int)) == (l.length : Int)) = false := by simp; omega
  have b2 : decide ((cap : Int) < (l.length : Int) + 1) = true := by simp; omega
  have b3 : ¬ ((i : Int) = (l.length : Int)) := by omega
  have b4 : (cap : Int) < (l.length : Int) + 1 := by omega
  have HF1 := Lib.hid f1; have HF2 := Lib.hid f2; have HB := Lib.hid hbase; have HI := Lib.hid hi; have HG2 := Lib.hid hG2; have HG1 := Lib.hid hG1; have HZ := Lib.hid hzl; have HQ := Lib.hid hq
  generalize hc2 : c1.take ((i + 1)) ++ cellsS (l.drop i) ++ c1.drop ((i + 1) + (cellsS (l.drop i)).length) = c2 at hcp2 HF1 HF2
  generalize (cellsS (l.take i) ++ zz).toArray = ROW at hap hcp1 hcp2 HQ
  have hr1 := fun ty dc => hcp1 (w.alloc (.cells ROW 9)).drew rfl ty dc
  have hr2 := fun ty dc sc => hcp2 ((w.alloc (.cells ROW 9)).drew.setRow w.heap.size c1.toArray).drew rfl ty dc sc
  clear hcp1 hcp2
  clear f1 f2 f3 hc1 hc2 hrow hdl htl ht hg hvb hi0 hz0 hz1 hz2 n1 n2 n3 hik hbase hzl hq hG2
  go_enter Try.func52, Try.ntmps52
  go_wp2_with (first
    | (at_builtin; refine Lib.wpList_append_run _ rfl _ _ _ _ rfl _ _ rfl rfl _ _ (hap _) ?_)
    | (at_builtin; refine wpList_copy_runI _ rfl _ _ 22 22 rfl _ _ rfl rfl (hr1 _ _) ?_)
    | fail)
  go_region_law_o (refine step_copy_runI rfl _ _ 22 22 rfl (.slice (some ⟨w.heap.size, (i + 1), none⟩) (l.length + 1 - (i + 1)) (G - (i + 1))) (.slice (some ⟨g, i, none⟩) (l.length - i) (cap - i)) (by simp [Act.eval, Act.put]) (by simp [Act.eval, Act.put]) (hr2 _ (G - (i + 1)) (cap - i)) ?_)
  go_wp2_with fail
  go_ret
  have hfin : (((w.alloc (.cells ROW 9)).drew.setRow w.heap.size c1.toArray).drew.setRow w.heap.size c2.toArray).heap[w.heap.size]? = some (.cells c2.toArray 9 (0, 0)) := setRow_heap _ _ c1.toArray _ _ _ (setRow_heap _ _ ROW _ _ _ HQ.out)
  have hlen : (l.take i ++ r :: l.drop i).length = l.length + 1 := by simp only [List.length_append, List.length_take, List.length_cons, List.length_drop]; have := HI.out; omega
  refine ⟨_, rfl, ⟨(cellsS_len _).trans (Nat.mul_one _).symm, .inr ⟨w.heap.size, G, c2.toArray, ?_, HB.out, hfin, ?_, HG2.out, ?_, ?_⟩⟩, ?_, .inr ⟨_, rfl, Nat.le_refl _⟩⟩
  · rw [hlen]
    rfl
  · rw [hlen]; exact HG1.out
  · have := HF2.out; have := HZ.out; have := HG1.out; have := HI.out; simp only [List.size_toArray]; omega
  · rw [hlen]; simpa using HF1.out
  · exact (((((Only.refl _ w).alloc _).drew).setRow (g := w.heap.size) (.inr (Nat.le_refl _)) _).drew).setRow (g := w.heap.size) (.inr (Nat.le_refl _)) _

/-- slices.Insert of one record -/
theorem insert_anyS {base : Nat} {v : Value} {l : List ByteArray} {w : World} (hown : w.ownsRow base 9 1 v l.length (cellsS l)) (i : Nat) (hi : i ≤ l.length) (r : ByteArray) (vb : Nat) (hvb : w.heap[vb]? = some (.cells #[.string r] 9 (0, 0))) (hne : some vb ≠ v.ownBlock) (hl : l.length ≤ 1000) (hbase : base ≤ w.heap.size) :
    Calls Try.prog 52 #[v, .int .i64 i, .slice (some ⟨vb, 0, none⟩) 1 1] w (InsertedS base w v (l.take i ++ r :: l.drop i)) := by
  by_cases he : i = l.length
  · subst he
    rw [List.take_length, List.drop_length]
    exact insert_endS hown r vb hvb hl hbase
  · have hlt : i < l.length := by omega
    have hn0 : l.length ≠ 0 := by omega
    obtain ⟨A, c, rfl, hnc, hx⟩ := owns_formS hown
    obtain ⟨g, cur, rfl, hb, hg, hcm, hcs, ht⟩ := hx hn0
    rw [Nat.mul_one] at hcs ht
    clear hx hn0
    have hvg : vb ≠ g := fun e => hne (by rw [e]; rfl)
    rcases Nat.lt_or_ge c (l.length + 1) with h | h
    · exact insert_growS hbase hg hnc ht i hlt h r vb hvb hl
    · exact insert_roomS hb hg hcm hcs ht i hlt h r vb hvb hvg hl

end Go.Proofs.Ytmhpgbhmhbldfaa
