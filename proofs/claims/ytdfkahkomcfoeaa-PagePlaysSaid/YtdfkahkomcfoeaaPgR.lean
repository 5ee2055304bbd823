/- the reference of pages: Used, Put -/
import Derived.Test.YtdfkahkomcfoeaaPgI
import Derived.Test.YtdfkahkomcfoeaaIntL
import Derived.Lib.BufferWrite
namespace Go.Proofs.Ytdfkahkomcfoeaa
open Go.ChangeShapes Go.WideShapes Go.ChangeAt Go.RowKit

set_option maxRecDepth 100000 in
theorem used_any (l : Pg) (A : Option Addr) (c b : Nat) (w : World) (h : Seen w l A c b) (hl : l.length ≤ 1000) (hu : usedP l ≤ 1000000) :
    Calls Try.prog 18 #[.slice A l.length c] w fun e w' => e = .returned (.int .i64 (usedP l)) ∧ w = w' := by
  have H := Lib.hid h
  have HU := Lib.hid hu
  clear h hu
  go_enter Try.func18, Try.ntmps18
  go_wp2_with fail
  go_loopg [3, 4] l.length (fun g sn si wr => ∃ i : Nat, si = .int .i64 i ∧ i ≤ l.length ∧ l.length - i ≤ g ∧ sn = .int .i64 (usedP (l.take i) : Nat) ∧ wr = w)
  case atStart => exact ⟨0, rfl, Nat.zero_le _, by omega, rfl, rfl⟩
  case round =>
    obtain ⟨i, rfl, hi, hg, rfl, rfl⟩ := hrel
    by_cases hlt : i < l.length
    · obtain ⟨j0, j1⟩ := H.out.row.at hlt
      have eA := H.out.at_ (by rintro rfl; simp at hlt)
      subst eA
      have hut := used_take hlt
      have hle := Nat.le_trans (used_sub (List.take_sublist (i + 1) l)) HU.out
      generalize l[i] = x at j0 j1 hut
      have hsz := str_size x.2
      have hl2 := fun W => len_str x.2 3 W
      have e1 : ((usedP (l.take (i + 1)) : Nat) : Int) = (usedP (l.take i) : Nat) + (12 + (x.2.length : Int)) := by omega
      have HE := Lib.hid e1
      have h12 : x.2.length ≤ 1000000 := by omega
      have hle2 : usedP (l.take i) + (12 + x.2.length) ≤ 1000000 := by omega
      clear hut hle e1
      go_wp2_with fail
      go_roundg (l.length - (i + 1))
      case measure => omega
      case rel => exact ⟨i + 1, by go_num, by omega, Nat.le_refl _, by rw [HE.out], rfl⟩
    · obtain rfl : i = l.length := by omega
      have eT : l.take l.length = l := List.take_length
      rw [eT]
      go_wp2_with fail
      go_ret
      exact ⟨rfl, rfl⟩

theorem rtwo_str (n : Nat) (w : World) (h : n ≤ 1000000) : Calls Try.prog 31 #[.int .i64 (n : Int)] w fun e w' => e = .returned (.string ⟨(twoL n).toArray⟩) ∧ Below w.heap.size w w' := by
  have := rtwo_any (n : Int) w (by omega) (by omega)
  rw [twoL_str] at this
  exact this

theorem reight_str (n : Nat) (w : World) (h : n < 18446744073709551616) : Calls Try.prog 32 #[.int .u64 (n : Int)] w fun e w' => e = .returned (.string ⟨(eightL n).toArray⟩) ∧ Below w.heap.size w w' := by
  have := reight_any n w h
  rw [eightL_str] at this
  exact this

/-- x laid over M from o on -/
def splice (M x : List UInt8) (o : Nat) : List UInt8 := M.take o ++ x ++ M.drop (o + x.length)

theorem splice_len {M x : List UInt8} {o : Nat} (h : o + x.length ≤ M.length) : (splice M x o).length = M.length := by
  simp only [splice, List.length_append, List.length_take, List.length_drop]; omega

/-- 'copy(b[o:], s)' -/
theorem copy_splice (W : World) (ty : TypeId) (g o dLen dCap : Nat) (x M : List UInt8) (hg : W.heap[g]? = some (.cells (Lib.byteCells M).toArray 5 (0, 0))) (hle : x.length ≤ dLen) (hfit : o + x.length ≤ M.length) :
    (Builtin.copy_ #[53, 9] ty #[.slice (some ⟨g, o, none⟩) dLen dCap, .string ⟨x.toArray⟩]).run Try.prog W = .ok (.int .i64 x.length) (W.setRow g (Lib.byteCells (splice M x o)).toArray) := by
  obtain ⟨i0, hi, hz0, hz1, hz2⟩ := info_parts info_byte
  have hsz : (⟨x.toArray⟩ : ByteArray).size = x.length := str_size x
  have h := Lib.run_copy_row_string (P := Try.prog) W 53 9 ty 5 g o dLen dCap ⟨x.toArray⟩ (Lib.byteCells M).toArray 5 Try.underlying53 (by rw [hi]; simp [hz1]) hg (by rw [hsz]; exact hle) (by rw [hsz, List.size_toArray, Lib.byteCells_length]; exact hfit)
  rw [hsz] at h
  rw [h]
  have e : ((Lib.byteCells M).toArray.toList.take o ++ Lib.byteCells (⟨x.toArray⟩ : ByteArray).data.toList ++ (Lib.byteCells M).toArray.toList.drop (o + x.length)) = Lib.byteCells (splice M x o) := by
    simp only [splice, Lib.byteCells, List.map_append, List.map_take, List.map_drop]
  rw [e]
  rfl

theorem byte_tail (A : Option Addr) (n c i : Nat) (h : i ≤ n) (W : World) :
    (Instr.sliceAt 53 (.slice A n c) (some (.int .i64 i)) none none).run Try.prog W = .ok (.slice (if c = i then A else A.map (·.add (i * 1))) (n - i) (c - i)) W := by
  have e2 : Try.prog.elem 53 = 5 := by kernel_rfl
  have hu : Try.prog.underlying 53 = some (.slice (Try.prog.elem 53)) := by rw [e2]; exact Try.underlying53
  have hs : (sizeOf (Try.prog.elem 53)).run Try.prog W = .ok 1 W := by rw [e2]; exact Try.sizeOf5 W
  rw [run_sliceAt_slice W 53 _ _ _ _ hu, run_slice_l W 53 A n c hu .i64 i (by omega) (by omega), hs]
  simp only [Result.andThen_ok, sliced, Int.toNat_natCast]

/-- 'b[i:]' of the 512 bytes: where it lies -/
theorem byte_at (g i : Nat) (h : i ≤ 512) : ∃ o, (i < 512 → o = i) ∧ (i = 512 → o = 0) ∧ ∀ W, (Instr.sliceAt 53 (.slice (some ⟨g, 0, none⟩) 512 512) (some (.int .i64 i)) none none).run Try.prog W = .ok (.slice (some ⟨g, o, none⟩) (512 - i) (512 - i)) W := by
  by_cases he : i = 512
  · exact ⟨0, fun h => by omega, fun _ => rfl, fun W => by rw [byte_tail _ _ _ _ h, if_pos he.symm]⟩
  · refine ⟨i, fun _ => rfl, fun h => absurd h he, fun W => ?_⟩
    rw [byte_tail _ _ _ _ h, if_neg (fun e => he e.symm)]
    simp [adr_add]

theorem splice_mid {a y z x : List UInt8} {o : Nat} (ho : a.length = o) (hy : y.length = x.length) : splice (a ++ y ++ z) x o = a ++ x ++ z := by
  unfold splice
  have e1 : (a ++ y ++ z).take o = a := by rw [List.append_assoc]; exact List.take_left' ho
  have e2 : (a ++ y ++ z).drop (o + x.length) = z := List.drop_left' (by rw [List.length_append]; omega)
  rw [e1, e2]

theorem splice_nil (M : List UInt8) (o : Nat) : splice M [] o = M := by simp [splice]

/-- the bytes behind i records -/
def stP (l : Pg) (i : Nat) : List UInt8 := twoL l.length ++ slotsP (l.take i) 512 ++ List.replicate (512 - usedP (l.take i)) 0 ++ bodsP (l.take i)

theorem stP_zero (l : Pg) : splice (List.replicate 512 0) (twoL l.length) 0 = stP l 0 := by
  have e : List.replicate 512 (0 : UInt8) = [] ++ List.replicate 2 0 ++ List.replicate 510 0 := by rw [List.nil_append, List.replicate_append_replicate]
  rw [e, splice_mid (o := 0) rfl (by rw [List.length_replicate, twoL_len])]
  unfold stP
  rw [List.take_zero]
  simp only [slotsP, bodsP, usedP, List.append_nil, List.nil_append]

theorem stP_all (l : Pg) : stP l l.length = encP l := by
  unfold stP
  rw [List.take_length]; rfl

theorem stP_len {l : Pg} (h : usedP l ≤ 512) {i : Nat} (hi : i ≤ l.length) : (stP l i).length = 512 := by
  have h1 := bods_len (l.take i)
  have h2 := Nat.le_trans (used_sub (List.take_sublist i l)) h
  have h3 : (l.take i).length = i := by rw [List.length_take]; omega
  simp only [stP, List.length_append, twoL_len, slots_len, List.length_replicate]; omega

/-- where the record i begins -/
def endP (l : Pg) (i : Nat) : Nat := 512 - (bodsP (l.take i)).length

theorem stP_step {l : Pg} (h : usedP l ≤ 512) {i : Nat} (hi : i < l.length) {x : Bod} (hx : l[i] = x) :
    endP l (i + 1) + x.2.length = endP l i ∧ 2 + 12 * i + 12 ≤ endP l (i + 1) ∧ endP l i ≤ 512 ∧
    splice (splice (stP l i) x.2 (endP l (i + 1))) (eightL x.1 ++ twoL (endP l (i + 1)) ++ twoL x.2.length) (2 + 12 * i) = stP l (i + 1) ∧
    (splice (stP l i) x.2 (endP l (i + 1))).length = 512 := by
  have htk : l.take (i + 1) = l.take i ++ [x] := by rw [← hx]; exact List.take_succ_eq_append_getElem hi
  have hbd : bodsP (l.take (i + 1)) = x.2 ++ bodsP (l.take i) := by rw [htk, bods_app]; simp [bodsP]
  have h0 := bods_len (l.take i)
  have h1 := bods_len (l.take (i + 1))
  have hb : (bodsP (l.take (i + 1))).length = x.2.length + (bodsP (l.take i)).length := by rw [hbd, List.length_append]
  have hu := Nat.le_trans (used_sub (List.take_sublist (i + 1) l)) h
  have hu2 := used_take hi
  rw [hx] at hu2
  have hl0 : (l.take i).length = i := by rw [List.length_take]; omega
  have hl1 : (l.take (i + 1)).length = i + 1 := by rw [List.length_take]; omega
  have hs0 := slots_len (l.take i) 512
  have hse : slotsP (l.take (i + 1)) 512 = slotsP (l.take i) 512 ++ (eightL x.1 ++ twoL (endP l (i + 1)) ++ twoL x.2.length) := by
    rw [htk, slots_app]
    simp only [slotsP, List.append_nil, endP]
    rw [hb, show 512 - (bodsP (l.take i)).length - x.2.length = 512 - (x.2.length + (bodsP (l.take i)).length) by omega]
  have e1 : endP l (i + 1) + x.2.length = endP l i := by unfold endP; omega
  have e2 : 2 + 12 * i + 12 ≤ endP l (i + 1) := by unfold endP; omega
  have e3 : endP l i ≤ 512 := by unfold endP; omega
  have f1 : stP l i = (twoL l.length ++ slotsP (l.take i) 512 ++ List.replicate (512 - usedP (l.take (i + 1)) + 12) 0) ++ List.replicate x.2.length 0 ++ bodsP (l.take i) := by
    unfold stP
    rw [List.append_assoc (twoL l.length ++ slotsP (l.take i) 512) (List.replicate (512 - usedP (l.take (i + 1)) + 12) 0), List.replicate_append_replicate, show 512 - usedP (l.take (i + 1)) + 12 + x.2.length = 512 - usedP (l.take i) by omega]
  have f2 : splice (stP l i) x.2 (endP l (i + 1)) = (twoL l.length ++ slotsP (l.take i) 512 ++ List.replicate (512 - usedP (l.take (i + 1)) + 12) 0) ++ x.2 ++ bodsP (l.take i) := by
    rw [f1]
    refine splice_mid ?_ List.length_replicate
    simp only [List.length_append, twoL_len, hs0, List.length_replicate]
    unfold endP; omega
  have f3 : (twoL l.length ++ slotsP (l.take i) 512 ++ List.replicate (512 - usedP (l.take (i + 1)) + 12) 0) ++ x.2 ++ bodsP (l.take i) = (twoL l.length ++ slotsP (l.take i) 512) ++ List.replicate 12 0 ++ (List.replicate (512 - usedP (l.take (i + 1))) 0 ++ bodsP (l.take (i + 1))) := by
    rw [hbd, Nat.add_comm (512 - usedP (l.take (i + 1))) 12, ← List.replicate_append_replicate]
    simp only [List.append_assoc]
  refine ⟨e1, e2, e3, ?_, ?_⟩
  · rw [f2, f3, splice_mid (by simp only [List.length_append, twoL_len, hs0]; omega) (by simp only [List.length_append, eightL_len, twoL_len, List.length_replicate])]
    unfold stP
    rw [hse]
    simp only [List.append_assoc]
  · rw [f2]
    simp only [List.length_append, twoL_len, hs0, List.length_replicate]
    omega

theorem zero_cells (n : Nat) : (Array.replicate n (Value.int .u8 0)) = (Lib.byteCells (List.replicate n 0)).toArray := by
  apply Array.toList_inj.1
  simp [Lib.byteCells]

/-- cells of a row that is another block, behind a store in a block of the call's own -/
theorem Seen.kept {w wr : World} {l : Pg} {A : Option Addr} {c b : Nat} (h : Seen w l A c b) (hb : Below w.heap.size w wr) : Seen wr l A c b := h.below hb

theorem conv_enc {W : World} {g : Nat} {M : List UInt8} (hl : M.length = 512) (hg : W.heap[g]? = some (.cells (Lib.byteCells M).toArray 5 (0, 0))) :
    (convert 53 9 (.slice (some ⟨g, 0, none⟩) 512 512)).run Try.prog W = .ok (.string ⟨M.toArray⟩) W := by
  have h := run_convert_bytes_arg (P := Try.prog) W 53 5 Try.underlying53 Try.underlying5 g 0 512 512 (M.map fun b => (b.toNat : Int)) (by rw [List.length_map, hl]) (fun i hi => by
    rw [Nat.zero_add, cell_of_row _ _ _ _ _ _ hg]
    have hi2 : i < M.length := by omega
    simp [Lib.byteCells, List.getElem?_eq_getElem hi2]) 9 Try.underlying9
  have e : strOfNums (M.map fun b => (b.toNat : Int)) = ⟨M.toArray⟩ := by
    unfold strOfNums
    rw [List.map_map]
    congr 1
    simp [Function.comp_def]
  rw [e] at h
  exact h

set_option maxHeartbeats 4000000 in
set_option maxRecDepth 100000 in
theorem rput_any (l : Pg) (A : Option Addr) (c b : Nat) (w : World) (h : Seen w l A c b) (hu : usedP l ≤ 512) (hid : ∀ r ∈ l, r.1 < 18446744073709551616) :
    Calls Try.prog 19 #[.slice A l.length c] w fun e w' => e = .returned (.string ⟨(encP l).toArray⟩) ∧ Below w.heap.size w w' := by
  have H := Lib.hid h
  have HU := Lib.hid hu
  have HID := Lib.hid hid
  have hlen : l.length ≤ 42 := by have := usedP_ge l; omega
  have hmk : ∀ W, (Instr.makeSlice 53 (.int .i64 512) (.int .i64 512)).run Try.prog W = .ok (.slice (some ⟨W.heap.size, 0, none⟩) 512 512) (W.alloc (.cells (Array.replicate 512 (Value.int .u8 0)) 5)) := fun W => make_zeros 512 (by omega) W
  obtain ⟨w0, hw0⟩ : ∃ w0, w0 = w.alloc (.cells (Array.replicate 512 (Value.int .u8 0)) 5) := ⟨_, rfl⟩
  have hg0 : w0.heap[w.heap.size]? = some (.cells (Lib.byteCells (List.replicate 512 0)).toArray 5 (0, 0)) := by rw [hw0, ← zero_cells]; exact heap_alloc_new w _
  have hb0 : Below w.heap.size w w0 := by rw [hw0]; exact (Below.refl _ w).alloc (Nat.le_refl _) _
  have hsz : w0.heap.size = w.heap.size + 1 := by rw [hw0]; simp
  have HT : Hid (Calls Try.prog 31 #[.int .i64 (l.length : Int)] w0 fun e w' => e = .returned (.string ⟨(twoL l.length).toArray⟩) ∧ w'.heap[w.heap.size]? = some (.cells (Lib.byteCells (List.replicate 512 0)).toArray 5 (0, 0)) ∧ Below w.heap.size w w') := Lib.hid
    ((rtwo_str l.length w0 (by omega)).mono fun e w' p => ⟨p.1, (p.2.block _ (by omega)).trans hg0, hb0.trans (p.2.mono (by omega))⟩)
  have HCP : Hid (∀ wn : World, wn.heap[w.heap.size]? = some (.cells (Lib.byteCells (List.replicate 512 0)).toArray 5 (0, 0)) → ∀ ty, (Builtin.copy_ #[53, 9] ty #[.slice (some ⟨w.heap.size, 0, none⟩) 512 512, .string ⟨(twoL l.length).toArray⟩]).run Try.prog wn = .ok (.int .i64 2) (wn.setRow w.heap.size (Lib.byteCells (stP l 0)).toArray)) := Lib.hid fun wn hg ty => by
    have := copy_splice wn ty w.heap.size 0 512 512 (twoL l.length) (List.replicate 512 0) hg (by rw [twoL_len]; omega) (by rw [twoL_len, List.length_replicate]; omega)
    rw [stP_zero] at this
    exact this
  subst hw0
  clear h hu hid hg0 hb0 hsz
  go_enter Try.func19, Try.ntmps19
  go_wp2_with (first
    | (go_at_call 31; (with_reducible refine HT.out.mono ?_); rintro e w1 ⟨rfl, hg1, hb1⟩; have HG1 := Lib.hid hg1; have HB1 := Lib.hid hb1; have hcp := HCP.out _ hg1; clear hg1 hb1)
    | fail)
  go_loopg [4, 5] l.length (fun g s4 s5 wr => ∃ i : Nat, s5 = .int .i64 i ∧ i ≤ l.length ∧ l.length - i ≤ g ∧ s4 = .int .i64 (endP l i : Nat) ∧ Hid (wr.heap[w.heap.size]? = some (.cells (Lib.byteCells (stP l i)).toArray 5 (0, 0))) ∧ Hid (Below w.heap.size w wr))
  case atStart => exact ⟨0, rfl, Nat.zero_le _, by omega, rfl, setRow_heap _ _ _ _ _ _ HG1.out, HB1.out.trans ⟨rfl, rfl, rfl, by rw [size_setRow]; exact Nat.le_refl _, fun k hk => heap_setRow_other _ _ _ _ (by omega)⟩⟩
  case round =>
    obtain ⟨i, rfl, hi, hg, rfl, HG, HB⟩ := hrel
    by_cases hlt : i < l.length
    · obtain ⟨j0, j1⟩ := (H.out.row.below HB.out).at hlt
      have eA := H.out.at_ (by rintro rfl; simp at hlt)
      subst eA
      obtain ⟨x, hx⟩ : ∃ x, l[i] = x := ⟨_, rfl⟩
      obtain ⟨e1, e2, e3, e4, e5⟩ := stP_step HU.out hlt hx
      have hxid : x.1 < 18446744073709551616 := HID.out x (by rw [← hx]; exact List.getElem_mem hlt)
      rw [hx] at j0 j1
      have hsl := stP_len HU.out hi
      have HEN : Hid (endP l (i + 1) = endP l (i + 1)) := rfl
      obtain ⟨o1, ho1, ho2, hs8⟩ := byte_at w.heap.size (endP l (i + 1)) (by omega)
      have hr8 := fun ty => copy_splice wr.drew ty w.heap.size o1 (512 - endP l (i + 1)) (512 - endP l (i + 1)) x.2 (stP l i) HG.out (by omega) (by rw [hsl]; omega)
      have hsp : splice (stP l i) x.2 o1 = splice (stP l i) x.2 (endP l (i + 1)) := by
        by_cases hfull : endP l (i + 1) = 512
        · have hx0 : x.2 = [] := List.length_eq_zero_iff.1 (by omega)
          rw [hx0, splice_nil, splice_nil]
        · rw [ho1 (by omega)]
      rw [hsp] at hr8
      have he' : (endP l i : Int) - (x.2.length : Int) = (endP l (i + 1) : Int) := by omega
      have hln := fun W => len_str x.2 3 W
      have mixed : Try.prog.follows Departure.mixedOrders = true := by kernel_rfl
      have HX2 := Lib.hid hx
      clear hsp ho1 ho2 hx
      generalize hE : endP l (i + 1) = E at e1 e2 e4 e5 hs8 hr8 he'
      generalize hS : splice (stP l i) x.2 E = N1 at e4 e5 hr8
      have HE1 := Lib.hid hE
      clear hE hS
      generalize endP l i = E0 at e1 e3 he'
      have z1 : (i : Int) < (l.length : Int) := by omega
      go_wp2_with fail
      go_region_law_o (refine step_copy_runI rfl _ _ 53 9 rfl (.slice (some ⟨w.heap.size, o1, none⟩) (512 - E) (512 - E)) (.string ⟨x.2.toArray⟩) (by simp [Act.eval]) (by simp [Act.eval]) (hr8 _) ?_)
      go_wp2_with fail
      have hg8 : (wr.drew.setRow w.heap.size (Lib.byteCells N1).toArray).heap[w.heap.size]? = some (.cells (Lib.byteCells N1).toArray 5 (0, 0)) := setRow_heap _ _ _ _ _ _ HG.out
      have hb8 : Below w.heap.size w (wr.drew.setRow w.heap.size (Lib.byteCells N1).toArray) := HB.out.trans ⟨rfl, rfl, rfl, by rw [size_setRow]; exact Nat.le_refl _, fun k hk => heap_setRow_other _ _ _ _ (by omega)⟩
      generalize wr.drew.setRow w.heap.size (Lib.byteCells N1).toArray = w8 at hg8 hb8 ⊢
      have hx2 := HX2.out
      have hS8 : ∀ wn : World, Below w8.heap.size w8 wn → wn.cell? ⟨b, i * 2, none⟩ = some (.int .u64 (x.1 : Int)) ∧ wn.cell? ⟨b, i * 2 + 1, none⟩ = some (.string ⟨x.2.toArray⟩) ∧ Below w.heap.size w wn := fun wn hb => by
        have h1 := hb8.trans (hb.mono hb8.size)
        have := (H.out.row.below h1).at hlt
        rw [hx2] at this
        exact ⟨this.1, this.2, h1⟩
      have HS8 := Lib.hid hS8
      have HGN : Hid (∀ wn : World, Below w8.heap.size w8 wn → wn.heap[w.heap.size]? = some (.cells (Lib.byteCells N1).toArray 5 (0, 0))) := Lib.hid fun wn hb => (hb.block _ (Array.getElem?_eq_some_iff.1 hg8).1).trans hg8
      have HSR : Hid (∀ wn : World, Below w8.heap.size w8 wn → ∀ C, Below w.heap.size w (wn.setRow w.heap.size C)) := Lib.hid fun wn hb C => (hb8.trans (hb.mono hb8.size)).trans ⟨rfl, rfl, rfl, by rw [size_setRow]; exact Nat.le_refl _, fun k hk => heap_setRow_other _ _ _ _ (by omega)⟩
      have hq2 : (eightL x.1 ++ twoL E ++ twoL x.2.length).length = 12 := by simp only [List.length_append, eightL_len, twoL_len]
      have HCP9 : Hid (∀ wn : World, Below w8.heap.size w8 wn → ∀ ty, (Builtin.copy_ #[53, 9] ty #[.slice (some ⟨w.heap.size, 2 + 12 * i, none⟩) (512 - (2 + 12 * i)) (512 - (2 + 12 * i)), .string ⟨(eightL x.1 ++ twoL E ++ twoL x.2.length).toArray⟩]).run Try.prog wn = .ok (.int .i64 12) (wn.setRow w.heap.size (Lib.byteCells (stP l (i + 1))).toArray)) := Lib.hid fun wn hb ty => by
        have hgn := (hb.block _ (Array.getElem?_eq_some_iff.1 hg8).1).trans hg8
        have := copy_splice wn ty w.heap.size (2 + 12 * i) (512 - (2 + 12 * i)) (512 - (2 + 12 * i)) (eightL x.1 ++ twoL E ++ twoL x.2.length) N1 hgn (by omega) (by omega)
        rw [e4, hq2] at this
        exact this
      have HE9 : Hid (∀ wn, Below w8.heap.size w8 wn → Calls Try.prog 32 #[.int .u64 (x.1 : Int)] wn fun e w' => e = .returned (.string ⟨(eightL x.1).toArray⟩) ∧ Below w8.heap.size w8 w') := Lib.hid fun wn hb =>
        (reight_str x.1 wn hxid).mono fun e w' p => ⟨p.1, hb.trans (p.2.mono hb.size)⟩
      have HT9a : Hid (∀ wn, Below w8.heap.size w8 wn → Calls Try.prog 31 #[.int .i64 (E : Int)] wn fun e w' => e = .returned (.string ⟨(twoL E).toArray⟩) ∧ Below w8.heap.size w8 w') := Lib.hid fun wn hb =>
        (rtwo_str E wn (by omega)).mono fun e w' p => ⟨p.1, hb.trans (p.2.mono hb.size)⟩
      have HT9b : Hid (∀ wn, Below w8.heap.size w8 wn → Calls Try.prog 31 #[.int .i64 (x.2.length : Int)] wn fun e w' => e = .returned (.string ⟨(twoL x.2.length).toArray⟩) ∧ Below w8.heap.size w8 w') := Lib.hid fun wn hb =>
        (rtwo_str x.2.length wn (by omega)).mono fun e w' p => ⟨p.1, hb.trans (p.2.mono hb.size)⟩
      have ha2 := fun W => add_str (eightL x.1) (twoL E) (by rw [eightL_len, twoL_len]; omega) W
      have ha3 := fun W => add_str (eightL x.1 ++ twoL E) (twoL x.2.length) (by rw [List.length_append, eightL_len, twoL_len, twoL_len]; omega) W
      have hdr : Below w8.heap.size w8 w8.drew := (Below.refl _ w8).drew
      obtain ⟨y0, y1, -⟩ := HS8.out _ (Below.refl _ w8)
      obtain ⟨o9, ho9⟩ : ∃ o9, 2 + 12 * i = o9 := ⟨_, rfl⟩
      have v1 : IntKind.i64.wrap ((12 : Int) * (i : Int)) = (12 : Int) * (i : Int) := by rw [IntKind.wrap_i64]; omega
      have v2 : IntKind.i64.wrap (o9 : Int) = (o9 : Int) := by rw [IntKind.wrap_i64]; omega
      have v3 : (2 : Int) + (12 : Int) * (i : Int) = (o9 : Int) := by omega
      have v4 : ¬ (512 = o9) := by omega
      have v5 : (o9 : Int) ≤ 512 := by omega
      rw [ho9] at HCP9
      obtain ⟨o', ho', -, hs9⟩ := byte_at w.heap.size o9 (by omega)
      obtain rfl := ho' (by omega)
      have HE2 := Lib.hid e2
      clear ho' v4 v5
      clear e1 e2 e3 e4 e5 hS8 hq2 he' hs8 hr8 hsl hxid hg8 hb8 j0 j1 ho9 hx2
      generalize eightL x.1 ++ twoL E = Q1 at ha2 ha3 HCP9
      generalize Q1 ++ twoL x.2.length = Q2 at ha3 HCP9
      generalize twoL E = T1 at ha2 HT9a
      generalize twoL x.2.length = T2 at ha3 HT9b
      generalize eightL x.1 = T0 at ha2 HE9
      go_region_with (first
        | (go_at_call 32; (with_reducible refine (HE9.out _ (by assumption)).mono ?_); rintro e wf ⟨rfl, hbf⟩; obtain ⟨y0, y1, -⟩ := HS8.out _ hbf; have hc9 := HCP9.out _ hbf)
        | (go_at_call 31; (with_reducible refine (HT9a.out _ (by assumption)).mono ?_); rintro e wf ⟨rfl, hbf⟩; obtain ⟨y0, y1, -⟩ := HS8.out _ hbf; have hc9 := HCP9.out _ hbf)
        | (go_at_call 31; (with_reducible refine (HT9b.out _ (by assumption)).mono ?_); rintro e wf ⟨rfl, hbf⟩; obtain ⟨y0, y1, -⟩ := HS8.out _ hbf; have hc9 := HCP9.out _ hbf))
      all_goals
        go_wp2_with fail
        go_roundg (l.length - (i + 1))
        case measure => omega
        case rel => exact ⟨i + 1, by go_num, by omega, Nat.le_refl _, by rw [HE1.out], setRow_heap _ _ _ _ _ _ (HGN.out _ (by assumption)), HSR.out _ (by assumption) _⟩
    · obtain rfl : i = l.length := by omega
      have hg2 := HG.out
      rw [stP_all] at hg2
      have hc := conv_enc (W := wr) (g := w.heap.size) (enc_len HU.out) hg2
      clear hg2
      go_wp2_with fail
      go_ret
      exact ⟨rfl, HB.out⟩

end Go.Proofs.Ytdfkahkomcfoeaa
