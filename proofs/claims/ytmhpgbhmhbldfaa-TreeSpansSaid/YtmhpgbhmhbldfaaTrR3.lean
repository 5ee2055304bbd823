/- has: does a tree have just some keys? -/
import Derived.Test.YtmhpgbhmhbldfaaTrR2
namespace Go.Proofs.Ytmhpgbhmhbldfaa
open Go.ChangeShapes Go.WideShapes Go.ChangeAt Go.RowKit Go.Shelf

attribute [local go_sem] Oper.semAt_some

/-- the loop's state: how many keys came, and whether all were the list's -/
def HasI (wL : World) (bi bo : Nat) (l : List ByteArray) (mine : Nat → Prop) (pre : List ByteArray) (V : World) : Prop :=
  (∀ b, mine b → wL.heap.size ≤ b) ∧ V.heap[bi]? = some (.cells #[.int .i64 (pre.length : Int)] 3 (0, 0)) ∧ V.heap[bo]? = some (.cells #[.bool (decide (l.take pre.length = pre))] 4 (0, 0)) ∧ Only (fun b => b = bi ∨ b = bo) wL V

theorem only_turn {mine ok : Nat → Prop} {wL V V' : World} (h : Only ok wL V) (ht : Turn mine V V') (hm : ∀ b, mine b → wL.heap.size ≤ b) : Only ok wL V' :=
  ⟨ht.os.trans h.os, ht.tape.trans h.tape, ht.output.trans h.output, Nat.le_trans h.size ht.size, fun i hi hn => (ht.keep i (Nat.lt_of_lt_of_le hi h.size) (fun e => by have := hm i e; omega)).trans (h.block i hi hn)⟩

theorem HasI.clos {wL : World} {bi bo : Nat} {l : List ByteArray} (hi : bi < wL.heap.size) (ho : bo < wL.heap.size) : Clos (HasI wL bi bo l) := by
  rintro mine mine' pre W W' ⟨h1, h2, h3, h4⟩ ht hm
  refine ⟨fun b hb => ?_, (ht.keep _ (Array.getElem?_eq_some_iff.1 h2).1 (fun e => by have := h1 _ e; omega)).trans h2, (ht.keep _ (Array.getElem?_eq_some_iff.1 h3).1 (fun e => by have := h1 _ e; omega)).trans h3, only_turn h4 ht h1⟩
  rcases hm b hb with h | h
  · exact h1 b h
  · have := h4.size; omega

theorem HasI.recs {wL : World} {bi bo : Nat} {l : List ByteArray} (hi : bi < wL.heap.size) (ho : bo < wL.heap.size) : Recs wL.heap.size (HasI wL bi bo l) := by
  rintro mine pre W W' ⟨h1, h2, h3, h4⟩ ht hs
  have hb : ∀ b, (b = wL.heap.size ∨ b = wL.heap.size + 1) → wL.heap.size ≤ b := fun b h => by omega
  exact ⟨h1, (ht.keep _ (Array.getElem?_eq_some_iff.1 h2).1 (fun e => by omega)).trans h2, (ht.keep _ (Array.getElem?_eq_some_iff.1 h3).1 (fun e => by omega)).trans h3, only_turn h4 ht hb⟩

theorem clos_false : Clos (fun (_ : Nat → Prop) (_ : List ByteArray) (_ : World) => False) := fun _ _ _ _ _ h _ _ => h
theorem recs_false (b : Nat) : Recs b (fun (_ : Nat → Prop) (_ : List ByteArray) (_ : World) => False) := fun _ _ _ _ h _ _ => h

/-- what the loop reads -/
def ReadH (wL : World) (bi bo b : Nat) : Prop := b < wL.heap.size ∧ ¬ (b = bi ∨ b = bo)

/-- one round's end -/
theorem HasI.step {wL V : World} {bi bo : Nat} {l pre : List ByteArray} {x : ByteArray} {mine : Nat → Prop} {z : Bool} (h : HasI wL bi bo l mine pre V) (hio : bi ≠ bo) (hz : z = decide (l.take (pre ++ [x]).length = pre ++ [x])) {n : Int} (hn : n = ((pre ++ [x]).length : Int)) :
    HasI wL bi bo l mine (pre ++ [x]) ((V.setCell ⟨bo, 0, none⟩ (.bool z)).setCell ⟨bi, 0, none⟩ (.int .i64 n)) := by
  obtain ⟨h1, h2, h3, h4⟩ := h
  refine ⟨h1, ?_, ?_, (h4.setCell (p := ⟨bo, 0, none⟩) (.inl (.inr rfl)) _).setCell (p := ⟨bi, 0, none⟩) (.inl (.inl rfl)) _⟩
  · have h2' : (V.setCell ⟨bo, 0, none⟩ (.bool z)).heap[bi]? = some (.cells #[.int .i64 (pre.length : Int)] 3 (0, 0)) := (Below.heap_setCell _ ⟨bo, 0, none⟩ _ bi hio).trans h2
    generalize V.setCell ⟨bo, 0, none⟩ (.bool z) = X at h2' ⊢
    simp [World.setCell, Array.getElem?_modify, h2', hn]
  · refine (Below.heap_setCell _ ⟨bi, 0, none⟩ _ bo (fun e => hio e.symm)).trans ?_
    simp only [World.setCell]
    simp [Array.getElem?_modify, h3, hz]

theorem HasI.hold {V : World} {bi bo : Nat} {keep : Nat → Prop} (hi : ¬ keep bi) (ho : ¬ keep bo) (x y : Value) : Hold keep V ((V.setCell ⟨bo, 0, none⟩ x).setCell ⟨bi, 0, none⟩ y) :=
  ⟨by simp, fun b hb _ => (Below.heap_setCell _ ⟨bi, 0, none⟩ _ b (fun (e : b = bi) => hi (e ▸ hb))).trans (Below.heap_setCell _ ⟨bo, 0, none⟩ _ b (fun (e : b = bo) => ho (e ▸ hb)))⟩

theorem take_step {l pre : List ByteArray} {x : ByteArray} : (l.take (pre ++ [x]).length = pre ++ [x]) ↔ (l.take pre.length = pre ∧ l[pre.length]? = some x) := by
  rw [List.length_append, List.length_singleton, List.take_add_one]
  constructor
  · intro h
    cases hx : l[pre.length]? with
    | none =>
      rw [hx] at h
      have h2 := congrArg List.length h
      have h3 := List.length_take_le pre.length l
      simp at h2 h3; omega
    | some y =>
      rw [hx] at h
      have h3 : (l.take pre.length).length = pre.length := by rw [List.length_take]; have := (List.getElem?_eq_some_iff.1 hx).1; omega
      obtain ⟨h4, h5⟩ := List.append_inj h h3
      simp at h5
      exact ⟨h4, by rw [h5]⟩
  · rintro ⟨h1, h2⟩
    rw [h1, h2]; rfl

theorem has_end {m l : List ByteArray} : (decide (l.take m.length = m) && (((m.length : Nat) : Int) == ((l.length : Nat) : Int))) = decide (m = l) := by
  by_cases h : m = l
  · subst h; simp
  · rw [decide_eq_false h]
    by_cases h2 : m.length = l.length
    · have h3 : ¬ (l.take m.length = m) := by rw [h2, List.take_length]; exact fun e => h e.symm
      rw [decide_eq_false h3]; rfl
    · have : (((m.length : Nat) : Int) == ((l.length : Nat) : Int)) = false := by
        have : ¬ (((m.length : Nat) : Int) = ((l.length : Nat) : Int)) := by omega
        simpa using this
      rw [this, Bool.and_false]

set_option maxHeartbeats 4000000 in
set_option maxRecDepth 100000 in
theorem has_c {w : World} {N t next root : Nat} {m l : List ByteArray} {A : Option Addr} {cap : Nat} (h : TSt w N t next root m) (hm : m.length ≤ 60) (hn : next < 400000) (hks : ∀ k ∈ m, k.size ≤ 1000) (hA : SAt w w.heap.size A l) (hl : l.length ≤ 1000) :
    Calls Try.prog 16 #[.pointer (some ⟨t, 0, none⟩), .slice A l.length cap] w fun e w' => e = .returned (.bool (decide (m = l))) ∧ Only (fun k => k = t) w w' := by
  obtain ⟨W1, hW1⟩ : ∃ W1, w.alloc (.cells #[.slice A l.length cap] 22) = W1 := ⟨_, rfl⟩
  obtain ⟨W2, hW2⟩ : ∃ W2, W1.alloc (.cells #[.int .i64 0] 3) = W2 := ⟨_, rfl⟩
  obtain ⟨W3, hW3⟩ : ∃ W3, W2.alloc (.cells #[.bool false] 4) = W3 := ⟨_, rfl⟩
  obtain ⟨W4, hW4⟩ : ∃ W4, W3.setCell ⟨W1.heap.size, 0, none⟩ (.int .i64 0) = W4 := ⟨_, rfl⟩
  obtain ⟨W, hW⟩ : ∃ W, W4.setCell ⟨W2.heap.size, 0, none⟩ (.bool true) = W := ⟨_, rfl⟩
  have b1 : Below w.heap.size w W1 := hW1 ▸ (Below.refl _ _).alloc (Nat.le_refl _) _
  have b2 : Below W1.heap.size W1 W2 := hW2 ▸ (Below.refl _ _).alloc (Nat.le_refl _) _
  have b3 : Below W2.heap.size W2 W3 := hW3 ▸ (Below.refl _ _).alloc (Nat.le_refl _) _
  have z1 : W1.heap.size = w.heap.size + 1 := by rw [← hW1]; simp
  have z2 : W2.heap.size = w.heap.size + 2 := by rw [← hW2, World.size_alloc, z1]
  have z3 : W3.heap.size = w.heap.size + 3 := by rw [← hW3, World.size_alloc, z2]
  have e1 : W1.heap[w.heap.size]? = some (.cells #[.slice A l.length cap] 22 (0, 0)) := hW1 ▸ heap_alloc_new w _
  have e2 : W2.heap[W1.heap.size]? = some (.cells #[.int .i64 0] 3 (0, 0)) := hW2 ▸ heap_alloc_new W1 _
  have e3 : W3.heap[W2.heap.size]? = some (.cells #[.bool false] 4 (0, 0)) := hW3 ▸ heap_alloc_new W2 _
  have e23 : W3.heap[W1.heap.size]? = some (.cells #[.int .i64 0] 3 (0, 0)) := (b3.block _ (by omega)).trans e2
  have f3 : W3.frozen? ⟨W1.heap.size, 0, none⟩ = false := by simp [World.frozen?, e23]
  have e4 : W4.heap[W2.heap.size]? = some (.cells #[.bool false] 4 (0, 0)) := by
    rw [← hW4]; exact (Below.heap_setCell _ ⟨W1.heap.size, 0, none⟩ _ _ (by show W2.heap.size ≠ W1.heap.size; omega)).trans e3
  have f4 : W4.frozen? ⟨W2.heap.size, 0, none⟩ = false := by simp [World.frozen?, e4]
  have c3 : W3.cell? ⟨W1.heap.size, 0, none⟩ = some (.int .i64 0) := by rw [cell_of_row _ _ _ _ _ _ e23]; rfl
  have c4 : W4.cell? ⟨W2.heap.size, 0, none⟩ = some (.bool false) := by rw [cell_of_row _ _ _ _ _ _ e4]; rfl
  have eo : W.heap[W2.heap.size]? = some (.cells #[.bool true] 4 (0, 0)) := by
    rw [← hW]; simp [World.setCell, Array.getElem?_modify, e4]
  have e24 : W4.heap[W1.heap.size]? = some (.cells #[.int .i64 0] 3 (0, 0)) := by
    rw [← hW4]; simp [World.setCell, Array.getElem?_modify, e23]
  have ei : W.heap[W1.heap.size]? = some (.cells #[.int .i64 0] 3 (0, 0)) := by
    rw [← hW]; exact (Below.heap_setCell _ ⟨W2.heap.size, 0, none⟩ _ _ (by show W1.heap.size ≠ W2.heap.size; omega)).trans e24
  have bW : Below w.heap.size w W := by
    rw [← hW, ← hW4]
    exact ((b1.trans ((b2.trans (b3.mono b2.size)).mono b1.size)).setCell (p := ⟨W1.heap.size, 0, none⟩) (by show w.heap.size ≤ W1.heap.size; omega) _).setCell (p := ⟨W2.heap.size, 0, none⟩) (by show w.heap.size ≤ W2.heap.size; omega) _
  have el : W.heap[w.heap.size]? = some (.cells #[.slice A l.length cap] 22 (0, 0)) := by
    rw [← hW, ← hW4]
    exact (Below.heap_setCell _ ⟨W2.heap.size, 0, none⟩ _ _ (by show w.heap.size ≠ W2.heap.size; omega)).trans ((Below.heap_setCell _ ⟨W1.heap.size, 0, none⟩ _ _ (by show w.heap.size ≠ W1.heap.size; omega)).trans ((b3.block _ (by omega)).trans ((b2.block _ (by omega)).trans e1)))
  have zW : W.heap.size = w.heap.size + 3 := by rw [← hW, ← hW4]; simp [World.setCell, z3]
  obtain ⟨lg, lm, lT⟩ := h.isT
  have htl := lT.cells.2.2
  have hHA : ∀ W' : World, Only (fun k => k = t) W W' → SAt W' w.heap.size A l := fun W' hO => (hA.keepT lT (CellsKeep.of_below bW)).keepT (lT.on bW htl) (CellsKeep.of_t hO)
  have HC := Lib.hid (range_c (lo := ⟨#[]⟩) (hi := ⟨#[]⟩) (own := fun b => b = W1.heap.size ∨ b = W2.heap.size) (h.own bW (fun b hb => by omega)) (fun b hb => by omega) hm hn hks (by decide) (by decide))
  have HBW := Lib.hid bW
  have HE := Lib.hid (And.intro el (And.intro ei (And.intro eo (And.intro zW (And.intro z1 (And.intro z2 htl))))))
  have HHA := Lib.hid hHA
  have HL := Lib.hid (And.intro hl hm)
  have hsp : spanF ⟨#[]⟩ ⟨#[]⟩ m = m := by
    unfold spanF
    rw [List.filter_eq_self]
    intro k hk
    have h1 : ltS k ⟨#[]⟩ = false := by unfold ltS; rw [Lib.toList_data ⟨#[]⟩]; cases k.toList <;> rfl
    unfold inS
    rw [h1]; rfl
  have HSP := Lib.hid hsp
  clear h hm hn hks hA hl b1 b2 b3 z1 z2 z3 e1 e2 e3 e23 e4 eo e24 ei bW el zW hHA lT htl hsp
  refine (callsIn_wide (n := 9)).1 ?_
  refine callsIn_of_wp_marks Try.func16 rfl trivial ?_ rfl
  simp only [Try.ntmps16, List.size_toArray, List.length_cons, List.length_nil, Nat.reduceAdd, Nat.reduceSub, Array.replicate_succ, Array.replicate_zero, List.push_toArray, List.append_toArray, List.nil_append, List.cons_append]
  gi_wp2
  refine ⟨trivial, ((callsIn_wide (n := 8)).2 HC.out).mono ?_⟩
  rintro e wL ⟨gf, lb, rfl, heg, hO, hIt⟩
  rw [HSP.out] at hIt
  obtain ⟨el, ei, eo, zW, z1, z2, htl⟩ := HE.out
  have hOs := hO.size
  have hi : W1.heap.size < wL.heap.size := by omega
  have ho : W2.heap.size < wL.heap.size := by omega
  have ne1 : W1.heap.size ≠ W2.heap.size := by omega
  have ne2 : W2.heap.size ≠ W1.heap.size := by omega
  have fl : wL.heap[w.heap.size]? = some (.cells #[.slice A l.length cap] 22 (0, 0)) := (hO.block _ (by omega) (by show w.heap.size ≠ t; omega)).trans el
  have fi : wL.heap[W1.heap.size]? = some (.cells #[.int .i64 0] 3 (0, 0)) := (hO.block _ (by omega) (by show W1.heap.size ≠ t; omega)).trans ei
  have fo : wL.heap[W2.heap.size]? = some (.cells #[.bool true] 4 (0, 0)) := (hO.block _ (by omega) (by show W2.heap.size ≠ t; omega)).trans eo
  have hAL := HHA.out wL hO
  have HFL := Lib.hid fl; have HAL := Lib.hid hAL; have HZ := Lib.hid (And.intro z1 (And.intro z2 (And.intro hi (And.intro ho htl))))
  have HOW : Hid (∀ V, Only (fun b => b = W1.heap.size ∨ b = W2.heap.size) wL V → ∀ o, Only (fun k => k = t) w (V.putObj wL.heap.size o)) := Lib.hid (fun V hV o => by
    have hzw := HBW.out.size
    have h1 : Only (fun k => k = t) w V := ⟨hV.os.trans (hO.os.trans HBW.out.os), hV.tape.trans (hO.tape.trans HBW.out.tape), hV.output.trans (hO.output.trans HBW.out.output), by have := hV.size; omega, fun b hb hn => (hV.block b (by omega) (by omega)).trans ((hO.block b (by omega) hn).trans (HBW.out.block b hb))⟩
    exact only_turn h1 (turn_put o (.inl rfl)) (fun b hb => by omega))
  have h00 : HasI wL W1.heap.size W2.heap.size l (fun _ => False) [] wL := ⟨fun b h => h.elim, fi, fo, Only.refl _ _⟩
  have HI0 := Lib.hid (hIt 8)
  clear hAL fl fi fo hIt el ei eo zW z1 z2 htl hOs hO
  gi_wp2
  refine wpIn_range_iter2 rfl (by decide) (gf := gf) (lb := lb) rfl trivial heg (read := ReadH wL W1.heap.size W2.heap.size) HI0.out (fun b hb => hb.1) (fun _ => rfl) (HasI wL W1.heap.size W2.heap.size l) (fun _ _ _ _ => False) (HasI.clos hi ho) (fun _ => clos_false) (HasI.recs hi ho) (fun _ => recs_false _) h00 ?round ?done ?stop
  case round =>
    intro x
    apply Exists.intro
    refine ⟨fun la V K hK => ?_, fun la mine pre V hI h2 hN => ?_⟩
    · gi_wp2
      exact hK
    · obtain ⟨i1, i2, i3, i4⟩ := hI
      have vi : V.cell? ⟨W1.heap.size, 0, none⟩ = some (.int .i64 (pre.length : Int)) := by rw [cell_of_row _ _ _ _ _ _ i2]; rfl
      have vo : V.cell? ⟨W2.heap.size, 0, none⟩ = some (.bool (decide (l.take pre.length = pre))) := by rw [cell_of_row _ _ _ _ _ _ i3]; rfl
      have gi : V.frozen? ⟨W1.heap.size, 0, none⟩ = false := by simp [World.frozen?, i2]
      have go : V.frozen? ⟨W2.heap.size, 0, none⟩ = false := by simp [World.frozen?, i3]
      have vlb : V.heap[w.heap.size]? = some (.cells #[.slice A l.length cap] 22 (0, 0)) := (i4.block _ (Array.getElem?_eq_some_iff.1 HFL.out).1 (by have := HZ.out; omega)).trans HFL.out
      have vl : V.cell? ⟨w.heap.size, 0, none⟩ = some (.slice A l.length cap) := by rw [cell_of_row _ _ _ _ _ _ vlb]; rfl
      have hAV : ∀ i s, l[i]? = some s → ∃ b o, A = some ⟨b, o, none⟩ ∧ V.cell? ⟨b, o + i, none⟩ = some (.string s) := fun i s hi => by
        obtain ⟨b, o, e, hb, hc⟩ := HAL.out i s hi
        exact ⟨b, o, e, (World.cell?_of_block (a := ⟨b, o + i, none⟩) (i4.block b (by have := HZ.out; omega) (by have := HZ.out; omega))).trans hc⟩
      have HP : Hid (∀ z n, z = decide (l.take (pre ++ [x]).length = pre ++ [x]) → n = ((pre ++ [x]).length : Int) → Hold (fun b => (b = wL.heap.size ∨ b = wL.heap.size + 1) ∨ (mine b ∨ ReadH wL W1.heap.size W2.heap.size b)) V ((V.setCell ⟨W2.heap.size, 0, none⟩ (.bool z)).setCell ⟨W1.heap.size, 0, none⟩ (.int .i64 n)) ∧ HasI wL W1.heap.size W2.heap.size l mine (pre ++ [x]) ((V.setCell ⟨W2.heap.size, 0, none⟩ (.bool z)).setCell ⟨W1.heap.size, 0, none⟩ (.int .i64 n))) := Lib.hid (fun z n hz hn => by
        have hq := HZ.out
        refine ⟨HasI.hold ?_ ?_ _ _, HasI.step ⟨i1, i2, i3, i4⟩ (by omega) hz hn⟩
        · rintro (h | h | h)
          · omega
          · have := i1 _ h; omega
          · exact h.2 (.inl rfl)
        · rintro (h | h | h)
          · omega
          · have := i1 _ h; omega
          · exact h.2 (.inr rfl))
      have hnw : wrap64 ((pre.length : Int) + 1) = ((pre ++ [x]).length : Int) := by
        have := HL.out.2
        rw [List.length_append, List.length_singleton, wrap64_id (is64_iff.2 (by omega))]; omega
      have HNW := Lib.hid hnw
      have HTS := Lib.hid (take_step (l := l) (pre := pre) (x := x))
      obtain ⟨z, hz⟩ : ∃ z, decide (l.take pre.length = pre) = z := ⟨_, rfl⟩
      have HZ2 := Lib.hid hz
      rw [hz] at vo
      have HAV := Lib.hid hAV
      clear i1 i2 i3 i4 vlb hz hnw hAV h2
      cases z
      · have HD : Hid (false = decide (l.take (pre ++ [x]).length = pre ++ [x])) := Lib.hid (by
          have h1 := of_decide_eq_false HZ2.out
          rw [eq_comm, decide_eq_false_iff_not]
          exact fun h => h1 (HTS.out.1 h).1)
        gi_wp2
        exact HP.out _ _ HD.out HNW.out
      · by_cases hlt : pre.length < l.length
        · have hlz : (pre.length : Int) < (l.length : Int) := by omega
          obtain ⟨y, hy⟩ : ∃ y, l[pre.length]? = some y := ⟨_, List.getElem?_eq_getElem hlt⟩
          obtain ⟨b, o, hAe, c0⟩ := HAV.out _ _ hy
          subst hAe
          obtain ⟨q, hq⟩ : ∃ q, (y.toList == x.toList) = q := ⟨_, rfl⟩
          have HD : Hid (q = decide (l.take (pre ++ [x]).length = pre ++ [x])) := Lib.hid (by
            have h1 := of_decide_eq_true HZ2.out
            by_cases e : y = x
            · rw [decide_eq_true (HTS.out.2 ⟨h1, by rw [hy, e]⟩), ← hq, e]
              simp
            · rw [decide_eq_false (fun h => e (by have h3 := (HTS.out.1 h).2; rw [hy] at h3; exact Option.some.inj h3)), ← hq]
              have : ¬ (y.toList = x.toList) := fun h => e (toList_inj h)
              simpa using this)
          clear hy
          gi_wp2
          exact HP.out _ _ HD.out HNW.out
        · have hlz : ¬ (pre.length : Int) < (l.length : Int) := by omega
          have HD : Hid (false = decide (l.take (pre ++ [x]).length = pre ++ [x])) := Lib.hid (by
            rw [eq_comm, decide_eq_false_iff_not]
            intro h
            have h2 := (HTS.out.1 h).2
            rw [List.getElem?_eq_none (by omega)] at h2
            cases h2)
          gi_wp2
          exact HP.out _ _ HD.out HNW.out
  case stop =>
    rintro c' mine xs V - h _
    exact h.elim
  case done =>
    rintro mine xs V rfl ⟨i1, i2, i3, i4⟩ hd
    have vi : V.cell? ⟨W1.heap.size, 0, none⟩ = some (.int .i64 (xs.length : Int)) := by rw [cell_of_row _ _ _ _ _ _ i2]; rfl
    have vo : V.cell? ⟨W2.heap.size, 0, none⟩ = some (.bool (decide (l.take xs.length = xs))) := by rw [cell_of_row _ _ _ _ _ _ i3]; rfl
    have vlb : V.heap[w.heap.size]? = some (.cells #[.slice A l.length cap] 22 (0, 0)) := (i4.block _ (Array.getElem?_eq_some_iff.1 HFL.out).1 (by have := HZ.out; omega)).trans HFL.out
    have vl : V.cell? ⟨w.heap.size, 0, none⟩ = some (.slice A l.length cap) := by rw [cell_of_row _ _ _ _ _ _ vlb]; rfl
    have HE2 := Lib.hid (has_end (m := xs) (l := l))
    have HOV := Lib.hid (HOW.out V i4)
    have HD := Lib.hid hd
    obtain ⟨z, hz⟩ : ∃ z, decide (l.take xs.length = xs) = z := ⟨_, rfl⟩
    obtain ⟨q, hq⟩ : ∃ q, (((xs.length : Nat) : Int) == ((l.length : Nat) : Int)) = q := ⟨_, rfl⟩
    rw [hz, hq] at HE2
    rw [hz] at vo
    clear hz i1 i2 i3 i4 vlb hd
    cases z
    · clear hq
      gi_wp2
      refine ⟨by simp, .inl ⟨_, _, rfl, run_takeDeferred HD.out, ?_⟩⟩
      exact ⟨_, results_tmp rfl _ _ _, by rw [← HE2.out]; rfl, HOV.out _⟩
    · gi_wp2
      refine ⟨by simp, .inl ⟨_, _, rfl, run_takeDeferred HD.out, ?_⟩⟩
      exact ⟨_, results_tmp rfl _ _ _, by rw [← HE2.out]; rfl, HOV.out _⟩

end Go.Proofs.Ytmhpgbhmhbldfaa
