/- a page in memory: Drop, Put -/
import Derived.Test.YtdfkahkomcfoeaaPgD
namespace Go.Proofs.Ytdfkahkomcfoeaa
open Go.ChangeShapes Go.WideShapes Go.ChangeAt Go.RowKit

/-- what a method leaves that may change a page -/
def PgStep (n : Nat) (w : World) (P : Nat) (v : Value) (l' : Pg) (r : Value) (e : Ending) (w' : World) : Prop :=
  e = .returned r ∧ ∃ v', IsPg n w' P v' l' ∧ Only (fun k => k = P ∨ some k = v.ownBlock) w w' ∧ (v'.ownBlock = v.ownBlock ∨ ∃ g, v'.ownBlock = some g ∧ w.heap.size ≤ g)

theorem PgStep.same {n : Nat} {w w' : World} {P : Nat} {v : Value} {l : Pg} (h : IsPg n w P v l) (hb : Below w.heap.size w w') (r : Value) : PgStep n w P v l r (.returned r) w' :=
  ⟨rfl, v, h.on hb, Only.of_below hb, .inl rfl⟩

theorem slice_one (A : Option Addr) (n c : Nat) : (Value.slice A n c).oneCell' = true := rfl

/-- the row's value laid in the page's block -/
theorem IsPg.store {n : Nat} {w : World} {P : Nat} {v v' : Value} {l' : Pg} (hP : w.heap[P]? = some (.cells #[v] 56 (0, 0))) (hrow : w.ownsRow n 47 2 v' l'.length (cellsB l')) (hne : v'.ownBlock ≠ some P) (hge : n ≤ P) (hok : OkP l') :
    IsPg n (w.setCell ⟨P, 0, none⟩ v') P v' l' := by
  refine ⟨(heap_setCell_same w P 0 _ _ _ hP).trans rfl, owns_on hrow ((Only.refl (fun k => k = P) w).setCell (p := ⟨P, 0, none⟩) (.inl rfl) _) (fun g hg => ?_), hne, hge, hok⟩
  rintro rfl
  exact hne hg

theorem lo_len_lt {l : Pg} {id : Nat} {s : List UInt8} (h : l = loP l id ++ (id, s) :: hiP l id) : (loP l id).length < l.length := by
  have := congrArg List.length h
  simp only [List.length_append, List.length_cons] at this
  omega

set_option maxRecDepth 100000 in
theorem pg_drop {n : Nat} {w : World} {P : Nat} {v : Value} {l : Pg} (h : IsPg n w P v l) (id : Nat) :
    Calls Try.prog 10 #[.pointer (some ⟨P, 0, none⟩), .int .u64 id] w (PgStep n w P v (dropL l id) (.bool (hasP l id))) := by
  have HF := Lib.hid (pg_find h id)
  have H := Lib.hid h
  cases hh : hasP l id with
  | false =>
    rw [hh] at HF
    have HD : Hid (dropL l id = l) := Lib.hid (by rw [drop_eq h.ok.ris id]; exact (has_false h.ok.ris hh).symm)
    rw [HD.out]
    clear h hh HD
    go_enter Try.func10, Try.ntmps10
    go_wp2_with (first
      | (go_at_call 22; (with_reducible refine HF.out.mono ?_); rintro e w1 ⟨rfl, hb⟩)
      | fail)
    go_ret
    exact PgStep.same H.out hb _
  | true =>
    rw [hh] at HF
    obtain ⟨s, hs⟩ := has_true h.ok.ris hh
    have hi : findI l id < l.length := by rw [findI_len]; exact lo_len_lt hs
    have hlen := h.ok.len
    have HD : Hid (dropL l id = l.take (findI l id) ++ l.drop (findI l id + 1)) := Lib.hid (by
      rw [drop_eq h.ok.ris id, findI_len]
      have e2 : loP l id ++ (id, s) :: hiP l id = l := hs.symm
      have e3 : l.take (loP l id).length = loP l id := by
        have := List.take_left' (l₁ := loP l id) (l₂ := (id, s) :: hiP l id) rfl
        rwa [e2] at this
      have e4 : l.drop ((loP l id).length + 1) = hiP l id := by
        have := List.drop_left' (l₁ := loP l id ++ [(id, s)]) (l₂ := hiP l id) (by rw [List.length_append]; rfl : _ = (loP l id).length + 1)
        rw [List.append_assoc, List.singleton_append, e2] at this
        exact this
      rw [e3, e4])
    obtain ⟨A, c, b, rfl, hc, -, -⟩ := h.form
    have HP : Hid (∀ w1, Below w.heap.size w w1 → w1.cell? ⟨P, 0, none⟩ = some (.slice A l.length c)) := Lib.hid fun w1 hb => by rw [cell_of_row _ _ _ _ _ _ (h.on hb).blk]; rfl
    have HX : Hid (∀ w1, Below w.heap.size w w1 → Calls Try.prog 23 #[.slice A l.length c, .int .i64 (findI l id : Nat), .int .i64 (((findI l id : Nat) : Int) + 1)] w1 (Inserted n w1 (.slice A l.length c) (l.take (findI l id) ++ l.drop (findI l id + 1)))) := Lib.hid fun w1 hb =>
      delete_any (h.on hb).row (findI l id) hi (by omega)
    rw [← HD.out] at HX
    have hiz : wrap64 (((findI l id : Nat) : Int) + 1) = ((findI l id : Nat) : Int) + 1 := wrap64_id (is64_iff.2 (by omega))
    have HOK := Lib.hid (h.ok.drop id)
    clear h hh hs HD
    generalize findI l id = at_ at HF HX hi hiz
    generalize dropL l id = l' at HX HOK
    go_enter Try.func10, Try.ntmps10
    go_wp2_with (first
      | (go_at_call 22; (with_reducible refine HF.out.mono ?_); rintro e w1 ⟨rfl, hb⟩; have k0 := HP.out _ hb; have HB := Lib.hid hb)
      | (go_at_call 23; (with_reducible refine (HX.out _ HB.out).mono ?_); rintro e w2 ⟨v', rfl, hrow, ho, hv⟩; obtain ⟨A', c', rfl, hc', -⟩ := owns_form hrow; have hP2 := (ho.block P (Array.getElem?_eq_some_iff.1 (H.out.on HB.out).blk).1 (fun e => (H.out.ne e.symm))).trans (H.out.on HB.out).blk; have z0 : w2.frozen? ⟨P, 0, none⟩ = false := (by simp [World.frozen?, hP2]); have k1 : w2.cell? ⟨P, 0, none⟩ = some (.slice A l.length c) := (by rw [cell_of_row _ _ _ _ _ _ hP2]; rfl))
      | fail)
    go_ret
    have hne' : (Value.slice A' l'.length c').ownBlock ≠ some P := by
      rcases hv with hv | ⟨g, hv, hg⟩
      · rw [hv]; exact H.out.ne
      · rw [hv]; intro e; cases e; have := (H.out.on HB.out).lt; omega
    refine ⟨rfl, _, IsPg.store hP2 hrow hne' H.out.ge HOK.out, ?_, ?_⟩
    · refine (((Only.of_below HB.out).trans (ho.mono fun k _ hk => ?_)).setCell (p := ⟨P, 0, none⟩) (.inl (.inl rfl)) _)
      exact .inr hk
    · exact hv.imp (fun x => x) fun ⟨g, h1, h2⟩ => ⟨g, h1, Nat.le_trans HB.out.size h2⟩

theorem cellsB_set : ∀ (a b : Pg) (id : Nat) (s t : List UInt8), (cellsB (a ++ (id, t) :: b)).set (a.length * 2 + 1) (.string ⟨s.toArray⟩) = cellsB (a ++ (id, s) :: b)
  | [], b, id, s, t => rfl
  | r :: a, b, id, s, t => by
    have := cellsB_set a b id s t
    rw [List.length_cons, show (a.length + 1) * 2 + 1 = a.length * 2 + 1 + 2 by omega]
    simp only [List.cons_append, cellsB, List.set_cons_succ, this]

theorem owns_set {n : Nat} {w : World} {g c : Nat} {a b : Pg} {id : Nat} {t : List UInt8} (h : w.ownsRow n 47 2 (.slice (some ⟨g, 0, none⟩) (a ++ (id, t) :: b).length c) (a ++ (id, t) :: b).length (cellsB (a ++ (id, t) :: b))) (s : List UInt8) :
    (w.setCell ⟨g, a.length * 2 + 1, none⟩ (.string ⟨s.toArray⟩)).ownsRow n 47 2 (.slice (some ⟨g, 0, none⟩) (a ++ (id, s) :: b).length c) (a ++ (id, s) :: b).length (cellsB (a ++ (id, s) :: b)) := by
  have hl : (a ++ (id, s) :: b).length = (a ++ (id, t) :: b).length := by simp
  refine ⟨cellsB_len _, ?_⟩
  rcases h.2 with ⟨h1, -⟩ | ⟨g', cap, cur, hv, hb, hg, hnc, hcm, hcs, ht⟩
  · cases h1
  · simp only [Value.slice.injEq, Option.some.injEq, Addr.mk.injEq, and_true, true_and] at hv
    obtain ⟨rfl, rfl⟩ := hv
    refine .inr ⟨g, c, cur.setIfInBounds (a.length * 2 + 1) (.string ⟨s.toArray⟩), rfl, hb, ?_, by rw [hl]; exact hnc, hcm, by rw [Array.size_setIfInBounds]; exact hcs, ?_⟩
    · rw [setCell_eq_setRow w g _ cur _ _ _ hg]
      exact setRow_heap w g cur _ _ _ hg
    · rw [hl, Array.toList_setIfInBounds, List.take_set, ht, cellsB_set]

/-- a record's bytes laid anew in a page in memory -/
theorem IsPg.set {n : Nat} {w : World} {P g c : Nat} {a b : Pg} {id : Nat} {t : List UInt8} (hP : w.heap[P]? = some (.cells #[.slice (some ⟨g, 0, none⟩) (a ++ (id, t) :: b).length c] 56 (0, 0))) (hrow : w.ownsRow n 47 2 (.slice (some ⟨g, 0, none⟩) (a ++ (id, t) :: b).length c) (a ++ (id, t) :: b).length (cellsB (a ++ (id, t) :: b))) (hne : g ≠ P) (hge : n ≤ P) (s : List UInt8) (hok : OkP (a ++ (id, s) :: b)) :
    IsPg n (w.setCell ⟨g, a.length * 2 + 1, none⟩ (.string ⟨s.toArray⟩)) P (.slice (some ⟨g, 0, none⟩) (a ++ (id, s) :: b).length c) (a ++ (id, s) :: b) := by
  refine ⟨?_, owns_set hrow s, ?_, hge, hok⟩
  · have hl : (a ++ (id, s) :: b).length = (a ++ (id, t) :: b).length := by simp
    rw [hl, ← hP]
    exact Below.heap_setCell w _ _ P (fun e => hne e.symm)
  · simp only [Value.ownBlock, ne_eq, Option.some.injEq]; exact hne

theorem used_mid (a b : Pg) (id : Nat) (s : List UInt8) : usedP (a ++ (id, s) :: b) = usedP (a ++ b) + 12 + s.length := by
  have h1 := usedP_app a ((id, s) :: b)
  have h2 := usedP_app a b
  simp only [usedP] at h1
  omega

/-- what Put answers and leaves -/
def putR (l : Pg) (id : Nat) (s : List UInt8) : Pg × Bool := if usedP (putL l id s) ≤ 512 then (putL l id s, true) else (l, false)

theorem head_at (A B : Pg) (x : Bod) (h : A.length < (A ++ x :: B).length) : (A ++ x :: B)[A.length] = x := by simp

set_option maxHeartbeats 1000000 in
set_option maxRecDepth 100000 in
theorem pg_put_has {n : Nat} {w : World} {P : Nat} {v : Value} {l : Pg} (h : IsPg n w P v l) (id : Nat) (s : List UInt8) (hs : s.length ≤ 100000) (hh : hasP l id = true) :
    Calls Try.prog 14 #[.pointer (some ⟨P, 0, none⟩), .int .u64 id, .string ⟨s.toArray⟩] w (PgStep n w P v (putR l id s).1 (.bool (putR l id s).2)) := by
  have H := Lib.hid h
  have HF := Lib.hid (pg_find h id)
  rw [hh, findI_len] at HF
  have hfr : ∀ w1, Below w.heap.size w w1 → Calls Try.prog 17 #[.pointer (some ⟨P, 0, none⟩)] w1 fun e w' => e = .returned (.int .i64 ((512 - usedP l : Nat) : Int)) ∧ Below w.heap.size w w' := fun w1 hb =>
    (pg_free (h.on hb)).mono fun e w' p => ⟨p.1, hb.trans (p.2.mono hb.size)⟩
  have HFR := Lib.hid hfr
  clear hfr
  obtain ⟨t, ht⟩ := has_true h.ok.ris hh
  have hfit := h.ok.fit
  have hlt := lo_len_lt ht
  have hup : usedP (putL l id s) = usedP l - t.length + s.length := by
    have e1 : usedP l = usedP (loP l id ++ (id, t) :: hiP l id) := congrArg usedP ht
    unfold putL
    rw [used_mid]
    rw [used_mid] at e1
    omega
  have hut : t.length + 14 ≤ usedP l := by
    have e1 : usedP l = usedP (loP l id ++ (id, t) :: hiP l id) := congrArg usedP ht
    rw [used_mid] at e1
    have := usedP_ge (loP l id ++ hiP l id)
    omega
  obtain ⟨A, c, b, rfl, hc, hA, hrow⟩ := h.form
  have eA := hA (by rintro rfl; simp at hlt)
  subst eA
  have hli : l[(loP l id).length] = (id, t) := by
    have e : l[(loP l id).length]? = some (id, t) := by
      have h2 : (loP l id ++ (id, t) :: hiP l id)[(loP l id).length]? = some (id, t) := by simp
      rw [← ht] at h2
      exact h2
    exact (List.getElem?_eq_some_iff.1 e).2
  have HP : Hid (∀ w1, Below w.heap.size w w1 → w1.cell? ⟨P, 0, none⟩ = some (.slice (some ⟨b, 0, none⟩) l.length c) ∧ w1.cell? ⟨b, (loP l id).length * 2 + 1, none⟩ = some (.string ⟨t.toArray⟩)) := Lib.hid fun w1 hb => by
    refine ⟨?_, ?_⟩
    · rw [cell_of_row _ _ _ _ _ _ (h.on hb).blk]; rfl
    · have := ((hrow.below hb).at hlt).2
      rw [hli] at this; exact this
  have l1 := fun W => len_str s 3 W
  have l2 := fun W => len_str t 3 W
  have hw1 : wrap64 (((512 - usedP l : Nat) : Int) + (t.length : Int)) = ((512 - usedP l : Nat) : Int) + (t.length : Int) := wrap64_id (is64_iff.2 (by omega))
  by_cases hok : usedP (putL l id s) ≤ 512
  · have b1 : decide (((512 - usedP l : Nat) : Int) + (t.length : Int) < (s.length : Int)) = false := by simp; omega
    have hR : putR l id s = (putL l id s, true) := if_pos hok
    have HOK := Lib.hid (h.ok.put (id := id) (by
      have := h.ok.ids (id, t) (by rw [ht]; simp)
      exact this) hok)
    rw [hR]
    have hcl := fun W => clone_any ⟨s.toArray⟩ W (by rw [str_size]; omega)
    have HCL := Lib.hid hcl
    have HT := Lib.hid ht
    have HRW : Hid (∀ w1, Below w.heap.size w w1 → w1.frozen? ⟨b, (loP l id).length * 2 + 1, none⟩ = false) := Lib.hid fun w1 hb => by
      rcases (h.on hb).row.2 with ⟨e, -⟩ | ⟨g', cap, cur, hv, -, hg, -⟩
      · cases e
      · simp only [Value.slice.injEq, Option.some.injEq, Addr.mk.injEq, and_true] at hv
        obtain ⟨⟨rfl, -⟩, -, rfl⟩ := hv
        simp [World.frozen?, hg]
    have HFIN : Hid (∀ w1, Below w.heap.size w w1 → IsPg n (w1.setCell ⟨b, (loP l id).length * 2 + 1, none⟩ (.string ⟨s.toArray⟩)) P (.slice (some ⟨b, 0, none⟩) (putL l id s).length c) (putL l id s)) := Lib.hid fun w1 hb => by
      have hx := h.on hb
      have hbp : b ≠ P := fun e => h.ne (by rw [e]; rfl)
      have hrw := hx.row
      have hbk := hx.blk
      have hok2 := HOK.out
      unfold putL at hok2 ⊢
      have e1 : l.length = (loP l id ++ (id, t) :: hiP l id).length := congrArg List.length ht
      have e2 : cellsB l = cellsB (loP l id ++ (id, t) :: hiP l id) := congrArg cellsB ht
      rw [e1, e2] at hrw
      rw [e1] at hbk
      exact IsPg.set hbk hrw hbp hx.ge s hok2
    clear h hh ht hli hrow hA hcl hok hR hup hut
    generalize (loP l id).length = at_ at HF HP HRW HFIN hlt
    generalize putL l id s = l' at HFIN
    go_enter Try.func14, Try.ntmps14
    go_wp2_with (first
      | (go_at_call 22; (with_reducible refine HF.out.mono ?_); rintro e w1 ⟨rfl, hb1⟩)
      | (go_at_call 17; (with_reducible refine (HFR.out _ hb1).mono ?_); rintro e w2 ⟨rfl, hb2⟩; obtain ⟨k0, k1⟩ := HP.out _ hb2; have HB2 := Lib.hid hb2; clear hb1)
      | fail)
    go_region_with (first
      | (go_at_call 29; (with_reducible refine (HCL.out _).mono ?_); rintro e w3 ⟨rfl, hb3⟩; have HB3 := Lib.hid (HB2.out.drew.trans (hb3.mono HB2.out.drew.size)); obtain ⟨m0, m1⟩ := HP.out _ HB3.out; have z1 := HRW.out _ HB3.out))
    all_goals
      go_wp2_with fail
      go_ret
      exact ⟨rfl, _, HFIN.out _ HB3.out, (Only.of_below HB3.out).setCell (p := ⟨b, _, none⟩) (.inl (.inr rfl)) _, .inl rfl⟩
  · have b1 : decide (((512 - usedP l : Nat) : Int) + (t.length : Int) < (s.length : Int)) = true := by simp; omega
    have hR : putR l id s = (l, false) := if_neg hok
    rw [hR]
    clear h hh ht hli hrow hA hok hR hup hut
    generalize (loP l id).length = at_ at HF HP hlt
    go_enter Try.func14, Try.ntmps14
    go_wp2_with (first
      | (go_at_call 22; (with_reducible refine HF.out.mono ?_); rintro e w1 ⟨rfl, hb1⟩)
      | (go_at_call 17; (with_reducible refine (HFR.out _ hb1).mono ?_); rintro e w2 ⟨rfl, hb2⟩; obtain ⟨k0, k1⟩ := HP.out _ hb2; have HB2 := Lib.hid hb2; clear hb1)
      | fail)
    go_ret
    exact PgStep.same H.out HB2.out _

/-- what stands behind an Insert and the store of its value -/
theorem ins_after {n : Nat} {w3 : World} {P g c' : Nat} {vo : Value} {L a b : Pg} {id : Nat} (s : List UInt8) (hL : L = a ++ (id, []) :: b) (hP : w3.heap[P]? = some (.cells #[vo] 56 (0, 0))) (hrow : w3.ownsRow n 47 2 (.slice (some ⟨g, 0, none⟩) L.length c') L.length (cellsB L)) (hne : g ≠ P) (hge : n ≤ P) (hok : OkP (a ++ (id, s) :: b))
    (w4 : World) (hb : Below (w3.setCell ⟨P, 0, none⟩ (.slice (some ⟨g, 0, none⟩) L.length c')).heap.size (w3.setCell ⟨P, 0, none⟩ (.slice (some ⟨g, 0, none⟩) L.length c')) w4) :
    w4.cell? ⟨P, 0, none⟩ = some (.slice (some ⟨g, 0, none⟩) L.length c') ∧ w4.cell? ⟨g, a.length * 2 + 1, none⟩ = some (.string ⟨#[]⟩) ∧ w4.frozen? ⟨g, a.length * 2 + 1, none⟩ = false ∧
    IsPg n (w4.setCell ⟨g, a.length * 2 + 1, none⟩ (.string ⟨s.toArray⟩)) P (.slice (some ⟨g, 0, none⟩) L.length c') (a ++ (id, s) :: b) := by
  subst hL
  have hPlt := (Array.getElem?_eq_some_iff.1 hP).1
  have hP2 : (w3.setCell ⟨P, 0, none⟩ (.slice (some ⟨g, 0, none⟩) (a ++ (id, []) :: b).length c')).heap[P]? = some (.cells #[.slice (some ⟨g, 0, none⟩) (a ++ (id, []) :: b).length c'] 56 (0, 0)) := (heap_setCell_same w3 P 0 _ _ _ hP).trans rfl
  have hP4 := (hb.block P (Array.getElem?_eq_some_iff.1 hP2).1).trans hP2
  have hrow2 := owns_on hrow ((Only.refl (fun k => k = P) w3).setCell (p := ⟨P, 0, none⟩) (.inl rfl) (.slice (some ⟨g, 0, none⟩) (a ++ (id, []) :: b).length c')) (fun g' hg' e => by simp only [Value.ownBlock, Option.some.injEq] at hg'; omega)
  have hrow4 := owns_on hrow2 (Only.of_below (ok := fun _ => False) hb) fun _ _ h => h
  have hcells := hrow4.cells (g := g) rfl
  have hat : a.length < (a ++ (id, ([] : List UInt8)) :: b).length := by simp
  refine ⟨by rw [cell_of_row _ _ _ _ _ _ hP4]; rfl, ?_, ?_, ?_⟩
  · have h1 := (cellsB_at (a ++ (id, ([] : List UInt8)) :: b) a.length hat).2
    rw [head_at] at h1
    have := hcells _ _ h1
    rw [adr_add, Nat.zero_add] at this
    exact this
  · rcases hrow4.2 with ⟨e, -⟩ | ⟨g', cap, cur, hv, -, hg, -⟩
    · cases e
    · simp only [Value.slice.injEq, Option.some.injEq, Addr.mk.injEq, and_true] at hv
      obtain ⟨rfl, -, rfl⟩ := hv
      simp [World.frozen?, hg]
  · have := IsPg.set hP4 hrow4 hne hge s hok
    have hl : (a ++ (id, s) :: b).length = (a ++ (id, ([] : List UInt8)) :: b).length := by simp
    rw [hl] at this
    exact this

set_option maxHeartbeats 1000000 in
set_option maxRecDepth 100000 in
theorem pg_put_not {n : Nat} {w : World} {P : Nat} {v : Value} {l : Pg} (h : IsPg n w P v l) (id : Nat) (hid : id < 18446744073709551616) (s : List UInt8) (hs : s.length ≤ 100000) (hh : hasP l id = false) :
    Calls Try.prog 14 #[.pointer (some ⟨P, 0, none⟩), .int .u64 id, .string ⟨s.toArray⟩] w (PgStep n w P v (putR l id s).1 (.bool (putR l id s).2)) := by
  have H := Lib.hid h
  have HF := Lib.hid (pg_find h id)
  rw [hh, findI_len] at HF
  have hfr : ∀ w1, Below w.heap.size w w1 → Calls Try.prog 17 #[.pointer (some ⟨P, 0, none⟩)] w1 fun e w' => e = .returned (.int .i64 ((512 - usedP l : Nat) : Int)) ∧ Below w.heap.size w w' := fun w1 hb =>
    (pg_free (h.on hb)).mono fun e w' p => ⟨p.1, hb.trans (p.2.mono hb.size)⟩
  have HFR := Lib.hid hfr
  clear hfr
  have ht := has_false h.ok.ris hh
  have hfit := h.ok.fit
  have hlen := h.ok.len
  have hup : usedP (putL l id s) = usedP l + 12 + s.length := by
    have e1 : usedP l = usedP (loP l id ++ hiP l id) := congrArg usedP ht
    unfold putL
    rw [used_mid]
    omega
  have hle : (loP l id).length ≤ l.length := by
    have := congrArg List.length ht
    simp only [List.length_append] at this
    omega
  obtain ⟨A, c, b, rfl, hc, hA, hrow⟩ := h.form
  have HP : Hid (∀ w1, Below w.heap.size w w1 → w1.cell? ⟨P, 0, none⟩ = some (.slice A l.length c)) := Lib.hid fun w1 hb => by
    rw [cell_of_row _ _ _ _ _ _ (h.on hb).blk]; rfl
  have l1 := fun W => len_str s 3 W
  have hw1 : wrap64 (((512 - usedP l : Nat) : Int) - 12) = ((512 - usedP l : Nat) : Int) - 12 := wrap64_id (is64_iff.2 (by omega))
  by_cases hok : usedP (putL l id s) ≤ 512
  · have b1 : decide (((512 - usedP l : Nat) : Int) - 12 < (s.length : Int)) = false := by simp; omega
    have hR : putR l id s = (putL l id s, true) := if_pos hok
    have HOK := Lib.hid (h.ok.put hid hok)
    rw [hR]
    have hcl := fun W => clone_any ⟨s.toArray⟩ W (by rw [str_size]; omega)
    have HCL := Lib.hid hcl
    have e3 : l.take (loP l id).length = loP l id := by
      have := List.take_left' (l₁ := loP l id) (l₂ := hiP l id) rfl
      rwa [← ht] at this
    have e4 : l.drop (loP l id).length = hiP l id := by
      have := List.drop_left' (l₁ := loP l id) (l₂ := hiP l id) rfl
      rwa [← ht] at this
    have HX : Hid (∀ w1, Below w.heap.size w w1 → Calls Try.prog 28 #[.slice A l.length c, .int .i64 (loP l id).length, .slice (some ⟨w1.heap.size, 0, none⟩) 1 1] (w1.alloc (.cells #[.int .u64 id, .string ⟨#[]⟩] 47)) (Inserted n (w1.alloc (.cells #[.int .u64 id, .string ⟨#[]⟩] 47)) (.slice A l.length c) (loP l id ++ (id, []) :: hiP l id))) := Lib.hid fun w1 hb => by
      have hx := h.on (hb.alloc hb.size (.cells #[.int .u64 id, .string ⟨#[]⟩] 47))
      have hlt : ∀ k, (Value.slice A l.length c).ownBlock = some k → n ≤ k ∧ k < w1.heap.size := (h.on hb).row.lt
      have := insert_any hx.row (loP l id).length hle (id, []) w1.heap.size (heap_alloc_new w1 _) (fun e => by have := (hlt _ e.symm).2; omega) (by omega) (by have := (h.on hb).lt; have := h.ge; simp only [World.size_alloc]; omega)
      rw [e3, e4] at this
      exact this
    obtain ⟨L, hL⟩ : ∃ L, L = loP l id ++ (id, ([] : List UInt8)) :: hiP l id := ⟨_, rfl⟩
    have hat : (loP l id).length < L.length := by rw [hL]; simp
    have hL0 : L.length ≠ 0 := by omega
    rw [← hL] at HX
    have HL := Lib.hid hL
    have HL0 := Lib.hid hL0
    clear h hh ht hrow hA hcl hok hR hup e3 e4 hL hL0 hle
    have HOK2 : Hid (OkP (loP l id ++ (id, s) :: hiP l id)) := HOK
    have HPT : Hid (putL l id s = loP l id ++ (id, s) :: hiP l id) := rfl
    generalize loP l id = a at HF HX HL HOK2 HPT hat
    generalize hiP l id = z at HX HL HOK2 HPT
    generalize putL l id s = l' at HPT
    go_enter Try.func14, Try.ntmps14
    go_wp2_with (first
      | (go_at_call 22; (with_reducible refine HF.out.mono ?_); rintro e w1 ⟨rfl, hb1⟩)
      | (go_at_call 17; (with_reducible refine (HFR.out _ hb1).mono ?_); rintro e w2 ⟨rfl, hb2⟩; have k0 := HP.out _ hb2; have HB2 := Lib.hid hb2; clear hb1)
      | (go_at_call 28; (with_reducible refine (HX.out _ HB2.out).mono ?_); rintro e w3 ⟨v', rfl, hrow, ho, hv⟩; obtain ⟨A', c', rfl, hc', hx⟩ := owns_form hrow; obtain ⟨g', hg'⟩ := hx HL0.out; obtain ⟨cur', rfl, -⟩ := hg';
          have hPz := (ho.block P (Array.getElem?_eq_some_iff.1 (H.out.on (HB2.out.alloc HB2.out.size (.cells #[.int .u64 id, .string ⟨#[]⟩] 47))).blk).1 (fun e => (H.out.ne e.symm))).trans (H.out.on (HB2.out.alloc HB2.out.size (.cells #[.int .u64 id, .string ⟨#[]⟩] 47))).blk;
          have z0 : w3.frozen? ⟨P, 0, none⟩ = false := (by simp [World.frozen?, hPz]); have k1 : w3.cell? ⟨P, 0, none⟩ = some (.slice A l.length c) := (by rw [cell_of_row _ _ _ _ _ _ hPz]; rfl);
          have HRW := Lib.hid hrow; have HO := Lib.hid ho; have HV := Lib.hid hv; have HPZ := Lib.hid hPz; clear hrow ho hv hx hPz k0)
      | fail)
    have hne : g' ≠ P := by
      rcases HV.out with hv | ⟨g, hv, hg⟩
      · intro e; exact H.out.ne (by rw [← hv, e]; rfl)
      · simp only [Value.ownBlock, Option.some.injEq] at hv
        have := (H.out.on HB2.out).lt
        simp only [World.size_alloc] at hg
        omega
    have HAF := Lib.hid (ins_after (n := n) (w3 := w3) (P := P) (g := g') (c' := c') s HL.out HPZ.out HRW.out hne H.out.ge HOK2.out)
    have k2 : (w3.setCell ⟨P, 0, none⟩ (.slice (some ⟨g', 0, none⟩) L.length c')).cell? ⟨P, 0, none⟩ = some (.slice (some ⟨g', 0, none⟩) L.length c') := (HAF.out _ (Below.refl _ _)).1
    go_region_with (first
      | (go_at_call 29; (with_reducible refine (HCL.out _).mono ?_); rintro e w4 ⟨rfl, hb4⟩; have HB4 := Lib.hid (((Below.refl _ (w3.setCell ⟨P, 0, none⟩ (.slice (some ⟨g', 0, none⟩) L.length c'))).drew).trans hb4); obtain ⟨m0, m1, z1, -⟩ := HAF.out _ HB4.out; clear hb4))
    all_goals
      go_wp2_with fail
      go_ret
      refine ⟨rfl, .slice (some ⟨g', 0, none⟩) L.length c', ?_, ?_, ?_⟩
      · rw [HPT.out]; exact (HAF.out _ HB4.out).2.2.2
      · have o1 : Only (fun k => k = P ∨ some k = (Value.slice A l.length c).ownBlock) w (w2.alloc (.cells #[.int .u64 id, .string ⟨#[]⟩] 47)) := (Only.of_below HB2.out).alloc _
        have o2 := o1.trans (HO.out.mono fun k _ hk => .inr hk)
        have o3 := o2.setCell (p := ⟨P, 0, none⟩) (.inl (.inl rfl)) (.slice (some ⟨g', 0, none⟩) L.length c')
        have o4 := o3.trans (Only.of_below HB4.out)
        refine o4.setCell (p := ⟨g', _, none⟩) ?_ _
        rcases HV.out with hv | ⟨g, hv, hg⟩
        · exact .inl (.inr hv)
        · simp only [Value.ownBlock, Option.some.injEq] at hv
          refine .inr ?_
          have := HB2.out.size
          simp only [World.size_alloc] at hg
          show w.heap.size ≤ g'
          omega
      · exact HV.out.imp (fun x => x) fun ⟨g, h1, h2⟩ => ⟨g, h1, by have := HB2.out.size; simp only [World.size_alloc] at h2; omega⟩
  · have b1 : decide (((512 - usedP l : Nat) : Int) - 12 < (s.length : Int)) = true := by simp; omega
    have hR : putR l id s = (l, false) := if_neg hok
    rw [hR]
    clear h hh ht hrow hA hok hR hup
    generalize loP l id = a at HF
    go_enter Try.func14, Try.ntmps14
    go_wp2_with (first
      | (go_at_call 22; (with_reducible refine HF.out.mono ?_); rintro e w1 ⟨rfl, hb1⟩)
      | (go_at_call 17; (with_reducible refine (HFR.out _ hb1).mono ?_); rintro e w2 ⟨rfl, hb2⟩; have k0 := HP.out _ hb2; have HB2 := Lib.hid hb2; clear hb1)
      | fail)
    go_ret
    exact PgStep.same H.out HB2.out _

/-- Put -/
theorem pg_put {n : Nat} {w : World} {P : Nat} {v : Value} {l : Pg} (h : IsPg n w P v l) (id : Nat) (hid : id < 18446744073709551616) (s : List UInt8) (hs : s.length ≤ 100000) :
    Calls Try.prog 14 #[.pointer (some ⟨P, 0, none⟩), .int .u64 id, .string ⟨s.toArray⟩] w (PgStep n w P v (putR l id s).1 (.bool (putR l id s).2)) := by
  cases hh : hasP l id with
  | true => exact pg_put_has h id s hs hh
  | false => exact pg_put_not h id hid s hs hh

end Go.Proofs.Ytdfkahkomcfoeaa
