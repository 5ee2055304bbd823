/- a page in memory: New, find, Free, Get, Drop -/
import Derived.Test.YtdfkahkomcfoeaaPgC
import Derived.Test.YtdfkahkomcfoeaaCln
namespace Go.Proofs.Ytdfkahkomcfoeaa
open Go.ChangeShapes Go.WideShapes Go.ChangeAt Go.RowKit

/-- a page in memory: its own block, which holds its row's value -/
structure IsPg (n : Nat) (w : World) (P : Nat) (v : Value) (l : Pg) : Prop where
  blk : w.heap[P]? = some (.cells #[v] 56 (0, 0))
  row : w.ownsRow n 47 2 v l.length (cellsB l)
  ne : v.ownBlock ≠ some P
  ge : n ≤ P
  ok : OkP l

theorem owns_on {w w' : World} {n : Nat} {e : TypeId} {size : Nat} {v : Value} {k : Nat} {xs : List Value} (h : w.ownsRow n e size v k xs) {ok : Nat → Prop} (ho : Only ok w w') (hv : ∀ g, v.ownBlock = some g → ¬ ok g) : w'.ownsRow n e size v k xs := by
  refine ⟨h.1, ?_⟩
  rcases h.2 with h2 | ⟨g, cap, cur, rfl, hbg, hg, r⟩
  · exact .inl h2
  · exact .inr ⟨g, cap, cur, rfl, hbg, (ho.block g (Array.getElem?_eq_some_iff.1 hg).1 (hv g rfl)).trans hg, r⟩

theorem IsPg.on {n : Nat} {w w' : World} {P : Nat} {v : Value} {l : Pg} (h : IsPg n w P v l) (hb : Below w.heap.size w w') : IsPg n w' P v l :=
  ⟨(hb.block P (Array.getElem?_eq_some_iff.1 h.blk).1).trans h.blk, owns_on h.row (Only.of_below (ok := fun _ => False) hb) fun _ _ h => h, h.ne, h.ge, h.ok⟩

theorem IsPg.lt {n : Nat} {w : World} {P : Nat} {v : Value} {l : Pg} (h : IsPg n w P v l) : P < w.heap.size := (Array.getElem?_eq_some_iff.1 h.blk).1

/-- the row's value, told -/
theorem IsPg.form {n : Nat} {w : World} {P : Nat} {v : Value} {l : Pg} (h : IsPg n w P v l) : ∃ A c b, v = .slice A l.length c ∧ l.length ≤ c ∧ (l ≠ [] → A = some ⟨b, 0, none⟩) ∧ RowB w b l := by
  obtain ⟨A, c, hv, hc, hx⟩ := owns_form h.row
  by_cases hl : l = []
  · exact ⟨A, c, 0, hv, hc, fun h => absurd hl h, by rw [hl]; intro j u hu; simp [cellsB] at hu⟩
  · obtain ⟨g, cur, hA, -, hg, -, -, ht⟩ := hx (by rw [ne_eq, List.length_eq_zero_iff]; exact hl)
    refine ⟨A, c, g, hv, hc, fun _ => hA, fun j u hu => ?_⟩
    rw [cell_of_row _ _ _ _ _ _ hg, ← Array.getElem?_toList]
    rw [← ht, List.getElem?_take] at hu
    split at hu
    · exact hu
    · cases hu

theorem pg_new (w : World) : Calls Try.prog 7 #[] w fun e w' => e = .returned (.pointer (some ⟨w.heap.size, 0, none⟩)) ∧ IsPg w.heap.size w' w.heap.size (.slice none 0 0) [] ∧ Below w.heap.size w w' := by
  go_enter Try.func7, Try.ntmps7
  go_wp2_with fail
  go_ret
  refine ⟨rfl, ⟨heap_alloc_new w _, ?_, ?_, Nat.le_refl _, OkP.nil⟩, (Below.refl _ _).alloc (Nat.le_refl _) _⟩
  · exact World.ownsRow_nil _ _ _ _
  · simp [Value.ownBlock]

theorem pg_find {n : Nat} {w : World} {P : Nat} {v : Value} {l : Pg} (h : IsPg n w P v l) (id : Nat) :
    Calls Try.prog 22 #[.pointer (some ⟨P, 0, none⟩), .int .u64 id] w fun e w' => e = .returned (.tuple #[.int .i64 (findI l id : Nat), .bool (hasP l id)]) ∧ Below w.heap.size w w' := by
  have hlen := h.ok.len
  obtain ⟨A, c, b, rfl, hc, hA, hrow⟩ := h.form
  have c0 : w.cell? ⟨P, 0, none⟩ = some (.slice A l.length c) := by rw [cell_of_row _ _ _ _ _ _ h.blk]; rfl
  have HS := Lib.hid (search_any l id b c A w hA hrow h.ok.ris (by omega))
  clear h hA hrow
  go_enter Try.func22, Try.ntmps22
  go_wp2_with (first
    | (go_at_call 34; (with_reducible refine HS.out.mono ?_); rintro e w' ⟨rfl, hb⟩)
    | fail)
  go_ret2
  exact ⟨rfl, hb⟩

theorem used_take {l : Pg} {i : Nat} (hi : i < l.length) : usedP (l.take (i + 1)) = usedP (l.take i) + 12 + l[i].2.length := by
  rw [List.take_succ_eq_append_getElem hi]
  have := usedP_app (l.take i) [l[i]]
  simp only [usedP] at this
  omega

set_option maxRecDepth 100000 in
theorem pg_free {n : Nat} {w : World} {P : Nat} {v : Value} {l : Pg} (h : IsPg n w P v l) :
    Calls Try.prog 17 #[.pointer (some ⟨P, 0, none⟩)] w fun e w' => e = .returned (.int .i64 ((512 - usedP l : Nat) : Int)) ∧ Below w.heap.size w w' := by
  have hlen := h.ok.len
  have hfit := h.ok.fit
  obtain ⟨A, c, b, rfl, hc, hA, hrow⟩ := h.form
  have c0 : w.cell? ⟨P, 0, none⟩ = some (.slice A l.length c) := by rw [cell_of_row _ _ _ _ _ _ h.blk]; rfl
  have HA := Lib.hid hA; have HR := Lib.hid hrow; have HF := Lib.hid hfit
  have e0 : (510 : Int) = (((512 : Nat) - usedP (l.take 0) : Nat) : Int) := by simp [usedP]
  have HE := Lib.hid e0
  clear h hA hrow hfit e0
  go_enter Try.func17, Try.ntmps17
  go_wp2_with fail
  go_loopg [3, 13] l.length (fun g sn si wr => ∃ i : Nat, si = .int .i64 i ∧ i ≤ l.length ∧ l.length - i ≤ g ∧ sn = .int .i64 ((512 - usedP (l.take i) : Nat) : Int) ∧ Hid (Below w.heap.size w wr))
  case atStart => exact ⟨0, rfl, Nat.zero_le _, by omega, by rw [← HE.out], Below.refl _ _⟩
  case round =>
    obtain ⟨i, rfl, hi, hg, rfl, HB⟩ := hrel
    by_cases hlt : i < l.length
    · obtain ⟨k0, k1⟩ := (HR.out.below HB.out).at hlt
      have eA := HA.out (by rintro rfl; simp at hlt)
      subst eA
      have hu := used_take hlt
      have hle := Nat.le_trans (used_sub (List.take_sublist (i + 1) l)) HF.out
      generalize l[i] = x at k0 k1 hu
      have hsz := str_size x.2
      have hw : wrap64 (((512 - usedP (l.take i) : Nat) : Int) - (12 + (x.2.length : Int))) = ((512 - usedP (l.take (i + 1)) : Nat) : Int) := by rw [wrap64_id (is64_iff.2 (by omega))]; omega
      have hw1 : wrap64 (12 + (x.2.length : Int)) = 12 + (x.2.length : Int) := wrap64_id (is64_iff.2 (by omega))
      have hl := fun W => len_str x.2 3 W
      have hb2 : Below w.heap.size wr (wr.alloc (.cells #[.int .u64 (x.1 : Int), .string ⟨x.2.toArray⟩] 47)) := (Below.refl _ wr).alloc HB.out.size _
      have HB2 := Lib.hid (HB.out.trans hb2)
      generalize hnx : ((512 - usedP (l.take (i + 1)) : Nat) : Int) = nx at hw
      have HNX := Lib.hid hnx
      clear hnx
      clear hu hle hb2
      go_wp2_with fail
      go_roundg (l.length - (i + 1))
      case measure => omega
      case rel => exact ⟨i + 1, by go_num, by omega, Nat.le_refl _, by rw [HNX.out], HB2⟩
    · obtain rfl : i = l.length := by omega
      have eT : l.take l.length = l := List.take_length
      rw [eT]
      go_wp2_with fail
      go_ret
      exact ⟨rfl, HB.out⟩

theorem has_true {l : Pg} {id : Nat} (hr : RisB l) (h : hasP l id = true) : ∃ s, l = loP l id ++ (id, s) :: hiP l id := by
  rcases ris_split hr id with ⟨s, -, hb⟩ | ⟨ha, -⟩
  · exact ⟨s, hb⟩
  · rw [h] at ha; cases ha

theorem has_false {l : Pg} {id : Nat} (hr : RisB l) (h : hasP l id = false) : l = loP l id ++ hiP l id := by
  rcases ris_split hr id with ⟨s, ha, -⟩ | ⟨-, hb⟩
  · rw [h] at ha; cases ha
  · exact hb

/-- what a record's bytes are -/
def getS (l : Pg) (id : Nat) : List UInt8 := ((l.find? fun r => r.1 == id).map (·.2)).getD []

theorem getS_eq {l : Pg} {id : Nat} {s : List UInt8} (h : l = loP l id ++ (id, s) :: hiP l id) : getS l id = s := by
  unfold getS
  rw [h, List.find?_append, List.find?_eq_none.2 (fun x hx => by have := lo_lt hx; simp; omega)]
  simp

theorem getS_none {l : Pg} {id : Nat} (h : hasP l id = false) : getS l id = [] := by
  unfold getS
  have : l.find? (fun r => r.1 == id) = none := by
    rw [List.find?_eq_none]
    intro x hx
    have := List.any_eq_false.1 h x hx
    exact this
  rw [this]; rfl

theorem pg_get {n : Nat} {w : World} {P : Nat} {v : Value} {l : Pg} (h : IsPg n w P v l) (id : Nat) :
    Calls Try.prog 20 #[.pointer (some ⟨P, 0, none⟩), .int .u64 id] w fun e w' => e = .returned (.tuple #[.string ⟨(getS l id).toArray⟩, .bool (hasP l id)]) ∧ Below w.heap.size w w' := by
  have HF := Lib.hid (pg_find h id)
  cases hh : hasP l id with
  | false =>
    rw [getS_none hh]
    rw [hh] at HF
    clear h hh
    go_enter Try.func20, Try.ntmps20
    go_wp2_with (first
      | (go_at_call 22; (with_reducible refine HF.out.mono ?_); rintro e w1 ⟨rfl, hb⟩)
      | fail)
    go_ret2
    exact ⟨rfl, hb⟩
  | true =>
    rw [hh] at HF
    obtain ⟨s, hs⟩ := has_true h.ok.ris hh
    rw [getS_eq hs]
    have hi : findI l id < l.length := by
      rw [findI_len]
      have := congrArg List.length hs
      simp only [List.length_append, List.length_cons] at this
      omega
    have hli : l[findI l id] = (id, s) := by
      have e : l[findI l id]? = some (id, s) := by
        rw [findI_len, hs]
        have e2 : loP (loP l id ++ (id, s) :: hiP l id) id = loP l id := by rw [← hs]
        rw [e2]; simp
      exact (List.getElem?_eq_some_iff.1 e).2
    have hsl : s.length ≤ 498 := h.ok.str (r := (id, s)) (by rw [← hli]; exact List.getElem_mem hi)
    obtain ⟨A, c, b, rfl, hc, hA, hrow⟩ := h.form
    have eA := hA (by rintro rfl; simp at hi)
    subst eA
    have hblk := h.blk
    have HP : Hid (∀ w1, Below w.heap.size w w1 → w1.cell? ⟨P, 0, none⟩ = some (.slice (some ⟨b, 0, none⟩) l.length c) ∧ w1.cell? ⟨b, findI l id * 2, none⟩ = some (.int .u64 (id : Int)) ∧ w1.cell? ⟨b, findI l id * 2 + 1, none⟩ = some (.string ⟨s.toArray⟩)) := Lib.hid fun w1 hb => by
      refine ⟨?_, ?_, ?_⟩
      · rw [cell_of_row _ _ _ _ _ _ (h.on hb).blk]; rfl
      · have := ((hrow.below hb).at hi).1
        rw [hli] at this; exact this
      · have := ((hrow.below hb).at hi).2
        rw [hli] at this; exact this
    have hcl := fun W => clone_any ⟨s.toArray⟩ W (by rw [str_size]; omega)
    have HCL := Lib.hid hcl
    clear h hh hs hli hrow hA hblk hcl
    generalize findI l id = at_ at HF HP hi
    go_enter Try.func20, Try.ntmps20
    go_wp2_with (first
      | (go_at_call 22; (with_reducible refine HF.out.mono ?_); rintro e w1 ⟨rfl, hb⟩; obtain ⟨k0, k1, k2⟩ := HP.out _ hb)
      | (go_at_call 29; (with_reducible refine (HCL.out _).mono ?_); rintro e w2 ⟨rfl, hb2⟩)
      | fail)
    go_ret2
    exact ⟨rfl, hb.trans (hb2.mono hb.size)⟩

end Go.Proofs.Ytdfkahkomcfoeaa
