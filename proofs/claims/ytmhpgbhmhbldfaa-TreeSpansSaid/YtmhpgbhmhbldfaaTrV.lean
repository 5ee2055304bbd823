/- steps of a way in a row; where a way goes on -/
import Derived.Test.YtmhpgbhmhbldfaaTrB
import Derived.Test.YtmhpgbhmhbldfaaTrG
import Derived.Deep.RegionHeld3
namespace Go.Proofs.Ytmhpgbhmhbldfaa
open Go.ChangeShapes Go.WideShapes Go.ChangeAt Go.RowKit

/-- a step: the node's number, its keys, its kids' numbers, a place -/
structure St where
  id : Nat
  A : Option Addr
  n : Nat
  c : Nat
  A' : Option Addr
  n' : Nat
  c' : Nat
  at_ : Nat

def St.cells (s : St) : List Value := [.int .u64 (s.id : Int), .slice s.A s.n s.c, .slice s.A' s.n' s.c', .int .i64 (s.at_ : Int)]

def rowSt (l : List St) : List Value := l.flatMap St.cells

theorem rowSt_cons (s : St) (l : List St) : rowSt (s :: l) = s.cells ++ rowSt l := rfl
theorem rowSt_app (a b : List St) : rowSt (a ++ b) = rowSt a ++ rowSt b := by unfold rowSt; rw [List.flatMap_append]
theorem rowSt_len : ∀ l : List St, (rowSt l).length = l.length * 4
  | [] => rfl
  | s :: l => by rw [rowSt_cons, List.length_append, rowSt_len l, List.length_cons]; show 4 + _ = _; omega
theorem rowSt_at : ∀ (l : List St) (i : Nat) (s : St), l[i]? = some s → ∀ j u, s.cells[j]? = some u → (rowSt l)[i * 4 + j]? = some u
  | [], i, s, h, _, _, _ => by simp at h
  | x :: l, 0, s, h, j, u, hu => by
    simp at h
    subst h
    rw [rowSt_cons, Nat.zero_mul, Nat.zero_add, List.getElem?_append_left (List.getElem?_eq_some_iff.1 hu).1]
    exact hu
  | x :: l, i + 1, s, h, j, u, hu => by
    rw [rowSt_cons, List.getElem?_append_right (by show 4 ≤ _; omega)]
    show (rowSt l)[(i + 1) * 4 + j - 4]? = some u
    have : (i + 1) * 4 + j - 4 = i * 4 + j := by omega
    rw [this]
    exact rowSt_at l i s (by simpa using h) j u hu
theorem rowSt_one (l : List St) (u : Value) (h : u ∈ rowSt l) : u.oneCell' = true := by
  obtain ⟨s, -, hs⟩ := List.mem_flatMap.1 h
  simp only [St.cells, List.mem_cons, List.not_mem_nil, or_false] at hs
  rcases hs with rfl | rfl | rfl | rfl <;> rfl

/-- steps in one block -/
def StAt (w : World) (g : Nat) (l : List St) : Prop := g < w.heap.size ∧ ∀ j u, (rowSt l)[j]? = some u → w.cell? ⟨g, j, none⟩ = some u

theorem StAt.on {w w' : World} {g : Nat} {l : List St} (h : StAt w g l) (hb : Below w.heap.size w w') : StAt w' g l :=
  ⟨Nat.lt_of_lt_of_le h.1 hb.size, fun j u hu => (hb.cell (p := ⟨g, j, none⟩) h.1).trans (h.2 j u hu)⟩

theorem StAt.four {w : World} {g : Nat} {l : List St} (h : StAt w g l) {i : Nat} {s : St} (hi : l[i]? = some s) {o : Nat} (ho : i * 4 = o) :
    w.cell? ⟨g, o, none⟩ = some (.int .u64 (s.id : Int)) ∧ w.cell? ⟨g, o + 1, none⟩ = some (.slice s.A s.n s.c) ∧ w.cell? ⟨g, o + 2, none⟩ = some (.slice s.A' s.n' s.c') ∧ w.cell? ⟨g, o + 3, none⟩ = some (.int .i64 (s.at_ : Int)) := by
  subst ho
  have := fun j u hj => h.2 _ u (rowSt_at l i s hi j u hj)
  exact ⟨this 0 _ rfl, this 1 _ rfl, this 2 _ rfl, this 3 _ rfl⟩

/-- is it the node? -/
theorem onward1_c (s : St) (id x : Nat) (w : World) (hx : w.cell? ⟨x, 0, none⟩ = some (.int .u64 (id : Int))) (hxl : x < w.heap.size) (b : Bool) (hb : decide (s.id = id) = b) :
    Calls Try.prog 48 #[.agg #[.int .u64 (s.id : Int), .slice s.A s.n s.c, .slice s.A' s.n' s.c', .int .i64 (s.at_ : Int)], .pointer (some ⟨x, 0, none⟩)] w fun e w' => e = .returned (.bool b) ∧ Below w.heap.size w w' := by
  obtain ⟨W0, hW0⟩ : ∃ W0, w.alloc (.cells #[.int .u64 (s.id : Int), .slice s.A s.n s.c, .slice s.A' s.n' s.c', .int .i64 (s.at_ : Int)] 65) = W0 := ⟨_, rfl⟩
  have hb0 : Below w.heap.size w W0 := hW0 ▸ (Below.refl _ _).alloc (Nat.le_refl _) _
  have x0 : W0.cell? ⟨x, 0, none⟩ = some (.int .u64 (id : Int)) := (hb0.cell (p := ⟨x, 0, none⟩) hxl).trans hx
  have y0 : W0.cell? ⟨w.heap.size, 0, none⟩ = some (.int .u64 (s.id : Int)) := by
    have : W0.heap[w.heap.size]? = _ := hW0 ▸ heap_alloc_new w _
    rw [cell_of_row _ _ _ _ _ _ this]; rfl
  have heq : ((s.id : Int) == (id : Int)) = b := by
    rw [← hb]
    by_cases h : s.id = id
    · simp [h]
    · have h' : ¬ (s.id : Int) = (id : Int) := by omega
      simp [h, h']
  have HB := Lib.hid hb0
  clear hb0 hx hxl hb
  go_enter Try.func48, Try.ntmps48
  go_wp2_with fail
  go_ret
  exact ⟨rfl, HB.out⟩

set_option maxHeartbeats 1000000 in
set_option maxRecDepth 100000 in
/-- no step is the node's -/
theorem index_none {l : List St} {g : Nat} (c id x : Nat) {w : World} (hl : StAt w g l) (hx : w.cell? ⟨x, 0, none⟩ = some (.int .u64 (id : Int))) (hxl : x < w.heap.size) (hn : ∀ s ∈ l, s.id ≠ id) (hm : l.length ≤ 1000) :
    Calls Try.prog 63 #[.slice (some ⟨g, 0, none⟩) l.length c, .func (.func 48) #[] #[.pointer (some ⟨x, 0, none⟩)]] w fun e w' => e = .returned (.int .i64 (-1)) ∧ Below w.heap.size w w' := by
  have HL := Lib.hid hl; have HX := Lib.hid (And.intro hx hxl); have HN := Lib.hid hn
  clear hl hx hxl hn
  go_enter Try.func63, Try.ntmps63
  go_wp2_with fail
  go_loopg [8] l.length (fun k iv wr => ∃ i : Nat, iv = .int .i64 i ∧ l.length - i ≤ k ∧ i ≤ l.length ∧ Hid (Below w.heap.size w wr))
  case atStart => exact ⟨0, rfl, by omega, Nat.zero_le _, Below.refl _ _⟩
  case round =>
    obtain ⟨i, rfl, hg, hi, HB⟩ := hrel
    by_cases hlt : i < l.length
    · obtain ⟨s, hs⟩ : ∃ s, l[i] = s := ⟨_, rfl⟩
      have hsi : l[i]? = some s := by rw [List.getElem?_eq_getElem hlt, hs]
      obtain ⟨o, ho⟩ : ∃ o, i * 4 = o := ⟨_, rfl⟩
      obtain ⟨c0, c1, c2, c3⟩ := (HL.out.on HB.out).four hsi ho
      have hd : decide (i < l.length) = true := by simpa using hlt
      have HC := Lib.hid (onward1_c s id x wr ((HB.out.cell (p := ⟨x, 0, none⟩) HX.out.2).trans HX.out.1) (Nat.lt_of_lt_of_le HX.out.2 HB.out.size) false (by simpa using HN.out s (by rw [← hs]; exact List.getElem_mem hlt)))
      have HLT := Lib.hid hlt
      have hdi : (i : Int) < (l.length : Int) := by omega
      clear hs hsi
      go_wp2_with fail
      refine HC.out.mono ?_
      rintro e w' ⟨rfl, hb'⟩
      go_wp2_with fail
      go_roundg (l.length - (i + 1))
      case measure => have := HLT.out; omega
      case rel => exact ⟨i + 1, by go_num, Nat.le_refl _, HLT.out, Lib.hid (HB.out.trans (hb'.mono HB.out.size))⟩
    · have hd : decide (i < l.length) = false := by simpa using hlt
      go_wp2_with fail
      go_ret
      exact ⟨rfl, HB.out⟩

theorem box_keep1 {W w w' : World} {x : Nat} {v : Value} (hb : Below w.heap.size w w') (h : w.cell? ⟨x, 0, none⟩ = some v ∧ x < w.heap.size ∧ Below W.heap.size W w) : w'.cell? ⟨x, 0, none⟩ = some v ∧ x < w'.heap.size ∧ Below W.heap.size W w' :=
  ⟨(hb.cell (p := ⟨x, 0, none⟩) h.2.1).trans h.1, Nat.lt_of_lt_of_le h.2.1 hb.size, h.2.2.trans (hb.mono h.2.2.size)⟩

theorem box_end {a W w' : World} {x : Nat} {v : Value} (h : Below a.heap.size a W) (h' : w'.cell? ⟨x, 0, none⟩ = some v ∧ x < w'.heap.size ∧ Below W.heap.size W w') : Below a.heap.size a w' := h.trans (h'.2.2.mono h.size)

theorem contains_none {l : List St} {g : Nat} (c id x : Nat) {w : World} (hl : StAt w g l) (hx : w.cell? ⟨x, 0, none⟩ = some (.int .u64 (id : Int))) (hxl : x < w.heap.size) (hn : ∀ s ∈ l, s.id ≠ id) (hm : l.length ≤ 1000) :
    Calls Try.prog 47 #[.slice (some ⟨g, 0, none⟩) l.length c, .func (.func 48) #[] #[.pointer (some ⟨x, 0, none⟩)]] w fun e w' => e = .returned (.bool false) ∧ Below w.heap.size w w' := by
  have HC := Lib.hid (index_none c id x hl hx hxl hn hm)
  clear hl hx hxl hn
  go_enter Try.func47, Try.ntmps47
  go_wp2_with fail
  refine HC.out.mono ?_
  rintro e w' ⟨rfl, hb⟩
  go_wp2_with fail
  go_ret
  exact ⟨rfl, hb⟩

set_option maxHeartbeats 1000000 in
set_option maxRecDepth 100000 in
/-- at a leaf the way is at its end -/
theorem onward_leaf {l : List St} {s : St} {g : Nat} (c m : Nat) {w : World} (hl : StAt w g l) (hs : l[m]? = some s) (h0 : s.n' = 0) (hsm : m ≤ 900) :
    Calls Try.prog 28 #[.slice (some ⟨g, 0, none⟩) (m + 1 : Nat) c] w fun e w' => e = .returned (.tuple #[.int .u64 0, .bool false]) ∧ Below w.heap.size w w' := by
  obtain ⟨o, ho⟩ : ∃ o, m * 4 = o := ⟨_, rfl⟩
  obtain ⟨c0, c1, c2, c3⟩ := hl.four hs ho
  obtain ⟨W0, hW0⟩ : ∃ W0, w.alloc (.cells #[.int .u64 (s.id : Int), .slice s.A s.n s.c, .slice s.A' s.n' s.c', .int .i64 (s.at_ : Int)] 65) = W0 := ⟨_, rfl⟩
  have hb0 : Below w.heap.size w W0 := hW0 ▸ (Below.refl _ _).alloc (Nat.le_refl _) _
  have hy : W0.heap[w.heap.size]? = _ := hW0 ▸ heap_alloc_new w _
  have y1 : W0.cell? ⟨w.heap.size, 1, none⟩ = some (.slice s.A s.n s.c) := by rw [cell_of_row _ _ _ _ _ _ hy]; rfl
  have y2 : W0.cell? ⟨w.heap.size, 2, none⟩ = some (.slice s.A' s.n' s.c') := by rw [cell_of_row _ _ _ _ _ _ hy]; rfl
  have hd1 : ((m + 1 : Nat) : Int) - 1 = (m : Int) := by omega
  have HB := Lib.hid hb0; have H0 := Lib.hid h0
  obtain ⟨n, hn⟩ : ∃ n, m + 1 = n := ⟨_, rfl⟩
  rw [hn] at hd1 ⊢
  have hmn : m < n := by omega
  have hn9 : n ≤ 901 := by omega
  clear hb0 h0 hl hs hy hn
  go_enter Try.func28, Try.ntmps28
  go_wp2_with fail
  refine (leaf_c s.A s.A' s.n s.c s.n' s.c' W0).mono ?_
  rintro e w4 ⟨rfl, hb4⟩
  rw [H0.out]
  go_wp2_with fail
  go_ret2
  exact ⟨rfl, HB.out.trans (hb4.mono HB.out.size)⟩

set_option maxHeartbeats 2000000 in
set_option maxRecDepth 100000 in
/-- at a node with kids it goes on to one of them -/
theorem onward_in {l : List St} {s : St} {g : Nat} (c m id : Nat) {w : World} (hl : StAt w g l) (hm : l.length = m + 1) (hs : l[m]? = some s) (h0 : s.n' ≠ 0) (hsm : m ≤ 62) {a : Addr} (hA : s.A' = some a) (hat : s.at_ < s.n') (hid : w.cell? (a.add s.at_) = some (.int .u64 (id : Int)))
    (hn : ∀ s ∈ l, s.id ≠ id) :
    Calls Try.prog 28 #[.slice (some ⟨g, 0, none⟩) (m + 1 : Nat) c] w fun e w' => e = .returned (.tuple #[.int .u64 (id : Int), .bool true]) ∧ Below w.heap.size w w' := by
  obtain ⟨o, ho⟩ : ∃ o, m * 4 = o := ⟨_, rfl⟩
  obtain ⟨c0, c1, c2, c3⟩ := hl.four hs ho
  obtain ⟨sid, sA, sn, sc, sA', sn', sc', sat⟩ := s
  simp only at c0 c1 c2 c3 h0 hA hat hid
  subst hA
  obtain ⟨W0, hW0⟩ : ∃ W0, w.alloc (.cells #[.int .u64 (sid : Int), .slice sA sn sc, .slice (some a) sn' sc', .int .i64 (sat : Int)] 65) = W0 := ⟨_, rfl⟩
  have hb0 : Below w.heap.size w W0 := hW0 ▸ (Below.refl _ _).alloc (Nat.le_refl _) _
  have hy : W0.heap[w.heap.size]? = _ := hW0 ▸ heap_alloc_new w _
  have y1 : W0.cell? ⟨w.heap.size, 1, none⟩ = some (.slice sA sn sc) := by rw [cell_of_row _ _ _ _ _ _ hy]; rfl
  have y2 : W0.cell? ⟨w.heap.size, 2, none⟩ = some (.slice (some a) sn' sc') := by rw [cell_of_row _ _ _ _ _ _ hy]; rfl
  have y3 : W0.cell? ⟨w.heap.size, 3, none⟩ = some (.int .i64 (sat : Int)) := by rw [cell_of_row _ _ _ _ _ _ hy]; rfl
  have hd1 : ((m + 1 : Nat) : Int) - 1 = (m : Int) := by omega
  have hal : (a.add sat).block < w.heap.size := World.block_lt_of_cell? w _ hid
  have hz : (sn' == 0) = false := by simpa using h0
  have HB := Lib.hid hb0; have HZ := Lib.hid hz; have HID := Lib.hid (And.intro hid hal); have HY := Lib.hid hy; have HL := Lib.hid hl; have HN := Lib.hid hn; have HM := Lib.hid hm
  obtain ⟨n, hn'⟩ : ∃ n, m + 1 = n := ⟨_, rfl⟩
  rw [hn'] at hd1 ⊢
  have hmn : m < n := by omega
  have hn9 : n ≤ 63 := by omega
  have hnn : ¬ ((n : Int) = 64) := by omega
  have hsat : (sat : Int) < (sn' : Int) := by omega
  have HN' := Lib.hid hn'
  clear hb0 h0 hl hm hs hy hid hal hn hn' hz
  go_enter Try.func28, Try.ntmps28
  go_wp2_with fail
  refine (leaf_c sA (some a) sn sc sn' sc' W0).mono ?_
  rintro e w4 ⟨rfl, hb4⟩
  rw [HZ.out]
  have hb04 := HB.out.trans (hb4.mono HB.out.size)
  have hy4 := (hb4.block _ ((Array.getElem?_eq_some_iff.1 HY.out).1)).trans HY.out
  have y1 : w4.cell? ⟨w.heap.size, 1, none⟩ = some (.slice sA sn sc) := by rw [cell_of_row _ _ _ _ _ _ hy4]; rfl
  have y2 : w4.cell? ⟨w.heap.size, 2, none⟩ = some (.slice (some a) sn' sc') := by rw [cell_of_row _ _ _ _ _ _ hy4]; rfl
  have y3 : w4.cell? ⟨w.heap.size, 3, none⟩ = some (.int .i64 (sat : Int)) := by rw [cell_of_row _ _ _ _ _ _ hy4]; rfl
  have hk4 := (hb04.cell HID.out.2).trans HID.out.1
  obtain ⟨W5, hW5⟩ : ∃ W5, w4.alloc (.cells #[.int .u64 (id : Int)] 26) = W5 := ⟨_, rfl⟩
  have hb45 : Below w4.heap.size w4 W5 := hW5 ▸ (Below.refl _ _).alloc (Nat.le_refl _) _
  have hz5 : W5.heap[w4.heap.size]? = _ := hW5 ▸ heap_alloc_new w4 _
  have z0 : W5.cell? ⟨w4.heap.size, 0, none⟩ = some (.int .u64 (id : Int)) := by rw [cell_of_row _ _ _ _ _ _ hz5]; rfl
  have hzl : w4.heap.size < W5.heap.size := (Array.getElem?_eq_some_iff.1 hz5).1
  have HB5 := Lib.hid (hb04.trans (hb45.mono hb04.size)); have HZL := Lib.hid hzl; have HZ0 := Lib.hid z0
  clear hb4 hb04 hy4 hb45 hz5 hzl
  go_upto_region 5 with fail
  have hbW := Below.refl W5.heap.size W5
  have HC : Hid (∀ wn, Below W5.heap.size W5 wn → Calls Try.prog 47 #[.slice (some ⟨g, 0, none⟩) n c, .func (.func 48) #[] #[.pointer (some ⟨w4.heap.size, 0, none⟩)]] wn fun e w' => e = .returned (.bool false) ∧ Below wn.heap.size wn w') := Lib.hid (fun wn hb => by
    have hb' := HB5.out.trans (hb.mono HB5.out.size)
    have := contains_none c id w4.heap.size (HL.out.on hb') ((hb.cell (p := ⟨w4.heap.size, 0, none⟩) HZL.out).trans HZ0.out) (Nat.lt_of_lt_of_le HZL.out hb.size) HN.out (by rw [HM.out]; omega)
    rw [HM.out, HN'.out] at this
    exact this)
  go_region_held3 (fun w' => w'.cell? ⟨w4.heap.size, 0, none⟩ = some (.int .u64 (id : Int)) ∧ w4.heap.size < w'.heap.size ∧ Below W5.heap.size W5 w')
    (first | (exact box_keep1 ((Below.refl W5.heap.size W5).drew) ⟨z0, HZL.out, hbW⟩) | (exact box_keep1 (by assumption) (by assumption)))
    (first
      | (go_at_call 47; (with_reducible refine (HC.out _ (by go_split_ands; assumption)).mono ?_); rintro e wn ⟨rfl, hbn⟩))
  all_goals
    go_wp2_with fail
    go_ret2
    exact ⟨rfl, box_end (x := w4.heap.size) (v := .int .u64 (id : Int)) HB5.out (by assumption)⟩

end Go.Proofs.Ytmhpgbhmhbldfaa
