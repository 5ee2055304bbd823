/- where a record is: cmp.Compare, slices.BinarySearchFunc -/
import Derived.Test.YtdfkahkomcfoeaaPgM
import Derived.LoopN
import Derived.Deep.LoopGhost
import Derived.Lib.Hide
namespace Go.Proofs.Ytdfkahkomcfoeaa
open Go.ChangeShapes Go.WideShapes Go.ChangeAt Go.RowKit

/-- the cells of a row of records -/
def cellsB : Pg → List Value
  | [] => []
  | r :: t => .int .u64 (r.1 : Int) :: .string ⟨r.2.toArray⟩ :: cellsB t

theorem cellsB_len : ∀ l : Pg, (cellsB l).length = l.length * 2
  | [] => rfl
  | r :: t => by simp only [cellsB, List.length_cons, cellsB_len t]; omega

theorem cellsB_app : ∀ a b : Pg, cellsB (a ++ b) = cellsB a ++ cellsB b
  | [], _ => rfl
  | r :: t, b => by simp only [List.cons_append, cellsB, cellsB_app t b]

theorem cellsB_one : ∀ (l : Pg) (u : Value), u ∈ cellsB l → u.oneCell' = true
  | r :: t, u, h => by
    simp only [cellsB, List.mem_cons] at h
    rcases h with rfl | rfl | h
    · rfl
    · rfl
    · exact cellsB_one t u h

theorem cellsB_at : ∀ (l : Pg) (j : Nat) (hj : j < l.length), (cellsB l)[j * 2]? = some (.int .u64 (l[j].1 : Int)) ∧ (cellsB l)[j * 2 + 1]? = some (.string ⟨l[j].2.toArray⟩)
  | r :: t, 0, _ => ⟨rfl, rfl⟩
  | r :: t, j + 1, hj => by
    have := cellsB_at t j (by simpa using hj)
    rw [show (j + 1) * 2 = j * 2 + 2 by omega]
    simpa [cellsB] using this

/-- a row of records that can be read -/
def RowB (w : World) (b : Nat) (l : Pg) : Prop := ∀ j u, (cellsB l)[j]? = some u → w.cell? ⟨b, j, none⟩ = some u

theorem RowB.at {w : World} {b : Nat} {l : Pg} (h : RowB w b l) {j : Nat} (hj : j < l.length) : w.cell? ⟨b, j * 2, none⟩ = some (.int .u64 (l[j].1 : Int)) ∧ w.cell? ⟨b, j * 2 + 1, none⟩ = some (.string ⟨l[j].2.toArray⟩) :=
  ⟨h _ _ (cellsB_at l j hj).1, h _ _ (cellsB_at l j hj).2⟩

theorem RowB.below {w w' : World} {b : Nat} {l : Pg} (h : RowB w b l) (hb : Below w.heap.size w w') : RowB w' b l := fun j u hu => by
  have h1 := h j u hu
  have hlt : b < w.heap.size := block_lt_of_cell h1
  rw [World.cell?_of_block (a := ⟨b, j, none⟩) (hb.block b hlt)]; exact h1

theorem find_of {l : Pg} {id i : Nat} (hi : i ≤ l.length) (h1 : ∀ t (ht : t < l.length), t < i → l[t].1 < id) (h2 : ∀ t (ht : t < l.length), i ≤ t → id ≤ l[t].1) : findI l id = i := by
  unfold findI
  have e : l.countP (fun r => decide (r.1 < id)) = (l.take i ++ l.drop i).countP (fun r => decide (r.1 < id)) := by rw [List.take_append_drop]
  rw [e, List.countP_append]
  have e1 : (l.take i).countP (fun r => decide (r.1 < id)) = (l.take i).length := by
    rw [List.countP_eq_length]
    intro a ha
    obtain ⟨t, ht, rfl⟩ := List.getElem_of_mem ha
    rw [List.length_take] at ht
    rw [List.getElem_take]
    simpa using h1 t (by omega) (by omega)
  have e2 : (l.drop i).countP (fun r => decide (r.1 < id)) = 0 := by
    rw [List.countP_eq_zero]
    intro a ha
    obtain ⟨t, ht, rfl⟩ := List.getElem_of_mem ha
    rw [List.length_drop] at ht
    rw [List.getElem_drop]
    have := h2 (i + t) (by omega) (by omega)
    simp; omega
  rw [e1, e2, List.length_take]; omega

theorem has_of {l : Pg} {id i : Nat} (hr : RisB l) (hi : i ≤ l.length) (h1 : ∀ t (ht : t < l.length), t < i → l[t].1 < id) (h2 : ∀ t (ht : t < l.length), i ≤ t → id ≤ l[t].1) :
    hasP l id = if h : i < l.length then decide (l[i].1 = id) else false := by
  have hlt : ∀ a b (ha : a < l.length) (hb : b < l.length), a < b → l[a].1 < l[b].1 := fun a b ha hb hab => List.pairwise_iff_getElem.1 hr a b ha hb hab
  unfold hasP
  split
  · rename_i h
    by_cases he : l[i].1 = id
    · rw [decide_eq_true he]
      exact List.any_eq_true.2 ⟨l[i], List.getElem_mem h, by simpa using he⟩
    · rw [decide_eq_false he, List.any_eq_false]
      intro a ha
      obtain ⟨t, ht, rfl⟩ := List.getElem_of_mem ha
      have h3 := h2 i h (Nat.le_refl _)
      simp
      rcases Nat.lt_trichotomy t i with k | k | k
      · have := h1 t ht k; omega
      · subst k; exact he
      · have := hlt i t h ht k; omega
  · rename_i h
    rw [List.any_eq_false]
    intro a ha
    obtain ⟨t, ht, rfl⟩ := List.getElem_of_mem ha
    have := h1 t ht (by omega)
    simp; omega

/-- how two numbers are ordered -/
def cmpU (a b : Int) : Int := if a < b then -1 else if b < a then 1 else 0

theorem cmpU_ne {x y : Nat} (h : ¬ x = y) : ¬ cmpU (x : Int) (y : Int) = 0 := by
  unfold cmpU
  by_cases h1 : (x : Int) < (y : Int)
  · rw [if_pos h1]; decide
  · rw [if_neg h1, if_pos (by omega)]; decide

theorem nan_u64_any (k : Int) (w : World) : Calls Try.prog 48 #[.int .u64 k] w fun e w' => e = .returned (.bool false) ∧ w = w' := by
  go_enter Try.func48, Try.ntmps48
  go_wp2
  go_ret
  exact ⟨by simp, rfl⟩

theorem cmp_u64_any (a b : Int) (w : World) : Calls Try.prog 36 #[.int .u64 a, .int .u64 b] w fun e w' => e = .returned (.int .i64 (cmpU a b)) ∧ w = w' := by
  unfold cmpU
  rcases Int.lt_trichotomy a b with h | h | h
  · rw [if_pos h]
    go_enter Try.func36, Try.ntmps36
    go_wp2_with (go_at_call 48; refine (nan_u64_any _ _).mono ?_; rintro e w' ⟨rfl, rfl⟩)
    go_ret
    exact ⟨rfl, rfl⟩
  · subst h
    simp only [Int.lt_irrefl, if_false]
    go_enter Try.func36, Try.ntmps36
    go_wp2_with (go_at_call 48; refine (nan_u64_any _ _).mono ?_; rintro e w' ⟨rfl, rfl⟩)
    go_ret
    exact ⟨rfl, rfl⟩
  · rw [if_neg (by omega), if_pos h]
    go_enter Try.func36, Try.ntmps36
    go_wp2_with (go_at_call 48; refine (nan_u64_any _ _).mono ?_; rintro e w' ⟨rfl, rfl⟩)
    go_ret
    exact ⟨rfl, rfl⟩

theorem find1_any (x y : Int) (s : ByteArray) (w : World) :
    Calls Try.prog 35 #[.agg #[.int .u64 x, .string s], .int .u64 y] w fun e w' => e = .returned (.int .i64 (cmpU x y)) ∧ Below w.heap.size w w' := by
  go_enter Try.func35, Try.ntmps35
  go_wp2_with (first
    | (go_at_call 36; refine (cmp_u64_any _ _ _).mono ?_; rintro e w' ⟨rfl, rfl⟩)
    | fail)
  go_ret
  exact ⟨rfl, (Below.refl _ _).alloc (Nat.le_refl _) _⟩

theorem run_find1 (args : Array Value) (w : World) : (callFunc 35 args).run Try.prog w = .ok (.enter 35 args) w := by
  first | exact run_callFunc_enter (by kernel_rfl) | exact (by kernel_rfl)

set_option maxHeartbeats 4000000 in
set_option maxRecDepth 100000 in
theorem search_any (l : Pg) (id b cap : Nat) (A : Option Addr) (w : World) (hA : l ≠ [] → A = some ⟨b, 0, none⟩) (hrow : RowB w b l) (hr : RisB l) (hn : l.length ≤ 1000) :
    Calls Try.prog 34 #[.slice A l.length cap, .int .u64 id, .func (.func 35) #[] #[]] w fun e w' =>
      e = .returned (.tuple #[.int .i64 (findI l id : Nat), .bool (hasP l id)]) ∧ Below w.heap.size w w' := by
  have HROW := Lib.hid hrow
  have HR := Lib.hid hr
  have HA := Lib.hid hA
  clear hrow hr hA
  have eg := run_find1
  go_enter Try.func34, Try.ntmps34
  go_wp2_with fail
  go_loopg [9, 10] l.length (fun kx s9 s10 wr => ∃ lo hi : Nat, s9 = .int .i64 lo ∧ s10 = .int .i64 hi ∧ lo ≤ hi ∧ hi ≤ l.length ∧ hi - lo ≤ kx ∧ Hid (Below w.heap.size w wr) ∧
    Hid ((∀ t (ht : t < l.length), t < lo → l[t].1 < id) ∧ (∀ t (ht : t < l.length), hi ≤ t → id ≤ l[t].1)))
  case atStart => exact ⟨0, l.length, rfl, rfl, Nat.zero_le _, Nat.le_refl _, by omega, Below.refl _ _, fun t ht h => absurd h (Nat.not_lt_zero _), fun t ht h => absurd ht (by omega)⟩
  case round =>
    obtain ⟨lo, hi, rfl, rfl, hlh, hin, hg, HB, HI⟩ := hrel
    by_cases hlt : lo < hi
    · have hm : (lo + hi) / 2 < l.length := by omega
      obtain ⟨c0, c1⟩ := (HROW.out.below HB.out).at hm
      have eA := HA.out (by rintro rfl; simp at hm)
      subst eA
      obtain ⟨x, hx⟩ : ∃ x, l[(lo + hi) / 2] = x := ⟨_, rfl⟩
      have HX := Lib.hid hx
      rw [hx] at c0 c1
      clear hx
      have hc := fun w => find1_any (x.1 : Int) (id : Int) ⟨x.2.toArray⟩ w
      by_cases hxi : x.1 < id
      · have e1 : cmpU (x.1 : Int) (id : Int) = -1 := by unfold cmpU; rw [if_pos (by omega)]
        simp only [e1] at hc
        go_wp2_with (go_at_call 35; refine (hc _).mono ?_; rintro e w' ⟨rfl, hb⟩)
        go_roundg (hi - ((lo + hi) / 2 + 1))
        case measure => omega
        case rel =>
          refine ⟨(lo + hi) / 2 + 1, hi, by rw [show ((lo : Int) + (hi : Int)) / 2 + 1 = (((lo + hi) / 2 + 1 : Nat) : Int) by omega], rfl, by omega, hin, Nat.le_refl _, HB.out.trans (hb.mono HB.out.size), ?_, HI.out.2⟩
          intro t ht hlt'
          rcases Nat.lt_or_ge t ((lo + hi) / 2) with h | h
          · have := List.pairwise_iff_getElem.1 HR.out t _ ht hm h
            rw [HX.out] at this; omega
          · have : t = (lo + hi) / 2 := by omega
            subst this; rw [HX.out]; exact hxi
      · have e1 : ¬ cmpU (x.1 : Int) (id : Int) < 0 := by unfold cmpU; rw [if_neg (by omega)]; split <;> omega
        go_wp2_with (go_at_call 35; refine (hc _).mono ?_; rintro e w' ⟨rfl, hb⟩)
        go_roundg ((lo + hi) / 2 - lo)
        case measure => omega
        case rel =>
          refine ⟨lo, (lo + hi) / 2, rfl, by rw [show ((lo : Int) + (hi : Int)) / 2 = (((lo + hi) / 2 : Nat) : Int) by omega], by omega, by omega, Nat.le_refl _, HB.out.trans (hb.mono HB.out.size), HI.out.1, ?_⟩
          intro t ht hlt'
          rcases Nat.lt_or_ge ((lo + hi) / 2) t with h | h
          · have := List.pairwise_iff_getElem.1 HR.out _ t hm ht h
            rw [HX.out] at this; omega
          · have : t = (lo + hi) / 2 := by omega
            subst this; rw [HX.out]; omega
    · obtain rfl : hi = lo := by omega
      have EF := Lib.hid (find_of hin HI.out.1 HI.out.2)
      have EH := Lib.hid (has_of HR.out hin HI.out.1 HI.out.2)
      by_cases hn' : hi < l.length
      · obtain ⟨c0, c1⟩ := (HROW.out.below HB.out).at hn'
        have eA := HA.out (by rintro rfl; simp at hn')
        subst eA
        obtain ⟨x, hx⟩ : ∃ x, l[hi] = x := ⟨_, rfl⟩
        have HX := Lib.hid hx
        rw [hx] at c0 c1
        clear hx
        have hc := fun w => find1_any (x.1 : Int) (id : Int) ⟨x.2.toArray⟩ w
        by_cases he : x.1 = id
        · have e1 : cmpU (x.1 : Int) (id : Int) = 0 := by unfold cmpU; rw [if_neg (by omega), if_neg (by omega)]
          simp only [e1] at hc
          have HE := Lib.hid he
          clear he
          go_wp2_with (go_at_call 35; refine (hc _).mono ?_; rintro e w' ⟨rfl, hb⟩)
          go_ret2
          refine ⟨?_, HB.out.trans (hb.mono HB.out.size)⟩
          rw [EF.out, EH.out, dif_pos hn', HX.out, decide_eq_true HE.out]
          rfl
        · have e1 : ¬ cmpU (x.1 : Int) (id : Int) = 0 := cmpU_ne he
          go_wp2_with (go_at_call 35; refine (hc _).mono ?_; rintro e w' ⟨rfl, hb⟩)
          go_ret2
          refine ⟨?_, HB.out.trans (hb.mono HB.out.size)⟩
          rw [EF.out, EH.out, dif_pos hn', HX.out, decide_eq_false he]
          simp [e1]
      · go_wp2_with fail
        go_ret2
        refine ⟨?_, HB.out⟩
        rw [EF.out, EH.out, dif_neg hn']
        rfl

end Go.Proofs.Ytdfkahkomcfoeaa
