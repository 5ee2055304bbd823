/- a node laid in a number's place -/
import Derived.Test.YtmhpgbhmhbldfaaTrP
import Derived.BigRegion
namespace Go.Proofs.Ytmhpgbhmhbldfaa
open Go.ChangeShapes Go.WideShapes Go.ChangeAt Go.RowKit

/-- nodes by their numbers -/
abbrev VNo : Nat → Value → Value := fun _ v => v
/-- numbers that are gone -/
abbrev VGo : Nat → Unit → Value := fun _ _ => .agg #[]

theorem step_put_runT {P : Program} {ops : Array Oper} {o : Oper} {a : Act} {w : World} {K : Act → World → Prop} {Q : Exit → Act → World → Prop} {E : Prop}
    (hg : o.guard = none) (t : TypeId) (m x y : Operand) (hop : o.op = .mapUpdate t m x y) (p k v : Value) (hm : a.eval m = p) (hx : a.eval x = k) (hy : a.eval y = v) {w' : World} (hr : (Instr.mapUpdate t p k v).run P w = .ok () w') (hK : K (a.put o.dst undef) w') :
    if Region.wanted o (yielded ops a.tmps) = true then Oper.wp P o a w K Q else E := by
  have hw : Region.wanted o (yielded ops a.tmps) = true := by simp [Region.wanted, hg]
  rw [if_pos hw]
  unfold Oper.wp execOp
  simp only [hop, hm, hx, hy, hr, Sem.run_bind, Sem.run_pure, Result.andThen_ok]
  exact hK

set_option maxHeartbeats 2000000 in
set_option maxRecDepth 100000 in
theorem lay_c {w : World} {t M G : Nat} {root next : Nat} {lent : Bool} {laid : List (Nat × Value)} {gone : List (Nat × Unit)} (h : IsT w t (some M) (some G) root next lent) (hM : OwnU w M VNo laid) (hG : OwnU w G VGo gone) (hne : M ≠ G) (hl : laid.length ≤ 1000000) {id : Nat} (hid : id < 18446744073709551616) (A A' : Option Addr) (n c n' c' : Nat) :
    Calls Try.prog 34 #[.pointer (some ⟨t, 0, none⟩), .int .u64 (id : Int), .agg #[.slice A n c, .slice A' n' c']] w fun e w' =>
      e = .returned (.tuple #[]) ∧ IsT w' t (some M) (some G) root next lent ∧ OwnU w' M VNo (putU id (.agg #[.slice A n c, .slice A' n' c']) laid) ∧ OwnU w' G VGo (delU id gone) ∧ Only (fun k => k = M ∨ k = G) w w' := by
  obtain ⟨W0, hW0⟩ : ∃ W0, w.alloc (.cells #[.slice A n c, .slice A' n' c'] 60) = W0 := ⟨_, rfl⟩
  have hb0 : Below w.heap.size w W0 := hW0 ▸ (Below.refl _ _).alloc (Nat.le_refl _) _
  have ht0 : Two W0 w.heap.size (.slice A n c) (.slice A' n' c') := hW0 ▸ heap_alloc_new w _
  have h0 := h.on hb0 h.cells.2.2
  have hM0 : OwnU W0 M VNo laid := hM.keep (hb0.block M hM.lt)
  have hG0 : OwnU W0 G VGo gone := hG.keep (hb0.block G hG.lt)
  have hlt : M < w.heap.size ∧ G < w.heap.size ∧ t < w.heap.size := ⟨hM.lt, hG.lt, h.cells.2.2⟩
  have htM : t ≠ M := fun e => by subst e; exact hM.no_cells h
  have htG : t ≠ G := fun e => by subst e; exact hG.no_cells h
  obtain ⟨W1, hr1, hG1, hg1⟩ := del_u hG0 Try.underlying46 hid 0
  have hM1 : OwnU W1 M VNo laid := hM0.keep (hg1.block M (Nat.lt_of_lt_of_le hlt.1 hb0.size) (by simp; exact hne))
  obtain ⟨W2, hr2, hM2, hg2⟩ := put_u (V := VNo) (OwnU.keep (w' := W1.drew) hM1 rfl) Try.underlying45 (by simp [maxLen]; omega) hM1.ris hid (.agg #[.slice A n c, .slice A' n' c'])
  have htw : w.heap.size ≠ M ∧ w.heap.size ≠ G := by omega
  have h1 : IsT W1 t (some M) (some G) root next lent := (hg1.block t (by have := hb0.size; omega) (by simp; exact htG)).trans h0
  have ht1 : Two W1 w.heap.size (.slice A n c) (.slice A' n' c') := (hg1.block w.heap.size ht0.cells.2.2 (by simp; exact htw.2)).trans ht0
  have h2 : IsT W2 t (some M) (some G) root next lent := (hg2.block t (by have := hb0.size; have := hg1.size; simp; omega) (by simp; exact htM)).trans h1
  have hG2 : OwnU W2 G VGo (delU id gone) := hG1.keep (hg2.block G (by have := hb0.size; have := hg1.size; simp; omega) (by simp; exact fun e => hne e.symm))
  have ho : Only (fun k => k = M ∨ k = G) w W2 := (((Only.of_below hb0).grown hg1 (.inl (.inr rfl))).drew).grown hg2 (.inl (.inl rfl))
  obtain ⟨⟨-, -, p2, -, -, -⟩, -, -⟩ := h0.cells
  obtain ⟨⟨-, q1, -, -, -, -⟩, -, -⟩ := h1.cells
  obtain ⟨⟨y0, y1⟩, -, -⟩ := ht1.cells
  have H2 := Lib.hid h2; have HM2 := Lib.hid hM2; have HG2 := Lib.hid hG2; have HO := Lib.hid ho
  clear h h0 h1 h2 hM hM0 hM1 hM2 hG hG0 hG1 hG2 ho hg1 hg2 hb0 ht0 ht1 hlt htM htG htw hne hl hid
  go_enter Try.func34, Try.ntmps34
  go_wp2_with fail
  have mixed : Try.prog.follows Departure.mixedOrders = true := by kernel_rfl
  go_region_law_o (first
    | (with_reducible refine step_put_runT rfl _ _ _ _ rfl _ _ _ (by simp [Act.eval]) (by simp [Act.eval]) (by simp [Act.eval]) hr2 ?_)
    | fail)
  all_goals
    go_wp2_with fail
    go_end0
    exact ⟨rfl, H2.out, HM2.out, HG2.out, HO.out⟩

end Go.Proofs.Ytmhpgbhmhbldfaa
