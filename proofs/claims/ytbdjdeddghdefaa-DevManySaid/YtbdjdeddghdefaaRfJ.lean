/- a box of both devices is laid anew; the document's New -/
import Derived.Test.YtbdjdeddghdefaaRfI
namespace Go.Proofs.Ytbdjdeddghdefaa
open Go.ChangeShapes Go.WideShapes Go.ChangeAt Go.RowKit

/-- neither a text nor an unsigned number -/
def plainV : Value → Bool
  | .string _ => false
  | .int .u64 _ => false
  | _ => true

/-- cells laid one behind the other -/
def setsW (w : World) (b : Nat) : Nat → List Value → World
  | _, [] => w
  | j, x :: r => setsW (w.setCell ⟨b, j, none⟩ x) b (j + 1) r

def setsR (cs : Array Value) : Nat → List Value → Array Value
  | _, [] => cs
  | j, x :: r => setsR (cs.setIfInBounds j x) (j + 1) r

theorem setsW_heap {b : Nat} {T : TypeId} : ∀ (l : List Value) (w : World) (cs : Array Value) (j : Nat), w.heap[b]? = some (.cells cs T (0, 0)) → (setsW w b j l).heap[b]? = some (.cells (setsR cs j l) T (0, 0))
  | [], _, _, _, h => h
  | x :: r, w, _, j, h => setsW_heap r _ _ (j + 1) (heap_setCell_same w b j _ _ x h)

theorem setsW_other {b g : Nat} (hg : g ≠ b) : ∀ (l : List Value) (w : World) (j : Nat), (setsW w b j l).heap[g]? = w.heap[g]?
  | [], _, _ => rfl
  | x :: r, w, j => (setsW_other hg r _ (j + 1)).trans (Below.heap_setCell w ⟨b, j, none⟩ x g hg)

theorem setsW_below {a : World} {n b : Nat} (hb : n ≤ b) : ∀ (l : List Value) (w : World) (j : Nat), Below n a w → Below n a (setsW w b j l)
  | [], _, _, h => h
  | x :: r, _, j, h => setsW_below hb r _ (j + 1) (h.setCell (p := ⟨b, j, none⟩) hb x)

theorem plain_set {cs : Array Value} (h : ∀ x ∈ cs.toList, plainV x = true) {y : Value} (hy : plainV y = true) (j : Nat) : ∀ x ∈ (cs.setIfInBounds j y).toList, plainV x = true := by
  intro x hx
  rw [Array.toList_setIfInBounds] at hx
  rcases List.mem_or_eq_of_mem_set hx with hx | rfl
  · exact h x hx
  · exact hy

theorem RfAt.setp {w : World} {v : Value} {m : Dv} {F : List Fal} (h : RfAt w v m F) {b : Nat} {cs : Array Value} {T : TypeId} (hb : w.heap[b]? = some (.cells cs T (0, 0))) (hp : ∀ x ∈ cs.toList, plainV x = true) (j : Nat) (x : Value) :
    RfAt (w.setCell ⟨b, j, none⟩ x) v m F := by
  obtain ⟨v0, v1, v3, hv, h0, h1, h3⟩ := h.form
  have far : ∀ {g o : Nat} {y : Value}, w.cell? ⟨g, o, none⟩ = some y → plainV y = false → ∀ o', (w.setCell ⟨b, j, none⟩ x).cell? ⟨g, o', none⟩ = w.cell? ⟨g, o', none⟩ := fun {g o y} hg hy o' => by
    refine World.cell?_setCell_far w ⟨b, j, none⟩ ⟨g, o', none⟩ x ?_
    rintro rfl
    rw [cell_of_row _ _ _ _ _ _ hb] at hg
    have := hp y (by rw [Array.mem_toList_iff]; exact Array.mem_of_getElem? hg)
    rw [this] at hy
    cases hy
  refine ⟨v0, v1, v3, hv, ?_, ?_, ?_⟩
  · obtain ⟨A, cap, e1, e2, hx⟩ := h0.form
    refine ⟨A, cap, e1, e2, fun i s hs => ?_⟩
    obtain ⟨g, o, hA, hy⟩ := hx i s hs
    exact ⟨g, o, hA, (far hy rfl _).trans hy⟩
  · obtain ⟨A, cap, e1, e2, hx⟩ := h1.form
    refine ⟨A, cap, e1, e2, fun i s hs => ?_⟩
    obtain ⟨g, o, hA, hy, hz⟩ := hx i s hs
    exact ⟨g, o, hA, (far hz rfl _).trans hy, (far hz rfl _).trans hz⟩
  · obtain ⟨A, cap, e1, hx⟩ := h3.form
    refine ⟨A, cap, e1, fun i s hs => ?_⟩
    obtain ⟨g, o, hA, hk, hx0, hx1, hx2⟩ := hx i s hs
    exact ⟨g, o, hA, hk, (far hx1 rfl _).trans hx0, (far hx1 rfl _).trans hx1, (far hx1 rfl _).trans hx2⟩

section
variable {n : Nat} {a w : World} {B S M : Nat} {d m : Dv} {v : Value} {F : List Fal}

theorem Two.setb (h : Two n a w B S M d v m F) {b : Nat} {cs : Array Value} (hn : n ≤ b) (hb : w.heap[b]? = some (.cells cs 34 (0, 0))) (hp : ∀ x ∈ cs.toList, plainV x = true) (j : Nat) (x : Value) :
    Two n a (w.setCell ⟨b, j, none⟩ x) B S M d v m F := by
  obtain ⟨pv, hs, hd⟩ := h.dev
  have e : ∀ {k : Nat} {o : Obj}, w.heap[k]? = some o → o ≠ .cells cs 34 (0, 0) → (w.setCell ⟨b, j, none⟩ x).heap[k]? = some o := fun {k o} hk hne =>
    (Below.heap_setCell w ⟨b, j, none⟩ x k (by rintro rfl; exact hne (Option.some.inj (hk.symm.trans hb)))).trans hk
  obtain ⟨es, clock, hm, r⟩ := hd.map
  exact ⟨⟨pv, hs, e hd.blk (by simp), e hd.sure (by simp), ⟨es, clock, e hm (by simp), r⟩, hd.bytes, hd.lbytes, hd.ris, hd.most, IsPlan.keep hd.plan fun k cs' hk => e hk (by simp)⟩,
    h.below.setCell (p := ⟨b, j, none⟩) hn x, h.nb, h.ns, h.nm, h.ref.setp hb hp j x, h.fit⟩

theorem Two.sets : ∀ (l : List Value) {w : World} {cs : Array Value} {b : Nat} (j : Nat), Two n a w B S M d v m F → n ≤ b → w.heap[b]? = some (.cells cs 34 (0, 0)) → (∀ x ∈ cs.toList, plainV x = true) → (∀ x ∈ l, plainV x = true) →
    Two n a (setsW w b j l) B S M d v m F
  | [], _, _, _, _, h, _, _, _, _ => h
  | x :: r, w, cs, b, j, h, hn, hb, hp, hl => Two.sets r (j + 1) (h.setb hn hb hp j x) hn (heap_setCell_same w b j _ _ x hb) (plain_set hp (hl x (by simp)) j) (fun y hy => hl y (by simp [hy]))

end

/-! New -/

theorem step_append_runJ {P : Program} {ops : Array Oper} {o : Oper} {a : Act} {w : World} {K : Act → World → Prop} {Q : Exit → Act → World → Prop} {E : Prop}
    (hg : o.guard = none) (d x : Operand) (dT sT : TypeId) (hop : o.op = Op.call { callee := Callee.builtin Builtin.append, args := #[d, x], argTypes := #[dT, sT] })
    (v u : Value) (hd : a.eval d = v) (hx : a.eval x = u) {v' : Value} {w' : World} (hr : (Builtin.append_ #[dT, sT] o.type #[v, u]).run P w = .ok v' w') (hK : K (a.put o.dst v') w') :
    if Region.wanted o (yielded ops a.tmps) = true then Oper.wp P o a w K Q else E := by
  have hw : Region.wanted o (yielded ops a.tmps) = true := by simp [Region.wanted, hg]
  rw [if_pos hw]
  unfold Oper.wp
  simp [execOp, hop, resolve, invoke, builtin, hd, hx, hr, Result.andThen]
  exact hK

theorem TB.far {w0 w : World} {v : Value} {l : List Sec} (h : TB w0 v l w) {b : Nat} {cs : Array Value} {T : TypeId} (hb : w.heap[b]? = some (.cells cs T (0, 0))) (hT : T ≠ 9) (hn : w0.heap.size ≤ b) (j : Nat) (x : Value) : TB w0 v l (w.setCell ⟨b, j, Option.none⟩ x) := by
  refine ⟨h.below.setCell (p := ⟨b, j, Option.none⟩) hn x, h.texts.1, ?_⟩
  rcases h.texts.2 with h2 | ⟨g, cap, cur, hv, hbg, hh, r⟩
  · exact .inl h2
  · refine .inr ⟨g, cap, cur, hv, hbg, (Below.heap_setCell w ⟨b, j, Option.none⟩ x g ?_).trans hh, r⟩
    rintro rfl
    have := hb.symm.trans hh
    simp only [Option.some.injEq, Obj.cells.injEq, and_true] at this
    exact hT this.2

set_option maxHeartbeats 4000000 in
set_option maxRecDepth 100000 in
theorem rfnew_any (w : World) (n : Nat) (hn : n ≤ 100) :
    Calls Try.prog 11 #[.int .i64 n] w fun e w' => ∃ v', e = .returned v' ∧ RfAt w' v' (newD n) [] ∧ Below w.heap.size w w' := by
  have hB := (((Below.refl w.heap.size w).alloc (Nat.le_refl _) (.cells #[.slice none 0 0, .slice none 0 0, .int .i64 0, .slice none 0 0, .bool false] 31)).alloc (((Below.refl w.heap.size w).alloc (Nat.le_refl _) (.cells #[.slice none 0 0, .slice none 0 0, .int .i64 0, .slice none 0 0, .bool false] 31)).size) (.cells #[.slice none 0 0, .slice none 0 0, .int .i64 0, .slice none 0 0, .bool false] 31))
  have HB := Lib.hid hB
  have hbx := heap_alloc_last (w.alloc (.cells #[.slice none 0 0, .slice none 0 0, .int .i64 0, .slice none 0 0, .bool false] 31)) (.cells #[.slice none 0 0, .slice none 0 0, .int .i64 0, .slice none 0 0, .bool false] 31)
  have hb0 := (((Below.refl _ _).alloc (Nat.le_refl _) (.cells #[.slice none 0 0, .slice none 0 0, .int .i64 0, .slice none 0 0, .bool false] 31)).block w.heap.size (by simp)).trans (heap_alloc_last w (.cells #[.slice none 0 0, .slice none 0 0, .int .i64 0, .slice none 0 0, .bool false] 31))
  rw [World.size_alloc] at hbx
  have HX0 := Lib.hid hb0; have HX1 := Lib.hid hbx
  clear hB hbx hb0
  go_enter Try.func11, Try.ntmps11
  go_wp2_with fail
  go_loopw [4] (fun s4 wr => ∃ (i : Nat) (A : Option Addr) (c : Nat), i ≤ n ∧ s4 = .int .i64 (i : Int) ∧ Hid (TB w (.slice A i c) (List.replicate i zer) wr) ∧
      Hid (wr.heap[w.heap.size]? = some (.cells #[.slice none 0 0, .slice none 0 0, .int .i64 0, .slice none 0 0, .bool false] 31 (0, 0))) ∧ Hid (wr.heap[w.heap.size + 1]? = some (.cells #[.slice A i c, .slice none 0 0, .int .i64 0, .slice none 0 0, .bool false] 31 (0, 0)))) (fun s4 _ => n - (intOf s4).toNat)
  case atStart =>
    exact ⟨0, none, 0, Nat.zero_le _, rfl, Lib.hid ⟨HB.out, by simp, .inl ⟨rfl, rfl⟩⟩, HX0, HX1⟩
  case round =>
    obtain ⟨i, A, c, hi, rfl, HT, HP, HQ⟩ := hrel
    by_cases hlt : i < n
    · have z2 : (i : Int) < (n : Int) := by omega
      have htx := (HT.out.on ((Below.refl _ wr).alloc (Nat.le_refl _) Z128)).on (rf_drew _)
      obtain ⟨v', w2, hr, ht, ho⟩ := run_append_text (wr.alloc Z128).drew w.heap.size (.slice A i c) (List.replicate i zer) zer htx.texts (by simp; omega) htx.below.size 27
      have HM := Lib.hid (read_meas n i hlt)
      have hb1 := Below.heap_alloc wr Z128
      have hq1 := (hb1 (w.heap.size + 1) (heap_lt HQ.out)).trans HQ.out
      have hp1 := (hb1 w.heap.size (heap_lt HP.out)).trans HP.out
      have hne : ∀ {k : Nat} {cs : Array Value}, (wr.alloc Z128).drew.heap[k]? = some (.cells cs 31 (0, 0)) → ¬ (Value.slice A i c).ownBlock = some k := fun {k cs} hk e => by
        obtain ⟨-, cs', h'⟩ := htx.texts.ge k e
        have := hk.symm.trans h'
        simp at this
      have hq2 := (ho.block _ (heap_lt hq1) (hne hq1)).trans hq1
      have hp2 := (ho.block _ (heap_lt hp1) (hne hp1)).trans hp1
      obtain ⟨A', c', rfl⟩ : ∃ A' c', v' = .slice A' (i + 1) c' := by
        obtain ⟨A', c', e, -⟩ := (TB.mk (w0 := w) (Below.trans htx.below (ho.below htx.below.size fun k hk => (htx.texts.ge k hk).1)) ht).texts.form
        exact ⟨A', c', by rw [e]; simp⟩
      have ht2 : TB w (.slice A' (i + 1) c') (List.replicate (i + 1) zer) w2 := ⟨htx.below.trans (ho.below htx.below.size fun k hk => (htx.texts.ge k hk).1), by rw [List.replicate_succ']; exact ht⟩
      have p0 : wr.cell? ⟨w.heap.size + 1, 0, none⟩ = some (.slice A i c) := by rw [cell_of_row _ _ _ _ _ _ HQ.out]; rfl
      have q0 : (wr.alloc Z128).cell? ⟨w.heap.size + 1, 0, none⟩ = some (.slice A i c) := by rw [cell_of_row _ _ _ _ _ _ hq1]; rfl
      have q1 : ((wr.alloc Z128).alloc (.cells #[.string ⟨zer.toArray⟩] 9)).cell? ⟨w.heap.size + 1, 0, none⟩ = some (.slice A i c) := by
        rw [cell_of_row _ _ _ _ _ _ ((Below.heap_alloc (wr.alloc Z128) (.cells #[.string ⟨zer.toArray⟩] 9) _ (heap_lt hq1)).trans hq1)]; rfl
      have g0 : w2.cell? ⟨w.heap.size + 1, 0, none⟩ = some (.slice A i c) := by rw [cell_of_row _ _ _ _ _ _ hq2]; rfl
      have gf : w2.frozen? ⟨w.heap.size + 1, 0, none⟩ = false := by simp [World.frozen?, hq2]
      have hmk := fun W => make_128 W
      have hcv : ∀ b, (wr.alloc Z128).heap[b]? = some Z128 → (convert 64 9 (.slice (some ⟨b, 0, none⟩) 128 128)).run Try.prog (wr.alloc Z128).drew = .ok (.string ⟨zer.toArray⟩) (wr.alloc Z128).drew := fun b hb => conv_128 hb
      have hcv1 := hcv wr.heap.size (heap_alloc_last wr _)
      have HT2 := Lib.hid ht2; have HP2 := Lib.hid hp2; have HQ2 := Lib.hid hq2
      have hr' : (Builtin.append_ #[27, 27] 27 #[.slice A i c, .slice (some ⟨wr.heap.size + 1, 0, none⟩) 1 1]).run Try.prog ((wr.alloc Z128).alloc (.cells #[.string ⟨zer.toArray⟩] 9)).drew = .ok (.slice A' (i + 1) c') w2 := by
        have e : (wr.alloc Z128).drew.heap.size = wr.heap.size + 1 := World.size_alloc _ _
        rw [e] at hr; exact hr
      clear hr htx ht ho hb1 hq1 hp1 hne hq2 hp2 ht2 hcv
      generalize Z128 = Z at *
      go_wp2_with fail
      have mixed : Try.prog.follows Departure.mixedOrders = true := by kernel_rfl
      go_region_law_o (refine step_append_runJ rfl _ _ 27 27 rfl _ _ (by simp [Act.eval]) (by simp [Act.eval]) hr' ?_)
      all_goals
        go_wp2_with fail
        go_roundw
        case rel =>
          have hz : TB w (.slice A' (i + 1) c') (List.replicate (i + 1) zer) (w2.setCell ⟨w.heap.size + 1, 0, none⟩ (.slice A' (i + 1) c')) := HT2.out.far HQ2.out (by decide) (Nat.le_succ _) 0 _
          exact ⟨i + 1, A', c', hlt, by go_num, Lib.hid hz, Lib.hid ((Below.heap_setCell w2 ⟨w.heap.size + 1, 0, none⟩ _ _ (by simp)).trans HP2.out), Lib.hid (heap_setCell_same w2 _ 0 _ _ _ HQ2.out)⟩
        case measure => exact HM.out
    · have HIM := Lib.hid (show i = n by omega)
      have hp := HP.out; have hq := HQ.out
      have q0 : wr.cell? ⟨w.heap.size, 0, none⟩ = some (.slice none 0 0) := by rw [cell_of_row _ _ _ _ _ _ hp]; rfl
      have qf0 : wr.frozen? ⟨w.heap.size, 0, none⟩ = false := by simp [World.frozen?, hp]
      have q1 : wr.cell? ⟨w.heap.size, 1, none⟩ = some (.slice none 0 0) := by rw [cell_of_row _ _ _ _ _ _ hp]; rfl
      have qf1 : wr.frozen? ⟨w.heap.size, 1, none⟩ = false := by simp [World.frozen?, hp]
      have q2 : wr.cell? ⟨w.heap.size, 2, none⟩ = some (.int .i64 0) := by rw [cell_of_row _ _ _ _ _ _ hp]; rfl
      have qf2 : wr.frozen? ⟨w.heap.size, 2, none⟩ = false := by simp [World.frozen?, hp]
      have q3 : wr.cell? ⟨w.heap.size, 3, none⟩ = some (.slice none 0 0) := by rw [cell_of_row _ _ _ _ _ _ hp]; rfl
      have qf3 : wr.frozen? ⟨w.heap.size, 3, none⟩ = false := by simp [World.frozen?, hp]
      have q4 : wr.cell? ⟨w.heap.size, 4, none⟩ = some (.bool false) := by rw [cell_of_row _ _ _ _ _ _ hp]; rfl
      have qf4 : wr.frozen? ⟨w.heap.size, 4, none⟩ = false := by simp [World.frozen?, hp]
      have p0 : wr.cell? ⟨w.heap.size + 1, 0, none⟩ = some (.slice A i c) := by rw [cell_of_row _ _ _ _ _ _ hq]; rfl
      have p1 : wr.cell? ⟨w.heap.size + 1, 1, none⟩ = some (.slice none 0 0) := by rw [cell_of_row _ _ _ _ _ _ hq]; rfl
      have p2 : wr.cell? ⟨w.heap.size + 1, 2, none⟩ = some (.int .i64 0) := by rw [cell_of_row _ _ _ _ _ _ hq]; rfl
      have p3 : wr.cell? ⟨w.heap.size + 1, 3, none⟩ = some (.slice none 0 0) := by rw [cell_of_row _ _ _ _ _ _ hq]; rfl
      have p4 : wr.cell? ⟨w.heap.size + 1, 4, none⟩ = some (.bool false) := by rw [cell_of_row _ _ _ _ _ _ hq]; rfl
      clear hp hq
      go_wp2_with fail
      have hat : RfAt wr (.agg #[.slice A i c, .slice none 0 0, .int .i64 0, .slice none 0 0, .bool false]) (newD n) [] := by
        have hs := HT.out.texts.seen
        rw [HIM.out] at hs ⊢
        exact ⟨_, _, _, rfl, hs, SeenL.nil _, ⟨none, 0, rfl, fun i f hf => by simp at hf⟩⟩
      have hres := resW_heap HP.out (.slice A i c) (.slice none 0 0) (.int .i64 0) (.slice none 0 0) (.bool false)
      have HEND := Lib.hid (resW_below HT.out.below (Nat.le_refl _) (.slice A i c) (.slice none 0 0) (.int .i64 0) (.slice none 0 0) (.bool false))
      have r0 := cell_of_row _ _ 0 _ _ _ hres
      have r1 := cell_of_row _ _ 1 _ _ _ hres
      have r2 := cell_of_row _ _ 2 _ _ _ hres
      have r3 := cell_of_row _ _ 3 _ _ _ hres
      have r4 := cell_of_row _ _ 4 _ _ _ hres
      simp only [List.getElem?_toArray, List.getElem?_cons_zero, List.getElem?_cons_succ] at r0 r1 r2 r3 r4
      change bodyPost _ _ _ _ _ (resW wr w.heap.size (.slice A i c) (.slice none 0 0) (.int .i64 0) (.slice none 0 0) (.bool false))
      refine bodyPost_ret (v := .agg #[.slice A i c, .slice none 0 0, .int .i64 0, .slice none 0 0, .bool false]) (by simp [results, Try.results11, go_sem, r0, r1, r2, r3, r4]) rfl ?_
      exact ⟨_, rfl, hat.res HP.out (.slice A i c) (.slice none 0 0) (.int .i64 0) (.slice none 0 0) (.bool false), HEND.out⟩

end Go.Proofs.Ytbdjdeddghdefaa
