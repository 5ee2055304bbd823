/- the reference's list of keys: one more -/
import Derived.Test.YtmhpgbhmhbldfaaTrW
import Derived.Deep.Cut
import Derived.Deep.CutRange
namespace Go.Proofs.Ytmhpgbhmhbldfaa
open Go.ChangeShapes Go.WideShapes Go.ChangeAt Go.RowKit

theorem step_append_runB {P : Program} {ops : Array Oper} {o : Oper} {a : Act} {w : World} {K : Act → World → Prop} {Q : Exit → Act → World → Prop} {E : Prop}
    (hg : o.guard = none) (d x : Operand) (dT sT : TypeId) (hop : o.op = Op.call { callee := Callee.builtin Builtin.append, args := #[d, x], argTypes := #[dT, sT] })
    (v u : Value) (hd : a.eval d = v) (hx : a.eval x = u) {v' : Value} {w' : World} (hr : (Builtin.append_ #[dT, sT] o.type #[v, u]).run P w = .ok v' w') (hK : K (a.put o.dst v') w') :
    if Region.wanted o (yielded ops a.tmps) = true then Oper.wp P o a w K Q else E := by
  have hw : Region.wanted o (yielded ops a.tmps) = true := by simp [Region.wanted, hg]
  rw [if_pos hw]
  unfold Oper.wp
  simp [execOp, hop, resolve, invoke, builtin, hd, hx, hr, Result.andThen]
  exact hK

/-- a row of texts of one's own -/
def OwS (w : World) (N : Nat) (v : Value) (l : List ByteArray) : Prop := w.ownsRow N 9 1 v l.length (cellsS l)

theorem app_S {w : World} {N : Nat} {v : Value} {l q : List ByteArray} (h : OwS w N v l) (hN : N ≤ w.heap.size) (a : Addr) (c : Nat) (hq : ∀ j u, (cellsS q)[j]? = some u → w.cell? (a.add j) = some u) (hsm : l.length + q.length ≤ 1000) :
    ∃ p c' w', (∀ ty, (Builtin.append_ #[22, 22] ty #[v, .slice (some a) q.length c]).run Try.prog w = .ok (.slice p (l.length + q.length) c') w') ∧ OwS w' N (.slice p (l.length + q.length) c') (l ++ q) ∧ Below N w w' ∧ w.grownBy w' v.ownBlock := by
  obtain ⟨i0, hi0, hz0, hz1, hz2⟩ := info_parts info_bodyS
  obtain ⟨v', w', hr, ho, hg, -⟩ := run_append_own (P := Try.prog) w N 22 0 9 i0 _ 1 16 Try.underlying22 hi0 hz0 hz1 hz2 rfl (by decide) _ l.length (cellsS l) h a q.length c (cellsS q) (by rw [cellsS_len, Nat.mul_one]) hq (cellsS_one q) (by unfold maxLen; omega) (by omega) hN
  have hlt := h.lt
  have hbel : Below N w w' := (Below.refl N w).grown hg hN fun k e => (hlt k e).1
  obtain ⟨p, c', rfl⟩ : ∃ p c', v' = .slice p (l.length + q.length) c' := by
    rcases ho.2 with ⟨e, h0⟩ | ⟨g, cap, cur, rfl, -⟩
    · exact ⟨none, 0, by rw [e, h0]⟩
    · exact ⟨_, _, rfl⟩
  exact ⟨p, c', w', fun ty => hr, by unfold OwS; rw [List.length_append, cellsS_app]; exact ho, hbel, hg⟩

theorem OwS.on {w w' : World} {N : Nat} {v : Value} {l : List ByteArray} (h : OwS w N v l) (hb : Below w.heap.size w w') : OwS w' N v l := owns_on h hb

theorem OwS.made (w : World) : OwS (w.alloc (.cells #[] 9)) w.heap.size (.slice (some ⟨w.heap.size, 0, none⟩) 0 0) [] := World.ownsRow_made w #[] 0 (Nat.le_refl _) (Nat.zero_le _) (by simp)

theorem OwS.low {w : World} {N M : Nat} {v : Value} {l : List ByteArray} (h : OwS w N v l) (hM : M ≤ N) : OwS w M v l := by
  refine ⟨h.1, ?_⟩
  rcases h.2 with h2 | ⟨g, cap, cur, rfl, h3, hg, r⟩
  · exact .inl h2
  · exact .inr ⟨g, cap, cur, rfl, by omega, hg, r⟩

/-- a row that is read and the key that is new: the second and the third append -/
def TailS (W w1 : World) (p1 : Option Addr) (at_ c1 e : Nat) (A2 : Option Addr) (n c : Nat) (l : List ByteArray) (k : ByteArray) : Prop :=
  ∃ p2 c2 w2 g3 c3 w3, (∀ ty, (Builtin.append_ #[22, 22] ty #[.slice p1 at_ c1, .slice (some ⟨e, 0, none⟩) 1 1]).run Try.prog w1 = .ok (.slice p2 (at_ + 1) c2) w2) ∧
    (∀ ty, (Builtin.append_ #[22, 22] ty #[.slice p2 (at_ + 1) c2, .slice A2 (n - at_) (c - at_)]).run Try.prog w2 = .ok (.slice (some ⟨g3, 0, none⟩) (n + 1) c3) w3) ∧
    OwS w3 W.heap.size (.slice (some ⟨g3, 0, none⟩) (n + 1) c3) (l.take at_ ++ k :: l.drop at_) ∧ Below W.heap.size W w3

theorem tail_S {W w1 : World} {a : Addr} {c at_ c1 e : Nat} {p1 A2 : Option Addr} {l : List ByteArray} {k : ByteArray} (hW : Below W.heap.size W w1) (hA : SAt W W.heap.size (some a) l) (R1 : OwS w1 W.heap.size (.slice p1 at_ c1) (l.take at_)) (hat : at_ ≤ l.length) (hn : l.length ≤ 500) (hc : l.length ≤ c)
    (he : w1.heap[e]? = some (.cells #[.string k] 9 (0, 0))) (hA2 : (if c = at_ then some a else (some a).map (·.add at_)) = A2) : TailS W w1 p1 at_ c1 e A2 l.length c l k := by
  have hlt : (l.take at_).length = at_ := by rw [List.length_take]; omega
  obtain ⟨p2, c2, w2, hr2, R2, b2, -⟩ := app_S (q := [k]) R1 hW.size ⟨e, 0, none⟩ 1 (fun j u hj => by
    rw [adr_add, Nat.zero_add, cell_of_row _ _ _ _ _ _ he, ← Array.getElem?_toList]
    exact hj) (by rw [hlt]; simp; omega)
  rw [hlt] at hr2 R2
  have hW2 := hW.trans b2
  have hld : (l.drop at_).length = l.length - at_ := List.length_drop ..
  obtain ⟨a2, rfl⟩ : ∃ a2, A2 = some a2 := by
    rw [← hA2]
    split
    · exact ⟨_, rfl⟩
    · exact ⟨_, rfl⟩
  have hT := hA.tail (i := at_) hc
  rw [hA2] at hT
  have hcl := (SAt.keep hT hW2 (Nat.le_refl _)).cells
  obtain ⟨p3, c3, w3, hr3, R3, b3, -⟩ := app_S (q := l.drop at_) R2 hW2.size a2 (c - at_) hcl (by rw [List.length_append, hlt, hld]; simp; omega)
  have e3 : (l.take at_ ++ [k]).length = at_ + 1 := by rw [List.length_append, hlt]; rfl
  have e4 : at_ + 1 + (l.length - at_) = l.length + 1 := by omega
  rw [e3, hld, e4] at hr3 R3
  have e5 : l.take at_ ++ [k] ++ l.drop at_ = l.take at_ ++ k :: l.drop at_ := by simp
  rw [e5] at R3
  obtain ⟨g3, rfl⟩ : ∃ g, p3 = some ⟨g, 0, none⟩ := by
    rcases R3.2 with ⟨e, -⟩ | ⟨g, cap, cur, e, -⟩
    · exfalso
      simp only [Value.slice.injEq] at e
      omega
    · simp only [Value.slice.injEq] at e
      exact ⟨g, e.1⟩
  exact ⟨p2, c2, w2, g3, c3, w3, hr2, hr3, R3, hW2.trans b3⟩

/-- three appends, whichever of the two new blocks comes first -/
def RunsS (W Wx : World) (z e : Nat) (after : Bool) (a : Addr) (A2 : Option Addr) (n c at_ : Nat) (l : List ByteArray) (k : ByteArray) (E2 : Obj) : Prop :=
  ∃ p1 c1 w1, (∀ ty, (Builtin.append_ #[22, 22] ty #[.slice (some ⟨z, 0, none⟩) 0 0, .slice (some a) at_ c]).run Try.prog Wx = .ok (.slice p1 at_ c1) w1) ∧
    TailS W (if after then w1.alloc E2 else w1) p1 at_ c1 (if after then w1.heap.size else e) A2 n c l k

theorem with_runs {W : World} {a : Addr} {c at_ : Nat} {A2 : Option Addr} {l : List ByteArray} {k : ByteArray} (hA : SAt W W.heap.size (some a) l) (hat : at_ ≤ l.length) (hn : l.length ≤ 500) (hc : l.length ≤ c)
    (hA2 : (if c = at_ then some a else (some a).map (·.add at_)) = A2) :
    RunsS W (W.alloc (.cells #[] 9)) W.heap.size 0 true a A2 l.length c at_ l k (.cells #[.string k] 9) ∧
    RunsS W ((W.alloc (.cells #[] 9)).alloc (.cells #[.string k] 9)) W.heap.size (W.heap.size + 1) false a A2 l.length c at_ l k (.cells #[] 9) ∧
    RunsS W ((W.alloc (.cells #[.string k] 9)).alloc (.cells #[] 9)) (W.heap.size + 1) W.heap.size false a A2 l.length c at_ l k (.cells #[] 9) := by
  have hlt : (l.take at_).length = at_ := by rw [List.length_take]; omega
  have hcell : ∀ {w : World}, Below W.heap.size W w → ∀ j u, (cellsS (l.take at_))[j]? = some u → w.cell? (a.add j) = some u := fun hb => ((hA.head at_).keep hb (Nat.le_refl _)).cells
  refine ⟨?_, ?_, ?_⟩
  · have hb0 : Below W.heap.size W (W.alloc (.cells #[] 9)) := (Below.refl _ W).alloc (Nat.le_refl _) _
    obtain ⟨p1, c1, w1, hr1, R1, b1, -⟩ := app_S (q := l.take at_) (OwS.made W) hb0.size a c (hcell hb0) (by rw [hlt]; simp; omega)
    simp only [List.length_nil, Nat.zero_add, List.nil_append, hlt] at hr1 R1
    have hb1 := hb0.trans b1
    refine ⟨p1, c1, w1, hr1, ?_⟩
    simp only [if_true]
    exact tail_S (hb1.alloc hb1.size _) hA (R1.on ((Below.refl _ _).alloc (Nat.le_refl _) _)) hat hn hc (heap_alloc_new w1 _) hA2
  · have hb0 : Below W.heap.size W ((W.alloc (.cells #[] 9)).alloc (.cells #[.string k] 9)) := ((Below.refl _ W).alloc (Nat.le_refl _) _).alloc (by simp) _
    obtain ⟨p1, c1, w1, hr1, R1, b1, g1⟩ := app_S (q := l.take at_) ((OwS.made W).on ((Below.refl _ _).alloc (Nat.le_refl _) (.cells #[.string k] 9))) hb0.size a c (hcell hb0) (by rw [hlt]; simp; omega)
    simp only [List.length_nil, Nat.zero_add, List.nil_append, hlt] at hr1 R1
    have hb1 := hb0.trans b1
    refine ⟨p1, c1, w1, hr1, ?_⟩
    simp only [if_false, Bool.false_eq_true]
    refine tail_S hb1 hA R1 hat hn hc ?_ hA2
    refine (g1.block _ (by simp) (by simp [Value.ownBlock])).trans ?_
    have := heap_alloc_new (W.alloc (.cells #[] 9)) (.cells #[.string k] 9)
    rw [World.size_alloc] at this
    exact this
  · have hbE : Below W.heap.size W (W.alloc (.cells #[.string k] 9)) := (Below.refl _ W).alloc (Nat.le_refl _) _
    have hb0 : Below W.heap.size W ((W.alloc (.cells #[.string k] 9)).alloc (.cells #[] 9)) := hbE.alloc hbE.size _
    have hmade := (OwS.made (W.alloc (.cells #[.string k] 9))).low (M := W.heap.size) (by simp)
    rw [World.size_alloc] at hmade
    obtain ⟨p1, c1, w1, hr1, R1, b1, g1⟩ := app_S (q := l.take at_) hmade hb0.size a c (hcell hb0) (by rw [hlt]; simp; omega)
    simp only [List.length_nil, Nat.zero_add, List.nil_append, hlt] at hr1 R1
    have hb1 := hb0.trans b1
    refine ⟨p1, c1, w1, hr1, ?_⟩
    simp only [if_false, Bool.false_eq_true]
    refine tail_S hb1 hA R1 hat hn hc ?_ hA2
    refine (g1.block _ (by simp; omega) (by simp [Value.ownBlock])).trans ?_
    exact (((Below.refl _ (W.alloc (.cells #[.string k] 9))).alloc (Nat.le_refl _) (.cells #[] 9)).block _ (by simp)).trans (heap_alloc_new W _)

/-- what comes of keys and one more -/
def RWith (w : World) (l : List ByteArray) (k : ByteArray) (e : Ending) (w' : World) : Prop :=
  ∃ b c' m, e = .returned (.tuple #[.slice (some b) m.length c', .bool (!hasS k l)]) ∧ m = (if hasS k l then l else insK ltS k l) ∧ SAt w' w'.heap.size (some b) m ∧ m.length ≤ c' ∧ Below w.heap.size w w'

theorem rwith_end {w w3 : World} {N g3 c3 i : Nat} {l : List ByteArray} {k : ByteArray} (h : OwS w3 N (.slice (some ⟨g3, 0, none⟩) (l.length + 1) c3) (l.take i ++ k :: l.drop i)) (hb : Below w.heap.size w w3) (hno : hasS k l = false) (hin : insK ltS k l = l.take i ++ k :: l.drop i) (hi : i ≤ l.length) :
    RWith w l k (.returned (.tuple #[.slice (some ⟨g3, 0, none⟩) (l.length + 1) c3, .bool true])) w3 := by
  have hl : (l.take i ++ k :: l.drop i).length = l.length + 1 := by simp; omega
  obtain ⟨A, c, e, h1, -, h3⟩ := own_SAt h
  rw [hl] at e h1
  cases e
  exact ⟨⟨g3, 0, none⟩, c3, l.take i ++ k :: l.drop i, by rw [hl, hno]; rfl, by rw [hno, hin]; rfl, h3, by rw [hl]; exact h1, hb⟩

theorem insK_place {k : ByteArray} {l : List ByteArray} {i : Nat} (h : placeK ltS k l = i) : insK ltS k l = l.take i ++ k :: l.drop i := by
  have e1 : ∀ (l : List ByteArray), l.takeWhile (ltS · k) = l.take (placeK ltS k l) ∧ l.dropWhile (ltS · k) = l.drop (placeK ltS k l) := by
    intro l
    unfold placeK
    induction l with
    | nil => simp
    | cons x r ih =>
      rw [List.takeWhile_cons, List.dropWhile_cons]
      split
      · simp [ih.1.symm, ih.2.symm]
      · simp
  unfold insK
  rw [(e1 l).1, (e1 l).2, h]

set_option maxHeartbeats 4000000 in
set_option maxRecDepth 100000 in
/-- keys with one more -/
theorem rwith_c (l : List ByteArray) (k : ByteArray) (a : Addr) (c : Nat) (w : World) (hA : SAt w w.heap.size (some a) l) (hr : RisK ltS l) (hn : l.length ≤ 500) (hc : l.length ≤ c) :
    Calls Try.prog 9 #[.slice (some a) l.length c, .string k] w (RWith w l k) := by
  have HA := Lib.hid hA; have HR := Lib.hid hr; have HC := Lib.hid hc
  clear hA hr hc
  go_enter Try.func9, Try.ntmps9
  go_wp2_with fail
  go_loopg [6] l.length (fun g iv wr => ∃ i : Nat, iv = .int .i64 i ∧ l.length - i ≤ g ∧ i ≤ l.length ∧ Hid (∀ t (ht : t < l.length), t < i → ltS l[t] k = true) ∧ Hid (Below w.heap.size w wr))
  case atStart => exact ⟨0, rfl, by omega, Nat.zero_le _, Lib.hid (fun t ht h => absurd h (Nat.not_lt_zero _)), Below.refl _ _⟩
  case round =>
    obtain ⟨i, rfl, hg, hi, HK, HB⟩ := hrel
    by_cases hlt : i < l.length
    · obtain ⟨x, hx⟩ : ∃ x, l[i] = x := ⟨_, rfl⟩
      have hxi : l[i]? = some x := by rw [List.getElem?_eq_getElem hlt, hx]
      obtain ⟨b, o, e, hb, c0⟩ := (HA.out.keep HB.out (Nat.le_refl _)) i x hxi
      cases e
      have hd : decide (i < l.length) = true := by simpa using hlt
      have HX := Lib.hid hx
      have HLT := Lib.hid hlt
      clear hx hxi
      obtain ⟨z, hz⟩ : ∃ z, ltS x k = z := ⟨_, rfl⟩
      have HZ := Lib.hid hz
      have hz2 := hz
      unfold ltS at hz2
      clear hz
      have hdi : (i : Int) < (l.length : Int) := by omega
      cases z
      · have hpl : placeK ltS k l = i := place_of hi HK.out (by
          intro t ht hit
          rcases Nat.lt_or_ge i t with h | h
          · have h1 := List.pairwise_iff_getElem.1 HR.out _ t hlt ht h
            rw [HX.out] at h1
            cases h2 : ltS l[t] k with
            | false => rfl
            | true => rw [← HZ.out, linS.tr h1 h2]
          · obtain rfl : t = i := by omega
            rw [HX.out]; exact HZ.out)
        have hhs : hasS k l = (x.toList == k.toList) := by unfold hasS; rw [hpl, List.getElem?_eq_getElem hlt, HX.out]
        have HPL := Lib.hid hpl
        have HHS := Lib.hid hhs
        clear hpl hhs
        obtain ⟨y, hy⟩ : ∃ y, (x.toList == k.toList) = y := ⟨_, rfl⟩
        cases y
        · have HY := Lib.hid hy
          have HNO : Hid (hasS k l = false) := Lib.hid (HHS.out.trans hy)
          have HIN := Lib.hid (insK_place HPL.out)
          have hAw := HA.out.on HB.out
          clear HX HZ
          obtain ⟨A2, hA2⟩ : ∃ A2 : Option Addr, (if c = i then some (⟨b, o, none⟩ : Addr) else (some (⟨b, o, none⟩ : Addr)).map (·.add i)) = A2 := ⟨_, rfl⟩
          have hAw' := hAw.on (Below.refl wr.heap.size wr).drew
          have hh := fun W => body_headS (some ⟨b, o, none⟩) l.length c i (by have := HC.out; omega) W
          have htl := fun W => body_tailS (some ⟨b, o, none⟩) l.length c i hi W
          rw [hA2] at htl
          obtain ⟨⟨p1, c1, w1, hra1, p2, c2, w2, g3, c3, w3, hra2, hra3, RVa, Ba⟩, ⟨p1b, c1b, w1b, hrb1, p2b, c2b, w2b, g3b, c3b, w3b, hrb2, hrb3, RVb, Bb⟩, ⟨p1c, c1c, w1c, hrc1, p2c, c2c, w2c, g3c, c3c, w3c, hrc2, hrc3, RVc, Bc⟩⟩ := with_runs (k := k) hAw' hi hn HC.out hA2
          simp only [if_true, if_false, Bool.false_eq_true] at hra2 hrb2 hrc2
          have HRVa := Lib.hid RVa; have HRVb := Lib.hid RVb; have HRVc := Lib.hid RVc
          have HBa : Hid (Below w.heap.size w w3) := Lib.hid (HB.out.drew.trans (Ba.mono HB.out.size)); have HBb : Hid (Below w.heap.size w w3b) := Lib.hid (HB.out.drew.trans (Bb.mono HB.out.size)); have HBc : Hid (Below w.heap.size w w3c) := Lib.hid (HB.out.drew.trans (Bc.mono HB.out.size))
          clear RVa RVb RVc Ba Bb Bc hAw hAw' hA2
          go_wp2_with fail
          have mixed : Try.prog.follows Departure.mixedOrders = true := by kernel_rfl
          go_region_law_o (first
            | (with_reducible refine step_append_runB rfl _ _ 22 22 rfl _ _ (by simp [Act.eval]) (by simp [Act.eval]) (hra1 _) ?_)
            | (with_reducible refine step_append_runB rfl _ _ 22 22 rfl _ _ (by simp [Act.eval]) (by simp [Act.eval]) (hra2 _) ?_)
            | (with_reducible refine step_append_runB rfl _ _ 22 22 rfl _ _ (by simp [Act.eval]) (by simp [Act.eval]) (hra3 _) ?_)
            | (with_reducible refine step_append_runB rfl _ _ 22 22 rfl _ _ (by simp [Act.eval]) (by simp [Act.eval]) (hrb1 _) ?_)
            | (with_reducible refine step_append_runB rfl _ _ 22 22 rfl _ _ (by simp [Act.eval]) (by simp [Act.eval]) (hrb2 _) ?_)
            | (with_reducible refine step_append_runB rfl _ _ 22 22 rfl _ _ (by simp [Act.eval]) (by simp [Act.eval]) (hrb3 _) ?_)
            | (with_reducible refine step_append_runB rfl _ _ 22 22 rfl _ _ (by simp [Act.eval]) (by simp [Act.eval]) (hrc1 _) ?_)
            | (with_reducible refine step_append_runB rfl _ _ 22 22 rfl _ _ (by simp [Act.eval]) (by simp [Act.eval]) (hrc2 _) ?_)
            | (with_reducible refine step_append_runB rfl _ _ 22 22 rfl _ _ (by simp [Act.eval]) (by simp [Act.eval]) (hrc3 _) ?_)
            | fail)
          all_goals
            go_wp2_with fail
            go_ret2
            first
              | exact rwith_end HRVa.out HBa.out HNO.out HIN.out hi
              | exact rwith_end HRVb.out HBb.out HNO.out HIN.out hi
              | exact rwith_end HRVc.out HBc.out HNO.out HIN.out hi
              | fail "END"
        · have HY := Lib.hid hy
          go_wp2_with fail
          go_ret2
          exact ⟨⟨b, o, none⟩, c, l, by rw [HHS.out, HY.out]; rfl, by rw [HHS.out, HY.out]; rfl, (HA.out.on HB.out), HC.out, HB.out⟩
      · go_wp2_with fail
        go_roundg (l.length - (i + 1))
        case measure => have := HLT.out; omega
        case rel => exact ⟨i + 1, by go_num, Nat.le_refl _, HLT.out, Lib.hid (fun t ht h => by
            rcases Nat.lt_or_ge t i with h2 | h2
            · exact HK.out t ht h2
            · obtain rfl : t = i := by omega
              rw [HX.out]; exact HZ.out), HB⟩
    · obtain rfl : i = l.length := by omega
      have hd : decide (l.length < l.length) = false := by simp
      have hpl : placeK ltS k l = l.length := place_of hi HK.out (fun t ht h => absurd ht (by omega))
      have HPL := Lib.hid hpl
      have HNO : Hid (hasS k l = false) := Lib.hid (by unfold hasS; rw [hpl, List.getElem?_eq_none (Nat.le_refl _)])
      clear hpl
      have HIN := Lib.hid (insK_place HPL.out)
      have hAw := HA.out.on HB.out
      obtain ⟨A2, hA2⟩ : ∃ A2, (if c = l.length then some a else (some a).map (·.add l.length)) = A2 := ⟨_, rfl⟩
      have hAw' := hAw.on (Below.refl wr.heap.size wr).drew
      have hh := fun W => body_headS (some a) l.length c l.length (by have := HC.out; omega) W
      have htl := fun W => body_tailS (some a) l.length c l.length hi W
      rw [hA2] at htl
      obtain ⟨⟨p1, c1, w1, hra1, p2, c2, w2, g3, c3, w3, hra2, hra3, RVa, Ba⟩, ⟨p1b, c1b, w1b, hrb1, p2b, c2b, w2b, g3b, c3b, w3b, hrb2, hrb3, RVb, Bb⟩, ⟨p1c, c1c, w1c, hrc1, p2c, c2c, w2c, g3c, c3c, w3c, hrc2, hrc3, RVc, Bc⟩⟩ := with_runs (k := k) hAw' hi hn HC.out hA2
      simp only [if_true, if_false, Bool.false_eq_true] at hra2 hrb2 hrc2
      have HRVa := Lib.hid RVa; have HRVb := Lib.hid RVb; have HRVc := Lib.hid RVc
      have HBa : Hid (Below w.heap.size w w3) := Lib.hid (HB.out.drew.trans (Ba.mono HB.out.size)); have HBb : Hid (Below w.heap.size w w3b) := Lib.hid (HB.out.drew.trans (Bb.mono HB.out.size)); have HBc : Hid (Below w.heap.size w w3c) := Lib.hid (HB.out.drew.trans (Bc.mono HB.out.size))
      clear RVa RVb RVc Ba Bb Bc hAw hAw' hA2
      go_wp2_with fail
      have mixed : Try.prog.follows Departure.mixedOrders = true := by kernel_rfl
      go_region_law_o (first
        | (with_reducible refine step_append_runB rfl _ _ 22 22 rfl _ _ (by simp [Act.eval]) (by simp [Act.eval]) (hra1 _) ?_)
        | (with_reducible refine step_append_runB rfl _ _ 22 22 rfl _ _ (by simp [Act.eval]) (by simp [Act.eval]) (hra2 _) ?_)
        | (with_reducible refine step_append_runB rfl _ _ 22 22 rfl _ _ (by simp [Act.eval]) (by simp [Act.eval]) (hra3 _) ?_)
        | (with_reducible refine step_append_runB rfl _ _ 22 22 rfl _ _ (by simp [Act.eval]) (by simp [Act.eval]) (hrb1 _) ?_)
        | (with_reducible refine step_append_runB rfl _ _ 22 22 rfl _ _ (by simp [Act.eval]) (by simp [Act.eval]) (hrb2 _) ?_)
        | (with_reducible refine step_append_runB rfl _ _ 22 22 rfl _ _ (by simp [Act.eval]) (by simp [Act.eval]) (hrb3 _) ?_)
        | (with_reducible refine step_append_runB rfl _ _ 22 22 rfl _ _ (by simp [Act.eval]) (by simp [Act.eval]) (hrc1 _) ?_)
        | (with_reducible refine step_append_runB rfl _ _ 22 22 rfl _ _ (by simp [Act.eval]) (by simp [Act.eval]) (hrc2 _) ?_)
        | (with_reducible refine step_append_runB rfl _ _ 22 22 rfl _ _ (by simp [Act.eval]) (by simp [Act.eval]) (hrc3 _) ?_)
        | fail)
      all_goals
        go_wp2_with fail
        go_ret2
        first
          | exact rwith_end HRVa.out HBa.out HNO.out HIN.out hi
          | exact rwith_end HRVb.out HBb.out HNO.out HIN.out hi
          | exact rwith_end HRVc.out HBc.out HNO.out HIN.out hi
          | fail "END"

end Go.Proofs.Ytmhpgbhmhbldfaa
