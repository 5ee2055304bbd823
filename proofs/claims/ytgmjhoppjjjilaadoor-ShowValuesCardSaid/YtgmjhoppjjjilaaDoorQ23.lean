/- SpF, SpG -/
import Derived.Test.YtgmjhoppjjjilaaDoorQ22

/- the document's parser: value and values, whole -/
namespace Go.Proofs.YtgmjhoppjjjilaaDoor
open Go.ChangeShapes Go.WideShapes Go.ChangeAt Go.RowKit Go.Fl
open Go.Shelf

/-- floats as Canon makes them -/
def CanW (ws : List Wd) : Prop := ∀ x ∈ ws, x.k = 3 → canonN x.f = x.f

theorem leaf_P {g cap : Nat} {ws : List Wd} {k i m : Nat} {d a : Int} {x : Wd} {w : World} (hG : Gd ws) (hx : ws[i]? = some x) (hv : valA x = true) (hk5 : x.k ≠ 5) {kk : Int} {bb : Bool} {nn : Int} {ff : Nat} {ss : ByteArray} (ht : wdT x = .mk kk bb nn ff ss []) (h1 : is64 kk = true) (h2 : is64 nn = true) (h3 : ff < 18446744073709551616) (h4 : ss.size ≤ 140737488351232)
    (h : Calls Tryd.prog 64 #[StV g ws.length cap i d m a 0] w fun z w' => z = .returned (.tuple #[StV g ws.length cap (i + 1 : Nat) d m a 0, .agg #[.int .i64 kk, .bool bb, .int .i64 nn, .float .f64 ff, .string ss, .slice none 0 0], .bool true]) ∧ Below w.heap.size w w') :
    Calls Tryd.prog 64 #[StV g ws.length cap i d m a 0] w (ValP g cap ws k i d m a x w) := by
  refine h.mono ?_
  rintro e w' ⟨rfl, hb⟩
  have hk0 : x.k ≠ 0 := by
    intro h0
    unfold valA isSgn at hv
    rw [h0] at hv
    simp at hv
  obtain ⟨y, hy⟩ := hG.next hx hk0
  have hw : wdT (gx ws i) = wdT x := by rw [gx_of hx]; rfl
  have hl := pVal_leaf (G := gx ws) (k := k) (s := ⟨i, m⟩) (by show (gx ws i).k ≠ 5; rw [gx_of hx]; exact hk5)
  refine ⟨_, _, _, _, _, _, _, _, _, _, _, _, _, _, rfl, hb, .inl ⟨rfl, hv, _, ⟨i + 1, m⟩, hl, rfl, (List.getElem?_eq_some_iff.1 hy).1, rfl, rfl, rfl, rfl, ?_⟩⟩
  show RdS w' _ (wdT (gx ws i)) _
  rw [hw, ht]
  exact rdS_leaf h1 h2 h3 h4

theorem val_step {g cap : Nat} {ws : List Wd} {k : Nat} (hG : Gd ws) (hC : CanW ws) (hV : ∀ q, k = q + 1 → ValsC g cap ws q) : ValC g cap ws k := by
  intro w i d m a x hw hx hdk
  obtain ⟨ok1, ok2, ok3, ok4, ok5, ok6⟩ := hG.ok x (List.mem_of_getElem? hx)
  cases hv : valA x
  · refine (val_no (cap := cap) hw hx d m a hv).mono ?_
    rintro e w' ⟨rfl, hb⟩
    exact ⟨_, _, _, _, _, _, _, _, _, _, _, _, _, _, rfl, hb, .inr (.inl ⟨rfl, hv, rfl, rfl, rfl, rfl, rfl⟩)⟩
  · by_cases h5 : isSgn x 91 = true
    · exact val_list hG hV hw hx hdk a h5
    · by_cases k2 : x.k = 2
      · exact leaf_P hG hx hv (by rw [k2]; decide) (by unfold wdT; rw [if_pos k2]) (by decide) ok3 (by decide) (by decide) (val_int hw hx hG.few d m a k2)
      · by_cases k3 : x.k = 3
        · exact leaf_P hG hx hv (by rw [k3]; decide) (by unfold wdT; rw [if_neg k2, if_pos k3, hC x (List.mem_of_getElem? hx) k3]) (by decide) (by decide) ok4 (by decide) (val_flt hw hx hG.few d m a k3)
        · by_cases k4 : x.k = 4
          · exact leaf_P hG hx hv (by rw [k4]; decide) (by unfold wdT; rw [if_neg k2, if_neg k3, if_pos k4]) (by decide) (by decide) (by decide) (by omega) (val_str hw hx hG.few d m a k4)
          · have h1 : x.k = 1 ∧ (isL x txTrue = true ∨ isL x txFalse = true ∨ isL x txNull = true) := by
              unfold valA at hv
              rw [decide_eq_false k2, decide_eq_false k3, decide_eq_false k4] at hv
              simp only [Bool.false_or, Bool.or_eq_true, Bool.and_eq_true, decide_eq_true_iff] at hv
              rcases hv with ⟨h1, (h | h) | h⟩ | h
              · exact ⟨h1, .inl h⟩
              · exact ⟨h1, .inr (.inl h)⟩
              · exact ⟨h1, .inr (.inr h)⟩
              · exact absurd h h5
            obtain ⟨k1, hl⟩ := h1
            have hxs : ∀ l l', isL x l = true → isL x l' = true → l = l' := fun l l' h1 h2 => by
              unfold isL at h1 h2
              rw [beq_iff_eq] at h1 h2
              rw [← h1, ← h2]
            cases ht : isL x txTrue
            · cases hf : isL x txFalse
              · have hz : isL x txNull = true := by
                  rcases hl with h | h | h
                  · rw [ht] at h; cases h
                  · rw [hf] at h; cases h
                  · exact h
                exact leaf_P hG hx hv (by rw [k1]; decide) (by unfold wdT; rw [if_neg k2, if_neg k3, if_neg k4, if_pos hz]; rfl) (by decide) (by decide) (by decide) (by decide)
                  (val_null hw hx hG.few d m a k1 ((isL_of2 x txTrue).trans ht) ((isL_of2 x txFalse).trans hf) ((isL_of2 x txNull).trans hz))
              · have hz : ¬ isL x txNull = true := fun h => absurd (hxs _ _ hf h) (by decide)
                exact leaf_P hG hx hv (by rw [k1]; decide) (by unfold wdT; rw [if_neg k2, if_neg k3, if_neg k4, if_neg hz, ht]) (by decide) (by decide) (by decide) (by decide)
                  (val_false hw hx hG.few d m a k1 ((isL_of2 x txTrue).trans ht) ((isL_of2 x txFalse).trans hf))
            · have hz : ¬ isL x txNull = true := fun h => absurd (hxs _ _ ht h) (by decide)
              exact leaf_P hG hx hv (by rw [k1]; decide) (by unfold wdT; rw [if_neg k2, if_neg k3, if_neg k4, if_neg hz, ht]) (by decide) (by decide) (by decide) (by decide)
                (val_true hw hx hG.few d m a k1 ((isL_of2 x txTrue).trans ht))

/-- value, whole -/
theorem val_all {g cap : Nat} {ws : List Wd} (hG : Gd ws) (hC : CanW ws) : ∀ k, ValC g cap ws k
  | 0 => val_step hG hC (fun q h => by cases h)
  | k + 1 => val_step hG hC (fun q h => by
      have : k = q := by omega
      subst this
      exact vals_any hG (val_all hG hC k))

end Go.Proofs.YtgmjhoppjjjilaaDoor

/- the document's parser: predicates: how many values; the plain mathematics -/
namespace Go.Proofs.YtgmjhoppjjjilaaDoor
open Go.ChangeShapes Go.WideShapes Go.ChangeAt Go.RowKit Go.Fl
open Go.Shelf

section
variable (G : Nat → Wd)

/-- a predicate with its values, where k more may stand around it -/
def rPlain : Nat → Ps → Option (Pd × Ps)
  | 0, _ => none
  | k + 1, s =>
    if isSgn (G (s.i + 1)) 40 = false then none
    else match sev G 41 valA (fun _ => pVal G k) ⟨s.i + 2, s.n⟩ with
      | .bad _ _ => none
      | .ok l s' => if 0 ≤ mostN (G s.i).s.data.toList ∧ (l.length : Int) ≠ mostN (G s.i).s.data.toList then none else some (.mk (G s.i).s l [], s')

/-- what is joined to a predicate -/
def rJoin : Nat → Pd → Ps → Option (Pd × Ps)
  | 0, out, s => if isSgn (G s.i) 46 = false then some (out, s) else none
  | k + 1, out, s =>
    if isSgn (G s.i) 46 = false then some (out, s)
    else if (G (s.i + 1)).k ≠ 1 then none
    else if isSgn (G (s.i + 2)) 40 = false then none
    else if isL (G (s.i + 1)) txAnd || isL (G (s.i + 1)) txOr then
      if prdA (G (s.i + 3)) = false then none
      else match rPlain G k ⟨s.i + 3, s.n⟩ with
        | none => none
        | some (q, s1) => match rJoin k q s1 with
          | none => none
          | some (q, s2) => if isSgn (G s2.i) 41 = false then none else rJoin k (.mk (G (s.i + 1)).s [] [out, q]) ⟨s2.i + 1, s2.n⟩
    else if isL (G (s.i + 1)) txNeg then
      if isSgn (G (s.i + 3)) 41 = false then none else rJoin k (.mk ⟨txNot.toArray⟩ [] [out]) ⟨s.i + 4, s.n⟩
    else none

/-- a predicate -/
def rPred (k : Nat) (s : Ps) : Option (Pd × Ps) :=
  if prdA (G s.i) = false then none
  else match rPlain G k s with
    | none => none
    | some (q, s1) => rJoin G k q s1

end

/-- the names of predicates of one value -/
def prNm : List (List UInt8) := [[101, 113], [110, 101, 113], [108, 116], [108, 116, 101], [103, 116], [103, 116, 101], [115, 116, 97, 114, 116, 105, 110, 103, 87, 105, 116, 104], [101, 110, 100, 105, 110, 103, 87, 105, 116, 104], [99, 111, 110, 116, 97, 105, 110, 105, 110, 103]]

theorem prdN_one {l : List UInt8} (h : l ∈ prNm) : prdN l = some 1 := by
  unfold prdN
  rw [if_pos]
  unfold prNm at h
  simpa using h

theorem prdN_other {l : List UInt8} (h : l ∉ prNm) : prdN l = if l = [98, 101, 116, 119, 101, 101, 110] ∨ l = [105, 110, 115, 105, 100, 101] ∨ l = [111, 117, 116, 115, 105, 100, 101] then some 2 else if l = [119, 105, 116, 104, 105, 110] ∨ l = [119, 105, 116, 104, 111, 117, 116] then some (-1) else none := by
  unfold prdN
  rw [if_neg]
  unfold prNm at h
  simpa using h

def PrdsP (l : List UInt8) (w : World) (z : Ending) (w' : World) : Prop := z = .returned (.tuple #[.int .i64 ((prdN l).getD (-1)), .bool (prdN l).isSome]) ∧ Below w.heap.size w w'

theorem toL (S : ByteArray) : S.toList = S.data.toList := Lib.toList_data S

set_option maxHeartbeats 2000000 in
set_option maxRecDepth 100000 in
theorem preds_any (S : ByteArray) (w : World) : Calls Tryd.prog 65 #[.string S] w (PrdsP S.data.toList w) := by
  obtain ⟨W, hW⟩ : ∃ W, w.alloc (.cells #[.string ⟨#[101, 113]⟩, .string ⟨#[110, 101, 113]⟩, .string ⟨#[108, 116]⟩, .string ⟨#[108, 116, 101]⟩, .string ⟨#[103, 116]⟩, .string ⟨#[103, 116, 101]⟩, .string ⟨#[115, 116, 97, 114, 116, 105, 110, 103, 87, 105, 116, 104]⟩, .string ⟨#[101, 110, 100, 105, 110, 103, 87, 105, 116, 104]⟩, .string ⟨#[99, 111, 110, 116, 97, 105, 110, 105, 110, 103]⟩] 9) = W := ⟨_, rfl⟩
  have hb : Below w.heap.size w W := hW ▸ (Below.refl _ _).alloc (Nat.le_refl _) _
  have hr : W.heap[w.heap.size]? = some (.cells #[.string ⟨#[101, 113]⟩, .string ⟨#[110, 101, 113]⟩, .string ⟨#[108, 116]⟩, .string ⟨#[108, 116, 101]⟩, .string ⟨#[103, 116]⟩, .string ⟨#[103, 116, 101]⟩, .string ⟨#[115, 116, 97, 114, 116, 105, 110, 103, 87, 105, 116, 104]⟩, .string ⟨#[101, 110, 100, 105, 110, 103, 87, 105, 116, 104]⟩, .string ⟨#[99, 111, 110, 116, 97, 105, 110, 105, 110, 103]⟩] 9 (0, 0)) := hW ▸ heap_alloc_new w _
  have hcell : ∀ i, i < 9 → W.cell? ⟨w.heap.size, i, none⟩ = some (.string ⟨(prNm.getD i []).toArray⟩) := by
    intro i hi
    rw [cell_of_row _ _ _ _ _ _ hr]
    match i, hi with
    | 0, _ => rfl
    | 1, _ => rfl
    | 2, _ => rfl
    | 3, _ => rfl
    | 4, _ => rfl
    | 5, _ => rfl
    | 6, _ => rfl
    | 7, _ => rfl
    | 8, _ => rfl
  have HB := Lib.hid hb; have HC := Lib.hid hcell
  clear hb hr hcell
  go_enter Tryd.func65, Tryd.ntmps65
  go_wp2_with fail
  go_loopg [5] 9 (fun g iv wr => ∃ i : Nat, iv = .int .i64 i ∧ 9 - i ≤ g ∧ i ≤ 9 ∧ Hid (∀ j, j < i → prNm.getD j [] ≠ S.data.toList) ∧ wr = W)
  case atStart => exact ⟨0, rfl, Nat.le_refl _, Nat.zero_le _, Lib.hid (fun j h => absurd h (Nat.not_lt_zero _)), rfl⟩
  case round =>
    obtain ⟨i, rfl, hg, hi, HN, rfl⟩ := hrel
    by_cases hlt : i < 9
    · have hlz : (i : Int) < 9 := by omega
      have c0 := HC.out i hlt
      obtain ⟨q, hq⟩ : ∃ q, ((⟨(prNm.getD i []).toArray⟩ : ByteArray).toList == S.toList) = q := ⟨_, rfl⟩
      have hqq : q = decide (prNm.getD i [] = S.data.toList) := by
        rw [← hq, toL, toL]
        by_cases h : prNm.getD i [] = S.data.toList
        · rw [decide_eq_true h, beq_iff_eq]; simpa using h
        · rw [decide_eq_false h, beq_eq_false_iff_ne]; simpa using h
      obtain ⟨Sx, hSx⟩ : ∃ Sx : ByteArray, ⟨(prNm.getD i []).toArray⟩ = Sx := ⟨_, rfl⟩
      rw [hSx] at hq c0
      have HQ := Lib.hid hqq
      clear hqq hSx
      cases q
      · go_wp2_with fail
        go_roundg (9 - (i + 1))
        case measure => omega
        case rel => exact ⟨i + 1, by go_num, Nat.le_refl _, hlt, Lib.hid (fun j hj => by
          by_cases e : j = i
          · subst e; exact of_decide_eq_false HQ.out.symm
          · exact HN.out j (by omega)), rfl⟩
      · have HM : Hid (S.data.toList ∈ prNm) := Lib.hid (by
          rw [← of_decide_eq_true HQ.out.symm, List.getD_eq_getElem?_getD]
          have : i < prNm.length := hlt
          rw [List.getElem?_eq_getElem this]
          exact List.getElem_mem this)
        go_wp2_with fail
        go_ret2
        exact ⟨by rw [prdN_one HM.out]; rfl, HB.out⟩
    · have hlz : ¬ (i : Int) < 9 := by omega
      have HM : Hid (S.data.toList ∉ prNm) := Lib.hid (fun h => by
        obtain ⟨j, hj, he⟩ := List.getElem_of_mem h
        have hj9 : j < 9 := hj
        refine HN.out j (by omega) ?_
        rw [List.getD_eq_getElem?_getD, List.getElem?_eq_getElem hj]; exact he)
      have HO := Lib.hid (prdN_other HM.out)
      have HT := Lib.hid (toL S)
      have H1 : Hid (∀ z, (S.toList == [98, 101, 116, 119, 101, 101, 110]) = z → z = decide (S.data.toList = [98, 101, 116, 119, 101, 101, 110])) := Lib.hid (fun z h => by rw [← h, HT.out]; cases hd : decide (S.data.toList = [98, 101, 116, 119, 101, 101, 110]) <;> simp_all)
      have H2 : Hid (∀ z, (S.toList == [105, 110, 115, 105, 100, 101]) = z → z = decide (S.data.toList = [105, 110, 115, 105, 100, 101])) := Lib.hid (fun z h => by rw [← h, HT.out]; cases hd : decide (S.data.toList = [105, 110, 115, 105, 100, 101]) <;> simp_all)
      have H3 : Hid (∀ z, (S.toList == [111, 117, 116, 115, 105, 100, 101]) = z → z = decide (S.data.toList = [111, 117, 116, 115, 105, 100, 101])) := Lib.hid (fun z h => by rw [← h, HT.out]; cases hd : decide (S.data.toList = [111, 117, 116, 115, 105, 100, 101]) <;> simp_all)
      have H4 : Hid (∀ z, (S.toList == [119, 105, 116, 104, 105, 110]) = z → z = decide (S.data.toList = [119, 105, 116, 104, 105, 110])) := Lib.hid (fun z h => by rw [← h, HT.out]; cases hd : decide (S.data.toList = [119, 105, 116, 104, 105, 110]) <;> simp_all)
      have H5 : Hid (∀ z, (S.toList == [119, 105, 116, 104, 111, 117, 116]) = z → z = decide (S.data.toList = [119, 105, 116, 104, 111, 117, 116])) := Lib.hid (fun z h => by rw [← h, HT.out]; cases hd : decide (S.data.toList = [119, 105, 116, 104, 111, 117, 116]) <;> simp_all)
      obtain ⟨z1, b1⟩ : ∃ z, (S.toList == [98, 101, 116, 119, 101, 101, 110]) = z := ⟨_, rfl⟩
      obtain ⟨z2, b2⟩ : ∃ z, (S.toList == [105, 110, 115, 105, 100, 101]) = z := ⟨_, rfl⟩
      obtain ⟨z3, b3⟩ : ∃ z, (S.toList == [111, 117, 116, 115, 105, 100, 101]) = z := ⟨_, rfl⟩
      obtain ⟨z4, b4⟩ : ∃ z, (S.toList == [119, 105, 116, 104, 105, 110]) = z := ⟨_, rfl⟩
      obtain ⟨z5, b5⟩ : ∃ z, (S.toList == [119, 105, 116, 104, 111, 117, 116]) = z := ⟨_, rfl⟩
      have HR : Hid ((z1 || z2 || z3) = true → prdN S.data.toList = some 2) := Lib.hid (fun h => by
        rw [H1.out _ b1, H2.out _ b2, H3.out _ b3] at h
        simp only [Bool.or_eq_true, decide_eq_true_iff] at h
        rw [HO.out, if_pos (by rcases h with (h | h) | h; exact .inl h; exact .inr (.inl h); exact .inr (.inr h))])
      have HR2 : Hid ((z1 || z2 || z3) = false → (z4 || z5) = true → prdN S.data.toList = some (-1)) := Lib.hid (fun h h' => by
        rw [H1.out _ b1, H2.out _ b2, H3.out _ b3] at h
        rw [H4.out _ b4, H5.out _ b5] at h'
        simp only [Bool.or_eq_false_iff, decide_eq_false_iff_not] at h
        simp only [Bool.or_eq_true, decide_eq_true_iff] at h'
        rw [HO.out, if_neg (by rintro (e | e | e); exact h.1.1 e; exact h.1.2 e; exact h.2 e), if_pos h'])
      have HR3 : Hid ((z1 || z2 || z3) = false → (z4 || z5) = false → prdN S.data.toList = none) := Lib.hid (fun h h' => by
        rw [H1.out _ b1, H2.out _ b2, H3.out _ b3] at h
        rw [H4.out _ b4, H5.out _ b5] at h'
        simp only [Bool.or_eq_false_iff, decide_eq_false_iff_not] at h h'
        rw [HO.out, if_neg (by rintro (e | e | e); exact h.1.1 e; exact h.1.2 e; exact h.2 e), if_neg (by rintro (e | e); exact h'.1 e; exact h'.2 e)])
      cases z1 <;> cases z2 <;> cases z3 <;> cases z4 <;> cases z5
      all_goals
        go_wp2_with fail
        go_ret2
        first
          | exact ⟨by rw [HR.out rfl]; rfl, HB.out⟩
          | exact ⟨by rw [HR2.out rfl rfl]; rfl, HB.out⟩
          | exact ⟨by rw [HR3.out rfl rfl]; rfl, HB.out⟩

end Go.Proofs.YtgmjhoppjjjilaaDoor
