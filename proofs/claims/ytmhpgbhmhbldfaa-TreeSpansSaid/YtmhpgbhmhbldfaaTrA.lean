/- keys in a row: how they are ordered, the search among them -/
import Derived.Test.YtmhpgbhmhbldfaaTrM
import Derived.Test.YtmhpgbhmhbldfaaMpU
import Derived.LoopN
import Derived.Deep.LoopGhost
namespace Go.Proofs.Ytmhpgbhmhbldfaa
open Go.ChangeShapes Go.WideShapes Go.ChangeAt Go.RowKit

theorem bl_irr : ∀ x : List UInt8, Op.bytesLess x x = false
  | [] => rfl
  | a :: x => by rw [Op.bytesLess, bl_irr x]; simp

theorem bl_tr : ∀ x y z : List UInt8, Op.bytesLess x y = true → Op.bytesLess y z = true → Op.bytesLess x z = true
  | _, [], _, h, _ => by simp [Op.bytesLess] at h
  | _, _ :: _, [], _, h => by simp [Op.bytesLess] at h
  | [], _ :: _, _ :: _, _, _ => rfl
  | a :: x, b :: y, c :: z, h1, h2 => by
    rw [Op.bytesLess, Bool.or_eq_true, Bool.and_eq_true, decide_eq_true_eq, beq_iff_eq] at h1 h2 ⊢
    rcases h1 with h1 | ⟨rfl, h1⟩
    · rcases h2 with h2 | ⟨rfl, h2⟩
      · exact .inl (UInt8.lt_trans h1 h2)
      · exact .inl h1
    · rcases h2 with h2 | ⟨rfl, h2⟩
      · exact .inl h2
      · exact .inr ⟨rfl, bl_tr x y z h1 h2⟩

theorem bl_tri : ∀ x y : List UInt8, Op.bytesLess x y = false → Op.bytesLess y x = false → x = y
  | [], [], _, _ => rfl
  | [], _ :: _, h, _ => by simp [Op.bytesLess] at h
  | _ :: _, [], _, h => by simp [Op.bytesLess] at h
  | a :: x, b :: y, h1, h2 => by
    rw [Op.bytesLess, Bool.or_eq_false_iff, decide_eq_false_iff_not] at h1 h2
    have hab : a = b := by
      rcases Nat.lt_trichotomy a.toNat b.toNat with h | h | h
      · exact absurd (UInt8.lt_iff_toNat_lt.2 h) h1.1
      · exact UInt8.toNat_inj.1 h
      · exact absurd (UInt8.lt_iff_toNat_lt.2 h) h2.1
    subst hab
    have e1 : Op.bytesLess x y = false := by simpa using h1.2
    have e2 : Op.bytesLess y x = false := by simpa using h2.2
    rw [bl_tri x y e1 e2]

/-- one text is below another -/
def ltS (a b : ByteArray) : Bool := Op.bytesLess a.toList b.toList

theorem toList_inj {a b : ByteArray} (h : a.toList = b.toList) : a = b := by
  rw [Lib.toList_data, Lib.toList_data] at h
  obtain ⟨⟨l⟩⟩ := a
  obtain ⟨⟨m⟩⟩ := b
  simp at h
  rw [h]

theorem linS : Lin ltS := ⟨fun _ => bl_irr _, fun h1 h2 => bl_tr _ _ _ h1 h2, fun h1 h2 => toList_inj (bl_tri _ _ h1 h2)⟩

/-- keys in a row, in blocks below B -/
def SAt (w : World) (B : Nat) (A : Option Addr) (l : List ByteArray) : Prop := ∀ i s, l[i]? = some s → ∃ b o, A = some ⟨b, o, none⟩ ∧ b < B ∧ w.cell? ⟨b, o + i, none⟩ = some (.string s)

theorem SAt.keep {w w' : World} {B : Nat} {A : Option Addr} {l : List ByteArray} (h : SAt w B A l) {n : Nat} (hb : Below n w w') (hB : B ≤ n) : SAt w' B A l := by
  intro i s hi
  obtain ⟨b, o, rfl, h1, h2⟩ := h i s hi
  exact ⟨b, o, rfl, h1, (hb.cell (p := ⟨b, o + i, none⟩) (Nat.lt_of_lt_of_le h1 hB)).trans h2⟩

theorem nan_s (s : ByteArray) (w : World) : Calls Try.prog 72 #[.string s] w fun e w' => e = .returned (.bool false) ∧ w = w' := by
  go_enter Try.func72, Try.ntmps72
  go_wp2
  go_ret
  exact ⟨by simp, rfl⟩

theorem nan_s2 (s : ByteArray) (w : World) : Calls Try.prog 62 #[.string s] w fun e w' => e = .returned (.bool false) ∧ w = w' := by
  go_enter Try.func62, Try.ntmps62
  go_wp2
  go_ret
  exact ⟨by simp, rfl⟩

theorem less_s (a b : ByteArray) (w : World) : Calls Try.prog 61 #[.string a, .string b] w fun e w' => e = .returned (.bool (ltS a b)) ∧ Below w.heap.size w w' := by
  go_enter Try.func61, Try.ntmps61
  go_wp2_with (first | (go_at_call 72; refine (nan_s _ _).mono ?_; rintro e w' ⟨rfl, rfl⟩) | fail)
  go_ret
  exact ⟨by unfold ltS; simp, Below.refl _ _⟩

/-- where the search ends -/
theorem place_of {k : ByteArray} {l : List ByteArray} {i : Nat} (hi : i ≤ l.length) (h1 : ∀ t (ht : t < l.length), t < i → ltS l[t] k = true) (h2 : ∀ t (ht : t < l.length), i ≤ t → ltS l[t] k = false) : placeK ltS k l = i := by
  unfold placeK
  have e : l = l.take i ++ l.drop i := (List.take_append_drop i l).symm
  have ha : ∀ x ∈ l.take i, ltS x k = true := by
    intro x hx
    obtain ⟨t, ht, rfl⟩ := List.getElem_of_mem hx
    rw [List.length_take] at ht
    rw [List.getElem_take]
    exact h1 t (by omega) (by omega)
  have hb : (l.drop i).takeWhile (ltS · k) = [] := by
    by_cases hl : i < l.length
    · rw [List.drop_eq_getElem_cons hl, List.takeWhile_cons, h2 i hl (Nat.le_refl _)]; rfl
    · rw [List.drop_eq_nil_of_le (by omega)]; rfl
  rw [e, List.takeWhile_append_of_pos ha, hb, List.append_nil, List.length_take]
  omega

/-- is it there? -/
def hasS (k : ByteArray) (l : List ByteArray) : Bool := match l[placeK ltS k l]? with | some x => x.toList == k.toList | none => false

theorem hasS_iff {k : ByteArray} {l : List ByteArray} (hr : RisK ltS l) : hasS k l = true ↔ k ∈ l := by
  rw [placeK_mem linS hr]
  unfold hasS
  split
  · next x hx => rw [hx]; simp; exact ⟨fun h => toList_inj h, fun h => by rw [h]⟩
  · next hx => rw [hx]; simp

set_option maxHeartbeats 4000000 in
set_option maxRecDepth 100000 in
theorem search_s (l : List ByteArray) (k : ByteArray) (A : Option Addr) (cap : Nat) (w : World) (hA : SAt w w.heap.size A l) (hr : RisK ltS l) (hn : l.length ≤ 1000) :
    Calls Try.prog 46 #[.slice A l.length cap, .string k] w fun e w' => e = .returned (.tuple #[.int .i64 (placeK ltS k l : Nat), .bool (hasS k l)]) ∧ Below w.heap.size w w' := by
  have HA := Lib.hid hA
  have HR := Lib.hid hr
  clear hA hr
  go_enter Try.func46, Try.ntmps46
  go_wp2_with fail
  go_loopg [7, 8] l.length (fun kx s7 s8 wr => ∃ lo hi : Nat, s7 = .int .i64 lo ∧ s8 = .int .i64 hi ∧ lo ≤ hi ∧ hi ≤ l.length ∧ hi - lo ≤ kx ∧ Hid (Below w.heap.size w wr) ∧
    Hid ((∀ t (ht : t < l.length), t < lo → ltS l[t] k = true) ∧ (∀ t (ht : t < l.length), hi ≤ t → ltS l[t] k = false)))
  case atStart => exact ⟨0, l.length, rfl, rfl, Nat.zero_le _, Nat.le_refl _, by omega, Below.refl _ _, fun t ht h => absurd h (Nat.not_lt_zero _), fun t ht h => absurd ht (by omega)⟩
  case round =>
    obtain ⟨lo, hi, rfl, rfl, hlh, hin, hg, HB, HI⟩ := hrel
    by_cases hlt : lo < hi
    · obtain ⟨mid, hmid⟩ : ∃ mid, (lo + hi) / 2 = mid := ⟨_, rfl⟩
      have hm : mid < l.length := by omega
      have HMI := Lib.hid hmid
      obtain ⟨x, hx⟩ : ∃ x, l[mid] = x := ⟨_, rfl⟩
      have HX := Lib.hid hx
      obtain ⟨b, o, rfl, hb, c0⟩ := (HA.out.keep HB.out (Nat.le_refl _)) mid x (by rw [List.getElem?_eq_getElem hm, hx])
      have HMM : Hid (lo ≤ mid ∧ mid < hi) := Lib.hid (by omega)
      have hdi : ((lo : Int) + (hi : Int)) / 2 = (mid : Int) := by omega
      clear hx hmid
      obtain ⟨z, hz⟩ : ∃ z, ltS x k = z := ⟨_, rfl⟩
      have HZ := Lib.hid hz
      have hc := fun w => less_s x k w
      simp only [hz] at hc
      clear hz
      cases z
      · go_wp2_with (first | (go_at_call 61; refine (hc _).mono ?_; rintro e w' ⟨rfl, hb'⟩) | fail)
        go_roundg (mid - lo)
        case measure => have := HMM.out; omega
        case rel =>
          refine ⟨lo, mid, rfl, rfl, HMM.out.1, Nat.le_of_lt hm, Nat.le_refl _, HB.out.trans (hb'.mono HB.out.size), HI.out.1, ?_⟩
          intro t ht hlt'
          rcases Nat.lt_or_ge mid t with h | h
          · have h1 := List.pairwise_iff_getElem.1 HR.out _ t hm ht h
            rw [HX.out] at h1
            cases h2 : ltS l[t] k with
            | false => rfl
            | true => rw [← HZ.out, linS.tr h1 h2]
          · obtain rfl : t = mid := by omega
            rw [HX.out]; exact HZ.out
      · go_wp2_with (first | (go_at_call 61; refine (hc _).mono ?_; rintro e w' ⟨rfl, hb'⟩) | fail)
        go_roundg (hi - (mid + 1))
        case measure => have := HMM.out; omega
        case rel =>
          refine ⟨mid + 1, hi, by first | rfl | (congr 1), rfl, HMM.out.2, hin, Nat.le_refl _, HB.out.trans (hb'.mono HB.out.size), ?_, HI.out.2⟩
          intro t ht hlt'
          rcases Nat.lt_or_ge t mid with h | h
          · have h1 := List.pairwise_iff_getElem.1 HR.out t _ ht hm h
            rw [HX.out] at h1
            exact linS.tr h1 HZ.out
          · obtain rfl : t = mid := by omega
            rw [HX.out]; exact HZ.out
    · obtain rfl : hi = lo := by omega
      have EF := Lib.hid (place_of hin HI.out.1 HI.out.2)
      by_cases hn' : hi < l.length
      · obtain ⟨x, hx⟩ : ∃ x, l[hi] = x := ⟨_, rfl⟩
        obtain ⟨b, o, rfl, hb, c0⟩ := (HA.out.keep HB.out (Nat.le_refl _)) hi x (by rw [List.getElem?_eq_getElem hn', hx])
        have EH : Hid (hasS k l = (x.toList == k.toList)) := Lib.hid (by unfold hasS; rw [EF.out, List.getElem?_eq_getElem hn', hx])
        clear hx
        obtain ⟨z, hz⟩ : ∃ z, (x.toList == k.toList) = z := ⟨_, rfl⟩
        have hn2 : (hi : Int) < (l.length : Int) := by omega
        rw [hz] at EH
        cases z
        · go_wp2_with (first | (go_at_call 62; refine (nan_s2 _ _).mono ?_; rintro e w' ⟨rfl, rfl⟩) | fail)
          go_ret2
          refine ⟨?_, HB.out⟩
          rw [EF.out, EH.out]
          rfl
        · go_wp2_with (first | (go_at_call 62; refine (nan_s2 _ _).mono ?_; rintro e w' ⟨rfl, rfl⟩) | fail)
          go_ret2
          refine ⟨?_, HB.out⟩
          rw [EF.out, EH.out]
          rfl
      · have EH : Hid (hasS k l = false) := Lib.hid (by unfold hasS; rw [EF.out, List.getElem?_eq_none (by omega)])
        go_wp2_with fail
        go_ret2
        refine ⟨?_, HB.out⟩
        rw [EF.out, EH.out]
        rfl

end Go.Proofs.Ytmhpgbhmhbldfaa
