/- LyR -/
import Derived.Test.YtgmjhoppjjjilaaDoorQ13

/- the document's Int -/
namespace Go.Proofs.YtgmjhoppjjjilaaDoor
open Go.ChangeShapes Go.WideShapes Go.ChangeAt Go.RowKit Go.Fl
open Go.Shelf

def intV (o : Option Int) : Value := .tuple #[.int .i64 (o.getD 0), .bool o.isSome]

theorem empty_of {S : ByteArray} (h : S.size = 0) : S.toList.isEmpty = true ∧ (S.toList == []) = true ∧ S.data.toList = [] := by
  have h1 : S.data.toList = [] := List.length_eq_zero_iff.1 (by rw [len_list]; exact h)
  rw [Lib.toList_data, h1]
  exact ⟨rfl, rfl, rfl⟩

theorem full_of {S : ByteArray} (h : 0 < S.size) : S.toList.isEmpty = false ∧ (S.toList == []) = false := by
  rw [Lib.toList_data, list_one S h]
  exact ⟨rfl, rfl⟩

set_option maxHeartbeats 8000000 in
set_option maxRecDepth 100000 in
theorem rint_any (S : ByteArray) (w : World) (hs : S.size ≤ 100000) :
    Calls Tryd.prog 62 #[.string S] w fun e w' => e = .returned (intV (intO S.data.toList)) ∧ w = w' := by
  by_cases h0 : S.size = 0
  · obtain ⟨h1, h2, h3⟩ := empty_of h0
    have HT : Hid (intO S.data.toList = none) := Lib.hid (by rw [h3]; rfl)
    clear h0 h3
    go_enter Tryd.func62, Tryd.ntmps62
    go_wp2_with fail
    go_ret2
    exact ⟨by rw [HT.out]; rfl, rfl⟩
  · replace h0 : 0 < S.size := by omega
    obtain ⟨f1, f2⟩ := full_of h0
    have hS1 := list_one S h0
    by_cases hm : (S[0]'h0) = 45
    · have e0 : (((S[0]'h0).toNat : Int) == 45) = true := by rw [hm]; rfl
      have i1 : (1 : Int) ≤ (S.size : Int) := by omega
      obtain ⟨D, hD⟩ : ∃ D, S.extract 1 S.size = D := ⟨_, rfl⟩
      have hDl : D.data.toList = S.data.toList.drop 1 := by rw [← hD, drop_list]
      have hDs : D.size = S.size - 1 := by rw [← hD, ByteArray.size_extract]; omega
      have hO : intO S.data.toList = (if D.data.toList = [] ∨ 19 < D.data.toList.length ∨ D.data.toList.head? = some 48 then none else if D.data.toList.all digB = true then (if decV 0 D.data.toList ≤ 9223372036854775808 then some (-(decV 0 D.data.toList : Int)) else none) else none) := by
        rw [hS1, hDl]; unfold intO; simp only [hm, if_true]
      rw [len_list] at hO
      clear hS1 hm hDl
      by_cases hd0 : D.size = 0
      · obtain ⟨g1, g2, g3⟩ := empty_of hd0
        have HT : Hid (intO S.data.toList = none) := Lib.hid (by rw [hO, if_pos (.inl g3)])
        clear hO g3
        go_enter Tryd.func62, Tryd.ntmps62
        go_wp2_with fail
        go_ret2
        exact ⟨by rw [HT.out]; rfl, rfl⟩
      · replace hd0 : 0 < D.size := by omega
        obtain ⟨g1, g2⟩ := full_of hd0
        have g3 : D.data.toList ≠ [] := by rw [list_one D hd0]; simp
        have hD99 : D.size ≤ 100000 := by omega
        clear hDs
        by_cases h19 : 19 < D.size
        · have d19 : decide (19 < (D.size : Int)) = true := by rw [decide_eq_true_eq]; omega
          have HT : Hid (intO S.data.toList = none) := Lib.hid (by rw [hO, if_pos (.inr (.inl h19))])
          clear hO g3 h19
          go_enter Tryd.func62, Tryd.ntmps62
          go_wp2_with fail
          go_ret2
          exact ⟨by rw [HT.out]; rfl, rfl⟩
        · have d19 : decide (19 < (D.size : Int)) = false := by rw [decide_eq_false_iff_not]; omega
          have hh : D.data.toList.head? = some (D[0]'hd0) := by rw [list_one D hd0]; rfl
          by_cases h48 : (D[0]'hd0) = 48
          · have e48 : (((D[0]'hd0).toNat : Int) == 48) = true := by rw [h48]; rfl
            have HT : Hid (intO S.data.toList = none) := Lib.hid (by rw [hO, if_pos (.inr (.inr (by rw [hh, h48])))])
            clear hO g3 h48 hh
            rcases hl1 : decide (1 < D.size) with _ | _
            all_goals
              have hl2 : decide ((1 : Int) < (D.size : Int)) = _ := (by first | (show _ = true; rw [decide_eq_true_eq]; have := of_decide_eq_true hl1; omega) | (show _ = false; rw [decide_eq_false_iff_not]; have := of_decide_eq_false hl1; omega))
              go_enter Tryd.func62, Tryd.ntmps62
              go_wp2_with fail
              go_ret2
              exact ⟨by rw [HT.out]; rfl, rfl⟩
          · have e48 : (((D[0]'hd0).toNat : Int) == 48) = false := by have := u8_ne (k := 48) h48; rw [beq_eq_false_iff_ne]; omega
            have HO : Hid (intO S.data.toList = if D.data.toList.all digB = true then (if decV 0 D.data.toList ≤ 9223372036854775808 then some (-(decV 0 D.data.toList : Int)) else none) else none) := Lib.hid (by
              rw [hO, if_neg]
              rintro (h | h | h)
              · exact g3 h
              · exact h19 h
              · rw [hh] at h; injection h with h; exact h48 h)
            clear hO g3 h48 hh
            go_enter Tryd.func62, Tryd.ntmps62
            go_wp2_with fail
            go_loop [6, 7] (fun sn si => ∃ (k : Nat) (a : Int), k ≤ D.size ∧ si = .int .i64 k ∧ sn = .int .u64 a ∧ 0 ≤ a ∧ Hid (a = (decV 0 (D.data.toList.take k) : Int) ∧ (D.data.toList.take k).all digB = true)) (fun _ si => D.size - (intOf si).toNat)
            case atStart => exact ⟨0, 0, Nat.zero_le _, rfl, rfl, by decide, Lib.hid ⟨by rw [List.take_zero, decV_nil]; rfl, rfl⟩⟩
            case round =>
              obtain ⟨k, a, hk, rfl, rfl, ha0, Ha⟩ := hrel
              by_cases hlt : k < D.size
              · have hlt1 : decide ((k : Int) < (D.size : Int)) = true := by rw [decide_eq_true_eq]; omega
                have ha1 : a < 1000000000000000000 := by
                  have h1 := decV_lt 0 (D.data.toList.take k) Ha.out.2
                  have h2 : (D.data.toList.take k).length ≤ 18 := by rw [List.length_take]; omega
                  have h3 : 10 ^ (D.data.toList.take k).length ≤ 10 ^ 18 := Nat.pow_le_pow_right (by decide) h2
                  have h4 : (10 : Nat) ^ 18 = 1000000000000000000 := by decide
                  have := Ha.out.1
                  omega
                have hcl := D[k].toNat_lt
                by_cases hd : 48 ≤ D[k].toNat ∧ D[k].toNat ≤ 57
                · have e1 : decide ((D[k].toNat : Int) < 48) = false := by rw [decide_eq_false_iff_not]; omega
                  have e2 : decide (57 < (D[k].toNat : Int)) = false := by rw [decide_eq_false_iff_not]; omega
                  have i1 : (48 : Int) ≤ (D[k].toNat : Int) := by omega
                  have i2 : (D[k].toNat : Int) ≤ 57 := by omega
                  have HN : Hid (a * 10 + (D[k].toNat : Int) - 48 = (decV 0 (D.data.toList.take (k + 1)) : Int) ∧ (D.data.toList.take (k + 1)).all digB = true) := Lib.hid (by
                    rw [take_snocS D k hlt, decV_snoc, List.all_append, Ha.out.2]
                    exact ⟨by have := Ha.out.1; omega, by rw [List.all_cons, (digB_iff _).2 hd]; rfl⟩)
                  clear hd
                  go_wp2_with fail
                  go_round
                  case rel => exact ⟨k + 1, a * 10 + (D[k].toNat : Int) - 48, by omega, by go_num, by first | rfl | (congr 1; omega), by omega, HN⟩
                  case measure => simp [intOf]; omega
                · have HT : Hid (intO S.data.toList = none) := Lib.hid (by
                    rw [HO.out, if_neg]
                    intro hall
                    have := List.all_eq_true.1 hall D[k] (by
                      have : D[k] = D.data.toList[k]'(by simpa using hlt) := rfl
                      rw [this]; exact List.getElem_mem _)
                    exact hd ((digB_iff _).1 this))
                  by_cases h48 : D[k].toNat < 48
                  · have e1 : decide ((D[k].toNat : Int) < 48) = true := by rw [decide_eq_true_eq]; omega
                    clear hd h48
                    go_wp2_with fail
                    go_ret2
                    exact ⟨by rw [HT.out]; rfl, rfl⟩
                  · have e1 : decide ((D[k].toNat : Int) < 48) = false := by rw [decide_eq_false_iff_not]; omega
                    have e2 : decide (57 < (D[k].toNat : Int)) = true := by rw [decide_eq_true_eq]; omega
                    clear hd h48
                    go_wp2_with fail
                    go_ret2
                    exact ⟨by rw [HT.out]; rfl, rfl⟩
              · have hlt1 : decide ((k : Int) < (D.size : Int)) = false := by rw [decide_eq_false_iff_not]; omega
                have hkk : D.data.toList.take k = D.data.toList := List.take_of_length_le (by rw [len_list]; omega)
                have hae := Ha.out.1
                have hall := Ha.out.2
                rw [hkk] at hae hall
                have ha2 : a < 18446744073709551616 := by
                  have h1 := decV_lt 0 D.data.toList hall
                  have h2 : D.data.toList.length ≤ 19 := by rw [len_list]; omega
                  have h3 : 10 ^ D.data.toList.length ≤ 10 ^ 19 := Nat.pow_le_pow_right (by decide) h2
                  have h4 : (10 : Nat) ^ 19 = 10000000000000000000 := by decide
                  omega
                by_cases hle : decV 0 D.data.toList ≤ 9223372036854775808
                · have HT : Hid (intO S.data.toList = some (-(decV 0 D.data.toList : Int))) := Lib.hid (by rw [HO.out, if_pos hall, if_pos hle])
                  have b1 : decide (a ≤ 9223372036854775808) = true := by rw [decide_eq_true_eq]; omega
                  have HA : Hid (a = (decV 0 D.data.toList : Int) ∧ decV 0 D.data.toList ≤ 9223372036854775808) := Lib.hid ⟨hae, hle⟩
                  clear hae hle hall hkk
                  go_wp2_with fail
                  go_ret2
                  exact ⟨by rw [HT.out]; exact ret2 (by show wrap64 (IntKind.u64.wrap (-a)) = (-(decV 0 D.data.toList : Int)); have := HA.out.1; have := HA.out.2; unfold wrap64; rw [IntKind.wrap_u64]; omega) rfl, rfl⟩
                · have HT : Hid (intO S.data.toList = none) := Lib.hid (by rw [HO.out, if_pos hall, if_neg hle])
                  have b1 : decide (a ≤ 9223372036854775808) = false := by rw [decide_eq_false_iff_not]; omega
                  clear hae hle hall hkk
                  go_wp2_with fail
                  go_ret2
                  exact ⟨by rw [HT.out]; rfl, rfl⟩
    · have e0 : (((S[0]'h0).toNat : Int) == 45) = false := by have := u8_ne (k := 45) hm; rw [beq_eq_false_iff_ne]; omega
      obtain ⟨D, hD⟩ : ∃ D, S = D := ⟨_, rfl⟩
      have hO : intO S.data.toList = (if 19 < S.data.toList.length ∨ ((S[0]'h0) = 48 ∧ S.data.toList.drop 1 ≠ []) then none else if S.data.toList.all digB = true then (if decV 0 S.data.toList < 9223372036854775808 then some (decV 0 S.data.toList : Int) else none) else none) := by
        rw [hS1]; unfold intO; simp only [hm, if_false]; rfl
      rw [len_list] at hO
      have hdr : S.data.toList.drop 1 ≠ [] ↔ 1 < S.size := by
        rw [← len_list S]
        constructor
        · intro h; false_or_by_contra; exact h (List.drop_eq_nil_of_le (by omega))
        · intro h e; have := congrArg List.length e; rw [List.length_drop, List.length_nil] at this; omega
      clear hS1 hm
      by_cases h19 : 19 < S.size
      · have d19 : decide (19 < (S.size : Int)) = true := by rw [decide_eq_true_eq]; omega
        have HT : Hid (intO S.data.toList = none) := Lib.hid (by rw [hO, if_pos (.inl h19)])
        clear hO hdr h19 hD D
        go_enter Tryd.func62, Tryd.ntmps62
        go_wp2_with fail
        go_ret2
        exact ⟨by rw [HT.out]; rfl, rfl⟩
      · have d19 : decide (19 < (S.size : Int)) = false := by rw [decide_eq_false_iff_not]; omega
        by_cases h48 : (S[0]'h0) = 48 ∧ 1 < S.size
        · have e48 : (((S[0]'h0).toNat : Int) == 48) = true := by rw [h48.1]; rfl
          have d1 : decide ((1 : Int) < (S.size : Int)) = true := by rw [decide_eq_true_eq]; have := h48.2; omega
          have HT : Hid (intO S.data.toList = none) := Lib.hid (by rw [hO, if_pos (.inr ⟨h48.1, hdr.2 h48.2⟩)])
          clear hO hdr h48 hD D
          go_enter Tryd.func62, Tryd.ntmps62
          go_wp2_with fail
          go_ret2
          exact ⟨by rw [HT.out]; rfl, rfl⟩
        · have HO : Hid (intO S.data.toList = if S.data.toList.all digB = true then (if decV 0 S.data.toList < 9223372036854775808 then some (decV 0 S.data.toList : Int) else none) else none) := Lib.hid (by
            rw [hO, if_neg]
            rintro (h | h)
            · exact h19 h
            · exact h48 ⟨h.1, hdr.1 h.2⟩)
          clear hO hdr
          by_cases hz : (S[0]'h0) = 48
          · have e48 : (((S[0]'h0).toNat : Int) == 48) = true := by rw [hz]; rfl
            have d1 : decide ((1 : Int) < (S.size : Int)) = false := by rw [decide_eq_false_iff_not]; intro h; exact h48 ⟨hz, by omega⟩
            clear hz h48 hD D
            go_enter Tryd.func62, Tryd.ntmps62
            go_wp2_with fail
            go_loop [6, 7] (fun sn si => ∃ (k : Nat) (a : Int), k ≤ S.size ∧ si = .int .i64 k ∧ sn = .int .u64 a ∧ 0 ≤ a ∧ Hid (a = (decV 0 (S.data.toList.take k) : Int) ∧ (S.data.toList.take k).all digB = true)) (fun _ si => S.size - (intOf si).toNat)
            case atStart => exact ⟨0, 0, Nat.zero_le _, rfl, rfl, by decide, Lib.hid ⟨by rw [List.take_zero, decV_nil]; rfl, rfl⟩⟩
            case round =>
              obtain ⟨k, a, hk, rfl, rfl, ha0, Ha⟩ := hrel
              by_cases hlt : k < S.size
              · have hlt1 : decide ((k : Int) < (S.size : Int)) = true := by rw [decide_eq_true_eq]; omega
                have ha1 : a < 1000000000000000000 := by
                  have h1 := decV_lt 0 (S.data.toList.take k) Ha.out.2
                  have h2 : (S.data.toList.take k).length ≤ 18 := by rw [List.length_take]; omega
                  have h3 : 10 ^ (S.data.toList.take k).length ≤ 10 ^ 18 := Nat.pow_le_pow_right (by decide) h2
                  have h4 : (10 : Nat) ^ 18 = 1000000000000000000 := by decide
                  have := Ha.out.1
                  omega
                have hcl := S[k].toNat_lt
                by_cases hd : 48 ≤ S[k].toNat ∧ S[k].toNat ≤ 57
                · have e1 : decide ((S[k].toNat : Int) < 48) = false := by rw [decide_eq_false_iff_not]; omega
                  have e2 : decide (57 < (S[k].toNat : Int)) = false := by rw [decide_eq_false_iff_not]; omega
                  have i1 : (48 : Int) ≤ (S[k].toNat : Int) := by omega
                  have i2 : (S[k].toNat : Int) ≤ 57 := by omega
                  have HN : Hid (a * 10 + (S[k].toNat : Int) - 48 = (decV 0 (S.data.toList.take (k + 1)) : Int) ∧ (S.data.toList.take (k + 1)).all digB = true) := Lib.hid (by
                    rw [take_snocS S k hlt, decV_snoc, List.all_append, Ha.out.2]
                    exact ⟨by have := Ha.out.1; omega, by rw [List.all_cons, (digB_iff _).2 hd]; rfl⟩)
                  clear hd
                  go_wp2_with fail
                  go_round
                  case rel => exact ⟨k + 1, a * 10 + (S[k].toNat : Int) - 48, by omega, by go_num, by first | rfl | (congr 1; omega), by omega, HN⟩
                  case measure => simp [intOf]; omega
                · have HT : Hid (intO S.data.toList = none) := Lib.hid (by
                    rw [HO.out, if_neg]
                    intro hall
                    have := List.all_eq_true.1 hall S[k] (by
                      have : S[k] = S.data.toList[k]'(by simpa using hlt) := rfl
                      rw [this]; exact List.getElem_mem _)
                    exact hd ((digB_iff _).1 this))
                  by_cases h48 : S[k].toNat < 48
                  · have e1 : decide ((S[k].toNat : Int) < 48) = true := by rw [decide_eq_true_eq]; omega
                    clear hd h48
                    go_wp2_with fail
                    go_ret2
                    exact ⟨by rw [HT.out]; rfl, rfl⟩
                  · have e1 : decide ((S[k].toNat : Int) < 48) = false := by rw [decide_eq_false_iff_not]; omega
                    have e2 : decide (57 < (S[k].toNat : Int)) = true := by rw [decide_eq_true_eq]; omega
                    clear hd h48
                    go_wp2_with fail
                    go_ret2
                    exact ⟨by rw [HT.out]; rfl, rfl⟩
              · have hlt1 : decide ((k : Int) < (S.size : Int)) = false := by rw [decide_eq_false_iff_not]; omega
                have hkk : S.data.toList.take k = S.data.toList := List.take_of_length_le (by rw [len_list]; omega)
                have hae := Ha.out.1
                have hall := Ha.out.2
                rw [hkk] at hae hall
                have ha2 : a < 18446744073709551616 := by
                  have h1 := decV_lt 0 S.data.toList hall
                  have h2 : S.data.toList.length ≤ 19 := by rw [len_list]; omega
                  have h3 : 10 ^ S.data.toList.length ≤ 10 ^ 19 := Nat.pow_le_pow_right (by decide) h2
                  have h4 : (10 : Nat) ^ 19 = 10000000000000000000 := by decide
                  omega
                by_cases hle : decV 0 S.data.toList < 9223372036854775808
                · have HT : Hid (intO S.data.toList = some (decV 0 S.data.toList : Int)) := Lib.hid (by rw [HO.out, if_pos hall, if_pos hle])
                  have b1 : decide (a < 9223372036854775808) = true := by rw [decide_eq_true_eq]; omega
                  have a1 : a < 9223372036854775808 := by omega
                  have HA : Hid (a = (decV 0 S.data.toList : Int) ∧ decV 0 S.data.toList < 9223372036854775808) := Lib.hid ⟨hae, hle⟩
                  clear hae hle hall hkk
                  go_wp2_with fail
                  go_ret2
                  exact ⟨by rw [HT.out]; exact ret2 (by show a = (decV 0 S.data.toList : Int); exact HA.out.1) rfl, rfl⟩
                · have HT : Hid (intO S.data.toList = none) := Lib.hid (by rw [HO.out, if_pos hall, if_neg hle])
                  have b1 : decide (a < 9223372036854775808) = false := by rw [decide_eq_false_iff_not]; omega
                  clear hae hle hall hkk
                  go_wp2_with fail
                  go_ret2
                  exact ⟨by rw [HT.out]; rfl, rfl⟩
          · have e48 : (((S[0]'h0).toNat : Int) == 48) = false := by have := u8_ne (k := 48) hz; rw [beq_eq_false_iff_ne]; omega
            clear hz h48 hD D
            go_enter Tryd.func62, Tryd.ntmps62
            go_wp2_with fail
            go_loop [6, 7] (fun sn si => ∃ (k : Nat) (a : Int), k ≤ S.size ∧ si = .int .i64 k ∧ sn = .int .u64 a ∧ 0 ≤ a ∧ Hid (a = (decV 0 (S.data.toList.take k) : Int) ∧ (S.data.toList.take k).all digB = true)) (fun _ si => S.size - (intOf si).toNat)
            case atStart => exact ⟨0, 0, Nat.zero_le _, rfl, rfl, by decide, Lib.hid ⟨by rw [List.take_zero, decV_nil]; rfl, rfl⟩⟩
            case round =>
              obtain ⟨k, a, hk, rfl, rfl, ha0, Ha⟩ := hrel
              by_cases hlt : k < S.size
              · have hlt1 : decide ((k : Int) < (S.size : Int)) = true := by rw [decide_eq_true_eq]; omega
                have ha1 : a < 1000000000000000000 := by
                  have h1 := decV_lt 0 (S.data.toList.take k) Ha.out.2
                  have h2 : (S.data.toList.take k).length ≤ 18 := by rw [List.length_take]; omega
                  have h3 : 10 ^ (S.data.toList.take k).length ≤ 10 ^ 18 := Nat.pow_le_pow_right (by decide) h2
                  have h4 : (10 : Nat) ^ 18 = 1000000000000000000 := by decide
                  have := Ha.out.1
                  omega
                have hcl := S[k].toNat_lt
                by_cases hd : 48 ≤ S[k].toNat ∧ S[k].toNat ≤ 57
                · have e1 : decide ((S[k].toNat : Int) < 48) = false := by rw [decide_eq_false_iff_not]; omega
                  have e2 : decide (57 < (S[k].toNat : Int)) = false := by rw [decide_eq_false_iff_not]; omega
                  have i1 : (48 : Int) ≤ (S[k].toNat : Int) := by omega
                  have i2 : (S[k].toNat : Int) ≤ 57 := by omega
                  have HN : Hid (a * 10 + (S[k].toNat : Int) - 48 = (decV 0 (S.data.toList.take (k + 1)) : Int) ∧ (S.data.toList.take (k + 1)).all digB = true) := Lib.hid (by
                    rw [take_snocS S k hlt, decV_snoc, List.all_append, Ha.out.2]
                    exact ⟨by have := Ha.out.1; omega, by rw [List.all_cons, (digB_iff _).2 hd]; rfl⟩)
                  clear hd
                  go_wp2_with fail
                  go_round
                  case rel => exact ⟨k + 1, a * 10 + (S[k].toNat : Int) - 48, by omega, by go_num, by first | rfl | (congr 1; omega), by omega, HN⟩
                  case measure => simp [intOf]; omega
                · have HT : Hid (intO S.data.toList = none) := Lib.hid (by
                    rw [HO.out, if_neg]
                    intro hall
                    have := List.all_eq_true.1 hall S[k] (by
                      have : S[k] = S.data.toList[k]'(by simpa using hlt) := rfl
                      rw [this]; exact List.getElem_mem _)
                    exact hd ((digB_iff _).1 this))
                  by_cases h48 : S[k].toNat < 48
                  · have e1 : decide ((S[k].toNat : Int) < 48) = true := by rw [decide_eq_true_eq]; omega
                    clear hd h48
                    go_wp2_with fail
                    go_ret2
                    exact ⟨by rw [HT.out]; rfl, rfl⟩
                  · have e1 : decide ((S[k].toNat : Int) < 48) = false := by rw [decide_eq_false_iff_not]; omega
                    have e2 : decide (57 < (S[k].toNat : Int)) = true := by rw [decide_eq_true_eq]; omega
                    clear hd h48
                    go_wp2_with fail
                    go_ret2
                    exact ⟨by rw [HT.out]; rfl, rfl⟩
              · have hlt1 : decide ((k : Int) < (S.size : Int)) = false := by rw [decide_eq_false_iff_not]; omega
                have hkk : S.data.toList.take k = S.data.toList := List.take_of_length_le (by rw [len_list]; omega)
                have hae := Ha.out.1
                have hall := Ha.out.2
                rw [hkk] at hae hall
                have ha2 : a < 18446744073709551616 := by
                  have h1 := decV_lt 0 S.data.toList hall
                  have h2 : S.data.toList.length ≤ 19 := by rw [len_list]; omega
                  have h3 : 10 ^ S.data.toList.length ≤ 10 ^ 19 := Nat.pow_le_pow_right (by decide) h2
                  have h4 : (10 : Nat) ^ 19 = 10000000000000000000 := by decide
                  omega
                by_cases hle : decV 0 S.data.toList < 9223372036854775808
                · have HT : Hid (intO S.data.toList = some (decV 0 S.data.toList : Int)) := Lib.hid (by rw [HO.out, if_pos hall, if_pos hle])
                  have b1 : decide (a < 9223372036854775808) = true := by rw [decide_eq_true_eq]; omega
                  have a1 : a < 9223372036854775808 := by omega
                  have HA : Hid (a = (decV 0 S.data.toList : Int) ∧ decV 0 S.data.toList < 9223372036854775808) := Lib.hid ⟨hae, hle⟩
                  clear hae hle hall hkk
                  go_wp2_with fail
                  go_ret2
                  exact ⟨by rw [HT.out]; exact ret2 (by show a = (decV 0 S.data.toList : Int); exact HA.out.1) rfl, rfl⟩
                · have HT : Hid (intO S.data.toList = none) := Lib.hid (by rw [HO.out, if_pos hall, if_neg hle])
                  have b1 : decide (a < 9223372036854775808) = false := by rw [decide_eq_false_iff_not]; omega
                  clear hae hle hall hkk
                  go_wp2_with fail
                  go_ret2
                  exact ⟨by rw [HT.out]; rfl, rfl⟩

end Go.Proofs.YtgmjhoppjjjilaaDoor
