/- digits as words -/
import Derived.Test.YtbllmodafjdmcaaDoorLyD
namespace Go.Proofs.YtbllmodafjdmcaaDoor
open Go

theorem intO_back {l : List UInt8} {v : Int} (h : intO l = some v) : Lib.itoa v = l ∧ -9223372036854775808 ≤ v ∧ v ≤ 9223372036854775807 := by
  unfold intO at h
  split at h
  · cases h
  · rename_i c r
    split at h
    · rename_i hc
      split at h
      · cases h
      · rename_i hn
        split at h
        · rename_i ha
          split at h
          · rename_i hle
            injection h with h
            obtain ⟨h1, h2⟩ := dec_decV r.length r rfl (fun e => hn (.inl e)) ha (fun e => hn (.inr (.inr e)))
            subst h
            rw [Lib.itoa_neg _ h2, h1, hc]
            exact ⟨rfl, by omega, by omega⟩
          · cases h
        · cases h
    · rename_i hc
      split at h
      · cases h
      · rename_i hn
        split at h
        · rename_i ha
          split at h
          · rename_i hlt
            injection h with h
            subst h
            rw [Lib.itoa_nonneg]
            refine ⟨?_, by omega, by omega⟩
            by_cases h48 : c = 48
            · have hr : r = [] := by
                by_cases hr : r = []
                · exact hr
                · exact absurd (.inr ⟨h48, hr⟩) hn
              subst hr h48
              decide +kernel
            · exact (dec_decV (c :: r).length (c :: r) rfl (by simp) ha (by intro e; injection e with e; exact h48 e)).1
          · cases h
        · cases h

theorem parse_itoa (n : Int) (h1 : -9223372036854775808 ≤ n) (h2 : n ≤ 9223372036854775807) : Lib.parseIntB 64 (Lib.itoa n) = .ok n := by
  rw [Lib.parseIntB_64]
  have hmag : ∀ u : Nat, u ≤ 9223372036854775808 → Lib.parseMag (Lib.decDigits u) = .ok u := by
    intro u hu
    unfold Lib.parseMag
    rw [if_neg (dec_ne u), parse_dig 0 _ (dec_all u) (by rw [decV_dec]; omega), decV_dec]
  unfold Lib.itoa
  split
  · rw [Lib.atoiAll_minus, hmag _ (by omega)]
    unfold Lib.signed
    simp only []
    rw [if_neg (by omega)]
    congr 1; omega
  · have hm := hmag n.toNat (by omega)
    have ha := dec_all n.toNat
    cases hd : Lib.decDigits n.toNat with
    | nil => exact absurd hd (dec_ne _)
    | cons c r =>
      rw [hd] at hm ha
      rw [List.all_cons, Bool.and_eq_true] at ha
      have hc := (digB_iff c).1 ha.1
      rw [Lib.atoiAll_plain c r (by omega) (by omega), hm]
      unfold Lib.signless
      simp only []
      rw [if_neg (by omega)]
      congr 1; omega

theorem numO_int {l : List UInt8} (hr : runP digB l 1 = l.length) : numO l = match intO l with | some v => some (⟨2, ofL l, v, 0, 0⟩, l.length) | none => none := by
  have hl : numL l = l := by unfold numL; rw [hr, List.take_of_length_le (Nat.le_refl _)]
  unfold numO
  rw [hl, hr]
  cases hi : intO l with
  | some v =>
    obtain ⟨h1, h2, h3⟩ := intO_back hi
    have hp := parse_itoa v h2 h3
    rw [h1] at hp
    rw [hp]
    simp only []
    rw [if_pos h1]
  | none =>
    cases hp : Lib.parseIntB 64 l with
    | ok v =>
      simp only []
      rw [if_neg]
      intro e
      have hb := Lib.parseIntB_bounds hp
      have := intO_itoa v (by omega) (by omega)
      rw [e, hi] at this
      cases this
    | _ => rfl

theorem takeWhile_all {P : UInt8 → Bool} : ∀ r : List UInt8, r.all P = true → r.takeWhile P = r
  | [], _ => rfl
  | c :: r, h => by
    rw [List.all_cons, Bool.and_eq_true] at h
    rw [List.takeWhile_cons_of_pos h.1, takeWhile_all r h.2]

theorem runP_all : ∀ (l : List UInt8), (l.drop 1).all digB = true → l ≠ [] → runP digB l 1 = l.length
  | [], _, h => absurd rfl h
  | c :: r, h, _ => by
    unfold runP
    simp only [List.drop_succ_cons, List.drop_zero] at h ⊢
    rw [takeWhile_all r h, List.length_cons]
    omega

/-- digits, perhaps behind a - -/
def Dgs (l : List UInt8) : Prop := (l.drop 1).all digB = true ∧ (∀ c r, l = c :: r → c = 45 ∨ digB c = true)

theorem read_dgs (cn : Nat → Nat) {c : UInt8} {r : List UInt8} (h : c = 45 ∨ digB c = true) : readO cn (c :: r) = numO (c :: r) := by
  have h39 : c ≠ 39 := by rintro rfl; rcases h with h | h <;> exact absurd h (by decide)
  have h102 : c ≠ 102 := by rintro rfl; rcases h with h | h <;> exact absurd h (by decide)
  unfold readO
  simp only []
  rw [if_neg (by simp [List.isPrefixOf]; intro e; exact absurd e.symm h102), if_neg h39, if_pos h]

theorem spc_first {c : UInt8} {r : List UInt8} (h : c ≠ 32) : runP spcB (c :: r) 0 = 0 :=
  runP_stop (P := spcB) (l := c :: r) (k := 0) (by simp) (by show spcB c = false; unfold spcB; have := u8_ne (k := 32) h; exact decide_eq_false this)

theorem words_dgs (cn : Nat → Nat) (l : List UInt8) (h : Dgs l) (hne : l ≠ []) (hlen : l.length ≤ 3000) :
    wdsO cn l = match intO l with | some v => ([⟨2, ofL l, v, 0, 0⟩, ⟨0, ⟨#[]⟩, 0, 0, l.length⟩], 0, 0) | none => ([], 0, 110) := by
  cases l with
  | nil => exact absurd rfl hne
  | cons c r =>
    have hc := h.2 c r rfl
    have h32 : c ≠ 32 := by rintro rfl; rcases hc with h | h <;> exact absurd h (by decide)
    have hnum := numO_int (runP_all (c :: r) h.1 hne)
    unfold wdsO
    rw [if_neg (by omega), spc_first h32]
    cases hi : intO (c :: r) with
    | some v =>
      rw [hi] at hnum
      rw [wdsGo_step (a := 0) (x := ⟨2, ofL (c :: r), v, 0, 0⟩) (n := (c :: r).length) (b := (c :: r).length) (by simp) (by rw [List.drop_zero, read_dgs cn hc, hnum]) (by rw [Nat.zero_add, runP_end (Nat.le_refl _)])]
      have := wdsGo_end (cn := cn) (l := c :: r) (fu := r.length) (acc := [] ++ [({ (⟨2, ofL (c :: r), v, 0, 0⟩ : Wd) with at_ := 0 })]) (by simp)
      rw [show (c :: r).length = r.length + 1 from rfl] at this ⊢
      rw [this]
      rfl
    | none =>
      rw [hi] at hnum
      rw [wdsGo, if_pos (by simp), List.drop_zero, read_dgs cn hc, hnum]

theorem words_none (cn : Nat → Nat) : wdsO cn [] = ([⟨0, ⟨#[]⟩, 0, 0, 0⟩], 0, 0) := rfl

end Go.Proofs.YtbllmodafjdmcaaDoor
