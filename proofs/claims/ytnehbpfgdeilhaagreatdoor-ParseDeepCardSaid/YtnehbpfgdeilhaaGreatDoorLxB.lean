/- lex: what a word is in memory; texts between quotes -/
import Derived.Test.YtnehbpfgdeilhaaGreatDoorDrw
import Derived.Test.YtnehbpfgdeilhaaGreatDoorLxA
import Derived.Test.YtnehbpfgdeilhaaGreatDoorBld
import Derived.Test.YtnehbpfgdeilhaaGreatDoorStr
import Derived.Deep.RegionWith
import Derived.Deep.RegionHeld3
namespace Go.Proofs.YtnehbpfgdeilhaaGreatDoor
open Go.ChangeShapes Go.WideShapes Go.ChangeAt Go.RowKit Go.Fl
open Go.Shelf

/-- a word -/
def wdV (x : Wd) : Value := .agg #[.int .i64 x.k, .string x.s, .int .i64 x.n, .float .f64 x.f, .int .i64 (x.at_ : Nat)]

/-- a word and how many bytes say it, or none -/
def rdV : Option (Wd × Nat) → Value
  | none => .tuple #[.agg #[.int .i64 0, .string ⟨#[]⟩, .int .i64 0, .float .f64 0, .int .i64 0], .int .i64 0]
  | some (x, n) => .tuple #[wdV x, .int .i64 (n : Nat)]

set_option maxRecDepth 100000 in
theorem none_any (w : World) : Calls Tryz.prog 33 #[] w fun e w' => e = .returned (.tuple #[.agg #[.int .i64 0, .string ⟨#[]⟩, .int .i64 0, .float .f64 0, .int .i64 0], .int .i64 0]) ∧ Below w.heap.size w w' := by
  go_enter Tryz.func33, Tryz.ntmps33
  go_wp2_with fail
  exact bodyPost_ret (v := .tuple #[.agg #[.int .i64 0, .string ⟨#[]⟩, .int .i64 0, .float .f64 0, .int .i64 0], .int .i64 0]) (by simp [results, Tryz.results33, go_sem]) rfl
    ⟨rfl, (Below.refl _ _).alloc (Nat.le_refl _) _⟩

def bytV : Option (UInt8 × Nat) → Value
  | none => .tuple #[.int .u8 0, .int .i64 0]
  | some (c, n) => .tuple #[.int .u8 (c.toNat : Nat), .int .i64 (n : Nat)]


theorem flipW {P : Program} {f : FuncId} {args : Array Value} {w : World} {q : Ending → Prop} (h : Calls P f args w fun e w' => q e ∧ w = w') : Calls P f args w fun e w' => q e ∧ w' = w := h.mono fun _ _ ⟨x, y⟩ => ⟨x, y.symm⟩

theorem pln92 : plnB 92 = true := by decide

def hexes : ByteArray := ⟨#[48, 49, 50, 51, 52, 53, 54, 55, 56, 57, 97, 98, 99, 100, 101, 102]⟩

def hexV (c : UInt8) : Int := match hexI c with | some i => (i : Nat) | none => -1

theorem hex_fin : ∀ n : Fin 256, Lib.indexByte hexes.data.toList (UInt8.ofNat n.val) = hexV (UInt8.ofNat n.val) := by decide +kernel

theorem hex_index (c : UInt8) : Lib.indexByte hexes.data.toList c = hexV c := by
  have := hex_fin ⟨c.toNat, c.toNat_lt⟩
  simpa using this

theorem hexI_lt {c : UInt8} {i : Nat} (h : hexI c = some i) : i < 16 := by
  unfold hexI at h
  split at h
  · injection h with h; omega
  · split at h
    · injection h with h; omega
    · cases h

theorem list_cut (S : ByteArray) (k : Nat) (h : k < S.size) : S.data.toList.drop k = S[k] :: S.data.toList.drop (k + 1) := by
  rw [List.drop_eq_getElem_cons (by simpa using h)]; rfl

theorem list_one (S : ByteArray) (h : 0 < S.size) : S.data.toList = S[0] :: S.data.toList.drop 1 := by
  have := list_cut S 0 h
  simpa using this

theorem list_none (S : ByteArray) (k : Nat) (h : S.size ≤ k) : S.data.toList.drop k = [] := List.drop_eq_nil_of_le h

theorem byt_bad (S : ByteArray) (h : 0 < S.size) (h1 : plnB S[0] = false) : bytO S.data.toList = none := by
  rw [list_one S h]; unfold bytO; simp only [h1, if_true]

theorem byt_one (S : ByteArray) (h : 0 < S.size) (h1 : plnB S[0] = true) (h2 : S[0] ≠ 92) : bytO S.data.toList = some (S[0], 1) := by
  rw [list_one S h]; unfold bytO; simp [h1, h2]

theorem byt_short (S : ByteArray) (h : 0 < S.size) (h2 : S[0] = 92) (h3 : S.size < 2) : bytO S.data.toList = none := by
  rw [list_one S h, list_none S 1 (by omega)]; unfold bytO; simp [h2]

theorem byt_two (S : ByteArray) (h : 1 < S.size) (h2 : S[0] = 92) (h3 : S[1] = 39 ∨ S[1] = 92) : bytO S.data.toList = some (S[1], 2) := by
  rw [list_one S (by omega), list_cut S 1 h]; unfold bytO; simp [pln92, h2, h3]

theorem byt_no (S : ByteArray) (h : 1 < S.size) (h2 : S[0] = 92) (h3 : ¬ (S[1] = 39 ∨ S[1] = 92)) (h4 : S[1] ≠ 120) : bytO S.data.toList = none := by
  rw [list_one S (by omega), list_cut S 1 h]; unfold bytO; simp [pln92, h2, h3, h4]

theorem byt_few (S : ByteArray) (h : 1 < S.size) (h2 : S[0] = 92) (h3 : S[1] = 120) (h5 : S.size < 4) : bytO S.data.toList = none := by
  rw [list_one S (by omega), list_cut S 1 h]
  unfold bytO
  by_cases h6 : 2 < S.size
  · rw [list_cut S 2 h6, list_none S 3 (by omega)]; simp [pln92, h2, h3]
  · rw [list_none S 2 (by omega)]; simp [pln92, h2, h3]

theorem byt_hex (S : ByteArray) (h : 3 < S.size) (h2 : S[0] = 92) (h3 : S[1] = 120) (i j : Nat) (hi : hexI S[2] = some i) (hj : hexI S[3] = some j) : bytO S.data.toList = some (UInt8.ofNat (16 * i + j), 4) := by
  rw [list_one S (by omega), list_cut S 1 (by omega), list_cut S 2 (by omega), list_cut S 3 (by omega)]; unfold bytO; simp [pln92, h2, h3, hi, hj]

theorem byt_nox (S : ByteArray) (h : 3 < S.size) (h2 : S[0] = 92) (h3 : S[1] = 120) (hi : hexI S[2] = none ∨ hexI S[3] = none) : bytO S.data.toList = none := by
  rw [list_one S (by omega), list_cut S 1 (by omega), list_cut S 2 (by omega), list_cut S 3 (by omega)]; unfold bytO
  rcases hi with hi | hi
  · simp [pln92, h2, h3, hi]
  · cases h7 : hexI S[2] <;> simp [pln92, h2, h3, hi, h7]

theorem joined_fin : ∀ i j : Fin 16, bits .or .i64 ((i.val : Int) * 16) (j.val : Int) % 256 = ((UInt8.ofNat (16 * i.val + j.val)).toNat : Int) := by decide +kernel

theorem u8_ne {c : UInt8} {k : Nat} (h : c ≠ UInt8.ofNat k) : c.toNat ≠ k := fun e => h (by rw [← e]; simp)

set_option maxHeartbeats 2000000 in
set_option maxRecDepth 100000 in
theorem readByte_any (S : ByteArray) (w : World) (h : 0 < S.size) (hs : S.size ≤ maxLen) :
    Calls Tryz.prog 39 #[.string S] w fun e w' => e = .returned (bytV (bytO S.data.toList)) ∧ Below w.heap.size w w' := by
  unfold maxLen at hs
  have HP := Lib.hid (plainB_any S[0] w)
  cases hp : plnB S[0]
  · have HB := Lib.hid (byt_bad S h hp)
    go_enter Tryz.func39, Tryz.ntmps39
    go_wp2_with fail
    refine HP.out.mono ?_
    rintro e w' ⟨rfl, rfl⟩
    rw [hp]
    go_wp2_with fail
    go_ret2
    exact ⟨by rw [HB.out]; rfl, Below.refl _ _⟩
  · by_cases h92 : S[0] = 92
    · have e0 : ((S[0].toNat : Int) != 92) = false := by rw [h92]; rfl
      by_cases h2 : 2 ≤ S.size
      · have d2 : decide (2 ≤ (S.size : Int)) = true := by rw [decide_eq_true_eq]; omega
        by_cases ha : S[1] = 39
        · have HB := Lib.hid (byt_two S h2 h92 (.inl ha))
          have e1 : ((S[1].toNat : Int) == 39) = true := by rw [ha]; rfl
          clear ha h92
          go_enter Tryz.func39, Tryz.ntmps39
          go_wp2_with fail
          refine HP.out.mono ?_
          rintro e w' ⟨rfl, rfl⟩
          rw [hp]
          go_wp2_with fail
          go_ret2
          exact ⟨by rw [HB.out]; rfl, Below.refl _ _⟩
        · have e1 : ((S[1].toNat : Int) == 39) = false := by have := u8_ne (k := 39) ha; rw [beq_eq_false_iff_ne]; omega
          by_cases hb : S[1] = 92
          · have HB := Lib.hid (byt_two S h2 h92 (.inr hb))
            have e2 : ((S[1].toNat : Int) == 92) = true := by rw [hb]; rfl
            clear ha hb h92
            go_enter Tryz.func39, Tryz.ntmps39
            go_wp2_with fail
            refine HP.out.mono ?_
            rintro e w' ⟨rfl, rfl⟩
            rw [hp]
            go_wp2_with fail
            go_ret2
            exact ⟨by rw [HB.out]; rfl, Below.refl _ _⟩
          · have e2 : ((S[1].toNat : Int) == 92) = false := by have := u8_ne (k := 92) hb; rw [beq_eq_false_iff_ne]; omega
            by_cases hx : S[1] = 120
            · have e3 : ((S[1].toNat : Int) == 120) = true := by rw [hx]; rfl
              by_cases h4 : 4 ≤ S.size
              · have d4 : decide (4 ≤ (S.size : Int)) = true := by rw [decide_eq_true_eq]; omega
                have H2 := fun W => index_any hexes S[2] W
                have H3 := fun W => index_any hexes S[3] W
                simp only [hex_index] at H2 H3
                unfold hexes at H2 H3
                have HBx : (∃ i j : Fin 16, hexV S[2] = (i.val : Int) ∧ hexV S[3] = (j.val : Int) ∧ bytO S.data.toList = some (UInt8.ofNat (16 * i.val + j.val), 4)) ∨ ((hexV S[2] = -1 ∨ (0 ≤ hexV S[2] ∧ hexV S[3] = -1)) ∧ bytO S.data.toList = none) := by
                  cases h6 : hexI S[2] with
                  | none => exact .inr ⟨.inl (by unfold hexV; rw [h6]), byt_nox S (by omega) h92 hx (.inl h6)⟩
                  | some i =>
                    cases h7 : hexI S[3] with
                    | none => exact .inr ⟨.inr ⟨by unfold hexV; rw [h6]; simp, by unfold hexV; rw [h7]⟩, byt_nox S (by omega) h92 hx (.inr h7)⟩
                    | some j => exact .inl ⟨⟨i, hexI_lt h6⟩, ⟨j, hexI_lt h7⟩, by unfold hexV; rw [h6], by unfold hexV; rw [h7], byt_hex S (by omega) h92 hx i j h6 h7⟩
                generalize hexV S[2] = x at *
                generalize hexV S[3] = y at *
                have j2 : (2 : Int) < (S.size : Int) := by omega
                have j3 : (3 : Int) < (S.size : Int) := by omega
                have HH2 := Lib.hid H2; have HH3 := Lib.hid H3
                clear H2 H3 ha hb hx h92
                go_enter Tryz.func39, Tryz.ntmps39
                rcases HBx with ⟨i, j, hi, hj, hB⟩ | ⟨hxy, hB⟩
                · have HB := Lib.hid hB
                  subst hi hj
                  have hi0 : decide (0 ≤ ((i.val : Nat) : Int)) = true := by rw [decide_eq_true_eq]; omega
                  have hj0 : decide (0 ≤ ((j.val : Nat) : Int)) = true := by rw [decide_eq_true_eq]; omega
                  have HJ := Lib.hid (joined_fin i j)
                  have hi1 := i.isLt; have hj1 := j.isLt
                  clear hB
                  go_wp2_with fail
                  refine HP.out.mono ?_
                  rintro e w' ⟨rfl, rfl⟩
                  rw [hp]
                  go_wp2_with fail
                  go_quiet (first | (go_at_call 26; exact Calls.quiet_of_same (flipW (HH2.out _))) | (go_at_call 26; exact Calls.quiet_of_same (flipW (HH3.out _))))
                  go_wp2_with fail
                  go_ret2
                  exact ⟨by rw [HB.out]; exact congrArg (fun z => Ending.returned (.tuple #[.int .u8 z, .int .i64 4])) HJ.out, drewN_below _ _⟩
                · have HB := Lib.hid hB
                  clear hB
                  rcases hxy with rfl | ⟨hx0, rfl⟩
                  · go_wp2_with fail
                    refine HP.out.mono ?_
                    rintro e w' ⟨rfl, rfl⟩
                    rw [hp]
                    go_wp2_with fail
                    go_quiet (first | (go_at_call 26; exact Calls.quiet_of_same (flipW (HH2.out _))) | (go_at_call 26; exact Calls.quiet_of_same (flipW (HH3.out _))))
                    go_wp2_with fail
                    go_ret2
                    exact ⟨by rw [HB.out]; rfl, drewN_below _ _⟩
                  · have hx1 : decide (0 ≤ x) = true := by rw [decide_eq_true_eq]; exact hx0
                    go_wp2_with fail
                    refine HP.out.mono ?_
                    rintro e w' ⟨rfl, rfl⟩
                    rw [hp]
                    go_wp2_with fail
                    go_quiet (first | (go_at_call 26; exact Calls.quiet_of_same (flipW (HH2.out _))) | (go_at_call 26; exact Calls.quiet_of_same (flipW (HH3.out _))))
                    go_wp2_with fail
                    go_ret2
                    exact ⟨by rw [HB.out]; rfl, drewN_below _ _⟩
              · have d4 : decide (4 ≤ (S.size : Int)) = false := by rw [decide_eq_false_iff_not]; omega
                have HB := Lib.hid (byt_few S h2 h92 hx (by omega))
                clear ha hb hx h92
                go_enter Tryz.func39, Tryz.ntmps39
                go_wp2_with fail
                refine HP.out.mono ?_
                rintro e w' ⟨rfl, rfl⟩
                rw [hp]
                go_wp2_with fail
                go_ret2
                exact ⟨by rw [HB.out]; rfl, Below.refl _ _⟩
            · have e3 : ((S[1].toNat : Int) == 120) = false := by have := u8_ne (k := 120) hx; rw [beq_eq_false_iff_ne]; omega
              have HB := Lib.hid (byt_no S h2 h92 (by rintro (h | h); exact ha h; exact hb h) hx)
              clear ha hb hx h92
              go_enter Tryz.func39, Tryz.ntmps39
              go_wp2_with fail
              refine HP.out.mono ?_
              rintro e w' ⟨rfl, rfl⟩
              rw [hp]
              go_wp2_with fail
              all_goals
                go_ret2
                exact ⟨by rw [HB.out]; rfl, Below.refl _ _⟩
      · have d2 : decide (2 ≤ (S.size : Int)) = false := by rw [decide_eq_false_iff_not]; omega
        have d4 : decide (4 ≤ (S.size : Int)) = false := by rw [decide_eq_false_iff_not]; omega
        have HB := Lib.hid (byt_short S h h92 (by omega))
        clear h92
        go_enter Tryz.func39, Tryz.ntmps39
        go_wp2_with fail
        refine HP.out.mono ?_
        rintro e w' ⟨rfl, rfl⟩
        rw [hp]
        go_wp2_with fail
        go_ret2
        exact ⟨by rw [HB.out]; rfl, Below.refl _ _⟩
    · have HB := Lib.hid (byt_one S h hp h92)
      have e0 : ((S[0].toNat : Int) != 92) = true := by have := u8_ne (k := 92) h92; rw [bne_iff_ne]; omega
      clear h92
      go_enter Tryz.func39, Tryz.ntmps39
      go_wp2_with fail
      refine HP.out.mono ?_
      rintro e w' ⟨rfl, rfl⟩
      rw [hp]
      go_wp2_with fail
      go_ret2
      exact ⟨by rw [HB.out]; rfl, Below.refl _ _⟩

end Go.Proofs.YtnehbpfgdeilhaaGreatDoor
