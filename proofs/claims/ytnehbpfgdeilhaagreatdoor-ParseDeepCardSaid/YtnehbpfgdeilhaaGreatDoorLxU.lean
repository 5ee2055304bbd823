/- strconv.ParseUint at sixteen bytes, to the base 16 -/
import Derived.Test.YtnehbpfgdeilhaaGreatDoorLxO
import Derived.Laws.Strings3
import Derived.Laws.Closers25
import Derived.Laws.Closers25b
import Derived.Lib.ConvBytes
namespace Go.Proofs.YtnehbpfgdeilhaaGreatDoor
open Go.ChangeShapes Go.WideShapes Go.ChangeAt Go.RowKit Go.Fl
open Go.Shelf

def lowOk (dig : Bool) (L : Int) : Option Nat → Bool
  | some d => dig || (decide (L = 87 + (d : Int)) && decide (10 ≤ d) && decide (d ≤ 15))
  | none => dig || decide (L < 97) || decide (103 ≤ L)

theorem low_key : ∀ n : Fin 256, decide (0 ≤ bits .or .u8 (n.val : Int) 32) = true ∧ decide (bits .or .u8 (n.val : Int) 32 ≤ 255) = true ∧ lowOk (decide (48 ≤ n.val) && decide (n.val ≤ 57)) (bits .or .u8 (n.val : Int) 32) (hexU (UInt8.ofNat n.val)) = true := by decide +kernel

theorem low_fin (n : Fin 256) (L : Int) (hL : L = bits .or .u8 (n.val : Int) 32) : 0 ≤ L ∧ L ≤ 255 ∧ (¬ (48 ≤ n.val ∧ n.val ≤ 57) → (∃ d, hexU (UInt8.ofNat n.val) = some d ∧ L = 87 + (d : Int) ∧ 10 ≤ d ∧ d ≤ 15) ∨ (hexU (UInt8.ofNat n.val) = none ∧ (L < 97 ∨ 103 ≤ L))) := by
  obtain ⟨h1, h2, h3⟩ := low_key n
  rw [← hL] at h1 h2 h3
  refine ⟨of_decide_eq_true h1, of_decide_eq_true h2, fun h => ?_⟩
  have hd : (decide (48 ≤ n.val) && decide (n.val ≤ 57)) = false := by
    rw [← Bool.decide_and]; exact decide_eq_false h
  rw [hd] at h3
  cases hx : hexU (UInt8.ofNat n.val) with
  | none => rw [hx] at h3; exact .inr ⟨rfl, by simpa [lowOk] using h3⟩
  | some d => rw [hx] at h3; exact .inl ⟨d, rfl, by simpa [lowOk, and_assoc] using h3⟩

theorem low_any (c : UInt8) : ∃ L : Int, L = bits .or .u8 (c.toNat : Int) 32 ∧ 0 ≤ L ∧ L ≤ 255 ∧ (¬ (48 ≤ c.toNat ∧ c.toNat ≤ 57) → (∃ d, hexU c = some d ∧ L = 87 + (d : Int) ∧ 10 ≤ d ∧ d ≤ 15) ∨ (hexU c = none ∧ (L < 97 ∨ 103 ≤ L))) := by
  obtain ⟨h1, h2, h3⟩ := low_fin ⟨c.toNat, c.toNat_lt⟩ _ rfl
  exact ⟨_, rfl, h1, h2, by simpa using h3⟩

def hexEnd : Option Nat → Value
  | some b => .tuple #[.int .u64 (b : Nat), .nilIface]
  | none => .tuple #[.int .u64 0, .iface 100 (.int .i64 2)]

theorem hexGo_dig {c : UInt8} {r : List UInt8} {a : Nat} (h : 48 ≤ c.toNat ∧ c.toNat ≤ 57) : hexGo (c :: r) a = hexGo r (a * 16 + (c.toNat - 48)) := by
  have : hexU c = some (c.toNat - 48) := by unfold hexU; rw [if_pos h]
  simp only [hexGo, this]

theorem hexGo_let {c : UInt8} {r : List UInt8} {a d : Nat} (h : hexU c = some d) : hexGo (c :: r) a = hexGo r (a * 16 + d) := by simp only [hexGo, h]

theorem hexGo_bad {c : UInt8} {r : List UInt8} {a : Nat} (h : hexU c = none) : hexGo (c :: r) a = none := by simp only [hexGo, h]

set_option maxHeartbeats 32000000 in
set_option maxRecDepth 100000 in
theorem uint16_any (t : ByteArray) (hne : t.size ≠ 0) (hmax : t.size ≤ 16) (w : World) :
    Calls Tryz.prog 48 #[.string t, .int .i64 16, .int .i64 64] w fun e w' => e = .returned (hexEnd (hexGo t.data.toList 0)) ∧ Below w.heap.size w w' := by
  have hemp : t.toList.isEmpty = false := by
    rw [← decide_eq_emptyBytes]
    exact decide_eq_false (fun h => hne (by rw [h]; rfl))
  have hcv := Lib.run_convert_string_bytes (P := Tryz.prog) w 9 77 5 t (u := .string) Tryz.underlying9 Tryz.underlying77 Tryz.underlying5
  have hB : ∀ j, j < t.size → (Lib.bytesWorld w 5 t).cell? ⟨w.heap.size, j, none⟩ = some (.int .u8 (t.data.toList.getD j 0).toNat) := fun j hj => Lib.bytesWorld_cell w 5 t j hj
  have hBel := Lib.hid (Lib.bytesWorld_below w 5 t)
  obtain ⟨W1, hW1⟩ : ∃ W1, W1 = Lib.bytesWorld w 5 t := ⟨_, rfl⟩
  rw [← hW1] at hcv hB hBel
  clear hW1
  obtain ⟨bs, hL⟩ : ∃ bs, bs = t.data.toList := ⟨_, rfl⟩
  have hLn : bs.length = t.size := by rw [hL, Lib.size_eq]
  rw [← hL] at hB ⊢
  clear hL
  have hmv : IntKind.u64.wrap (IntKind.u64.wrap 18446744073709551616 - 1) = 18446744073709551615 := by
    rw [IntKind.wrap_u64, IntKind.wrap_u64]
    decide
  go_enter Tryz.func48, Tryz.ntmps48
  go_wp2
  go_loop [12, 13, 101] (fun vu vn vi => ∃ (k acc : Nat) (a : Int), vu = .bool false ∧ vn = .int .u64 a ∧ vi = .int .i64 k ∧ k ≤ t.size ∧ Hid (a = (acc : Int) ∧ acc < 16 ^ k ∧ hexGo bs 0 = hexGo (bs.drop k) acc))
    (fun _ _ vi => t.size - (intOf vi).toNat)
  case atStart => exact ⟨0, 0, 0, rfl, rfl, rfl, by omega, Lib.hid ⟨rfl, by decide, rfl⟩⟩
  case round =>
    obtain ⟨k, acc, a, rfl, rfl, rfl, hk, hh⟩ := hrel
    obtain ⟨ha, hacc, hdec⟩ := hh.out
    clear hh
    by_cases hkn : k < t.size
    · have hp : 16 ^ k ≤ 16 ^ 15 := Nat.pow_le_pow_right (by decide) (by omega)
      have hp2 : (16 : Nat) ^ 15 = 1152921504606846976 := by decide
      have a0 : 0 ≤ a := by omega
      have a1 : a < 1152921504606846976 := by omega
      clear hp2 hp
      have hc := hB k hkn
      have hdrop : bs.drop k = bs[k]'(by omega) :: bs.drop (k + 1) := List.drop_eq_getElem_cons (by omega)
      have hget : bs.getD k 0 = bs[k]'(by omega) := by simp [List.getD, List.getElem?_eq_getElem (show k < bs.length by omega)]
      rw [hdrop] at hdec
      rw [hget] at hc
      generalize bs[k]'(by omega) = c at hc hdec
      have hc256 : c.toNat < 256 := c.toNat_lt
      obtain ⟨L, hL, hL0, hL1, hLc⟩ := low_any c
      have HLw := Lib.hid (fun W => (Any.internal_strconv_lower lowerA (c.toNat : Nat) W).mono (fun e w' (h : e = .returned (.int .u8 (bits .or .u8 (c.toNat : Int) 32)) ∧ w' = W) => (show e = .returned (.int .u8 L) ∧ W = w' from ⟨by rw [hL]; exact h.1, h.2.symm⟩)))
      clear hB hdrop hget hL
      by_cases hdig : 48 ≤ c.toNat ∧ c.toNat ≤ 57
      · have HN : Hid (a * 16 + ((c.toNat : Int) - 48) = ((acc * 16 + (c.toNat - 48) : Nat) : Int) ∧ acc * 16 + (c.toNat - 48) < 16 ^ (k + 1) ∧ hexGo bs 0 = hexGo (bs.drop (k + 1)) (acc * 16 + (c.toNat - 48))) :=
          Lib.hid ⟨by omega, by rw [Nat.pow_succ]; omega, hdec.trans (hexGo_dig hdig)⟩
        obtain ⟨hd0, hd1⟩ := hdig
        have iov : a * 16 + ((c.toNat : Int) - 48) < 18446744073709551616 := by omega
        clear hacc hdec ha hLc
        go_wp2
        refine ⟨⟨k + 1, acc * 16 + (c.toNat - 48), a * 16 + ((c.toNat : Int) - 48), rfl, (by first | rfl | (congr 1; omega)), (by first | rfl | (congr 1; omega)), by omega, HN⟩, by simp [intOf]; omega⟩
      · rcases hLc hdig with ⟨d, hx, hLd, hd10, hd15⟩ | ⟨hx, hLo⟩
        · have HN : Hid (a * 16 + (L - 97 + 10) = ((acc * 16 + d : Nat) : Int) ∧ acc * 16 + d < 16 ^ (k + 1) ∧ hexGo bs 0 = hexGo (bs.drop (k + 1)) (acc * 16 + d)) :=
            Lib.hid ⟨by omega, by rw [Nat.pow_succ]; omega, hdec.trans (hexGo_let hx)⟩
          have hL97 : 97 ≤ L := by omega
          have hL102 : L ≤ 102 := by omega
          have iov : a * 16 + (L - 97 + 10) < 18446744073709551616 := by omega
          clear hacc hdec ha hLd hx
          have hcc : c.toNat < 48 ∨ 57 < c.toNat := by omega
          clear hdig
          rcases h95 : ((c.toNat : Int) == 95) with _ | _ <;> rcases hcc with hcc | hcc
          all_goals
            go_wp2_with (go_at_call 65; refine (HLw.out _).mono ?_; rintro e w' ⟨rfl, rfl⟩)
          all_goals
            refine ⟨⟨k + 1, acc * 16 + d, a * 16 + (L - 97 + 10), rfl, (by first | rfl | (congr 1; omega)), (by first | rfl | (congr 1; omega)), by omega, HN⟩, by simp [intOf]; omega⟩
        · have HN : Hid (hexGo bs 0 = none) := Lib.hid (hdec.trans (hexGo_bad hx))
          clear hacc hdec ha hx
          have hcc : c.toNat < 48 ∨ 57 < c.toNat := by omega
          clear hdig
          rcases h95 : ((c.toNat : Int) == 95) with _ | _ <;> rcases hcc with hcc | hcc <;> rcases hLo with hLo | hLo
          all_goals
            go_wp2_with (go_at_call 65; refine (HLw.out _).mono ?_; rintro e w' ⟨rfl, rfl⟩)
          all_goals
            go_ret2
            exact ⟨by rw [HN.out]; rfl, hBel.out⟩
    · -- the bytes are at an end
      have hkk : k = t.size := by omega
      subst hkk
      have hF : hexGo (bs.drop t.size) acc = some acc := by rw [List.drop_eq_nil_of_le (by omega)]; rfl
      have HF : Hid (hexGo bs 0 = some acc) := Lib.hid (hdec.trans hF)
      clear hdec hF
      subst ha
      clear hacc
      go_wp2
      go_ret2
      exact ⟨by rw [HF.out]; rfl, hBel.out⟩

end Go.Proofs.YtnehbpfgdeilhaaGreatDoor
