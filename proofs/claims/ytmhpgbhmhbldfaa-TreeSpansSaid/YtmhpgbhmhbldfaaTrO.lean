/- the laws' few and member; the reference's list of keys -/
import Derived.Test.YtmhpgbhmhbldfaaTrN
namespace Go.Proofs.Ytmhpgbhmhbldfaa
open Go.ChangeShapes Go.WideShapes Go.ChangeAt Go.RowKit

/-- at most a hundred bytes of a text -/
def fewS (s : ByteArray) : ByteArray := if 100 < s.size then s.extract 0 100 else s

theorem few_size (s : ByteArray) : (fewS s).size ≤ 100 := by
  unfold fewS
  split
  · rw [ByteArray.size_extract]; omega
  · omega

theorem few_c (s : ByteArray) (w : World) (hs : s.size ≤ 140737488355328) : Calls Try.prog 7 #[.string s] w fun e w' => e = .returned (.string (fewS s)) ∧ Below w.heap.size w w' := by
  unfold fewS
  by_cases h : 100 < s.size
  · rw [if_pos h]
    have h1 : (100 : Int) < (s.size : Int) := by omega
    go_enter Try.func7, Try.ntmps7
    go_wp2_with fail
    go_ret
    exact ⟨by simp, Below.refl _ _⟩
  · rw [if_neg h]
    have h1 : ¬ (100 : Int) < (s.size : Int) := by omega
    go_enter Try.func7, Try.ntmps7
    go_wp2_with fail
    go_ret
    exact ⟨rfl, Below.refl _ _⟩

set_option maxHeartbeats 1000000 in
set_option maxRecDepth 100000 in
theorem member_c (l : List ByteArray) (k : ByteArray) (A : Option Addr) (c : Nat) (w : World) (hA : SAt w w.heap.size A l) (hn : l.length ≤ 1000) :
    Calls Try.prog 14 #[.slice A l.length c, .string k] w fun e w' => (∃ b, e = .returned (.bool b) ∧ (b = true ↔ k ∈ l)) ∧ Below w.heap.size w w' := by
  have HA := Lib.hid hA
  clear hA
  go_enter Try.func14, Try.ntmps14
  go_wp2_with fail
  go_loopg [5] l.length (fun g iv wr => ∃ i : Nat, iv = .int .i64 i ∧ l.length - i ≤ g ∧ i ≤ l.length ∧ Hid (k ∉ l.take i) ∧ Hid (Below w.heap.size w wr))
  case atStart => exact ⟨0, rfl, by omega, Nat.zero_le _, Lib.hid (by simp), Below.refl _ _⟩
  case round =>
    obtain ⟨i, rfl, hg, hi, HK, HB⟩ := hrel
    by_cases hlt : i < l.length
    · obtain ⟨x, hx⟩ : ∃ x, l[i] = x := ⟨_, rfl⟩
      have hxi : l[i]? = some x := by rw [List.getElem?_eq_getElem hlt, hx]
      obtain ⟨b, o, rfl, hb, c0⟩ := (HA.out.keep HB.out (Nat.le_refl _)) i x hxi
      have hlz : (i : Int) < (l.length : Int) := by omega
      have HX := Lib.hid hxi
      have HTK : Hid (l.take (i + 1) = l.take i ++ [x]) := Lib.hid (by rw [List.take_succ_eq_append_getElem hlt, hx])
      clear hx hxi
      obtain ⟨z, hz⟩ : ∃ z, (x.toList == k.toList) = z := ⟨_, rfl⟩
      cases z
      · have HNE : Hid (x ≠ k) := Lib.hid (fun e => by rw [e] at hz; simp at hz)
        go_wp2_with fail
        go_roundg (l.length - (i + 1))
        case measure => omega
        case rel => exact ⟨i + 1, by go_num, Nat.le_refl _, hlt, Lib.hid (by rw [HTK.out, List.mem_append]; exact fun h => h.elim HK.out fun h => HNE.out (List.mem_singleton.1 h).symm), HB⟩
      · have HE : Hid (x = k) := Lib.hid (toList_inj (by simpa using hz))
        go_wp2_with fail
        go_ret
        exact ⟨⟨true, rfl, by simp; rw [← HE.out]; exact List.mem_of_getElem? HX.out⟩, HB.out⟩
    · have HN : Hid (k ∉ l) := Lib.hid (by
        have := HK.out
        rwa [List.take_of_length_le (by omega)] at this)
      go_wp2_with fail
      go_ret
      exact ⟨⟨false, rfl, by simp; exact HN.out⟩, HB.out⟩

end Go.Proofs.Ytmhpgbhmhbldfaa
