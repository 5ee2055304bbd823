/- Has, and Drop of a key that is not there -/
import Derived.Test.YtmhpgbhmhbldfaaTrD1
namespace Go.Proofs.Ytmhpgbhmhbldfaa
open Go.ChangeShapes Go.WideShapes Go.ChangeAt Go.RowKit Go.Shelf

set_option maxHeartbeats 1000000 in
/-- Has -/
theorem has_key {w : World} {N t next root : Nat} {m : List ByteArray} (h : TSt w N t next root m) (hm : m.length ≤ 60) (hn : next < 400000) (k : ByteArray) :
    Calls Try.prog 17 #[.pointer (some ⟨t, 0, none⟩), .string k] w fun e w' => (∃ b, e = .returned (.bool b) ∧ (b = true ↔ k ∈ m)) ∧ Below w.heap.size w w' := by
  have hC : Calls Try.prog 18 #[.pointer (some ⟨t, 0, none⟩), .string k] w fun e w' => (∃ v b, e = .returned (.tuple #[v, .bool b]) ∧ (b = true ↔ k ∈ m)) ∧ Below w.heap.size w w' := by
    rcases h with ⟨-, ⟨rfl, rfl, h⟩ | ⟨M, G, laid, T, -, rfl, h, hM, hG, hne, hl, hi, rfl⟩⟩
    · exact (way_zero h k).mono fun e w' hp => ⟨⟨_, _, hp.1, by simp⟩, hp.2⟩
    · refine (way_c h hM hi (by omega) hm k).mono ?_
      rintro e w' ⟨v, b, rfl, hb, ⟨rfl, hx⟩ | ⟨rfl, hx, -⟩⟩
      · exact ⟨⟨_, _, rfl, by simp [hx]⟩, hb⟩
      · exact ⟨⟨_, _, rfl, by simp [hx]⟩, hb⟩
  have HC := Lib.hid hC
  have heq := fun W => eql_treeptr t W
  clear hC h hm hn
  go_enter Try.func17, Try.ntmps17
  go_wp2_with fail
  refine HC.out.mono ?_
  rintro e w1 ⟨⟨v, b, rfl, hx⟩, hb⟩
  have HX := Lib.hid hx; have HB := Lib.hid hb
  clear hx hb
  go_wp2_with fail
  go_ret
  exact ⟨⟨b, rfl, HX.out⟩, HB.out⟩

set_option maxHeartbeats 1000000 in
/-- a key that is not there is not taken away -/
theorem drop_no {w : World} {N t next root : Nat} {m : List ByteArray} (h : TSt w N t next root m) (hm : m.length ≤ 60) (hn : next < 400000) {k : ByteArray} (hk : k ∉ m) :
    Calls Try.prog 15 #[.pointer (some ⟨t, 0, none⟩), .string k] w fun e w' => e = .returned (.bool false) ∧ Below w.heap.size w w' := by
  have hC : Calls Try.prog 18 #[.pointer (some ⟨t, 0, none⟩), .string k] w fun e w' => (∃ v, e = .returned (.tuple #[v, .bool false])) ∧ Below w.heap.size w w' := by
    rcases h with ⟨-, ⟨rfl, rfl, h⟩ | ⟨M, G, laid, T, -, rfl, h, hM, hG, hne, hl, hi, rfl⟩⟩
    · exact (way_zero h k).mono fun e w' hp => ⟨⟨_, hp.1⟩, hp.2⟩
    · refine (way_c h hM hi (by omega) hm k).mono ?_
      rintro e w' ⟨v, b, rfl, hb, ⟨rfl, hx⟩ | ⟨rfl, hx, -⟩⟩
      · exact absurd hx hk
      · exact ⟨⟨_, rfl⟩, hb⟩
  have HC := Lib.hid hC
  have heq := fun W => eql_treeptr t W
  clear hC h hm hn
  go_enter Try.func15, Try.ntmps15
  go_wp2_with fail
  refine HC.out.mono ?_
  rintro e w1 ⟨⟨v, rfl⟩, hb⟩
  have HB := Lib.hid hb
  clear hb
  go_wp2_with fail
  go_ret
  exact ⟨rfl, HB.out⟩

end Go.Proofs.Ytmhpgbhmhbldfaa
