/- lex.readText -/
import Derived.Test.YtnehbpfgdeilhaaGreatDoorLxT
namespace Go.Proofs.YtnehbpfgdeilhaaGreatDoor
open Go.ChangeShapes Go.WideShapes Go.ChangeAt Go.RowKit Go.Fl
open Go.Shelf

def set5 (w : World) (g : Nat) (v0 v1 v2 v3 v4 : Value) : World :=
  ((((w.setCell ⟨g, 0, none⟩ v0).setCell ⟨g, 1, none⟩ v1).setCell ⟨g, 2, none⟩ v2).setCell ⟨g, 3, none⟩ v3).setCell ⟨g, 4, none⟩ v4

theorem set5_below {B : Nat} {a w : World} {g : Nat} (h : Below B a w) (hg : B ≤ g) (v0 v1 v2 v3 v4 : Value) : Below B a (set5 w g v0 v1 v2 v3 v4) :=
  ((((h.setCell (p := ⟨g, 0, none⟩) hg v0).setCell (p := ⟨g, 1, none⟩) hg v1).setCell (p := ⟨g, 2, none⟩) hg v2).setCell (p := ⟨g, 3, none⟩) hg v3).setCell (p := ⟨g, 4, none⟩) hg v4

theorem set5_load {w : World} {g : Nat} {t : TypeId} {cs : Array Value} (h : Blk w g t cs) (hs : 5 ≤ cs.size) (v0 v1 v2 v3 v4 : Value) :
    (w.setCell ⟨g, 0, none⟩ v0).cell? ⟨g, 0, none⟩ = some v0 ∧
    ((w.setCell ⟨g, 0, none⟩ v0).setCell ⟨g, 1, none⟩ v1).cell? ⟨g, 1, none⟩ = some v1 ∧
    (((w.setCell ⟨g, 0, none⟩ v0).setCell ⟨g, 1, none⟩ v1).setCell ⟨g, 2, none⟩ v2).cell? ⟨g, 2, none⟩ = some v2 ∧
    ((((w.setCell ⟨g, 0, none⟩ v0).setCell ⟨g, 1, none⟩ v1).setCell ⟨g, 2, none⟩ v2).setCell ⟨g, 3, none⟩ v3).cell? ⟨g, 3, none⟩ = some v3 ∧
    (((((w.setCell ⟨g, 0, none⟩ v0).setCell ⟨g, 1, none⟩ v1).setCell ⟨g, 2, none⟩ v2).setCell ⟨g, 3, none⟩ v3).setCell ⟨g, 4, none⟩ v4).cell? ⟨g, 4, none⟩ = some v4 :=
  ⟨by rw [(h.set_ 0 v0).cell]; exact Array.getElem?_setIfInBounds_self_of_lt (by first | omega | (simp only [Array.size_setIfInBounds]; omega)),
   by rw [((h.set_ 0 v0).set_ 1 v1).cell]; exact Array.getElem?_setIfInBounds_self_of_lt (by first | omega | (simp only [Array.size_setIfInBounds]; omega)),
   by rw [(((h.set_ 0 v0).set_ 1 v1).set_ 2 v2).cell]; exact Array.getElem?_setIfInBounds_self_of_lt (by first | omega | (simp only [Array.size_setIfInBounds]; omega)),
   by rw [((((h.set_ 0 v0).set_ 1 v1).set_ 2 v2).set_ 3 v3).cell]; exact Array.getElem?_setIfInBounds_self_of_lt (by first | omega | (simp only [Array.size_setIfInBounds]; omega)),
   by rw [(((((h.set_ 0 v0).set_ 1 v1).set_ 2 v2).set_ 3 v3).set_ 4 v4).cell]; exact Array.getElem?_setIfInBounds_self_of_lt (by first | omega | (simp only [Array.size_setIfInBounds]; omega))⟩

/-- a word's box at g, with these five cells -/
def WBox (w : World) (g : Nat) (v0 v1 v2 v3 v4 : Value) : Prop := Blk w g 56 #[v0, v1, v2, v3, v4]

/-- an empty one -/
def WZero (w : World) (g : Nat) : Prop := WBox w g (.int .i64 0) (.string ⟨#[]⟩) (.int .i64 0) (.float .f64 0) (.int .i64 0)

theorem drop_list (S : ByteArray) (a : Nat) : (S.extract a S.size).data.toList = S.data.toList.drop a := by
  rw [ByteArray.data_extract]
  simp only [Array.toList_extract, List.extract]
  rw [List.take_of_length_le (by rw [List.length_drop]; have := len_list S; omega)]

theorem txtGo_out {l acc : List UInt8} {a fu : Nat} (h : l.length ≤ a) : txtGo fu l acc a = none := by
  cases fu with
  | zero => rfl
  | succ fu => rw [txtGo, List.drop_eq_nil_of_le h]

theorem txtGo_quote {S : ByteArray} {acc : List UInt8} {a fu : Nat} (h : a < S.size) (hq : S[a] = 39) : txtGo (fu + 1) S.data.toList acc a = if 500 < acc.length then none else some (acc, a + 1) := by
  rw [txtGo, list_cut S a h]
  simp only [hq, if_true]

theorem txtGo_none {S : ByteArray} {acc : List UInt8} {a fu : Nat} (h : a < S.size) (hq : S[a] ≠ 39) (hb : bytO (S.data.toList.drop a) = none) : txtGo (fu + 1) S.data.toList acc a = none := by
  rw [list_cut S a h] at hb
  rw [txtGo, list_cut S a h]
  simp only [hq, if_false, hb]

theorem txtGo_more {S : ByteArray} {acc : List UInt8} {a fu n : Nat} {c : UInt8} (h : a < S.size) (hq : S[a] ≠ 39) (hb : bytO (S.data.toList.drop a) = some (c, n)) : txtGo (fu + 1) S.data.toList acc a = txtGo fu S.data.toList (acc ++ [c]) (a + n) := by
  rw [list_cut S a h] at hb
  rw [txtGo, list_cut S a h]
  simp only [hq, if_false, hb]

theorem txtO_of {S : ByteArray} {fu a : Nat} {acc : List UInt8} (h : txtGo S.size S.data.toList [] 1 = txtGo fu S.data.toList acc a) :
    txtO S.data.toList = match txtGo fu S.data.toList acc a with | none => none | some (t, n) => some (⟨4, ofL t, 0, 0, 0⟩, n) := by
  unfold txtO
  rw [len_list, h]
  rfl

set_option maxHeartbeats 4000000 in
set_option maxRecDepth 100000 in
theorem readText_any (S : ByteArray) (w : World) (h : 0 < S.size) (hs : S.size ≤ 100000) :
    Calls Tryz.prog 23 #[.string S] w fun e w' => e = .returned (rdV (txtO S.data.toList)) ∧ Below w.heap.size w w' := by
  go_enter Tryz.func23, Tryz.ntmps23
  go_wp2_with fail
  go_loopw [5] (fun i wr => ∃ (a fu : Nat) (acc : List UInt8), i = .int .i64 a ∧ 1 ≤ a ∧ a ≤ S.size ∧ acc.length ≤ a ∧ Hid (txtGo S.size S.data.toList [] 1 = txtGo fu S.data.toList acc a ∧ S.size + 1 ≤ a + fu) ∧
    Hid (RBx w (w.heap.size + 1) acc wr ∧ WZero wr w.heap.size)) (fun i _ => S.size - (intOf i).toNat)
  case atStart =>
    have hz : (w.alloc (.cells #[.int .i64 0, .string ⟨#[]⟩, .int .i64 0, .float .f64 0, .int .i64 0] 56)).heap.size = w.heap.size + 1 := by simp
    have h0 := RBx.start w (w.alloc (.cells #[.int .i64 0, .string ⟨#[]⟩, .int .i64 0, .float .f64 0, .int .i64 0] 56)) ((Below.refl _ _).alloc (Nat.le_refl _) _)
    rw [hz] at h0
    exact ⟨1, S.size, [], rfl, Nat.le_refl _, h, Nat.zero_le _, Lib.hid ⟨rfl, by omega⟩, Lib.hid ⟨h0, Blk.below (B := w.heap.size + 1) (Blk.new w _ _) ((Below.refl _ _).alloc (by simp) _) (Nat.lt_succ_self _)⟩⟩
  case round =>
    obtain ⟨a, fu, acc, rfl, ha1, ha, hacc, Hg, Hr⟩ := hrel
    have hz0 := Hr.out.2
    by_cases hlt : a < S.size
    · have hlt1 : decide ((a : Int) < (S.size : Int)) = true := by rw [decide_eq_true_eq]; omega
      obtain ⟨fu, rfl⟩ : ∃ f, fu = f + 1 := ⟨fu - 1, by have := Hg.out.2; omega⟩
      by_cases hq : S[a] = 39
      · have e1 : ((S[a].toNat : Int) == 39) = true := by rw [hq]; rfl
        have hgo := txtGo_quote (acc := acc) (fu := fu) hlt hq
        clear hq
        by_cases hbig : 500 < acc.length
        · rw [if_pos hbig] at hgo
          have dbig : decide (500 < (acc.length : Int)) = true := by rw [decide_eq_true_eq]; omega
          have HT : Hid (txtO S.data.toList = none) := Lib.hid (by rw [txtO_of Hg.out.1, hgo])
          clear hgo hbig
          go_wp2_with fail
          refine (rbx_len Hr.out.1).mono ?_
          rintro e w' ⟨rfl, rfl⟩
          go_wp2_with fail
          refine (none_any _).mono ?_
          rintro e w1 ⟨rfl, hb1⟩
          have hz1 : WZero w1 w.heap.size := Blk.below hz0 hb1 (by have := Hr.out.1.lt; omega)
          have d0 : w1.frozen? ⟨w.heap.size, 0, none⟩ = false := hz1.frozen 0
          have d1 : w1.frozen? ⟨w.heap.size, 1, none⟩ = false := hz1.frozen 1
          have d2 : w1.frozen? ⟨w.heap.size, 2, none⟩ = false := hz1.frozen 2
          have d3 : w1.frozen? ⟨w.heap.size, 3, none⟩ = false := hz1.frozen 3
          have d4 : w1.frozen? ⟨w.heap.size, 4, none⟩ = false := hz1.frozen 4
          have c0 : w1.cell? ⟨w.heap.size, 0, none⟩ = some (.int .i64 0) := (hz1.cell 0).trans rfl
          have c1 : w1.cell? ⟨w.heap.size, 1, none⟩ = some (.string ⟨#[]⟩) := (hz1.cell 1).trans rfl
          have c2 : w1.cell? ⟨w.heap.size, 2, none⟩ = some (.int .i64 0) := (hz1.cell 2).trans rfl
          have c3 : w1.cell? ⟨w.heap.size, 3, none⟩ = some (.float .f64 0) := (hz1.cell 3).trans rfl
          have c4 : w1.cell? ⟨w.heap.size, 4, none⟩ = some (.int .i64 0) := (hz1.cell 4).trans rfl
          have HF := Lib.hid (set5_load hz1 (by simp) (.int .i64 0) (.string ⟨#[]⟩) (.int .i64 0) (.float .f64 0) (.int .i64 0))
          have HB := Lib.hid (Hr.out.1.below.trans (hb1.mono Hr.out.1.below.size))
          clear hz1 hb1 hz0
          go_wp2_with fail
          obtain ⟨f0, f1, f2, f3, f4⟩ := HF.out
          exact bodyPost_ret (v := .tuple #[.agg #[.int .i64 0, .string ⟨#[]⟩, .int .i64 0, .float .f64 0, .int .i64 0], .int .i64 0]) (by simp [results, Tryz.results23, go_sem, f0, f1, f2, f3, f4]) rfl
            ⟨by rw [HT.out]; rfl, set5_below HB.out (Nat.le_refl _) _ _ _ _ _⟩
        · rw [if_neg hbig] at hgo
          have dbig : decide (500 < (acc.length : Int)) = false := by rw [decide_eq_false_iff_not]; omega
          have HT : Hid (txtO S.data.toList = some (⟨4, ofL acc, 0, 0, 0⟩, a + 1)) := Lib.hid (by rw [txtO_of Hg.out.1, hgo])
          clear hgo hbig
          go_wp2_with fail
          refine (rbx_len Hr.out.1).mono ?_
          rintro e w' ⟨rfl, rfl⟩
          go_wp2_with fail
          refine (rbx_str Hr.out.1).mono ?_
          rintro e w1 ⟨rfl, hbw, hb1⟩
          have hz1 : WZero w1 w.heap.size := Blk.below hz0 hb1 (Nat.lt_succ_self _)
          have d0 : w1.frozen? ⟨w.heap.size, 0, none⟩ = false := hz1.frozen 0
          have d1 : w1.frozen? ⟨w.heap.size, 1, none⟩ = false := hz1.frozen 1
          have d2 : w1.frozen? ⟨w.heap.size, 2, none⟩ = false := hz1.frozen 2
          have d3 : w1.frozen? ⟨w.heap.size, 3, none⟩ = false := hz1.frozen 3
          have d4 : w1.frozen? ⟨w.heap.size, 4, none⟩ = false := hz1.frozen 4
          have c0 : w1.cell? ⟨w.heap.size, 0, none⟩ = some (.int .i64 0) := (hz1.cell 0).trans rfl
          have c1 : w1.cell? ⟨w.heap.size, 1, none⟩ = some (.string ⟨#[]⟩) := (hz1.cell 1).trans rfl
          have c2 : w1.cell? ⟨w.heap.size, 2, none⟩ = some (.int .i64 0) := (hz1.cell 2).trans rfl
          have c3 : w1.cell? ⟨w.heap.size, 3, none⟩ = some (.float .f64 0) := (hz1.cell 3).trans rfl
          have c4 : w1.cell? ⟨w.heap.size, 4, none⟩ = some (.int .i64 0) := (hz1.cell 4).trans rfl
          have HF := Lib.hid (set5_load hz1 (by simp) (.int .i64 4) (.string (ofL acc)) (.int .i64 0) (.float .f64 0) (.int .i64 0))
          have HB := Lib.hid hbw
          clear hz1 hb1 hz0 hbw
          go_wp2_with fail
          obtain ⟨f0, f1, f2, f3, f4⟩ := HF.out
          exact bodyPost_ret (v := .tuple #[.agg #[.int .i64 4, .string (ofL acc), .int .i64 0, .float .f64 0, .int .i64 0], .int .i64 (a + 1 : Nat)]) (by simp [results, Tryz.results23, go_sem, f0, f1, f2, f3, f4]) rfl
            ⟨by rw [HT.out]; rfl, set5_below HB.out (Nat.le_refl _) _ _ _ _ _⟩
      · have e1 : ((S[a].toNat : Int) == 39) = false := by have := u8_ne (k := 39) hq; rw [beq_eq_false_iff_ne]; omega
        have hx : (S.extract a S.size).size = S.size - a := by rw [ByteArray.size_extract]; omega
        have hcall := readByte_any (S.extract a S.size) wr (by omega) (by unfold maxLen; omega)
        rw [drop_list] at hcall
        cases hby : bytO (S.data.toList.drop a) with
        | none =>
          rw [hby] at hcall
          have hgo := txtGo_none (acc := acc) (fu := fu) hlt hq hby
          have HT : Hid (txtO S.data.toList = none) := Lib.hid (by rw [txtO_of Hg.out.1, hgo])
          have HC : Hid (Calls Tryz.prog 39 #[.string (S.extract a S.size)] wr fun e w' => e = .returned (.tuple #[.int .u8 0, .int .i64 0]) ∧ Below wr.heap.size wr w') := Lib.hid hcall
          clear hgo hby hcall hx hq
          go_wp2_with fail
          refine HC.out.mono ?_
          rintro e w2 ⟨rfl, hb2⟩
          have hz2 : WZero w2 w.heap.size := Blk.below hz0 hb2 (by have := Hr.out.1.lt; omega)
          have hr2 := Hr.out.1.on hb2
          clear hz0 Hr
          have Hr : Hid (RBx w (w.heap.size + 1) acc w2 ∧ WZero w2 w.heap.size) := Lib.hid ⟨hr2, hz2⟩
          have hz0 := Hr.out.2
          clear hb2 hz2 hr2
          go_wp2_with fail
          refine (none_any _).mono ?_
          rintro e w1 ⟨rfl, hb1⟩
          have hz1 : WZero w1 w.heap.size := Blk.below hz0 hb1 (by have := Hr.out.1.lt; omega)
          have d0 : w1.frozen? ⟨w.heap.size, 0, none⟩ = false := hz1.frozen 0
          have d1 : w1.frozen? ⟨w.heap.size, 1, none⟩ = false := hz1.frozen 1
          have d2 : w1.frozen? ⟨w.heap.size, 2, none⟩ = false := hz1.frozen 2
          have d3 : w1.frozen? ⟨w.heap.size, 3, none⟩ = false := hz1.frozen 3
          have d4 : w1.frozen? ⟨w.heap.size, 4, none⟩ = false := hz1.frozen 4
          have c0 : w1.cell? ⟨w.heap.size, 0, none⟩ = some (.int .i64 0) := (hz1.cell 0).trans rfl
          have c1 : w1.cell? ⟨w.heap.size, 1, none⟩ = some (.string ⟨#[]⟩) := (hz1.cell 1).trans rfl
          have c2 : w1.cell? ⟨w.heap.size, 2, none⟩ = some (.int .i64 0) := (hz1.cell 2).trans rfl
          have c3 : w1.cell? ⟨w.heap.size, 3, none⟩ = some (.float .f64 0) := (hz1.cell 3).trans rfl
          have c4 : w1.cell? ⟨w.heap.size, 4, none⟩ = some (.int .i64 0) := (hz1.cell 4).trans rfl
          have HF := Lib.hid (set5_load hz1 (by simp) (.int .i64 0) (.string ⟨#[]⟩) (.int .i64 0) (.float .f64 0) (.int .i64 0))
          have HB := Lib.hid (Hr.out.1.below.trans (hb1.mono Hr.out.1.below.size))
          clear hz1 hb1 hz0
          go_wp2_with fail
          obtain ⟨f0, f1, f2, f3, f4⟩ := HF.out
          exact bodyPost_ret (v := .tuple #[.agg #[.int .i64 0, .string ⟨#[]⟩, .int .i64 0, .float .f64 0, .int .i64 0], .int .i64 0]) (by simp [results, Tryz.results23, go_sem, f0, f1, f2, f3, f4]) rfl
            ⟨by rw [HT.out]; rfl, set5_below HB.out (Nat.le_refl _) _ _ _ _ _⟩
        | some cn =>
          obtain ⟨c, n⟩ := cn
          rw [hby] at hcall
          have hle := bytO_le hby
          rw [List.length_drop, len_list] at hle
          obtain ⟨hn0, hn1⟩ := hle
          have HG : Hid (txtGo (fu + 1) S.data.toList acc a = txtGo fu S.data.toList (acc ++ [c]) (a + n)) := Lib.hid (txtGo_more (acc := acc) (fu := fu) hlt hq hby)
          have HC : Hid (Calls Tryz.prog 39 #[.string (S.extract a S.size)] wr fun e w' => e = .returned (.tuple #[.int .u8 (c.toNat : Nat), .int .i64 (n : Nat)]) ∧ Below wr.heap.size wr w') := Lib.hid hcall
          have dn : ((n : Int) == 0) = false := by rw [beq_eq_false_iff_ne]; omega
          clear hby hcall hx hq
          go_wp2_with fail
          refine HC.out.mono ?_
          rintro e w2 ⟨rfl, hb2⟩
          have Hz2 : Hid (WZero w2 w.heap.size) := Lib.hid (Blk.below hz0 hb2 (by have := Hr.out.1.lt; omega))
          have Hr2 := Lib.hid (Hr.out.1.on hb2)
          clear hz0 Hr hb2
          go_wp2_with fail
          refine (rbx_byte Hr2.out c (by omega)).mono ?_
          rintro e w3 ⟨rfl, hr3, hb3⟩
          have Hr3 : Hid (RBx w (w.heap.size + 1) (acc ++ [c]) w3 ∧ WZero w3 w.heap.size) := Lib.hid ⟨hr3, Blk.below Hz2.out hb3 (Nat.lt_succ_self _)⟩
          clear hr3 hb3 Hz2 Hr2
          go_wp2_with fail
          go_roundw
          case rel => exact ⟨a + n, fu, acc ++ [c], by go_num, by omega, by omega, by rw [List.length_append, List.length_singleton]; omega, Lib.hid ⟨Hg.out.1.trans HG.out, by have := Hg.out.2; omega⟩, Hr3⟩
          case measure => simp [intOf]; omega
    · have hlt1 : decide ((a : Int) < (S.size : Int)) = false := by rw [decide_eq_false_iff_not]; omega
      have HT : Hid (txtO S.data.toList = none) := Lib.hid (by rw [txtO_of Hg.out.1, txtGo_out (by rw [len_list]; omega)])
      go_wp2_with fail
      refine (none_any _).mono ?_
      rintro e w1 ⟨rfl, hb1⟩
      have hz1 : WZero w1 w.heap.size := Blk.below hz0 hb1 (by have := Hr.out.1.lt; omega)
      have d0 : w1.frozen? ⟨w.heap.size, 0, none⟩ = false := hz1.frozen 0
      have d1 : w1.frozen? ⟨w.heap.size, 1, none⟩ = false := hz1.frozen 1
      have d2 : w1.frozen? ⟨w.heap.size, 2, none⟩ = false := hz1.frozen 2
      have d3 : w1.frozen? ⟨w.heap.size, 3, none⟩ = false := hz1.frozen 3
      have d4 : w1.frozen? ⟨w.heap.size, 4, none⟩ = false := hz1.frozen 4
      have c0 : w1.cell? ⟨w.heap.size, 0, none⟩ = some (.int .i64 0) := (hz1.cell 0).trans rfl
      have c1 : w1.cell? ⟨w.heap.size, 1, none⟩ = some (.string ⟨#[]⟩) := (hz1.cell 1).trans rfl
      have c2 : w1.cell? ⟨w.heap.size, 2, none⟩ = some (.int .i64 0) := (hz1.cell 2).trans rfl
      have c3 : w1.cell? ⟨w.heap.size, 3, none⟩ = some (.float .f64 0) := (hz1.cell 3).trans rfl
      have c4 : w1.cell? ⟨w.heap.size, 4, none⟩ = some (.int .i64 0) := (hz1.cell 4).trans rfl
      have HF := Lib.hid (set5_load hz1 (by simp) (.int .i64 0) (.string ⟨#[]⟩) (.int .i64 0) (.float .f64 0) (.int .i64 0))
      have HB := Lib.hid (Hr.out.1.below.trans (hb1.mono Hr.out.1.below.size))
      clear hz1 hb1 hz0
      go_wp2_with fail
      obtain ⟨f0, f1, f2, f3, f4⟩ := HF.out
      exact bodyPost_ret (v := .tuple #[.agg #[.int .i64 0, .string ⟨#[]⟩, .int .i64 0, .float .f64 0, .int .i64 0], .int .i64 0]) (by simp [results, Tryz.results23, go_sem, f0, f1, f2, f3, f4]) rfl
        ⟨by rw [HT.out]; rfl, set5_below HB.out (Nat.le_refl _) _ _ _ _ _⟩

end Go.Proofs.YtnehbpfgdeilhaaGreatDoor
