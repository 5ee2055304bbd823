/- key.Name, key.ID, and what writes a key's pieces -/
import Derived.Test.YtigepnhnccfpiaaDoorKeyM
import Derived.Test.YtigepnhnccfpiaaDoorPutR
import Derived.Test.YtigepnhnccfpiaaDoorNumS
import Derived.Test.YtigepnhnccfpiaaDoorLay5
import Derived.Lib.ReplaceLaws
import Derived.Shelf.Vars
namespace Go.Proofs.YtigepnhnccfpiaaDoor
open Go.ChangeShapes Go.WideShapes Go.ChangeAt Go.RowKit Go.Fl

/-! ### noughts become 00 01 -/

theorem index0_hit (r : List UInt8) : Lib.index (0 :: r) [0] = 0 := by simp [Lib.index]

theorem index0_miss {c : UInt8} (hc : c ≠ 0) (r : List UInt8) : Lib.index (c :: r) [0] = if Lib.index r [0] == -1 then -1 else Lib.index r [0] + 1 := by
  have : (List.isPrefixOf [0] (c :: r)) = false := by simp [List.isPrefixOf]; exact fun h => hc h.symm
  rw [Lib.index, this]; rfl

theorem replaceK_esc : ∀ l : List UInt8, Lib.replaceK [0] [0, 1] (Lib.count l [0]) l = escL l
  | [] => by
    have h : Lib.index ([] : List UInt8) [0] = -1 := rfl
    rw [Lib.count_miss h]; rfl
  | c :: r => by
    have ih := replaceK_esc r
    by_cases hc : c = 0
    · subst hc
      have h := index0_hit r
      rw [Lib.count_hit (i := 0) (by simp) (by rw [h]; rfl), Nat.add_comm, Lib.replaceK_hit _ _ _ _ 0 (by rw [h]; rfl), escL, if_pos rfl, ← ih]
      rfl
    · have h := index0_miss hc r
      by_cases hm : Lib.index r [0] = -1
      · have h1 : Lib.index (c :: r) [0] = -1 := by rw [h, hm]; rfl
        rw [Lib.count_miss hm] at ih
        rw [Lib.count_miss h1, escL, if_neg hc, ← ih]; rfl
      · have hge := Lib.index_ge r [0]
        obtain ⟨i, hi⟩ : ∃ i : Nat, Lib.index r [0] = i := ⟨(Lib.index r [0]).toNat, by omega⟩
        have h1 : Lib.index (c :: r) [0] = ((i + 1 : Nat) : Int) := by
          rw [h, hi, if_neg (by intro e; have := beq_iff_eq.1 e; omega)]; omega
        have e1 := Lib.count_hit (sub := [0]) (by simp) hi
        have e2 := Lib.count_hit (sub := [0]) (by simp) h1
        rw [e1, Nat.add_comm, Lib.replaceK_hit _ _ _ _ i hi] at ih
        rw [e2, Nat.add_comm, Lib.replaceK_hit _ _ _ _ (i + 1) h1, escL, if_neg hc, ← ih]
        simp

theorem replaceAll_esc (l : List UInt8) : Lib.replaceAll l [0] [0, 1] = escL l := by
  unfold Lib.replaceAll Lib.replace Lib.replaceNum
  rw [if_neg (by decide), if_pos (.inl (by decide)), replaceK_esc]

/-! ### what the library's search asks of its own variable -/

/-- internal/bytealg.MaxLen holds some int, below B -/
def Mx (B : Nat) (w : World) : Prop := 1 < B ∧ ∃ m, w.cell? ⟨1, 0, none⟩ = some (.int .i64 m)

theorem Mx.under {B : Nat} {w w' : World} (h : Mx B w) (hb : Below B w w') : Mx B w' := by
  obtain ⟨h1, m, hm⟩ := h
  exact ⟨h1, m, (hb.cell (p := ⟨1, 0, none⟩) h1).trans hm⟩

theorem Mx.up {B B' : Nat} {w : World} (h : Mx B w) (hB : B ≤ B') : Mx B' w := ⟨Nat.lt_of_lt_of_le h.1 hB, h.2⟩

theorem Mx.on {w w' : World} (h : Mx w.heap.size w) (hb : Below w.heap.size w w') : Mx w'.heap.size w' := (h.under hb).up hb.size

theorem mx_of_shape {w : World} (h : w.ShapedOpen Tryd.prog) : Mx w.heap.size w := by
  obtain ⟨m, hm⟩ := cell_of_shapedOpen_int (P := Tryd.prog) (g := 1) (t := 3) (zero := #[.int .i64 0]) (k := .i64) h (of_decide_eq_true (by kernel_rfl)) (by kernel_rfl) rfl (by kernel_rfl) (by kernel_rfl) Tryd.underlying3
  exact ⟨World.block_lt_of_cell? w ⟨1, 0, none⟩ hm, m, hm⟩

theorem repl_extra : Builder.Extra Tryd.prog replA_ren := {
  sizeBuilder := by kernel_rfl
  liesBuilder := by kernel_rfl
  t5 := Tryd.underlying5
  a5 := Tryd.isAgg5
  z5 := Tryd.sizeOf5
  v5 := Tryd.zeroValue5
  infoByte := by kernel_rfl
  cellsByte := by kernel_rfl
  sizeByte := by kernel_rfl
  neB5 := by decide }

theorem replaceAll_any (s : ByteArray) (w : World) (hs : s.size ≤ 1000000) (hm : Mx w.heap.size w) :
    Calls Tryd.prog 31 #[.string s, .string ⟨#[0]⟩, .string ⟨#[0, 1]⟩] w fun e w' => e = .returned (.string (bstr (escL s.data.toList))) ∧ Below w.heap.size w w' := by
  obtain ⟨-, m, hm⟩ := hm
  have hc := Lib.countB_mul_le ⟨#[0]⟩ (by decide) s.size s (Nat.le_refl _)
  have h1 : (⟨#[0]⟩ : ByteArray).size = 1 := rfl
  have h2 : (⟨#[0, 1]⟩ : ByteArray).size = 2 := rfl
  rw [h1, Nat.mul_one] at hc
  have c : Calls Tryd.prog 31 #[.string s, .string ⟨#[0]⟩, .string ⟨#[0, 1]⟩] w fun e w' => e = .returned (.string ⟨(Lib.replaceAll s.data.toList [0] [0, 1]).toArray⟩) ∧ Below w.heap.size w w' :=
    Any.strings_ReplaceAll replA repl_extra s ⟨#[0]⟩ ⟨#[0, 1]⟩ m w (by omega) hm (by decide) (by rw [h2]; omega)
  rw [replaceAll_esc] at c
  exact c

theorem esc_size (s : ByteArray) : (escL s.data.toList).length ≤ 2 * s.size := escL_len s.data.toList

set_option maxRecDepth 100000 in
theorem name_any (s : ByteArray) (w : World) (hs : s.size ≤ 1000000) (hm : Mx w.heap.size w) :
    Calls Tryd.prog 13 #[.string s] w fun e w' => e = .returned (.string (bstr (nameL s.data.toList))) ∧ Below w.heap.size w w' := by
  have he := esc_size s
  have hadd : ∀ W : World, (Op.stringOp .add (bstr (escL s.data.toList)) ⟨#[0, 0]⟩).run Tryd.prog W = .ok (.string (bstr (nameL s.data.toList))) W := add_run (escL s.data.toList) [0, 0] (by simp only [List.length_cons, List.length_nil]; omega)
  go_enter Tryd.func13, Tryd.ntmps13
  go_wp2_with fail
  refine (replaceAll_any s _ hs hm).mono ?_
  rintro e w1 ⟨rfl, hb⟩
  go_wp2_with fail
  go_ret
  exact ⟨rfl, hb⟩

theorem id_any (n : Int) (w : World) : Calls Tryd.prog 18 #[.int .i64 n] w fun e w' => e = .returned (.string (eightS (word n))) ∧ Below w.heap.size w w' := by
  have hU : IntKind.u64.wrap n = ((word n : Nat) : Int) := by unfold word; rw [IntKind.wrap_u64]; omega
  have hU2 : n % 18446744073709551616 = ((word n : Nat) : Int) := by unfold word; omega
  go_enter Tryd.func18, Tryd.ntmps18
  go_wp2_with fail
  refine (eight_any (word n) _).mono ?_
  rintro e w1 ⟨rfl, hb⟩
  go_wp2_with fail
  go_ret
  exact ⟨rfl, hb⟩

theorem ahead_any (k : Int) (w : World) (h0 : 0 ≤ k) (h8 : k ≤ 8) : Calls Tryd.prog 37 #[.int .i64 k] w fun e w' => e = .returned (.int .u8 ((kby (rk k + 1)).toNat : Nat)) ∧ w = w' := by
  rw [← kby_eq]
  by_cases k3 : k = 3
  · subst k3
    go_enter Tryd.func37, Tryd.ntmps37
    go_wp2
    go_ret
    exact ⟨rfl, rfl⟩
  · have e : rk k = k := if_neg k3
    rw [e]
    have d3 : (k == 3) = false := by simpa using k3
    have e2 := Lib.hid (show (k + 1) % 256 = k + 1 by omega)
    go_enter Tryd.func37, Tryd.ntmps37
    go_wp2
    go_ret
    exact ⟨ret_int e2.out.symm, rfl⟩

theorem putBool_any (yes : Bool) (B b : Nat) (x : List UInt8) (w : World) (hB : B ≤ w.heap.size) (hH : Holds B b x w) (hlen : x.length + 1 ≤ 140737488355328) :
    Calls Tryd.prog 38 #[.pointer (some ⟨b, 0, none⟩), .bool yes] w fun e w' => e = .returned (.tuple #[]) ∧ Holds B b (x ++ [if yes then 1 else 0]) w' ∧ Below B w w' ∧ Fr b w w' := by
  cases yes
  · go_enter Tryd.func38, Tryd.ntmps38
    go_wp2_with fail
    refine (wb_any _ (0 : UInt8) hH (by decide) hlen hB).mono ?_
    rintro e w2 ⟨rfl, hH2, hb2, hF2⟩
    go_wp2_with fail
    go_end0
    exact ⟨rfl, hH2, hb2, hF2⟩
  · go_enter Tryd.func38, Tryd.ntmps38
    go_wp2_with fail
    refine (wb_any _ (1 : UInt8) hH (by decide) hlen hB).mono ?_
    rintro e w2 ⟨rfl, hH2, hb2, hF2⟩
    go_wp2_with fail
    go_end0
    exact ⟨rfl, hH2, hb2, hF2⟩

set_option maxRecDepth 100000 in
theorem putNumber_any (f : Nat) (over k : Int) (B b : Nat) (x : List UInt8) (w : World) (hf : f < 18446744073709551616) (h0 : 0 ≤ over) (h1 : over ≤ 65535) (_k0 : 0 ≤ k) (_k8 : k ≤ 8) (hB : B ≤ w.heap.size) (hH : Holds B b x w) (hlen : x.length + 11 ≤ 140737488355328) :
    Calls Tryd.prog 39 #[.pointer (some ⟨b, 0, none⟩), .agg #[.float .f64 f, .int .i64 over], .int .i64 k] w fun e w' => e = .returned (.tuple #[]) ∧ Holds B b (x ++ numKey f over.toNat (kby k)) w' ∧ Below B w w' ∧ Fr b w w' := by
  obtain ⟨o, rfl⟩ := Int.eq_ofNat_of_zero_le h0
  have hbl := hH.lt
  have HH := Lib.hid (hH.alloc (.cells #[.float .f64 f, .int .i64 o] 69)); clear hH
  have HB := Lib.hid ((Below.refl B w).alloc hB (.cells #[.float .f64 f, .int .i64 o] 69))
  have HF := Lib.hid (Fr.alloc b w (.cells #[.float .f64 f, .int .i64 o] 69))
  have HX := Lib.hid (Blk.new w 69 #[.float .f64 f, .int .i64 o])
  have Hk := Lib.hid (kby_eq k)
  have hk : k % 256 = ((kby k).toNat : Nat) := Hk.out
  have hk2 : IntKind.u8.wrap k = ((kby k).toNat : Nat) := by rw [← hk]; rfl
  go_enter Tryd.func39, Tryd.ntmps39
  go_wp2_with fail
  refine (key_any f _ hf).mono ?_
  rintro e w1 ⟨rfl, rfl⟩
  go_wp2_with fail
  refine (eight_any (keyN f) _).mono ?_
  rintro e w1 ⟨rfl, hb1⟩
  have hs1 := hb1.size
  simp only [World.size_alloc] at hs1
  have X1 := Fr.of_below (b := b) hb1 _ _ _ (by decide) (by omega) HX.out
  have HX1 := Lib.hid X1; clear X1
  go_wp2_with fail
  refine (ws_any (B := B) (l := x) (eightS (keyN f)) (HH.out.below hb1) (by rw [eight_size]; omega) (by omega)).mono ?_
  rintro e w2 ⟨rfl, hH2, hb2, hF2⟩
  have X2 := hF2 _ _ _ (by decide) (by omega) HX1.out
  have X21 : w2.cell? ⟨w.heap.size, 1, none⟩ = some (.int .i64 o) := (X2.cell 1).trans rfl
  have HX2 := Lib.hid X2; clear X2
  have hs2 := hb2.size
  have HH2 := Lib.hid hH2; have HB2 := Lib.hid ((HB.out.trans (hb1.mono (by simp; omega))).trans hb2); have HF2 := Lib.hid ((HF.out.trans (Fr.of_below hb1)).trans hF2)
  clear hH2 hb2 hF2
  go_wp2_with fail
  refine (two_any (o : Int) _).mono ?_
  rintro e w3 ⟨rfl, hb3⟩
  have hs3 := hb3.size
  go_wp2_with fail
  refine (ws_any (B := B) (l := x ++ (eightS (keyN f)).data.toList) (twoS o) (HH2.out.below hb3) (by rw [two_size, List.length_append, show (eightS (keyN f)).data.toList.length = 8 from eight_size _]; omega) (by omega)).mono ?_
  rintro e w4 ⟨rfl, hH4, hb4, hF4⟩
  have hs4 := hb4.size
  have HH4 := Lib.hid hH4; have HB4 := Lib.hid ((HB2.out.trans (hb3.mono (by omega))).trans hb4); have HF4 := Lib.hid ((HF2.out.trans (Fr.of_below hb3)).trans hF4)
  clear hH4 hb4 hF4
  go_wp2_with fail
  refine (wb_any _ (kby k) HH4.out (by first | rfl | exact Hk.out) (by rw [List.length_append, List.length_append, show (eightS (keyN f)).data.toList.length = 8 from eight_size _, twoL_len]; omega) (by omega)).mono ?_
  rintro e w5 ⟨rfl, hH5, hb5, hF5⟩
  have HH5 := Lib.hid hH5; have HB5 := Lib.hid (HB4.out.trans hb5); have HF5 := Lib.hid (HF4.out.trans hF5)
  clear hH5 hb5 hF5
  go_wp2_with fail
  go_end0
  exact ⟨rfl, by have := HH5.out; unfold numKey eightL; simpa using this, HB5.out, HF5.out⟩

end Go.Proofs.YtigepnhnccfpiaaDoor
