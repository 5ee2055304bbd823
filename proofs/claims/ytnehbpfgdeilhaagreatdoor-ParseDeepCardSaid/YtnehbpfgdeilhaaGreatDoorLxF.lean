/- lex.Float, lex.readFloat -/
import Derived.Test.YtnehbpfgdeilhaaGreatDoorLxV
import Derived.Test.YtnehbpfgdeilhaaGreatDoorNumB
import Derived.Test.YtnehbpfgdeilhaaGreatDoorStr
namespace Go.Proofs.YtnehbpfgdeilhaaGreatDoor
open Go.ChangeShapes Go.WideShapes Go.ChangeAt Go.RowKit Go.Fl
open Go.Shelf

theorem ofL_size (l : List UInt8) : (ofL l).size = l.length := by unfold ofL; exact str_size l

theorem ofL_cat (a b : List UInt8) : ofL a ++ ofL b = ofL (a ++ b) := str_cat a b

theorem ofL_add {P : Program} (a b : List UInt8) (h : a.length + b.length ≤ 1000000) (W : World) : (Op.stringOp .add (ofL a) (ofL b)).run P W = .ok (.string (ofL (a ++ b))) W := by
  rw [run_string_add_sum W _ _ (by rw [ofL_size, ofL_size]; omega), ofL_cat]

set_option maxRecDepth 100000 in
theorem ifmtU16_any (u : Nat) (hu : u < 18446744073709551616) (w : World) (he : Env w) :
    Calls Tryz.prog 71 #[.int .u64 (u : Nat), .int .i64 16] w (HexSaid u w id) := by
  have HC := Lib.hid (fmt16_any u hu w he)
  clear hu
  go_enter Tryz.func71, Tryz.ntmps71
  go_wp2_with fail
  refine HC.out.mono ?_
  rintro e w' ⟨k, D, rfl, h1, h2, h3, h4⟩
  have H := Lib.hid (And.intro h1 (And.intro h2 (And.intro h3 h4)))
  clear h1 h2 h3 h4
  go_wp2_with fail
  go_ret
  exact ⟨k, D, rfl, H.out⟩

set_option maxRecDepth 100000 in
theorem fmtU16_any (u : Nat) (hu : u < 18446744073709551616) (w : World) (he : Env w) :
    Calls Tryz.prog 50 #[.int .u64 (u : Nat), .int .i64 16] w (HexSaid u w id) := by
  have HC := Lib.hid (ifmtU16_any u hu w he)
  clear hu
  go_enter Tryz.func50, Tryz.ntmps50
  go_wp2_with fail
  refine HC.out.mono ?_
  rintro e w' ⟨k, D, rfl, h1, h2, h3, h4⟩
  have H := Lib.hid (And.intro h1 (And.intro h2 (And.intro h3 h4)))
  clear h1 h2 h3 h4
  go_wp2_with fail
  go_ret
  exact ⟨k, D, rfl, H.out⟩

theorem repeat_48 : ∀ c : Nat, Lib.repeatL [(48 : UInt8)] c = List.replicate c 48
  | 0 => rfl
  | c + 1 => by
    unfold Lib.repeatL
    first
      | (rw [repeat_48 c]; rfl)
      | (simp [List.replicate_succ])

set_option maxHeartbeats 1000000 in
set_option maxRecDepth 100000 in
theorem lfloat_any (f : Nat) (hf : f < 18446744073709551616) (w : World) (he : Env w) :
    Calls Tryz.prog 36 #[.float .f64 f] w fun e w' => e = .returned (.string (ofL (fltL (canonN f)))) ∧ Below w.heap.size w w' := by
  have hcl := canonN_lt f hf
  have HF := Lib.hid (fmtU16_any (canonN f) hcl w he)
  have hb := call_bits (canonN f)
  clear hcl
  go_enter Tryz.func36, Tryz.ntmps36
  go_wp2_with fail
  refine (canon_any f _).mono ?_
  rintro e w' ⟨rfl, rfl⟩
  go_wp2_with fail
  refine HF.out.mono ?_
  rintro e w1 ⟨k, D, rfl, hk, hD, hx, hb1⟩
  have es : (16 : Int) - ((ofL D).size : Int) = (k : Int) := by rw [ofL_size]; omega
  have hsz : (ofL D).size ≤ 16 := by rw [ofL_size]; omega
  have HR := repeat_any ⟨#[48]⟩ k w1 (by show 1 * k ≤ _; omega) (by omega)
  rw [← es, show (⟨#[48]⟩ : ByteArray).data.toList = [48] from rfl, repeat_48] at HR
  have a1 := fun W => ofL_add (P := Tryz.prog) [102, 39] (List.replicate k 48) (by rw [List.length_replicate]; simp; omega) W
  have a2 := fun W => ofL_add (P := Tryz.prog) ([102, 39] ++ List.replicate k 48) D (by rw [List.length_append, List.length_replicate]; simp; omega) W
  have a3 := fun W => ofL_add (P := Tryz.prog) ([102, 39] ++ List.replicate k 48 ++ D) [39] (by rw [List.length_append, List.length_append, List.length_replicate]; simp; omega) W
  have hl : Hid ([102, 39] ++ List.replicate k 48 ++ D ++ [39] = fltL (canonN f)) := Lib.hid (by unfold fltL; rw [hx]; simp)
  obtain ⟨r1, hr1⟩ : ∃ r1, ofL ([102, 39] ++ List.replicate k 48) = r1 := ⟨_, rfl⟩
  obtain ⟨r2, hr2⟩ : ∃ r2, ofL ([102, 39] ++ List.replicate k 48 ++ D) = r2 := ⟨_, rfl⟩
  obtain ⟨r3, hr3⟩ : ∃ r3, ofL ([102, 39] ++ List.replicate k 48 ++ D ++ [39]) = r3 := ⟨_, rfl⟩
  obtain ⟨r0, hr0⟩ : ∃ r0, ofL (List.replicate k 48) = r0 := ⟨_, rfl⟩
  have HR : Hid (Calls Tryz.prog 52 #[.string ⟨#[48]⟩, .int .i64 (16 - ((ofL D).size : Int))] w1 fun e w' => e = .returned (.string r0) ∧ Below w1.heap.size w1 w') := Lib.hid (by rw [← hr0]; exact HR)
  rw [hr0, hr1] at a1
  rw [hr1, hr2] at a2
  rw [hr2, hr3] at a3
  obtain ⟨SD, hSD⟩ : ∃ SD, ofL D = SD := ⟨_, rfl⟩
  rw [hSD] at a2 HR es hsz
  rw [hSD]
  have H3 : Hid (r3 = ofL (fltL (canonN f))) := Lib.hid (by rw [← hr3, hl.out])
  have Hb1 := Lib.hid hb1
  unfold ofL at a1 a3
  clear hk hD hx hb1 hr0 hr1 hr2 hr3 hSD hl es
  go_wp2_with fail
  refine HR.out.mono ?_
  rintro e w2 ⟨rfl, hb2⟩
  go_wp2_with fail
  go_ret
  exact ⟨by rw [H3.out]; rfl, Hb1.out.trans (hb2.mono Hb1.out.size)⟩

theorem hexU_lt {c : UInt8} {d : Nat} (h : hexU c = some d) : d < 16 := by
  unfold hexU at h
  split at h
  · injection h with h; omega
  · split at h
    · injection h with h; omega
    · split at h
      · injection h with h; omega
      · cases h

theorem hexGo_lt : ∀ (l : List UInt8) (a b k : Nat), a < 16 ^ k → hexGo l a = some b → b < 16 ^ (k + l.length)
  | [], a, b, k, h, hg => by injection hg with hg; subst hg; exact h
  | c :: r, a, b, k, h, hg => by
    rw [hexGo] at hg
    cases hc : hexU c with
    | none => rw [hc] at hg; cases hg
    | some d =>
      rw [hc] at hg
      have := hexU_lt hc
      have h2 := hexGo_lt r (a * 16 + d) b (k + 1) (by rw [Nat.pow_succ]; omega) hg
      rw [List.length_cons]
      rw [show k + (r.length + 1) = k + 1 + r.length by omega]
      exact h2

set_option maxRecDepth 100000 in
theorem parseU_ok (t : ByteArray) (hs : t.size = 16) (b : Nat) (h : hexGo t.data.toList 0 = some b) (w : World) :
    Calls Tryz.prog 34 #[.string t, .int .i64 16, .int .i64 64] w fun e w' => e = .returned (.tuple #[.int .u64 (b : Nat), .nilIface]) ∧ Below w.heap.size w w' := by
  have hc := uint16_any t (by omega) (by omega) w
  rw [h] at hc
  have HC : Hid (Calls Tryz.prog 48 #[.string t, .int .i64 16, .int .i64 64] w fun e w' => e = .returned (.tuple #[.int .u64 (b : Nat), .nilIface]) ∧ Below w.heap.size w w') := Lib.hid hc
  clear hc h hs
  go_enter Tryz.func34, Tryz.ntmps34
  go_wp2_with fail
  refine HC.out.mono ?_
  rintro e w1 ⟨rfl, hb1⟩
  go_wp2_with fail
  go_ret2
  exact ⟨rfl, hb1⟩

theorem toErr_any (fn s : ByteArray) (base bts : Int) (w : World) (hlim : s.size ≤ 1000000) (he : Env w) :
    Calls Tryz.prog 49 #[.string fn, .string s, .int .i64 base, .int .i64 bts, .iface 100 (.int .i64 2)] w fun e w' => ∃ t a, e = .returned (.iface t (.pointer (some a))) ∧ Below w.heap.size w w' := by
  obtain ⟨tp, p, hv⟩ := he.syn
  exact (Any.strconv_toError_syntax toErrorA fn s base bts (.iface tp p) w (by omega) (World.var?_cell (by kernel_rfl) hv 0) (.inr ⟨tp, p, rfl⟩)).mono fun _ _ ⟨N, h1, _, _, h2⟩ => ⟨_, _, h1, h2⟩

set_option maxRecDepth 100000 in
theorem parseU_bad (t : ByteArray) (hs : t.size = 16) (h : hexGo t.data.toList 0 = none) (w : World) (he : Env w) :
    Calls Tryz.prog 34 #[.string t, .int .i64 16, .int .i64 64] w fun e w' => ∃ T a, e = .returned (.tuple #[.int .u64 0, .iface T (.pointer (some a))]) ∧ Below w.heap.size w w' := by
  have hc := uint16_any t (by omega) (by omega) w
  rw [h] at hc
  have HC : Hid (Calls Tryz.prog 48 #[.string t, .int .i64 16, .int .i64 64] w fun e w' => e = .returned (.tuple #[.int .u64 0, .iface 100 (.int .i64 2)]) ∧ Below w.heap.size w w') := Lib.hid hc
  have He := Lib.hid (fun W (h : Below w.heap.size w W) => toErr_any ⟨#[80, 97, 114, 115, 101, 85, 105, 110, 116]⟩ t 16 64 W (by omega) (he.on h))
  clear hc h hs
  go_enter Tryz.func34, Tryz.ntmps34
  go_wp2_with fail
  refine HC.out.mono ?_
  rintro e w1 ⟨rfl, hb1⟩
  have Hb1 := Lib.hid hb1; clear hb1
  go_wp2_with fail
  refine (He.out _ Hb1.out).mono ?_
  rintro e w2 ⟨T, a, rfl, hb2⟩
  have Hb2 := Lib.hid hb2; clear hb2
  go_wp2_with fail
  go_ret2
  exact ⟨T, a, rfl, Hb1.out.trans (Hb2.out.mono Hb1.out.size)⟩

theorem mid_list (S : ByteArray) (a b : Nat) : (S.extract a b).data.toList = (S.data.toList.take b).drop a := by
  rw [ByteArray.data_extract]
  simp only [Array.toList_extract, List.extract, List.drop_take]

set_option maxHeartbeats 4000000 in
set_option maxRecDepth 100000 in
theorem readFloat_any (S : ByteArray) (w : World) (hs : S.size ≤ 100000) (he : Env w) :
    Calls Tryz.prog 22 #[.string S] w fun e w' => e = .returned (rdV (fltO canonN S.data.toList)) ∧ Below w.heap.size w w' := by
  have hz0 := wbox_start w
  have hb0 : Below w.heap.size w (w.alloc (.cells #[.int .i64 0, .string ⟨#[]⟩, .int .i64 0, .float .f64 0, .int .i64 0] 56)) := (Below.refl _ _).alloc (Nat.le_refl _) _
  obtain ⟨W0, hW0⟩ : ∃ W0, (w.alloc (.cells #[.int .i64 0, .string ⟨#[]⟩, .int .i64 0, .float .f64 0, .int .i64 0] 56)) = W0 := ⟨_, rfl⟩
  rw [hW0] at hz0 hb0
  have He := Lib.hid (he.on hb0)
  have Hz0 := Lib.hid hz0; have Hb0 := Lib.hid hb0
  clear hz0 hb0
  by_cases hsh : S.size < 19
  · have d19 : decide ((S.size : Int) < 19) = true := by rw [decide_eq_true_eq]; omega
    have HT : Hid (fltO canonN S.data.toList = none) := Lib.hid (by unfold fltO; rw [len_list, if_pos hsh])
    clear hsh
    go_enter Tryz.func22, Tryz.ntmps22
    go_wp2_with fail
    have hz0 := Hz0.out
    have hb0 := Hb0.out
    refine (none_any _).mono ?_
    rintro e wz ⟨rfl, hbz⟩
    have hzz : WZero wz w.heap.size := Blk.below hz0 hbz hz0.lt
    have d0 : wz.frozen? ⟨w.heap.size, 0, none⟩ = false := hzz.frozen 0
    have d1 : wz.frozen? ⟨w.heap.size, 1, none⟩ = false := hzz.frozen 1
    have d2 : wz.frozen? ⟨w.heap.size, 2, none⟩ = false := hzz.frozen 2
    have d3 : wz.frozen? ⟨w.heap.size, 3, none⟩ = false := hzz.frozen 3
    have d4 : wz.frozen? ⟨w.heap.size, 4, none⟩ = false := hzz.frozen 4
    have c0 : wz.cell? ⟨w.heap.size, 0, none⟩ = some (.int .i64 0) := (hzz.cell 0).trans rfl
    have c1 : wz.cell? ⟨w.heap.size, 1, none⟩ = some (.string ⟨#[]⟩) := (hzz.cell 1).trans rfl
    have c2 : wz.cell? ⟨w.heap.size, 2, none⟩ = some (.int .i64 0) := (hzz.cell 2).trans rfl
    have c3 : wz.cell? ⟨w.heap.size, 3, none⟩ = some (.float .f64 0) := (hzz.cell 3).trans rfl
    have c4 : wz.cell? ⟨w.heap.size, 4, none⟩ = some (.int .i64 0) := (hzz.cell 4).trans rfl
    have HF := Lib.hid (set5_load hzz (by simp) (.int .i64 0) (.string ⟨#[]⟩) (.int .i64 0) (.float .f64 0) (.int .i64 0))
    have HB := Lib.hid (hb0.trans (hbz.mono hb0.size))
    clear hzz hbz hz0 hb0
    go_wp2_with fail
    obtain ⟨f0, f1, f2, f3, f4⟩ := HF.out
    exact bodyPost_ret (v := .tuple #[.agg #[.int .i64 0, .string ⟨#[]⟩, .int .i64 0, .float .f64 0, .int .i64 0], .int .i64 0]) (by simp [results, Tryz.results22, go_sem, f0, f1, f2, f3, f4]) rfl
      ⟨by rw [HT.out]; rfl, set5_below HB.out (Nat.le_refl _) _ _ _ _ _⟩
  · have d19 : decide ((S.size : Int) < 19) = false := by rw [decide_eq_false_iff_not]; omega
    have hsz : (S.extract 2 18).size = 16 := by rw [ByteArray.size_extract]; omega
    have i18 : (18 : Int) ≤ (S.size : Int) := by omega
    have i19 : (19 : Int) ≤ (S.size : Int) := by omega
    have hx := mid_list S 2 18
    cases hg : hexGo (S.extract 2 18).data.toList 0 with
    | none =>
      have HT : Hid (fltO canonN S.data.toList = none) := Lib.hid (by unfold fltO; rw [len_list, if_neg hsh, ← hx, hg])
      have HP := Lib.hid (parseU_bad (S.extract 2 18) hsz hg W0 He.out)
      have hfr := call_from 0
      clear hsh hx hg hsz
      go_enter Tryz.func22, Tryz.ntmps22
      go_wp2_with fail
      refine HP.out.mono ?_
      rintro e w1 ⟨T, a, rfl, hb1⟩
      have hz0 : WZero w1 w.heap.size := Blk.below Hz0.out hb1 Hz0.out.lt
      have hb0 := Hb0.out.trans (hb1.mono Hb0.out.size)
      have Hz1 := Lib.hid hz0; have Hb1 := Lib.hid hb0
      clear hz0 hb0 hb1
      go_wp2_with fail
      go_quiet (fail)
      go_wp2_with fail
      have hz0 : WZero (w1.drewN nq) w.heap.size := Hz1.out
      have hb0 : Below w.heap.size w (w1.drewN nq) := Hb1.out.trans ((drewN_below w1 nq).mono Hb1.out.size)
      refine (none_any _).mono ?_
      rintro e wz ⟨rfl, hbz⟩
      have hzz : WZero wz w.heap.size := Blk.below hz0 hbz hz0.lt
      have d0 : wz.frozen? ⟨w.heap.size, 0, none⟩ = false := hzz.frozen 0
      have d1 : wz.frozen? ⟨w.heap.size, 1, none⟩ = false := hzz.frozen 1
      have d2 : wz.frozen? ⟨w.heap.size, 2, none⟩ = false := hzz.frozen 2
      have d3 : wz.frozen? ⟨w.heap.size, 3, none⟩ = false := hzz.frozen 3
      have d4 : wz.frozen? ⟨w.heap.size, 4, none⟩ = false := hzz.frozen 4
      have c0 : wz.cell? ⟨w.heap.size, 0, none⟩ = some (.int .i64 0) := (hzz.cell 0).trans rfl
      have c1 : wz.cell? ⟨w.heap.size, 1, none⟩ = some (.string ⟨#[]⟩) := (hzz.cell 1).trans rfl
      have c2 : wz.cell? ⟨w.heap.size, 2, none⟩ = some (.int .i64 0) := (hzz.cell 2).trans rfl
      have c3 : wz.cell? ⟨w.heap.size, 3, none⟩ = some (.float .f64 0) := (hzz.cell 3).trans rfl
      have c4 : wz.cell? ⟨w.heap.size, 4, none⟩ = some (.int .i64 0) := (hzz.cell 4).trans rfl
      have HF := Lib.hid (set5_load hzz (by simp) (.int .i64 0) (.string ⟨#[]⟩) (.int .i64 0) (.float .f64 0) (.int .i64 0))
      have HB := Lib.hid (hb0.trans (hbz.mono hb0.size))
      clear hzz hbz hz0 hb0
      go_wp2_with fail
      obtain ⟨f0, f1, f2, f3, f4⟩ := HF.out
      exact bodyPost_ret (v := .tuple #[.agg #[.int .i64 0, .string ⟨#[]⟩, .int .i64 0, .float .f64 0, .int .i64 0], .int .i64 0]) (by simp [results, Tryz.results22, go_sem, f0, f1, f2, f3, f4]) rfl
        ⟨by rw [HT.out]; rfl, set5_below HB.out (Nat.le_refl _) _ _ _ _ _⟩
    | some b =>
      have hb64 : b < 18446744073709551616 := by
        have := hexGo_lt _ 0 b 0 (by decide) hg
        rw [len_list, hsz] at this
        exact this
      have HP := Lib.hid (parseU_ok (S.extract 2 18) hsz b hg W0)
      have hfr := call_from (b : Int)
      rw [Int.toNat_natCast] at hfr
      have HN := Lib.hid (fun W (h : Env W) => lfloat_any b hb64 W h)
      by_cases hv : fltL (canonN b) = S.data.toList.take 19
      · have HT : Hid (fltO canonN S.data.toList = some (⟨3, S.extract 0 19, 0, b, 0⟩, 19)) := Lib.hid (by unfold fltO; rw [len_list, if_neg hsh, ← hx, hg]; simp only []; rw [if_pos hv, take_list])
        have hne : ((ofL (fltL (canonN b))).toList == (S.extract 0 19).toList) = true := by rw [same_text, take_list, decide_eq_true]; exact hv
        clear hsh hx hg hsz hb64 hv
        go_enter Tryz.func22, Tryz.ntmps22
        go_wp2_with fail
        refine HP.out.mono ?_
        rintro e w1 ⟨rfl, hb1⟩
        have He1 := Lib.hid (He.out.on hb1)
        have Hbp := Lib.hid hb1; clear hb1
        go_upto_region 5 with fail
        go_cut [29] from 21 to 29 (fun b wx => b = .bool false ∧ Below w1.heap.size w1 wx)
        case first =>
          go_region_with ((go_at_call 36; refine (HN.out _ (by first | exact He1.out | exact He1.out.on ((Below.refl _ _).drew))).mono ?_; rintro e w2 ⟨rfl, hb2⟩))
          all_goals (go_wp2_with fail; go_meet; exact ⟨rfl, by first | exact hb2 | exact (Below.refl _ _).drew.trans hb2⟩)
        case rest =>
          obtain ⟨rfl, hb2⟩ := hcut
          have hz1 : WZero w1 w.heap.size := Blk.below Hz0.out Hbp.out Hz0.out.lt
          have hz0 : WZero _ w.heap.size := Blk.below hz1 hb2 hz1.lt
          have hb0 := (Hb0.out.trans (Hbp.out.mono Hb0.out.size)).trans (hb2.mono (Nat.le_trans Hb0.out.size Hbp.out.size))
          clear hz1
          rename World => wx
          have d0 : wx.frozen? ⟨w.heap.size, 0, none⟩ = false := hz0.frozen 0
          have d1 : wx.frozen? ⟨w.heap.size, 1, none⟩ = false := hz0.frozen 1
          have d2 : wx.frozen? ⟨w.heap.size, 2, none⟩ = false := hz0.frozen 2
          have d3 : wx.frozen? ⟨w.heap.size, 3, none⟩ = false := hz0.frozen 3
          have d4 : wx.frozen? ⟨w.heap.size, 4, none⟩ = false := hz0.frozen 4
          have c0 : wx.cell? ⟨w.heap.size, 0, none⟩ = some (.int .i64 0) := (hz0.cell 0).trans rfl
          have c1 : wx.cell? ⟨w.heap.size, 1, none⟩ = some (.string ⟨#[]⟩) := (hz0.cell 1).trans rfl
          have c2 : wx.cell? ⟨w.heap.size, 2, none⟩ = some (.int .i64 0) := (hz0.cell 2).trans rfl
          have c3 : wx.cell? ⟨w.heap.size, 3, none⟩ = some (.float .f64 0) := (hz0.cell 3).trans rfl
          have c4 : wx.cell? ⟨w.heap.size, 4, none⟩ = some (.int .i64 0) := (hz0.cell 4).trans rfl
          have HF := Lib.hid (set5_load hz0 (by simp) (.int .i64 3) (.string (S.extract 0 19)) (.int .i64 0) (.float .f64 b) (.int .i64 0))
          have HB := Lib.hid hb0
          clear hz0 hb0
          go_wp2_with fail
          obtain ⟨f0, f1, f2, f3, f4⟩ := HF.out
          exact bodyPost_ret (v := .tuple #[.agg #[.int .i64 3, .string (S.extract 0 19), .int .i64 0, .float .f64 b, .int .i64 0], .int .i64 (19 : Nat)]) (by simp [results, Tryz.results22, go_sem, f0, f1, f2, f3, f4]) rfl
            ⟨by rw [HT.out]; rfl, set5_below HB.out (Nat.le_refl _) _ _ _ _ _⟩
      · have HT : Hid (fltO canonN S.data.toList = none) := Lib.hid (by unfold fltO; rw [len_list, if_neg hsh, ← hx, hg]; simp only []; rw [if_neg hv])
        have hne : ((ofL (fltL (canonN b))).toList == (S.extract 0 19).toList) = false := by rw [same_text, take_list, decide_eq_false]; exact hv
        clear hsh hx hg hsz hb64 hv
        go_enter Tryz.func22, Tryz.ntmps22
        go_wp2_with fail
        refine HP.out.mono ?_
        rintro e w1 ⟨rfl, hb1⟩
        have He1 := Lib.hid (He.out.on hb1)
        have Hbp := Lib.hid hb1; clear hb1
        go_upto_region 5 with fail
        go_cut [29] from 21 to 29 (fun b wx => b = .bool true ∧ Below w1.heap.size w1 wx)
        case first =>
          go_region_with ((go_at_call 36; refine (HN.out _ (by first | exact He1.out | exact He1.out.on ((Below.refl _ _).drew))).mono ?_; rintro e w2 ⟨rfl, hb2⟩))
          all_goals (go_wp2_with fail; go_meet; exact ⟨rfl, by first | exact hb2 | exact (Below.refl _ _).drew.trans hb2⟩)
        case rest =>
          obtain ⟨rfl, hb2⟩ := hcut
          have hz1 : WZero w1 w.heap.size := Blk.below Hz0.out Hbp.out Hz0.out.lt
          have hz0 : WZero _ w.heap.size := Blk.below hz1 hb2 hz1.lt
          have hb0 := (Hb0.out.trans (Hbp.out.mono Hb0.out.size)).trans (hb2.mono (Nat.le_trans Hb0.out.size Hbp.out.size))
          clear hz1
          go_wp2_with fail
          refine (none_any _).mono ?_
          rintro e wz ⟨rfl, hbz⟩
          have hzz : WZero wz w.heap.size := Blk.below hz0 hbz hz0.lt
          have d0 : wz.frozen? ⟨w.heap.size, 0, none⟩ = false := hzz.frozen 0
          have d1 : wz.frozen? ⟨w.heap.size, 1, none⟩ = false := hzz.frozen 1
          have d2 : wz.frozen? ⟨w.heap.size, 2, none⟩ = false := hzz.frozen 2
          have d3 : wz.frozen? ⟨w.heap.size, 3, none⟩ = false := hzz.frozen 3
          have d4 : wz.frozen? ⟨w.heap.size, 4, none⟩ = false := hzz.frozen 4
          have c0 : wz.cell? ⟨w.heap.size, 0, none⟩ = some (.int .i64 0) := (hzz.cell 0).trans rfl
          have c1 : wz.cell? ⟨w.heap.size, 1, none⟩ = some (.string ⟨#[]⟩) := (hzz.cell 1).trans rfl
          have c2 : wz.cell? ⟨w.heap.size, 2, none⟩ = some (.int .i64 0) := (hzz.cell 2).trans rfl
          have c3 : wz.cell? ⟨w.heap.size, 3, none⟩ = some (.float .f64 0) := (hzz.cell 3).trans rfl
          have c4 : wz.cell? ⟨w.heap.size, 4, none⟩ = some (.int .i64 0) := (hzz.cell 4).trans rfl
          have HF := Lib.hid (set5_load hzz (by simp) (.int .i64 0) (.string ⟨#[]⟩) (.int .i64 0) (.float .f64 0) (.int .i64 0))
          have HB := Lib.hid (hb0.trans (hbz.mono hb0.size))
          clear hzz hbz hz0 hb0
          go_wp2_with fail
          obtain ⟨f0, f1, f2, f3, f4⟩ := HF.out
          exact bodyPost_ret (v := .tuple #[.agg #[.int .i64 0, .string ⟨#[]⟩, .int .i64 0, .float .f64 0, .int .i64 0], .int .i64 0]) (by simp [results, Tryz.results22, go_sem, f0, f1, f2, f3, f4]) rfl
            ⟨by rw [HT.out]; rfl, set5_below HB.out (Nat.le_refl _) _ _ _ _ _⟩

end Go.Proofs.YtnehbpfgdeilhaaGreatDoor
