/- lex.read -/
import Derived.Test.YtnehbpfgdeilhaaGreatDoorLxF
namespace Go.Proofs.YtnehbpfgdeilhaaGreatDoor
open Go.ChangeShapes Go.WideShapes Go.ChangeAt Go.RowKit Go.Fl
open Go.Shelf

theorem rdV_open (o : Option (Wd × Nat)) : ∃ (k : Int) (s : ByteArray) (n : Int) (f a m : Nat), rdV o = .tuple #[.agg #[.int .i64 k, .string s, .int .i64 n, .float .f64 f, .int .i64 (a : Nat)], .int .i64 (m : Nat)] := by
  cases o with
  | none => exact ⟨0, ⟨#[]⟩, 0, 0, 0, 0, rfl⟩
  | some xn => exact ⟨xn.1.k, xn.1.s, xn.1.n, xn.1.f, xn.1.at_, xn.2, rfl⟩

def sgns : ByteArray := ⟨#[46, 40, 41, 44, 91, 93]⟩

theorem sgn_fin : ∀ n : Fin 256, decide (0 ≤ Lib.indexByte sgns.data.toList (UInt8.ofNat n.val)) = sgnW (UInt8.ofNat n.val) := by decide +kernel

theorem sgn_index (c : UInt8) : decide (0 ≤ Lib.indexByte sgns.data.toList c) = sgnW c := by
  have := sgn_fin ⟨c.toNat, c.toNat_lt⟩
  simpa using this

set_option maxHeartbeats 4000000 in
set_option maxRecDepth 100000 in
theorem read_any (S : ByteArray) (w : World) (h : 0 < S.size) (hs : S.size ≤ 100000) (he : Env w) :
    Calls Tryz.prog 14 #[.string S] w fun e w' => e = .returned (rdV (readO canonN S.data.toList)) ∧ Below w.heap.size w w' := by
  have hz0 := wbox_start w
  have hb0 : Below w.heap.size w (w.alloc (.cells #[.int .i64 0, .string ⟨#[]⟩, .int .i64 0, .float .f64 0, .int .i64 0] 56)) := (Below.refl _ _).alloc (Nat.le_refl _) _
  obtain ⟨W0, hW0⟩ : ∃ W0, (w.alloc (.cells #[.int .i64 0, .string ⟨#[]⟩, .int .i64 0, .float .f64 0, .int .i64 0] 56)) = W0 := ⟨_, rfl⟩
  rw [hW0] at hz0 hb0
  have He := Lib.hid (he.on hb0)
  have Hz0 := Lib.hid hz0; have Hb0 := Lib.hid hb0
  clear hz0 hb0
  have HP := Lib.hid (prefix_any S ⟨#[102, 39]⟩ W0)
  have hlist := list_one S h
  cases hp : Lib.hasPrefix S.data.toList (⟨#[102, 39]⟩ : ByteArray).data.toList
  · have hp2 : ([102, 39] : List UInt8).isPrefixOf (S[0] :: S.data.toList.drop 1) = false := by rw [← hlist]; exact hp
    by_cases hq : S[0] = 39
    · have e1 : ((S[0].toNat : Int) == 39) = true := by rw [hq]; rfl
      have hro : readO canonN S.data.toList = txtO S.data.toList := by
        rw [hlist]; unfold readO; simp only []; rw [if_neg (by rw [hp2]; simp), if_pos hq]

      obtain ⟨k, s, n, f, a, m, ho⟩ := rdV_open (txtO S.data.toList)
      have HC := Lib.hid (readText_any S W0 h hs)
      rw [ho] at HC
      have HT : Hid (rdV (readO canonN S.data.toList) = .tuple #[.agg #[.int .i64 k, .string s, .int .i64 n, .float .f64 f, .int .i64 (a : Nat)], .int .i64 (m : Nat)]) := Lib.hid (by rw [hro, ho])
      clear ho hro hp2 hlist hq
      go_enter Tryz.func14, Tryz.ntmps14
      go_wp2_with fail
      refine HP.out.mono ?_
      rintro e w' ⟨rfl, rfl⟩
      rw [hp]
      go_wp2_with fail
      refine HC.out.mono ?_
      rintro e w1 ⟨rfl, hb1⟩
      have hz0 : WZero w1 w.heap.size := Blk.below Hz0.out hb1 Hz0.out.lt
      have hb0 := Hb0.out.trans (hb1.mono Hb0.out.size)
      clear hb1
      have d0 : w1.frozen? ⟨w.heap.size, 0, none⟩ = false := hz0.frozen 0
      have d1 : w1.frozen? ⟨w.heap.size, 1, none⟩ = false := hz0.frozen 1
      have d2 : w1.frozen? ⟨w.heap.size, 2, none⟩ = false := hz0.frozen 2
      have d3 : w1.frozen? ⟨w.heap.size, 3, none⟩ = false := hz0.frozen 3
      have d4 : w1.frozen? ⟨w.heap.size, 4, none⟩ = false := hz0.frozen 4
      have c0 : w1.cell? ⟨w.heap.size, 0, none⟩ = some (.int .i64 0) := (hz0.cell 0).trans rfl
      have c1 : w1.cell? ⟨w.heap.size, 1, none⟩ = some (.string ⟨#[]⟩) := (hz0.cell 1).trans rfl
      have c2 : w1.cell? ⟨w.heap.size, 2, none⟩ = some (.int .i64 0) := (hz0.cell 2).trans rfl
      have c3 : w1.cell? ⟨w.heap.size, 3, none⟩ = some (.float .f64 0) := (hz0.cell 3).trans rfl
      have c4 : w1.cell? ⟨w.heap.size, 4, none⟩ = some (.int .i64 0) := (hz0.cell 4).trans rfl
      have HF := Lib.hid (set5_load hz0 (by simp) (.int .i64 k) (.string s) (.int .i64 n) (.float .f64 f) (.int .i64 (a : Nat)))
      have HB := Lib.hid hb0
      clear hz0 hb0
      go_wp2_with fail
      obtain ⟨f0, f1, f2, f3, f4⟩ := HF.out
      exact bodyPost_ret (v := .tuple #[.agg #[.int .i64 k, .string s, .int .i64 n, .float .f64 f, .int .i64 (a : Nat)], .int .i64 (m : Nat)]) (by simp [results, Tryz.results14, go_sem, f0, f1, f2, f3, f4]) rfl
        ⟨by rw [HT.out], set5_below HB.out (Nat.le_refl _) _ _ _ _ _⟩
    · have e1 : ((S[0].toNat : Int) == 39) = false := by have := u8_ne (k := 39) hq; rw [beq_eq_false_iff_ne]; omega
      have HD := Lib.hid (digit_any S[0] W0)
      by_cases hm : S[0] = 45
      · have e2 : ((S[0].toNat : Int) == 45) = true := by rw [hm]; rfl
        have hro : readO canonN S.data.toList = numO S.data.toList := by
          rw [hlist]; unfold readO; simp only []; rw [if_neg (by rw [hp2]; simp), if_neg hq, if_pos (.inl hm)]
        obtain ⟨k, s, n, f, a, m, ho⟩ := rdV_open (numO S.data.toList)
        have HC := Lib.hid (readNumber_any S W0 h hs He.out)
        rw [ho] at HC
        have HT : Hid (rdV (readO canonN S.data.toList) = .tuple #[.agg #[.int .i64 k, .string s, .int .i64 n, .float .f64 f, .int .i64 (a : Nat)], .int .i64 (m : Nat)]) := Lib.hid (by rw [hro, ho])
        clear ho hro hp2 hlist hq hm
        go_enter Tryz.func14, Tryz.ntmps14
        go_wp2_with fail
        refine HP.out.mono ?_
        rintro e w' ⟨rfl, rfl⟩
        rw [hp]
        go_wp2_with fail
        refine HC.out.mono ?_
        rintro e w1 ⟨rfl, hb1⟩
        have hz0 : WZero w1 w.heap.size := Blk.below Hz0.out hb1 Hz0.out.lt
        have hb0 := Hb0.out.trans (hb1.mono Hb0.out.size)
        clear hb1
        have d0 : w1.frozen? ⟨w.heap.size, 0, none⟩ = false := hz0.frozen 0
        have d1 : w1.frozen? ⟨w.heap.size, 1, none⟩ = false := hz0.frozen 1
        have d2 : w1.frozen? ⟨w.heap.size, 2, none⟩ = false := hz0.frozen 2
        have d3 : w1.frozen? ⟨w.heap.size, 3, none⟩ = false := hz0.frozen 3
        have d4 : w1.frozen? ⟨w.heap.size, 4, none⟩ = false := hz0.frozen 4
        have c0 : w1.cell? ⟨w.heap.size, 0, none⟩ = some (.int .i64 0) := (hz0.cell 0).trans rfl
        have c1 : w1.cell? ⟨w.heap.size, 1, none⟩ = some (.string ⟨#[]⟩) := (hz0.cell 1).trans rfl
        have c2 : w1.cell? ⟨w.heap.size, 2, none⟩ = some (.int .i64 0) := (hz0.cell 2).trans rfl
        have c3 : w1.cell? ⟨w.heap.size, 3, none⟩ = some (.float .f64 0) := (hz0.cell 3).trans rfl
        have c4 : w1.cell? ⟨w.heap.size, 4, none⟩ = some (.int .i64 0) := (hz0.cell 4).trans rfl
        have HF := Lib.hid (set5_load hz0 (by simp) (.int .i64 k) (.string s) (.int .i64 n) (.float .f64 f) (.int .i64 (a : Nat)))
        have HB := Lib.hid hb0
        clear hz0 hb0
        go_wp2_with fail
        obtain ⟨f0, f1, f2, f3, f4⟩ := HF.out
        exact bodyPost_ret (v := .tuple #[.agg #[.int .i64 k, .string s, .int .i64 n, .float .f64 f, .int .i64 (a : Nat)], .int .i64 (m : Nat)]) (by simp [results, Tryz.results14, go_sem, f0, f1, f2, f3, f4]) rfl
          ⟨by rw [HT.out], set5_below HB.out (Nat.le_refl _) _ _ _ _ _⟩
      · have e2 : ((S[0].toNat : Int) == 45) = false := by have := u8_ne (k := 45) hm; rw [beq_eq_false_iff_ne]; omega
        cases hd : digB S[0]
        · have HI := index_any sgns S[0] W0
          have hsg := sgn_index S[0]
          generalize Lib.indexByte sgns.data.toList S[0] = ix at HI hsg
          unfold sgns at HI
          have HI := Lib.hid HI
          cases hs5 : sgnW S[0]
          · rw [hs5] at hsg
            have hro : readO canonN S.data.toList = nameO S.data.toList := by
              rw [hlist]; unfold readO; simp only []; rw [if_neg (by rw [hp2]; simp), if_neg hq, if_neg (by rw [hd]; simp [hm]), if_neg (by rw [hs5]; simp)]
            obtain ⟨k, s, n, f, a, m, ho⟩ := rdV_open (nameO S.data.toList)
            have HC := Lib.hid (readName_any S W0 hs)
            rw [ho] at HC
            have HT : Hid (rdV (readO canonN S.data.toList) = .tuple #[.agg #[.int .i64 k, .string s, .int .i64 n, .float .f64 f, .int .i64 (a : Nat)], .int .i64 (m : Nat)]) := Lib.hid (by rw [hro, ho])
            clear ho hro hp2 hlist hq hm hs5
            go_enter Tryz.func14, Tryz.ntmps14
            go_wp2_with fail
            refine HP.out.mono ?_
            rintro e w' ⟨rfl, rfl⟩
            rw [hp]
            go_wp2_with fail
            refine HD.out.mono ?_
            rintro e w' ⟨rfl, rfl⟩
            rw [hd]
            go_wp2_with fail
            refine HI.out.mono ?_
            rintro e w' ⟨rfl, rfl⟩
            go_wp2_with fail
            refine HC.out.mono ?_
            rintro e w1 ⟨rfl, hb1⟩
            have hz0 : WZero w1 w.heap.size := Blk.below Hz0.out hb1 Hz0.out.lt
            have hb0 := Hb0.out.trans (hb1.mono Hb0.out.size)
            clear hb1
            have d0 : w1.frozen? ⟨w.heap.size, 0, none⟩ = false := hz0.frozen 0
            have d1 : w1.frozen? ⟨w.heap.size, 1, none⟩ = false := hz0.frozen 1
            have d2 : w1.frozen? ⟨w.heap.size, 2, none⟩ = false := hz0.frozen 2
            have d3 : w1.frozen? ⟨w.heap.size, 3, none⟩ = false := hz0.frozen 3
            have d4 : w1.frozen? ⟨w.heap.size, 4, none⟩ = false := hz0.frozen 4
            have c0 : w1.cell? ⟨w.heap.size, 0, none⟩ = some (.int .i64 0) := (hz0.cell 0).trans rfl
            have c1 : w1.cell? ⟨w.heap.size, 1, none⟩ = some (.string ⟨#[]⟩) := (hz0.cell 1).trans rfl
            have c2 : w1.cell? ⟨w.heap.size, 2, none⟩ = some (.int .i64 0) := (hz0.cell 2).trans rfl
            have c3 : w1.cell? ⟨w.heap.size, 3, none⟩ = some (.float .f64 0) := (hz0.cell 3).trans rfl
            have c4 : w1.cell? ⟨w.heap.size, 4, none⟩ = some (.int .i64 0) := (hz0.cell 4).trans rfl
            have HF := Lib.hid (set5_load hz0 (by simp) (.int .i64 k) (.string s) (.int .i64 n) (.float .f64 f) (.int .i64 (a : Nat)))
            have HB := Lib.hid hb0
            clear hz0 hb0
            go_wp2_with fail
            obtain ⟨f0, f1, f2, f3, f4⟩ := HF.out
            exact bodyPost_ret (v := .tuple #[.agg #[.int .i64 k, .string s, .int .i64 n, .float .f64 f, .int .i64 (a : Nat)], .int .i64 (m : Nat)]) (by simp [results, Tryz.results14, go_sem, f0, f1, f2, f3, f4]) rfl
              ⟨by rw [HT.out], set5_below HB.out (Nat.le_refl _) _ _ _ _ _⟩
          · rw [hs5] at hsg
            have hro : readO canonN S.data.toList = some (⟨5, S.extract 0 1, 0, 0, 0⟩, 1) := by
              have h1 : S.extract 0 1 = ofL [S[0]] := by rw [take_list, hlist]; rfl
              rw [h1, hlist]; unfold readO; simp only []; rw [if_neg (by rw [hp2]; simp), if_neg hq, if_neg (by rw [hd]; simp [hm]), if_pos hs5]
            have HT : Hid (readO canonN S.data.toList = some (⟨5, S.extract 0 1, 0, 0, 0⟩, 1)) := Lib.hid hro
            have i1 : (1 : Int) ≤ (S.size : Int) := by omega
            have hz0 := Hz0.out
            have hb0 := Hb0.out
            clear hro hp2 hlist hq hm hs5
            go_enter Tryz.func14, Tryz.ntmps14
            go_wp2_with fail
            refine HP.out.mono ?_
            rintro e w' ⟨rfl, rfl⟩
            rw [hp]
            have d0 : W0.frozen? ⟨w.heap.size, 0, none⟩ = false := hz0.frozen 0
            have d1 : W0.frozen? ⟨w.heap.size, 1, none⟩ = false := hz0.frozen 1
            have d2 : W0.frozen? ⟨w.heap.size, 2, none⟩ = false := hz0.frozen 2
            have d3 : W0.frozen? ⟨w.heap.size, 3, none⟩ = false := hz0.frozen 3
            have d4 : W0.frozen? ⟨w.heap.size, 4, none⟩ = false := hz0.frozen 4
            have c0 : W0.cell? ⟨w.heap.size, 0, none⟩ = some (.int .i64 0) := (hz0.cell 0).trans rfl
            have c1 : W0.cell? ⟨w.heap.size, 1, none⟩ = some (.string ⟨#[]⟩) := (hz0.cell 1).trans rfl
            have c2 : W0.cell? ⟨w.heap.size, 2, none⟩ = some (.int .i64 0) := (hz0.cell 2).trans rfl
            have c3 : W0.cell? ⟨w.heap.size, 3, none⟩ = some (.float .f64 0) := (hz0.cell 3).trans rfl
            have c4 : W0.cell? ⟨w.heap.size, 4, none⟩ = some (.int .i64 0) := (hz0.cell 4).trans rfl
            have HF := Lib.hid (set5_load hz0 (by simp) (.int .i64 5) (.string (S.extract 0 1)) (.int .i64 0) (.float .f64 0) (.int .i64 0))
            have HB := Lib.hid hb0
            clear hz0 hb0
            go_wp2_with fail
            refine HD.out.mono ?_
            rintro e w' ⟨rfl, rfl⟩
            rw [hd]
            go_wp2_with fail
            refine HI.out.mono ?_
            rintro e w' ⟨rfl, rfl⟩
            go_wp2_with fail
            obtain ⟨f0, f1, f2, f3, f4⟩ := HF.out
            exact bodyPost_ret (v := .tuple #[.agg #[.int .i64 5, .string (S.extract 0 1), .int .i64 0, .float .f64 0, .int .i64 0], .int .i64 (1 : Nat)]) (by simp [results, Tryz.results14, go_sem, f0, f1, f2, f3, f4]) rfl
              ⟨by rw [HT.out]; rfl, set5_below HB.out (Nat.le_refl _) _ _ _ _ _⟩
        · have hro : readO canonN S.data.toList = numO S.data.toList := by
            rw [hlist]; unfold readO; simp only []; rw [if_neg (by rw [hp2]; simp), if_neg hq, if_pos (.inr hd)]
          obtain ⟨k, s, n, f, a, m, ho⟩ := rdV_open (numO S.data.toList)
          have HC := Lib.hid (readNumber_any S W0 h hs He.out)
          rw [ho] at HC
          have HT : Hid (rdV (readO canonN S.data.toList) = .tuple #[.agg #[.int .i64 k, .string s, .int .i64 n, .float .f64 f, .int .i64 (a : Nat)], .int .i64 (m : Nat)]) := Lib.hid (by rw [hro, ho])
          clear ho hro hp2 hlist hq hm
          go_enter Tryz.func14, Tryz.ntmps14
          go_wp2_with fail
          refine HP.out.mono ?_
          rintro e w' ⟨rfl, rfl⟩
          rw [hp]
          go_wp2_with fail
          refine HD.out.mono ?_
          rintro e w' ⟨rfl, rfl⟩
          rw [hd]
          go_wp2_with fail
          refine HC.out.mono ?_
          rintro e w1 ⟨rfl, hb1⟩
          have hz0 : WZero w1 w.heap.size := Blk.below Hz0.out hb1 Hz0.out.lt
          have hb0 := Hb0.out.trans (hb1.mono Hb0.out.size)
          clear hb1
          have d0 : w1.frozen? ⟨w.heap.size, 0, none⟩ = false := hz0.frozen 0
          have d1 : w1.frozen? ⟨w.heap.size, 1, none⟩ = false := hz0.frozen 1
          have d2 : w1.frozen? ⟨w.heap.size, 2, none⟩ = false := hz0.frozen 2
          have d3 : w1.frozen? ⟨w.heap.size, 3, none⟩ = false := hz0.frozen 3
          have d4 : w1.frozen? ⟨w.heap.size, 4, none⟩ = false := hz0.frozen 4
          have c0 : w1.cell? ⟨w.heap.size, 0, none⟩ = some (.int .i64 0) := (hz0.cell 0).trans rfl
          have c1 : w1.cell? ⟨w.heap.size, 1, none⟩ = some (.string ⟨#[]⟩) := (hz0.cell 1).trans rfl
          have c2 : w1.cell? ⟨w.heap.size, 2, none⟩ = some (.int .i64 0) := (hz0.cell 2).trans rfl
          have c3 : w1.cell? ⟨w.heap.size, 3, none⟩ = some (.float .f64 0) := (hz0.cell 3).trans rfl
          have c4 : w1.cell? ⟨w.heap.size, 4, none⟩ = some (.int .i64 0) := (hz0.cell 4).trans rfl
          have HF := Lib.hid (set5_load hz0 (by simp) (.int .i64 k) (.string s) (.int .i64 n) (.float .f64 f) (.int .i64 (a : Nat)))
          have HB := Lib.hid hb0
          clear hz0 hb0
          go_wp2_with fail
          obtain ⟨f0, f1, f2, f3, f4⟩ := HF.out
          exact bodyPost_ret (v := .tuple #[.agg #[.int .i64 k, .string s, .int .i64 n, .float .f64 f, .int .i64 (a : Nat)], .int .i64 (m : Nat)]) (by simp [results, Tryz.results14, go_sem, f0, f1, f2, f3, f4]) rfl
            ⟨by rw [HT.out], set5_below HB.out (Nat.le_refl _) _ _ _ _ _⟩
  · have hp2 : ([102, 39] : List UInt8).isPrefixOf (S[0] :: S.data.toList.drop 1) = true := by rw [← hlist]; exact hp
    have hro : readO canonN S.data.toList = fltO canonN S.data.toList := by
      rw [hlist]; unfold readO; simp only []; rw [if_pos hp2]
    obtain ⟨k, s, n, f, a, m, ho⟩ := rdV_open (fltO canonN S.data.toList)
    have HC := Lib.hid (readFloat_any S W0 hs He.out)
    rw [ho] at HC
    have HT : Hid (rdV (readO canonN S.data.toList) = .tuple #[.agg #[.int .i64 k, .string s, .int .i64 n, .float .f64 f, .int .i64 (a : Nat)], .int .i64 (m : Nat)]) := Lib.hid (by rw [hro, ho])
    clear ho hro hp2 hlist
    go_enter Tryz.func14, Tryz.ntmps14
    go_wp2_with fail
    refine HP.out.mono ?_
    rintro e w' ⟨rfl, rfl⟩
    rw [hp]
    go_wp2_with fail
    refine HC.out.mono ?_
    rintro e w1 ⟨rfl, hb1⟩
    have hz0 : WZero w1 w.heap.size := Blk.below Hz0.out hb1 Hz0.out.lt
    have hb0 := Hb0.out.trans (hb1.mono Hb0.out.size)
    clear hb1
    have d0 : w1.frozen? ⟨w.heap.size, 0, none⟩ = false := hz0.frozen 0
    have d1 : w1.frozen? ⟨w.heap.size, 1, none⟩ = false := hz0.frozen 1
    have d2 : w1.frozen? ⟨w.heap.size, 2, none⟩ = false := hz0.frozen 2
    have d3 : w1.frozen? ⟨w.heap.size, 3, none⟩ = false := hz0.frozen 3
    have d4 : w1.frozen? ⟨w.heap.size, 4, none⟩ = false := hz0.frozen 4
    have c0 : w1.cell? ⟨w.heap.size, 0, none⟩ = some (.int .i64 0) := (hz0.cell 0).trans rfl
    have c1 : w1.cell? ⟨w.heap.size, 1, none⟩ = some (.string ⟨#[]⟩) := (hz0.cell 1).trans rfl
    have c2 : w1.cell? ⟨w.heap.size, 2, none⟩ = some (.int .i64 0) := (hz0.cell 2).trans rfl
    have c3 : w1.cell? ⟨w.heap.size, 3, none⟩ = some (.float .f64 0) := (hz0.cell 3).trans rfl
    have c4 : w1.cell? ⟨w.heap.size, 4, none⟩ = some (.int .i64 0) := (hz0.cell 4).trans rfl
    have HF := Lib.hid (set5_load hz0 (by simp) (.int .i64 k) (.string s) (.int .i64 n) (.float .f64 f) (.int .i64 (a : Nat)))
    have HB := Lib.hid hb0
    clear hz0 hb0
    go_wp2_with fail
    obtain ⟨f0, f1, f2, f3, f4⟩ := HF.out
    exact bodyPost_ret (v := .tuple #[.agg #[.int .i64 k, .string s, .int .i64 n, .float .f64 f, .int .i64 (a : Nat)], .int .i64 (m : Nat)]) (by simp [results, Tryz.results14, go_sem, f0, f1, f2, f3, f4]) rfl
      ⟨by rw [HT.out], set5_below HB.out (Nat.le_refl _) _ _ _ _ _⟩

end Go.Proofs.YtnehbpfgdeilhaaGreatDoor
