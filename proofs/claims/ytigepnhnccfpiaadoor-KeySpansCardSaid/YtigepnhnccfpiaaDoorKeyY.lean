/- the walk of KeyNames -/
import Derived.Test.YtigepnhnccfpiaaDoorKeyX
namespace Go.Proofs.YtigepnhnccfpiaaDoor
open Go.ChangeShapes Go.WideShapes Go.ChangeAt Go.RowKit Go.Fl

theorem cmp_names (x y : List UInt8) : cmpBs (nameL x) (nameL y) = cmpBs x y := by
  have := cmp_name x y [] []
  rw [List.append_nil, List.append_nil, show cmpBs ([] : List UInt8) [] = 0 from rfl, lex_zero] at this
  exact this

theorem name_less (x y : ByteArray) : Op.bytesLess (bstr (nameL x.data.toList)).toList (bstr (nameL y.data.toList)).toList = Op.bytesLess x.toList y.toList := by
  rw [less_bs, cmp_names, ← less_bs]; rfl

theorem name_same (x y : ByteArray) : ((bstr (nameL x.data.toList)).toList == (bstr (nameL y.data.toList)).toList) = (x.toList == y.toList) := by
  rw [same_bs, cmp_names, ← same_bs]; rfl

theorem name_apart (x y : ByteArray) (h : (x.toList == y.toList) = false) : (((bstr (nameL y.data.toList)).extract 0 (bstr (nameL x.data.toList)).size).toList == (bstr (nameL x.data.toList)).toList) = false := by
  refine apart_bs fun e => ?_
  have e2 : nameL x.data.toList ++ (nameL y.data.toList).drop (nameL x.data.toList).length = nameL y.data.toList ++ [] := by
    rw [List.append_nil]
    conv => rhs; rw [← List.take_append_drop (nameL x.data.toList).length (nameL y.data.toList), e]
  have := cmp_name x.data.toList y.data.toList ((nameL y.data.toList).drop (nameL x.data.toList).length) []
  rw [e2, cmpBs_self] at this
  have h0 : cmpBs x.data.toList y.data.toList = 0 := by
    unfold lex at this
    false_or_by_contra
    rename_i hne
    rw [if_neg hne] at this
    exact hne this.symm
  have h1 := same_bs x.data.toList y.data.toList
  rw [h0, bstr_of, bstr_of, h] at h1
  exact absurd h1 (by decide)

set_option maxHeartbeats 4000000 in
set_option maxRecDepth 100000 in
theorem keynames_law (a b : ByteArray) (w : World) (wa : a.size ≤ maxLen) (wb : b.size ≤ maxLen) (hM : Mx w.heap.size w) :
    Calls Tryd.prog 5 #[.string a, .string b] w fun e w' => e = .returned (.bool true) ∧ Below w.heap.size w w' := by
  unfold maxLen at wa wb
  have HM := Lib.hid hM; clear hM
  have hBw := Below.refl w.heap.size w
  by_cases ha : 300 < a.size
  · have da : decide ((300 : Int) < (a.size : Int)) = true := by rw [decide_eq_true_eq]; omega
    have ia : (300 : Int) ≤ (a.size : Int) := by omega
    obtain ⟨x, hx⟩ : ∃ x, a.extract 0 300 = x := ⟨_, rfl⟩
    have zx : x.size ≤ 300 := by rw [← hx, ByteArray.size_extract]; omega
    by_cases hb : 300 < b.size
    · have db : decide ((300 : Int) < (b.size : Int)) = true := by rw [decide_eq_true_eq]; omega
      have ib : (300 : Int) ≤ (b.size : Int) := by omega
      obtain ⟨y, hy⟩ : ∃ x, b.extract 0 300 = x := ⟨_, rfl⟩
      have zy : y.size ≤ 300 := by rw [← hy, ByteArray.size_extract]; omega
      clear ha hb
      have l1 := name_less x y
      have l2 := name_same x y
      have l3 := name_apart x y
      have cx := fun W (h : Mx W.heap.size W) => name_any x W (by omega) h
      have cy := fun W (h : Mx W.heap.size W) => name_any y W (by omega) h
      have rx := fun W => rname_any x W (by omega)
      have esx := esc_size x
      have esy := esc_size y
      have szx : (bstr (nameL x.data.toList)).size ≤ 1000 := by rw [bstr_size]; unfold nameL; simp only [List.length_append, List.length_cons, List.length_nil]; omega
      have szy : (bstr (nameL y.data.toList)).size ≤ 1000 := by rw [bstr_size]; unfold nameL; simp only [List.length_append, List.length_cons, List.length_nil]; omega
      clear esx esy
      generalize bstr (nameL x.data.toList) = X at *
      generalize bstr (nameL y.data.toList) = Y at *
      have HNx := Lib.hid (fun wn (h : Below w.heap.size w wn) => cx wn (HM.out.on h))
      have HNy := Lib.hid (fun wn (h : Below w.heap.size w wn) => cy wn (HM.out.on h))
      have HAw := Lib.hid (fun wn (h : Below w.heap.size w wn) => awake7_any wn (HM.out.on h))
      have HRx := Lib.hid rx
      have hss : (X.toList == X.toList) = true := by simp
      clear cx cy rx
      obtain ⟨p, hp⟩ : ∃ p, Op.bytesLess x.toList y.toList = p := ⟨_, rfl⟩
      obtain ⟨q, hq⟩ : ∃ q, (x.toList == y.toList) = q := ⟨_, rfl⟩
      rw [hp] at l1
      rw [hq] at l2 l3
      cases q
      · have l3 := l3 rfl
        have l3' : ((Y.extract 0 X.size).toList != X.toList) = true := by unfold bne; rw [l3]; rfl
        by_cases hgt : Y.size < X.size
        · have dgt : decide ((Y.size : Int) < (X.size : Int)) = true := by rw [decide_eq_true_eq]; omega
          clear hgt
          go_enter Tryd.func5, Tryd.ntmps5
          go_wp2_with fail
          refine (HNx.out _ hBw).mono ?_
          rintro e w1 ⟨rfl, hb1⟩
          go_wp2_with fail
          refine (HNy.out _ hb1).mono ?_
          rintro e w2 ⟨rfl, hb2⟩
          have hB2 := hb1.trans (hb2.mono hb1.size)
          go_wp2_with fail
          refine (HAw.out _ hB2).mono ?_
          rintro e w3 ⟨rfl, hb3⟩
          have hB3 := hB2.trans (hb3.mono hB2.size)
          go_wp2_with fail
          refine (HRx.out _).mono ?_
          rintro e w4 ⟨rfl, rfl⟩
          go_wp2_with fail
          all_goals
            go_ret
            exact ⟨rfl, hB3⟩
        · have dgt : decide ((Y.size : Int) < (X.size : Int)) = false := by rw [decide_eq_false_iff_not]; omega
          have i1 : (0 : Int) ≤ (X.size : Int) := by omega
          have i2 : (X.size : Int) ≤ (Y.size : Int) := by omega
          clear hgt
          go_enter Tryd.func5, Tryd.ntmps5
          go_wp2_with fail
          refine (HNx.out _ hBw).mono ?_
          rintro e w1 ⟨rfl, hb1⟩
          go_wp2_with fail
          refine (HNy.out _ hb1).mono ?_
          rintro e w2 ⟨rfl, hb2⟩
          have hB2 := hb1.trans (hb2.mono hb1.size)
          go_wp2_with fail
          refine (HAw.out _ hB2).mono ?_
          rintro e w3 ⟨rfl, hb3⟩
          have hB3 := hB2.trans (hb3.mono hB2.size)
          go_wp2_with fail
          refine (HRx.out _).mono ?_
          rintro e w4 ⟨rfl, rfl⟩
          go_wp2_with fail
          all_goals
            go_ret
            exact ⟨rfl, hB3⟩
      · clear l3
        go_enter Tryd.func5, Tryd.ntmps5
        go_wp2_with fail
        refine (HNx.out _ hBw).mono ?_
        rintro e w1 ⟨rfl, hb1⟩
        go_wp2_with fail
        refine (HNy.out _ hb1).mono ?_
        rintro e w2 ⟨rfl, hb2⟩
        have hB2 := hb1.trans (hb2.mono hb1.size)
        go_wp2_with fail
        refine (HAw.out _ hB2).mono ?_
        rintro e w3 ⟨rfl, hb3⟩
        have hB3 := hB2.trans (hb3.mono hB2.size)
        go_wp2_with fail
        refine (HRx.out _).mono ?_
        rintro e w4 ⟨rfl, rfl⟩
        go_wp2_with fail
        all_goals
          go_ret
          exact ⟨rfl, hB3⟩
    · have db : decide ((300 : Int) < (b.size : Int)) = false := by rw [decide_eq_false_iff_not]; omega
      have zb : b.size ≤ 300 := by omega
      clear ha hb
      have l1 := name_less x b
      have l2 := name_same x b
      have l3 := name_apart x b
      have cx := fun W (h : Mx W.heap.size W) => name_any x W (by omega) h
      have cy := fun W (h : Mx W.heap.size W) => name_any b W (by omega) h
      have rx := fun W => rname_any x W (by omega)
      have esx := esc_size x
      have esy := esc_size b
      have szx : (bstr (nameL x.data.toList)).size ≤ 1000 := by rw [bstr_size]; unfold nameL; simp only [List.length_append, List.length_cons, List.length_nil]; omega
      have szy : (bstr (nameL b.data.toList)).size ≤ 1000 := by rw [bstr_size]; unfold nameL; simp only [List.length_append, List.length_cons, List.length_nil]; omega
      clear esx esy
      generalize bstr (nameL x.data.toList) = X at *
      generalize bstr (nameL b.data.toList) = Y at *
      have HNx := Lib.hid (fun wn (h : Below w.heap.size w wn) => cx wn (HM.out.on h))
      have HNy := Lib.hid (fun wn (h : Below w.heap.size w wn) => cy wn (HM.out.on h))
      have HAw := Lib.hid (fun wn (h : Below w.heap.size w wn) => awake7_any wn (HM.out.on h))
      have HRx := Lib.hid rx
      have hss : (X.toList == X.toList) = true := by simp
      clear cx cy rx
      obtain ⟨p, hp⟩ : ∃ p, Op.bytesLess x.toList b.toList = p := ⟨_, rfl⟩
      obtain ⟨q, hq⟩ : ∃ q, (x.toList == b.toList) = q := ⟨_, rfl⟩
      rw [hp] at l1
      rw [hq] at l2 l3
      cases q
      · have l3 := l3 rfl
        have l3' : ((Y.extract 0 X.size).toList != X.toList) = true := by unfold bne; rw [l3]; rfl
        by_cases hgt : Y.size < X.size
        · have dgt : decide ((Y.size : Int) < (X.size : Int)) = true := by rw [decide_eq_true_eq]; omega
          clear hgt
          go_enter Tryd.func5, Tryd.ntmps5
          go_wp2_with fail
          refine (HNx.out _ hBw).mono ?_
          rintro e w1 ⟨rfl, hb1⟩
          go_wp2_with fail
          refine (HNy.out _ hb1).mono ?_
          rintro e w2 ⟨rfl, hb2⟩
          have hB2 := hb1.trans (hb2.mono hb1.size)
          go_wp2_with fail
          refine (HAw.out _ hB2).mono ?_
          rintro e w3 ⟨rfl, hb3⟩
          have hB3 := hB2.trans (hb3.mono hB2.size)
          go_wp2_with fail
          refine (HRx.out _).mono ?_
          rintro e w4 ⟨rfl, rfl⟩
          go_wp2_with fail
          all_goals
            go_ret
            exact ⟨rfl, hB3⟩
        · have dgt : decide ((Y.size : Int) < (X.size : Int)) = false := by rw [decide_eq_false_iff_not]; omega
          have i1 : (0 : Int) ≤ (X.size : Int) := by omega
          have i2 : (X.size : Int) ≤ (Y.size : Int) := by omega
          clear hgt
          go_enter Tryd.func5, Tryd.ntmps5
          go_wp2_with fail
          refine (HNx.out _ hBw).mono ?_
          rintro e w1 ⟨rfl, hb1⟩
          go_wp2_with fail
          refine (HNy.out _ hb1).mono ?_
          rintro e w2 ⟨rfl, hb2⟩
          have hB2 := hb1.trans (hb2.mono hb1.size)
          go_wp2_with fail
          refine (HAw.out _ hB2).mono ?_
          rintro e w3 ⟨rfl, hb3⟩
          have hB3 := hB2.trans (hb3.mono hB2.size)
          go_wp2_with fail
          refine (HRx.out _).mono ?_
          rintro e w4 ⟨rfl, rfl⟩
          go_wp2_with fail
          all_goals
            go_ret
            exact ⟨rfl, hB3⟩
      · clear l3
        go_enter Tryd.func5, Tryd.ntmps5
        go_wp2_with fail
        refine (HNx.out _ hBw).mono ?_
        rintro e w1 ⟨rfl, hb1⟩
        go_wp2_with fail
        refine (HNy.out _ hb1).mono ?_
        rintro e w2 ⟨rfl, hb2⟩
        have hB2 := hb1.trans (hb2.mono hb1.size)
        go_wp2_with fail
        refine (HAw.out _ hB2).mono ?_
        rintro e w3 ⟨rfl, hb3⟩
        have hB3 := hB2.trans (hb3.mono hB2.size)
        go_wp2_with fail
        refine (HRx.out _).mono ?_
        rintro e w4 ⟨rfl, rfl⟩
        go_wp2_with fail
        all_goals
          go_ret
          exact ⟨rfl, hB3⟩
  · have da : decide ((300 : Int) < (a.size : Int)) = false := by rw [decide_eq_false_iff_not]; omega
    have za : a.size ≤ 300 := by omega
    by_cases hb : 300 < b.size
    · have db : decide ((300 : Int) < (b.size : Int)) = true := by rw [decide_eq_true_eq]; omega
      have ib : (300 : Int) ≤ (b.size : Int) := by omega
      obtain ⟨y, hy⟩ : ∃ x, b.extract 0 300 = x := ⟨_, rfl⟩
      have zy : y.size ≤ 300 := by rw [← hy, ByteArray.size_extract]; omega
      clear ha hb
      have l1 := name_less a y
      have l2 := name_same a y
      have l3 := name_apart a y
      have cx := fun W (h : Mx W.heap.size W) => name_any a W (by omega) h
      have cy := fun W (h : Mx W.heap.size W) => name_any y W (by omega) h
      have rx := fun W => rname_any a W (by omega)
      have esx := esc_size a
      have esy := esc_size y
      have szx : (bstr (nameL a.data.toList)).size ≤ 1000 := by rw [bstr_size]; unfold nameL; simp only [List.length_append, List.length_cons, List.length_nil]; omega
      have szy : (bstr (nameL y.data.toList)).size ≤ 1000 := by rw [bstr_size]; unfold nameL; simp only [List.length_append, List.length_cons, List.length_nil]; omega
      clear esx esy
      generalize bstr (nameL a.data.toList) = X at *
      generalize bstr (nameL y.data.toList) = Y at *
      have HNx := Lib.hid (fun wn (h : Below w.heap.size w wn) => cx wn (HM.out.on h))
      have HNy := Lib.hid (fun wn (h : Below w.heap.size w wn) => cy wn (HM.out.on h))
      have HAw := Lib.hid (fun wn (h : Below w.heap.size w wn) => awake7_any wn (HM.out.on h))
      have HRx := Lib.hid rx
      have hss : (X.toList == X.toList) = true := by simp
      clear cx cy rx
      obtain ⟨p, hp⟩ : ∃ p, Op.bytesLess a.toList y.toList = p := ⟨_, rfl⟩
      obtain ⟨q, hq⟩ : ∃ q, (a.toList == y.toList) = q := ⟨_, rfl⟩
      rw [hp] at l1
      rw [hq] at l2 l3
      cases q
      · have l3 := l3 rfl
        have l3' : ((Y.extract 0 X.size).toList != X.toList) = true := by unfold bne; rw [l3]; rfl
        by_cases hgt : Y.size < X.size
        · have dgt : decide ((Y.size : Int) < (X.size : Int)) = true := by rw [decide_eq_true_eq]; omega
          clear hgt
          go_enter Tryd.func5, Tryd.ntmps5
          go_wp2_with fail
          refine (HNx.out _ hBw).mono ?_
          rintro e w1 ⟨rfl, hb1⟩
          go_wp2_with fail
          refine (HNy.out _ hb1).mono ?_
          rintro e w2 ⟨rfl, hb2⟩
          have hB2 := hb1.trans (hb2.mono hb1.size)
          go_wp2_with fail
          refine (HAw.out _ hB2).mono ?_
          rintro e w3 ⟨rfl, hb3⟩
          have hB3 := hB2.trans (hb3.mono hB2.size)
          go_wp2_with fail
          refine (HRx.out _).mono ?_
          rintro e w4 ⟨rfl, rfl⟩
          go_wp2_with fail
          all_goals
            go_ret
            exact ⟨rfl, hB3⟩
        · have dgt : decide ((Y.size : Int) < (X.size : Int)) = false := by rw [decide_eq_false_iff_not]; omega
          have i1 : (0 : Int) ≤ (X.size : Int) := by omega
          have i2 : (X.size : Int) ≤ (Y.size : Int) := by omega
          clear hgt
          go_enter Tryd.func5, Tryd.ntmps5
          go_wp2_with fail
          refine (HNx.out _ hBw).mono ?_
          rintro e w1 ⟨rfl, hb1⟩
          go_wp2_with fail
          refine (HNy.out _ hb1).mono ?_
          rintro e w2 ⟨rfl, hb2⟩
          have hB2 := hb1.trans (hb2.mono hb1.size)
          go_wp2_with fail
          refine (HAw.out _ hB2).mono ?_
          rintro e w3 ⟨rfl, hb3⟩
          have hB3 := hB2.trans (hb3.mono hB2.size)
          go_wp2_with fail
          refine (HRx.out _).mono ?_
          rintro e w4 ⟨rfl, rfl⟩
          go_wp2_with fail
          all_goals
            go_ret
            exact ⟨rfl, hB3⟩
      · clear l3
        go_enter Tryd.func5, Tryd.ntmps5
        go_wp2_with fail
        refine (HNx.out _ hBw).mono ?_
        rintro e w1 ⟨rfl, hb1⟩
        go_wp2_with fail
        refine (HNy.out _ hb1).mono ?_
        rintro e w2 ⟨rfl, hb2⟩
        have hB2 := hb1.trans (hb2.mono hb1.size)
        go_wp2_with fail
        refine (HAw.out _ hB2).mono ?_
        rintro e w3 ⟨rfl, hb3⟩
        have hB3 := hB2.trans (hb3.mono hB2.size)
        go_wp2_with fail
        refine (HRx.out _).mono ?_
        rintro e w4 ⟨rfl, rfl⟩
        go_wp2_with fail
        all_goals
          go_ret
          exact ⟨rfl, hB3⟩
    · have db : decide ((300 : Int) < (b.size : Int)) = false := by rw [decide_eq_false_iff_not]; omega
      have zb : b.size ≤ 300 := by omega
      clear ha hb
      have l1 := name_less a b
      have l2 := name_same a b
      have l3 := name_apart a b
      have cx := fun W (h : Mx W.heap.size W) => name_any a W (by omega) h
      have cy := fun W (h : Mx W.heap.size W) => name_any b W (by omega) h
      have rx := fun W => rname_any a W (by omega)
      have esx := esc_size a
      have esy := esc_size b
      have szx : (bstr (nameL a.data.toList)).size ≤ 1000 := by rw [bstr_size]; unfold nameL; simp only [List.length_append, List.length_cons, List.length_nil]; omega
      have szy : (bstr (nameL b.data.toList)).size ≤ 1000 := by rw [bstr_size]; unfold nameL; simp only [List.length_append, List.length_cons, List.length_nil]; omega
      clear esx esy
      generalize bstr (nameL a.data.toList) = X at *
      generalize bstr (nameL b.data.toList) = Y at *
      have HNx := Lib.hid (fun wn (h : Below w.heap.size w wn) => cx wn (HM.out.on h))
      have HNy := Lib.hid (fun wn (h : Below w.heap.size w wn) => cy wn (HM.out.on h))
      have HAw := Lib.hid (fun wn (h : Below w.heap.size w wn) => awake7_any wn (HM.out.on h))
      have HRx := Lib.hid rx
      have hss : (X.toList == X.toList) = true := by simp
      clear cx cy rx
      obtain ⟨p, hp⟩ : ∃ p, Op.bytesLess a.toList b.toList = p := ⟨_, rfl⟩
      obtain ⟨q, hq⟩ : ∃ q, (a.toList == b.toList) = q := ⟨_, rfl⟩
      rw [hp] at l1
      rw [hq] at l2 l3
      cases q
      · have l3 := l3 rfl
        have l3' : ((Y.extract 0 X.size).toList != X.toList) = true := by unfold bne; rw [l3]; rfl
        by_cases hgt : Y.size < X.size
        · have dgt : decide ((Y.size : Int) < (X.size : Int)) = true := by rw [decide_eq_true_eq]; omega
          clear hgt
          go_enter Tryd.func5, Tryd.ntmps5
          go_wp2_with fail
          refine (HNx.out _ hBw).mono ?_
          rintro e w1 ⟨rfl, hb1⟩
          go_wp2_with fail
          refine (HNy.out _ hb1).mono ?_
          rintro e w2 ⟨rfl, hb2⟩
          have hB2 := hb1.trans (hb2.mono hb1.size)
          go_wp2_with fail
          refine (HAw.out _ hB2).mono ?_
          rintro e w3 ⟨rfl, hb3⟩
          have hB3 := hB2.trans (hb3.mono hB2.size)
          go_wp2_with fail
          refine (HRx.out _).mono ?_
          rintro e w4 ⟨rfl, rfl⟩
          go_wp2_with fail
          all_goals
            go_ret
            exact ⟨rfl, hB3⟩
        · have dgt : decide ((Y.size : Int) < (X.size : Int)) = false := by rw [decide_eq_false_iff_not]; omega
          have i1 : (0 : Int) ≤ (X.size : Int) := by omega
          have i2 : (X.size : Int) ≤ (Y.size : Int) := by omega
          clear hgt
          go_enter Tryd.func5, Tryd.ntmps5
          go_wp2_with fail
          refine (HNx.out _ hBw).mono ?_
          rintro e w1 ⟨rfl, hb1⟩
          go_wp2_with fail
          refine (HNy.out _ hb1).mono ?_
          rintro e w2 ⟨rfl, hb2⟩
          have hB2 := hb1.trans (hb2.mono hb1.size)
          go_wp2_with fail
          refine (HAw.out _ hB2).mono ?_
          rintro e w3 ⟨rfl, hb3⟩
          have hB3 := hB2.trans (hb3.mono hB2.size)
          go_wp2_with fail
          refine (HRx.out _).mono ?_
          rintro e w4 ⟨rfl, rfl⟩
          go_wp2_with fail
          all_goals
            go_ret
            exact ⟨rfl, hB3⟩
      · clear l3
        go_enter Tryd.func5, Tryd.ntmps5
        go_wp2_with fail
        refine (HNx.out _ hBw).mono ?_
        rintro e w1 ⟨rfl, hb1⟩
        go_wp2_with fail
        refine (HNy.out _ hb1).mono ?_
        rintro e w2 ⟨rfl, hb2⟩
        have hB2 := hb1.trans (hb2.mono hb1.size)
        go_wp2_with fail
        refine (HAw.out _ hB2).mono ?_
        rintro e w3 ⟨rfl, hb3⟩
        have hB3 := hB2.trans (hb3.mono hB2.size)
        go_wp2_with fail
        refine (HRx.out _).mono ?_
        rintro e w4 ⟨rfl, rfl⟩
        go_wp2_with fail
        all_goals
          go_ret
          exact ⟨rfl, hB3⟩

end Go.Proofs.YtigepnhnccfpiaaDoor
