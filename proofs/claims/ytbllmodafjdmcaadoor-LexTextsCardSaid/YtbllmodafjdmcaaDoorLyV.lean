/- the walk of LexTexts -/
import Derived.Test.YtbllmodafjdmcaaDoorLyT
namespace Go.Proofs.YtbllmodafjdmcaaDoor
open Go.ChangeShapes Go.WideShapes Go.ChangeAt Go.RowKit Go.Fl
open Go.Shelf

set_option maxHeartbeats 4000000 in
set_option maxRecDepth 100000 in
theorem texts_walk (S0 : ByteArray) (w : World) (hs : S0.size ≤ maxLen) (he : Env w) :
    Calls Tryd.prog 3 #[.string S0] w fun e w' => e = .returned (.bool true) ∧ Below w.heap.size w w' := by
  unfold maxLen at hs
  have He := Lib.hid he; clear he
  by_cases hbig : 500 < S0.size
  · have d1 : decide (500 < (S0.size : Int)) = true := by rw [decide_eq_true_eq]; omega
    have i1 : (500 : Int) ≤ (S0.size : Int) := by omega
    have hT : (S0.extract 0 500).size ≤ 500 := by rw [ByteArray.size_extract]; omega
    obtain ⟨T, hTe⟩ : ∃ T, S0.extract 0 500 = T := ⟨_, rfl⟩
    rw [hTe] at hT
    clear hbig
    have hl : T.data.toList.length ≤ 500 := by rw [len_list]; exact hT
    have HT0 := text_any T w (by omega)
    have HQ0 := fun W => quoted_any (ofL (textL T.data.toList)) T.data.toList rfl hl W
    have hsz : (ofL (textL T.data.toList)).size ≤ 2002 := by rw [ofL_size, textL_len]; have := sayL_len T.data.toList; omega
    have HW0 := fun W (h : Env W) => words_good (ofL (textL T.data.toList)) _ W (by unfold maxLen; omega) h (words_text canonN T.data.toList hl)
    rw [ofL_list] at HQ0 HW0
    obtain ⟨S, hS⟩ : ∃ S, ofL (textL T.data.toList) = S := ⟨_, rfl⟩
    obtain ⟨n, hn⟩ : ∃ n, (textL T.data.toList).length = n := ⟨_, rfl⟩
    rw [hS] at HT0 HQ0 HW0
    rw [hn] at HW0
    have HT := Lib.hid HT0; have HQ := Lib.hid HQ0; have HW := Lib.hid HW0
    clear HT0 HQ0 HW0 hS hn hl hsz
    go_enter Tryd.func3, Tryd.ntmps3
    go_wp2_with fail
    refine HT.out.mono ?_
    rintro e w1 ⟨rfl, hb1⟩
    have Hb1 := Lib.hid hb1; clear hb1
    go_wp2_with fail
    refine (HQ.out w1).mono ?_
    rintro e w2 ⟨rfl, hb2⟩
    have Hb2 := Lib.hid (Hb1.out.trans (hb2.mono Hb1.out.size)); clear hb2
    go_wp2_with fail
    refine (HW.out w2 (He.out.on Hb2.out)).mono ?_
    rintro e w3 ⟨g, cap, rfl, hc, hg, hcl, hb3⟩
    rw [show ([⟨4, T, 0, 0, 0⟩, ⟨0, ⟨#[]⟩, 0, 0, n⟩] : List Wd).length = 2 from rfl] at hc ⊢
    have Hb3 := Lib.hid (Hb2.out.trans (hb3.mono Hb2.out.size)); clear hb3
    have Hcl := Lib.hid hcl; clear hcl
    go_wp2_with fail
    refine (awake_any w3 (He.out.on Hb3.out)).mono ?_
    rintro e w4 ⟨rfl, hb4⟩
    have c0 : w4.cell? ⟨g, 0, none⟩ = some (.int .i64 4) := (hb4.cell (p := ⟨g, 0, none⟩) hg).trans (Hcl.out 0 0 (by simp) (by decide))
    have c1 : w4.cell? ⟨g, 1, none⟩ = some (.string T) := (hb4.cell (p := ⟨g, 1, none⟩) hg).trans (Hcl.out 0 1 (by simp) (by decide))
    have Hb4 := Lib.hid (Hb3.out.trans (hb4.mono Hb3.out.size)); clear hb4
    go_wp2_with fail
    go_ret
    exact ⟨rfl, Hb4.out⟩
  · have d1 : decide (500 < (S0.size : Int)) = false := by rw [decide_eq_false_iff_not]; omega
    have hT : S0.size ≤ 500 := by omega
    obtain ⟨T, rfl⟩ : ∃ T, S0 = T := ⟨_, rfl⟩
    clear hbig
    have hl : S0.data.toList.length ≤ 500 := by rw [len_list]; exact hT
    have HT0 := text_any S0 w (by omega)
    have HQ0 := fun W => quoted_any (ofL (textL S0.data.toList)) S0.data.toList rfl hl W
    have hsz : (ofL (textL S0.data.toList)).size ≤ 2002 := by rw [ofL_size, textL_len]; have := sayL_len S0.data.toList; omega
    have HW0 := fun W (h : Env W) => words_good (ofL (textL S0.data.toList)) _ W (by unfold maxLen; omega) h (words_text canonN S0.data.toList hl)
    rw [ofL_list] at HQ0 HW0
    obtain ⟨S, hS⟩ : ∃ S, ofL (textL S0.data.toList) = S := ⟨_, rfl⟩
    obtain ⟨n, hn⟩ : ∃ n, (textL S0.data.toList).length = n := ⟨_, rfl⟩
    rw [hS] at HT0 HQ0 HW0
    rw [hn] at HW0
    have HT := Lib.hid HT0; have HQ := Lib.hid HQ0; have HW := Lib.hid HW0
    clear HT0 HQ0 HW0 hS hn hl hsz
    go_enter Tryd.func3, Tryd.ntmps3
    go_wp2_with fail
    refine HT.out.mono ?_
    rintro e w1 ⟨rfl, hb1⟩
    have Hb1 := Lib.hid hb1; clear hb1
    go_wp2_with fail
    refine (HQ.out w1).mono ?_
    rintro e w2 ⟨rfl, hb2⟩
    have Hb2 := Lib.hid (Hb1.out.trans (hb2.mono Hb1.out.size)); clear hb2
    go_wp2_with fail
    refine (HW.out w2 (He.out.on Hb2.out)).mono ?_
    rintro e w3 ⟨g, cap, rfl, hc, hg, hcl, hb3⟩
    rw [show ([⟨4, S0, 0, 0, 0⟩, ⟨0, ⟨#[]⟩, 0, 0, n⟩] : List Wd).length = 2 from rfl] at hc ⊢
    have Hb3 := Lib.hid (Hb2.out.trans (hb3.mono Hb2.out.size)); clear hb3
    have Hcl := Lib.hid hcl; clear hcl
    go_wp2_with fail
    refine (awake_any w3 (He.out.on Hb3.out)).mono ?_
    rintro e w4 ⟨rfl, hb4⟩
    have c0 : w4.cell? ⟨g, 0, none⟩ = some (.int .i64 4) := (hb4.cell (p := ⟨g, 0, none⟩) hg).trans (Hcl.out 0 0 (by simp) (by decide))
    have c1 : w4.cell? ⟨g, 1, none⟩ = some (.string S0) := (hb4.cell (p := ⟨g, 1, none⟩) hg).trans (Hcl.out 0 1 (by simp) (by decide))
    have Hb4 := Lib.hid (Hb3.out.trans (hb4.mono Hb3.out.size)); clear hb4
    go_wp2_with fail
    go_ret
    exact ⟨rfl, Hb4.out⟩

end Go.Proofs.YtbllmodafjdmcaaDoor
