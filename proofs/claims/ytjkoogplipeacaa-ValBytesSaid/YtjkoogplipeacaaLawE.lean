/- the walk of ValBytes -/
import Derived.Test.YtjkoogplipeacaaAwk
namespace Go.Proofs.Ytjkoogplipeacaa
open Go.ChangeShapes Go.WideShapes Go.ChangeAt Go.RowKit Go.Fl

set_option maxHeartbeats 1000000 in
set_option maxRecDepth 100000 in
theorem bytes_any (n : Nat) (s : ByteArray) (w : World) (hn : n < 18446744073709551616) (hs : s.size ≤ 9223372036854775807) :
    Calls Try.prog 8 #[.int .u64 n, .string s] w fun e w' => e = .returned (.bool true) ∧ Below w.heap.size w w' := by
  have hw8 := wide_eight hn
  have h8 : (eightS n).size ≤ 140737488351232 := by rw [eight_size]; decide
  obtain ⟨E, hE⟩ : ∃ E, eightS n = E := ⟨_, rfl⟩
  have he := fun W => eight_any n W
  have hr := fun W => reight_any n W hn
  rw [hE] at hw8 h8
  simp only [hE] at he hr
  have hww : ∀ W, Calls Try.prog 35 #[.string E] W fun e w' => e = .returned (.int .u64 (n : Nat)) ∧ W = w' := fun W => by have := wide_any E W h8; rwa [hw8] at this
  have h2 := fun W => two_any ((n : Int) / 2) W
  have h3 := fun W => rtwo_any ((n : Int) / 2) W (by omega) (by omega)
  obtain ⟨D, hD⟩ : ∃ D, strOfNums [(n : Int) / 2 / 256 % 256, (n : Int) / 2 % 256] = D := ⟨_, rfl⟩
  simp only [hD] at h2 h3
  have Hww := Lib.hid hww; have He := Lib.hid he; have Hr := Lib.hid hr; have H2 := Lib.hid h2; have H3 := Lib.hid h3
  have hn0 : (0 : Int) ≤ (n : Int) / 2 := by omega
  have hn1 : (n : Int) / 2 ≤ 9223372036854775807 := by omega
  clear hww he hr h2 h3 hw8 h8 hE hD
  obtain ⟨T', hT⟩ : ∃ T', (if 20 < s.size then s.extract 0 20 else s) = T' := ⟨_, rfl⟩
  have hTs : T'.size ≤ 20 := by
    rw [← hT]
    split
    · simp only [ByteArray.size_extract]; omega
    · omega
  have hwd := fun W => wide_any T' W (by omega)
  have hrw := fun W => rwide_any T' W (by omega)
  obtain ⟨x, hx⟩ : ∃ x, wideS T' = x := ⟨_, rfl⟩
  simp only [hx] at hwd hrw
  have Hwd := Lib.hid hwd; have Hrw := Lib.hid hrw
  clear hwd hrw hx
  by_cases h20 : 20 < s.size
  · rw [if_pos h20] at hT
    subst hT
    clear hTs
    go_enter Try.func8, Try.ntmps8
    go_wp2_with fail
    refine (awake_any _).mono ?_
    rintro e w1 ⟨rfl, hb1⟩
    go_wp2_with fail
    refine (He.out _).mono ?_
    rintro e w2 ⟨rfl, hb2⟩
    go_wp2_with fail
    refine (Hr.out _).mono ?_
    rintro e w3 ⟨rfl, hb3⟩
    go_wp2_with fail
    refine (He.out _).mono ?_
    rintro e w4 ⟨rfl, hb4⟩
    go_wp2_with fail
    refine (Hww.out _).mono ?_
    rintro e w5 ⟨rfl, rfl⟩
    go_wp2_with fail
    refine (Hwd.out _).mono ?_
    rintro e w5 ⟨rfl, rfl⟩
    go_wp2_with fail
    refine (Hrw.out _).mono ?_
    rintro e w5 ⟨rfl, rfl⟩
    go_wp2_with fail
    refine (H2.out _).mono ?_
    rintro e w5 ⟨rfl, hb5⟩
    go_wp2_with fail
    refine (H3.out _).mono ?_
    rintro e w6 ⟨rfl, hb6⟩
    go_wp2_with fail
    go_ret
    have hb21 := hb1.trans (hb2.mono hb1.size)
    have hb31 := hb21.trans (hb3.mono hb21.size)
    have hb41 := hb31.trans (hb4.mono hb31.size)
    have hb51 := hb41.trans (hb5.mono hb41.size)
    exact ⟨rfl, hb51.trans (hb6.mono hb51.size)⟩
  · rw [if_neg h20] at hT
    subst hT
    clear hTs
    go_enter Try.func8, Try.ntmps8
    go_wp2_with fail
    refine (awake_any _).mono ?_
    rintro e w1 ⟨rfl, hb1⟩
    go_wp2_with fail
    refine (He.out _).mono ?_
    rintro e w2 ⟨rfl, hb2⟩
    go_wp2_with fail
    refine (Hr.out _).mono ?_
    rintro e w3 ⟨rfl, hb3⟩
    go_wp2_with fail
    refine (He.out _).mono ?_
    rintro e w4 ⟨rfl, hb4⟩
    go_wp2_with fail
    refine (Hww.out _).mono ?_
    rintro e w5 ⟨rfl, rfl⟩
    go_wp2_with fail
    refine (Hwd.out _).mono ?_
    rintro e w5 ⟨rfl, rfl⟩
    go_wp2_with fail
    refine (Hrw.out _).mono ?_
    rintro e w5 ⟨rfl, rfl⟩
    go_wp2_with fail
    refine (H2.out _).mono ?_
    rintro e w5 ⟨rfl, hb5⟩
    go_wp2_with fail
    refine (H3.out _).mono ?_
    rintro e w6 ⟨rfl, hb6⟩
    go_wp2_with fail
    go_ret
    have hb21 := hb1.trans (hb2.mono hb1.size)
    have hb31 := hb21.trans (hb3.mono hb21.size)
    have hb41 := hb31.trans (hb4.mono hb31.size)
    have hb51 := hb41.trans (hb5.mono hb41.size)
    exact ⟨rfl, hb51.trans (hb6.mono hb51.size)⟩

end Go.Proofs.Ytjkoogplipeacaa
