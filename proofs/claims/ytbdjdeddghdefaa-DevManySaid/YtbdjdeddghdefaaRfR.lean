/- DevMany's walk (written by tools/laws03m.py) -/
import Derived.Test.YtbdjdeddghdefaaRfP
namespace Go.Proofs.Ytbdjdeddghdefaa
open Go.ChangeShapes Go.WideShapes Go.ChangeAt Go.RowKit

theorem many_meas (i : Int) (h : 0 ≤ i) : (i - 1 + 1).toNat < (i + 1).toNat := by omega

set_option maxHeartbeats 4000000 in
set_option maxRecDepth 100000 in
theorem many_walk (keep : Nat) (hkeep : keep < 18446744073709551616) (torn : Int) (w : World) :
    Calls Try.prog 4 #[.int .u64 (keep : Int), .int .i64 torn] w fun ex w' => ex = .returned (.bool true) ∧ Below w.heap.size w w' := by
  have hN := new_in w 70 (by decide)
  have HRf := fun wn => Lib.hid (rfnew_any wn 70 (by decide))
  rw [show ((70 : Nat) : Int) = 70 from rfl] at hN
  simp only [show ((70 : Nat) : Int) = 70 from rfl] at HRf
  have HK := Lib.hid hkeep
  clear hkeep
  go_enter Try.func4, Try.ntmps4
  go_wp2_with fail
  refine hN.mono ?_
  rintro ex w1 ⟨rfl, hd, hb1⟩
  have HD := Lib.hid hd; have HB1 := Lib.hid hb1
  clear hN hd hb1
  go_wp2_with fail
  refine (HRf _).out.mono ?_
  rintro ex w2 ⟨v, rfl, hra, hb2⟩
  have hT := two_start HD.out rfl HB1.out (by omega) (Nat.le_refl _) (by omega) hra hb2
  obtain ⟨A, c, L, e, C, f, rfl⟩ := hT.ref.open_
  have hP := plans_new 70; have hF := few_new 70
  clear hra hb2 HRf HD HB1
  generalize newD 70 = d at hT hP hF ⊢
  obtain ⟨n0, hn0⟩ : ∃ q, d.sure.length = q := ⟨_, rfl⟩
  obtain ⟨n1, hn1⟩ : ∃ q, d.loose.length = q := ⟨_, rfl⟩
  obtain ⟨st, hst⟩ : ∃ q, d.steps = q := ⟨_, rfl⟩
  obtain ⟨o, ho⟩ : ∃ q, d.off = q := ⟨_, rfl⟩
  obtain ⟨n3, hn3⟩ : ∃ q, ([] : List Fal).length = q := ⟨_, rfl⟩
  rw [hn0, hn1, hst, ho, hn3] at hT ⊢
  have HT := Lib.hid hT; have HP := Lib.hid hP; have HF := Lib.hid hF
  clear hT hP hF hn0 hn1 hst ho hn3
  go_wp2_with fail
  refine (awake3 _).mono ?_
  rintro ex w3 ⟨rfl, hb3⟩
  have b1 := (Below.refl w2.heap.size w2).alloc (Nat.le_refl _) (.cells #[.pointer (some ⟨w.heap.size + 2, 0, none⟩), .slice A n0 c, .slice L n1 e, .int .i64 st, .slice C n3 f, .bool o] 34)
  have hrow := (hb3.block w2.heap.size (by simp)).trans (heap_alloc_last w2 (.cells #[.pointer (some ⟨w.heap.size + 2, 0, none⟩), .slice A n0 c, .slice L n1 e, .int .i64 st, .slice C n3 f, .bool o] 34))
  have HT3 := Lib.hid ((HT.out.on b1).on hb3)
  have HLe : Hid (w.heap.size ≤ w2.heap.size) := Lib.hid HT.out.size
  clear HT b1 hb3
  obtain ⟨bb, hbb⟩ : ∃ q, w2.heap.size = q := ⟨_, rfl⟩
  rw [hbb] at hrow HLe ⊢
  have HROW := Lib.hid hrow
  clear hbb hrow
  go_wp2_with fail
  go_loopw [8] (fun s8 wr => ∃ (i : Int) (d : Dv) (F : List Fal) (A : Option Addr) (n0 c : Nat) (L : Option Addr) (n1 e : Nat) (st : Int) (C : Option Addr) (n3 f : Nat) (o : Bool), -1 ≤ i ∧ i ≤ 69 ∧ s8 = .int .i64 i ∧ Hid (Two w.heap.size w wr (w.heap.size + 2) w.heap.size (w.heap.size + 1) d (.agg #[.slice A n0 c, .slice L n1 e, .int .i64 st, .slice C n3 f, .bool o]) d F) ∧ Hid (Plans d F) ∧ Hid (Few (69 - i) d) ∧ Hid (wr.heap[bb]? = some (.cells #[.pointer (some ⟨w.heap.size + 2, 0, none⟩), .slice A n0 c, .slice L n1 e, .int .i64 st, .slice C n3 f, .bool o] 34 (0, 0)))) (fun s8 _ => (intOf s8 + 1).toNat)
  case atStart => exact ⟨69, _, _, _, _, _, _, _, _, _, _, _, _, _, by decide, by decide, rfl, HT3, HP, HF, HROW⟩
  case round =>
    clear HT3 HP HF HROW
    obtain ⟨i, d, F, A, n0, c, L, n1, e, st, C, n3, f, o, hi1, hi2, rfl, HT, HP, HF, HB⟩ := hrel
    obtain ⟨p0, p1, p2, p3, p4, p5, pf0, pf1, pf2, pf3, pf4, pf5⟩ := both_cells HB.out
    by_cases hi : 0 ≤ i
    · have hkk : 69 - i ≤ (900 : Int) := by omega
      obtain ⟨cc, hcc⟩ : ∃ cc : UInt8, (cc.toNat : Int) = i + 1 := ⟨UInt8.ofNat (i + 1).toNat, by simp; omega⟩
      have HC : Hid (∀ wn, Two w.heap.size w wn (w.heap.size + 2) w.heap.size (w.heap.size + 1) d (.agg #[.slice A n0 c, .slice L n1 e, .int .i64 st, .slice C n3 f, .bool o]) d F → Calls Try.prog 13 #[.agg #[.pointer (some ⟨w.heap.size + 2, 0, none⟩), .slice A n0 c, .slice L n1 e, .int .i64 st, .slice C n3 f, .bool o], .agg #[.int .i64 0, .int .i64 i, .int .u8 (cc.toNat : Int), .bool false, .int .i64 0, .int .u64 0, .int .i64 0]] wn fun ex w' => ∃ (d' : Dv) (F' : List Fal) (A' : Option Addr) (m0 c' : Nat) (L' : Option Addr) (m1 e' : Nat) (st' : Int) (C' : Option Addr) (m3 f' : Nat) (o' : Bool),
            ex = .returned (.tuple #[.agg #[.pointer (some ⟨w.heap.size + 2, 0, none⟩), .slice A' m0 c', .slice L' m1 e', .int .i64 st', .slice C' m3 f', .bool o'], .bool true]) ∧ Two w.heap.size w w' (w.heap.size + 2) w.heap.size (w.heap.size + 1) d' (.agg #[.slice A' m0 c', .slice L' m1 e', .int .i64 st', .slice C' m3 f', .bool o']) d' F' ∧ Plans d' F' ∧ Few ((69 - i) + 1) d' ∧ Only (dev3 (w.heap.size + 2) w.heap.size (w.heap.size + 1)) wn w') := Lib.hid fun wn hn => do_spelled hn HP.out HF.out hkk ⟨0, i, cc, false, ⟨0, 0, 0⟩⟩ (by show 0 < 18446744073709551616; decide)
      rw [hcc] at HC
      have hs : wrap64 (i + 1) = i + 1 := wrap64_id (by rw [is64_iff]; omega)
      have hs1 : wrap64 (i - 1) = i - 1 := wrap64_id (by rw [is64_iff]; omega)
      have hu : IntKind.u8.wrap (i + 1) = i + 1 := by rw [show ∀ x, IntKind.u8.wrap x = x % 256 from fun x => rfl]; omega
      have HM := Lib.hid (many_meas i hi)
      have HI : Hid (-1 ≤ i - 1 ∧ i - 1 ≤ 69 ∧ 69 - i + 1 = 69 - (i - 1)) := Lib.hid ⟨by omega, by omega, by omega⟩
      clear hcc hkk hi1 hi2
      go_wp2_with fail
      refine (HC.out _ HT.out).mono ?_
      rintro ex wf ⟨d', F', A', m0, c', L', m1, e', st', C', m3, f', o', rfl, h1, hp1, hf1, ho1⟩
      have hkb := HT.out.keep ho1 HB.out (by decide) (by decide)
      have hs0 := Two.sets [.pointer (some ⟨w.heap.size + 2, 0, none⟩), .slice A' m0 c', .slice L' m1 e', .int .i64 st', .slice C' m3 f', .bool o'] 0 h1 HLe.out hkb (by simp [plainV]) (by simp [plainV])
      have hr0 := setsW_heap [.pointer (some ⟨w.heap.size + 2, 0, none⟩), .slice A' m0 c', .slice L' m1 e', .int .i64 st', .slice C' m3 f', .bool o'] _ _ 0 hkb
      rw [setsR_six] at hr0
      have hS1 := hs0.on ((Below.refl _ _).alloc (Nat.le_refl _) (.cells #[.pointer (some ⟨w.heap.size + 2, 0, none⟩), .slice A' m0 c', .slice L' m1 e', .int .i64 st', .slice C' m3 f', .bool o'] 34))
      have hrow := (Below.heap_alloc _ (.cells #[.pointer (some ⟨w.heap.size + 2, 0, none⟩), .slice A' m0 c', .slice L' m1 e', .int .i64 st', .slice C' m3 f', .bool o'] 34) bb (heap_lt hr0)).trans hr0
      obtain ⟨q0, q1, q2, q3, q4, q5, qf0, qf1, qf2, qf3, qf4, qf5⟩ := both_cells hkb
      have hlt := heap_lt hkb
      have HS1 := Lib.hid hS1; have HROW := Lib.hid hrow; have HP1 := Lib.hid hp1; have HF1 := Lib.hid hf1
      clear p0 p1 p2 p3 p4 p5 pf0 pf1 pf2 pf3 pf4 pf5 HC hS1 hrow hp1 hf1 h1 ho1 hkb hs0 hr0
      go_wp2_with fail
      rw [hs1]
      exact ⟨⟨i - 1, d', F', _, _, _, _, _, _, _, _, _, _, _, HI.out.1, HI.out.2.1, rfl, HS1, HP1, Lib.hid (by have h := HF1.out; rw [HI.out.2.2] at h; exact h), HROW⟩, HM.out⟩
    · obtain rfl : i = -1 := by omega
      have HC : Hid (∀ wn, Two w.heap.size w wn (w.heap.size + 2) w.heap.size (w.heap.size + 1) d (.agg #[.slice A n0 c, .slice L n1 e, .int .i64 st, .slice C n3 f, .bool o]) d F → Calls Try.prog 13 #[.agg #[.pointer (some ⟨w.heap.size + 2, 0, none⟩), .slice A n0 c, .slice L n1 e, .int .i64 st, .slice C n3 f, .bool o], .agg #[.int .i64 4, .int .i64 0, .int .u8 0, .bool false, .int .i64 0, .int .u64 (keep : Int), .int .i64 torn]] wn fun ex w' => ∃ (d' : Dv) (F' : List Fal) (A' : Option Addr) (m0 c' : Nat) (L' : Option Addr) (m1 e' : Nat) (st' : Int) (C' : Option Addr) (m3 f' : Nat) (o' : Bool),
            ex = .returned (.tuple #[.agg #[.pointer (some ⟨w.heap.size + 2, 0, none⟩), .slice A' m0 c', .slice L' m1 e', .int .i64 st', .slice C' m3 f', .bool o'], .bool true]) ∧ Two w.heap.size w w' (w.heap.size + 2) w.heap.size (w.heap.size + 1) d' (.agg #[.slice A' m0 c', .slice L' m1 e', .int .i64 st', .slice C' m3 f', .bool o']) d' F' ∧ Plans d' F' ∧ Few ((69 - -1) + 1) d' ∧ Only (dev3 (w.heap.size + 2) w.heap.size (w.heap.size + 1)) wn w') := Lib.hid fun wn hn => do_spelled hn HP.out HF.out (by decide) ⟨4, 0, 0, false, ⟨0, keep, torn⟩⟩ HK.out
      go_wp2_with fail
      refine (HC.out _ HT.out).mono ?_
      rintro ex wf ⟨d', F', A', m0, c', L', m1, e', st', C', m3, f', o', rfl, h1, hp1, hf1, ho1⟩
      have HBX := Lib.hid (h1.on ((Below.refl wf.heap.size wf).alloc (Nat.le_refl _) (.cells #[.pointer (some ⟨w.heap.size + 2, 0, none⟩), .slice A' m0 c', .slice L' m1 e', .int .i64 st', .slice C' m3 f', .bool o'] 34)))
      have HROW := Lib.hid (heap_alloc_last wf (.cells #[.pointer (some ⟨w.heap.size + 2, 0, none⟩), .slice A' m0 c', .slice L' m1 e', .int .i64 st', .slice C' m3 f', .bool o'] 34))
      have HSZ := Lib.hid h1.size
      have HP1 := Lib.hid hp1; have HF1 := Lib.hid hf1
      clear HC h1 hp1 hf1 ho1 p0 p1 p2 p3 p4 p5 pf0 pf1 pf2 pf3 pf4 pf5
      go_wp2_with fail
      refine (do_spelled HBX.out HP1.out HF1.out (by decide) ⟨5, 0, 0, false, ⟨0, 0, 0⟩⟩ (by show 0 < 18446744073709551616; decide)).mono ?_
      rintro ex w5 ⟨d5, F5, A5, m5, c5, L5, p5, e5, st5, C5, q5, f5, o5, rfl, h5, hp5, hf5, ho5⟩
      have hkb := HBX.out.keep ho5 HROW.out (by decide) (by decide)
      have hS5 := Two.sets [.pointer (some ⟨w.heap.size + 2, 0, none⟩), .slice A5 m5 c5, .slice L5 p5 e5, .int .i64 st5, .slice C5 q5 f5, .bool o5] 0 h5 HSZ.out hkb (by simp [plainV]) (by simp [plainV])
      have HS5 := Lib.hid hS5
      obtain ⟨q0, q1, q2, q3, q4, q5', qf0, qf1, qf2, qf3, qf4, qf5⟩ := both_cells hkb
      clear hkb hS5 h5 hp5 hf5 ho5
      go_wp2_with fail
      refine (same_any HS5.out).mono ?_
      rintro ex w6 ⟨rfl, h6, -⟩
      have hb6 := Lib.hid h6.below
      clear h6
      go_wp2_with fail
      go_ret
      exact ⟨rfl, hb6.out⟩

end Go.Proofs.Ytbdjdeddghdefaa
