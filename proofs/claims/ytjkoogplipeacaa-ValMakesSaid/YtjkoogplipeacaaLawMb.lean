/- the walk of ValMakes, of a long text -/
import Derived.Test.YtjkoogplipeacaaLawMa
namespace Go.Proofs.Ytjkoogplipeacaa
open Go.ChangeShapes Go.WideShapes Go.ChangeAt Go.RowKit Go.Fl

set_option maxHeartbeats 8000000 in
set_option maxRecDepth 100000 in
theorem makes_long (n : Int) (f : Nat) (s0 : ByteArray) (w : World) (hn : is64 n = true) (hf : f < 18446744073709551616) (hs0 : s0.size ≤ 9223372036854775807) (h600 : 600 < s0.size) :
    Calls Try.prog 7 #[.int .i64 n, .float .f64 f, .string s0] w fun e w' => e = .returned (.bool true) ∧ Below w.heap.size w w' := by
  obtain ⟨s, hs⟩ : ∃ s, (if 600 < s0.size then s0.extract 0 600 else s0) = s := ⟨_, rfl⟩
  have hsz : s.size ≤ 600 := by
    rw [← hs]
    split
    · simp only [ByteArray.size_extract]; omega
    · omega
  have hsm : s.size ≤ 140737488351232 := by omega
  have hcf : canonN f < 18446744073709551616 := canonN_lt f hf
  have Hf := Lib.hid (And.intro hf hcf)
  have Hn := Lib.hid hn
  have Hsm := Lib.hid hsm
  have Hfl := Lib.hid (sm_float f)
  have Hno := Lib.hid sm_none
  have Hb := Lib.hid (smT_refl (.mk 4 false 0 0 s []))
  have Hl := Lib.hid (smT_refl (.mk 5 false 0 0 ⟨#[]⟩ [.mk 2 false n 0 ⟨#[]⟩ [], .mk 4 false 0 0 s []]))
  clear hn hf hcf hsz hsm
  · rw [if_pos h600] at hs
    subst hs
    go_enter Try.func7, Try.ntmps7
    go_wp2_with fail
    refine (vint_any n _).mono ?_
    rintro e w1 ⟨rfl, hb1⟩
    go_wp2_with fail
    refine (vtext_any _ _).mono ?_
    rintro e w2 ⟨rfl, hb2⟩
    unfold valV
    have hB2 := hb1.trans (hb2.mono hb1.size)
    clear hb1 hb2
    go_wp2_with fail
    have hrl := pair_list (w := w2) (RdX.leaf w2 0 w2.heap.size 2 false n 0 ⟨#[]⟩ (by decide) Hn.out (by decide) (by decide)) (RdX.leaf w2 0 w2.heap.size 4 false 0 0 (s0.extract 0 600) (by decide) (by decide) (by decide) Hsm.out)
    have hbl := (Below.refl w2.heap.size w2).alloc (Nat.le_refl _) (.cells #[.int .i64 2, .bool false, .int .i64 n, .float .f64 0, .string ⟨#[]⟩, .slice none 0 0, .int .i64 4, .bool false, .int .i64 0, .float .f64 0, .string (s0.extract 0 600), .slice none 0 0] 25)
    have hbv := (Below.refl (w2.alloc (.cells #[.int .i64 2, .bool false, .int .i64 n, .float .f64 0, .string ⟨#[]⟩, .slice none 0 0, .int .i64 4, .bool false, .int .i64 0, .float .f64 0, .string (s0.extract 0 600), .slice none 0 0] 25)).heap.size _).alloc (Nat.le_refl _) (.cells #[.int .i64 5, .bool false, .int .i64 0, .float .f64 0, .string ⟨#[]⟩, .slice (some ⟨w2.heap.size, 0, none⟩) 2 2] 25)
    have Hrd := Lib.hid (RdX.of (k := 5) (b := false) (n := 0) (f := 0) (s := ⟨#[]⟩) (some ⟨w2.heap.size, 0, none⟩) 2 (by decide) (by decide) (by decide) (by decide) (by simp) (by simp) (fun h => by cases h) (hrl.on hbv))
    have HL := Lib.hid ((Blk.new w2 25 #[.int .i64 2, .bool false, .int .i64 n, .float .f64 0, .string ⟨#[]⟩, .slice none 0 0, .int .i64 4, .bool false, .int .i64 0, .float .f64 0, .string (s0.extract 0 600), .slice none 0 0]).below hbv (by simp))
    have HV : Hid (Blk ((w2.alloc (.cells #[.int .i64 2, .bool false, .int .i64 n, .float .f64 0, .string ⟨#[]⟩, .slice none 0 0, .int .i64 4, .bool false, .int .i64 0, .float .f64 0, .string (s0.extract 0 600), .slice none 0 0] 25)).alloc (.cells #[.int .i64 5, .bool false, .int .i64 0, .float .f64 0, .string ⟨#[]⟩, .slice (some ⟨w2.heap.size, 0, none⟩) 2 2] 25)) (w2.heap.size + 1) 25 #[.int .i64 5, .bool false, .int .i64 0, .float .f64 0, .string ⟨#[]⟩, .slice (some ⟨w2.heap.size, 0, none⟩) 2 2]) := by have h := Blk.new (w2.alloc (.cells #[.int .i64 2, .bool false, .int .i64 n, .float .f64 0, .string ⟨#[]⟩, .slice none 0 0, .int .i64 4, .bool false, .int .i64 0, .float .f64 0, .string (s0.extract 0 600), .slice none 0 0] 25)) 25 #[.int .i64 5, .bool false, .int .i64 0, .float .f64 0, .string ⟨#[]⟩, .slice (some ⟨w2.heap.size, 0, none⟩) 2 2]; simp only [World.size_alloc] at h; exact h
    have hB3 := (hB2.alloc hB2.size (.cells #[.int .i64 2, .bool false, .int .i64 n, .float .f64 0, .string ⟨#[]⟩, .slice none 0 0, .int .i64 4, .bool false, .int .i64 0, .float .f64 0, .string (s0.extract 0 600), .slice none 0 0] 25)).alloc (by have := hB2.size; simp; omega) (.cells #[.int .i64 5, .bool false, .int .i64 0, .float .f64 0, .string ⟨#[]⟩, .slice (some ⟨w2.heap.size, 0, none⟩) 2 2] 25)
    clear hrl hbl hbv hB2
    refine (copy_own 5 false 0 0 ⟨#[]⟩ _ _ _ Hrd.out).mono ?_
    rintro e w3 ⟨hb3, hcc⟩
    obtain ⟨g, hg, rfl, hP⟩ : ∃ g, ((w2.alloc (.cells #[.int .i64 2, .bool false, .int .i64 n, .float .f64 0, .string ⟨#[]⟩, .slice none 0 0, .int .i64 4, .bool false, .int .i64 0, .float .f64 0, .string (s0.extract 0 600), .slice none 0 0] 25)).alloc (.cells #[.int .i64 5, .bool false, .int .i64 0, .float .f64 0, .string ⟨#[]⟩, .slice (some ⟨w2.heap.size, 0, none⟩) 2 2] 25)).heap.size ≤ g ∧ e = .returned (.agg #[.int .i64 5, .bool false, .int .i64 0, .float .f64 0, .string ⟨#[]⟩, .slice (some ⟨g, 0, none⟩) 2 2]) ∧ PartAt g w3 [.mk 2 false n 0 ⟨#[]⟩ [], .mk 4 false 0 0 (s0.extract 0 600) []] := by
      rcases hcc with ⟨h, -⟩ | ⟨g, h1, h2, h3⟩
      · exact absurd h (by simp)
      · exact ⟨g, h1, h2, h3⟩
    clear hcc
    simp only [World.size_alloc] at hg
    obtain ⟨cs, A, c, hblk, hcs, hg3, hcc, hrA⟩ := second_part hP
    have hB4 := hB3.trans (hb3.mono hB3.size)
    have hbc := (Below.refl w3.heap.size w3).alloc (Nat.le_refl _) (.cells #[.int .i64 5, .bool false, .int .i64 0, .float .f64 0, .string ⟨#[]⟩, .slice (some ⟨g, 0, none⟩) 2 2] 25)
    have hblk2 := hblk.below hbc hblk.lt
    obtain ⟨u2, hu2⟩ : ∃ u, cs[2]? = some u := ⟨cs[2]'(by omega), Array.getElem?_eq_getElem _⟩
    have c2 := (hblk2.cell 2).trans hu2
    have z2 := hblk2.frozen 2
    have HL3 := Lib.hid (HL.out.below hb3 HL.out.lt)
    have HV3 := Lib.hid (HV.out.below hb3 HV.out.lt)
    have hz3 : w2.heap.size + 1 + 1 ≤ w3.heap.size := by have := hb3.size; simpa using this
    have hwg : w.heap.size ≤ g := by have := hB3.size; simp at this; omega
    have Hblk := Lib.hid hblk; have Hcc := Lib.hid hcc; have HrA := Lib.hid hrA; have Hcs := Lib.hid hcs
    clear hb3 hP hblk hblk2 hcc hrA hu2 hbc hB3 HL HV Hrd hcs
    go_upto_region 8 with fail
    simp only [List.append_eq, List.cons_append, List.nil_append]
    generalize bits BinOp.xor IntKind.i64 n 1 = X
    obtain ⟨W, hW⟩ : ∃ W, W = (w3.setCell ⟨g, 2, none⟩ (.int .i64 X)).alloc (.cells #[.int .i64 5, .bool false, .int .i64 0, .float .f64 0, .string ⟨#[]⟩, .slice (some ⟨g, 0, none⟩) 2 2] 25) := ⟨_, rfl⟩
    have hsz3 : (w3.setCell ⟨g, 2, none⟩ (.int .i64 X)).heap.size = w3.heap.size := by simp [World.setCell]
    have hbc := (Below.refl (w3.setCell ⟨g, 2, none⟩ (.int .i64 X)).heap.size (w3.setCell ⟨g, 2, none⟩ (.int .i64 X))).alloc (Nat.le_refl _) (.cells #[.int .i64 5, .bool false, .int .i64 0, .float .f64 0, .string ⟨#[]⟩, .slice (some ⟨g, 0, none⟩) 2 2] 25)
    have K : Kn W w2.heap.size (w2.heap.size + 1) g w3.heap.size n (s0.extract 0 600) (cs.setIfInBounds 2 (.int .i64 X)) := by
      rw [hW]
      refine ⟨?_, ?_, ?_, ?_⟩
      · exact (HL3.out.far (p := ⟨g, 2, none⟩) (by simp; omega) _).below hbc (by rw [hsz3]; omega)
      · exact (HV3.out.far (p := ⟨g, 2, none⟩) (by simp; omega) _).below hbc (by rw [hsz3]; omega)
      · exact (Hblk.out.set_ 2 _).below hbc (by rw [hsz3]; omega)
      · have h := Blk.new (w3.setCell ⟨g, 2, none⟩ (.int .i64 X)) 25 #[.int .i64 5, .bool false, .int .i64 0, .float .f64 0, .string ⟨#[]⟩, .slice (some ⟨g, 0, none⟩) 2 2]
        rw [hsz3] at h; exact h
    have hB5 : Below w.heap.size w W := by rw [hW]; exact (hB4.setCell (p := ⟨g, 2, none⟩) hwg _).alloc (by rw [hsz3]; omega) _
    have hA5 : RdX W (g + 1) W.heap.size (.mk 4 false 0 0 (s0.extract 0 600) []) (.agg #[.int .i64 4, .bool false, .int .i64 0, .float .f64 0, .string (s0.extract 0 600), .slice A 0 c]) := by
      rw [hW]
      refine RdS.keep (fun q h1 h2 => ?_) (Nat.le_refl _) (by simp [World.setCell]) HrA.out
      refine (hbc.cell (p := q) (by rw [hsz3]; exact h2)).trans (World.cell?_of_block (Below.heap_setCell _ _ _ _ ?_))
      simp; omega
    rw [← hW]
    have HK := Lib.hid K; have HA5 := Lib.hid hA5
    clear hW hsz3 hbc K hA5 HL3 HV3 Hblk HrA hB4 c2 z2
    have l2 := (HK.out.1.cell 2).trans (show _ = some (.int .i64 n) from rfl)
    have l6 := (HK.out.1.cell 6).trans (show _ = some (.int .i64 4) from rfl)
    have l7 := (HK.out.1.cell 7).trans (show _ = some (.bool false) from rfl)
    have l8 := (HK.out.1.cell 8).trans (show _ = some (.int .i64 0) from rfl)
    have l9 := (HK.out.1.cell 9).trans (show _ = some (.float .f64 0) from rfl)
    have l10 := (HK.out.1.cell 10).trans (show _ = some (.string (s0.extract 0 600)) from rfl)
    have l11 := (HK.out.1.cell 11).trans (show _ = some (.slice none 0 0) from rfl)
    have m6 := (HK.out.2.2.1.cell 6).trans ((Array.getElem?_setIfInBounds_ne (by decide)).trans Hcc.out.1)
    have m7 := (HK.out.2.2.1.cell 7).trans ((Array.getElem?_setIfInBounds_ne (by decide)).trans Hcc.out.2.1)
    have m8 := (HK.out.2.2.1.cell 8).trans ((Array.getElem?_setIfInBounds_ne (by decide)).trans Hcc.out.2.2.1)
    have m9 := (HK.out.2.2.1.cell 9).trans ((Array.getElem?_setIfInBounds_ne (by decide)).trans Hcc.out.2.2.2.1)
    have m10 := (HK.out.2.2.1.cell 10).trans ((Array.getElem?_setIfInBounds_ne (by decide)).trans Hcc.out.2.2.2.2.1)
    have m11 := (HK.out.2.2.1.cell 11).trans ((Array.getElem?_setIfInBounds_ne (by decide)).trans Hcc.out.2.2.2.2.2)
    have g5 := (HK.out.2.2.2.cell 5).trans (show _ = some (.slice (some ⟨g, 0, none⟩) 2 2) from rfl)
    obtain ⟨v0, v1, v2, v3, v4, v5⟩ := six_of HK.out.2.1
    have hBW := Below.refl W.heap.size W
    have hls : ∀ wn, Below W.heap.size W wn → RdL wn wn.heap.size [.mk 2 false n 0 ⟨#[]⟩ [], .mk 4 false 0 0 (s0.extract 0 600) []] (some ⟨w2.heap.size, 0, none⟩) := fun wn hb =>
      twelve (HK.out.1.below hb HK.out.1.lt) (RdX.leaf _ _ _ 2 false n 0 ⟨#[]⟩ (by decide) Hn.out (by decide) (by decide)) (RdX.leaf _ _ _ 4 false 0 0 _ (by decide) (by decide) (by decide) Hsm.out)
    have HS1 : Hid (∀ wn, Calls Try.prog 18 #[(.agg #[.int .i64 0, .bool false, .int .i64 0, .float .f64 0, .string ⟨#[]⟩, .slice none 0 0]), (.agg #[.int .i64 0, .bool false, .int .i64 0, .float .f64 0, .string ⟨#[]⟩, .slice none 0 0])] wn fun e w' => e = .returned (.bool true) ∧ Below wn.heap.size wn w') :=
      Lib.hid (fun wn => by have := rsame_any (w := wn) (RdX.leaf _ _ _ 0 false 0 0 ⟨#[]⟩ (by decide) (by decide) (by decide) (by decide)) (RdX.leaf _ _ _ 0 false 0 0 ⟨#[]⟩ (by decide) (by decide) (by decide) (by decide)); rwa [Hno.out] at this)
    have HS2 : Hid (∀ wn, Calls Try.prog 18 #[.agg #[.int .i64 3, .bool false, .int .i64 0, .float .f64 (canonN f), .string ⟨#[]⟩, .slice none 0 0], .agg #[.int .i64 3, .bool false, .int .i64 0, .float .f64 f, .string ⟨#[]⟩, .slice none 0 0]] wn fun e w' => e = .returned (.bool true) ∧ Below wn.heap.size wn w') :=
      Lib.hid (fun wn => by have := rsame_any (w := wn) (RdX.leaf _ _ _ 3 false 0 (canonN f) ⟨#[]⟩ (by decide) (by decide) Hf.out.2 (by decide)) (RdX.leaf _ _ _ 3 false 0 f ⟨#[]⟩ (by decide) (by decide) Hf.out.1 (by decide)); rwa [Hfl.out] at this)
    have HS3 : Hid (∀ wn, Below W.heap.size W wn → Calls Try.prog 18 #[.agg #[.int .i64 4, .bool false, .int .i64 0, .float .f64 0, .string (s0.extract 0 600), .slice A 0 c], .agg #[.int .i64 4, .bool false, .int .i64 0, .float .f64 0, .string (s0.extract 0 600), .slice none 0 0]] wn fun e w' => e = .returned (.bool true) ∧ Below wn.heap.size wn w') :=
      Lib.hid (fun wn hb => by have := rsame_any (w := wn) (RdS.up (HA5.out.on hb) (Nat.zero_le _) (Nat.le_refl _)) (RdX.leaf _ _ _ 4 false 0 0 _ (by decide) (by decide) (by decide) Hsm.out); rwa [Hb.out] at this)
    have HLi : Hid (∀ wn, Below W.heap.size W wn → Calls Try.prog 32 #[.slice (some ⟨w2.heap.size, 0, none⟩) 2 2] wn fun e w' => ∃ v', e = .returned v' ∧ RdX w' wn.heap.size w'.heap.size (.mk 5 false 0 0 ⟨#[]⟩ [.mk 2 false n 0 ⟨#[]⟩ [], .mk 4 false 0 0 (s0.extract 0 600) []]) v' ∧ Below wn.heap.size wn w') :=
      Lib.hid (fun wn hb => vlist_any (cap := 2) (hls wn hb) (by simp))
    have HS4 : Hid (∀ wn v' L, Below W.heap.size W wn → RdX wn L wn.heap.size (.mk 5 false 0 0 ⟨#[]⟩ [.mk 2 false n 0 ⟨#[]⟩ [], .mk 4 false 0 0 (s0.extract 0 600) []]) v' → Calls Try.prog 18 #[v', .agg #[.int .i64 5, .bool false, .int .i64 0, .float .f64 0, .string ⟨#[]⟩, .slice (some ⟨w2.heap.size, 0, none⟩) 2 2]] wn fun e w' => e = .returned (.bool true) ∧ Below wn.heap.size wn w') :=
      Lib.hid (fun wn v' L hb hv => by
        have := rsame_any (w := wn) (RdS.up hv (Nat.zero_le _) (Nat.le_refl _)) (RdX.of (k := 5) (b := false) (n := 0) (f := 0) (s := ⟨#[]⟩) (some ⟨w2.heap.size, 0, none⟩) 2 (by decide) (by decide) (by decide) (by decide) (by simp) (by simp) (fun h => by cases h) (hls wn hb))
        rwa [Hl.out] at this)
    have HVa : Hid (∀ wn, Calls Try.prog 27 #[] wn fun e w' => e = .returned (.agg #[.int .i64 0, .bool false, .int .i64 0, .float .f64 0, .string ⟨#[]⟩, .slice none 0 0]) ∧ Below wn.heap.size wn w') := Lib.hid (fun wn => vnone_any wn)
    have HVb : Hid (∀ b wn, Calls Try.prog 28 #[.bool b] wn fun e w' => e = .returned (.agg #[.int .i64 1, .bool b, .int .i64 0, .float .f64 0, .string ⟨#[]⟩, .slice none 0 0]) ∧ Below wn.heap.size wn w') := Lib.hid (fun b wn => vyes_any b wn)
    have HVc : Hid (∀ wn, Calls Try.prog 24 #[.int .i64 n] wn fun e w' => e = .returned (.agg #[.int .i64 2, .bool false, .int .i64 n, .float .f64 0, .string ⟨#[]⟩, .slice none 0 0]) ∧ Below wn.heap.size wn w') := Lib.hid (fun wn => vint_any n wn)
    have HVd : Hid (∀ wn, Calls Try.prog 29 #[.float .f64 f] wn fun e w' => e = .returned (.agg #[.int .i64 3, .bool false, .int .i64 0, .float .f64 (canonN f), .string ⟨#[]⟩, .slice none 0 0]) ∧ Below wn.heap.size wn w') := Lib.hid (fun wn => vfloat_any f wn)
    have HVe : Hid (∀ wn, Calls Try.prog 25 #[.string (s0.extract 0 600)] wn fun e w' => e = .returned (.agg #[.int .i64 4, .bool false, .int .i64 0, .float .f64 0, .string (s0.extract 0 600), .slice none 0 0]) ∧ Below wn.heap.size wn w') := Lib.hid (fun wn => vtext_any _ wn)
    have HVf : Hid (∀ wn, Calls Try.prog 30 #[.int .i64 n] wn fun e w' => e = .returned (.agg #[.int .i64 7, .bool false, .int .i64 n, .float .f64 0, .string ⟨#[]⟩, .slice none 0 0]) ∧ Below wn.heap.size wn w') := Lib.hid (fun wn => vvertex_any n wn)
    have HVg : Hid (∀ wn, Calls Try.prog 31 #[.int .i64 n] wn fun e w' => e = .returned (.agg #[.int .i64 8, .bool false, .int .i64 n, .float .f64 0, .string ⟨#[]⟩, .slice none 0 0]) ∧ Below wn.heap.size wn w') := Lib.hid (fun wn => vedge_any n wn)
    clear hls
    have r1 : ∀ w, (Instr.field 25 (.agg #[.int .i64 1, .bool (decide (0 < n)), .int .i64 0, .float .f64 0, .string ⟨#[]⟩, .slice none 0 0]) 1).run Try.prog w = .ok (.bool (decide (0 < n))) w := fun _ => by kernel_rfl
    have r2 : ∀ w, (Instr.field 25 (.agg #[.int .i64 2, .bool false, .int .i64 n, .float .f64 0, .string ⟨#[]⟩, .slice none 0 0]) 2).run Try.prog w = .ok (.int .i64 n) w := fun _ => by kernel_rfl
    have r4 : ∀ w, (Instr.field 25 (.agg #[.int .i64 4, .bool false, .int .i64 0, .float .f64 0, .string (s0.extract 0 600), .slice none 0 0]) 4).run Try.prog w = .ok (.string (s0.extract 0 600)) w := fun _ => by kernel_rfl
    have r7 : ∀ w, (Instr.field 25 (.agg #[.int .i64 7, .bool false, .int .i64 n, .float .f64 0, .string ⟨#[]⟩, .slice none 0 0]) 0).run Try.prog w = .ok (.int .i64 7) w := fun _ => by kernel_rfl
    have r8 : ∀ w, (Instr.field 25 (.agg #[.int .i64 8, .bool false, .int .i64 n, .float .f64 0, .string ⟨#[]⟩, .slice none 0 0]) 2).run Try.prog w = .ok (.int .i64 n) w := fun _ => by kernel_rfl
    go_region_held3 (fun w' => w'.cell? ⟨w2.heap.size, 2, none⟩ = some (.int .i64 n) ∧ w'.cell? ⟨w2.heap.size, 6, none⟩ = some (.int .i64 4) ∧ w'.cell? ⟨w2.heap.size, 7, none⟩ = some (.bool false) ∧ w'.cell? ⟨w2.heap.size, 8, none⟩ = some (.int .i64 0) ∧ w'.cell? ⟨w2.heap.size, 9, none⟩ = some (.float .f64 0) ∧ w'.cell? ⟨w2.heap.size, 10, none⟩ = some (.string (s0.extract 0 600)) ∧ w'.cell? ⟨w2.heap.size, 11, none⟩ = some (.slice none 0 0) ∧
        w'.cell? ⟨g, 6, none⟩ = some (.int .i64 4) ∧ w'.cell? ⟨g, 7, none⟩ = some (.bool false) ∧ w'.cell? ⟨g, 8, none⟩ = some (.int .i64 0) ∧ w'.cell? ⟨g, 9, none⟩ = some (.float .f64 0) ∧ w'.cell? ⟨g, 10, none⟩ = some (.string (s0.extract 0 600)) ∧ w'.cell? ⟨g, 11, none⟩ = some (.slice A 0 c) ∧ w'.cell? ⟨w3.heap.size, 5, none⟩ = some (.slice (some ⟨g, 0, none⟩) 2 2) ∧
        w'.cell? ⟨w2.heap.size + 1, 0, none⟩ = some (.int .i64 5) ∧ w'.cell? ⟨w2.heap.size + 1, 1, none⟩ = some (.bool false) ∧ w'.cell? ⟨w2.heap.size + 1, 2, none⟩ = some (.int .i64 0) ∧ w'.cell? ⟨w2.heap.size + 1, 3, none⟩ = some (.float .f64 0) ∧ w'.cell? ⟨w2.heap.size + 1, 4, none⟩ = some (.string ⟨#[]⟩) ∧ w'.cell? ⟨w2.heap.size + 1, 5, none⟩ = some (.slice (some ⟨w2.heap.size, 0, none⟩) 2 2) ∧ Below W.heap.size W w')
      (first | (exact keep20 ((Below.refl W.heap.size W).drew) ⟨l2, l6, l7, l8, l9, l10, l11, m6, m7, m8, m9, m10, m11, g5, v0, v1, v2, v3, v4, v5, hBW⟩) | (exact keep20 (by assumption) (by assumption)))
      (first
        | (go_at_call 12; refine (awake_any _).mono ?_; rintro e wn ⟨rfl, hbn⟩)
        | (go_at_call 27; (with_reducible refine (HVa.out _).mono ?_); rintro e wn ⟨rfl, hbn⟩)
        | (go_at_call 28; (with_reducible refine (HVb.out _ _).mono ?_); rintro e wn ⟨rfl, hbn⟩)
        | (go_at_call 24; (with_reducible refine (HVc.out _).mono ?_); rintro e wn ⟨rfl, hbn⟩)
        | (go_at_call 29; (with_reducible refine (HVd.out _).mono ?_); rintro e wn ⟨rfl, hbn⟩)
        | (go_at_call 25; (with_reducible refine (HVe.out _).mono ?_); rintro e wn ⟨rfl, hbn⟩)
        | (go_at_call 30; (with_reducible refine (HVf.out _).mono ?_); rintro e wn ⟨rfl, hbn⟩)
        | (go_at_call 31; (with_reducible refine (HVg.out _).mono ?_); rintro e wn ⟨rfl, hbn⟩)
        | (go_at_call 32; (with_reducible refine (HLi.out _ (by go_split_ands; assumption)).mono ?_); rintro e wn ⟨v', rfl, hv', hbn⟩)
        | (go_at_call 18; (first | (with_reducible refine (HS1.out _).mono ?_) | (with_reducible refine (HS2.out _).mono ?_) | (with_reducible refine (HS3.out _ (by go_split_ands; assumption)).mono ?_) | (with_reducible refine (HS4.out _ _ _ (by go_split_ands; assumption) (by assumption)).mono ?_)); rintro e wn ⟨rfl, hbn⟩))
    all_goals
      go_wp2_with fail
      go_ret
      exact ⟨rfl, hB5.trans (Below.mono (by go_split_ands; assumption) hB5.size)⟩

end Go.Proofs.Ytjkoogplipeacaa
