/- SqD, SqE -/
import Derived.Test.YtgmjhoppjjjilaaDoorQ38

/- show: join and bracket over arguments (written by tools/laws13c.py) -/
namespace Go.Proofs.YtgmjhoppjjjilaaDoor
open Go.ChangeShapes Go.WideShapes Go.ChangeAt Go.RowKit Go.Fl
open Go.Shelf

set_option maxHeartbeats 4000000 in
set_option maxRecDepth 100000 in
theorem join_ag {n : Nat} {l : List Ag} {w0 w : World} {b cap : Nat} {acc : List UInt8} {A : Option Addr} (hV : ∀ i (h : i < l.length), AT n l[i]) (h : RBx w0 b acc w) (he : EnvT w0) (hr : RowA (RdArg (RdTr n)) 11 w (fun q => q < b) l A) (sep : ByteArray) (hlen : acc.length + (joinF sep.data.toList shAg l).length ≤ 99999999000) (hsep : sep.size ≤ 1000) (hlm : l.length ≤ 1954687338211) :
    Calls Tryd.prog 97 #[.pointer (some ⟨b, 0, none⟩), .slice A l.length cap, .string sep, .func (.func 88) #[] #[]] w (TellP w0 w b (acc ++ joinF sep.data.toList shAg l)) := by
  have H := Lib.hid h; have HE := Lib.hid he; have HR := Lib.hid hr; have HVV := Lib.hid hV; have HL := Lib.hid hlen
  have HS := Lib.hid (len_list sep)
  clear h he hr hV hlen
  go_enter Tryd.func97, Tryd.ntmps97
  go_wp2_with fail
  go_loopw [12] (fun vi wr => ∃ i : Nat, vi = .int .i64 i ∧ i ≤ l.length ∧ Hid (RBx w0 b (acc ++ joinF sep.data.toList shAg (l.take i)) wr ∧ Below b w wr ∧ Fr b w wr)) (fun vi _ => l.length - (intOf vi).toNat)
  case atStart => exact ⟨0, rfl, Nat.zero_le _, Lib.hid ⟨by simpa [joinF] using H.out, Below.refl _ _, Fr.refl _ _⟩⟩
  case round =>
    obtain ⟨i, rfl, hi, Hw⟩ := hrel
    by_cases hlt : i < l.length
    · obtain ⟨a, k, kk, bb, nn, ff, ss, lA, ll, lc, op, oA, ol, oc, kA, kl, kc, tA, tl, tc, rfl, hab, hrd, e0, e1, e2, e3, e4, e5, e6, e7, e8, e9, e10⟩ := (RowA.keep (keepS_Arg (keepS_Tr n)) (fun p hp => Hw.out.2.1.cell hp) (fun _ hq => hq) HR.out).itemA hlt
      have hlz : (i : Int) < (l.length : Int) := by omega
      obtain ⟨X, hX⟩ : ∃ X, wr.alloc (.cells #[.int .i64 k, .int .i64 kk, .bool bb, .int .i64 nn, .float .f64 ff, .string ss, .slice lA ll lc, .string op, .slice oA ol oc, .slice kA kl kc, .slice tA tl tc] 40) = X := ⟨_, rfl⟩
      have hbX : Below wr.heap.size wr X := hX ▸ (Below.refl _ wr).alloc (Nat.le_refl _) _
      have zX : X.heap[wr.heap.size]? = some (.cells #[.int .i64 k, .int .i64 kk, .bool bb, .int .i64 nn, .float .f64 ff, .string ss, .slice lA ll lc, .string op, .slice oA ol oc, .slice kA kl kc, .slice tA tl tc] 40 (0, 0)) := hX ▸ heap_alloc_new wr _
      have hRX := Hw.out.1.on hbX
      have hblt := Hw.out.1.lt
      have hBX : Below b w X := Hw.out.2.1.trans (hbX.mono (Nat.le_of_lt hblt))
      have hrX : (RdArg (RdTr n)) X (fun q => q < b) l[i] (.agg #[.int .i64 k, .int .i64 kk, .bool bb, .int .i64 nn, .float .f64 ff, .string ss, .slice lA ll lc, .string op, .slice oA ol oc, .slice kA kl kc, .slice tA tl tc]) := (keepS_Arg (keepS_Tr n)) _ _ _ _ _ _ (fun p hp => hbX.cell (Nat.lt_trans hp hblt)) (fun _ hq => hq) hrd
      have htk := take_more hlt
      have hjl := joinF_take sep.data.toList shAg l (i + 1)
      rw [htk, joinF_snoc, List.length_append, List.length_append] at hjl
      obtain ⟨⟨x0, x1, x2, x3, x4, x5, x6, x7, x8, x9, x10⟩, -, xl⟩ := ele_cells zX
      have HX := Lib.hid hX
      have H2 := Lib.hid (And.intro hRX (And.intro hBX (And.intro hrX (And.intro htk (And.intro hjl (And.intro zX (Hw.out.2.2.trans (Fr.of_below hbX))))))))
      have hlti : (l.take i).length = i := by rw [List.length_take]; omega
      clear hbX zX hRX hBX hrX htk hjl hrd hX
      by_cases h0 : i = 0
      · have hz : ¬ (0 : Int) < (i : Int) := by omega
        have HN : Hid (acc ++ joinF sep.data.toList shAg (l.take i) ++ shAg l[i] = acc ++ joinF sep.data.toList shAg (l.take (i + 1))) := Lib.hid (by
          rw [H2.out.2.2.2.1, joinF_snoc, if_pos (by rw [hlti]; exact h0)]
          simp)
        have HC := Lib.hid (HVV.out i hlt w0 X b _ _ H2.out.1 HE.out H2.out.2.2.1 (by
          have h1 := H2.out.2.2.2.2.1
          have h2 := HL.out
          rw [List.length_append]
          omega))
        clear h0 hlti
        go_upto_region 3 with fail
        rw [HX.out]
        go_wp2_with fail
        refine HC.out.mono ?_
        rintro e w2 ⟨rfl, hR2, hB2, hF2⟩
        rw [HN.out] at hR2
        have HF := Lib.hid (And.intro hR2 (And.intro (H2.out.2.1.trans hB2) (H2.out.2.2.2.2.2.2.trans hF2)))
        clear hR2 hB2 hF2
        go_wp2_with fail
        go_roundw
        case rel => exact ⟨i + 1, by go_num, hlt, HF⟩
        case measure => simp [intOf]; omega
      · have hz : (0 : Int) < (i : Int) := by omega
        have HW := Lib.hid (rbx_wstr H2.out.1 sep (by
          have h1 := H2.out.2.2.2.2.1
          have h2 := HL.out
          have h3 := joinF_take sep.data.toList shAg l i
          rw [List.length_append]
          omega))
        have HN : Hid (acc ++ joinF sep.data.toList shAg (l.take i) ++ sep.data.toList ++ shAg l[i] = acc ++ joinF sep.data.toList shAg (l.take (i + 1))) := Lib.hid (by
          rw [H2.out.2.2.2.1, joinF_snoc, if_neg (by rw [hlti]; exact h0)]
          simp)
        have HLL : Hid ((acc ++ joinF sep.data.toList shAg (l.take i) ++ sep.data.toList).length + (shAg l[i]).length ≤ 99999999000) := Lib.hid (by
          have h1 := H2.out.2.2.2.2.1
          rw [if_neg (by rw [hlti]; exact h0)] at h1
          have h2 := HL.out
          rw [List.length_append, List.length_append]
          omega)
        clear h0 hlti
        go_upto_region 3 with fail
        rw [HX.out]
        go_wp2_with fail
        refine HW.out.mono ?_
        rintro e w1 ⟨rfl, hR1, hB1, hF1⟩
        have zX1 : w1.heap[wr.heap.size]? = some (.cells #[.int .i64 k, .int .i64 kk, .bool bb, .int .i64 nn, .float .f64 ff, .string ss, .slice lA ll lc, .string op, .slice oA ol oc, .slice kA kl kc, .slice tA tl tc] 40 (0, 0)) := hF1 _ _ _ (by decide) (by have := Hw.out.1.lt; omega) H2.out.2.2.2.2.2.1
        have hrX1 : (RdArg (RdTr n)) w1 (fun q => q < b) l[i] (.agg #[.int .i64 k, .int .i64 kk, .bool bb, .int .i64 nn, .float .f64 ff, .string ss, .slice lA ll lc, .string op, .slice oA ol oc, .slice kA kl kc, .slice tA tl tc]) := (keepS_Arg (keepS_Tr n)) _ _ _ _ _ _ (fun p hp => hB1.cell hp) (fun _ hq => hq) H2.out.2.2.1
        have HC := Lib.hid (HVV.out i hlt w0 w1 b _ _ hR1 HE.out hrX1 HLL.out)
        obtain ⟨⟨y0, y1, y2, y3, y4, y5, y6, y7, y8, y9, y10⟩, -, yl⟩ := ele_cells zX1
        have H1 := Lib.hid (And.intro (H2.out.2.1.trans hB1) (H2.out.2.2.2.2.2.2.trans hF1))
        clear hR1 hB1 hF1 zX1 hrX1
        go_wp2_with fail
        refine HC.out.mono ?_
        rintro e w2 ⟨rfl, hR2, hB2, hF2⟩
        rw [HN.out] at hR2
        have HF := Lib.hid (And.intro hR2 (And.intro (H1.out.1.trans hB2) (H1.out.2.trans hF2)))
        clear hR2 hB2 hF2
        go_wp2_with fail
        go_roundw
        case rel => exact ⟨i + 1, by go_num, hlt, HF⟩
        case measure => simp [intOf]; omega
    · have hT : l.take i = l := List.take_of_length_le (by omega)
      have HF : Hid (RBx w0 b (acc ++ joinF sep.data.toList shAg l) wr ∧ Below b w wr ∧ Fr b w wr) := Lib.hid (by have := Hw.out; rw [hT] at this; exact this)
      clear hT
      go_wp2_with fail
      go_end0
      exact ⟨rfl, HF.out⟩

set_option maxHeartbeats 4000000 in
set_option maxRecDepth 100000 in
theorem bracket_ag {n : Nat} {l : List Ag} {w0 w : World} {b cap : Nat} {acc : List UInt8} {A : Option Addr} (hV : ∀ i (h : i < l.length), AT n l[i]) (h : RBx w0 b acc w) (he : EnvT w0) (hr : RowA (RdArg (RdTr n)) 11 w (fun q => q < b) l A) (o c : UInt8) (hlen : acc.length + (joinF [44, 32] shAg l).length + 2 ≤ 99999999000) (hlm : l.length ≤ 1954687338211) :
    Calls Tryd.prog 87 #[.pointer (some ⟨b, 0, none⟩), .int .u8 (o.toNat : Nat), .slice A l.length cap, .int .u8 (c.toNat : Nat), .func (.func 88) #[] #[]] w (TellP w0 w b (acc ++ (o :: (joinF [44, 32] shAg l ++ [c])))) := by
  have H1 := Lib.hid (rbx_wbyte h o (by omega))
  have HE := Lib.hid he; have HR := Lib.hid hr; have HVV := Lib.hid hV
  have HN : Hid (acc ++ [o] ++ joinF [44, 32] shAg l ++ [c] = acc ++ (o :: (joinF [44, 32] shAg l ++ [c]))) := Lib.hid (by simp)
  clear h he hr hV
  go_enter Tryd.func87, Tryd.ntmps87
  go_wp2_with fail
  refine H1.out.mono ?_
  rintro e w1 ⟨rfl, hR1, hB1, hF1⟩
  have HJ := Lib.hid (join_ag (cap := cap) HVV.out hR1 HE.out (RowA.keep (keepS_Arg (keepS_Tr n)) (fun p hp => hB1.cell hp) (fun _ hq => hq) HR.out) ⟨#[44, 32]⟩ (by
    rw [List.length_append]
    show acc.length + 1 + (joinF [44, 32] shAg l).length ≤ _
    omega) (by decide) hlm)
  have HB1 := Lib.hid (And.intro hB1 hF1)
  clear hR1 hB1 hF1
  go_wp2_with fail
  refine HJ.out.mono ?_
  rintro e w2 ⟨rfl, hR2, hB2, hF2⟩
  have hR2' : RBx w0 b (acc ++ [o] ++ joinF [44, 32] shAg l) w2 := hR2
  have H3 := Lib.hid (rbx_wbyte hR2' c (by rw [List.length_append, List.length_append]; show acc.length + 1 + _ + 1 ≤ _; omega))
  have HB2 := Lib.hid (And.intro (HB1.out.1.trans hB2) (HB1.out.2.trans hF2))
  clear hR2 hR2' hB2 hF2
  go_wp2_with fail
  refine H3.out.mono ?_
  rintro e w3 ⟨rfl, hR3, hB3, hF3⟩
  rw [HN.out] at hR3
  have HF := Lib.hid (And.intro hR3 (And.intro (HB2.out.1.trans hB3) (HB2.out.2.trans hF3)))
  clear hR3 hB3 hF3
  go_wp2_with fail
  go_end0
  exact ⟨rfl, HF.out⟩

end Go.Proofs.YtgmjhoppjjjilaaDoor

/- show: join over steps (written by tools/laws13c.py) -/
namespace Go.Proofs.YtgmjhoppjjjilaaDoor
open Go.ChangeShapes Go.WideShapes Go.ChangeAt Go.RowKit Go.Fl
open Go.Shelf

set_option maxHeartbeats 4000000 in
set_option maxRecDepth 100000 in
theorem join_sp {n : Nat} {l : List Sp} {w0 w : World} {b cap : Nat} {acc : List UInt8} {A : Option Addr} (hV : ∀ i (h : i < l.length), ST n l[i]) (h : RBx w0 b acc w) (he : EnvT w0) (hr : RowA (RdStp (RdTr n)) 2 w (fun q => q < b) l A) (sep : ByteArray) (hlen : acc.length + (joinF sep.data.toList shSp l).length ≤ 99999999000) (hsep : sep.size ≤ 1000) (hlm : l.length ≤ 1954687338211) :
    Calls Tryd.prog 73 #[.pointer (some ⟨b, 0, none⟩), .slice A l.length cap, .string sep, .func (.func 74) #[] #[]] w (TellP w0 w b (acc ++ joinF sep.data.toList shSp l)) := by
  have H := Lib.hid h; have HE := Lib.hid he; have HR := Lib.hid hr; have HVV := Lib.hid hV; have HL := Lib.hid hlen
  have HS := Lib.hid (len_list sep)
  clear h he hr hV hlen
  go_enter Tryd.func73, Tryd.ntmps73
  go_wp2_with fail
  go_loopw [12] (fun vi wr => ∃ i : Nat, vi = .int .i64 i ∧ i ≤ l.length ∧ Hid (RBx w0 b (acc ++ joinF sep.data.toList shSp (l.take i)) wr ∧ Below b w wr ∧ Fr b w wr)) (fun vi _ => l.length - (intOf vi).toNat)
  case atStart => exact ⟨0, rfl, Nat.zero_le _, Lib.hid ⟨by simpa [joinF] using H.out, Below.refl _ _, Fr.refl _ _⟩⟩
  case round =>
    obtain ⟨i, rfl, hi, Hw⟩ := hrel
    by_cases hlt : i < l.length
    · obtain ⟨a, nm, LA, ll, lc, rfl, hab, hrd, e0, e1⟩ := (RowA.keep (keepS_Stp (keepS_Tr n)) (fun p hp => Hw.out.2.1.cell hp) (fun _ hq => hq) HR.out).itemS hlt
      have hlz : (i : Int) < (l.length : Int) := by omega
      obtain ⟨X, hX⟩ : ∃ X, wr.alloc (.cells #[.string nm, .slice LA ll lc] 35) = X := ⟨_, rfl⟩
      have hbX : Below wr.heap.size wr X := hX ▸ (Below.refl _ wr).alloc (Nat.le_refl _) _
      have zX : X.heap[wr.heap.size]? = some (.cells #[.string nm, .slice LA ll lc] 35 (0, 0)) := hX ▸ heap_alloc_new wr _
      have hRX := Hw.out.1.on hbX
      have hblt := Hw.out.1.lt
      have hBX : Below b w X := Hw.out.2.1.trans (hbX.mono (Nat.le_of_lt hblt))
      have hrX : (RdStp (RdTr n)) X (fun q => q < b) l[i] (.agg #[.string nm, .slice LA ll lc]) := (keepS_Stp (keepS_Tr n)) _ _ _ _ _ _ (fun p hp => hbX.cell (Nat.lt_trans hp hblt)) (fun _ hq => hq) hrd
      have htk := take_more hlt
      have hjl := joinF_take sep.data.toList shSp l (i + 1)
      rw [htk, joinF_snoc, List.length_append, List.length_append] at hjl
      obtain ⟨⟨x0, x1⟩, xl⟩ := two_cells' zX
      have HX := Lib.hid hX
      have H2 := Lib.hid (And.intro hRX (And.intro hBX (And.intro hrX (And.intro htk (And.intro hjl (And.intro zX (Hw.out.2.2.trans (Fr.of_below hbX))))))))
      have hlti : (l.take i).length = i := by rw [List.length_take]; omega
      clear hbX zX hRX hBX hrX htk hjl hrd hX
      by_cases h0 : i = 0
      · have hz : ¬ (0 : Int) < (i : Int) := by omega
        have HN : Hid (acc ++ joinF sep.data.toList shSp (l.take i) ++ shSp l[i] = acc ++ joinF sep.data.toList shSp (l.take (i + 1))) := Lib.hid (by
          rw [H2.out.2.2.2.1, joinF_snoc, if_pos (by rw [hlti]; exact h0)]
          simp)
        have HC := Lib.hid (HVV.out i hlt w0 X b _ _ H2.out.1 HE.out H2.out.2.2.1 (by
          have h1 := H2.out.2.2.2.2.1
          have h2 := HL.out
          rw [List.length_append]
          omega))
        clear h0 hlti
        go_upto_region 3 with fail
        rw [HX.out]
        go_wp2_with fail
        refine HC.out.mono ?_
        rintro e w2 ⟨rfl, hR2, hB2, hF2⟩
        rw [HN.out] at hR2
        have HF := Lib.hid (And.intro hR2 (And.intro (H2.out.2.1.trans hB2) (H2.out.2.2.2.2.2.2.trans hF2)))
        clear hR2 hB2 hF2
        go_wp2_with fail
        go_roundw
        case rel => exact ⟨i + 1, by go_num, hlt, HF⟩
        case measure => simp [intOf]; omega
      · have hz : (0 : Int) < (i : Int) := by omega
        have HW := Lib.hid (rbx_wstr H2.out.1 sep (by
          have h1 := H2.out.2.2.2.2.1
          have h2 := HL.out
          have h3 := joinF_take sep.data.toList shSp l i
          rw [List.length_append]
          omega))
        have HN : Hid (acc ++ joinF sep.data.toList shSp (l.take i) ++ sep.data.toList ++ shSp l[i] = acc ++ joinF sep.data.toList shSp (l.take (i + 1))) := Lib.hid (by
          rw [H2.out.2.2.2.1, joinF_snoc, if_neg (by rw [hlti]; exact h0)]
          simp)
        have HLL : Hid ((acc ++ joinF sep.data.toList shSp (l.take i) ++ sep.data.toList).length + (shSp l[i]).length ≤ 99999999000) := Lib.hid (by
          have h1 := H2.out.2.2.2.2.1
          rw [if_neg (by rw [hlti]; exact h0)] at h1
          have h2 := HL.out
          rw [List.length_append, List.length_append]
          omega)
        clear h0 hlti
        go_upto_region 3 with fail
        rw [HX.out]
        go_wp2_with fail
        refine HW.out.mono ?_
        rintro e w1 ⟨rfl, hR1, hB1, hF1⟩
        have zX1 : w1.heap[wr.heap.size]? = some (.cells #[.string nm, .slice LA ll lc] 35 (0, 0)) := hF1 _ _ _ (by decide) (by have := Hw.out.1.lt; omega) H2.out.2.2.2.2.2.1
        have hrX1 : (RdStp (RdTr n)) w1 (fun q => q < b) l[i] (.agg #[.string nm, .slice LA ll lc]) := (keepS_Stp (keepS_Tr n)) _ _ _ _ _ _ (fun p hp => hB1.cell hp) (fun _ hq => hq) H2.out.2.2.1
        have HC := Lib.hid (HVV.out i hlt w0 w1 b _ _ hR1 HE.out hrX1 HLL.out)
        obtain ⟨⟨y0, y1⟩, yl⟩ := two_cells' zX1
        have H1 := Lib.hid (And.intro (H2.out.2.1.trans hB1) (H2.out.2.2.2.2.2.2.trans hF1))
        clear hR1 hB1 hF1 zX1 hrX1
        go_wp2_with fail
        refine HC.out.mono ?_
        rintro e w2 ⟨rfl, hR2, hB2, hF2⟩
        rw [HN.out] at hR2
        have HF := Lib.hid (And.intro hR2 (And.intro (H1.out.1.trans hB2) (H1.out.2.trans hF2)))
        clear hR2 hB2 hF2
        go_wp2_with fail
        go_roundw
        case rel => exact ⟨i + 1, by go_num, hlt, HF⟩
        case measure => simp [intOf]; omega
    · have hT : l.take i = l := List.take_of_length_le (by omega)
      have HF : Hid (RBx w0 b (acc ++ joinF sep.data.toList shSp l) wr ∧ Below b w wr ∧ Fr b w wr) := Lib.hid (by have := Hw.out; rw [hT] at this; exact this)
      clear hT
      go_wp2_with fail
      go_end0
      exact ⟨rfl, HF.out⟩

end Go.Proofs.YtgmjhoppjjjilaaDoor
