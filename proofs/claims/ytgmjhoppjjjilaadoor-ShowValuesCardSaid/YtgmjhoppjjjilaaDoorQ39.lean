/- SqC, SqF -/
import Derived.Test.YtgmjhoppjjjilaaDoorQ38

/- show: join and bracket over predicates (written by tools/laws13c.py) -/
namespace Go.Proofs.YtgmjhoppjjjilaaDoor
open Go.ChangeShapes Go.WideShapes Go.ChangeAt Go.RowKit Go.Fl
open Go.Shelf

set_option maxHeartbeats 4000000 in
set_option maxRecDepth 100000 in
theorem join_pd {l : List Pd} {w0 w : World} {b cap : Nat} {acc : List UInt8} {A : Option Addr} (hV : ∀ i (h : i < l.length), PT l[i]) (h : RBx w0 b acc w) (he : EnvT w0) (hr : RowA RdP 3 w (fun q => q < b) l A) (sep : ByteArray) (hlen : acc.length + (joinF sep.data.toList shPd l).length ≤ 99999999000) (hsep : sep.size ≤ 1000) (hlm : l.length ≤ 1954687338211) :
    Calls Tryd.prog 68 #[.pointer (some ⟨b, 0, none⟩), .slice A l.length cap, .string sep, .func (.func 31) #[] #[]] w (TellP w0 w b (acc ++ joinF sep.data.toList shPd l)) := by
  have H := Lib.hid h; have HE := Lib.hid he; have HR := Lib.hid hr; have HVV := Lib.hid hV; have HL := Lib.hid hlen
  have HS := Lib.hid (len_list sep)
  clear h he hr hV hlen
  go_enter Tryd.func68, Tryd.ntmps68
  go_wp2_with fail
  go_loopw [12] (fun vi wr => ∃ i : Nat, vi = .int .i64 i ∧ i ≤ l.length ∧ Hid (RBx w0 b (acc ++ joinF sep.data.toList shPd (l.take i)) wr ∧ Below b w wr ∧ Fr b w wr)) (fun vi _ => l.length - (intOf vi).toNat)
  case atStart => exact ⟨0, rfl, Nat.zero_le _, Lib.hid ⟨by simpa [joinF] using H.out, Below.refl _ _, Fr.refl _ _⟩⟩
  case round =>
    obtain ⟨i, rfl, hi, Hw⟩ := hrel
    by_cases hlt : i < l.length
    · obtain ⟨a, op, LA, ll, lc, KA, kl, kc, rfl, hab, hrd, e0, e1, e2⟩ := (RowA.keep keepS_Pd (fun p hp => Hw.out.2.1.cell hp) (fun _ hq => hq) HR.out).itemP hlt
      have hlz : (i : Int) < (l.length : Int) := by omega
      obtain ⟨X, hX⟩ : ∃ X, wr.alloc (.cells #[.string op, .slice LA ll lc, .slice KA kl kc] 38) = X := ⟨_, rfl⟩
      have hbX : Below wr.heap.size wr X := hX ▸ (Below.refl _ wr).alloc (Nat.le_refl _) _
      have zX : X.heap[wr.heap.size]? = some (.cells #[.string op, .slice LA ll lc, .slice KA kl kc] 38 (0, 0)) := hX ▸ heap_alloc_new wr _
      have hRX := Hw.out.1.on hbX
      have hblt := Hw.out.1.lt
      have hBX : Below b w X := Hw.out.2.1.trans (hbX.mono (Nat.le_of_lt hblt))
      have hrX : RdP X (fun q => q < b) l[i] (.agg #[.string op, .slice LA ll lc, .slice KA kl kc]) := keepS_Pd _ _ _ _ _ _ (fun p hp => hbX.cell (Nat.lt_trans hp hblt)) (fun _ hq => hq) hrd
      have htk := take_more hlt
      have hjl := joinF_take sep.data.toList shPd l (i + 1)
      rw [htk, joinF_snoc, List.length_append, List.length_append] at hjl
      obtain ⟨⟨x0, x1, x2⟩, xl⟩ := three_cells zX
      have HX := Lib.hid hX
      have H2 := Lib.hid (And.intro hRX (And.intro hBX (And.intro hrX (And.intro htk (And.intro hjl (And.intro zX (Hw.out.2.2.trans (Fr.of_below hbX))))))))
      have hlti : (l.take i).length = i := by rw [List.length_take]; omega
      clear hbX zX hRX hBX hrX htk hjl hrd hX
      by_cases h0 : i = 0
      · have hz : ¬ (0 : Int) < (i : Int) := by omega
        have HN : Hid (acc ++ joinF sep.data.toList shPd (l.take i) ++ shPd l[i] = acc ++ joinF sep.data.toList shPd (l.take (i + 1))) := Lib.hid (by
          rw [H2.out.2.2.2.1, joinF_snoc, if_pos (by rw [hlti]; exact h0)]
          simp)
        have HC := Lib.hid (HVV.out i hlt w0 X b _ _ H2.out.1 HE.out H2.out.2.2.1 (by
          have h1 := H2.out.2.2.2.2.1
          have h2 := HL.out
          rw [List.length_append]
          omega))
        clear h0 hlti
        go_upto_region 3 with fail
        rw [HX.out]
        go_wp2_with fail
        refine HC.out.mono ?_
        rintro e w2 ⟨rfl, hR2, hB2, hF2⟩
        rw [HN.out] at hR2
        have HF := Lib.hid (And.intro hR2 (And.intro (H2.out.2.1.trans hB2) (H2.out.2.2.2.2.2.2.trans hF2)))
        clear hR2 hB2 hF2
        go_wp2_with fail
        go_roundw
        case rel => exact ⟨i + 1, by go_num, hlt, HF⟩
        case measure => simp [intOf]; omega
      · have hz : (0 : Int) < (i : Int) := by omega
        have HW := Lib.hid (rbx_wstr H2.out.1 sep (by
          have h1 := H2.out.2.2.2.2.1
          have h2 := HL.out
          have h3 := joinF_take sep.data.toList shPd l i
          rw [List.length_append]
          omega))
        have HN : Hid (acc ++ joinF sep.data.toList shPd (l.take i) ++ sep.data.toList ++ shPd l[i] = acc ++ joinF sep.data.toList shPd (l.take (i + 1))) := Lib.hid (by
          rw [H2.out.2.2.2.1, joinF_snoc, if_neg (by rw [hlti]; exact h0)]
          simp)
        have HLL : Hid ((acc ++ joinF sep.data.toList shPd (l.take i) ++ sep.data.toList).length + (shPd l[i]).length ≤ 99999999000) := Lib.hid (by
          have h1 := H2.out.2.2.2.2.1
          rw [if_neg (by rw [hlti]; exact h0)] at h1
          have h2 := HL.out
          rw [List.length_append, List.length_append]
          omega)
        clear h0 hlti
        go_upto_region 3 with fail
        rw [HX.out]
        go_wp2_with fail
        refine HW.out.mono ?_
        rintro e w1 ⟨rfl, hR1, hB1, hF1⟩
        have zX1 : w1.heap[wr.heap.size]? = some (.cells #[.string op, .slice LA ll lc, .slice KA kl kc] 38 (0, 0)) := hF1 _ _ _ (by decide) (by have := Hw.out.1.lt; omega) H2.out.2.2.2.2.2.1
        have hrX1 : RdP w1 (fun q => q < b) l[i] (.agg #[.string op, .slice LA ll lc, .slice KA kl kc]) := keepS_Pd _ _ _ _ _ _ (fun p hp => hB1.cell hp) (fun _ hq => hq) H2.out.2.2.1
        have HC := Lib.hid (HVV.out i hlt w0 w1 b _ _ hR1 HE.out hrX1 HLL.out)
        obtain ⟨⟨y0, y1, y2⟩, yl⟩ := three_cells zX1
        have H1 := Lib.hid (And.intro (H2.out.2.1.trans hB1) (H2.out.2.2.2.2.2.2.trans hF1))
        clear hR1 hB1 hF1 zX1 hrX1
        go_wp2_with fail
        refine HC.out.mono ?_
        rintro e w2 ⟨rfl, hR2, hB2, hF2⟩
        rw [HN.out] at hR2
        have HF := Lib.hid (And.intro hR2 (And.intro (H1.out.1.trans hB2) (H1.out.2.trans hF2)))
        clear hR2 hB2 hF2
        go_wp2_with fail
        go_roundw
        case rel => exact ⟨i + 1, by go_num, hlt, HF⟩
        case measure => simp [intOf]; omega
    · have hT : l.take i = l := List.take_of_length_le (by omega)
      have HF : Hid (RBx w0 b (acc ++ joinF sep.data.toList shPd l) wr ∧ Below b w wr ∧ Fr b w wr) := Lib.hid (by have := Hw.out; rw [hT] at this; exact this)
      clear hT
      go_wp2_with fail
      go_end0
      exact ⟨rfl, HF.out⟩

set_option maxHeartbeats 4000000 in
set_option maxRecDepth 100000 in
theorem bracket_pd {l : List Pd} {w0 w : World} {b cap : Nat} {acc : List UInt8} {A : Option Addr} (hV : ∀ i (h : i < l.length), PT l[i]) (h : RBx w0 b acc w) (he : EnvT w0) (hr : RowA RdP 3 w (fun q => q < b) l A) (o c : UInt8) (hlen : acc.length + (joinF [44, 32] shPd l).length + 2 ≤ 99999999000) (hlm : l.length ≤ 1954687338211) :
    Calls Tryd.prog 47 #[.pointer (some ⟨b, 0, none⟩), .int .u8 (o.toNat : Nat), .slice A l.length cap, .int .u8 (c.toNat : Nat), .func (.func 31) #[] #[]] w (TellP w0 w b (acc ++ (o :: (joinF [44, 32] shPd l ++ [c])))) := by
  have H1 := Lib.hid (rbx_wbyte h o (by omega))
  have HE := Lib.hid he; have HR := Lib.hid hr; have HVV := Lib.hid hV
  have HN : Hid (acc ++ [o] ++ joinF [44, 32] shPd l ++ [c] = acc ++ (o :: (joinF [44, 32] shPd l ++ [c]))) := Lib.hid (by simp)
  clear h he hr hV
  go_enter Tryd.func47, Tryd.ntmps47
  go_wp2_with fail
  refine H1.out.mono ?_
  rintro e w1 ⟨rfl, hR1, hB1, hF1⟩
  have HJ := Lib.hid (join_pd (cap := cap) HVV.out hR1 HE.out (RowA.keep keepS_Pd (fun p hp => hB1.cell hp) (fun _ hq => hq) HR.out) ⟨#[44, 32]⟩ (by
    rw [List.length_append]
    show acc.length + 1 + (joinF [44, 32] shPd l).length ≤ _
    omega) (by decide) hlm)
  have HB1 := Lib.hid (And.intro hB1 hF1)
  clear hR1 hB1 hF1
  go_wp2_with fail
  refine HJ.out.mono ?_
  rintro e w2 ⟨rfl, hR2, hB2, hF2⟩
  have hR2' : RBx w0 b (acc ++ [o] ++ joinF [44, 32] shPd l) w2 := hR2
  have H3 := Lib.hid (rbx_wbyte hR2' c (by rw [List.length_append, List.length_append]; show acc.length + 1 + _ + 1 ≤ _; omega))
  have HB2 := Lib.hid (And.intro (HB1.out.1.trans hB2) (HB1.out.2.trans hF2))
  clear hR2 hR2' hB2 hF2
  go_wp2_with fail
  refine H3.out.mono ?_
  rintro e w3 ⟨rfl, hR3, hB3, hF3⟩
  rw [HN.out] at hR3
  have HF := Lib.hid (And.intro hR3 (And.intro (HB2.out.1.trans hB3) (HB2.out.2.trans hF3)))
  clear hR3 hB3 hF3
  go_wp2_with fail
  go_end0
  exact ⟨rfl, HF.out⟩

end Go.Proofs.YtgmjhoppjjjilaaDoor

/- show: pred (written by tools/laws13c.py) -/
namespace Go.Proofs.YtgmjhoppjjjilaaDoor
open Go.ChangeShapes Go.WideShapes Go.ChangeAt Go.RowKit Go.Fl
open Go.Shelf

theorem ofL_addC {P : Program} (a b : List UInt8) (h : a.length + b.length ≤ 9223372036854775807) (W : World) : (Op.stringOp .add (ofL a) (ofL b)).run P W = .ok (.string (ofL (a ++ b))) W := by
  rw [run_string_add_sum W _ _ (by rw [ofL_size, ofL_size]; omega), ofL_cat]

set_option maxHeartbeats 4000000 in
set_option maxRecDepth 100000 in
theorem pt_join {op : ByteArray} {l : List T} {a1 a2 : Pd} (h0' : op.data.toList = [97, 110, 100] ∨ op.data.toList = [111, 114]) (iha : PT a1) (ihb : PT a2) : PT (.mk op l [a1, a2]) := by
  intro w0 w b acc v h he hr hlen
  obtain ⟨A, c, B, d, rfl, hl, hk⟩ := hr.look
  rw [show ([a1, a2]).length = 2 from rfl] at hk ⊢
  have hbl := h.lt
  obtain ⟨X, hX⟩ : ∃ X, w.alloc (.cells #[.string op, .slice A l.length c, .slice B 2 d] 38) = X := ⟨_, rfl⟩
  have hbX : Below w.heap.size w X := hX ▸ (Below.refl _ w).alloc (Nat.le_refl _) _
  have zX : X.heap[w.heap.size]? = some (.cells #[.string op, .slice A l.length c, .slice B 2 d] 38 (0, 0)) := hX ▸ heap_alloc_new w _
  have hRX := h.on hbX
  have hBX : Below b w X := hbX.mono (Nat.le_of_lt hbl)
  have hFX : Fr b w X := Fr.of_below hbX
  have hT := toL op
  obtain ⟨hrow, -, hdc, hdm⟩ := hk.rowA
  have hrowX : RowA RdP 3 X (fun q => q < b) [a1, a2] B := RowA.keep keepS_Pd (fun p hp => hbX.cell (Nat.lt_trans hp hbl)) (fun _ hq => hq) hrow
  rcases hk with ⟨hk0, -⟩ | ⟨g, dd, hkg, -, -, hgb, -⟩
  · cases hk0
  injection hkg with e1 e2 e3
  subst e1; subst e3
  clear hrow e2
  obtain ⟨a0, kop, kLA, kll, klc, kKA, kkl, kkc, ha0, -, hr0, q0, q1, q2⟩ := hrowX.itemP (i := 0) (Nat.succ_pos _)
  obtain rfl : a0 = ⟨g, 0, none⟩ := (Option.some.inj ha0).symm
  rw [show (⟨g, 0, none⟩ : Addr).add (0 * 3) = ⟨g, 0, none⟩ from rfl] at q0 q1 q2
  rcases h0' with h0 | h0
  · -- and
    have b1 : (op.toList == [97, 110, 100]) = true := by rw [hT, h0]; rfl

    have hd2 : 2 ≤ d := hdc
    have hd3 : ¬ d = 1 := by omega
    have hos : op.size = 3 := by rw [← len_list op, h0]; rfl
    have hN1 : ∀ W, (Op.stringOp .add ⟨#[46]⟩ op).run Tryd.prog W = .ok (.string (ofL (46 :: op.data.toList))) W := fun W => by
      have := ofL_addC (P := Tryd.prog) [46] op.data.toList (by rw [len_list]; show 1 + op.size ≤ _; omega) W
      rw [ofL_list] at this
      exact this
    obtain ⟨N1, hN⟩ : ∃ N1, ofL (46 :: op.data.toList) = N1 := ⟨_, rfl⟩
    rw [hN] at hN1
    have hN1s : N1.size ≤ 4 := by rw [← hN, ofL_size, List.length_cons, len_list]; omega
    have hNd : N1.data.toList = 46 :: op.data.toList := by rw [← hN]; simp [ofL]
    have HT : Hid (acc ++ shPd a1 ++ (46 :: op.data.toList) ++ (40 :: (joinF [44, 32] shPd [a2] ++ [41])) = acc ++ shPd (.mk op l [a1, a2])) := Lib.hid (by rw [shPd]; simp [joinF, tailF])
    have HLEN : Hid ((acc ++ shPd a1).length ≤ 99999999000 ∧ (acc ++ shPd a1).length + N1.size ≤ 99999999000 ∧ (acc ++ shPd a1 ++ (46 :: op.data.toList)).length + (joinF [44, 32] shPd [a2]).length + 2 ≤ 99999999000) := Lib.hid (by
      rw [shPd] at hlen
      simp only [List.length_append, List.length_cons, List.length_nil, joinF, tailF, List.append_nil, len_list] at hlen ⊢
      refine ⟨by omega, by omega, by omega⟩)
    have HK2 : Hid (RowA RdP 3 X (fun q => q < b) [a2] (some ⟨g, 3, none⟩)) := Lib.hid (fun j hj => by
      obtain rfl : j = 0 := by simp at hj; omega
      obtain ⟨a, u, h1, h2, h3, h4⟩ := hrowX 1 (Nat.succ_lt_succ (Nat.succ_pos _))
      obtain rfl := Option.some.inj h1
      exact ⟨_, u, rfl, hgb, fun k c hc => by have := h3 k c hc; rw [adr_add] at this ⊢; rw [← this, show 0 + (1 * 3 + k) = 3 + (0 * 3 + k) by omega], h4⟩)
    have HP1 := Lib.hid (iha w0 X b acc _ hRX he hr0 (by have := HLEN.out.1; rw [List.length_append] at this; exact this))
    obtain ⟨⟨x0, x1, x2⟩, xl⟩ := three_cells zX
    have HZ := Lib.hid zX; have HB := Lib.hid (And.intro hBX hFX); have HE := Lib.hid he; have HX := Lib.hid hX; have HI := Lib.hid ihb
    have HNd := Lib.hid hNd
    clear hr hl hrowX hr0 hT hNd hRX hBX hFX zX hN hlen he iha ihb hbX hX ha0
    go_enter Tryd.func31, Tryd.ntmps31
    go_upto_region 3 with fail
    rw [HX.out]
    go_wp2_with fail
    refine HP1.out.mono ?_
    rintro e w1 ⟨rfl, hR1, hB1, hF1⟩
    have z1 := hF1 _ _ _ (by decide) (by omega) HZ.out
    obtain ⟨⟨y0, y1, y2⟩, yl⟩ := three_cells z1
    have HB1 := Lib.hid (And.intro (HB.out.1.trans hB1) (HB.out.2.trans hF1))
    have HW := Lib.hid (rbx_wstr hR1 N1 (by have := HLEN.out.2.1; omega))
    have HZ1 := Lib.hid z1
    have HR2 := Lib.hid (RowA.keep keepS_Pd (fun p hp => hB1.cell hp) (fun _ hq => hq) HK2.out)
    clear hR1 hB1 hF1 z1
    go_wp2_with fail
    refine HW.out.mono ?_
    rintro e w2 ⟨rfl, hR2, hB2, hF2⟩
    have z2 := hF2 _ _ _ (by decide) (by omega) HZ1.out
    obtain ⟨⟨t0, t1, t2⟩, tl⟩ := three_cells z2
    have HBR := Lib.hid (bracket_pd (cap := d - 1) (l := [a2]) (fun i hi => by
        obtain rfl : i = 0 := by simp at hi; omega
        exact HI.out) hR2 HE.out (RowA.keep keepS_Pd (fun p hp => hB2.cell hp) (fun _ hq => hq) HR2.out) 40 41 (by rw [HNd.out]; exact HLEN.out.2.2) (by show 1 ≤ _; decide))
    have HB2 := Lib.hid (And.intro (HB1.out.1.trans hB2) (HB1.out.2.trans hF2))
    clear hR2 hB2 hF2 z2
    go_wp2_with fail
    refine HBR.out.mono ?_
    rintro e w3 ⟨rfl, hR3, hB3, hF3⟩
    rw [HNd.out, HT.out] at hR3
    have HF := Lib.hid (And.intro hR3 (And.intro (HB2.out.1.trans hB3) (HB2.out.2.trans hF3)))
    clear hR3 hB3 hF3
    go_wp2_with fail
    go_end0
    exact ⟨rfl, HF.out⟩
  · -- or
    have b1 : (op.toList == [111, 114]) = true := by rw [hT, h0]; rfl
    have b2 : (op.toList == [97, 110, 100]) = false := by rw [hT, h0]; decide
    have hd2 : 2 ≤ d := hdc
    have hd3 : ¬ d = 1 := by omega
    have hos : op.size = 2 := by rw [← len_list op, h0]; rfl
    have hN1 : ∀ W, (Op.stringOp .add ⟨#[46]⟩ op).run Tryd.prog W = .ok (.string (ofL (46 :: op.data.toList))) W := fun W => by
      have := ofL_addC (P := Tryd.prog) [46] op.data.toList (by rw [len_list]; show 1 + op.size ≤ _; omega) W
      rw [ofL_list] at this
      exact this
    obtain ⟨N1, hN⟩ : ∃ N1, ofL (46 :: op.data.toList) = N1 := ⟨_, rfl⟩
    rw [hN] at hN1
    have hN1s : N1.size ≤ 4 := by rw [← hN, ofL_size, List.length_cons, len_list]; omega
    have hNd : N1.data.toList = 46 :: op.data.toList := by rw [← hN]; simp [ofL]
    have HT : Hid (acc ++ shPd a1 ++ (46 :: op.data.toList) ++ (40 :: (joinF [44, 32] shPd [a2] ++ [41])) = acc ++ shPd (.mk op l [a1, a2])) := Lib.hid (by rw [shPd]; simp [joinF, tailF])
    have HLEN : Hid ((acc ++ shPd a1).length ≤ 99999999000 ∧ (acc ++ shPd a1).length + N1.size ≤ 99999999000 ∧ (acc ++ shPd a1 ++ (46 :: op.data.toList)).length + (joinF [44, 32] shPd [a2]).length + 2 ≤ 99999999000) := Lib.hid (by
      rw [shPd] at hlen
      simp only [List.length_append, List.length_cons, List.length_nil, joinF, tailF, List.append_nil, len_list] at hlen ⊢
      refine ⟨by omega, by omega, by omega⟩)
    have HK2 : Hid (RowA RdP 3 X (fun q => q < b) [a2] (some ⟨g, 3, none⟩)) := Lib.hid (fun j hj => by
      obtain rfl : j = 0 := by simp at hj; omega
      obtain ⟨a, u, h1, h2, h3, h4⟩ := hrowX 1 (Nat.succ_lt_succ (Nat.succ_pos _))
      obtain rfl := Option.some.inj h1
      exact ⟨_, u, rfl, hgb, fun k c hc => by have := h3 k c hc; rw [adr_add] at this ⊢; rw [← this, show 0 + (1 * 3 + k) = 3 + (0 * 3 + k) by omega], h4⟩)
    have HP1 := Lib.hid (iha w0 X b acc _ hRX he hr0 (by have := HLEN.out.1; rw [List.length_append] at this; exact this))
    obtain ⟨⟨x0, x1, x2⟩, xl⟩ := three_cells zX
    have HZ := Lib.hid zX; have HB := Lib.hid (And.intro hBX hFX); have HE := Lib.hid he; have HX := Lib.hid hX; have HI := Lib.hid ihb
    have HNd := Lib.hid hNd
    clear hr hl hrowX hr0 hT hNd hRX hBX hFX zX hN hlen he iha ihb hbX hX ha0
    go_enter Tryd.func31, Tryd.ntmps31
    go_upto_region 3 with fail
    rw [HX.out]
    go_wp2_with fail
    refine HP1.out.mono ?_
    rintro e w1 ⟨rfl, hR1, hB1, hF1⟩
    have z1 := hF1 _ _ _ (by decide) (by omega) HZ.out
    obtain ⟨⟨y0, y1, y2⟩, yl⟩ := three_cells z1
    have HB1 := Lib.hid (And.intro (HB.out.1.trans hB1) (HB.out.2.trans hF1))
    have HW := Lib.hid (rbx_wstr hR1 N1 (by have := HLEN.out.2.1; omega))
    have HZ1 := Lib.hid z1
    have HR2 := Lib.hid (RowA.keep keepS_Pd (fun p hp => hB1.cell hp) (fun _ hq => hq) HK2.out)
    clear hR1 hB1 hF1 z1
    go_wp2_with fail
    refine HW.out.mono ?_
    rintro e w2 ⟨rfl, hR2, hB2, hF2⟩
    have z2 := hF2 _ _ _ (by decide) (by omega) HZ1.out
    obtain ⟨⟨t0, t1, t2⟩, tl⟩ := three_cells z2
    have HBR := Lib.hid (bracket_pd (cap := d - 1) (l := [a2]) (fun i hi => by
        obtain rfl : i = 0 := by simp at hi; omega
        exact HI.out) hR2 HE.out (RowA.keep keepS_Pd (fun p hp => hB2.cell hp) (fun _ hq => hq) HR2.out) 40 41 (by rw [HNd.out]; exact HLEN.out.2.2) (by show 1 ≤ _; decide))
    have HB2 := Lib.hid (And.intro (HB1.out.1.trans hB2) (HB1.out.2.trans hF2))
    clear hR2 hB2 hF2 z2
    go_wp2_with fail
    refine HBR.out.mono ?_
    rintro e w3 ⟨rfl, hR3, hB3, hF3⟩
    rw [HNd.out, HT.out] at hR3
    have HF := Lib.hid (And.intro hR3 (And.intro (HB2.out.1.trans hB3) (HB2.out.2.trans hF3)))
    clear hR3 hB3 hF3
    go_wp2_with fail
    go_end0
    exact ⟨rfl, HF.out⟩

set_option maxHeartbeats 4000000 in
set_option maxRecDepth 100000 in
theorem pt_neg {op : ByteArray} {l : List T} {a1 : Pd} (h0 : op.data.toList = [110, 111, 116]) (iha : PT a1) : PT (.mk op l [a1]) := by
  intro w0 w b acc v h he hr hlen
  obtain ⟨A, c, B, d, rfl, hl, hk⟩ := hr.look
  rw [show ([a1]).length = 1 from rfl] at hk ⊢
  have hbl := h.lt
  obtain ⟨X, hX⟩ : ∃ X, w.alloc (.cells #[.string op, .slice A l.length c, .slice B 1 d] 38) = X := ⟨_, rfl⟩
  have hbX : Below w.heap.size w X := hX ▸ (Below.refl _ w).alloc (Nat.le_refl _) _
  have zX : X.heap[w.heap.size]? = some (.cells #[.string op, .slice A l.length c, .slice B 1 d] 38 (0, 0)) := hX ▸ heap_alloc_new w _
  have hRX := h.on hbX
  have hBX : Below b w X := hbX.mono (Nat.le_of_lt hbl)
  have hFX : Fr b w X := Fr.of_below hbX
  have hT := toL op
  obtain ⟨hrow, -, hdc, hdm⟩ := hk.rowA
  have hrowX : RowA RdP 3 X (fun q => q < b) [a1] B := RowA.keep keepS_Pd (fun p hp => hbX.cell (Nat.lt_trans hp hbl)) (fun _ hq => hq) hrow
  rcases hk with ⟨hk0, -⟩ | ⟨g, dd, hkg, -, -, hgb, -⟩
  · cases hk0
  injection hkg with e1 e2 e3
  subst e1; subst e3
  clear hrow e2
  obtain ⟨a0, kop, kLA, kll, klc, kKA, kkl, kkc, ha0, -, hr0, q0, q1, q2⟩ := hrowX.itemP (i := 0) (Nat.succ_pos _)
  obtain rfl : a0 = ⟨g, 0, none⟩ := (Option.some.inj ha0).symm
  rw [show (⟨g, 0, none⟩ : Addr).add (0 * 3) = ⟨g, 0, none⟩ from rfl] at q0 q1 q2
  have b1 : (op.toList == [110, 111, 116]) = true := by rw [hT, h0]; rfl
  have HT : Hid (acc ++ shPd a1 ++ txNgt = acc ++ shPd (.mk op l [a1])) := Lib.hid (by rw [shPd]; simp)
  have HLEN : Hid ((acc ++ shPd a1).length + 9 ≤ 99999999000) := Lib.hid (by
    rw [shPd] at hlen
    simp only [List.length_append] at hlen ⊢
    have : txNgt.length = 9 := rfl
    omega)
  have HP1 := Lib.hid (iha w0 X b acc _ hRX he hr0 (by have := HLEN.out; rw [List.length_append] at this; omega))
  obtain ⟨⟨x0, x1, x2⟩, xl⟩ := three_cells zX
  have HB := Lib.hid (And.intro hBX hFX); have HX := Lib.hid hX
  clear hr hl hrowX hr0 hT hRX hBX hFX zX hlen he iha hbX hX ha0 h0
  go_enter Tryd.func31, Tryd.ntmps31
  go_upto_region 3 with fail
  rw [HX.out]
  go_wp2_with fail
  refine HP1.out.mono ?_
  rintro e w1 ⟨rfl, hR1, hB1, hF1⟩
  have HB1 := Lib.hid (And.intro (HB.out.1.trans hB1) (HB.out.2.trans hF1))
  have HW := Lib.hid (rbx_wstr hR1 ⟨#[46, 110, 101, 103, 97, 116, 101, 40, 41]⟩ (by have := HLEN.out; show _ + 9 ≤ _; omega))
  clear hR1 hB1 hF1
  go_wp2_with fail
  refine HW.out.mono ?_
  rintro e w2 ⟨rfl, hR2, hB2, hF2⟩
  have hR2' : RBx w0 b (acc ++ shPd (.mk op l [a1])) w2 := by rw [← HT.out]; exact hR2
  have HF := Lib.hid (And.intro hR2' (And.intro (HB1.out.1.trans hB2) (HB1.out.2.trans hF2)))
  clear hR2 hR2' hB2 hF2
  go_wp2_with fail
  go_end0
  exact ⟨rfl, HF.out⟩

set_option maxHeartbeats 4000000 in
set_option maxRecDepth 100000 in
theorem pt_plain {op : ByteArray} {l : List T} (hsm : smTs' l) : PT (.mk op l []) := by
  intro w0 w b acc v h he hr hlen
  obtain ⟨A, c, B, d, rfl, hl, hk⟩ := hr.look
  rw [show (([] : List Pd)).length = 0 from rfl] at hk ⊢
  have hbl := h.lt
  obtain ⟨X, hX⟩ : ∃ X, w.alloc (.cells #[.string op, .slice A l.length c, .slice B 0 d] 38) = X := ⟨_, rfl⟩
  have hbX : Below w.heap.size w X := hX ▸ (Below.refl _ w).alloc (Nat.le_refl _) _
  have zX : X.heap[w.heap.size]? = some (.cells #[.string op, .slice A l.length c, .slice B 0 d] 38 (0, 0)) := hX ▸ heap_alloc_new w _
  have hRX := h.on hbX
  have hBX : Below b w X := hbX.mono (Nat.le_of_lt hbl)
  have hFX : Fr b w X := Fr.of_below hbX
  have hT := toL op
  obtain ⟨LA, lc, hle, -, -, -, hvl⟩ := hl.vals
  injection hle with e1 e2 e3
  subst e1; subst e3
  have HT : Hid (acc ++ op.data.toList ++ (40 :: (shTs l ++ [41])) = acc ++ shPd (.mk op l [])) := Lib.hid (by rw [shPd]; simp)
  have HLEN : Hid ((acc ++ op.data.toList).length ≤ 99999999000 ∧ (acc ++ op.data.toList).length + (shTs l).length + 2 ≤ 99999999000) := Lib.hid (by
    rw [shPd] at hlen
    simp only [List.length_append, List.length_cons, List.length_nil] at hlen ⊢
    refine ⟨by omega, by omega⟩)
  have HW := Lib.hid (rbx_wstr hRX op (by have := HLEN.out.1; rw [List.length_append, len_list] at this; omega))
  have HVX := Lib.hid (RdSL.keepS (fun p hp => hbX.cell (Nat.lt_trans hp hbl)) (fun _ hq => hq) hvl)
  have hlm : l.length ≤ 1954687338211 := by
    have h1 := hlen
    have h2 := sh_count l
    rw [shPd, List.length_append, List.length_cons, List.length_append] at h1
    omega
  obtain ⟨⟨x0, x1, x2⟩, xl⟩ := three_cells zX
  have HZ := Lib.hid zX; have HB := Lib.hid (And.intro hBX hFX); have HE := Lib.hid he; have HX := Lib.hid hX
  clear hr hl hT hRX hBX hFX zX hlen he hbX hX hvl e2 hk
  go_enter Tryd.func31, Tryd.ntmps31
  go_upto_region 3 with fail
  rw [HX.out]
  go_wp2_with fail
  refine HW.out.mono ?_
  rintro e w1 ⟨rfl, hR1, hB1, hF1⟩
  have z1 := hF1 _ _ _ (by decide) (by omega) HZ.out
  obtain ⟨⟨y0, y1, y2⟩, yl⟩ := three_cells z1
  have HBR := Lib.hid (bracket_val (cap := c) (fun i hi => value_any _ (smTs_get hsm _ (List.getElem_mem hi))) hR1 HE.out (RdSL.keepS (fun p hp => hB1.cell hp) (fun _ hq => hq) HVX.out) 40 41 HLEN.out.2 hlm)
  have HB1 := Lib.hid (And.intro (HB.out.1.trans hB1) (HB.out.2.trans hF1))
  clear hR1 hB1 hF1 z1
  go_wp2_with fail
  refine HBR.out.mono ?_
  rintro e w2 ⟨rfl, hR2, hB2, hF2⟩
  rw [HT.out] at hR2
  have HF := Lib.hid (And.intro hR2 (And.intro (HB1.out.1.trans hB2) (HB1.out.2.trans hF2)))
  clear hR2 hB2 hF2
  go_wp2_with fail
  go_end0
  exact ⟨rfl, HF.out⟩

/-- predicates of parsers are told as they are -/
theorem pred_told {p : Pd} (h : Pgd p) : PT p := by
  induction h with
  | plain h hl => exact pt_plain hl
  | join h _ _ ha hb => exact pt_join h ha hb
  | neg h _ ha => exact pt_neg h ha

end Go.Proofs.YtgmjhoppjjjilaaDoor
