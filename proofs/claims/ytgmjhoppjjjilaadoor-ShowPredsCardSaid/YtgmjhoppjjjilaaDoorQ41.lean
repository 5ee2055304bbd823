/- SqG, SqH -/
import Derived.Test.YtgmjhoppjjjilaaDoorQ39
import Derived.Test.YtgmjhoppjjjilaaDoorQ40
import Derived.Test.YtgmjhoppjjjilaaDoorQ33

/- show: Pred; arguments that are values or predicates; steps; Query -/
namespace Go.Proofs.YtgmjhoppjjjilaaDoor
open Go.ChangeShapes Go.WideShapes Go.ChangeAt Go.RowKit Go.Fl
open Go.Shelf

set_option maxHeartbeats 4000000 in
set_option maxRecDepth 100000 in
theorem told_pred {x : Pd} (hV : PT x) {w : World} {v : Value} (he : EnvT w) (hr : RdP w (fun q => q < w.heap.size) x v) (hlen : (shPd x).length ≤ 99999999000) :
    Calls Tryd.prog 30 #[v, .func (.func 31) #[] #[]] w fun z w' => z = .returned (.string (ofL (shPd x))) ∧ Below w.heap.size w w' := by
  obtain ⟨op, l, kids⟩ := x
  obtain ⟨A, c, B, d, rfl, -, -⟩ := hr.look
  obtain ⟨W1, hW1⟩ : ∃ W, w.alloc (.cells #[.string op, .slice A l.length c, .slice B kids.length d] 38) = W := ⟨_, rfl⟩
  have hb1 : Below w.heap.size w W1 := hW1 ▸ (Below.refl _ w).alloc (Nat.le_refl _) _
  have z1 : W1.heap[w.heap.size]? = some (.cells #[.string op, .slice A l.length c, .slice B kids.length d] 38 (0, 0)) := hW1 ▸ heap_alloc_new w _
  have hR := RBx.start w W1 hb1
  obtain ⟨W2, hW2⟩ : ∃ W, W1.alloc (.cells #[.pointer none, .slice none 0 0] 78) = W := ⟨_, rfl⟩
  rw [hW2] at hR
  have hb2 : Below W1.heap.size W1 W2 := hW2 ▸ (Below.refl _ W1).alloc (Nat.le_refl _) _
  have z2 := (hb2.block _ (Array.getElem?_eq_some_iff.1 z1).1).trans z1
  have hlt1 : w.heap.size < W1.heap.size := (Array.getElem?_eq_some_iff.1 z1).1
  have hr2 : RdP W2 (fun q => q < W1.heap.size) (.mk op l kids) (.agg #[.string op, .slice A l.length c, .slice B kids.length d]) := keepS_Pd _ _ (fun q => q < w.heap.size) _ _ _ (fun p (hp : p.block < w.heap.size) => (hb2.cell (Nat.lt_trans hp hlt1)).trans (hb1.cell hp)) (fun q (hq : q < w.heap.size) => Nat.lt_trans hq hlt1) hr
  have HC := Lib.hid (hV w W2 W1.heap.size [] _ hR he hr2 (by rw [List.length_nil]; omega))
  obtain ⟨⟨x0, x1, x2⟩, xl⟩ := three_cells z2
  have HB := Lib.hid (hb1.trans (hb2.mono hb1.size))
  clear hr he hV hb1 z1 hR hb2 z2 hr2 hlen
  go_enter Tryd.func30, Tryd.ntmps30
  go_wp2_with fail
  refine HC.out.mono ?_
  rintro e w3 ⟨rfl, hR3, hB3, hF3⟩
  have HS := Lib.hid (rbx_str hR3)
  clear hR3 hB3 hF3
  go_wp2_with fail
  refine HS.out.mono ?_
  rintro e w4 ⟨rfl, hb4, -⟩
  have HB4 := Lib.hid hb4
  clear hb4
  go_wp2_with fail
  go_ret
  exact ⟨by first | rfl | simp, HB4.out⟩

theorem show_pred {x : Pd} (hx : Pgd x) {w : World} {v : Value} (he : EnvT w) (hr : RdP w (fun q => q < w.heap.size) x v) (hlen : (shPd x).length ≤ 99999999000) :
    Calls Tryd.prog 12 #[v] w fun z w' => z = .returned (.string (ofL (shPd x))) ∧ Below w.heap.size w w' := by
  have hva := pred_told hx
  obtain ⟨op, l, kids⟩ := x
  obtain ⟨A, c, B, d, rfl, -, -⟩ := hr.look
  have HC := Lib.hid (fun (W : World) (hb : Below w.heap.size w W) => told_pred hva (he.on hb) (keepS_Pd _ _ (fun q => q < w.heap.size) _ _ _ (fun p (hp : p.block < w.heap.size) => hb.cell hp) (fun q (hq : q < w.heap.size) => Nat.lt_of_lt_of_le hq hb.size) hr) hlen)
  have HB := Lib.hid ((Below.refl _ w).alloc (Nat.le_refl _) (.cells #[.string op, .slice A l.length c, .slice B kids.length d] 38))
  clear he hr hlen hva hx
  go_enter Tryd.func12, Tryd.ntmps12
  go_wp2_with fail
  refine (HC.out _ HB.out).mono ?_
  rintro e w1 ⟨rfl, hb1⟩
  have HB1 := Lib.hid (HB.out.trans (hb1.mono HB.out.size))
  clear hb1
  go_wp2_with fail
  go_ret
  exact ⟨rfl, HB1.out⟩

set_option maxHeartbeats 4000000 in
set_option maxRecDepth 100000 in
theorem at_value {n : Nat} {v : T} {p : Pd} {t : List Sp} (hV : VT v) : AT n (.mk 1 v p t) := by
  intro w0 w b acc u h he hr hlen
  obtain ⟨kk, bb, nn, ff, ss, lA, ll, lc, op, oA, ol, oc, kA, kl, kc, tA, tl, tc, rfl, h1, -, -⟩ := hr.look
  have hT : shAg (.mk 1 v p t) = shT v := by rw [shAg]; rfl
  rw [hT] at hlen ⊢
  obtain ⟨X, hX⟩ : ∃ X, w.alloc (.cells #[.int .i64 1, .int .i64 kk, .bool bb, .int .i64 nn, .float .f64 ff, .string ss, .slice lA ll lc, .string op, .slice oA ol oc, .slice kA kl kc, .slice tA tl tc] 40) = X := ⟨_, rfl⟩
  have hbX : Below w.heap.size w X := hX ▸ (Below.refl _ w).alloc (Nat.le_refl _) _
  have zX : X.heap[w.heap.size]? = some (.cells #[.int .i64 1, .int .i64 kk, .bool bb, .int .i64 nn, .float .f64 ff, .string ss, .slice lA ll lc, .string op, .slice oA ol oc, .slice kA kl kc, .slice tA tl tc] 40 (0, 0)) := hX ▸ heap_alloc_new w _
  have hbl := h.lt
  have HP := Lib.hid (hV w0 X b acc _ (h.on hbX) he (RdS.keepS (fun p hp => hbX.cell (Nat.lt_trans hp hbl)) (fun _ hq => hq) h1) hlen)
  have HB : Hid (Below b w X ∧ Fr b w X) := Lib.hid ⟨hbX.mono (Nat.le_of_lt hbl), Fr.of_below hbX⟩
  obtain ⟨⟨x0, x1, x2, x3, x4, x5, x6, x7, x8, x9, x10⟩, -, xl⟩ := ele_cells zX
  have HX := Lib.hid hX
  clear h he hr h1 hlen hT hbX zX hX hV
  go_enter Tryd.func88, Tryd.ntmps88
  go_upto_region 1 with fail
  rw [HX.out]
  go_wp2_with fail
  refine HP.out.mono ?_
  rintro e w2 ⟨rfl, hR2, hB2, hF2⟩
  have HF := Lib.hid (And.intro hR2 (And.intro (HB.out.1.trans hB2) (HB.out.2.trans hF2)))
  clear hR2 hB2 hF2
  go_wp2_with fail
  go_end0
  exact ⟨rfl, HF.out⟩

set_option maxHeartbeats 4000000 in
set_option maxRecDepth 100000 in
theorem at_pred {n : Nat} {v : T} {p : Pd} {t : List Sp} (hV : PT p) : AT n (.mk 2 v p t) := by
  intro w0 w b acc u h he hr hlen
  obtain ⟨kk, bb, nn, ff, ss, lA, ll, lc, op, oA, ol, oc, kA, kl, kc, tA, tl, tc, rfl, -, h1, -⟩ := hr.look
  have hT : shAg (.mk 2 v p t) = shPd p := by rw [shAg]; rfl
  rw [hT] at hlen ⊢
  obtain ⟨X, hX⟩ : ∃ X, w.alloc (.cells #[.int .i64 2, .int .i64 kk, .bool bb, .int .i64 nn, .float .f64 ff, .string ss, .slice lA ll lc, .string op, .slice oA ol oc, .slice kA kl kc, .slice tA tl tc] 40) = X := ⟨_, rfl⟩
  have hbX : Below w.heap.size w X := hX ▸ (Below.refl _ w).alloc (Nat.le_refl _) _
  have zX : X.heap[w.heap.size]? = some (.cells #[.int .i64 2, .int .i64 kk, .bool bb, .int .i64 nn, .float .f64 ff, .string ss, .slice lA ll lc, .string op, .slice oA ol oc, .slice kA kl kc, .slice tA tl tc] 40 (0, 0)) := hX ▸ heap_alloc_new w _
  have hbl := h.lt
  have HP := Lib.hid (hV w0 X b acc _ (h.on hbX) he (keepS_Pd _ _ _ _ _ _ (fun p hp => hbX.cell (Nat.lt_trans hp hbl)) (fun _ hq => hq) h1) hlen)
  have HB : Hid (Below b w X ∧ Fr b w X) := Lib.hid ⟨hbX.mono (Nat.le_of_lt hbl), Fr.of_below hbX⟩
  obtain ⟨⟨x0, x1, x2, x3, x4, x5, x6, x7, x8, x9, x10⟩, -, xl⟩ := ele_cells zX
  have HX := Lib.hid hX
  clear h he hr h1 hlen hT hbX zX hX hV
  go_enter Tryd.func88, Tryd.ntmps88
  go_upto_region 1 with fail
  rw [HX.out]
  go_wp2_with fail
  refine HP.out.mono ?_
  rintro e w2 ⟨rfl, hR2, hB2, hF2⟩
  have HF := Lib.hid (And.intro hR2 (And.intro (HB.out.1.trans hB2) (HB.out.2.trans hF2)))
  clear hR2 hB2 hF2
  go_wp2_with fail
  go_end0
  exact ⟨rfl, HF.out⟩

set_option maxHeartbeats 4000000 in
set_option maxRecDepth 100000 in
theorem st_any {n : Nat} {nm : ByteArray} {args : List Ag} (hV : ∀ i (h : i < args.length), AT n args[i]) (hlm : args.length ≤ 1954687338211) : ST n (.mk nm args) := by
  intro w0 w b acc u h he hr hlen
  obtain ⟨A, c, rfl, hl⟩ := stp_look hr
  obtain ⟨hrow, -, -, -⟩ := hl.rowA
  have hbl := h.lt
  obtain ⟨X, hX⟩ : ∃ X, w.alloc (.cells #[.string nm, .slice A args.length c] 35) = X := ⟨_, rfl⟩
  have hbX : Below w.heap.size w X := hX ▸ (Below.refl _ w).alloc (Nat.le_refl _) _
  have zX : X.heap[w.heap.size]? = some (.cells #[.string nm, .slice A args.length c] 35 (0, 0)) := hX ▸ heap_alloc_new w _
  have HT : Hid (acc ++ nm.data.toList ++ (40 :: (joinF [44, 32] shAg args ++ [41])) = acc ++ shSp (.mk nm args)) := Lib.hid (by rw [shSp, shAs_join]; simp)
  have HLEN : Hid ((acc ++ nm.data.toList).length ≤ 99999999000 ∧ (acc ++ nm.data.toList).length + (joinF [44, 32] shAg args).length + 2 ≤ 99999999000) := Lib.hid (by
    rw [shSp, shAs_join] at hlen
    simp only [List.length_append, List.length_cons, List.length_nil] at hlen ⊢
    refine ⟨by omega, by omega⟩)
  have HW := Lib.hid (rbx_wstr (h.on hbX) nm (by have := HLEN.out.1; rw [List.length_append, len_list] at this; omega))
  have HVX := Lib.hid (RowA.keep (keepS_Arg (keepS_Tr n)) (fun p hp => hbX.cell (Nat.lt_trans hp hbl)) (fun _ hq => hq) hrow)
  obtain ⟨⟨x0, x1⟩, xl⟩ := two_cells' zX
  have HZ := Lib.hid zX; have HB : Hid (Below b w X ∧ Fr b w X) := Lib.hid ⟨hbX.mono (Nat.le_of_lt hbl), Fr.of_below hbX⟩
  have HE := Lib.hid he; have HX := Lib.hid hX; have HV := Lib.hid hV
  clear hr hl hrow zX hlen he hbX hX hV h
  go_enter Tryd.func74, Tryd.ntmps74
  go_upto_region 1 with fail
  rw [HX.out]
  go_wp2_with fail
  refine HW.out.mono ?_
  rintro e w1 ⟨rfl, hR1, hB1, hF1⟩
  have z1 := hF1 _ _ _ (by decide) (by omega) HZ.out
  obtain ⟨⟨y0, y1⟩, yl⟩ := two_cells' z1
  have HBR := Lib.hid (bracket_ag (cap := c) HV.out hR1 HE.out (RowA.keep (keepS_Arg (keepS_Tr n)) (fun p hp => hB1.cell hp) (fun _ hq => hq) HVX.out) 40 41 HLEN.out.2 hlm)
  have HB1 := Lib.hid (And.intro (HB.out.1.trans hB1) (HB.out.2.trans hF1))
  clear hR1 hB1 hF1 z1
  go_wp2_with fail
  refine HBR.out.mono ?_
  rintro e w2 ⟨rfl, hR2, hB2, hF2⟩
  rw [HT.out] at hR2
  have HF := Lib.hid (And.intro hR2 (And.intro (HB1.out.1.trans hB2) (HB1.out.2.trans hF2)))
  clear hR2 hB2 hF2
  go_wp2_with fail
  go_end0
  exact ⟨rfl, HF.out⟩

set_option maxHeartbeats 4000000 in
set_option maxRecDepth 100000 in
theorem steps_told {n : Nat} {l : List Sp} (hV : ∀ i (h : i < l.length), ST n l[i]) (hlm : l.length ≤ 1954687338211) {w0 w : World} {b : Nat} {acc : List UInt8} {A : Option Addr} {cap : Nat} (h : RBx w0 b acc w) (he : EnvT w0) (hr : RowA (RdStp (RdTr n)) 2 w (fun q => q < b) l A) (hlen : acc.length + (shSs l).length ≤ 99999999000) :
    Calls Tryd.prog 49 #[.pointer (some ⟨b, 0, none⟩), .slice A l.length cap] w (TellP w0 w b (acc ++ shSs l)) := by
  rw [shSs_join] at hlen ⊢
  have HJ := Lib.hid (join_sp (cap := cap) hV h he hr ⟨#[46]⟩ hlen (by decide) hlm)
  clear h he hr hV hlen
  go_enter Tryd.func49, Tryd.ntmps49
  go_wp2_with fail
  refine HJ.out.mono ?_
  rintro e w2 ⟨rfl, hR2, hB2, hF2⟩
  have HF := Lib.hid (And.intro hR2 (And.intro hB2 hF2))
  clear hR2 hB2 hF2
  go_wp2_with fail
  go_end0
  exact ⟨rfl, HF.out⟩

set_option maxHeartbeats 4000000 in
set_option maxRecDepth 100000 in
theorem query_told {n : Nat} {l : List Sp} (hV : ∀ i (h : i < l.length), ST n l[i]) (hlm : l.length ≤ 1954687338211) {w0 w : World} {b : Nat} {A : Option Addr} {cap : Nat} (h : RBx w0 b [] w) (he : EnvT w0) (hr : RowA (RdStp (RdTr n)) 2 w (fun q => q < b) l A) (hlen : 2 + (shSs l).length ≤ 99999999000) :
    Calls Tryd.prog 36 #[.pointer (some ⟨b, 0, none⟩), .slice A l.length cap] w (TellP w0 w b ([103, 46] ++ shSs l)) := by
  have HW := Lib.hid (rbx_wstr h ⟨#[103, 46]⟩ (by show 0 + 2 ≤ _; decide))
  have HE := Lib.hid he; have HR := Lib.hid hr; have HV := Lib.hid hV
  clear h he hr hV
  go_enter Tryd.func36, Tryd.ntmps36
  go_wp2_with fail
  refine HW.out.mono ?_
  rintro e w1 ⟨rfl, hR1, hB1, hF1⟩
  have HS := Lib.hid (steps_told (cap := cap) HV.out hlm (acc := [103, 46]) hR1 HE.out (RowA.keep (keepS_Stp (keepS_Tr n)) (fun p hp => hB1.cell hp) (fun _ hq => hq) HR.out) hlen)
  have HB1 := Lib.hid (And.intro hB1 hF1)
  clear hR1 hB1 hF1
  go_wp2_with fail
  refine HS.out.mono ?_
  rintro e w2 ⟨rfl, hR2, hB2, hF2⟩
  have HF := Lib.hid (And.intro hR2 (And.intro (HB1.out.1.trans hB2) (HB1.out.2.trans hF2)))
  clear hR2 hB2 hF2
  go_wp2_with fail
  go_end0
  exact ⟨rfl, HF.out⟩

set_option maxHeartbeats 4000000 in
set_option maxRecDepth 100000 in
theorem told_query {n : Nat} {l : List Sp} (hV : ∀ i (h : i < l.length), ST n l[i]) (hlm : l.length ≤ 1954687338211) {w : World} {A : Option Addr} {cap : Nat} (he : EnvT w) (hr : RowA (RdStp (RdTr n)) 2 w (fun q => q < w.heap.size) l A) (hlen : 2 + (shSs l).length ≤ 99999999000) :
    Calls Tryd.prog 35 #[.slice A l.length cap, .func (.func 36) #[] #[]] w fun z w' => z = .returned (.string (ofL ([103, 46] ++ shSs l))) ∧ Below w.heap.size w w' := by
  have hR := RBx.start w w (Below.refl _ _)
  obtain ⟨W2, hW2⟩ : ∃ W, w.alloc (.cells #[.pointer none, .slice none 0 0] 78) = W := ⟨_, rfl⟩
  rw [hW2] at hR
  have hb2 : Below w.heap.size w W2 := hW2 ▸ (Below.refl _ w).alloc (Nat.le_refl _) _
  have HC := Lib.hid (query_told (cap := cap) hV hlm hR he (RowA.keep (keepS_Stp (keepS_Tr n)) (S := fun q => q < w.heap.size) (fun p hp => hb2.cell hp) (fun _ hq => hq) hr) hlen)
  clear hr he hV hR hb2 hlen
  go_enter Tryd.func35, Tryd.ntmps35
  go_wp2_with fail
  refine HC.out.mono ?_
  rintro e w3 ⟨rfl, hR3, hB3, hF3⟩
  have HS := Lib.hid (rbx_str hR3)
  clear hR3 hB3 hF3
  go_wp2_with fail
  refine HS.out.mono ?_
  rintro e w4 ⟨rfl, hb4, -⟩
  have HB4 := Lib.hid hb4
  clear hb4
  go_wp2_with fail
  go_ret
  exact ⟨by first | rfl | simp, HB4.out⟩

theorem show_query {n : Nat} {l : List Sp} (hV : ∀ i (h : i < l.length), ST n l[i]) (hlm : l.length ≤ 1954687338211) {w : World} {A : Option Addr} {cap : Nat} (he : EnvT w) (hr : RowA (RdStp (RdTr n)) 2 w (fun q => q < w.heap.size) l A) (hlen : 2 + (shSs l).length ≤ 99999999000) :
    Calls Tryd.prog 19 #[.slice A l.length cap] w fun z w' => z = .returned (.string (ofL ([103, 46] ++ shSs l))) ∧ Below w.heap.size w w' := by
  have HC := Lib.hid (told_query (cap := cap) hV hlm he hr hlen)
  clear he hr hlen hV
  go_enter Tryd.func19, Tryd.ntmps19
  go_wp2_with fail
  refine HC.out.mono ?_
  rintro e w1 ⟨rfl, hb1⟩
  have HB1 := Lib.hid hb1
  clear hb1
  go_wp2_with fail
  go_ret
  exact ⟨by first | rfl | simp, HB1.out⟩

end Go.Proofs.YtgmjhoppjjjilaaDoor

/- show: awake of layer 13 -/
namespace Go.Proofs.YtgmjhoppjjjilaaDoor
open Go.ChangeShapes Go.WideShapes Go.ChangeAt Go.RowKit Go.Fl
open Go.Shelf

/-- gt(1).and(lt(5)) -/
def awPd : Pd := .mk (ofL [97, 110, 100]) [] [.mk (ofL [103, 116]) [.mk 2 false 1 0 ⟨#[]⟩ []] [], .mk (ofL [108, 116]) [.mk 2 false 5 0 ⟨#[]⟩ []] []]

def awArg : List Ag := [.mk 1 (.mk 4 false 0 0 (ofL [97]) []) pz [], .mk 2 vz awPd []]

theorem awP_is : awP = [.mk (ofL [86]) [], .mk (ofL [104, 97, 115]) awArg] := rfl

theorem aw_good : Pgd awPd := by
  refine .join (.inl rfl) (.plain (by decide) ?_) (.plain (by decide) ?_)
  all_goals exact ⟨⟨by decide, trivial⟩, trivial⟩

theorem aw_steps (n : Nat) : ∀ i (h : i < awP.length), ST n awP[i] := by
  intro i h
  match i, h with
  | 0, _ => exact st_any (args := []) (fun i h => absurd h (Nat.not_lt_zero _)) (by decide)
  | 1, _ =>
    refine st_any (args := awArg) (fun i h => ?_) (by decide)
    match i, h with
    | 0, _ => exact at_value (value_any _ ⟨by decide, trivial⟩)
    | 1, _ => exact at_pred (pred_told aw_good)

theorem itoa_neg5 : Lib.itoa (-5) = [45, 53] := by
  unfold Lib.itoa
  rw [if_pos (by decide), show (-5 : Int).natAbs = 5 by decide, Lib.decDigits_one (by decide)]
  rfl

theorem itoa_dg (c : Nat) (h2 : c < 10) : Lib.itoa (c : Int) = [UInt8.ofNat (48 + c)] := by
  unfold Lib.itoa
  rw [if_neg (by omega), show ((c : Nat) : Int).toNat = c by omega, Lib.decDigits_one h2]

theorem aw_text : [103, 46] ++ shSs awP = [103, 46, 86, 40, 41, 46, 104, 97, 115, 40, 39, 97, 39, 44, 32, 103, 116, 40, 49, 41, 46, 97, 110, 100, 40, 108, 116, 40, 53, 41, 41, 41] := by
  have h1 : shT (.mk 2 false 1 0 ⟨#[]⟩ []) = [49] := by rw [shT]; exact itoa_dg 1 (by decide)
  have h5 : shT (.mk 2 false 5 0 ⟨#[]⟩ []) = [53] := by rw [shT]; exact itoa_dg 5 (by decide)
  have ha : shT (.mk 4 false 0 0 (ofL [97]) []) = [39, 97, 39] := by rw [shT]; rfl
  have hp : shPd awPd = [103, 116, 40, 49, 41, 46, 97, 110, 100, 40, 108, 116, 40, 53, 41, 41] := by
    unfold awPd
    rw [shPd, shPd, shPd, shTs, shTt, shTs, shTt, h1, h5]
    rfl
  rw [awP_is]
  unfold awArg
  rw [shSs, shSp, shAs, shSt, shSp, shSt, shAs, shAg, shAt, shAg, shAt]
  rw [if_pos rfl, if_neg (by decide), if_pos rfl, ha, hp]
  rfl

set_option maxHeartbeats 4000000 in
set_option maxRecDepth 100000 in
theorem saw_any (w : World) (he : EnvT w) : Calls Tryd.prog 7 #[] w fun e w' => e = .returned (.bool true) ∧ Below w.heap.size w w' := by
  have HC := Lib.hid (rparse_any (ofL awS) w)
  unfold ofL awS at HC
  have HE := Lib.hid he
  clear he
  go_enter Tryd.func7, Tryd.ntmps7
  go_wp2_with fail
  refine HC.out.mono ?_
  rintro e w1 ⟨lA, ll, lc, at_, er, rfl, hb1, hor⟩
  rcases hor with ⟨t, ht, rfl, hrd⟩ | ⟨hn, -⟩
  rotate_left
  · exact absurd (hn.symm.trans aws_parse) (fun h => by cases h)
  · obtain rfl : t = awP := Option.some.inj (ht.symm.trans aws_parse)
    have hrd' : LstS (RdStp (RdTr 12)) 2 w1 (fun b => w.heap.size ≤ b ∧ b < w1.heap.size) awP (.slice lA ll lc) := hrd
    obtain ⟨hrow, rfl, -, -⟩ := hrd'.rowA
    have HQ := Lib.hid (show_query (cap := lc) (aw_steps 12) (by decide) (HE.out.on hb1) (RowA.keep (keepS_Stp (keepS_Tr 12)) (fun _ _ => rfl) (fun b hb => hb.2) hrow) (by
      have := congrArg List.length aw_text
      rw [List.length_append] at this
      have e2 : ([103, 46] : List UInt8).length = 2 := rfl
      have e3 : ([103, 46, 86, 40, 41, 46, 104, 97, 115, 40, 39, 97, 39, 44, 32, 103, 116, 40, 49, 41, 46, 97, 110, 100, 40, 108, 116, 40, 53, 41, 41, 41] : List UInt8).length = 32 := rfl
      omega))
    rw [aw_text] at HQ
    obtain ⟨N, hN⟩ : ∃ N, ofL [103, 46, 86, 40, 41, 46, 104, 97, 115, 40, 39, 97, 39, 44, 32, 103, 116, 40, 49, 41, 46, 97, 110, 100, 40, 108, 116, 40, 53, 41, 41, 41] = N := ⟨_, rfl⟩
    rw [hN] at HQ
    have b1 : (N.toList == [103, 46, 86, 40, 41, 46, 104, 97, 115, 40, 39, 97, 39, 44, 32, 103, 116, 40, 49, 41, 46, 97, 110, 100, 40, 108, 116, 40, 53, 41, 41, 41]) = true := by rw [← hN, toL]; rfl
    have HB := Lib.hid hb1
    obtain ⟨ll, hll⟩ : ∃ ll, awP.length = ll := ⟨_, rfl⟩
    rw [hll] at HQ ⊢
    clear ht hrd hrd' hrow hb1 hN hll
    go_wp2_with fail
    refine HQ.out.mono ?_
    rintro e w2 ⟨rfl, hb2⟩
    have HB2 := Lib.hid (HB.out.trans (hb2.mono HB.out.size))
    have HV := Lib.hid (show_value (x := .mk 2 false (-5) 0 ⟨#[]⟩ []) ⟨by decide, trivial⟩ (HE.out.on HB2.out) (rdS_leaf (by decide) (by decide) (by decide) (by decide)) (by rw [shT]; show (Lib.itoa (-5)).length ≤ _; rw [itoa_neg5]; decide))
    rw [show shT (.mk 2 false (-5) 0 ⟨#[]⟩ []) = [45, 53] by rw [shT]; exact itoa_neg5] at HV
    obtain ⟨N2, hN2⟩ : ∃ N2, ofL [45, 53] = N2 := ⟨_, rfl⟩
    rw [hN2] at HV
    have b2 : (N2.toList == [45, 53]) = true := by rw [← hN2, toL]; rfl
    clear hN2 hb2
    go_wp2_with fail
    refine HV.out.mono ?_
    rintro e w3 ⟨rfl, hb3⟩
    have HB3 := Lib.hid (HB2.out.trans (hb3.mono HB2.out.size))
    clear hb3
    go_wp2_with fail
    go_ret
    exact ⟨rfl, HB3.out⟩

end Go.Proofs.YtgmjhoppjjjilaaDoor
