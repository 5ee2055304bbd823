/- SpR, SpS, SpT -/
import Derived.Test.YtgmjhoppjjjilaaDoorQ32
import Derived.Test.YtgmjhoppjjjilaaDoorQ11

/- show: what awake of layer 13 parses -/
namespace Go.Proofs.YtgmjhoppjjjilaaDoor
open Go

/-- g.V().has('a',gt(1).and(lt(5))) -/
def awS : List UInt8 := [103, 46, 86, 40, 41, 46, 104, 97, 115, 40, 39, 97, 39, 44, 103, 116, 40, 49, 41, 46, 97, 110, 100, 40, 108, 116, 40, 53, 41, 41, 41]

def awP : List Sp := [.mk (ofL [86]) [], .mk (ofL [104, 97, 115]) [.mk 1 (.mk 4 false 0 0 (ofL [97]) []) pz [], .mk 2 vz (.mk (ofL [97, 110, 100]) [] [.mk (ofL [103, 116]) [.mk 2 false 1 0 ⟨#[]⟩ []] [], .mk (ofL [108, 116]) [.mk 2 false 5 0 ⟨#[]⟩ []] []]) []]]

theorem aws_parse : prsO awS = some awP := by kernel_rfl

end Go.Proofs.YtgmjhoppjjjilaaDoor

/- show: lists with something between: the plain mathematics; values -/
namespace Go.Proofs.YtgmjhoppjjjilaaDoor
open Go.ChangeShapes Go.WideShapes Go.ChangeAt Go.RowKit Go.Fl
open Go.Shelf

section
variable {α : Type} (sep : List UInt8) (f : α → List UInt8)

def tailF : List α → List UInt8
  | [] => []
  | x :: r => sep ++ f x ++ tailF r

/-- all of a list, with sep between -/
def joinF : List α → List UInt8
  | [] => []
  | x :: r => f x ++ tailF sep f r

theorem tailF_snoc : ∀ (l : List α) (x : α), tailF sep f (l ++ [x]) = tailF sep f l ++ sep ++ f x
  | [], x => by simp [tailF]
  | y :: r, x => by simp [tailF, tailF_snoc r x]

theorem joinF_snoc (l : List α) (x : α) : joinF sep f (l ++ [x]) = joinF sep f l ++ (if l.length = 0 then [] else sep) ++ f x := by
  cases l with
  | nil => simp [joinF, tailF]
  | cons y r => simp [joinF, tailF_snoc]

theorem joinF_part : ∀ (c a : List α), ∃ t, joinF sep f (a ++ c) = joinF sep f a ++ t
  | [], a => ⟨[], by simp⟩
  | x :: r, a => by
    obtain ⟨t, h⟩ := joinF_part r (a ++ [x])
    rw [List.append_assoc, List.singleton_append] at h
    rw [h, joinF_snoc]
    exact ⟨(if a.length = 0 then [] else sep) ++ f x ++ t, by simp⟩

theorem joinF_take (l : List α) (i : Nat) : (joinF sep f (l.take i)).length ≤ (joinF sep f l).length := by
  obtain ⟨t, h⟩ := joinF_part sep f (l.drop i) (l.take i)
  rw [List.take_append_drop] at h
  rw [h, List.length_append]
  omega

end

def txQ : List UInt8 := [63]

mutual
/-- a value as a text -/
def shT : T → List UInt8
  | .mk k b n f s l =>
    if k = 0 then txNull
    else if k = 1 then (if b then txTrue else txFalse)
    else if k = 2 then Lib.itoa n
    else if k = 3 then fltL (canonN f)
    else if k = 4 then textL s.data.toList
    else if k = 5 then 91 :: (shTs l ++ [93])
    else if k = 6 then 123 :: (shTs l ++ [125])
    else if k = 7 then [118, 40] ++ Lib.itoa n ++ [41]
    else if k = 8 then [101, 40] ++ Lib.itoa n ++ [41]
    else txQ
def shTs : List T → List UInt8
  | [] => []
  | x :: r => shT x ++ shTt r
def shTt : List T → List UInt8
  | [] => []
  | x :: r => [44, 32] ++ shT x ++ shTt r
end

mutual
/-- no text within it is too long -/
def smT' : T → Prop
  | .mk _ _ _ _ s l => s.size ≤ 100000 ∧ smTs' l
def smTs' : List T → Prop
  | [] => True
  | x :: r => smT' x ∧ smTs' r
end

theorem shTt_tail : ∀ l : List T, shTt l = tailF [44, 32] shT l
  | [] => by rw [shTt, tailF]
  | x :: r => by rw [shTt, tailF, shTt_tail r]

theorem shTs_join : ∀ l : List T, shTs l = joinF [44, 32] shT l
  | [] => by rw [shTs, joinF]
  | x :: r => by rw [shTs, joinF, shTt_tail r]

theorem smTs_get : ∀ {l : List T}, smTs' l → ∀ x ∈ l, smT' x
  | x :: r, h, y, hy => by
    rw [smTs'] at h
    rcases List.mem_cons.1 hy with rfl | hy
    · exact h.1
    · exact smTs_get h.2 y hy

theorem rbx_wstr {w0 w : World} {b : Nat} {l : List UInt8} (h : RBx w0 b l w) (s : ByteArray) (hlen : l.length + s.size ≤ 140737488355328) :
    Calls Tryd.prog 38 #[.pointer (some ⟨b, 0, none⟩), .string s] w fun e w' => e = .returned (.tuple #[.int .i64 s.size, .nilIface]) ∧ RBx w0 b (l ++ s.data.toList) w' ∧ Below b w w' ∧ Fr b w w' := by
  refine (ws_any s h.bld hlen (Nat.le_of_lt h.lt)).mono ?_
  rintro e w' ⟨he, h1, h2, h3⟩
  exact ⟨he, ⟨h.below.trans (h2.mono h.up), h1, h.up, Nat.lt_of_lt_of_le h.lt h2.size⟩, h2, h3⟩

theorem rbx_wbyte {w0 w : World} {b : Nat} {l : List UInt8} (h : RBx w0 b l w) (x : UInt8) (hl : l.length + 1 ≤ 140737488355328) :
    Calls Tryd.prog 56 #[.pointer (some ⟨b, 0, none⟩), .int .u8 (x.toNat : Nat)] w fun e w' => e = .returned .nilIface ∧ RBx w0 b (l ++ [x]) w' ∧ Below b w w' ∧ Fr b w w' := by
  refine (wb_any (x.toNat : Nat) x h.bld rfl hl (Nat.le_of_lt h.lt)).mono ?_
  rintro e w' ⟨he, h1, h2, h3⟩
  exact ⟨he, ⟨h.below.trans (h2.mono h.up), h1, h.up, Nat.lt_of_lt_of_le h.lt h2.size⟩, h2, h3⟩

/-- what telling comes to -/
def TellP (w0 w : World) (b : Nat) (txt : List UInt8) (z : Ending) (w' : World) : Prop := z = .returned (.tuple #[]) ∧ RBx w0 b txt w' ∧ Below b w w' ∧ Fr b w w'

/-- a value is told -/
def VT (x : T) : Prop := ∀ (w0 w : World) (b : Nat) (acc : List UInt8) (v : Value), RBx w0 b acc w → EnvT w0 → RdS w (fun q => q < b) x v → acc.length + (shT x).length ≤ 99999999000 →
  Calls Tryd.prog 21 #[.pointer (some ⟨b, 0, none⟩), v] w (TellP w0 w b (acc ++ shT x))

theorem take_more {α : Type} {l : List α} {i : Nat} (h : i < l.length) : l.take (i + 1) = l.take i ++ [l[i]] := by
  rw [List.take_add_one, List.getElem?_eq_getElem h]
  rfl

set_option maxHeartbeats 4000000 in
set_option maxRecDepth 100000 in
theorem join_val {l : List T} {w0 w : World} {b cap : Nat} {acc : List UInt8} {A : Option Addr} (hV : ∀ i (h : i < l.length), VT l[i]) (h : RBx w0 b acc w) (he : EnvT w0) (hr : RdSL w (fun q => q < b) l A) (sep : ByteArray) (hlen : acc.length + (joinF sep.data.toList shT l).length ≤ 99999999000) (hsep : sep.size ≤ 1000) (hlm : l.length ≤ 1954687338211) :
    Calls Tryd.prog 58 #[.pointer (some ⟨b, 0, none⟩), .slice A l.length cap, .string sep, .func (.func 21) #[] #[]] w (TellP w0 w b (acc ++ joinF sep.data.toList shT l)) := by
  have H := Lib.hid h; have HE := Lib.hid he; have HR := Lib.hid hr; have HVV := Lib.hid hV; have HL := Lib.hid hlen
  have HS := Lib.hid (len_list sep)
  clear h he hr hV hlen
  go_enter Tryd.func58, Tryd.ntmps58
  go_wp2_with fail
  go_loopw [12] (fun vi wr => ∃ i : Nat, vi = .int .i64 i ∧ i ≤ l.length ∧ Hid (RBx w0 b (acc ++ joinF sep.data.toList shT (l.take i)) wr ∧ Below b w wr ∧ Fr b w wr)) (fun vi _ => l.length - (intOf vi).toNat)
  case atStart => exact ⟨0, rfl, Nat.zero_le _, Lib.hid ⟨by simpa [joinF] using H.out, Below.refl _ _, Fr.refl _ _⟩⟩
  case round =>
    obtain ⟨i, rfl, hi, Hw⟩ := hrel
    by_cases hlt : i < l.length
    · obtain ⟨a, k, bb, n, f, s, q, D, capi, rfl, hab, hx, hrd, e0, e1, e2, e3, e4, e5⟩ := (RdSL.keepS (fun p hp => Hw.out.2.1.cell hp) (fun _ hq => hq) HR.out).item hlt
      have hlz : (i : Int) < (l.length : Int) := by omega
      obtain ⟨X, hX⟩ : ∃ X, wr.alloc (.cells #[.int .i64 k, .bool bb, .int .i64 n, .float .f64 f, .string s, .slice D q.length capi] 25) = X := ⟨_, rfl⟩
      have hbX : Below wr.heap.size wr X := hX ▸ (Below.refl _ wr).alloc (Nat.le_refl _) _
      have zX : X.heap[wr.heap.size]? = some (.cells #[.int .i64 k, .bool bb, .int .i64 n, .float .f64 f, .string s, .slice D q.length capi] 25 (0, 0)) := hX ▸ heap_alloc_new wr _
      have hRX := Hw.out.1.on hbX
      have hblt := Hw.out.1.lt
      have hBX : Below b w X := Hw.out.2.1.trans (hbX.mono (Nat.le_of_lt hblt))
      have hrX : RdS X (fun q => q < b) l[i] (.agg #[.int .i64 k, .bool bb, .int .i64 n, .float .f64 f, .string s, .slice D q.length capi]) := RdS.keepS (fun p hp => hbX.cell (Nat.lt_trans hp hblt)) (fun _ hq => hq) hrd
      have htk := take_more hlt
      have hjl := joinF_take sep.data.toList shT l (i + 1)
      rw [htk, joinF_snoc, List.length_append, List.length_append] at hjl
      obtain ⟨⟨x0, x1, x2, x3, x4, x5⟩, -, xl⟩ := six_cells zX
      have HX := Lib.hid hX
      have H2 := Lib.hid (And.intro hRX (And.intro hBX (And.intro hrX (And.intro htk (And.intro hjl (And.intro zX (Hw.out.2.2.trans (Fr.of_below hbX))))))))
      have hlti : (l.take i).length = i := by rw [List.length_take]; omega
      clear hbX zX hRX hBX hrX htk hjl hrd hX
      by_cases h0 : i = 0
      · have hz : ¬ (0 : Int) < (i : Int) := by omega
        have HN : Hid (acc ++ joinF sep.data.toList shT (l.take i) ++ shT l[i] = acc ++ joinF sep.data.toList shT (l.take (i + 1))) := Lib.hid (by
          rw [H2.out.2.2.2.1, joinF_snoc, if_pos (by rw [hlti]; exact h0)]
          simp)
        have HC := Lib.hid (HVV.out i hlt w0 X b _ _ H2.out.1 HE.out H2.out.2.2.1 (by
          have h1 := H2.out.2.2.2.2.1
          have h2 := HL.out
          rw [List.length_append]
          omega))
        clear h0 hlti
        go_upto_region 3 with fail
        rw [HX.out]
        go_wp2_with fail
        refine HC.out.mono ?_
        rintro e w2 ⟨rfl, hR2, hB2, hF2⟩
        rw [HN.out] at hR2
        have HF := Lib.hid (And.intro hR2 (And.intro (H2.out.2.1.trans hB2) (H2.out.2.2.2.2.2.2.trans hF2)))
        clear hR2 hB2 hF2
        go_wp2_with fail
        go_roundw
        case rel => exact ⟨i + 1, by go_num, hlt, HF⟩
        case measure => simp [intOf]; omega
      · have hz : (0 : Int) < (i : Int) := by omega
        have HW := Lib.hid (rbx_wstr H2.out.1 sep (by
          have h1 := H2.out.2.2.2.2.1
          have h2 := HL.out
          have h3 := joinF_take sep.data.toList shT l i
          rw [List.length_append]
          omega))
        have HN : Hid (acc ++ joinF sep.data.toList shT (l.take i) ++ sep.data.toList ++ shT l[i] = acc ++ joinF sep.data.toList shT (l.take (i + 1))) := Lib.hid (by
          rw [H2.out.2.2.2.1, joinF_snoc, if_neg (by rw [hlti]; exact h0)]
          simp)
        have HLL : Hid ((acc ++ joinF sep.data.toList shT (l.take i) ++ sep.data.toList).length + (shT l[i]).length ≤ 99999999000) := Lib.hid (by
          have h1 := H2.out.2.2.2.2.1
          rw [if_neg (by rw [hlti]; exact h0)] at h1
          have h2 := HL.out
          rw [List.length_append, List.length_append]
          omega)
        clear h0 hlti
        go_upto_region 3 with fail
        rw [HX.out]
        go_wp2_with fail
        refine HW.out.mono ?_
        rintro e w1 ⟨rfl, hR1, hB1, hF1⟩
        have zX1 : w1.heap[wr.heap.size]? = some (.cells #[.int .i64 k, .bool bb, .int .i64 n, .float .f64 f, .string s, .slice D q.length capi] 25 (0, 0)) := hF1 _ _ _ (by decide) (by have := Hw.out.1.lt; omega) H2.out.2.2.2.2.2.1
        have hrX1 : RdS w1 (fun q => q < b) l[i] (.agg #[.int .i64 k, .bool bb, .int .i64 n, .float .f64 f, .string s, .slice D q.length capi]) := RdS.keepS (fun p hp => hB1.cell hp) (fun _ hq => hq) H2.out.2.2.1
        have HC := Lib.hid (HVV.out i hlt w0 w1 b _ _ hR1 HE.out hrX1 HLL.out)
        obtain ⟨⟨y0, y1, y2, y3, y4, y5⟩, -, yl⟩ := six_cells zX1
        have H1 := Lib.hid (And.intro (H2.out.2.1.trans hB1) (H2.out.2.2.2.2.2.2.trans hF1))
        clear hR1 hB1 hF1 zX1 hrX1
        go_wp2_with fail
        refine HC.out.mono ?_
        rintro e w2 ⟨rfl, hR2, hB2, hF2⟩
        rw [HN.out] at hR2
        have HF := Lib.hid (And.intro hR2 (And.intro (H1.out.1.trans hB2) (H1.out.2.trans hF2)))
        clear hR2 hB2 hF2
        go_wp2_with fail
        go_roundw
        case rel => exact ⟨i + 1, by go_num, hlt, HF⟩
        case measure => simp [intOf]; omega
    · have hT : l.take i = l := List.take_of_length_le (by omega)
      have HF : Hid (RBx w0 b (acc ++ joinF sep.data.toList shT l) wr ∧ Below b w wr ∧ Fr b w wr) := Lib.hid (by have := Hw.out; rw [hT] at this; exact this)
      clear hT
      go_wp2_with fail
      go_end0
      exact ⟨rfl, HF.out⟩

end Go.Proofs.YtgmjhoppjjjilaaDoor

/- show: bracket, value (written by tools/laws13t.py) -/
namespace Go.Proofs.YtgmjhoppjjjilaaDoor
open Go.ChangeShapes Go.WideShapes Go.ChangeAt Go.RowKit Go.Fl
open Go.Shelf

set_option maxHeartbeats 4000000 in
set_option maxRecDepth 100000 in
theorem bracket_val {l : List T} {w0 w : World} {b cap : Nat} {acc : List UInt8} {A : Option Addr} (hV : ∀ i (h : i < l.length), VT l[i]) (h : RBx w0 b acc w) (he : EnvT w0) (hr : RdSL w (fun q => q < b) l A) (o c : UInt8) (hlen : acc.length + (shTs l).length + 2 ≤ 99999999000) (hlm : l.length ≤ 1954687338211) :
    Calls Tryd.prog 43 #[.pointer (some ⟨b, 0, none⟩), .int .u8 (o.toNat : Nat), .slice A l.length cap, .int .u8 (c.toNat : Nat), .func (.func 21) #[] #[]] w (TellP w0 w b (acc ++ (o :: (shTs l ++ [c])))) := by
  have H1 := Lib.hid (rbx_wbyte h o (by omega))
  have HE := Lib.hid he; have HR := Lib.hid hr; have HVV := Lib.hid hV
  have HN : Hid (acc ++ [o] ++ shTs l ++ [c] = acc ++ (o :: (shTs l ++ [c]))) := Lib.hid (by simp)
  clear h he hr hV
  go_enter Tryd.func43, Tryd.ntmps43
  go_wp2_with fail
  refine H1.out.mono ?_
  rintro e w1 ⟨rfl, hR1, hB1, hF1⟩
  have HJ := Lib.hid (join_val (cap := cap) HVV.out hR1 HE.out (RdSL.keepS (fun p hp => hB1.cell hp) (fun _ hq => hq) HR.out) ⟨#[44, 32]⟩ (by
    rw [List.length_append]
    show acc.length + 1 + (joinF [44, 32] shT l).length ≤ _
    rw [← shTs_join]; omega) (by decide) hlm)
  have HB1 := Lib.hid (And.intro hB1 hF1)
  clear hR1 hB1 hF1
  go_wp2_with fail
  refine HJ.out.mono ?_
  rintro e w2 ⟨rfl, hR2, hB2, hF2⟩
  have hR2' : RBx w0 b (acc ++ [o] ++ shTs l) w2 := by rw [shTs_join]; exact hR2
  have H3 := Lib.hid (rbx_wbyte hR2' c (by rw [List.length_append, List.length_append]; show acc.length + 1 + _ + 1 ≤ _; omega))
  have HB2 := Lib.hid (And.intro (HB1.out.1.trans hB2) (HB1.out.2.trans hF2))
  clear hR2 hR2' hB2 hF2
  go_wp2_with fail
  refine H3.out.mono ?_
  rintro e w3 ⟨rfl, hR3, hB3, hF3⟩
  rw [HN.out] at hR3
  have HF := Lib.hid (And.intro hR3 (And.intro (HB2.out.1.trans hB3) (HB2.out.2.trans hF3)))
  clear hR3 hB3 hF3
  go_wp2_with fail
  go_end0
  exact ⟨rfl, HF.out⟩

theorem ifbool_any (b : Bool) (N : ByteArray) (hN : ofL (if b then txTrue else txFalse) = N) (w : World) : Calls Tryd.prog 51 #[.bool b] w fun e w' => e = .returned (.string N) ∧ w = w' := by
  have HN := Lib.hid hN
  cases b
  all_goals
    clear hN
    go_enter Tryd.func51, Tryd.ntmps51
    go_wp2_with fail
    go_ret
    exact ⟨by rw [← HN.out]; rfl, rfl⟩

theorem fbool_any (b : Bool) (N : ByteArray) (hN : ofL (if b then txTrue else txFalse) = N) (w : World) : Calls Tryd.prog 39 #[.bool b] w fun e w' => e = .returned (.string N) ∧ w = w' := by
  have HC := Lib.hid (ifbool_any b N hN w)
  clear hN
  go_enter Tryd.func39, Tryd.ntmps39
  go_wp2_with fail
  refine HC.out.mono ?_
  rintro e w' ⟨rfl, rfl⟩
  go_wp2_with fail
  go_ret
  exact ⟨rfl, rfl⟩

theorem itoa_len (v : Int) (h1 : -9223372036854775808 ≤ v) (h2 : v ≤ 9223372036854775807) : (Lib.itoa v).length ≤ 20 := by
  have hd : ∀ u : Nat, u ≤ 9223372036854775808 → (Lib.decDigits u).length ≤ 19 := fun u hu => dec_len 18 u (Nat.lt_of_le_of_lt hu (by decide))
  unfold Lib.itoa
  split
  · have := hd v.natAbs (by omega)
    rw [List.length_cons]; omega
  · have := hd v.toNat (by omega)
    omega

set_option maxHeartbeats 8000000 in
set_option maxRecDepth 100000 in
theorem value_any (x : T) (hsm : smT' x) : VT x := by
  induction x using T.ind with | h k bb n f s l ih => _
  intro w0 w b acc v h he hr hlen
  have hV : ∀ i (hi : i < l.length), VT l[i] := fun i hi => ih i hi (by
    rw [smT'] at hsm
    exact smTs_get hsm.2 _ (List.getElem_mem hi))
  have HV := Lib.hid hV
  have HL2 := Lib.hid hlen
  have HE := Lib.hid he
  clear ih hV
  obtain ⟨A, cap, rfl, hk64, hn64, hf64, hsz, hcap, ⟨hcm, hlm⟩, hA0, hl⟩ := hr.open
  obtain ⟨hn1, hn2⟩ := is64_iff.1 hn64
  have hil := itoa_len n hn1 (by omega)
  have HX := Lib.hid (h.on ((Below.refl _ w).alloc (Nat.le_refl _) (.cells #[.int .i64 k, .bool bb, .int .i64 n, .float .f64 f, .string s, .slice A l.length cap] 25)))
  have HBX : Hid (Below b w (w.alloc (.cells #[.int .i64 k, .bool bb, .int .i64 n, .float .f64 f, .string s, .slice A l.length cap] 25)) ∧ Fr b w (w.alloc (.cells #[.int .i64 k, .bool bb, .int .i64 n, .float .f64 f, .string s, .slice A l.length cap] 25))) := Lib.hid ⟨(Below.refl _ w).alloc (Nat.le_of_lt h.lt) _, Fr.alloc _ _ _⟩
  have hEX := he.on HX.out.below
  have HL := Lib.hid hlen
  have hacc : acc.length ≤ 99999999000 := by omega
  have hbl := h.lt
  have HSM := Lib.hid (hsm : smT' (.mk k bb n f s l))
  have hss : s.size ≤ 100000 := by have := hsm; rw [smT'] at this; exact this.1
  clear hr hk64 hcap hcm hA0 hsm hlen
  by_cases hk : k = 0
  · -- 0
    subst hk
    have HT : Hid (shT (.mk 0 bb n f s l) = txNull) := Lib.hid (by rw [shT]; rfl)
    have d0 : ((0 : Int) == 0) = true := by decide
    have h10 : (txNull : List UInt8).length ≤ 10 := by decide
    have HW := Lib.hid (rbx_wstr HX.out (ofL txNull) (by show acc.length + (txNull : List UInt8).length ≤ _; omega))
    clear h10
    unfold txNull ofL at HW
    go_enter Tryd.func21, Tryd.ntmps21
    go_wp2_with fail
    refine HW.out.mono ?_
    rintro e w2 ⟨rfl, hR2, hB2, hF2⟩
    have HF : Hid (RBx w0 b (acc ++ shT (.mk 0 bb n f s l)) w2 ∧ Below b w w2 ∧ Fr b w w2) := Lib.hid ⟨by rw [HT.out]; exact hR2, HBX.out.1.trans hB2, HBX.out.2.trans hF2⟩
    clear hR2 hB2 hF2
    go_wp2_with fail
    go_end0
    exact ⟨rfl, HF.out⟩
  have n0 : (k == 0) = false := by simpa using hk
  have m0 := hk
  clear hk
  by_cases hk : k = 1
  · -- 1
    subst hk
    have HT : Hid (shT (.mk 1 bb n f s l) = if bb then txTrue else txFalse) := Lib.hid (by rw [shT]; rfl)
    have d0 : ((1 : Int) == 0) = false := by decide
    have d1 : ((1 : Int) == 1) = true := by decide
    obtain ⟨N, hN⟩ : ∃ N, ofL (if bb then txTrue else txFalse) = N := ⟨_, rfl⟩
    have hNs : N.size ≤ 5 := by rw [← hN]; cases bb <;> decide
    have HC := Lib.hid (fbool_any bb N hN (w.alloc (.cells #[.int .i64 1, .bool bb, .int .i64 n, .float .f64 f, .string s, .slice A l.length cap] 25)))
    have HNN := Lib.hid hN
    clear hN
    go_enter Tryd.func21, Tryd.ntmps21
    go_wp2_with fail
    refine HC.out.mono ?_
    rintro e w1 ⟨rfl, rfl⟩
    have HW := Lib.hid (rbx_wstr HX.out N (by omega))
    go_wp2_with fail
    refine HW.out.mono ?_
    rintro e w2 ⟨rfl, hR2, hB2, hF2⟩
    have HF : Hid (RBx w0 b (acc ++ shT (.mk 1 bb n f s l)) w2 ∧ Below b w w2 ∧ Fr b w w2) := Lib.hid ⟨by rw [HT.out]; rw [← HNN.out] at hR2; exact hR2, HBX.out.1.trans hB2, HBX.out.2.trans hF2⟩
    clear hR2 hB2 hF2
    go_wp2_with fail
    go_end0
    exact ⟨rfl, HF.out⟩
  have n1 : (k == 1) = false := by simpa using hk
  have m1 := hk
  clear hk
  by_cases hk : k = 2
  · -- 2
    subst hk
    have HT : Hid (shT (.mk 2 bb n f s l) = Lib.itoa n) := Lib.hid (by rw [shT]; rfl)
    have hlt : (Lib.itoa n : List UInt8).length + acc.length ≤ 99999999000 := by have := HL.out; rw [HT.out] at this; omega
    have d0 : ((2 : Int) == 0) = false := by decide
    have d1 : ((2 : Int) == 1) = false := by decide
    have d2 : ((2 : Int) == 2) = true := by decide
    have HC := Lib.hid (number_any n (w.alloc (.cells #[.int .i64 2, .bool bb, .int .i64 n, .float .f64 f, .string s, .slice A l.length cap] 25)) hn64 hEX)
    go_enter Tryd.func21, Tryd.ntmps21
    go_wp2_with fail
    refine HC.out.mono ?_
    rintro e w1 ⟨rfl, hb1⟩
    have hR1 := HX.out.on hb1
    have hB1 := HBX.out.1.trans (hb1.mono (by have := HX.out.lt; omega))
    have hF1 := HBX.out.2.trans (Fr.of_below hb1)
    have HW := Lib.hid (rbx_wstr hR1 (ofL (Lib.itoa n)) (by show acc.length + (Lib.itoa n : List UInt8).length ≤ _; omega))
    have HB := Lib.hid (And.intro hB1 hF1)
    clear hR1 hB1 hF1 hb1
    go_wp2_with fail
    refine HW.out.mono ?_
    rintro e w2 ⟨rfl, hR2, hB2, hF2⟩
    have HF : Hid (RBx w0 b (acc ++ shT (.mk 2 bb n f s l)) w2 ∧ Below b w w2 ∧ Fr b w w2) := Lib.hid ⟨by rw [HT.out]; exact hR2, HB.out.1.trans hB2, HB.out.2.trans hF2⟩
    clear hR2 hB2 hF2
    go_wp2_with fail
    go_end0
    exact ⟨rfl, HF.out⟩
  have n2 : (k == 2) = false := by simpa using hk
  have m2 := hk
  clear hk
  by_cases hk : k = 3
  · -- 3
    subst hk
    have HT : Hid (shT (.mk 3 bb n f s l) = fltL (canonN f)) := Lib.hid (by rw [shT]; rfl)
    have hlt : (fltL (canonN f) : List UInt8).length + acc.length ≤ 99999999000 := by have := HL.out; rw [HT.out] at this; omega
    have d0 : ((3 : Int) == 0) = false := by decide
    have d1 : ((3 : Int) == 1) = false := by decide
    have d2 : ((3 : Int) == 2) = false := by decide
    have d3 : ((3 : Int) == 3) = true := by decide
    have HC := Lib.hid (lfloat_any f hf64 (w.alloc (.cells #[.int .i64 3, .bool bb, .int .i64 n, .float .f64 f, .string s, .slice A l.length cap] 25)) hEX)
    go_enter Tryd.func21, Tryd.ntmps21
    go_wp2_with fail
    refine HC.out.mono ?_
    rintro e w1 ⟨rfl, hb1⟩
    have hR1 := HX.out.on hb1
    have hB1 := HBX.out.1.trans (hb1.mono (by have := HX.out.lt; omega))
    have hF1 := HBX.out.2.trans (Fr.of_below hb1)
    have HW := Lib.hid (rbx_wstr hR1 (ofL (fltL (canonN f))) (by show acc.length + (fltL (canonN f) : List UInt8).length ≤ _; omega))
    have HB := Lib.hid (And.intro hB1 hF1)
    clear hR1 hB1 hF1 hb1
    go_wp2_with fail
    refine HW.out.mono ?_
    rintro e w2 ⟨rfl, hR2, hB2, hF2⟩
    have HF : Hid (RBx w0 b (acc ++ shT (.mk 3 bb n f s l)) w2 ∧ Below b w w2 ∧ Fr b w w2) := Lib.hid ⟨by rw [HT.out]; exact hR2, HB.out.1.trans hB2, HB.out.2.trans hF2⟩
    clear hR2 hB2 hF2
    go_wp2_with fail
    go_end0
    exact ⟨rfl, HF.out⟩
  have n3 : (k == 3) = false := by simpa using hk
  have m3 := hk
  clear hk
  by_cases hk : k = 4
  · -- 4
    subst hk
    have HT : Hid (shT (.mk 4 bb n f s l) = textL s.data.toList) := Lib.hid (by rw [shT]; rfl)
    have hlt : (textL s.data.toList : List UInt8).length + acc.length ≤ 99999999000 := by have := HL.out; rw [HT.out] at this; omega
    have d0 : ((4 : Int) == 0) = false := by decide
    have d1 : ((4 : Int) == 1) = false := by decide
    have d2 : ((4 : Int) == 2) = false := by decide
    have d3 : ((4 : Int) == 3) = false := by decide
    have d4 : ((4 : Int) == 4) = true := by decide
    have HC := Lib.hid (text_any s (w.alloc (.cells #[.int .i64 4, .bool bb, .int .i64 n, .float .f64 f, .string s, .slice A l.length cap] 25)) hss)
    go_enter Tryd.func21, Tryd.ntmps21
    go_wp2_with fail
    refine HC.out.mono ?_
    rintro e w1 ⟨rfl, hb1⟩
    have hR1 := HX.out.on hb1
    have hB1 := HBX.out.1.trans (hb1.mono (by have := HX.out.lt; omega))
    have hF1 := HBX.out.2.trans (Fr.of_below hb1)
    have HW := Lib.hid (rbx_wstr hR1 (ofL (textL s.data.toList)) (by show acc.length + (textL s.data.toList : List UInt8).length ≤ _; omega))
    have HB := Lib.hid (And.intro hB1 hF1)
    clear hR1 hB1 hF1 hb1
    go_wp2_with fail
    refine HW.out.mono ?_
    rintro e w2 ⟨rfl, hR2, hB2, hF2⟩
    have HF : Hid (RBx w0 b (acc ++ shT (.mk 4 bb n f s l)) w2 ∧ Below b w w2 ∧ Fr b w w2) := Lib.hid ⟨by rw [HT.out]; exact hR2, HB.out.1.trans hB2, HB.out.2.trans hF2⟩
    clear hR2 hB2 hF2
    go_wp2_with fail
    go_end0
    exact ⟨rfl, HF.out⟩
  have n4 : (k == 4) = false := by simpa using hk
  have m4 := hk
  clear hk
  by_cases hk : k = 5
  · -- 5
    subst hk
    have HT : Hid (shT (.mk 5 bb n f s l) = 91 :: (shTs l ++ [93])) := Lib.hid (by rw [shT]; rfl)
    have hll : acc.length + (shTs l).length + 2 ≤ 99999999000 := by have := HL2.out; rw [HT.out, List.length_cons, List.length_append] at this; simp at this; omega
    have d0 : ((5 : Int) == 0) = false := by decide
    have d1 : ((5 : Int) == 1) = false := by decide
    have d2 : ((5 : Int) == 2) = false := by decide
    have d3 : ((5 : Int) == 3) = false := by decide
    have d4 : ((5 : Int) == 4) = false := by decide
    have d5 : ((5 : Int) == 5) = true := by decide
    have HC := Lib.hid (bracket_val (cap := cap) HV.out HX.out HE.out (RdSL.keepS (fun p hp => ((Below.refl _ w).alloc (Nat.le_refl _) _).cell (Nat.lt_trans hp hbl)) (fun _ hq => hq) hl) 91 93 hll hlm)
    go_enter Tryd.func21, Tryd.ntmps21
    go_wp2_with fail
    refine HC.out.mono ?_
    rintro e w2 ⟨rfl, hR2, hB2, hF2⟩
    have HF : Hid (RBx w0 b (acc ++ shT (.mk 5 bb n f s l)) w2 ∧ Below b w w2 ∧ Fr b w w2) := Lib.hid ⟨by rw [HT.out]; exact hR2, HBX.out.1.trans hB2, HBX.out.2.trans hF2⟩
    clear hR2 hB2 hF2
    go_wp2_with fail
    go_end0
    exact ⟨rfl, HF.out⟩
  have n5 : (k == 5) = false := by simpa using hk
  have m5 := hk
  clear hk
  by_cases hk : k = 6
  · -- 6
    subst hk
    have HT : Hid (shT (.mk 6 bb n f s l) = 123 :: (shTs l ++ [125])) := Lib.hid (by rw [shT]; rfl)
    have hll : acc.length + (shTs l).length + 2 ≤ 99999999000 := by have := HL2.out; rw [HT.out, List.length_cons, List.length_append] at this; simp at this; omega
    have d0 : ((6 : Int) == 0) = false := by decide
    have d1 : ((6 : Int) == 1) = false := by decide
    have d2 : ((6 : Int) == 2) = false := by decide
    have d3 : ((6 : Int) == 3) = false := by decide
    have d4 : ((6 : Int) == 4) = false := by decide
    have d5 : ((6 : Int) == 5) = false := by decide
    have d6 : ((6 : Int) == 6) = true := by decide
    have HC := Lib.hid (bracket_val (cap := cap) HV.out HX.out HE.out (RdSL.keepS (fun p hp => ((Below.refl _ w).alloc (Nat.le_refl _) _).cell (Nat.lt_trans hp hbl)) (fun _ hq => hq) hl) 123 125 hll hlm)
    go_enter Tryd.func21, Tryd.ntmps21
    go_wp2_with fail
    refine HC.out.mono ?_
    rintro e w2 ⟨rfl, hR2, hB2, hF2⟩
    have HF : Hid (RBx w0 b (acc ++ shT (.mk 6 bb n f s l)) w2 ∧ Below b w w2 ∧ Fr b w w2) := Lib.hid ⟨by rw [HT.out]; exact hR2, HBX.out.1.trans hB2, HBX.out.2.trans hF2⟩
    clear hR2 hB2 hF2
    go_wp2_with fail
    go_end0
    exact ⟨rfl, HF.out⟩
  have n6 : (k == 6) = false := by simpa using hk
  have m6 := hk
  clear hk
  by_cases hk : k = 7
  · -- 7
    subst hk
    have HT : Hid (shT (.mk 7 bb n f s l) = [118, 40] ++ Lib.itoa n ++ [41]) := Lib.hid (by rw [shT]; rfl)
    have d0 : ((7 : Int) == 0) = false := by decide
    have d1 : ((7 : Int) == 1) = false := by decide
    have d2 : ((7 : Int) == 2) = false := by decide
    have d3 : ((7 : Int) == 3) = false := by decide
    have d4 : ((7 : Int) == 4) = false := by decide
    have d5 : ((7 : Int) == 5) = false := by decide
    have d6 : ((7 : Int) == 6) = false := by decide
    have d7 : ((7 : Int) == 7) = true := by decide
    have HC := Lib.hid (number_any n (w.alloc (.cells #[.int .i64 7, .bool bb, .int .i64 n, .float .f64 f, .string s, .slice A l.length cap] 25)) hn64 hEX)
    have ha1 : ∀ W, (Op.stringOp .add ⟨#[118, 40]⟩ (ofL (Lib.itoa n))).run Tryd.prog W = .ok (.string (ofL ([118, 40] ++ Lib.itoa n))) W := fun W => ofL_add [118, 40] (Lib.itoa n) (by show 2 + _ ≤ _; omega) W
    have ha2 : ∀ W, (Op.stringOp .add (ofL ([118, 40] ++ Lib.itoa n)) ⟨#[41]⟩).run Tryd.prog W = .ok (.string (ofL ([118, 40] ++ Lib.itoa n ++ [41]))) W := fun W => ofL_add ([118, 40] ++ Lib.itoa n) [41] (by rw [List.length_append]; show 2 + _ + 1 ≤ _; omega) W
    obtain ⟨N, hN⟩ : ∃ N, ofL (Lib.itoa n) = N := ⟨_, rfl⟩
    obtain ⟨N1, hN1⟩ : ∃ N1, ofL ([118, 40] ++ Lib.itoa n) = N1 := ⟨_, rfl⟩
    obtain ⟨N2, hN2⟩ : ∃ N2, ofL ([118, 40] ++ Lib.itoa n ++ [41]) = N2 := ⟨_, rfl⟩
    rw [hN] at HC ha1
    rw [hN1] at ha1 ha2
    rw [hN2] at ha2
    have h20 : N2.size ≤ 23 := by rw [← hN2, ofL_size, List.length_append, List.length_append]; show 2 + _ + 1 ≤ _; omega
    go_enter Tryd.func21, Tryd.ntmps21
    go_wp2_with fail
    refine HC.out.mono ?_
    rintro e w1 ⟨rfl, hb1⟩
    have hR1 := HX.out.on hb1
    have hB1 := HBX.out.1.trans (hb1.mono (by have := HX.out.lt; omega))
    have hF1 := HBX.out.2.trans (Fr.of_below hb1)
    have HW := Lib.hid (rbx_wstr hR1 N2 (by omega))
    have HB := Lib.hid (And.intro hB1 hF1)
    clear hR1 hB1 hF1 hb1
    go_wp2_with fail
    refine HW.out.mono ?_
    rintro e w2 ⟨rfl, hR2, hB2, hF2⟩
    have HF : Hid (RBx w0 b (acc ++ shT (.mk 7 bb n f s l)) w2 ∧ Below b w w2 ∧ Fr b w w2) := Lib.hid ⟨by rw [HT.out]; rw [← hN2] at hR2; exact hR2, HB.out.1.trans hB2, HB.out.2.trans hF2⟩
    clear hR2 hB2 hF2
    go_wp2_with fail
    go_end0
    exact ⟨rfl, HF.out⟩
  have n7 : (k == 7) = false := by simpa using hk
  have m7 := hk
  clear hk
  by_cases hk : k = 8
  · -- 8
    subst hk
    have HT : Hid (shT (.mk 8 bb n f s l) = [101, 40] ++ Lib.itoa n ++ [41]) := Lib.hid (by rw [shT]; rfl)
    have d0 : ((8 : Int) == 0) = false := by decide
    have d1 : ((8 : Int) == 1) = false := by decide
    have d2 : ((8 : Int) == 2) = false := by decide
    have d3 : ((8 : Int) == 3) = false := by decide
    have d4 : ((8 : Int) == 4) = false := by decide
    have d5 : ((8 : Int) == 5) = false := by decide
    have d6 : ((8 : Int) == 6) = false := by decide
    have d7 : ((8 : Int) == 7) = false := by decide
    have d8 : ((8 : Int) == 8) = true := by decide
    have HC := Lib.hid (number_any n (w.alloc (.cells #[.int .i64 8, .bool bb, .int .i64 n, .float .f64 f, .string s, .slice A l.length cap] 25)) hn64 hEX)
    have ha1 : ∀ W, (Op.stringOp .add ⟨#[101, 40]⟩ (ofL (Lib.itoa n))).run Tryd.prog W = .ok (.string (ofL ([101, 40] ++ Lib.itoa n))) W := fun W => ofL_add [101, 40] (Lib.itoa n) (by show 2 + _ ≤ _; omega) W
    have ha2 : ∀ W, (Op.stringOp .add (ofL ([101, 40] ++ Lib.itoa n)) ⟨#[41]⟩).run Tryd.prog W = .ok (.string (ofL ([101, 40] ++ Lib.itoa n ++ [41]))) W := fun W => ofL_add ([101, 40] ++ Lib.itoa n) [41] (by rw [List.length_append]; show 2 + _ + 1 ≤ _; omega) W
    obtain ⟨N, hN⟩ : ∃ N, ofL (Lib.itoa n) = N := ⟨_, rfl⟩
    obtain ⟨N1, hN1⟩ : ∃ N1, ofL ([101, 40] ++ Lib.itoa n) = N1 := ⟨_, rfl⟩
    obtain ⟨N2, hN2⟩ : ∃ N2, ofL ([101, 40] ++ Lib.itoa n ++ [41]) = N2 := ⟨_, rfl⟩
    rw [hN] at HC ha1
    rw [hN1] at ha1 ha2
    rw [hN2] at ha2
    have h20 : N2.size ≤ 23 := by rw [← hN2, ofL_size, List.length_append, List.length_append]; show 2 + _ + 1 ≤ _; omega
    go_enter Tryd.func21, Tryd.ntmps21
    go_wp2_with fail
    refine HC.out.mono ?_
    rintro e w1 ⟨rfl, hb1⟩
    have hR1 := HX.out.on hb1
    have hB1 := HBX.out.1.trans (hb1.mono (by have := HX.out.lt; omega))
    have hF1 := HBX.out.2.trans (Fr.of_below hb1)
    have HW := Lib.hid (rbx_wstr hR1 N2 (by omega))
    have HB := Lib.hid (And.intro hB1 hF1)
    clear hR1 hB1 hF1 hb1
    go_wp2_with fail
    refine HW.out.mono ?_
    rintro e w2 ⟨rfl, hR2, hB2, hF2⟩
    have HF : Hid (RBx w0 b (acc ++ shT (.mk 8 bb n f s l)) w2 ∧ Below b w w2 ∧ Fr b w w2) := Lib.hid ⟨by rw [HT.out]; rw [← hN2] at hR2; exact hR2, HB.out.1.trans hB2, HB.out.2.trans hF2⟩
    clear hR2 hB2 hF2
    go_wp2_with fail
    go_end0
    exact ⟨rfl, HF.out⟩
  have n8 : (k == 8) = false := by simpa using hk
  have m8 := hk
  clear hk
  have HT : Hid (shT (.mk k bb n f s l) = txQ) := Lib.hid (by rw [shT, if_neg m0, if_neg m1, if_neg m2, if_neg m3, if_neg m4, if_neg m5, if_neg m6, if_neg m7, if_neg m8])
  have HW := Lib.hid (rbx_wstr HX.out (ofL txQ) (by show acc.length + 1 ≤ _; omega))
  unfold txQ ofL at HW
  clear m0 m1 m2 m3 m4 m5 m6 m7 m8
  go_enter Tryd.func21, Tryd.ntmps21
  go_wp2_with fail
  refine HW.out.mono ?_
  rintro e w2 ⟨rfl, hR2, hB2, hF2⟩
  have HF : Hid (RBx w0 b (acc ++ shT (.mk k bb n f s l)) w2 ∧ Below b w w2 ∧ Fr b w w2) := Lib.hid ⟨by rw [HT.out]; exact hR2, HBX.out.1.trans hB2, HBX.out.2.trans hF2⟩
  clear hR2 hB2 hF2
  go_wp2_with fail
  go_end0
  exact ⟨rfl, HF.out⟩

end Go.Proofs.YtgmjhoppjjjilaaDoor
