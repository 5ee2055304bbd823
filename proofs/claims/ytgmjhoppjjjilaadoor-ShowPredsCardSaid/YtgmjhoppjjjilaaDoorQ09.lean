/- LxT, LxS -/
import Derived.Test.YtgmjhoppjjjilaaDoorQ08

/- lex: texts between quotes -/
namespace Go.Proofs.YtgmjhoppjjjilaaDoor
open Go.ChangeShapes Go.WideShapes Go.ChangeAt Go.RowKit Go.Fl
open Go.Shelf

/-- the builder that stands at block b, the call's own from w0 on -/
structure RBx (w0 : World) (b : Nat) (l : List UInt8) (w : World) : Prop where
  below : Below w0.heap.size w0 w
  bld : Holds b b l w
  up : w0.heap.size ≤ b
  lt : b < w.heap.size

theorem heap_alloc_top (w : World) (o : Obj) : (w.alloc o).heap[w.heap.size]? = some o := by
  show (w.heap.push o)[w.heap.size]? = some o
  simp

theorem RBx.start (w0 w : World) (h : Below w0.heap.size w0 w) : RBx w0 w.heap.size [] (w.alloc (.cells #[.pointer none, .slice none 0 0] 78)) :=
  ⟨h.alloc h.size _, .inl ⟨Nat.le_refl _, .slice none 0 0, heap_alloc_top w _, World.ownsRow_nil _ _ _ _, by simp [Value.ownBlock]⟩, h.size, by simp [World.size_alloc]⟩

theorem bld_on {T e : TypeId} {B b : Nat} {bs : List Value} {w w' : World} (h : Lib.IsBuilder T e B b bs w) (hb : Below w.heap.size w w') : Lib.IsBuilder T e B b bs w' := by
  have key : ∀ p, Lib.BuilderAt T e B b p bs w → Lib.BuilderAt T e B b p bs w' := by
    intro p h
    have hlt := h.lt
    obtain ⟨h1, v, h2, h3, h4⟩ := h
    refine ⟨h1, v, (hb.block _ hlt).trans h2, h3.kept (row := none) ⟨hb.os, hb.tape, hb.output, hb.size, fun k hk _ => hb.block k hk⟩ ?_, h4⟩
    cases hv : v.ownBlock <;> simp
  exact h.elim (fun x => .inl (key _ x)) (fun x => .inr (key _ x))

theorem RBx.on {w0 w w' : World} {b : Nat} {l : List UInt8} (h : RBx w0 b l w) (hb : Below w.heap.size w w') : RBx w0 b l w' :=
  ⟨h.below.trans (hb.mono h.below.size), bld_on h.bld hb, h.up, Nat.lt_of_lt_of_le h.lt hb.size⟩

theorem rbx_len {w0 w : World} {b : Nat} {l : List UInt8} (h : RBx w0 b l w) : Calls Tryd.prog 82 #[.pointer (some ⟨b, 0, none⟩)] w fun e w' => e = .returned (.int .i64 (l.length : Nat)) ∧ w = w' := by
  have := Any.Builder_Len (ρ := repeatA_ren) { repeatA with } b b (Lib.byteCells l) w h.bld
  rw [Lib.byteCells_length] at this
  refine this.mono ?_
  rintro e w' ⟨h1, h2⟩
  exact ⟨h1, h2.symm⟩

theorem rbx_byte {w0 w : World} {b : Nat} {l : List UInt8} (h : RBx w0 b l w) (x : UInt8) (hl : l.length ≤ 1000000) :
    Calls Tryd.prog 56 #[.pointer (some ⟨b, 0, none⟩), .int .u8 (x.toNat : Nat)] w fun e w' => e = .returned .nilIface ∧ RBx w0 b (l ++ [x]) w' ∧ Below b w w' := by
  refine (wb_any (x.toNat : Nat) x h.bld rfl (by omega) (Nat.le_of_lt h.lt)).mono ?_
  rintro e w' ⟨he, h1, h2, -⟩
  exact ⟨he, ⟨h.below.trans (h2.mono h.up), h1, h.up, Nat.lt_of_lt_of_le h.lt h2.size⟩, h2⟩

theorem rbx_str {w0 w : World} {b : Nat} {l : List UInt8} (h : RBx w0 b l w) : Calls Tryd.prog 37 #[.pointer (some ⟨b, 0, none⟩)] w fun e w' => e = .returned (.string (ofL l)) ∧ Below w0.heap.size w0 w' ∧ Below b w w' := by
  refine (bstring_any h.bld (Nat.le_of_lt h.lt)).mono ?_
  rintro e w' ⟨h1, h2⟩
  exact ⟨h1, h.below.trans (h2.mono h.up), h2⟩

/-- what says a byte -/
def sayC (c : UInt8) : List UInt8 := if plnB c = false then [92, 120, hexC (c.toNat / 16), hexC (c.toNat % 16)] else if c = 39 ∨ c = 92 then [92, c] else [c]

theorem sayC_len (c : UInt8) : (sayC c).length ≤ 4 := by
  unfold sayC
  split
  · simp
  · split <;> simp

theorem hexes_size : hexes.size = 16 := rfl

theorem hexes_fin : ∀ n : Fin 16, hexes.data.toList.getD n.val 0 = hexC n.val := by decide +kernel

theorem hexes_get (n : Nat) (h : n < 16) : hexes[n]'(by rw [hexes_size]; exact h) = hexC n := by
  have := hexes_fin ⟨n, h⟩
  rw [List.getD_eq_getElem?_getD, List.getElem?_eq_getElem (by show n < hexes.size; rw [hexes_size]; exact h)] at this
  exact this

set_option maxHeartbeats 2000000 in
set_option maxRecDepth 100000 in
theorem sayByte_any {w0 w : World} {b : Nat} {l : List UInt8} (h : RBx w0 b l w) (c : UInt8) (hl : l.length ≤ 900000) :
    Calls Tryd.prog 57 #[.pointer (some ⟨b, 0, none⟩), .int .u8 (c.toNat : Nat)] w fun e w' => e = .returned (.tuple #[]) ∧ RBx w0 b (l ++ sayC c) w' ∧ Below b w w' := by
  have HP := Lib.hid (plainB_any c w)
  cases hp : plnB c
  · have HS : Hid (sayC c = [92, 120, hexC (c.toNat / 16), hexC (c.toNat % 16)]) := Lib.hid (by unfold sayC; rw [hp]; rfl)
    have H1 := Lib.hid (rbx_byte h 92 (by omega))
    have q0 : (0 : Int) ≤ (c.toNat : Int) / 16 := by omega
    have q1 : (c.toNat : Int) / 16 < 16 := by have := c.toNat_lt; omega
    have HX := Lib.hid (hexes_get (c.toNat / 16) (by omega))
    have HY := Lib.hid (hexes_get (c.toNat % 16) (by omega))
    unfold hexes at HX HY
    go_enter Tryd.func57, Tryd.ntmps57
    go_wp2_with fail
    refine HP.out.mono ?_
    rintro e w' ⟨rfl, rfl⟩
    rw [hp]
    go_wp2_with fail
    refine H1.out.mono ?_
    rintro e w1 ⟨rfl, h1, f1⟩
    go_wp2_with fail
    refine (rbx_byte h1 120 (by simp; omega)).mono ?_
    rintro e w2 ⟨rfl, h2, f2⟩
    go_wp2_with fail
    refine (rbx_byte h2 _ (by simp; omega)).mono ?_
    rintro e w3 ⟨rfl, h3, f3⟩
    rw [HX.out] at h3
    go_wp2_with fail
    refine (rbx_byte h3 _ (by simp; omega)).mono ?_
    rintro e w4 ⟨rfl, h4, f4⟩
    rw [HY.out] at h4
    go_wp2_with fail
    go_end0
    exact ⟨rfl, by rw [HS.out]; simpa using h4, f1.trans (f2.trans (f3.trans f4))⟩
  · by_cases h39 : c = 39
    · have HS : Hid (sayC c = [92, c]) := Lib.hid (by unfold sayC; rw [hp]; simp [h39])
      have e1 : ((c.toNat : Int) == 39) = true := by rw [h39]; rfl
      clear h39
      go_enter Tryd.func57, Tryd.ntmps57
      go_wp2_with fail
      refine HP.out.mono ?_
      rintro e w' ⟨rfl, rfl⟩
      rw [hp]
      go_wp2_with fail
      refine (rbx_byte h 92 (by omega)).mono ?_
      rintro e w1 ⟨rfl, h1, f1⟩
      go_wp2_with fail
      refine (rbx_byte h1 c (by simp; omega)).mono ?_
      rintro e w2 ⟨rfl, h2, f2⟩
      go_wp2_with fail
      go_end0
      exact ⟨rfl, by rw [HS.out]; simpa using h2, f1.trans f2⟩
    · have e1 : ((c.toNat : Int) == 39) = false := by have := u8_ne (k := 39) h39; rw [beq_eq_false_iff_ne]; omega
      by_cases h92 : c = 92
      · have HS : Hid (sayC c = [92, c]) := Lib.hid (by unfold sayC; rw [hp]; simp [h92])
        have e2 : ((c.toNat : Int) == 92) = true := by rw [h92]; rfl
        clear h39 h92
        go_enter Tryd.func57, Tryd.ntmps57
        go_wp2_with fail
        refine HP.out.mono ?_
        rintro e w' ⟨rfl, rfl⟩
        rw [hp]
        go_wp2_with fail
        refine (rbx_byte h 92 (by omega)).mono ?_
        rintro e w1 ⟨rfl, h1, f1⟩
        go_wp2_with fail
        refine (rbx_byte h1 c (by simp; omega)).mono ?_
        rintro e w2 ⟨rfl, h2, f2⟩
        go_wp2_with fail
        go_end0
        exact ⟨rfl, by rw [HS.out]; simpa using h2, f1.trans f2⟩
      · have HS : Hid (sayC c = [c]) := Lib.hid (by unfold sayC; rw [hp]; simp [h39, h92])
        have e2 : ((c.toNat : Int) == 92) = false := by have := u8_ne (k := 92) h92; rw [beq_eq_false_iff_ne]; omega
        clear h39 h92
        go_enter Tryd.func57, Tryd.ntmps57
        go_wp2_with fail
        refine HP.out.mono ?_
        rintro e w' ⟨rfl, rfl⟩
        rw [hp]
        go_wp2_with fail
        refine (rbx_byte h c (by omega)).mono ?_
        rintro e w1 ⟨rfl, h1, f1⟩
        go_wp2_with fail
        go_end0
        exact ⟨rfl, by rw [HS.out]; exact h1, f1⟩

/-- what says bytes, without the quotes -/
def sayL : List UInt8 → List UInt8
  | [] => []
  | c :: r => sayC c ++ sayL r

theorem sayL_append (a b : List UInt8) : sayL (a ++ b) = sayL a ++ sayL b := by
  induction a with
  | nil => rfl
  | cons c r ih => rw [List.cons_append, sayL, sayL, ih, List.append_assoc]

theorem sayL_len (a : List UInt8) : (sayL a).length ≤ 4 * a.length := by
  induction a with
  | nil => simp [sayL]
  | cons c r ih => have := sayC_len c; rw [sayL, List.length_append, List.length_cons]; omega

def textL (l : List UInt8) : List UInt8 := 39 :: (sayL l ++ [39])

theorem take_snocS (s : ByteArray) (k : Nat) (h : k < s.size) : s.data.toList.take (k + 1) = s.data.toList.take k ++ [s[k]] := by
  rw [List.take_succ_eq_append_getElem (by simpa using h)]; rfl

set_option maxHeartbeats 2000000 in
set_option maxRecDepth 100000 in
theorem text_any (S : ByteArray) (w : World) (hs : S.size ≤ 100000) :
    Calls Tryd.prog 42 #[.string S] w fun e w' => e = .returned (.string (ofL (textL S.data.toList))) ∧ Below w.heap.size w w' := by
  go_enter Tryd.func42, Tryd.ntmps42
  go_wp2_with fail
  have h0 := RBx.start w w (Below.refl _ _)
  refine (rbx_byte h0 39 (by simp)).mono ?_
  rintro e w1 ⟨rfl, h1, -⟩
  have H1 := Lib.hid h1; clear h1 h0
  go_wp2_with fail
  go_loopw [8] (fun i wr => ∃ k : Nat, k ≤ S.size ∧ i = .int .i64 k ∧ Hid (RBx w w.heap.size (39 :: sayL (S.data.toList.take k)) wr)) (fun i _ => S.size - (intOf i).toNat)
  case atStart => exact ⟨0, Nat.zero_le _, rfl, by simpa [sayL] using H1⟩
  case round =>
    obtain ⟨k, hk, rfl, Hk⟩ := hrel
    by_cases hlt : k < S.size
    · have hlt1 : decide ((k : Int) < (S.size : Int)) = true := by rw [decide_eq_true_eq]; omega
      have Ht := Lib.hid (take_snocS S k hlt)
      have hb := sayL_len (S.data.toList.take k)
      have hb2 : (S.data.toList.take k).length ≤ k := List.length_take_le _ _
      go_wp2_with fail
      refine (sayByte_any Hk.out S[k] (by rw [List.length_cons]; omega)).mono ?_
      rintro e w2 ⟨rfl, h2, -⟩
      have H2 := Lib.hid h2; clear h2
      go_wp2_with fail
      go_roundw
      case rel => exact ⟨k + 1, by omega, by go_num, Lib.hid (by rw [Ht.out, sayL_append, show sayL [S[k]] = sayC S[k] by simp [sayL], ← List.cons_append]; exact H2.out)⟩
      case measure => simp [intOf]; omega
    · have hlt1 : decide ((k : Int) < (S.size : Int)) = false := by rw [decide_eq_false_iff_not]; omega
      have hb := sayL_len (S.data.toList.take k)
      have hb2 : (S.data.toList.take k).length ≤ k := List.length_take_le _ _
      have Ht : Hid (S.data.toList.take k = S.data.toList) := Lib.hid (List.take_of_length_le (by rw [len_list]; omega))
      go_wp2_with fail
      refine (rbx_byte Hk.out 39 (by rw [List.length_cons]; omega)).mono ?_
      rintro e w2 ⟨rfl, h2, -⟩
      rw [Ht.out] at h2
      go_wp2_with fail
      refine (rbx_str h2).mono ?_
      rintro e w3 ⟨rfl, hb3, -⟩
      go_wp2_with fail
      go_ret
      exact ⟨rfl, hb3⟩

end Go.Proofs.YtgmjhoppjjjilaaDoor

/- lex.readText -/
namespace Go.Proofs.YtgmjhoppjjjilaaDoor
open Go.ChangeShapes Go.WideShapes Go.ChangeAt Go.RowKit Go.Fl
open Go.Shelf

def set5 (w : World) (g : Nat) (v0 v1 v2 v3 v4 : Value) : World :=
  ((((w.setCell ⟨g, 0, none⟩ v0).setCell ⟨g, 1, none⟩ v1).setCell ⟨g, 2, none⟩ v2).setCell ⟨g, 3, none⟩ v3).setCell ⟨g, 4, none⟩ v4

theorem set5_below {B : Nat} {a w : World} {g : Nat} (h : Below B a w) (hg : B ≤ g) (v0 v1 v2 v3 v4 : Value) : Below B a (set5 w g v0 v1 v2 v3 v4) :=
  ((((h.setCell (p := ⟨g, 0, none⟩) hg v0).setCell (p := ⟨g, 1, none⟩) hg v1).setCell (p := ⟨g, 2, none⟩) hg v2).setCell (p := ⟨g, 3, none⟩) hg v3).setCell (p := ⟨g, 4, none⟩) hg v4

theorem set5_load {w : World} {g : Nat} {t : TypeId} {cs : Array Value} (h : Blk w g t cs) (hs : 5 ≤ cs.size) (v0 v1 v2 v3 v4 : Value) :
    (w.setCell ⟨g, 0, none⟩ v0).cell? ⟨g, 0, none⟩ = some v0 ∧
    ((w.setCell ⟨g, 0, none⟩ v0).setCell ⟨g, 1, none⟩ v1).cell? ⟨g, 1, none⟩ = some v1 ∧
    (((w.setCell ⟨g, 0, none⟩ v0).setCell ⟨g, 1, none⟩ v1).setCell ⟨g, 2, none⟩ v2).cell? ⟨g, 2, none⟩ = some v2 ∧
    ((((w.setCell ⟨g, 0, none⟩ v0).setCell ⟨g, 1, none⟩ v1).setCell ⟨g, 2, none⟩ v2).setCell ⟨g, 3, none⟩ v3).cell? ⟨g, 3, none⟩ = some v3 ∧
    (((((w.setCell ⟨g, 0, none⟩ v0).setCell ⟨g, 1, none⟩ v1).setCell ⟨g, 2, none⟩ v2).setCell ⟨g, 3, none⟩ v3).setCell ⟨g, 4, none⟩ v4).cell? ⟨g, 4, none⟩ = some v4 :=
  ⟨by rw [(h.set_ 0 v0).cell]; exact Array.getElem?_setIfInBounds_self_of_lt (by first | omega | (simp only [Array.size_setIfInBounds]; omega)),
   by rw [((h.set_ 0 v0).set_ 1 v1).cell]; exact Array.getElem?_setIfInBounds_self_of_lt (by first | omega | (simp only [Array.size_setIfInBounds]; omega)),
   by rw [(((h.set_ 0 v0).set_ 1 v1).set_ 2 v2).cell]; exact Array.getElem?_setIfInBounds_self_of_lt (by first | omega | (simp only [Array.size_setIfInBounds]; omega)),
   by rw [((((h.set_ 0 v0).set_ 1 v1).set_ 2 v2).set_ 3 v3).cell]; exact Array.getElem?_setIfInBounds_self_of_lt (by first | omega | (simp only [Array.size_setIfInBounds]; omega)),
   by rw [(((((h.set_ 0 v0).set_ 1 v1).set_ 2 v2).set_ 3 v3).set_ 4 v4).cell]; exact Array.getElem?_setIfInBounds_self_of_lt (by first | omega | (simp only [Array.size_setIfInBounds]; omega))⟩

/-- a word's box at g, with these five cells -/
def WBox (w : World) (g : Nat) (v0 v1 v2 v3 v4 : Value) : Prop := Blk w g 65 #[v0, v1, v2, v3, v4]

/-- an empty one -/
def WZero (w : World) (g : Nat) : Prop := WBox w g (.int .i64 0) (.string ⟨#[]⟩) (.int .i64 0) (.float .f64 0) (.int .i64 0)

theorem drop_list (S : ByteArray) (a : Nat) : (S.extract a S.size).data.toList = S.data.toList.drop a := by
  rw [ByteArray.data_extract]
  simp only [Array.toList_extract, List.extract]
  rw [List.take_of_length_le (by rw [List.length_drop]; have := len_list S; omega)]

theorem txtGo_out {l acc : List UInt8} {a fu : Nat} (h : l.length ≤ a) : txtGo fu l acc a = none := by
  cases fu with
  | zero => rfl
  | succ fu => rw [txtGo, List.drop_eq_nil_of_le h]

theorem txtGo_quote {S : ByteArray} {acc : List UInt8} {a fu : Nat} (h : a < S.size) (hq : S[a] = 39) : txtGo (fu + 1) S.data.toList acc a = if 500 < acc.length then none else some (acc, a + 1) := by
  rw [txtGo, list_cut S a h]
  simp only [hq, if_true]

theorem txtGo_none {S : ByteArray} {acc : List UInt8} {a fu : Nat} (h : a < S.size) (hq : S[a] ≠ 39) (hb : bytO (S.data.toList.drop a) = none) : txtGo (fu + 1) S.data.toList acc a = none := by
  rw [list_cut S a h] at hb
  rw [txtGo, list_cut S a h]
  simp only [hq, if_false, hb]

theorem txtGo_more {S : ByteArray} {acc : List UInt8} {a fu n : Nat} {c : UInt8} (h : a < S.size) (hq : S[a] ≠ 39) (hb : bytO (S.data.toList.drop a) = some (c, n)) : txtGo (fu + 1) S.data.toList acc a = txtGo fu S.data.toList (acc ++ [c]) (a + n) := by
  rw [list_cut S a h] at hb
  rw [txtGo, list_cut S a h]
  simp only [hq, if_false, hb]

theorem txtO_of {S : ByteArray} {fu a : Nat} {acc : List UInt8} (h : txtGo S.size S.data.toList [] 1 = txtGo fu S.data.toList acc a) :
    txtO S.data.toList = match txtGo fu S.data.toList acc a with | none => none | some (t, n) => some (⟨4, ofL t, 0, 0, 0⟩, n) := by
  unfold txtO
  rw [len_list, h]
  rfl

end Go.Proofs.YtgmjhoppjjjilaaDoor
