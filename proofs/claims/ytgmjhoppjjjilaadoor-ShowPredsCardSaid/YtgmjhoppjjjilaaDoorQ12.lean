/- LxX, LxQ, LyT -/
import Derived.Test.YtgmjhoppjjjilaaDoorQ11

/- Words, told for the laws; awake -/
namespace Go.Proofs.YtgmjhoppjjjilaaDoor
open Go.ChangeShapes Go.WideShapes Go.ChangeAt Go.RowKit Go.Fl
open Go.Shelf

theorem wdsGo_step {cn : Nat → Nat} {l : List UInt8} {fu a n b : Nat} {acc : List Wd} {x : Wd} (ha : a < l.length) (hr : readO cn (l.drop a) = some (x, n)) (hb : runP spcB l (a + n) = b) :
    wdsGo cn l (fu + 1) a acc = wdsGo cn l fu b (acc ++ [{ x with at_ := a }]) := by
  rw [wdsGo, if_pos ha, hr]
  show wdsGo cn l fu (runP spcB l (a + n)) _ = _
  rw [hb]

theorem wdsGo_end {cn : Nat → Nat} {l : List UInt8} {fu : Nat} {acc : List Wd} (h : acc.length ≤ 1500) : wdsGo cn l (fu + 1) l.length acc = (acc ++ [⟨0, ⟨#[]⟩, 0, 0, l.length⟩], 0, 0) := by
  rw [wdsGo, if_neg (Nat.lt_irrefl _), if_neg (by omega)]

theorem itoa_5 : Lib.itoa (-5) = [45, 53] := by
  unfold Lib.itoa
  rw [if_pos (by decide), show (-5 : Int).natAbs = 5 by decide, Lib.decDigits_one (by decide)]
  rfl

def awL : List UInt8 := [86, 40, 39, 97, 92, 120, 48, 48, 39, 44, 32, 45, 53, 41]

theorem aw_num : readO canonN (awL.drop 11) = some (⟨2, ofL [45, 53], -5, 0, 0⟩, 2) := by
  have h : readO canonN (awL.drop 11) = numO [45, 53, 41] := by kernel_rfl
  rw [h]
  unfold numO
  rw [show Lib.parseIntB 64 (numL [45, 53, 41]) = .ok (-5) by decide +kernel]
  simp only []
  rw [show numL [45, 53, 41] = [45, 53] by decide +kernel, itoa_5, if_pos rfl]
  rfl

def awW : List Wd := [⟨1, ofL [86], 0, 0, 0⟩, ⟨5, ofL [40], 0, 0, 1⟩, ⟨4, ofL [97, 0], 0, 0, 2⟩, ⟨5, ofL [44], 0, 0, 9⟩, ⟨2, ofL [45, 53], -5, 0, 11⟩, ⟨5, ofL [41], 0, 0, 13⟩, ⟨0, ⟨#[]⟩, 0, 0, 14⟩]

theorem aw_words : wdsO canonN awL = (awW, 0, 0) := by
  unfold wdsO
  rw [if_neg (by decide), show runP spcB awL 0 = 0 by decide, show awL.length + 1 = 15 from rfl]
  rw [wdsGo_step (a := 0) (x := ⟨1, ofL [86], 0, 0, 0⟩) (n := 1) (b := 1) (by decide) (by kernel_rfl) (by decide)]
  rw [wdsGo_step (a := 1) (x := ⟨5, ofL [40], 0, 0, 0⟩) (n := 1) (b := 2) (by decide) (by kernel_rfl) (by decide)]
  rw [wdsGo_step (a := 2) (x := ⟨4, ofL [97, 0], 0, 0, 0⟩) (n := 7) (b := 9) (by decide) (by kernel_rfl) (by decide)]
  rw [wdsGo_step (a := 9) (x := ⟨5, ofL [44], 0, 0, 0⟩) (n := 1) (b := 11) (by decide) (by kernel_rfl) (by decide)]
  rw [wdsGo_step (a := 11) (x := ⟨2, ofL [45, 53], -5, 0, 0⟩) (n := 2) (b := 13) (by decide) aw_num (by decide)]
  rw [wdsGo_step (a := 13) (x := ⟨5, ofL [41], 0, 0, 0⟩) (n := 1) (b := 14) (by decide) (by kernel_rfl) (by decide)]
  rw [show (14 : Nat) = awL.length from rfl, wdsGo_end (by decide)]
  rfl

end Go.Proofs.YtgmjhoppjjjilaaDoor

/- a row of bytes of one's own -/
namespace Go.Proofs.YtgmjhoppjjjilaaDoor
open Go.ChangeShapes Go.WideShapes Go.ChangeAt Go.RowKit Go.Fl
open Go.Shelf

theorem info_byte8 : (Tryd.prog.info? 5).map (fun i => (i.zero, i.size, i.bytes)) = some (some (.int .u8 0), 1, 1) := by kernel_rfl

/-- bytes gathered in a row of one's own: its block, its room -/
def OwnB (B : Nat) (w : World) (l : List UInt8) (g cap : Nat) : Prop := w.ownsRow B 5 1 (.slice (some ⟨g, 0, none⟩) l.length cap) l.length (Lib.byteCells l)

theorem OwnB.on {B g cap : Nat} {w w' : World} {l : List UInt8} (h : OwnB B w l g cap) (hb : Below w.heap.size w w') : OwnB B w' l g cap := by
  refine World.ownsRow.kept (row := none) h ⟨hb.os, hb.tape, hb.output, hb.size, fun k hk _ => hb.block k hk⟩ ?_
  simp [Value.ownBlock]

theorem OwnB.start (w : World) : OwnB w.heap.size (w.alloc (.cells #[] 5)) [] w.heap.size 0 :=
  ⟨rfl, .inr ⟨w.heap.size, 0, #[], rfl, Nat.le_refl _, heap_alloc_top w _, Nat.le_refl _, Nat.zero_le _, rfl, rfl⟩⟩

theorem OwnB.add {B g cap : Nat} {w : World} {l : List UInt8} (h : OwnB B w l g cap) (hB : B ≤ w.heap.size) (hn : l.length ≤ 100000) (c : UInt8) (a : Addr) (hc : w.cell? a = some (.int .u8 (c.toNat : Nat))) :
    ∃ g' cap' w', (Builtin.append_ #[47, 47] 47 #[.slice (some ⟨g, 0, none⟩) l.length cap, .slice (some a) 1 1]).run Tryd.prog w = .ok (.slice (some ⟨g', 0, none⟩) (l ++ [c]).length cap') w' ∧ OwnB B w' (l ++ [c]) g' cap' ∧ Below B w w' := by
  obtain ⟨i0, hi0, hz0, hz1, hz2⟩ := info_parts info_byte8
  obtain ⟨v', w', hr, hown, hg, -⟩ := run_append_fresh (P := Tryd.prog) w B 47 47 5 i0 _ 1 1 Tryd.underlying47 hi0 hz0 hz1 hz2 rfl (by decide) _ l.length (Lib.byteCells l) h a 1 1 [.int .u8 (c.toNat : Nat)] rfl
    (fun j u hj => by
      match j, hj with
      | 0, hj => simp at hj; subst hj; simpa [Addr.add] using hc)
    (fun u hu => by simp at hu; subst hu; rfl) (by unfold maxLen; omega) (by omega) hB (by decide)
  have e : Lib.byteCells l ++ [.int .u8 (c.toNat : Nat)] = Lib.byteCells (l ++ [c]) := by simp [Lib.byteCells]
  rw [e] at hown
  obtain ⟨g', cap', rfl⟩ : ∃ g' cap', v' = .slice (some ⟨g', 0, none⟩) (l ++ [c]).length cap' := by
    rcases hown.2 with ⟨-, h0⟩ | ⟨g', cap', cur, rfl, -⟩
    · omega
    · exact ⟨g', cap', by simp⟩
  refine ⟨g', cap', w', hr, ?_, (Below.refl _ _).grown hg hB (fun k hk => (h.lt k hk).1)⟩
  unfold OwnB
  have e2 : (l ++ [c]).length = l.length + 1 := by simp
  rw [e2] at hown ⊢
  exact hown

theorem OwnB.str {B g cap : Nat} {w : World} {l : List UInt8} (h : OwnB B w l g cap) : (convert 47 9 (.slice (some ⟨g, 0, none⟩) l.length cap)).run Tryd.prog w = .ok (.string (ofL l)) w := by
  refine run_convert_bytes_back (P := Tryd.prog) w 47 9 5 ⟨g, 0, none⟩ cap l Tryd.underlying47 Tryd.underlying5 Tryd.underlying9 (fun j hj => ?_)
  exact h.cells (g := g) rfl j _ (by simp [Lib.byteCells, hj])

/-- append whose run is known, as one step of a region that draws -/
theorem step_append_runJ {P : Program} {ops : Array Oper} {o : Oper} {a : Act} {w : World} {K : Act → World → Prop} {Q : Exit → Act → World → Prop} {E : Prop}
    (hg : o.guard = none) (d x : Operand) (dT sT : TypeId) (hop : o.op = Op.call { callee := Callee.builtin Builtin.append, args := #[d, x], argTypes := #[dT, sT] })
    (v u : Value) (hd : a.eval d = v) (hx : a.eval x = u) {v' : Value} {w' : World} (hr : (Builtin.append_ #[dT, sT] o.type #[v, u]).run P w = .ok v' w') (hK : K (a.put o.dst v') w') :
    if Region.wanted o (yielded ops a.tmps) = true then Oper.wp P o a w K Q else E := by
  have hw : Region.wanted o (yielded ops a.tmps) = true := by simp [Region.wanted, hg]
  rw [if_pos hw]
  unfold Oper.wp
  simp [execOp, hop, resolve, invoke, builtin, hd, hx, hr, Result.andThen]
  exact hK

theorem drop_first {S : ByteArray} {i : Nat} {b : UInt8} {q : List UInt8} (h : S.data.toList.drop i = b :: q) : ∃ hi : i < S.size, S[i] = b ∧ S.data.toList.drop (i + 1) = q := by
  have hi : i < S.size := by
    rcases Nat.lt_or_ge i S.size with h' | h'
    · exact h'
    · rw [list_none S i h'] at h; cases h
  rw [list_cut S i hi] at h
  injection h with h1 h2
  exact ⟨hi, h1, h2⟩

end Go.Proofs.YtgmjhoppjjjilaaDoor

/- the walk of LexTexts -/
namespace Go.Proofs.YtgmjhoppjjjilaaDoor
open Go.ChangeShapes Go.WideShapes Go.ChangeAt Go.RowKit Go.Fl
open Go.Shelf

theorem hexI_fin : ∀ i : Fin 16, hexI (hexC i.val) = some i.val := by decide +kernel

theorem hexI_hexC (i : Nat) (h : i < 16) : hexI (hexC i) = some i := hexI_fin ⟨i, h⟩

theorem pln120 : plnB 120 = true := by decide

theorem bytO_say (c : UInt8) (rest : List UInt8) : bytO (sayC c ++ rest) = some (c, (sayC c).length) := by
  unfold sayC
  have hlt := c.toNat_lt
  split
  · rename_i hp
    show bytO (92 :: 120 :: hexC (c.toNat / 16) :: hexC (c.toNat % 16) :: rest) = _
    unfold bytO
    simp only [pln92, hexI_hexC (c.toNat / 16) (by omega), hexI_hexC (c.toNat % 16) (by omega)]
    have e : UInt8.ofNat (16 * (c.toNat / 16) + c.toNat % 16) = c := by
      rw [Nat.div_add_mod]; simp
    rw [e]
    simp
  · rename_i hp
    split
    · rename_i hq
      show bytO (92 :: c :: rest) = _
      unfold bytO
      simp [pln92, hq]
    · rename_i hq
      show bytO (c :: rest) = _
      unfold bytO
      have h92 : c ≠ 92 := fun e => hq (.inr e)
      simp [hp, h92]

theorem sayC_cons (c : UInt8) : ∃ b r, sayC c = b :: r ∧ b ≠ 39 := by
  unfold sayC
  split
  · exact ⟨_, _, rfl, by decide⟩
  · split
    · exact ⟨_, _, rfl, by decide⟩
    · rename_i hq
      exact ⟨_, _, rfl, fun e => hq (.inl e)⟩

theorem txtGo_say : ∀ (r : List UInt8) (fu : Nat) (l acc rest : List UInt8) (a : Nat), l.drop a = sayL r ++ 39 :: rest → r.length < fu → acc.length + r.length ≤ 500 → txtGo fu l acc a = some (acc ++ r, a + (sayL r).length + 1)
  | [], fu + 1, l, acc, rest, a, hd, _, hl => by
    rw [txtGo, hd]
    show (if (39 : UInt8) = 39 then (if 500 < acc.length then none else some (acc, a + 1)) else _) = _
    rw [if_pos rfl, if_neg (by simp at hl; omega)]
    simp [sayL]
  | c :: r, fu + 1, l, acc, rest, a, hd, hf, hl => by
    obtain ⟨b, q, hb, hne⟩ := sayC_cons c
    have hby := bytO_say c (sayL r ++ 39 :: rest)
    have hd2 : l.drop a = sayC c ++ (sayL r ++ 39 :: rest) := by rw [hd, sayL, List.append_assoc]
    have hd3 : l.drop (a + (sayC c).length) = sayL r ++ 39 :: rest := by
      rw [← List.drop_drop, hd2, List.drop_append_of_le_length (Nat.le_refl _), List.drop_eq_nil_of_le (Nat.le_refl _), List.nil_append]
    rw [txtGo, hd2]
    rw [hb, List.cons_append] at hby ⊢
    simp only []
    rw [if_neg hne, hby]
    simp only []
    rw [← hb]
    rw [List.length_cons] at hl hf
    rw [txtGo_say r fu l (acc ++ [c]) rest (a + (sayC c).length) hd3 (by omega) (by rw [List.length_append, List.length_singleton]; omega)]
    rw [List.append_assoc, sayL, List.length_append]
    congr 2
    omega

theorem textL_len (l : List UInt8) : (textL l).length = (sayL l).length + 2 := by unfold textL; simp

theorem sayL_ge (l : List UInt8) : l.length ≤ (sayL l).length := by
  induction l with
  | nil => simp [sayL]
  | cons c r ih =>
    obtain ⟨b, q, hb, -⟩ := sayC_cons c
    have : 0 < (sayC c).length := by rw [hb]; simp
    rw [sayL, List.length_append, List.length_cons]; omega

theorem read_text (cn : Nat → Nat) (l : List UInt8) (h : l.length ≤ 500) : readO cn (textL l) = some (⟨4, ofL l, 0, 0, 0⟩, (textL l).length) := by
  have h1 : readO cn (textL l) = txtO (textL l) := by
    unfold textL readO
    simp only []
    rw [if_neg (by simp [List.isPrefixOf])]
    simp only [if_true]
  have h2 := sayL_ge l
  rw [h1]
  unfold txtO
  rw [txtGo_say l (textL l).length (textL l) [] [] 1 (by unfold textL; simp) (by rw [textL_len]; omega) (by simpa using h)]
  simp only []
  rw [textL_len, List.nil_append]
  congr 2
  omega

theorem words_text (cn : Nat → Nat) (l : List UInt8) (h : l.length ≤ 500) : wdsO cn (textL l) = ([⟨4, ofL l, 0, 0, 0⟩, ⟨0, ⟨#[]⟩, 0, 0, (textL l).length⟩], 0, 0) := by
  have h2 := sayL_len l
  have h3 := textL_len l
  unfold wdsO
  have h0 : runP spcB (textL l) 0 = 0 := by
    rw [runP_stop (by rw [h3]; omega)]
    show spcB 39 = false
    decide
  rw [if_neg (by rw [h3]; omega), h0]
  rw [wdsGo_step (a := 0) (x := ⟨4, ofL l, 0, 0, 0⟩) (n := (textL l).length) (b := (textL l).length) (by rw [h3]; omega) (by rw [List.drop_zero]; exact read_text cn l h) (by rw [Nat.zero_add, runP_end (Nat.le_refl _)])]
  obtain ⟨f, hf⟩ : ∃ f, (textL l).length = f + 1 := ⟨(textL l).length - 1, by omega⟩
  have := wdsGo_end (cn := cn) (l := textL l) (fu := f) (acc := [] ++ [({ (⟨4, ofL l, 0, 0, 0⟩ : Wd) with at_ := 0 })]) (by simp)
  rw [← hf] at this
  rw [this]
  rfl

/-! ### the document's way back -/

theorem hexI_ascii_fin : ∀ n : Fin 16, let c := hexC n.val; (48 ≤ c.toNat ∧ c.toNat ≤ 57 ∧ c.toNat - 48 = n.val) ∨ (¬ c.toNat ≤ 57 ∧ 97 ≤ c.toNat ∧ c.toNat ≤ 102 ∧ c.toNat - 87 = n.val) := by decide +kernel

set_option maxRecDepth 100000 in
theorem rdigit_any (i : Nat) (h : i < 16) (w : World) : Calls Tryd.prog 60 #[.int .u8 ((hexC i).toNat : Nat)] w fun e w' => e = .returned (.int .i64 (i : Nat)) ∧ w = w' := by
  have hf := hexI_ascii_fin ⟨i, h⟩
  simp only [] at hf
  generalize hexC i = c at *
  rcases hf with ⟨h1, h2, h3⟩ | ⟨h1, h2, h3, h4⟩
  · have e1 : (48 : Int) ≤ (c.toNat : Int) := by omega
    have e2 : (c.toNat : Int) ≤ 57 := by omega
    have HE : Hid ((c.toNat : Int) - 48 = (i : Int)) := Lib.hid (by omega)
    clear h1 h2 h3
    go_enter Tryd.func60, Tryd.ntmps60
    go_wp2_with fail
    go_ret
    exact ⟨ret_int HE.out, rfl⟩
  · have e1 : (57 : Int) < (c.toNat : Int) := by omega
    have e2 : (97 : Int) ≤ (c.toNat : Int) := by omega
    have e3 : (c.toNat : Int) ≤ 102 := by omega
    have HE : Hid ((c.toNat : Int) - 97 + 10 = (i : Int)) := Lib.hid (by omega)
    clear h1 h2 h3 h4
    go_enter Tryd.func60, Tryd.ntmps60
    go_wp2_with fail
    go_ret
    exact ⟨ret_int HE.out, rfl⟩

theorem ret_text {acc L : List UInt8} {i n : Nat} (h : acc = L) (h' : i + 1 = n) : Ending.returned (.tuple #[.string (ofL acc), .int .i64 ((i : Int) + 1)]) = .returned (.tuple #[.string (ofL L), .int .i64 (n : Nat)]) := by
  subst h h'
  rfl

set_option maxHeartbeats 8000000 in
set_option maxRecDepth 100000 in
theorem quoted_any (S : ByteArray) (L : List UInt8) (hS : S.data.toList = textL L) (hL : L.length ≤ 500) (w : World) :
    Calls Tryd.prog 59 #[.string S] w fun e w' => e = .returned (.tuple #[.string (ofL L), .int .i64 (S.size : Nat)]) ∧ Below w.heap.size w w' := by
  have hsz : S.size = (sayL L).length + 2 := by rw [← len_list, hS, textL_len]
  have hmax := sayL_len L
  have hszl : S.size ≤ 2002 := by omega
  have hemp : S.toList.isEmpty = false := by
    rw [Lib.toList_data, hS]; rfl
  have hemp2 : (S.toList == []) = false := by rw [Lib.toList_data, hS]; rfl
  obtain ⟨hi0, hS0, -⟩ := drop_first (S := S) (i := 0) (b := 39) (q := sayL L ++ [39]) (by rw [List.drop_zero, hS]; rfl)
  have e0 : ((S[0].toNat : Int) != 39) = false := by rw [hS0]; rfl
  have HS := Lib.hid hS
  have Hsz := Lib.hid hsz
  clear hS0 hS hsz
  go_enter Tryd.func59, Tryd.ntmps59
  go_wp2_with fail
  go_loopw [4, 5] (fun so si wr => ∃ (i : Nat) (acc r : List UInt8) (g cap : Nat), so = .slice (some ⟨g, 0, none⟩) acc.length cap ∧ si = .int .i64 i ∧ i < S.size ∧ acc.length ≤ 500 ∧ Hid (i + (sayL r).length + 1 = S.size ∧ acc.length + r.length = L.length ∧ S.data.toList.drop i = sayL r ++ [39] ∧ L = acc ++ r) ∧ Hid (OwnB w.heap.size wr acc g cap ∧ Below w.heap.size w wr)) (fun _ si _ => S.size - (intOf si).toNat)
  case atStart => exact ⟨1, [], L, w.heap.size, 0, rfl, rfl, by have := Hsz.out; omega, by simp, Lib.hid ⟨by have := Hsz.out; omega, by simp, by rw [HS.out]; rfl, rfl⟩, Lib.hid ⟨OwnB.start w, (Below.refl _ _).alloc (Nat.le_refl _) _⟩⟩
  case round =>
    obtain ⟨i, acc, r, g, cap, rfl, rfl, hiS, hal, Hd, Hw⟩ := hrel
    have hlt1 : decide ((i : Int) < (S.size : Int)) = true := by rw [decide_eq_true_eq]; omega
    cases r with
    | nil =>
      obtain ⟨hi1, hSi, -⟩ := drop_first (S := S) (i := i) (b := 39) (q := []) (by rw [Hd.out.2.2.1]; rfl)
      have e1 : ((S[i].toNat : Int) == 39) = true := by rw [hSi]; rfl
      have hcv := Hw.out.1.str
      have HL : Hid (acc = L) := Lib.hid (by have := Hd.out.2.2.2; rw [List.append_nil] at this; exact this.symm)
      have Hsi : Hid (i + 1 = S.size) := Lib.hid (by have := Hd.out.1; simp [sayL] at this; omega)
      clear hSi
      go_wp2_with fail
      go_ret2
      exact ⟨ret_text HL.out Hsi.out, Hw.out.2⟩
    | cons c r =>
      have hcl := c.toNat_lt
      have hd2 : S.data.toList.drop i = sayC c ++ (sayL r ++ [39]) := by rw [Hd.out.2.2.1, sayL, List.append_assoc]
      have Hcc : Hid (L = (acc ++ [c]) ++ r) := Lib.hid (by rw [Hd.out.2.2.2]; simp)
      have hli : i + ((sayC c).length + (sayL r).length) + 1 = S.size := by have := Hd.out.1; rw [sayL, List.length_append] at this; exact this
      have hal2 : acc.length + (r.length + 1) = L.length := by have := Hd.out.2.1; rw [List.length_cons] at this; exact this
      cases hp : plnB c
      · have hsc : sayC c = [92, 120, hexC (c.toNat / 16), hexC (c.toNat % 16)] := by unfold sayC; rw [hp]; rfl
        rw [hsc] at hd2 hli
        replace hli : i + 4 + (sayL r).length + 1 = S.size := by simp at hli; omega
        obtain ⟨h0, s0, hd3⟩ := drop_first hd2
        obtain ⟨h1, s1, hd4⟩ := drop_first hd3
        obtain ⟨h2, s2, hd5⟩ := drop_first hd4
        obtain ⟨h3, s3, hd6⟩ := drop_first hd5
        have e1 : ((S[i].toNat : Int) == 39) = false := by rw [s0]; rfl
        have e2 : decide ((S[i].toNat : Int) < 32) = false := by rw [s0]; rfl
        have e3 : decide (126 < (S[i].toNat : Int)) = false := by rw [s0]; rfl
        have e4 : ((S[i].toNat : Int) != 92) = false := by rw [s0]; rfl
        have i1 : (i : Int) + 1 < (S.size : Int) := by omega
        have i2 : (i : Int) + 2 < (S.size : Int) := by omega
        have i3 : (i : Int) + 3 < (S.size : Int) := by omega
        have d1 : decide ((i : Int) + 1 < (S.size : Int)) = true := by rw [decide_eq_true_eq]; exact i1
        have d3 : decide ((S.size : Int) ≤ (i : Int) + 3) = false := by rw [decide_eq_false_iff_not]; omega
        have e5 : ((S[i + 1].toNat : Int) == 39) = false := by rw [s1]; rfl
        have e6 : ((S[i + 1].toNat : Int) == 92) = false := by rw [s1]; rfl
        have e7 : ((S[i + 1].toNat : Int) != 120) = false := by rw [s1]; rfl
        have hx : c.toNat / 16 < 16 := by omega
        have hy : c.toNat % 16 < 16 := by omega
        have HX : Hid (∀ W, Calls Tryd.prog 60 #[.int .u8 (S[i + 2].toNat : Int)] W fun e w' => e = .returned (.int .i64 (c.toNat / 16 : Nat)) ∧ W = w') := Lib.hid (fun W => by rw [s2]; exact rdigit_any _ hx W)
        have HY : Hid (∀ W, Calls Tryd.prog 60 #[.int .u8 (S[i + 3].toNat : Int)] W fun e w' => e = .returned (.int .i64 (c.toNat % 16 : Nat)) ∧ W = w') := Lib.hid (fun W => by rw [s3]; exact rdigit_any _ hy W)
        obtain ⟨x, hxe⟩ : ∃ x, c.toNat / 16 = x := ⟨_, rfl⟩
        obtain ⟨y, hye⟩ : ∃ y, c.toNat % 16 = y := ⟨_, rfl⟩
        rw [hxe] at HX hx
        rw [hye] at HY hy
        have dx : decide ((15 : Int) < (x : Int)) = false := by rw [decide_eq_false_iff_not]; omega
        have dy : decide ((15 : Int) < (y : Int)) = false := by rw [decide_eq_false_iff_not]; omega
        have hcxy : (c.toNat : Int) = 16 * (x : Int) + (y : Int) := by omega
        have hcx : 16 * (x : Int) + (y : Int) ≤ 255 := by omega
        obtain ⟨g', cap', w2, hr0, hown', hb2⟩ := OwnB.add ((Hw.out.1.on ((Below.refl wr.heap.size wr).alloc (Nat.le_refl _) (.cells #[.int .u8 (c.toNat : Nat)] 5))).on (Below.refl _ _).drew) (by show w.heap.size ≤ (wr.alloc (.cells #[.int .u8 (c.toNat : Nat)] 5)).heap.size; simp; exact Nat.le_trans Hw.out.2.size (by omega)) (by omega) c ⟨wr.heap.size, 0, none⟩ (by have := (Blk.new wr 5 #[.int .u8 (c.toNat : Nat)]).cell 0; exact this.trans rfl)
        rw [hcxy] at hr0
        have hr : ∀ ty, (Builtin.append_ #[47, 47] ty #[.slice (some ⟨g, 0, none⟩) acc.length cap, .slice (some ⟨wr.heap.size, 0, none⟩) 1 1]).run Tryd.prog ((wr.alloc (.cells #[.int .u8 (16 * (x : Int) + (y : Int))] 5)).drew) = .ok (.slice (some ⟨g', 0, none⟩) (acc ++ [c]).length cap') w2 := fun ty => hr0
        have HR := Lib.hid hr
        have HN : Hid (OwnB w.heap.size w2 (acc ++ [c]) g' cap' ∧ Below w.heap.size w w2) := Lib.hid ⟨hown', ((Hw.out.2.alloc Hw.out.2.size _).drew).trans hb2⟩
        have HH : Hid (i + 4 + (sayL r).length + 1 = S.size ∧ (acc ++ [c]).length + r.length = L.length ∧ S.data.toList.drop (i + 4) = sayL r ++ [39] ∧ L = (acc ++ [c]) ++ r) := Lib.hid ⟨hli, by rw [List.length_append, List.length_singleton]; omega, hd6, Hcc.out⟩
        clear hr hown' hb2 hd2 hd3 hd4 hd5 hd6 hsc s0 s1 s2 s3 hp hxe hye hli hal2
        have Hcxy := Lib.hid hcxy
        clear hcxy
        have t2w : ((i : Int) + 2).toNat = i + 2 := by omega
        have t3w : ((i : Int) + 3).toNat = i + 3 := by omega
        have s2w : IntKind.i64.wrap ((i : Int) + 2) = (i : Int) + 2 := IntWalk.i64_in _ (by omega)
        have s3w : IntKind.i64.wrap ((i : Int) + 3) = (i : Int) + 3 := IntWalk.i64_in _ (by omega)
        have s7w : IntKind.i64.wrap ((i : Int) + 4) = (i : Int) + 4 := IntWalk.i64_in _ (by omega)
        have s4w : IntKind.i64.wrap (16 * (x : Int)) = 16 * (x : Int) := IntWalk.i64_in _ (by omega)
        have s5w : IntKind.i64.wrap (16 * (x : Int) + (y : Int)) = 16 * (x : Int) + (y : Int) := IntWalk.i64_in _ (by omega)
        have s6w : IntKind.u8.wrap (16 * (x : Int) + (y : Int)) = 16 * (x : Int) + (y : Int) := by rw [IntKind.wrap_u8]; omega
        go_wp2_with fail
        (with_reducible refine (HX.out _).mono ?_)
        rintro e w' ⟨rfl, rfl⟩
        go_wp2_with fail
        (with_reducible refine (HY.out _).mono ?_)
        rintro e w' ⟨rfl, rfl⟩
        go_upto_region 17 with fail
        have mixed : Tryd.prog.follows Departure.mixedOrders = true := by kernel_rfl
        go_region_law_o (first
          | (refine step_append_runJ rfl _ _ 47 47 rfl _ _ (by simp [Act.eval]) (by simp [Act.eval]) (HR.out _) ?_)
          | (go_simp; go_at_call 60; (with_reducible refine (HX.out _).mono ?_); rintro e w1 ⟨rfl, rfl⟩)
          | (go_simp; go_at_call 60; (with_reducible refine (HY.out _).mono ?_); rintro e w1 ⟨rfl, rfl⟩)
          | fail)
        all_goals
          go_simp
          go_wp2_with fail
          try clear t2w t3w
          try clear s2w s3w s4w s5w s6w s7w
          refine ⟨⟨i + 4, acc ++ [c], r, g', cap', (by first | rfl | simp), (by first | rfl | go_num), by have := HH.out.1; omega, by have := HH.out.2.1; have := HH.out.1; omega, HH, HN⟩, by have := HH.out.1; simp [intOf]; omega⟩
      · by_cases hq : c = 39 ∨ c = 92
        · have hsc : sayC c = [92, c] := by unfold sayC; rw [hp]; simp [hq]
          rw [hsc] at hd2 hli
          replace hli : i + 2 + (sayL r).length + 1 = S.size := by simp at hli; omega
          obtain ⟨h0, s0, hd3⟩ := drop_first hd2
          obtain ⟨h1, s1, hd4⟩ := drop_first hd3
          have e1 : ((S[i].toNat : Int) == 39) = false := by rw [s0]; rfl
          have e2 : decide ((S[i].toNat : Int) < 32) = false := by rw [s0]; rfl
          have e3 : decide (126 < (S[i].toNat : Int)) = false := by rw [s0]; rfl
          have e4 : ((S[i].toNat : Int) != 92) = false := by rw [s0]; rfl
          have i1 : (i : Int) + 1 < (S.size : Int) := by omega
          have d1 : decide ((i : Int) + 1 < (S.size : Int)) = true := by rw [decide_eq_true_eq]; exact i1
          obtain ⟨g', cap', w2, hr, hown', hb2⟩ := OwnB.add (Hw.out.1.on ((Below.refl wr.heap.size wr).alloc (Nat.le_refl _) (.cells #[.int .u8 (c.toNat : Nat)] 5))) (by simp; exact Nat.le_trans Hw.out.2.size (by omega)) (by omega) c ⟨wr.heap.size, 0, none⟩ (by have := (Blk.new wr 5 #[.int .u8 (c.toNat : Nat)]).cell 0; rw [this]; rfl)
          have hrow : (c.toNat : Int) = (S[i + 1].toNat : Int) := by rw [s1]
          rw [hrow] at hr
          have HR := Lib.hid hr
          have HN : Hid (OwnB w.heap.size w2 (acc ++ [c]) g' cap' ∧ Below w.heap.size w w2) := Lib.hid ⟨hown', (Hw.out.2.alloc Hw.out.2.size _).trans hb2⟩
          have HH : Hid (i + 2 + (sayL r).length + 1 = S.size ∧ (acc ++ [c]).length + r.length = L.length ∧ S.data.toList.drop (i + 2) = sayL r ++ [39] ∧ L = (acc ++ [c]) ++ r) := Lib.hid ⟨hli, by rw [List.length_append, List.length_singleton]; omega, hd4, Hcc.out⟩
          have Hs1 := Lib.hid s1
          clear hr hown' hb2 hrow hd2 hd3 hd4 hsc s0 s1 hp hli hal2
          by_cases h39 : c = 39
          · have e5 : ((S[i + 1].toNat : Int) == 39) = true := by rw [Hs1.out, h39]; rfl
            clear h39 hq
            go_wp2_with (at_builtin; refine Lib.wpList_append_run_sl _ rfl _ _ 47 rfl _ _ rfl rfl HR.out ?_)
            refine ⟨⟨i + 2, acc ++ [c], r, g', cap', (by first | rfl | simp), (by first | rfl | go_num), by have := HH.out.1; omega, by have := HH.out.2.1; have := HH.out.1; omega, HH, HN⟩, by have := HH.out.1; simp [intOf]; omega⟩
          · have e5 : ((S[i + 1].toNat : Int) == 39) = false := by rw [Hs1.out]; have := u8_ne (k := 39) h39; rw [beq_eq_false_iff_ne]; omega
            have e6 : ((S[i + 1].toNat : Int) == 92) = true := by rw [Hs1.out, hq.resolve_left h39]; rfl
            clear h39 hq
            go_wp2_with (at_builtin; refine Lib.wpList_append_run_sl _ rfl _ _ 47 rfl _ _ rfl rfl HR.out ?_)
            refine ⟨⟨i + 2, acc ++ [c], r, g', cap', (by first | rfl | simp), (by first | rfl | go_num), by have := HH.out.1; omega, by have := HH.out.2.1; have := HH.out.1; omega, HH, HN⟩, by have := HH.out.1; simp [intOf]; omega⟩
        · have hsc : sayC c = [c] := by unfold sayC; rw [hp]; simp [hq]
          rw [hsc] at hd2 hli
          replace hli : i + 1 + (sayL r).length + 1 = S.size := by simp at hli; omega
          obtain ⟨h0, s0, hd3⟩ := drop_first hd2
          have h39 : c ≠ 39 := fun e => hq (.inl e)
          have h92 : c ≠ 92 := fun e => hq (.inr e)
          have e1 : ((S[i].toNat : Int) == 39) = false := by rw [s0]; have := u8_ne (k := 39) h39; rw [beq_eq_false_iff_ne]; omega
          have hp2 : 32 ≤ c.toNat ∧ c.toNat ≤ 126 := by simpa [plnB] using hp
          have e2 : decide ((S[i].toNat : Int) < 32) = false := by rw [s0, decide_eq_false_iff_not]; omega
          have e3 : decide (126 < (S[i].toNat : Int)) = false := by rw [s0, decide_eq_false_iff_not]; omega
          have e4 : ((S[i].toNat : Int) != 92) = true := by rw [s0]; have := u8_ne (k := 92) h92; rw [bne_iff_ne]; omega
          obtain ⟨g', cap', w2, hr, hown', hb2⟩ := OwnB.add (Hw.out.1.on ((Below.refl wr.heap.size wr).alloc (Nat.le_refl _) (.cells #[.int .u8 (c.toNat : Nat)] 5))) (by simp; exact Nat.le_trans Hw.out.2.size (by omega)) (by omega) c ⟨wr.heap.size, 0, none⟩ (by have := (Blk.new wr 5 #[.int .u8 (c.toNat : Nat)]).cell 0; rw [this]; rfl)
          have hrow : (c.toNat : Int) = (S[i].toNat : Int) := by rw [s0]
          rw [hrow] at hr
          have HR := Lib.hid hr
          have HN : Hid (OwnB w.heap.size w2 (acc ++ [c]) g' cap' ∧ Below w.heap.size w w2) := Lib.hid ⟨hown', (Hw.out.2.alloc Hw.out.2.size _).trans hb2⟩
          have HH : Hid (i + 1 + (sayL r).length + 1 = S.size ∧ (acc ++ [c]).length + r.length = L.length ∧ S.data.toList.drop (i + 1) = sayL r ++ [39] ∧ L = (acc ++ [c]) ++ r) := Lib.hid ⟨hli, by rw [List.length_append, List.length_singleton]; omega, hd3, Hcc.out⟩
          clear hr hown' hb2 hrow hd2 hd3 hsc s0 hp hp2 hq h39 h92 hli hal2
          go_wp2_with (at_builtin; refine Lib.wpList_append_run_sl _ rfl _ _ 47 rfl _ _ rfl rfl HR.out ?_)
          refine ⟨⟨i + 1, acc ++ [c], r, g', cap', (by first | rfl | simp), (by first | rfl | go_num), by have := HH.out.1; omega, by have := HH.out.2.1; have := HH.out.1; omega, HH, HN⟩, by have := HH.out.1; simp [intOf]; omega⟩

end Go.Proofs.YtgmjhoppjjjilaaDoor
