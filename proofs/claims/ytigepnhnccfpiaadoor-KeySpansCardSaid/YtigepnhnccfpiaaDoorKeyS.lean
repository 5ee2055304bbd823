/- spans: key.Begin, key.In -/
import Derived.Test.YtigepnhnccfpiaaDoorKeyR
namespace Go.Proofs.YtigepnhnccfpiaaDoor
open Go.ChangeShapes Go.WideShapes Go.ChangeAt Go.RowKit Go.Fl

/-- where the span of a beginning ends -/
def highL : List UInt8 → List UInt8
  | [] => []
  | c :: r => if highL r = [] then (if c.toNat < 255 then [c + 1] else []) else c :: highL r

theorem highL_len : ∀ l : List UInt8, (highL l).length ≤ l.length
  | [] => Nat.le_refl _
  | c :: r => by
    have := highL_len r
    rw [highL]
    split
    · split <;> simp
    · simpa using this

theorem highL_behind : ∀ (p q : List UInt8), highL q ≠ [] → highL (p ++ q) = p ++ highL q
  | [], _, _ => rfl
  | c :: p, q, h => by
    have ih := highL_behind p q h
    rw [List.cons_append, highL, ih, if_neg (by simp [h])]; rfl

theorem succ_byte {c : UInt8} (h : c.toNat < 255) : (c + 1).toNat = c.toNat + 1 := by
  rw [UInt8.toNat_add]
  show (c.toNat + 1) % 256 = _
  omega

theorem less_cons (a b : UInt8) (x y : List UInt8) : Op.bytesLess (a :: x) (b :: y) = if a.toNat < b.toNat then true else if b.toNat < a.toNat then false else Op.bytesLess x y := by
  rw [Op.bytesLess]
  have h1 : a < b ↔ a.toNat < b.toNat := UInt8.lt_iff_toNat_lt
  have h2 : b < a ↔ b.toNat < a.toNat := UInt8.lt_iff_toNat_lt
  by_cases e1 : a.toNat < b.toNat
  · simp [h1, e1]
  · by_cases e2 : b.toNat < a.toNat
    · have : ¬ a = b := fun e => by subst e; omega
      simp [h1, e1, e2, this]
    · have : a = b := UInt8.toNat_inj.1 (by omega)
      subst this
      simp

/-- a span has just the keys that begin so -/
theorem span_prefix : ∀ s k : List UInt8, (!Op.bytesLess k s && (decide (highL s = []) || Op.bytesLess k (highL s))) = s.isPrefixOf k
  | [], k => by
    have : Op.bytesLess k [] = false := by cases k <;> rfl
    simp [highL, this]
  | c :: r, [] => by simp [Op.bytesLess]
  | c :: r, d :: k => by
    have ih := span_prefix r k
    rw [less_cons, highL, List.isPrefixOf_cons_cons]
    have hc : c.toNat < 256 := c.toNat_lt
    have hd : d.toNat < 256 := d.toNat_lt
    rcases Nat.lt_trichotomy d.toNat c.toNat with h | h | h
    · have e : (c == d) = false := beq_eq_false_iff_ne.2 fun e => by subst e; omega
      rw [if_pos h, e]; simp
    · have e : c = d := UInt8.toNat_inj.1 h.symm
      subst e
      rw [if_neg (by omega), if_neg (by omega), beq_self_eq_true, Bool.true_and, ← ih]
      by_cases hh : highL r = []
      · rw [if_pos hh]
        by_cases h255 : c.toNat < 255
        · rw [if_pos h255, less_cons, if_pos (by rw [succ_byte h255]; omega)]
          simp [hh]
        · rw [if_neg h255]
          simp [hh]
      · rw [if_neg hh, less_cons, if_neg (by omega), if_neg (by omega)]
        simp [hh]
    · have e : (c == d) = false := beq_eq_false_iff_ne.2 fun e => by subst e; omega
      rw [if_neg (by omega), if_pos h, e, Bool.false_and, Bool.not_false, Bool.true_and]
      by_cases hh : highL r = []
      · rw [if_pos hh, if_pos (by omega), less_cons, if_neg (by rw [succ_byte (by omega)]; omega)]
        by_cases h2 : (c + 1).toNat < d.toNat
        · rw [if_pos h2]; simp
        · rw [if_neg h2]
          have : Op.bytesLess k [] = false := by cases k <;> rfl
          simp [this]
      · rw [if_neg hh, less_cons, if_neg (by omega), if_pos h]
        simp

set_option maxHeartbeats 1000000 in
set_option maxRecDepth 100000 in
theorem in_any (lo hi k : ByteArray) (w : World) :
    Calls Tryd.prog 17 #[.agg #[.string lo, .string hi], .string k] w fun e w' => e = .returned (.bool (!Op.bytesLess k.toList lo.toList && (hi.toList.isEmpty || Op.bytesLess k.toList hi.toList))) ∧ Below w.heap.size w w' := by
  have hbox := (Below.refl w.heap.size w).alloc (Nat.le_refl _) (.cells #[.string lo, .string hi] 34)
  rcases h1 : Op.bytesLess k.toList lo.toList with _ | _
  · rcases h2 : hi.toList.isEmpty with _ | _
    · have h2' : (!hi.toList.isEmpty) = true := by rw [h2]; rfl
      rcases h3 : Op.bytesLess k.toList hi.toList with _ | _
      all_goals
        go_enter Tryd.func17, Tryd.ntmps17
        go_wp2
        go_ret
        exact ⟨rfl, hbox⟩
    · have h2' : (!hi.toList.isEmpty) = false := by rw [h2]; rfl
      have h2'' : hi.toList = [] := List.isEmpty_iff.1 h2
      go_enter Tryd.func17, Tryd.ntmps17
      go_wp2
      go_ret
      exact ⟨rfl, hbox⟩
  · go_enter Tryd.func17, Tryd.ntmps17
    go_wp2
    go_ret
    exact ⟨rfl, hbox⟩

/-- one byte as a text, wherever it lies -/
theorem conv_one {P : Program} (src e dst : TypeId) (hs : P.underlying src = some (.slice e)) (he : P.underlying e = some (.int .u8)) (hd : P.underlying dst = some .string) (W : World) (g : Nat) (x : Int) (cap : Nat) (hc : W.cell? ⟨g, 0, none⟩ = some (.int .u8 x)) :
    (convert src dst (.slice (some ⟨g, 0, none⟩) 1 cap)).run P W = .ok (.string (strOfNums [x])) W := by
  refine run_convert_bytes_arg _ src e hs he g 0 1 cap [x] rfl (fun i hi => ?_) dst hd
  obtain rfl : i = 0 := by simpa using hi
  exact hc

set_option maxHeartbeats 2000000 in
set_option maxRecDepth 100000 in
theorem begin_any (s : ByteArray) (w : World) (hs : s.size ≤ 1000000) :
    Calls Tryd.prog 15 #[.string s] w fun e w' => e = .returned (.agg #[.string s, .string (bstr (highL s.data.toList))]) ∧ Below w.heap.size w w' := by
  have hb0 := (Below.refl w.heap.size w).alloc (Nat.le_refl _) (.cells #[.string ⟨#[]⟩, .string ⟨#[]⟩] 34)
  have HB0 := Lib.hid hb0; clear hb0
  have hsl : s.data.toList.length = s.size := rfl
  have HSL := Lib.hid hsl; clear hsl
  go_enter Tryd.func15, Tryd.ntmps15
  go_wp2_with fail
  go_loop [3] (fun si => ∃ j : Nat, j ≤ s.size ∧ si = .int .i64 ((j : Int) - 1) ∧ Hid (highL (s.data.toList.drop j) = [])) (fun si => (intOf si + 1).toNat)
  case atStart => exact ⟨s.size, Nat.le_refl _, rfl, by show _ = _; rw [List.drop_eq_nil_of_le (by rw [HSL.out]; exact Nat.le_refl _)]; rfl⟩
  case round =>
    obtain ⟨j, hj, rfl, HJ⟩ := hrel
    rcases j with _ | i
    · have H0 := Lib.hid (show highL s.data.toList = [] by have := HJ.out; simpa using this)
      have e0 : ((0 : Nat) : Int) - 1 = -1 := rfl
      rw [e0]
      clear e0
      go_wp2
      exact bodyPost_ret (v := .agg #[.string s, .string ⟨#[]⟩]) (by simp [results, Tryd.results15, go_sem]) rfl ⟨by rw [H0.out]; rfl, (Below.refl _ _).alloc (Nat.le_refl _) _⟩
    · have e1 : ((i + 1 : Nat) : Int) - 1 = (i : Int) := by omega
      rw [e1]
      clear e1
      have hlt : i < s.size := by omega
      have hdr := List.drop_eq_getElem_cons (l := s.data.toList) (i := i) (by rw [HSL.out]; exact hlt)
      have hdr2 : s.data.toList.drop i = s[i] :: s.data.toList.drop (i + 1) := hdr
      have hc : s[i].toNat < 256 := s[i].toNat_lt
      by_cases h255 : s[i].toNat < 255
      · have hh : highL (s.data.toList.drop i) = [s[i] + 1] := by rw [hdr2, highL, HJ.out, if_pos rfl, if_pos h255]
        have hfin : highL s.data.toList = s.data.toList.take i ++ [s[i] + 1] := by
          have := highL_behind (s.data.toList.take i) (s.data.toList.drop i) (by rw [hh]; simp)
          rw [List.take_append_drop, hh] at this
          exact this
        have HFIN := Lib.hid (show bstr (highL s.data.toList) = bstr (s.data.toList.take i ++ [s[i] + 1]) by rw [hfin])
        have hex : s.extract 0 i = bstr (s.data.toList.take i) := by
          apply ByteArray.ext; apply Array.ext'
          simp [bstr, ByteArray.data_extract, List.extract_eq_take_drop]
        have hadd := add_run (P := Tryd.prog) (s.data.toList.take i) [s[i] + 1] (by rw [List.length_take, HSL.out]; simp; omega)
        rw [← hex] at hadd
        have hsb := succ_byte h255
        have hcv := conv_one (P := Tryd.prog) 47 5 9 Tryd.underlying47 Tryd.underlying5 Tryd.underlying9 ((w.alloc (.cells #[.string ⟨#[]⟩, .string ⟨#[]⟩] 34)).alloc (.cells #[.int .u8 (((s[i].toNat : Nat) : Int) + 1)] 5)).drew (w.heap.size + 1) (((s[i].toNat : Nat) : Int) + 1) 1 (by
          have := (Blk.new (w.alloc (.cells #[.string ⟨#[]⟩, .string ⟨#[]⟩] 34)) 5 #[.int .u8 (((s[i].toNat : Nat) : Int) + 1)]).cell 0
          simp at this ⊢)
        have hst : strOfNums [((s[i].toNat : Nat) : Int) + 1] = bstr [s[i] + 1] := by
          unfold strOfNums bstr
          simp only [List.map_cons, List.map_nil]
          congr 3
        rw [hst] at hcv
        have d1 : decide (((s[i].toNat : Nat) : Int) < 255) = true := by rw [decide_eq_true_eq]; omega
        have hw8 : IntKind.u8.wrap (((s[i].toNat : Nat) : Int) + 1) = ((s[i].toNat : Nat) : Int) + 1 := by rw [show ∀ x, IntKind.u8.wrap x = x % 256 from fun x => rfl]; omega
        clear hdr hdr2 hh hfin hex hsb hst HSL
        go_wp2
        go_region_with fail
        all_goals
          go_wp2
          exact bodyPost_ret (v := .agg #[.string s, .string (bstr (s.data.toList.take i ++ [s[i] + 1]))]) (by simp [results, Tryd.results15, go_sem]) rfl ⟨by rw [HFIN.out], ((Below.refl _ _).alloc (Nat.le_refl _) _).alloc (by simp) _ |>.drew⟩
      · have HJ2 := Lib.hid (show highL (s.data.toList.drop i) = [] by rw [hdr2, highL, HJ.out, if_pos rfl, if_neg h255])
        have d1 : decide (((s[i].toNat : Nat) : Int) < 255) = false := by rw [decide_eq_false_iff_not]; omega
        clear hdr hdr2 HSL
        go_wp2
        go_round
        case rel => exact ⟨i, by omega, by go_num, HJ2⟩
        case measure => simp [intOf]

end Go.Proofs.YtigepnhnccfpiaaDoor
