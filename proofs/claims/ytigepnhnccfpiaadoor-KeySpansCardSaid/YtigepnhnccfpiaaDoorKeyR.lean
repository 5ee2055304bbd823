/- the reference's keys -/
import Derived.Test.YtigepnhnccfpiaaDoorKeyB
import Derived.Test.YtigepnhnccfpiaaDoorRefS
import Derived.Test.YtigepnhnccfpiaaDoorRefB
namespace Go.Proofs.YtigepnhnccfpiaaDoor
open Go.ChangeShapes Go.WideShapes Go.ChangeAt Go.RowKit Go.Fl

theorem escL_snoc : ∀ (l : List UInt8) (c : UInt8), escL (l ++ [c]) = escL l ++ (if c = 0 then [0, 1] else [c])
  | [], c => by simp only [List.nil_append, escL]
  | d :: r, c => by
    rw [List.cons_append, escL, escL, escL_snoc r c]
    split <;> simp

theorem one_byte (s : ByteArray) (i : Nat) (h : i < s.size) : s.extract i (i + 1) = bstr [s[i]] := by
  apply ByteArray.ext
  apply Array.ext'
  have := take_snoc s i h
  simp only [bstr, ByteArray.data_extract, Array.toList_extract, List.extract_eq_take_drop, Nat.add_sub_cancel_left]
  rw [List.drop_eq_getElem_cons (by show i < s.size; exact h)]
  rfl

set_option maxHeartbeats 1000000 in
set_option maxRecDepth 100000 in
theorem rname_any (s : ByteArray) (w : World) (hs : s.size ≤ 1000000) :
    Calls Tryd.prog 14 #[.string s] w fun e w' => e = .returned (.string (bstr (nameL s.data.toList))) ∧ w = w' := by
  go_enter Tryd.func14, Tryd.ntmps14
  go_wp2_with fail
  go_loop [3, 4] (fun ss si => ∃ i : Nat, i ≤ s.size ∧ ss = .string (bstr (escL (s.data.toList.take i))) ∧ si = .int .i64 i) (fun _ si => s.size - (intOf si).toNat)
  case atStart => exact ⟨0, by omega, rfl, rfl⟩
  case round =>
    obtain ⟨i, hi, rfl, rfl⟩ := hrel
    have hel := escL_len (s.data.toList.take i)
    rw [List.length_take] at hel
    by_cases hlt : i < s.size
    · have ht := take_snoc s i hlt
      have hone := one_byte s i hlt
      have hadd1 := add_run (P := Tryd.prog) (escL (s.data.toList.take i)) [s[i]] (by simp only [List.length_cons, List.length_nil]; omega)
      rw [← hone] at hadd1
      have hsn := escL_snoc (s.data.toList.take i) s[i]
      rw [← ht] at hsn
      have c1 : (0 : Int) ≤ (i : Int) := by omega
      have c2 : (i : Int) ≤ (i : Int) + 1 := by omega
      have c3 : (i : Int) + 1 ≤ (s.size : Int) := by omega
      have e1 : ((i : Int) + 1).toNat = i + 1 := by omega
      have e2 : IntKind.i64.wrap ((i : Int) + 1) = (i : Int) + 1 := IntWalk.i64_in _ (by omega)
      by_cases h0 : s[i] = 0
      · rw [if_pos h0] at hsn
        have HSN := Lib.hid hsn
        have d0 : (((s[i].toNat : Nat) : Int) == 0) = true := by rw [h0]; rfl
        have hadd2 : ∀ W : World, (Op.stringOp .add (bstr (escL (s.data.toList.take i) ++ [s[i]])) ⟨#[1]⟩).run Tryd.prog W = .ok (.string (bstr (escL (s.data.toList.take i) ++ [s[i]] ++ [1]))) W :=
          add_run (escL (s.data.toList.take i) ++ [s[i]]) [1] (by simp only [List.length_append, List.length_cons, List.length_nil]; omega)
        have HT := Lib.hid (show escL (s.data.toList.take i) ++ [s[i]] ++ [1] = escL (s.data.toList.take (i + 1)) by rw [HSN.out, h0]; simp)
        have H0 := Lib.hid h0
        clear ht hone hsn h0 hel
        go_wp2_with fail
        go_round
        case rel => exact ⟨i + 1, by omega, by rw [← HT.out]; simp, by go_num⟩
        case measure => simp [intOf]; omega
      · rw [if_neg h0] at hsn
        have HSN := Lib.hid hsn
        have d0 : (((s[i].toNat : Nat) : Int) == 0) = false := by
          have : s[i].toNat ≠ 0 := fun h => h0 (UInt8.toNat_inj.1 h)
          exact beq_eq_false_iff_ne.2 (by omega)
        clear ht hone hsn h0 hel
        go_wp2_with fail
        go_round
        case rel => exact ⟨i + 1, by omega, by rw [HSN.out], by go_num⟩
        case measure => simp [intOf]; omega
    · have hall : s.data.toList.take i = s.data.toList := List.take_of_length_le (by show s.size ≤ i; omega)
      rw [hall] at hel ⊢
      have hadd : ∀ W : World, (Op.stringOp .add (bstr (escL s.data.toList)) ⟨#[0, 0]⟩).run Tryd.prog W = .ok (.string (bstr (nameL s.data.toList))) W := add_run (escL s.data.toList) [0, 0] (by simp only [List.length_cons, List.length_nil]; omega)
      have HA := Lib.hid hall
      clear hall
      go_wp2_with fail
      go_ret
      exact ⟨rfl, rfl⟩

theorem rtwoO_any (n : Int) (w : World) (h0 : 0 ≤ n) (h1 : n ≤ 65535) :
    Calls Tryd.prog 27 #[.int .i64 n] w fun e w' => e = .returned (.string (twoS n.toNat)) ∧ Below w.heap.size w w' := by
  obtain ⟨m, rfl⟩ := Int.eq_ofNat_of_zero_le h0
  exact rtwoS_any m w (by omega)

/-- the reference's Of at one tree -/
def ROfAt (t : T) : Prop := ∀ (d : Nat) (v : Value) (w : World), chkT t d = 0 → Rd w w.heap.size t v → (keyT t).length ≤ 140737488355328 →
    Calls Tryd.prog 11 #[v] w fun e w' => e = .returned (.string (bstr (keyT t))) ∧ Below w.heap.size w w'

set_option maxRecDepth 100000 in
theorem rof_bool_t (n : Int) (f : Nat) (s : ByteArray) (l : List T) (d : Nat) (v : Value) (w : World) (hck : chkT (.mk 1 true n f s l) d = 0) (h : Rd w w.heap.size (.mk 1 true n f s l) v) (hlen : (keyT (.mk 1 true n f s l)).length ≤ 140737488355328) :
    Calls Tryd.prog 11 #[v] w fun e w' => e = .returned (.string (bstr (keyT (.mk 1 true n f s l)))) ∧ Below w.heap.size w w' := by
  obtain ⟨-, -, hss, -, hcl, -⟩ := chk_parts hck
  clear hck
  have HCL := Lib.hid (chkL_all hcl); clear hcl
  have HE := Lib.hid (show keyT (.mk 1 true n f s l) = kby 2 :: [1] by rw [keyT]; rfl)
  have _hl := hlen; clear _hl
  rw [HE.out] at hlen ⊢
  clear hlen
  obtain ⟨A, cap, rfl, hk, hn, hf, hs, hc, hm, hA, hl⟩ := h.open
  have Hn := Lib.hid hn; have Hf := Lib.hid hf; have Hl := Lib.hid hl
  have hm2 := hm.2
  clear hk hn hf hs hc hA hm h hl
  have hbox := (Below.refl w.heap.size w).alloc (Nat.le_refl _) (.cells #[.int .i64 1, .bool true, .int .i64 n, .float .f64 f, .string s, .slice A l.length cap] 25)
  have hcv := conv_cells (P := Tryd.prog) 47 5 9 Tryd.underlying47 Tryd.underlying5 Tryd.underlying9 (w.alloc (.cells #[.int .i64 1, .bool true, .int .i64 n, .float .f64 f, .string s, .slice A l.length cap] 25)) 5 [(2 : Int)] 1
  simp only [List.length_cons, List.length_nil, List.map_cons, List.map_nil, Nat.zero_add, World.size_alloc] at hcv
  rw [show strOfNums [(2 : Int)] = bstr [kby 2] from rfl] at hcv
  have hb2 := hbox.alloc hbox.size (.cells #[.int .u8 (2 : Int)] 5)
  have HX := Lib.hid (Blk.new w 25 #[.int .i64 1, .bool true, .int .i64 n, .float .f64 f, .string s, .slice A l.length cap])
  have hadd : ∀ W : World, (Op.stringOp .add (bstr [kby 2]) ⟨#[1]⟩).run Tryd.prog W = .ok (.string (bstr [kby 2, 1])) W := add_run [kby 2] [1] (by simp)
  go_enter Tryd.func11, Tryd.ntmps11
  go_wp2_with fail
  go_ret
  exact ⟨rfl, hb2⟩

set_option maxRecDepth 100000 in
theorem rof_bool_f (n : Int) (f : Nat) (s : ByteArray) (l : List T) (d : Nat) (v : Value) (w : World) (hck : chkT (.mk 1 false n f s l) d = 0) (h : Rd w w.heap.size (.mk 1 false n f s l) v) (hlen : (keyT (.mk 1 false n f s l)).length ≤ 140737488355328) :
    Calls Tryd.prog 11 #[v] w fun e w' => e = .returned (.string (bstr (keyT (.mk 1 false n f s l)))) ∧ Below w.heap.size w w' := by
  obtain ⟨-, -, hss, -, hcl, -⟩ := chk_parts hck
  clear hck
  have HCL := Lib.hid (chkL_all hcl); clear hcl
  have HE := Lib.hid (show keyT (.mk 1 false n f s l) = kby 2 :: [0] by rw [keyT]; rfl)
  have _hl := hlen; clear _hl
  rw [HE.out] at hlen ⊢
  clear hlen
  obtain ⟨A, cap, rfl, hk, hn, hf, hs, hc, hm, hA, hl⟩ := h.open
  have Hn := Lib.hid hn; have Hf := Lib.hid hf; have Hl := Lib.hid hl
  have hm2 := hm.2
  clear hk hn hf hs hc hA hm h hl
  have hbox := (Below.refl w.heap.size w).alloc (Nat.le_refl _) (.cells #[.int .i64 1, .bool false, .int .i64 n, .float .f64 f, .string s, .slice A l.length cap] 25)
  have hcv := conv_cells (P := Tryd.prog) 47 5 9 Tryd.underlying47 Tryd.underlying5 Tryd.underlying9 (w.alloc (.cells #[.int .i64 1, .bool false, .int .i64 n, .float .f64 f, .string s, .slice A l.length cap] 25)) 5 [(2 : Int)] 1
  simp only [List.length_cons, List.length_nil, List.map_cons, List.map_nil, Nat.zero_add, World.size_alloc] at hcv
  rw [show strOfNums [(2 : Int)] = bstr [kby 2] from rfl] at hcv
  have hb2 := hbox.alloc hbox.size (.cells #[.int .u8 (2 : Int)] 5)
  have HX := Lib.hid (Blk.new w 25 #[.int .i64 1, .bool false, .int .i64 n, .float .f64 f, .string s, .slice A l.length cap])
  have hadd : ∀ W : World, (Op.stringOp .add (bstr [kby 2]) ⟨#[0]⟩).run Tryd.prog W = .ok (.string (bstr [kby 2, 0])) W := add_run [kby 2] [0] (by simp)
  go_enter Tryd.func11, Tryd.ntmps11
  go_wp2_with fail
  go_ret
  exact ⟨rfl, hb2⟩

set_option maxRecDepth 100000 in
theorem rof_int (n : Int) (b0 : Bool) (f : Nat) (s : ByteArray) (l : List T) (d : Nat) (v : Value) (w : World) (hck : chkT (.mk 2 b0 n f s l) d = 0) (h : Rd w w.heap.size (.mk 2 b0 n f s l) v) (hlen : (keyT (.mk 2 b0 n f s l)).length ≤ 140737488355328) :
    Calls Tryd.prog 11 #[v] w fun e w' => e = .returned (.string (bstr (keyT (.mk 2 b0 n f s l)))) ∧ Below w.heap.size w w' := by
  obtain ⟨-, -, hss, -, hcl, -⟩ := chk_parts hck
  clear hck
  have HCL := Lib.hid (chkL_all hcl); clear hcl
  have HE := Lib.hid (show keyT (.mk 2 b0 n f s l) = kby 3 :: numKey (fw (flo n)) (n - flo n).toNat 2 by rw [keyT]; rfl)
  have _hl := hlen; clear _hl
  rw [HE.out] at hlen ⊢
  have hnk := numKey_len (fw (flo n)) (n - flo n).toNat 2
  simp only [List.length_cons, hnk] at hlen
  obtain ⟨A, cap, rfl, hk, hn, hf, hs, hc, hm, hA, hl⟩ := h.open
  have Hn := Lib.hid hn; have Hf := Lib.hid hf; have Hl := Lib.hid hl
  have hm2 := hm.2
  clear hk hn hf hs hc hA hm h hl
  have hbox := (Below.refl w.heap.size w).alloc (Nat.le_refl _) (.cells #[.int .i64 2, .bool b0, .int .i64 n, .float .f64 f, .string s, .slice A l.length cap] 25)
  have hcv := conv_cells (P := Tryd.prog) 47 5 9 Tryd.underlying47 Tryd.underlying5 Tryd.underlying9 (w.alloc (.cells #[.int .i64 2, .bool b0, .int .i64 n, .float .f64 f, .string s, .slice A l.length cap] 25)) 5 [(3 : Int)] 1
  simp only [List.length_cons, List.length_nil, List.map_cons, List.map_nil, Nat.zero_add, World.size_alloc] at hcv
  rw [show strOfNums [(3 : Int)] = bstr [kby 3] from rfl] at hcv
  have hb2 := hbox.alloc hbox.size (.cells #[.int .u8 (3 : Int)] 5)
  have HX := Lib.hid (Blk.new w 25 #[.int .i64 2, .bool b0, .int .i64 n, .float .f64 f, .string s, .slice A l.length cap])
  obtain ⟨n1, n2⟩ := is64_iff.1 Hn.out
  have on := over_range n1 n2
  have HFW := Lib.hid (fw_facts (flo_fit n1 n2)).1
  have HO := Lib.hid on
  clear n1 n2 on hnk
  have hadd1 := add_run (P := Tryd.prog) [kby 3] (eightL (keyN (fw (flo n)))) (by rw [eightL_len]; simp)
  rw [show bstr (eightL (keyN (fw (flo n)))) = eightS (keyN (fw (flo n))) from rfl] at hadd1
  have hadd2 := add_run (P := Tryd.prog) ([kby 3] ++ eightL (keyN (fw (flo n)))) (twoS (n - flo n).toNat).data.toList (by rw [List.length_append, eightL_len, twoL_len]; simp)
  rw [show bstr (twoS (n - flo n).toNat).data.toList = twoS (n - flo n).toNat from rfl] at hadd2
  have hadd3 : ∀ W : World, (Op.stringOp .add (bstr ([kby 3] ++ eightL (keyN (fw (flo n))) ++ (twoS (n - flo n).toNat).data.toList)) ⟨#[2]⟩).run Tryd.prog W = .ok (.string (bstr ([kby 3] ++ eightL (keyN (fw (flo n))) ++ (twoS (n - flo n).toNat).data.toList ++ [2]))) W :=
    add_run _ [2] (by rw [List.length_append, List.length_append, eightL_len, twoL_len]; simp)
  have HFIN := Lib.hid (show bstr ([kby 3] ++ eightL (keyN (fw (flo n))) ++ (twoS (n - flo n).toNat).data.toList ++ [2]) = bstr (kby 3 :: numKey (fw (flo n)) (n - flo n).toNat 2) by unfold numKey; simp)
  simp only [List.cons_append, List.nil_append, List.append_assoc] at hadd1 hadd2 hadd3 HFIN
  have HK := Lib.hid (keyN_lt (fw (flo n)))
  go_enter Tryd.func11, Tryd.ntmps11
  go_wp2_with fail
  refine (rsplit_any n _ Hn.out).mono ?_
  rintro e w1 ⟨rfl, rfl⟩
  go_wp2_with fail
  refine (rkey_any _ _ HFW.out).mono ?_
  rintro e w1 ⟨rfl, rfl⟩
  go_wp2_with fail
  refine (reight_any (keyN (fw (flo n))) _ HK.out).mono ?_
  rintro e w3 ⟨rfl, hb3⟩
  have hb4 := hb2.trans (hb3.mono hb2.size)
  go_wp2_with fail
  refine (rtwoO_any (n - flo n) _ HO.out.1 (by have := HO.out.2; omega)).mono ?_
  rintro e w4 ⟨rfl, hb5⟩
  have hb6 := hb4.trans (hb5.mono hb4.size)
  go_wp2_with fail
  go_ret
  exact ⟨by first | rfl | rw [← HFIN.out], hb6⟩

set_option maxRecDepth 100000 in
theorem rof_float (n : Int) (b0 : Bool) (f : Nat) (s : ByteArray) (l : List T) (d : Nat) (v : Value) (w : World) (hck : chkT (.mk 3 b0 n f s l) d = 0) (h : Rd w w.heap.size (.mk 3 b0 n f s l) v) (hlen : (keyT (.mk 3 b0 n f s l)).length ≤ 140737488355328) :
    Calls Tryd.prog 11 #[v] w fun e w' => e = .returned (.string (bstr (keyT (.mk 3 b0 n f s l)))) ∧ Below w.heap.size w w' := by
  obtain ⟨-, -, hss, -, hcl, -⟩ := chk_parts hck
  clear hck
  have HCL := Lib.hid (chkL_all hcl); clear hcl
  have HE := Lib.hid (show keyT (.mk 3 b0 n f s l) = kby 3 :: numKey f 0 3 by rw [keyT]; rfl)
  have _hl := hlen; clear _hl
  rw [HE.out] at hlen ⊢
  have hnk := numKey_len f 0 3
  simp only [List.length_cons, hnk] at hlen
  obtain ⟨A, cap, rfl, hk, hn, hf, hs, hc, hm, hA, hl⟩ := h.open
  have Hn := Lib.hid hn; have Hf := Lib.hid hf; have Hl := Lib.hid hl
  have hm2 := hm.2
  clear hk hn hf hs hc hA hm h hl
  have hbox := (Below.refl w.heap.size w).alloc (Nat.le_refl _) (.cells #[.int .i64 3, .bool b0, .int .i64 n, .float .f64 f, .string s, .slice A l.length cap] 25)
  have hcv := conv_cells (P := Tryd.prog) 47 5 9 Tryd.underlying47 Tryd.underlying5 Tryd.underlying9 (w.alloc (.cells #[.int .i64 3, .bool b0, .int .i64 n, .float .f64 f, .string s, .slice A l.length cap] 25)) 5 [(3 : Int)] 1
  simp only [List.length_cons, List.length_nil, List.map_cons, List.map_nil, Nat.zero_add, World.size_alloc] at hcv
  rw [show strOfNums [(3 : Int)] = bstr [kby 3] from rfl] at hcv
  have hb2 := hbox.alloc hbox.size (.cells #[.int .u8 (3 : Int)] 5)
  have HX := Lib.hid (Blk.new w 25 #[.int .i64 3, .bool b0, .int .i64 n, .float .f64 f, .string s, .slice A l.length cap])
  clear hnk
  have hadd1 := add_run (P := Tryd.prog) [kby 3] (eightL (keyN f)) (by rw [eightL_len]; simp)
  rw [show bstr (eightL (keyN f)) = eightS (keyN f) from rfl] at hadd1
  have hadd3 : ∀ W : World, (Op.stringOp .add (bstr ([kby 3] ++ eightL (keyN f))) ⟨#[0, 0, 3]⟩).run Tryd.prog W = .ok (.string (bstr ([kby 3] ++ eightL (keyN f) ++ [0, 0, 3]))) W :=
    add_run _ [0, 0, 3] (by rw [List.length_append, eightL_len]; simp)
  have HFIN := Lib.hid (show bstr ([kby 3] ++ eightL (keyN f) ++ [0, 0, 3]) = bstr (kby 3 :: numKey f 0 3) by unfold numKey; rw [show (twoS 0).data.toList = [0, 0] from rfl]; simp)
  simp only [List.cons_append, List.nil_append] at hadd1 hadd3 HFIN
  have HK := Lib.hid (keyN_lt f)
  go_enter Tryd.func11, Tryd.ntmps11
  go_wp2_with fail
  refine (rkey_any _ _ Hf.out).mono ?_
  rintro e w1 ⟨rfl, rfl⟩
  go_wp2_with fail
  refine (reight_any (keyN f) _ HK.out).mono ?_
  rintro e w3 ⟨rfl, hb3⟩
  have hb4 := hb2.trans (hb3.mono hb2.size)
  go_wp2_with fail
  go_ret
  exact ⟨by first | rfl | rw [← HFIN.out], hb4⟩

set_option maxRecDepth 100000 in
theorem rof_text (n : Int) (b0 : Bool) (f : Nat) (s : ByteArray) (l : List T) (d : Nat) (v : Value) (w : World) (hck : chkT (.mk 4 b0 n f s l) d = 0) (h : Rd w w.heap.size (.mk 4 b0 n f s l) v) (hlen : (keyT (.mk 4 b0 n f s l)).length ≤ 140737488355328) :
    Calls Tryd.prog 11 #[v] w fun e w' => e = .returned (.string (bstr (keyT (.mk 4 b0 n f s l)))) ∧ Below w.heap.size w w' := by
  obtain ⟨-, -, hss, -, hcl, -⟩ := chk_parts hck
  clear hck
  have HCL := Lib.hid (chkL_all hcl); clear hcl
  have HE := Lib.hid (show keyT (.mk 4 b0 n f s l) = kby 5 :: nameL s.data.toList by rw [keyT]; rfl)
  have _hl := hlen; clear _hl
  rw [HE.out] at hlen ⊢
  have hes := esc_size s
  have hnl : (nameL s.data.toList).length = (escL s.data.toList).length + 2 := by unfold nameL; simp
  simp only [List.length_cons, hnl] at hlen
  obtain ⟨A, cap, rfl, hk, hn, hf, hs, hc, hm, hA, hl⟩ := h.open
  have Hn := Lib.hid hn; have Hf := Lib.hid hf; have Hl := Lib.hid hl
  have hm2 := hm.2
  clear hk hn hf hs hc hA hm h hl
  have hbox := (Below.refl w.heap.size w).alloc (Nat.le_refl _) (.cells #[.int .i64 4, .bool b0, .int .i64 n, .float .f64 f, .string s, .slice A l.length cap] 25)
  have hcv := conv_cells (P := Tryd.prog) 47 5 9 Tryd.underlying47 Tryd.underlying5 Tryd.underlying9 (w.alloc (.cells #[.int .i64 4, .bool b0, .int .i64 n, .float .f64 f, .string s, .slice A l.length cap] 25)) 5 [(5 : Int)] 1
  simp only [List.length_cons, List.length_nil, List.map_cons, List.map_nil, Nat.zero_add, World.size_alloc] at hcv
  rw [show strOfNums [(5 : Int)] = bstr [kby 5] from rfl] at hcv
  have hb2 := hbox.alloc hbox.size (.cells #[.int .u8 (5 : Int)] 5)
  have HX := Lib.hid (Blk.new w 25 #[.int .i64 4, .bool b0, .int .i64 n, .float .f64 f, .string s, .slice A l.length cap])
  have hadd1 := add_run (P := Tryd.prog) [kby 5] (nameL s.data.toList) (by rw [hnl]; simp; omega)
  clear hnl
  go_enter Tryd.func11, Tryd.ntmps11
  go_wp2_with fail
  refine (rname_any s _ (by omega)).mono ?_
  rintro e w1 ⟨rfl, rfl⟩
  go_wp2_with fail
  go_ret
  exact ⟨rfl, hb2⟩

set_option maxRecDepth 100000 in
theorem rof_list (n : Int) (b0 : Bool) (f : Nat) (s : ByteArray) (l : List T) (d : Nat) (v : Value) (w : World) (ih : ∀ i (hi : i < l.length), ROfAt l[i]) (hck : chkT (.mk 5 b0 n f s l) d = 0) (h : Rd w w.heap.size (.mk 5 b0 n f s l) v) (hlen : (keyT (.mk 5 b0 n f s l)).length ≤ 140737488355328) :
    Calls Tryd.prog 11 #[v] w fun e w' => e = .returned (.string (bstr (keyT (.mk 5 b0 n f s l)))) ∧ Below w.heap.size w w' := by
  obtain ⟨-, -, hss, -, hcl, -⟩ := chk_parts hck
  clear hck
  have HCL := Lib.hid (chkL_all hcl); clear hcl
  have HE := Lib.hid (show keyT (.mk 5 b0 n f s l) = kby 6 :: keyL l by rw [keyT]; rfl)
  have _hl := hlen; clear _hl
  rw [HE.out] at hlen ⊢
  rw [keyL_eq] at hlen ⊢
  simp only [List.length_cons, List.length_append, List.length_nil] at hlen
  have IH := Lib.hid ih; clear ih
  obtain ⟨A, cap, rfl, hk, hn, hf, hs, hc, hm, hA, hl⟩ := h.open
  have Hn := Lib.hid hn; have Hf := Lib.hid hf; have Hl := Lib.hid hl
  have hm2 := hm.2
  clear hk hn hf hs hc hA hm h hl
  have hbox := (Below.refl w.heap.size w).alloc (Nat.le_refl _) (.cells #[.int .i64 5, .bool b0, .int .i64 n, .float .f64 f, .string s, .slice A l.length cap] 25)
  have hcv := conv_cells (P := Tryd.prog) 47 5 9 Tryd.underlying47 Tryd.underlying5 Tryd.underlying9 (w.alloc (.cells #[.int .i64 5, .bool b0, .int .i64 n, .float .f64 f, .string s, .slice A l.length cap] 25)) 5 [(6 : Int)] 1
  simp only [List.length_cons, List.length_nil, List.map_cons, List.map_nil, Nat.zero_add, World.size_alloc] at hcv
  rw [show strOfNums [(6 : Int)] = bstr [kby 6] from rfl] at hcv
  have hb2 := hbox.alloc hbox.size (.cells #[.int .u8 (6 : Int)] 5)
  have HX := Lib.hid (Blk.new w 25 #[.int .i64 5, .bool b0, .int .i64 n, .float .f64 f, .string s, .slice A l.length cap])
  have hb2' : Below (w.heap.size + 1) (w.alloc (.cells #[.int .i64 5, .bool b0, .int .i64 n, .float .f64 f, .string s, .slice A l.length cap] 25)) ((w.alloc (.cells #[.int .i64 5, .bool b0, .int .i64 n, .float .f64 f, .string s, .slice A l.length cap] 25)).alloc (.cells #[.int .u8 (6 : Int)] 5)) := (Below.refl _ _).alloc (by simp) _
  go_enter Tryd.func11, Tryd.ntmps11
  go_wp2_with fail
  go_loopw [4, 7] (fun ss si wr => ∃ i : Nat, i ≤ l.length ∧ ss = .string (bstr (kby 6 :: keyP (l.take i))) ∧ si = .int .i64 i ∧ Below (w.heap.size + 1) (w.alloc (.cells #[.int .i64 5, .bool b0, .int .i64 n, .float .f64 f, .string s, .slice A l.length cap] 25)) wr) (fun _ si _ => l.length - (intOf si).toNat)
  case atStart => exact ⟨0, by omega, rfl, rfl, hb2'⟩
  case round =>
    obtain ⟨i, hi, rfl, rfl, hbr⟩ := hrel
    have hb := bel1 hbr
    have hz1 : w.heap.size + 1 ≤ wr.heap.size := by have := hbr.size; simpa using this
    have hcell5 := hbr.cell (p := ⟨w.heap.size, 5, none⟩) (by simp)
    have hle0 := keyP_len (l := l) hi
    by_cases hlt : i < l.length
    · obtain ⟨a, k', b', q0, f', s', q, D, capi, rfl, hab, hx, hrd, e0, e1, e2, e3, e4, e5⟩ := (Hl.out.on hb).item hlt
      have Hx := Lib.hid hx; clear hx
      have IHi := Lib.hid (IH.out i hlt)
      have HDi := Lib.hid (HCL.out i hlt)
      have hle := keyP_len (l := l) (i := i + 1) (by omega)
      have hsn := keyP_snoc hlt
      rw [hsn, List.length_append, List.length_cons] at hle
      have Hsn := Lib.hid hsn; clear hsn
      have hadd1 : ∀ W : World, (Op.stringOp .add ⟨#[1]⟩ (bstr (keyT l[i]))).run Tryd.prog W = .ok (.string (bstr (1 :: keyT l[i]))) W := add_run [1] (keyT l[i]) (by simp; omega)
      have hadd2 := add_run (P := Tryd.prog) (kby 6 :: keyP (l.take i)) (1 :: keyT l[i]) (by simp only [List.length_cons]; omega)
      have HX2 := Lib.hid (show kby 6 :: keyP (l.take i) ++ 1 :: keyT l[i] = kby 6 :: keyP (l.take (i + 1)) by rw [Hsn.out]; rfl)
      have hll : (keyT l[i]).length ≤ 140737488355328 := by omega
      go_wp2_with fail
      refine (IHi.out (d + 1) _ _ HDi.out hrd hll).mono ?_
      rintro e w2 ⟨rfl, hb5⟩
      have hb6 := hbr.trans (hb5.mono hz1)
      clear hcell5
      go_wp2_with fail
      go_roundw
      case rel => exact ⟨i + 1, by omega, by rw [← HX2.out]; rfl, by go_num, hb6⟩
      case measure => simp [intOf]; omega
    · have hall : l.take i = l := List.take_of_length_le (by omega)
      rw [hall] at hle0 ⊢
      have hadd : ∀ W : World, (Op.stringOp .add (bstr (kby 6 :: keyP l)) ⟨#[0]⟩).run Tryd.prog W = .ok (.string (bstr (kby 6 :: keyP l ++ [0]))) W := add_run (kby 6 :: keyP l) [0] (by simp only [List.length_cons, List.length_nil]; omega)
      clear hall
      go_wp2_with fail
      go_ret
      exact ⟨rfl, hb⟩

set_option maxRecDepth 100000 in
theorem rof_map (n : Int) (b0 : Bool) (f : Nat) (s : ByteArray) (l : List T) (d : Nat) (v : Value) (w : World) (ih : ∀ i (hi : i < l.length), ROfAt l[i]) (hck : chkT (.mk 6 b0 n f s l) d = 0) (h : Rd w w.heap.size (.mk 6 b0 n f s l) v) (hlen : (keyT (.mk 6 b0 n f s l)).length ≤ 140737488355328) :
    Calls Tryd.prog 11 #[v] w fun e w' => e = .returned (.string (bstr (keyT (.mk 6 b0 n f s l)))) ∧ Below w.heap.size w w' := by
  obtain ⟨-, -, hss, -, hcl, -⟩ := chk_parts hck
  clear hck
  have HCL := Lib.hid (chkL_all hcl); clear hcl
  have HE := Lib.hid (show keyT (.mk 6 b0 n f s l) = kby 7 :: keyL l by rw [keyT]; rfl)
  have _hl := hlen; clear _hl
  rw [HE.out] at hlen ⊢
  rw [keyL_eq] at hlen ⊢
  simp only [List.length_cons, List.length_append, List.length_nil] at hlen
  have IH := Lib.hid ih; clear ih
  obtain ⟨A, cap, rfl, hk, hn, hf, hs, hc, hm, hA, hl⟩ := h.open
  have Hn := Lib.hid hn; have Hf := Lib.hid hf; have Hl := Lib.hid hl
  have hm2 := hm.2
  clear hk hn hf hs hc hA hm h hl
  have hbox := (Below.refl w.heap.size w).alloc (Nat.le_refl _) (.cells #[.int .i64 6, .bool b0, .int .i64 n, .float .f64 f, .string s, .slice A l.length cap] 25)
  have hcv := conv_cells (P := Tryd.prog) 47 5 9 Tryd.underlying47 Tryd.underlying5 Tryd.underlying9 (w.alloc (.cells #[.int .i64 6, .bool b0, .int .i64 n, .float .f64 f, .string s, .slice A l.length cap] 25)) 5 [(7 : Int)] 1
  simp only [List.length_cons, List.length_nil, List.map_cons, List.map_nil, Nat.zero_add, World.size_alloc] at hcv
  rw [show strOfNums [(7 : Int)] = bstr [kby 7] from rfl] at hcv
  have hb2 := hbox.alloc hbox.size (.cells #[.int .u8 (7 : Int)] 5)
  have HX := Lib.hid (Blk.new w 25 #[.int .i64 6, .bool b0, .int .i64 n, .float .f64 f, .string s, .slice A l.length cap])
  have hb2' : Below (w.heap.size + 1) (w.alloc (.cells #[.int .i64 6, .bool b0, .int .i64 n, .float .f64 f, .string s, .slice A l.length cap] 25)) ((w.alloc (.cells #[.int .i64 6, .bool b0, .int .i64 n, .float .f64 f, .string s, .slice A l.length cap] 25)).alloc (.cells #[.int .u8 (7 : Int)] 5)) := (Below.refl _ _).alloc (by simp) _
  go_enter Tryd.func11, Tryd.ntmps11
  go_wp2_with fail
  go_loopw [4, 7] (fun ss si wr => ∃ i : Nat, i ≤ l.length ∧ ss = .string (bstr (kby 7 :: keyP (l.take i))) ∧ si = .int .i64 i ∧ Below (w.heap.size + 1) (w.alloc (.cells #[.int .i64 6, .bool b0, .int .i64 n, .float .f64 f, .string s, .slice A l.length cap] 25)) wr) (fun _ si _ => l.length - (intOf si).toNat)
  case atStart => exact ⟨0, by omega, rfl, rfl, hb2'⟩
  case round =>
    obtain ⟨i, hi, rfl, rfl, hbr⟩ := hrel
    have hb := bel1 hbr
    have hz1 : w.heap.size + 1 ≤ wr.heap.size := by have := hbr.size; simpa using this
    have hcell5 := hbr.cell (p := ⟨w.heap.size, 5, none⟩) (by simp)
    have hle0 := keyP_len (l := l) hi
    by_cases hlt : i < l.length
    · obtain ⟨a, k', b', q0, f', s', q, D, capi, rfl, hab, hx, hrd, e0, e1, e2, e3, e4, e5⟩ := (Hl.out.on hb).item hlt
      have Hx := Lib.hid hx; clear hx
      have IHi := Lib.hid (IH.out i hlt)
      have HDi := Lib.hid (HCL.out i hlt)
      have hle := keyP_len (l := l) (i := i + 1) (by omega)
      have hsn := keyP_snoc hlt
      rw [hsn, List.length_append, List.length_cons] at hle
      have Hsn := Lib.hid hsn; clear hsn
      have hadd1 : ∀ W : World, (Op.stringOp .add ⟨#[1]⟩ (bstr (keyT l[i]))).run Tryd.prog W = .ok (.string (bstr (1 :: keyT l[i]))) W := add_run [1] (keyT l[i]) (by simp; omega)
      have hadd2 := add_run (P := Tryd.prog) (kby 7 :: keyP (l.take i)) (1 :: keyT l[i]) (by simp only [List.length_cons]; omega)
      have HX2 := Lib.hid (show kby 7 :: keyP (l.take i) ++ 1 :: keyT l[i] = kby 7 :: keyP (l.take (i + 1)) by rw [Hsn.out]; rfl)
      have hll : (keyT l[i]).length ≤ 140737488355328 := by omega
      go_wp2_with fail
      refine (IHi.out (d + 1) _ _ HDi.out hrd hll).mono ?_
      rintro e w2 ⟨rfl, hb5⟩
      have hb6 := hbr.trans (hb5.mono hz1)
      clear hcell5
      go_wp2_with fail
      go_roundw
      case rel => exact ⟨i + 1, by omega, by rw [← HX2.out]; rfl, by go_num, hb6⟩
      case measure => simp [intOf]; omega
    · have hall : l.take i = l := List.take_of_length_le (by omega)
      rw [hall] at hle0 ⊢
      have hadd : ∀ W : World, (Op.stringOp .add (bstr (kby 7 :: keyP l)) ⟨#[0]⟩).run Tryd.prog W = .ok (.string (bstr (kby 7 :: keyP l ++ [0]))) W := add_run (kby 7 :: keyP l) [0] (by simp only [List.length_cons, List.length_nil]; omega)
      clear hall
      go_wp2_with fail
      go_ret
      exact ⟨rfl, hb⟩

set_option maxRecDepth 100000 in
theorem rof_vertex (n : Int) (b0 : Bool) (f : Nat) (s : ByteArray) (l : List T) (d : Nat) (v : Value) (w : World) (hck : chkT (.mk 7 b0 n f s l) d = 0) (h : Rd w w.heap.size (.mk 7 b0 n f s l) v) (hlen : (keyT (.mk 7 b0 n f s l)).length ≤ 140737488355328) :
    Calls Tryd.prog 11 #[v] w fun e w' => e = .returned (.string (bstr (keyT (.mk 7 b0 n f s l)))) ∧ Below w.heap.size w w' := by
  obtain ⟨-, -, hss, -, hcl, -⟩ := chk_parts hck
  clear hck
  have HCL := Lib.hid (chkL_all hcl); clear hcl
  have HE := Lib.hid (show keyT (.mk 7 b0 n f s l) = kby 8 :: eightL (word n) by rw [keyT]; rfl)
  have _hl := hlen; clear _hl
  rw [HE.out] at hlen ⊢
  clear hlen
  have h8 := eightL_len (word n)
  obtain ⟨A, cap, rfl, hk, hn, hf, hs, hc, hm, hA, hl⟩ := h.open
  have Hn := Lib.hid hn; have Hf := Lib.hid hf; have Hl := Lib.hid hl
  have hm2 := hm.2
  clear hk hn hf hs hc hA hm h hl
  have hbox := (Below.refl w.heap.size w).alloc (Nat.le_refl _) (.cells #[.int .i64 7, .bool b0, .int .i64 n, .float .f64 f, .string s, .slice A l.length cap] 25)
  have hcv := conv_cells (P := Tryd.prog) 47 5 9 Tryd.underlying47 Tryd.underlying5 Tryd.underlying9 (w.alloc (.cells #[.int .i64 7, .bool b0, .int .i64 n, .float .f64 f, .string s, .slice A l.length cap] 25)) 5 [(8 : Int)] 1
  simp only [List.length_cons, List.length_nil, List.map_cons, List.map_nil, Nat.zero_add, World.size_alloc] at hcv
  rw [show strOfNums [(8 : Int)] = bstr [kby 8] from rfl] at hcv
  have hb2 := hbox.alloc hbox.size (.cells #[.int .u8 (8 : Int)] 5)
  have HX := Lib.hid (Blk.new w 25 #[.int .i64 7, .bool b0, .int .i64 n, .float .f64 f, .string s, .slice A l.length cap])
  clear h8
  have hU : IntKind.u64.wrap n = ((word n : Nat) : Int) := by unfold word; rw [IntKind.wrap_u64]; omega
  have hU2 : n % 18446744073709551616 = ((word n : Nat) : Int) := by unfold word; omega
  have hwl := Lib.hid (show word n < 18446744073709551616 by unfold word; omega)
  have hadd := add_run (P := Tryd.prog) [kby 8] (eightL (word n)) (by rw [eightL_len]; simp)
  rw [show bstr (eightL (word n)) = eightS (word n) from rfl] at hadd
  go_enter Tryd.func11, Tryd.ntmps11
  go_wp2_with fail
  refine (reight_any (word n) _ hwl.out).mono ?_
  rintro e w1 ⟨rfl, hb3⟩
  go_wp2_with fail
  go_ret
  exact ⟨rfl, hb2.trans (hb3.mono hb2.size)⟩

set_option maxRecDepth 100000 in
theorem rof_edge (n : Int) (b0 : Bool) (f : Nat) (s : ByteArray) (l : List T) (d : Nat) (v : Value) (w : World) (hck : chkT (.mk 8 b0 n f s l) d = 0) (h : Rd w w.heap.size (.mk 8 b0 n f s l) v) (hlen : (keyT (.mk 8 b0 n f s l)).length ≤ 140737488355328) :
    Calls Tryd.prog 11 #[v] w fun e w' => e = .returned (.string (bstr (keyT (.mk 8 b0 n f s l)))) ∧ Below w.heap.size w w' := by
  obtain ⟨-, -, hss, -, hcl, -⟩ := chk_parts hck
  clear hck
  have HCL := Lib.hid (chkL_all hcl); clear hcl
  have HE := Lib.hid (show keyT (.mk 8 b0 n f s l) = kby 9 :: eightL (word n) by rw [keyT]; rfl)
  have _hl := hlen; clear _hl
  rw [HE.out] at hlen ⊢
  clear hlen
  have h8 := eightL_len (word n)
  obtain ⟨A, cap, rfl, hk, hn, hf, hs, hc, hm, hA, hl⟩ := h.open
  have Hn := Lib.hid hn; have Hf := Lib.hid hf; have Hl := Lib.hid hl
  have hm2 := hm.2
  clear hk hn hf hs hc hA hm h hl
  have hbox := (Below.refl w.heap.size w).alloc (Nat.le_refl _) (.cells #[.int .i64 8, .bool b0, .int .i64 n, .float .f64 f, .string s, .slice A l.length cap] 25)
  have hcv := conv_cells (P := Tryd.prog) 47 5 9 Tryd.underlying47 Tryd.underlying5 Tryd.underlying9 (w.alloc (.cells #[.int .i64 8, .bool b0, .int .i64 n, .float .f64 f, .string s, .slice A l.length cap] 25)) 5 [(9 : Int)] 1
  simp only [List.length_cons, List.length_nil, List.map_cons, List.map_nil, Nat.zero_add, World.size_alloc] at hcv
  rw [show strOfNums [(9 : Int)] = bstr [kby 9] from rfl] at hcv
  have hb2 := hbox.alloc hbox.size (.cells #[.int .u8 (9 : Int)] 5)
  have HX := Lib.hid (Blk.new w 25 #[.int .i64 8, .bool b0, .int .i64 n, .float .f64 f, .string s, .slice A l.length cap])
  clear h8
  have hU : IntKind.u64.wrap n = ((word n : Nat) : Int) := by unfold word; rw [IntKind.wrap_u64]; omega
  have hU2 : n % 18446744073709551616 = ((word n : Nat) : Int) := by unfold word; omega
  have hwl := Lib.hid (show word n < 18446744073709551616 by unfold word; omega)
  have hadd := add_run (P := Tryd.prog) [kby 9] (eightL (word n)) (by rw [eightL_len]; simp)
  rw [show bstr (eightL (word n)) = eightS (word n) from rfl] at hadd
  go_enter Tryd.func11, Tryd.ntmps11
  go_wp2_with fail
  refine (reight_any (word n) _ hwl.out).mono ?_
  rintro e w1 ⟨rfl, hb3⟩
  go_wp2_with fail
  go_ret
  exact ⟨rfl, hb2.trans (hb3.mono hb2.size)⟩

set_option maxRecDepth 100000 in
theorem rof_null (n : Int) (b0 : Bool) (f : Nat) (s : ByteArray) (l : List T) (d : Nat) (v : Value) (w : World) (hck : chkT (.mk 0 b0 n f s l) d = 0) (h : Rd w w.heap.size (.mk 0 b0 n f s l) v) (hlen : (keyT (.mk 0 b0 n f s l)).length ≤ 140737488355328) :
    Calls Tryd.prog 11 #[v] w fun e w' => e = .returned (.string (bstr (keyT (.mk 0 b0 n f s l)))) ∧ Below w.heap.size w w' := by
  obtain ⟨-, -, hss, -, hcl, -⟩ := chk_parts hck
  clear hck
  have HCL := Lib.hid (chkL_all hcl); clear hcl
  have HE := Lib.hid (show keyT (.mk 0 b0 n f s l) = kby 1 :: [] by rw [keyT]; rfl)
  have _hl := hlen; clear _hl
  rw [HE.out] at hlen ⊢
  clear hlen
  obtain ⟨A, cap, rfl, hk, hn, hf, hs, hc, hm, hA, hl⟩ := h.open
  have Hn := Lib.hid hn; have Hf := Lib.hid hf; have Hl := Lib.hid hl
  have hm2 := hm.2
  clear hk hn hf hs hc hA hm h hl
  have hbox := (Below.refl w.heap.size w).alloc (Nat.le_refl _) (.cells #[.int .i64 0, .bool b0, .int .i64 n, .float .f64 f, .string s, .slice A l.length cap] 25)
  have hcv := conv_cells (P := Tryd.prog) 47 5 9 Tryd.underlying47 Tryd.underlying5 Tryd.underlying9 (w.alloc (.cells #[.int .i64 0, .bool b0, .int .i64 n, .float .f64 f, .string s, .slice A l.length cap] 25)) 5 [(1 : Int)] 1
  simp only [List.length_cons, List.length_nil, List.map_cons, List.map_nil, Nat.zero_add, World.size_alloc] at hcv
  rw [show strOfNums [(1 : Int)] = bstr [kby 1] from rfl] at hcv
  have hb2 := hbox.alloc hbox.size (.cells #[.int .u8 (1 : Int)] 5)
  have HX := Lib.hid (Blk.new w 25 #[.int .i64 0, .bool b0, .int .i64 n, .float .f64 f, .string s, .slice A l.length cap])

  go_enter Tryd.func11, Tryd.ntmps11
  go_wp2_with fail
  go_ret
  exact ⟨rfl, hb2⟩

theorem rof_at (t : T) : ROfAt t := by
  induction t using T.ind with | h k b0 n f s l ih => _
  intro d v w hck h hlen
  obtain ⟨-, hsh, -⟩ := chk_parts hck
  obtain ⟨k0, k8, -⟩ := shp_parts hsh
  by_cases k1 : k = 1
  · subst k1
    cases b0
    · exact rof_bool_f n f s l d v w hck h hlen
    · exact rof_bool_t n f s l d v w hck h hlen
  by_cases k2 : k = 2
  · subst k2; exact rof_int n b0 f s l d v w hck h hlen
  by_cases k3 : k = 3
  · subst k3; exact rof_float n b0 f s l d v w hck h hlen
  by_cases k4 : k = 4
  · subst k4; exact rof_text n b0 f s l d v w hck h hlen
  by_cases k5 : k = 5
  · subst k5; exact rof_list n b0 f s l d v w ih hck h hlen
  by_cases k6 : k = 6
  · subst k6; exact rof_map n b0 f s l d v w ih hck h hlen
  by_cases k7 : k = 7
  · subst k7; exact rof_vertex n b0 f s l d v w hck h hlen
  by_cases k8' : k = 8
  · subst k8'; exact rof_edge n b0 f s l d v w hck h hlen
  obtain rfl : k = 0 := by omega
  exact rof_null n b0 f s l d v w hck h hlen

end Go.Proofs.YtigepnhnccfpiaaDoor
