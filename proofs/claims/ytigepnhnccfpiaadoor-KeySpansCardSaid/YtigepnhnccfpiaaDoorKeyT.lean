/- key.Of; the laws' own: awake, may -/
import Derived.Test.YtigepnhnccfpiaaDoorKeyS
import Derived.Test.YtigepnhnccfpiaaDoorChkR
import Derived.Test.YtigepnhnccfpiaaDoorCmpS
namespace Go.Proofs.YtigepnhnccfpiaaDoor
open Go.ChangeShapes Go.WideShapes Go.ChangeAt Go.RowKit Go.Fl

theorem kof_any {t : T} {d : Nat} {v : Value} {w : World} (hck : chkT t d = 0) (h : Rd w w.heap.size t v) (hM : Mx w.heap.size w) (hlen : (keyT t).length ≤ 140737488355328) :
    Calls Tryd.prog 10 #[v] w fun e w' => e = .returned (.string (bstr (keyT t))) ∧ Below w.heap.size w w' := by
  have HP := Lib.hid (kput_at t)
  have H := Lib.hid h
  have HC := Lib.hid hck; clear hck
  have HM := Lib.hid hM; clear hM
  obtain ⟨k, b, z, f, s, l⟩ := t
  obtain ⟨A, cap, rfl, -⟩ := h.open
  have hbox := (Below.refl w.heap.size w).alloc (Nat.le_refl _) (.cells #[.int .i64 k, .bool b, .int .i64 z, .float .f64 f, .string s, .slice A l.length cap] 25)
  clear h
  generalize T.mk k b z f s l = t at *
  have HI := Lib.hid (Lib.fresh_isBuilder 49 5 (w.alloc (.cells #[.int .i64 k, .bool b, .int .i64 z, .float .f64 f, .string s, .slice A l.length cap] 25)))
  have hba := (Below.refl (w.heap.size + 1) (w.alloc (.cells #[.int .i64 k, .bool b, .int .i64 z, .float .f64 f, .string s, .slice A l.length cap] 25))).alloc (by simp) (.cells #[.pointer none, .slice none 0 0] 49)
  have HR := Lib.hid (show Rd ((w.alloc (.cells #[.int .i64 k, .bool b, .int .i64 z, .float .f64 f, .string s, .slice A l.length cap] 25)).alloc (.cells #[.pointer none, .slice none 0 0] 49)) (w.heap.size + 1) t _ from
    (H.out.under hbox (Nat.le_refl _) (Nat.le_refl _)).under (hba.mono (Nat.le_succ _)) (Nat.le_refl _) (Nat.le_succ _))
  have HM2 := Lib.hid (show Mx (w.heap.size + 1) ((w.alloc (.cells #[.int .i64 k, .bool b, .int .i64 z, .float .f64 f, .string s, .slice A l.length cap] 25)).alloc (.cells #[.pointer none, .slice none 0 0] 49)) from
    ((HM.out.under hbox).up (Nat.le_succ _)).under hba)
  go_enter Tryd.func10, Tryd.ntmps10
  go_wp2_with fail
  refine (HP.out d _ (w.heap.size + 1) (w.heap.size + 1) [] _ HC.out HR.out (by simp) HM2.out (by unfold Holds; have := HI.out; simpa [Lib.byteCells] using this) (by simpa using hlen)).mono ?_
  rintro e w2 ⟨rfl, hH2, hbl2, hF2⟩
  have HH2 := Lib.hid hH2; have HB2 := Lib.hid (hba.trans hbl2)
  have hs2 := hbl2.size
  simp only [World.size_alloc] at hs2
  clear hH2 hbl2 hF2
  go_wp2_with fail
  refine (bstring_any (B := w.heap.size + 1) (l := keyT t) (by have := HH2.out; simpa using this) (by omega)).mono ?_
  rintro e w3 ⟨rfl, hb3⟩
  go_wp2_with fail
  go_ret
  exact ⟨rfl, hbox.trans ((HB2.out.trans hb3).mono (Nat.le_succ _))⟩

/-- a number's tree -/
theorem chk_int (n : Int) : chkT (.mk 2 false n 0 ⟨#[]⟩ []) 1 = 0 := chk_mk (by decide) (by unfold shpT; simp) (by decide) (by simp) (by rw [chkL]) (by decide)

theorem chk_float (f : Nat) : chkT (.mk 3 false 0 f ⟨#[]⟩ []) 1 = 0 := chk_mk (by decide) (by unfold shpT; simp) (by decide) (by simp) (by rw [chkL]) (by decide)

theorem key_int (n : Int) : keyT (.mk 2 false n 0 ⟨#[]⟩ []) = kby 3 :: numKey (fw (flo n)) (n - flo n).toNat 2 := by rw [keyT]; rfl

theorem key_float (f : Nat) : keyT (.mk 3 false 0 f ⟨#[]⟩ []) = kby 3 :: numKey f 0 3 := by rw [keyT]; rfl

/-- an int64's key -/
def kInt (n : Int) : List UInt8 := kby 3 :: numKey (fw (flo n)) (n - flo n).toNat 2
/-- a float's key -/
def kFlo (f : Nat) : List UInt8 := kby 3 :: numKey f 0 3

theorem kInt_len (n : Int) : (kInt n).length = 12 := by unfold kInt; rw [List.length_cons, numKey_len]

theorem kFlo_len (f : Nat) : (kFlo f).length = 12 := by unfold kFlo; rw [List.length_cons, numKey_len]

theorem kof_int (n : Int) (w : World) (hn : is64 n = true) (hM : Mx w.heap.size w) :
    Calls Tryd.prog 10 #[.agg #[.int .i64 2, .bool false, .int .i64 n, .float .f64 0, .string ⟨#[]⟩, .slice none 0 0]] w fun e w' => e = .returned (.string (bstr (kInt n))) ∧ Below w.heap.size w w' := by
  have hl := kInt_len n
  unfold kInt at *
  rw [← key_int] at *
  exact kof_any (chk_int n) (RdX.leaf _ _ _ 2 false n 0 ⟨#[]⟩ (by decide) hn (by decide) (by decide)) hM (by omega)

theorem kof_float (f : Nat) (w : World) (hf : f < 18446744073709551616) (hM : Mx w.heap.size w) :
    Calls Tryd.prog 10 #[.agg #[.int .i64 3, .bool false, .int .i64 0, .float .f64 f, .string ⟨#[]⟩, .slice none 0 0]] w fun e w' => e = .returned (.string (bstr (kFlo f))) ∧ Below w.heap.size w w' := by
  have hl := kFlo_len f
  unfold kFlo at *
  rw [← key_float] at *
  exact kof_any (chk_float f) (RdX.leaf _ _ _ 3 false 0 f ⟨#[]⟩ (by decide) (by decide) hf (by decide)) hM (by omega)

/-- how they are ordered -/
theorem cmp_ii {a b : Int} (ha : is64 a = true) (hb : is64 b = true) : cmpBs (kInt a) (kInt b) = cmpI a b := by
  have n1 : NumsT (.mk 2 false a 0 ⟨#[]⟩ []) := ⟨_, _, _, RdX.leaf default 0 0 2 false a 0 ⟨#[]⟩ (by decide) ha (by decide) (by decide)⟩
  have n2 : NumsT (.mk 2 false b 0 ⟨#[]⟩ []) := ⟨_, _, _, RdX.leaf default 0 0 2 false b 0 ⟨#[]⟩ (by decide) hb (by decide) (by decide)⟩
  have := key_order _ _ 1 1 [] [] (chk_int a) (chk_int b) n1 n2
  rw [List.append_nil, List.append_nil, show cmpBs ([] : List UInt8) [] = 0 from rfl, lex_zero, key_int, key_int] at this
  unfold kInt
  rw [this, cmpT, cmpI_self]
  unfold lex
  rw [if_pos rfl, if_neg (by decide), if_pos (.inl rfl), ← cmpNum_ii ha hb]

theorem cmp_if {a : Int} {f : Nat} (ha : is64 a = true) (hf : f < 18446744073709551616) : cmpBs (kInt a) (kFlo f) = mixN a f := by
  have n1 : NumsT (.mk 2 false a 0 ⟨#[]⟩ []) := ⟨_, _, _, RdX.leaf default 0 0 2 false a 0 ⟨#[]⟩ (by decide) ha (by decide) (by decide)⟩
  have n2 : NumsT (.mk 3 false 0 f ⟨#[]⟩ []) := ⟨_, _, _, RdX.leaf default 0 0 3 false 0 f ⟨#[]⟩ (by decide) (by decide) hf (by decide)⟩
  have := key_order _ _ 1 1 [] [] (chk_int a) (chk_float f) n1 n2
  rw [List.append_nil, List.append_nil, show cmpBs ([] : List UInt8) [] = 0 from rfl, lex_zero, key_int, key_float] at this
  unfold kInt kFlo
  rw [this, cmpT, show cmpI (rk 2) (rk 3) = 0 from rfl]
  unfold lex
  rw [if_pos rfl, if_neg (by decide), if_pos (.inl rfl), ← mix_pos ha f 3 0 (by decide)]

/-- what a walk asks of two texts -/
theorem less_bs (x y : List UInt8) : Op.bytesLess (bstr x).toList (bstr y).toList = decide (cmpBs x y < 0) := by
  rw [cmpBs_eq, Lib.toList_data, Lib.toList_data]
  show Op.bytesLess x y = _
  split
  · next h => rw [h]; rfl
  · next h =>
    have : Op.bytesLess x y = false := by simpa using h
    rw [this]; split <;> rfl

theorem same_bs (x y : List UInt8) : ((bstr x).toList == (bstr y).toList) = decide (cmpBs x y = 0) := by
  rw [Lib.toList_data, Lib.toList_data]
  show (x == y) = _
  by_cases h : x = y
  · subst h; rw [cmpBs_self]; simp
  · have h2 : ¬ cmpBs x y = 0 := fun e => h (cmpBs_zero _ _ e)
    rw [beq_eq_false_iff_ne.2 h, decide_eq_false h2]

end Go.Proofs.YtigepnhnccfpiaaDoor
