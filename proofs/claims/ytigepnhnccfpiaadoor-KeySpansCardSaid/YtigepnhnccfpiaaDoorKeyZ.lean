/- the walk of KeySpans -/
import Derived.Test.YtigepnhnccfpiaaDoorKeyY
import Derived.Deep.QuietTactic
import Derived.BigQuiet
namespace Go.Proofs.YtigepnhnccfpiaaDoor
open Go.ChangeShapes Go.WideShapes Go.ChangeAt Go.RowKit Go.Fl

/-- does k begin with s? -/
def preB (s k : ByteArray) : Bool := s.data.toList.isPrefixOf k.data.toList

/-- is k not below s? -/
def geB (s k : ByteArray) : Bool := !Op.bytesLess k.toList s.toList

theorem prefix_take (s k : List UInt8) : s.isPrefixOf k = (decide (s.length ≤ k.length) && (k.take s.length == s)) := by
  rw [Bool.eq_iff_iff, List.isPrefixOf_iff_prefix, Bool.and_eq_true, decide_eq_true_eq, beq_iff_eq, List.prefix_iff_eq_take]
  constructor
  · intro h
    refine ⟨?_, h.symm⟩
    have := congrArg List.length h
    rw [List.length_take] at this
    omega
  · intro h; exact h.2.symm

theorem in_begin (s k : ByteArray) (w : World) : Calls Tryd.prog 17 #[.agg #[.string s, .string (bstr (highL s.data.toList))], .string k] w fun e w' => e = .returned (.bool (preB s k)) ∧ Below w.heap.size w w' := by
  have h := in_any s (bstr (highL s.data.toList)) k w
  have e : (!Op.bytesLess k.toList s.toList && ((bstr (highL s.data.toList)).toList.isEmpty || Op.bytesLess k.toList (bstr (highL s.data.toList)).toList)) = preB s k := by
    unfold preB
    rw [← span_prefix, Lib.toList_data, Lib.toList_data, Lib.toList_data]
    show (!Op.bytesLess k.data.toList s.data.toList && ((highL s.data.toList).isEmpty || Op.bytesLess k.data.toList (highL s.data.toList))) = _
    congr 2
    cases highL s.data.toList <;> simp
  rw [e] at h
  exact h

theorem in_low (s k : ByteArray) (w : World) : Calls Tryd.prog 17 #[.agg #[.string s, .string ⟨#[]⟩], .string k] w fun e w' => e = .returned (.bool (geB s k)) ∧ Below w.heap.size w w' := by
  have h := in_any s ⟨#[]⟩ k w
  have e : (!Op.bytesLess k.toList s.toList && ((⟨#[]⟩ : ByteArray).toList.isEmpty || Op.bytesLess k.toList (⟨#[]⟩ : ByteArray).toList)) = geB s k := by
    unfold geB
    rw [Lib.toList_data (⟨#[]⟩ : ByteArray)]
    simp
  rw [e] at h
  exact h

set_option maxRecDepth 100000 in
set_option maxHeartbeats 4000000 in
/-- the law's own function -/
theorem span_fn (s k : ByteArray) (g : Nat) (w : World) (_hk : k.size ≤ 1000) (hs : s.size ≤ 1000) (hc : w.cell? ⟨g, 0, none⟩ = some (.string s)) :
    Calls Tryd.prog 16 #[.string k, .pointer (some ⟨g, 0, none⟩)] w fun e w' => e = .returned (.bool (preB s k)) ∧ Below w.heap.size w w' := by
  have hp : preB s k = (decide (s.size ≤ k.size) && ((k.extract 0 s.size).toList == s.toList)) := by
    unfold preB
    rw [prefix_take, Lib.toList_data, Lib.toList_data]
    show (decide (s.size ≤ k.size) && (k.data.toList.take s.size == s.data.toList)) = _
    congr 2
    simp [ByteArray.data_extract, List.extract_eq_take_drop]
  have hbd := (Below.refl w.heap.size w).drew
  by_cases hle : s.size ≤ k.size
  · have d1 : decide ((s.size : Int) ≤ (k.size : Int)) = true := by rw [decide_eq_true_eq]; omega
    have i1 : (0 : Int) ≤ (s.size : Int) := by omega
    have i2 : (s.size : Int) ≤ (k.size : Int) := by omega
    rw [decide_eq_true hle, Bool.true_and] at hp
    obtain ⟨p, hq⟩ : ∃ p, ((k.extract 0 s.size).toList == s.toList) = p := ⟨_, rfl⟩
    rw [hq] at hp
    rw [hp]
    clear hp hle
    go_enter Tryd.func16, Tryd.ntmps16
    go_wp2_with fail
    go_quiet (fail)
    all_goals
      go_wp2_with fail
      go_ret
      exact ⟨rfl, below_drewN (Below.refl _ _) _⟩
  · have d1 : decide ((s.size : Int) ≤ (k.size : Int)) = false := by rw [decide_eq_false_iff_not]; omega
    rw [decide_eq_false hle, Bool.false_and] at hp
    rw [hp]
    clear hp
    go_enter Tryd.func16, Tryd.ntmps16
    go_wp2_with fail
    go_quiet (fail)
    all_goals
      go_wp2_with fail
      go_ret
      exact ⟨rfl, below_drewN (Below.refl _ _) _⟩

theorem span_keep {W w w' : World} {g h : Nat} {a b c : Value} (hb : Below w.heap.size w w')
    (H : (w.cell? ⟨g, 0, none⟩ = some a ∧ w.cell? ⟨h, 0, none⟩ = some b ∧ w.cell? ⟨h, 1, none⟩ = some c) ∧ Below W.heap.size W w) :
    (w'.cell? ⟨g, 0, none⟩ = some a ∧ w'.cell? ⟨h, 0, none⟩ = some b ∧ w'.cell? ⟨h, 1, none⟩ = some c) ∧ Below W.heap.size W w' := by
  have k : ∀ {p : Addr} {u : Value}, w.cell? p = some u → w'.cell? p = some u := fun h => (hb.cell (World.block_lt_of_cell? w _ h)).trans h
  obtain ⟨⟨h0, h1, h2⟩, hB⟩ := H
  exact ⟨⟨k h0, k h1, k h2⟩, hB.trans (hb.mono hB.size)⟩

theorem pre_self (s k : ByteArray) : preB s (s ++ k) = true := by
  unfold preB
  rw [List.isPrefixOf_iff_prefix]
  exact ⟨k.data.toList, by simp⟩

set_option maxHeartbeats 8000000 in
set_option maxRecDepth 100000 in
theorem keyspans_law (s k : ByteArray) (n : Int) (w : World) (ws : s.size ≤ maxLen) (wk : k.size ≤ maxLen) (_hn : is64 n = true) (hM : Mx w.heap.size w) :
    Calls Tryd.prog 6 #[.string s, .string k, .int .i64 n] w fun e w' => e = .returned (.bool true) ∧ Below w.heap.size w w' := by
  unfold maxLen at ws wk
  have HM := Lib.hid hM; clear hM
  have hU : IntKind.u64.wrap n = ((word n : Nat) : Int) := by unfold word; rw [IntKind.wrap_u64]; omega
  have hU2 : n % 18446744073709551616 = ((word n : Nat) : Int) := by unfold word; omega
  obtain ⟨E, hE⟩ : ∃ E, eightS (word n) = E := ⟨_, rfl⟩
  have ci := fun W => id_any n W
  have ce := fun W => reight_any (word n) W (by unfold word; omega)
  simp only [hE] at ci ce
  have HCI := Lib.hid ci; have HCE := Lib.hid ce
  clear ci ce hE
  obtain ⟨m, hm⟩ : ∃ m, word n = m := ⟨_, rfl⟩
  rw [hm] at hU hU2
  rw [hm] at HCE
  clear hm
  have hss : (E.toList == E.toList) = true := by simp
  by_cases ha : 50 < s.size
  · have ds : decide ((50 : Int) < (s.size : Int)) = true := by rw [decide_eq_true_eq]; omega
    have is : (50 : Int) ≤ (s.size : Int) := by omega
    obtain ⟨x, hx⟩ : ∃ x, s.extract 0 50 = x := ⟨_, rfl⟩
    have zx : x.size ≤ 50 := by rw [← hx, ByteArray.size_extract]; omega
    by_cases hb : 100 < k.size
    · have dk : decide ((100 : Int) < (k.size : Int)) = true := by rw [decide_eq_true_eq]; omega
      have ik : (100 : Int) ≤ (k.size : Int) := by omega
      obtain ⟨y, hy⟩ : ∃ x, k.extract 0 100 = x := ⟨_, rfl⟩
      have zy : y.size ≤ 100 := by rw [← hy, ByteArray.size_extract]; omega
      clear ha hb
      have cb := fun W => begin_any x W (by omega)
      have c1 := fun W => in_begin x y W
      have c2 := fun W => in_begin x (x ++ y) W
      have c3 := fun W => in_low x y W
      have c4 := fun g W h => span_fn x y g W (by omega) (by omega) h
      have hadd : ∀ W : World, (Op.stringOp .add x y).run Tryd.prog W = .ok (.string (x ++ y)) W := fun W => run_string_add_sum W _ _ (by omega)
      rw [pre_self] at c2
      obtain ⟨hi, hhi⟩ : ∃ hi, bstr (highL x.data.toList) = hi := ⟨_, rfl⟩
      obtain ⟨xy, hxy⟩ : ∃ xy, x ++ y = xy := ⟨_, rfl⟩
      obtain ⟨p, hp⟩ : ∃ p, preB x y = p := ⟨_, rfl⟩
      obtain ⟨q, hq⟩ : ∃ q, Op.bytesLess y.toList x.toList = q := ⟨_, rfl⟩
      have hge : geB x y = !q := by unfold geB; rw [hq]
      simp only [hhi] at cb c1 c2
      simp only [hxy] at c2 hadd
      simp only [hp] at c1 c4
      simp only [hge] at c3
      clear hhi hxy hp hge
      have hxx : (x.toList == x.toList) = true := by simp
      have HB := Lib.hid cb; have H1 := Lib.hid c1; have H2 := Lib.hid c2; have H3 := Lib.hid c3; have H4 := Lib.hid c4
      clear cb c1 c2 c3 c4
      all_goals
        go_enter Tryd.func6, Tryd.ntmps6
        go_wp2_with fail
        refine (HB.out _).mono ?_
        rintro e w1 ⟨rfl, hb1⟩
        have hbox := (Below.refl w.heap.size w).alloc (Nat.le_refl _) (.cells #[.string x] 9)
        have hB1 := hbox.trans (hb1.mono (by simp))
        have hk0 : w1.cell? ⟨w.heap.size, 0, none⟩ = some (.string x) := ((Blk.new w 9 #[.string x]).below hb1 (by simp)).cell 0
        obtain ⟨W, hWd⟩ : ∃ W, w1.alloc (.cells #[.string x, .string hi] 34) = W := ⟨_, rfl⟩
        have hB2 : Below w1.heap.size w1 W := by rw [← hWd]; exact (Below.refl _ _).alloc (Nat.le_refl _) _
        have x0 : W.cell? ⟨w.heap.size, 0, none⟩ = some (.string x) := (hB2.cell (World.block_lt_of_cell? w1 _ hk0)).trans hk0
        have x1 : W.cell? ⟨w1.heap.size, 0, none⟩ = some (.string x) := by rw [← hWd]; exact (Blk.new w1 _ _).cell 0
        have x2 : W.cell? ⟨w1.heap.size, 1, none⟩ = some (.string hi) := by rw [← hWd]; exact (Blk.new w1 _ _).cell 1
        have hB3 := hB1.trans (hB2.mono hB1.size)
        have HB3 := Lib.hid hB3
        have HMW := Lib.hid (HM.out.on hB3)
        have HAw := Lib.hid (fun wn (h : Below W.heap.size W wn) => awake7_any wn (HMW.out.on h))
        have hBW := Below.refl W.heap.size W
        clear hB1 hB2 hB3 hk0 hbox hb1
        go_wp2_with fail
        clear hWd
        go_region_held3 (fun w' => (w'.cell? ⟨w.heap.size, 0, none⟩ = some (.string x) ∧ w'.cell? ⟨w1.heap.size, 0, none⟩ = some (.string x) ∧ w'.cell? ⟨w1.heap.size, 1, none⟩ = some (.string hi)) ∧ Below W.heap.size W w')
          (first | (exact span_keep ((Below.refl W.heap.size W).drew) ⟨⟨x0, x1, x2⟩, hBW⟩) | (exact span_keep (by assumption) (by assumption)))
          (first
            | (go_at_call 8; (with_reducible refine (HAw.out _ (by go_split_ands; assumption)).mono ?_); rintro e wn ⟨rfl, hbn⟩)
            | (go_at_call 17; (first | (with_reducible refine (H1.out _).mono ?_) | (with_reducible refine (H2.out _).mono ?_) | (with_reducible refine (H3.out _).mono ?_)); rintro e wn ⟨rfl, hbn⟩)
            | (go_at_call 16; (with_reducible refine (H4.out _ _ (by go_split_ands; assumption)).mono ?_); rintro e wn ⟨rfl, hbn⟩)
            | (go_at_call 18; (with_reducible refine (HCI.out _).mono ?_); rintro e wn ⟨rfl, hbn⟩)
            | (go_at_call 19; (with_reducible refine (HCE.out _).mono ?_); rintro e wn ⟨rfl, hbn⟩))
        all_goals
          go_wp2_with fail
          all_goals
            go_ret
            exact ⟨rfl, HB3.out.trans ((And.right (by assumption) : Below W.heap.size W _).mono HB3.out.size)⟩
    · have dk : decide ((100 : Int) < (k.size : Int)) = false := by rw [decide_eq_false_iff_not]; omega
      have zk : k.size ≤ 100 := by omega
      clear ha hb
      have cb := fun W => begin_any x W (by omega)
      have c1 := fun W => in_begin x k W
      have c2 := fun W => in_begin x (x ++ k) W
      have c3 := fun W => in_low x k W
      have c4 := fun g W h => span_fn x k g W (by omega) (by omega) h
      have hadd : ∀ W : World, (Op.stringOp .add x k).run Tryd.prog W = .ok (.string (x ++ k)) W := fun W => run_string_add_sum W _ _ (by omega)
      rw [pre_self] at c2
      obtain ⟨hi, hhi⟩ : ∃ hi, bstr (highL x.data.toList) = hi := ⟨_, rfl⟩
      obtain ⟨xy, hxy⟩ : ∃ xy, x ++ k = xy := ⟨_, rfl⟩
      obtain ⟨p, hp⟩ : ∃ p, preB x k = p := ⟨_, rfl⟩
      obtain ⟨q, hq⟩ : ∃ q, Op.bytesLess k.toList x.toList = q := ⟨_, rfl⟩
      have hge : geB x k = !q := by unfold geB; rw [hq]
      simp only [hhi] at cb c1 c2
      simp only [hxy] at c2 hadd
      simp only [hp] at c1 c4
      simp only [hge] at c3
      clear hhi hxy hp hge
      have hxx : (x.toList == x.toList) = true := by simp
      have HB := Lib.hid cb; have H1 := Lib.hid c1; have H2 := Lib.hid c2; have H3 := Lib.hid c3; have H4 := Lib.hid c4
      clear cb c1 c2 c3 c4
      all_goals
        go_enter Tryd.func6, Tryd.ntmps6
        go_wp2_with fail
        refine (HB.out _).mono ?_
        rintro e w1 ⟨rfl, hb1⟩
        have hbox := (Below.refl w.heap.size w).alloc (Nat.le_refl _) (.cells #[.string x] 9)
        have hB1 := hbox.trans (hb1.mono (by simp))
        have hk0 : w1.cell? ⟨w.heap.size, 0, none⟩ = some (.string x) := ((Blk.new w 9 #[.string x]).below hb1 (by simp)).cell 0
        obtain ⟨W, hWd⟩ : ∃ W, w1.alloc (.cells #[.string x, .string hi] 34) = W := ⟨_, rfl⟩
        have hB2 : Below w1.heap.size w1 W := by rw [← hWd]; exact (Below.refl _ _).alloc (Nat.le_refl _) _
        have x0 : W.cell? ⟨w.heap.size, 0, none⟩ = some (.string x) := (hB2.cell (World.block_lt_of_cell? w1 _ hk0)).trans hk0
        have x1 : W.cell? ⟨w1.heap.size, 0, none⟩ = some (.string x) := by rw [← hWd]; exact (Blk.new w1 _ _).cell 0
        have x2 : W.cell? ⟨w1.heap.size, 1, none⟩ = some (.string hi) := by rw [← hWd]; exact (Blk.new w1 _ _).cell 1
        have hB3 := hB1.trans (hB2.mono hB1.size)
        have HB3 := Lib.hid hB3
        have HMW := Lib.hid (HM.out.on hB3)
        have HAw := Lib.hid (fun wn (h : Below W.heap.size W wn) => awake7_any wn (HMW.out.on h))
        have hBW := Below.refl W.heap.size W
        clear hB1 hB2 hB3 hk0 hbox hb1
        go_wp2_with fail
        clear hWd
        go_region_held3 (fun w' => (w'.cell? ⟨w.heap.size, 0, none⟩ = some (.string x) ∧ w'.cell? ⟨w1.heap.size, 0, none⟩ = some (.string x) ∧ w'.cell? ⟨w1.heap.size, 1, none⟩ = some (.string hi)) ∧ Below W.heap.size W w')
          (first | (exact span_keep ((Below.refl W.heap.size W).drew) ⟨⟨x0, x1, x2⟩, hBW⟩) | (exact span_keep (by assumption) (by assumption)))
          (first
            | (go_at_call 8; (with_reducible refine (HAw.out _ (by go_split_ands; assumption)).mono ?_); rintro e wn ⟨rfl, hbn⟩)
            | (go_at_call 17; (first | (with_reducible refine (H1.out _).mono ?_) | (with_reducible refine (H2.out _).mono ?_) | (with_reducible refine (H3.out _).mono ?_)); rintro e wn ⟨rfl, hbn⟩)
            | (go_at_call 16; (with_reducible refine (H4.out _ _ (by go_split_ands; assumption)).mono ?_); rintro e wn ⟨rfl, hbn⟩)
            | (go_at_call 18; (with_reducible refine (HCI.out _).mono ?_); rintro e wn ⟨rfl, hbn⟩)
            | (go_at_call 19; (with_reducible refine (HCE.out _).mono ?_); rintro e wn ⟨rfl, hbn⟩))
        all_goals
          go_wp2_with fail
          all_goals
            go_ret
            exact ⟨rfl, HB3.out.trans ((And.right (by assumption) : Below W.heap.size W _).mono HB3.out.size)⟩
  · have ds : decide ((50 : Int) < (s.size : Int)) = false := by rw [decide_eq_false_iff_not]; omega
    have zs : s.size ≤ 50 := by omega
    by_cases hb : 100 < k.size
    · have dk : decide ((100 : Int) < (k.size : Int)) = true := by rw [decide_eq_true_eq]; omega
      have ik : (100 : Int) ≤ (k.size : Int) := by omega
      obtain ⟨y, hy⟩ : ∃ x, k.extract 0 100 = x := ⟨_, rfl⟩
      have zy : y.size ≤ 100 := by rw [← hy, ByteArray.size_extract]; omega
      clear ha hb
      have cb := fun W => begin_any s W (by omega)
      have c1 := fun W => in_begin s y W
      have c2 := fun W => in_begin s (s ++ y) W
      have c3 := fun W => in_low s y W
      have c4 := fun g W h => span_fn s y g W (by omega) (by omega) h
      have hadd : ∀ W : World, (Op.stringOp .add s y).run Tryd.prog W = .ok (.string (s ++ y)) W := fun W => run_string_add_sum W _ _ (by omega)
      rw [pre_self] at c2
      obtain ⟨hi, hhi⟩ : ∃ hi, bstr (highL s.data.toList) = hi := ⟨_, rfl⟩
      obtain ⟨xy, hxy⟩ : ∃ xy, s ++ y = xy := ⟨_, rfl⟩
      obtain ⟨p, hp⟩ : ∃ p, preB s y = p := ⟨_, rfl⟩
      obtain ⟨q, hq⟩ : ∃ q, Op.bytesLess y.toList s.toList = q := ⟨_, rfl⟩
      have hge : geB s y = !q := by unfold geB; rw [hq]
      simp only [hhi] at cb c1 c2
      simp only [hxy] at c2 hadd
      simp only [hp] at c1 c4
      simp only [hge] at c3
      clear hhi hxy hp hge
      have hxx : (s.toList == s.toList) = true := by simp
      have HB := Lib.hid cb; have H1 := Lib.hid c1; have H2 := Lib.hid c2; have H3 := Lib.hid c3; have H4 := Lib.hid c4
      clear cb c1 c2 c3 c4
      all_goals
        go_enter Tryd.func6, Tryd.ntmps6
        go_wp2_with fail
        refine (HB.out _).mono ?_
        rintro e w1 ⟨rfl, hb1⟩
        have hbox := (Below.refl w.heap.size w).alloc (Nat.le_refl _) (.cells #[.string s] 9)
        have hB1 := hbox.trans (hb1.mono (by simp))
        have hk0 : w1.cell? ⟨w.heap.size, 0, none⟩ = some (.string s) := ((Blk.new w 9 #[.string s]).below hb1 (by simp)).cell 0
        obtain ⟨W, hWd⟩ : ∃ W, w1.alloc (.cells #[.string s, .string hi] 34) = W := ⟨_, rfl⟩
        have hB2 : Below w1.heap.size w1 W := by rw [← hWd]; exact (Below.refl _ _).alloc (Nat.le_refl _) _
        have x0 : W.cell? ⟨w.heap.size, 0, none⟩ = some (.string s) := (hB2.cell (World.block_lt_of_cell? w1 _ hk0)).trans hk0
        have x1 : W.cell? ⟨w1.heap.size, 0, none⟩ = some (.string s) := by rw [← hWd]; exact (Blk.new w1 _ _).cell 0
        have x2 : W.cell? ⟨w1.heap.size, 1, none⟩ = some (.string hi) := by rw [← hWd]; exact (Blk.new w1 _ _).cell 1
        have hB3 := hB1.trans (hB2.mono hB1.size)
        have HB3 := Lib.hid hB3
        have HMW := Lib.hid (HM.out.on hB3)
        have HAw := Lib.hid (fun wn (h : Below W.heap.size W wn) => awake7_any wn (HMW.out.on h))
        have hBW := Below.refl W.heap.size W
        clear hB1 hB2 hB3 hk0 hbox hb1
        go_wp2_with fail
        clear hWd
        go_region_held3 (fun w' => (w'.cell? ⟨w.heap.size, 0, none⟩ = some (.string s) ∧ w'.cell? ⟨w1.heap.size, 0, none⟩ = some (.string s) ∧ w'.cell? ⟨w1.heap.size, 1, none⟩ = some (.string hi)) ∧ Below W.heap.size W w')
          (first | (exact span_keep ((Below.refl W.heap.size W).drew) ⟨⟨x0, x1, x2⟩, hBW⟩) | (exact span_keep (by assumption) (by assumption)))
          (first
            | (go_at_call 8; (with_reducible refine (HAw.out _ (by go_split_ands; assumption)).mono ?_); rintro e wn ⟨rfl, hbn⟩)
            | (go_at_call 17; (first | (with_reducible refine (H1.out _).mono ?_) | (with_reducible refine (H2.out _).mono ?_) | (with_reducible refine (H3.out _).mono ?_)); rintro e wn ⟨rfl, hbn⟩)
            | (go_at_call 16; (with_reducible refine (H4.out _ _ (by go_split_ands; assumption)).mono ?_); rintro e wn ⟨rfl, hbn⟩)
            | (go_at_call 18; (with_reducible refine (HCI.out _).mono ?_); rintro e wn ⟨rfl, hbn⟩)
            | (go_at_call 19; (with_reducible refine (HCE.out _).mono ?_); rintro e wn ⟨rfl, hbn⟩))
        all_goals
          go_wp2_with fail
          all_goals
            go_ret
            exact ⟨rfl, HB3.out.trans ((And.right (by assumption) : Below W.heap.size W _).mono HB3.out.size)⟩
    · have dk : decide ((100 : Int) < (k.size : Int)) = false := by rw [decide_eq_false_iff_not]; omega
      have zk : k.size ≤ 100 := by omega
      clear ha hb
      have cb := fun W => begin_any s W (by omega)
      have c1 := fun W => in_begin s k W
      have c2 := fun W => in_begin s (s ++ k) W
      have c3 := fun W => in_low s k W
      have c4 := fun g W h => span_fn s k g W (by omega) (by omega) h
      have hadd : ∀ W : World, (Op.stringOp .add s k).run Tryd.prog W = .ok (.string (s ++ k)) W := fun W => run_string_add_sum W _ _ (by omega)
      rw [pre_self] at c2
      obtain ⟨hi, hhi⟩ : ∃ hi, bstr (highL s.data.toList) = hi := ⟨_, rfl⟩
      obtain ⟨xy, hxy⟩ : ∃ xy, s ++ k = xy := ⟨_, rfl⟩
      obtain ⟨p, hp⟩ : ∃ p, preB s k = p := ⟨_, rfl⟩
      obtain ⟨q, hq⟩ : ∃ q, Op.bytesLess k.toList s.toList = q := ⟨_, rfl⟩
      have hge : geB s k = !q := by unfold geB; rw [hq]
      simp only [hhi] at cb c1 c2
      simp only [hxy] at c2 hadd
      simp only [hp] at c1 c4
      simp only [hge] at c3
      clear hhi hxy hp hge
      have hxx : (s.toList == s.toList) = true := by simp
      have HB := Lib.hid cb; have H1 := Lib.hid c1; have H2 := Lib.hid c2; have H3 := Lib.hid c3; have H4 := Lib.hid c4
      clear cb c1 c2 c3 c4
      all_goals
        go_enter Tryd.func6, Tryd.ntmps6
        go_wp2_with fail
        refine (HB.out _).mono ?_
        rintro e w1 ⟨rfl, hb1⟩
        have hbox := (Below.refl w.heap.size w).alloc (Nat.le_refl _) (.cells #[.string s] 9)
        have hB1 := hbox.trans (hb1.mono (by simp))
        have hk0 : w1.cell? ⟨w.heap.size, 0, none⟩ = some (.string s) := ((Blk.new w 9 #[.string s]).below hb1 (by simp)).cell 0
        obtain ⟨W, hWd⟩ : ∃ W, w1.alloc (.cells #[.string s, .string hi] 34) = W := ⟨_, rfl⟩
        have hB2 : Below w1.heap.size w1 W := by rw [← hWd]; exact (Below.refl _ _).alloc (Nat.le_refl _) _
        have x0 : W.cell? ⟨w.heap.size, 0, none⟩ = some (.string s) := (hB2.cell (World.block_lt_of_cell? w1 _ hk0)).trans hk0
        have x1 : W.cell? ⟨w1.heap.size, 0, none⟩ = some (.string s) := by rw [← hWd]; exact (Blk.new w1 _ _).cell 0
        have x2 : W.cell? ⟨w1.heap.size, 1, none⟩ = some (.string hi) := by rw [← hWd]; exact (Blk.new w1 _ _).cell 1
        have hB3 := hB1.trans (hB2.mono hB1.size)
        have HB3 := Lib.hid hB3
        have HMW := Lib.hid (HM.out.on hB3)
        have HAw := Lib.hid (fun wn (h : Below W.heap.size W wn) => awake7_any wn (HMW.out.on h))
        have hBW := Below.refl W.heap.size W
        clear hB1 hB2 hB3 hk0 hbox hb1
        go_wp2_with fail
        clear hWd
        go_region_held3 (fun w' => (w'.cell? ⟨w.heap.size, 0, none⟩ = some (.string s) ∧ w'.cell? ⟨w1.heap.size, 0, none⟩ = some (.string s) ∧ w'.cell? ⟨w1.heap.size, 1, none⟩ = some (.string hi)) ∧ Below W.heap.size W w')
          (first | (exact span_keep ((Below.refl W.heap.size W).drew) ⟨⟨x0, x1, x2⟩, hBW⟩) | (exact span_keep (by assumption) (by assumption)))
          (first
            | (go_at_call 8; (with_reducible refine (HAw.out _ (by go_split_ands; assumption)).mono ?_); rintro e wn ⟨rfl, hbn⟩)
            | (go_at_call 17; (first | (with_reducible refine (H1.out _).mono ?_) | (with_reducible refine (H2.out _).mono ?_) | (with_reducible refine (H3.out _).mono ?_)); rintro e wn ⟨rfl, hbn⟩)
            | (go_at_call 16; (with_reducible refine (H4.out _ _ (by go_split_ands; assumption)).mono ?_); rintro e wn ⟨rfl, hbn⟩)
            | (go_at_call 18; (with_reducible refine (HCI.out _).mono ?_); rintro e wn ⟨rfl, hbn⟩)
            | (go_at_call 19; (with_reducible refine (HCE.out _).mono ?_); rintro e wn ⟨rfl, hbn⟩))
        all_goals
          go_wp2_with fail
          all_goals
            go_ret
            exact ⟨rfl, HB3.out.trans ((And.right (by assumption) : Below W.heap.size W _).mono HB3.out.size)⟩

end Go.Proofs.YtigepnhnccfpiaaDoor
