/- the walk of LexPlaces -/
import Derived.Test.YtbllmodafjdmcaaDoorLxX
namespace Go.Proofs.YtbllmodafjdmcaaDoor
open Go.ChangeShapes Go.WideShapes Go.ChangeAt Go.RowKit Go.Fl
open Go.Shelf

/-- words that stand where they say, all ahead of a -/
structure Good (l : List UInt8) (ws : List Wd) (a : Nat) : Prop where
  at_lt : ∀ i (h : i < ws.length), ws[i].at_ < a ∧ ws[i].at_ < l.length
  rise : ∀ i (h : i + 1 < ws.length), ws[i].at_ < ws[i + 1].at_
  text : ∀ i (h : i < ws.length), (ws[i].k = 1 ∨ ws[i].k = 5) → ∃ n, ws[i].at_ + n ≤ l.length ∧ ws[i].s = ofL ((l.drop ws[i].at_).take n)

theorem Good.nil (l : List UInt8) (a : Nat) : Good l [] a := ⟨fun _ h => absurd h (Nat.not_lt_zero _), fun _ h => absurd h (Nat.not_lt_zero _), fun _ h => absurd h (Nat.not_lt_zero _)⟩

theorem get_snoc {α : Type} (l : List α) (x : α) (i : Nat) (h : i < (l ++ [x]).length) : (l ++ [x])[i] = if h' : i < l.length then l[i] else x := by
  split
  · rename_i h'; rw [List.getElem_append_left h']
  · rename_i h'
    rw [List.length_append, List.length_singleton] at h
    rw [List.getElem_append_right (by omega)]
    simp

theorem Good.snoc {l : List UInt8} {ws : List Wd} {a b : Nat} {x : Wd} (h : Good l ws a) (hx : x.at_ = a) (hab : a < b) (hal : a < l.length) (ht : (x.k = 1 ∨ x.k = 5) → ∃ n, a + n ≤ l.length ∧ x.s = ofL ((l.drop a).take n)) : Good l (ws ++ [x]) b := by
  refine ⟨fun i hi => ?_, fun i hi => ?_, fun i hi hk => ?_⟩
  · rw [get_snoc]
    split
    · rename_i h'; have := h.at_lt i h'; exact ⟨by omega, this.2⟩
    · rw [hx]; exact ⟨hab, hal⟩
  · rw [get_snoc, get_snoc]
    rw [List.length_append, List.length_singleton] at hi
    rw [dif_pos (by omega)]
    split
    · rename_i h'; exact h.rise i h'
    · rw [hx]; exact (h.at_lt i (by omega)).1
  · rw [get_snoc] at hk ⊢
    split at hk
    · rename_i h'
      simp only [dif_pos h']
      exact h.text i h' hk
    · rename_i h'
      simp only [dif_neg h', hx]
      exact ht hk

theorem wdsGo_good (cn : Nat → Nat) (l : List UInt8) : ∀ (fu a : Nat) (acc L : List Wd) (p : Nat), a ≤ l.length → Good l acc a → l.length + 1 ≤ a + fu → wdsGo cn l fu a acc = (L, p, 0) → ∃ ws, L = ws ++ [⟨0, ⟨#[]⟩, 0, 0, l.length⟩] ∧ Good l ws l.length ∧ p = 0 ∧ ws.length ≤ 1500
  | 0, a, acc, L, p, ha, _, hf, _ => by omega
  | fu + 1, a, acc, L, p, ha, hg, hf, h => by
    rw [wdsGo] at h
    split at h
    · rename_i hlt
      have ht := read_tells cn (l.drop a)
      split at h
      · injection h with _ h; injection h with _ h; exact absurd h (by decide)
      · rename_i x n hr
        obtain ⟨t1, t2, t3, t4, t5⟩ := ht x n hr
        rw [List.length_drop] at t2
        have hge := runP_ge spcB l (a + n)
        refine wdsGo_good cn l fu _ _ L p (runP_le (by omega)) (hg.snoc (x := { x with at_ := a }) rfl (by omega) hlt (fun hk => ⟨n, by omega, t5 hk⟩)) (by omega) h
    · split at h
      · injection h with _ h; injection h with _ h; exact absurd h (by decide)
      · injection h with h1 h2
        injection h2 with h2 _
        exact ⟨acc, h1.symm, ⟨fun i hi => ⟨(hg.at_lt i hi).2, (hg.at_lt i hi).2⟩, hg.rise, hg.text⟩, h2.symm, by omega⟩

theorem wds_good {cn : Nat → Nat} {l : List UInt8} {L : List Wd} {p : Nat} (h : wdsO cn l = (L, p, 0)) : ∃ ws, L = ws ++ [⟨0, ⟨#[]⟩, 0, 0, l.length⟩] ∧ Good l ws l.length ∧ p = 0 ∧ ws.length ≤ 1500 := by
  unfold wdsO at h
  split at h
  · injection h with _ h; injection h with _ h; exact absurd h (by decide)
  · exact wdsGo_good cn l _ _ _ L p (runP_le (Nat.zero_le _)) (Good.nil l _) (by omega) h

set_option maxRecDepth 100000 in
theorem sl_midS (S : ByteArray) (a b : Nat) (hab : a ≤ b) (hb : b ≤ S.size) (n : Int) (hn : n = (b : Nat)) (W : World) :
    (Instr.slice 9 (.string S) (some (.int .i64 (a : Nat))) (some (.int .i64 n)) none).run Tryd.prog W = .ok (.string (S.extract a b)) W := by
  have h := sl_mid (s := S.data.toList) (n := (a : Nat)) (m := n) (N := a) (M := b) rfl hn hab (by rw [len_list]; exact hb) W
  have e : (⟨S.data.toList.toArray⟩ : ByteArray) = S := ofL_list S
  rw [e] at h
  rw [h]
  congr 2
  apply ByteArray.ext
  apply Array.toList_inj.1
  rw [mid_list]

theorem below_drawn {B : Nat} {a X : World} (h : Below B a X) (n : Nat) : Below B a (X.drewN n) := ⟨h.os, h.tape, h.output, h.size, h.block⟩

theorem Good.here {l : List UInt8} {ws : List Wd} (hg : Good l ws l.length) (k : Nat) (hk : k < (ws ++ [(⟨0, ⟨#[]⟩, 0, 0, l.length⟩ : Wd)]).length) (x : Wd) (hx : (ws ++ [(⟨0, ⟨#[]⟩, 0, 0, l.length⟩ : Wd)])[k] = x) :
    x.at_ ≤ l.length ∧ ((x.k = 1 ∨ x.k = 5) → ∃ m, x.at_ + m ≤ l.length ∧ x.s = ofL ((l.drop x.at_).take m)) ∧ (∀ j y (hj : j + 1 = k), (ws ++ [(⟨0, ⟨#[]⟩, 0, 0, l.length⟩ : Wd)])[j]'(by omega) = y → y.at_ < x.at_ ∨ x.at_ = l.length) := by
  have hlen : (ws ++ [(⟨0, ⟨#[]⟩, 0, 0, l.length⟩ : Wd)]).length = ws.length + 1 := by simp
  rw [get_snoc] at hx
  split at hx
  · rename_i h'
    subst hx
    refine ⟨Nat.le_of_lt (hg.at_lt k h').2, hg.text k h', fun j y hj hy => .inl ?_⟩
    rw [get_snoc, dif_pos (by omega)] at hy
    subst hy
    subst hj
    exact hg.rise j h'
  · subst hx
    refine ⟨Nat.le_refl _, fun h => ?_, fun j y hj hy => .inr rfl⟩
    rcases h with h | h <;> cases h

theorem text_there {S s : ByteArray} {a m : Nat} (h : a + m ≤ S.size) (hs : s = ofL ((S.data.toList.drop a).take m)) : a + s.size ≤ S.size ∧ ((S.extract a (a + s.size)).toList == s.toList) = true := by
  have hl : s.size = m := by rw [hs, ofL_size, List.length_take, List.length_drop, len_list]; omega
  refine ⟨by omega, ?_⟩
  rw [same_text, mid_list, hl, decide_eq_true]
  rw [hs]
  show (S.data.toList.take (a + m)).drop a = (S.data.toList.drop a).take m
  rw [List.drop_take]
  congr 1
  omega

set_option maxHeartbeats 8000000 in
set_option maxRecDepth 100000 in
theorem places_walk (S : ByteArray) (w : World) (hs : S.size ≤ maxLen) (he : Env w) :
    Calls Tryd.prog 6 #[.string S] w fun e w' => e = .returned (.bool true) ∧ Below w.heap.size w w' := by
  have HA := Lib.hid (fun W (h : Below w.heap.size w W) => awake_any W (he.on h))
  obtain ⟨L, p, er, hw⟩ : ∃ L p er, wdsO canonN S.data.toList = (L, p, er) := ⟨_, _, _, rfl⟩
  by_cases h0 : er = 0
  · subst h0
    obtain ⟨ws, rfl, hg, rfl, hmost⟩ := wds_good hw
    have HC := Lib.hid (words_good S _ w hs he hw)
    unfold maxLen at hs
    clear hw he
    go_enter Tryd.func6, Tryd.ntmps6
    go_wp2_with fail
    refine HC.out.mono ?_
    rintro e w1 ⟨g, cap, rfl, hcap, hgl, hcl, hb1⟩
    have Hcl := Lib.hid hcl; have Hb1 := Lib.hid hb1
    clear hcl hb1
    obtain ⟨n, hn⟩ : ∃ n, (ws ++ [(⟨0, ⟨#[]⟩, 0, 0, S.data.toList.length⟩ : Wd)]).length = n := ⟨_, rfl⟩
    have hn2 : n = ws.length + 1 := by rw [← hn, List.length_append, List.length_singleton]
    have Hn := Lib.hid hn; have Hn2 := Lib.hid hn2
    rw [hn] at hcap ⊢
    have hn0 : 0 < n := by omega
    have hn15 : n ≤ 1501 := by omega
    have dn0 : ((n : Int) == 0) = false := by rw [beq_eq_false_iff_ne]; omega
    have hcap2 : cap ≤ cap := Nat.le_refl _
    clear hn hn2
    go_wp2_with fail
    refine (HA.out _ Hb1.out).mono ?_
    rintro e w2 ⟨rfl, hb2⟩
    have Hb2 := Lib.hid (Hb1.out.trans (hb2.mono Hb1.out.size))
    have Hcl2 : Hid (∀ j k (hj : j < (ws ++ [(⟨0, ⟨#[]⟩, 0, 0, S.data.toList.length⟩ : Wd)]).length), k < 5 → w2.cell? ⟨g, j * 5 + k, none⟩ = (wdC (ws ++ [(⟨0, ⟨#[]⟩, 0, 0, S.data.toList.length⟩ : Wd)])[j])[k]?) := Lib.hid (fun j k hj hk => (hb2.cell (p := ⟨g, j * 5 + k, none⟩) hgl).trans (Hcl.out j k hj hk))
    have hgl2 : g < w2.heap.size := Nat.lt_of_lt_of_le hgl hb2.size
    clear hb2 hgl Hcl
    go_wp2_with fail
    go_loopw [6] (fun si wr => ∃ k : Nat, k ≤ n ∧ si = .int .i64 k ∧ Hid (Below w2.heap.size w2 wr)) (fun si _ => n - (intOf si).toNat)
    case atStart => exact ⟨0, Nat.zero_le _, rfl, Lib.hid (Below.refl _ _)⟩
    case round =>
      obtain ⟨k, hk, rfl, Hwr⟩ := hrel
      have hcell : ∀ j q (hj : j < (ws ++ [(⟨0, ⟨#[]⟩, 0, 0, S.data.toList.length⟩ : Wd)]).length), q < 5 → wr.cell? ⟨g, j * 5 + q, none⟩ = (wdC (ws ++ [(⟨0, ⟨#[]⟩, 0, 0, S.data.toList.length⟩ : Wd)])[j])[q]? := fun j q hj hq => (Hwr.out.cell (p := ⟨g, j * 5 + q, none⟩) hgl2).trans (Hcl2.out j q hj hq)
      have hnl := Hn.out
      by_cases hlt : k < n
      · have hlt1 : decide ((k : Int) < (n : Int)) = true := by rw [decide_eq_true_eq]; omega
        obtain ⟨x, hx⟩ : ∃ x, (ws ++ [(⟨0, ⟨#[]⟩, 0, 0, S.data.toList.length⟩ : Wd)])[k]'(by omega) = x := ⟨_, rfl⟩
        obtain ⟨hx1, hx2, hx3⟩ := Good.here hg k (by omega) x hx
        have hc0 := hcell k 0 (by omega) (by decide)
        have hc1 := hcell k 1 (by omega) (by decide)
        have hc2 := hcell k 2 (by omega) (by decide)
        have hc3 := hcell k 3 (by omega) (by decide)
        have hc4 := hcell k 4 (by omega) (by decide)
        rw [hx] at hc0 hc1 hc2 hc3 hc4
        obtain ⟨xk, xs, xn, xf, xa⟩ := x
        replace hc0 : wr.cell? ⟨g, k * 5, none⟩ = some (.int .i64 xk) := hc0
        replace hc1 : wr.cell? ⟨g, k * 5 + 1, none⟩ = some (.string xs) := hc1
        replace hc2 : wr.cell? ⟨g, k * 5 + 2, none⟩ = some (.int .i64 xn) := hc2
        replace hc3 : wr.cell? ⟨g, k * 5 + 3, none⟩ = some (.float .f64 xf) := hc3
        replace hc4 : wr.cell? ⟨g, k * 5 + 4, none⟩ = some (.int .i64 (xa : Nat)) := hc4
        replace hx1 : xa ≤ S.size := hx1
        have dx1 : decide ((S.size : Int) < (xa : Int)) = false := by rw [decide_eq_false_iff_not]; omega
        have dx1n : decide (S.size < xa) = false := by rw [decide_eq_false_iff_not]; omega
        have dx0 : decide ((xa : Int) < 0) = false := by rw [decide_eq_false_iff_not]; omega
        have Hk : Hid ((k = 0) ∨ (0 < k ∧ ∃ y : Nat, wr.cell? ⟨g, (k - 1) * 5 + 4, none⟩ = some (.int .i64 (y : Nat)) ∧ (y < xa ∨ xa = S.size))) := by
          by_cases hk0 : k = 0
          · exact Lib.hid (.inl hk0)
          · obtain ⟨y, hy⟩ : ∃ y, (ws ++ [(⟨0, ⟨#[]⟩, 0, 0, S.data.toList.length⟩ : Wd)])[k - 1]'(by omega) = y := ⟨_, rfl⟩
            have hcy := hcell (k - 1) 4 (by omega) (by decide)
            rw [hy] at hcy
            exact Lib.hid (.inr ⟨by omega, y.at_, hcy, hx3 (k - 1) y (by omega) hy⟩)
        have Ht : Hid ((xk = 1 ∨ xk = 5) → xa + xs.size ≤ S.size ∧ ((S.extract xa (xa + xs.size)).toList == xs.toList) = true) := Lib.hid (fun h => by obtain ⟨m, h1, h2⟩ := hx2 h; exact text_there h1 h2)
        clear hx hx2 hx3 hcell
        have HW : Hid (Below w2.heap.size w2 (wr.alloc (.cells #[.int .i64 xk, .string xs, .int .i64 xn, .float .f64 xf, .int .i64 (xa : Nat)] 32))) := Lib.hid (Hwr.out.alloc Hwr.out.size _)
        clear hnl
        have hk5 : (k : Int) < (n : Int) := by omega
        have HBk : Hid (Blk (wr.alloc (.cells #[.int .i64 xk, .string xs, .int .i64 xn, .float .f64 xf, .int .i64 (xa : Nat)] 32)) wr.heap.size 32 #[.int .i64 xk, .string xs, .int .i64 xn, .float .f64 xf, .int .i64 (xa : Nat)]) := Lib.hid (Blk.new wr _ _)
        go_upto_region 8 with fail
        go_cut [77] from 41 to 77 (fun b wx => b = .bool false ∧ Blk wx wr.heap.size 32 #[.int .i64 xk, .string xs, .int .i64 xn, .float .f64 xf, .int .i64 (xa : Nat)] ∧ Below w2.heap.size w2 wx)
        case first =>
          rcases Hk.out with hk0 | ⟨hk0, y, hy, hyx⟩
          · have d0 : decide (0 < (k : Int)) = false := by rw [decide_eq_false_iff_not]; omega
            have d00 : decide (0 < k) = false := by rw [decide_eq_false_iff_not]; omega
            clear hk0 Hk
            go_big_quiet (fail)
            go_wp2_with fail
            go_meet
            exact ⟨rfl, HBk.out, below_drawn HW.out _⟩
          · have d0 : decide (0 < (k : Int)) = true := by rw [decide_eq_true_eq]; omega
            have d00 : decide (0 < k) = true := by rw [decide_eq_true_eq]; omega
            have q1 : (0 : Int) ≤ (k : Int) - 1 := by omega
            have q2 : ((k : Int) - 1).toNat = k - 1 := by omega
            have q3 : (k : Int) - 1 < (n : Int) := by omega
            have q4 : IntKind.i64.wrap ((k : Int) - 1) = (k : Int) - 1 := IntWalk.i64_in _ (by omega)
            have hy2 : (wr.alloc (.cells #[.int .i64 xk, .string xs, .int .i64 xn, .float .f64 xf, .int .i64 (xa : Nat)] 32)).cell? ⟨g, (k - 1) * 5 + 4, none⟩ = some (.int .i64 (y : Nat)) := ((Below.refl wr.heap.size wr).alloc (Nat.le_refl _) _).cell (p := ⟨g, (k - 1) * 5 + 4, none⟩) (Nat.lt_of_lt_of_le hgl2 Hwr.out.size) |>.trans hy
            rcases hyx with hyx | hyx
            · have m1 : decide (xa ≤ y) = false := by rw [decide_eq_false_iff_not]; omega
              clear hyx Hk
              go_big_quiet (fail)
              go_wp2_with fail
              go_meet
              exact ⟨rfl, HBk.out, below_drawn HW.out _⟩
            · have m3 : decide (xa < S.size) = false := by rw [decide_eq_false_iff_not]; omega
              clear hyx Hk
              rcases m1 : decide (xa ≤ y) with _ | _
              · go_big_quiet (fail)
                go_wp2_with fail
                go_meet
                exact ⟨rfl, HBk.out, below_drawn HW.out _⟩
              · rcases m2 : decide (0 < S.size) with _ | _
                · go_big_quiet (fail)
                  go_wp2_with fail
                  go_meet
                  exact ⟨rfl, HBk.out, below_drawn HW.out _⟩
                · go_big_quiet (fail)
                  go_wp2_with fail
                  go_meet
                  exact ⟨rfl, HBk.out, below_drawn HW.out _⟩
        case rest =>
          obtain ⟨rfl, hbk, hbw⟩ := hcut
          rename World => wx
          have e0 : wx.cell? ⟨wr.heap.size, 0, none⟩ = some (.int .i64 xk) := (hbk.cell 0).trans rfl
          have e1 : wx.cell? ⟨wr.heap.size, 1, none⟩ = some (.string xs) := (hbk.cell 1).trans rfl
          have e4 : wx.cell? ⟨wr.heap.size, 4, none⟩ = some (.int .i64 (xa : Nat)) := (hbk.cell 4).trans rfl
          have HWx := Lib.hid hbw
          clear hbk hbw
          by_cases k1 : xk = 1
          · have f1 : ((xk : Int) == 1) = true := by rw [beq_iff_eq]; exact k1
            obtain ⟨t1, t2⟩ := Ht.out (.inl k1)
            have t3 : decide ((S.size : Int) < (xa : Int) + (xs.size : Int)) = false := by rw [decide_eq_false_iff_not]; omega
            have t3n : decide (S.size < xa + xs.size) = false := by rw [decide_eq_false_iff_not]; omega
            have t4 : IntKind.i64.wrap ((xa : Int) + (xs.size : Int)) = (xa : Int) + (xs.size : Int) := IntWalk.i64_in _ (by omega)
            have t5 := sl_midS S xa (xa + xs.size) (by omega) (by omega) ((xa : Int) + (xs.size : Int)) (by omega)
            clear k1 t1
            go_wp2_with fail
            go_big_quiet (fail)
            go_wp2_with fail
            try clear t4 t5
            go_roundw
            case rel => exact ⟨k + 1, by omega, by go_num, Lib.hid (below_drawn HWx.out _)⟩
            case measure => simp [intOf]; omega
          · have f1 : ((xk : Int) == 1) = false := by rw [beq_eq_false_iff_ne]; exact k1
            by_cases k5 : xk = 5
            · have f5 : ((xk : Int) == 5) = true := by rw [beq_iff_eq]; exact k5
              obtain ⟨t1, t2⟩ := Ht.out (.inr k5)
              have t3 : decide ((S.size : Int) < (xa : Int) + (xs.size : Int)) = false := by rw [decide_eq_false_iff_not]; omega
              have t3n : decide (S.size < xa + xs.size) = false := by rw [decide_eq_false_iff_not]; omega
              have t4 : IntKind.i64.wrap ((xa : Int) + (xs.size : Int)) = (xa : Int) + (xs.size : Int) := IntWalk.i64_in _ (by omega)
              have t5 := sl_midS S xa (xa + xs.size) (by omega) (by omega) ((xa : Int) + (xs.size : Int)) (by omega)
              clear k1 k5 t1
              go_wp2_with fail
              go_big_quiet (fail)
              go_wp2_with fail
              try clear t4 t5
              go_roundw
              case rel => exact ⟨k + 1, by omega, by go_num, Lib.hid (below_drawn HWx.out _)⟩
              case measure => simp [intOf]; omega
            · have f5 : ((xk : Int) == 5) = false := by rw [beq_eq_false_iff_ne]; exact k5
              clear k1 k5
              go_wp2_with fail
              go_big_quiet (fail)
              go_wp2_with fail
              try clear t4 t5
              go_roundw
              case rel => exact ⟨k + 1, by omega, by go_num, Lib.hid (below_drawn HWx.out _)⟩
              case measure => simp [intOf]; omega
      · have hlt1 : decide ((k : Int) < (n : Int)) = false := by rw [decide_eq_false_iff_not]; omega
        have hw5 := Hn2.out
        have hlast : (ws ++ [(⟨0, ⟨#[]⟩, 0, 0, S.data.toList.length⟩ : Wd)])[n - 1]'(by omega) = ⟨0, ⟨#[]⟩, 0, 0, S.size⟩ := by rw [get_snoc, dif_neg (by omega)]; rfl
        have hc0 := hcell (n - 1) 0 (by omega) (by decide)
        have hc1 := hcell (n - 1) 1 (by omega) (by decide)
        have hc2 := hcell (n - 1) 2 (by omega) (by decide)
        have hc3 := hcell (n - 1) 3 (by omega) (by decide)
        have hc4 := hcell (n - 1) 4 (by omega) (by decide)
        rw [hlast] at hc0 hc1 hc2 hc3 hc4
        replace hc0 : wr.cell? ⟨g, (n - 1) * 5, none⟩ = some (.int .i64 0) := hc0
        replace hc1 : wr.cell? ⟨g, (n - 1) * 5 + 1, none⟩ = some (.string ⟨#[]⟩) := hc1
        replace hc2 : wr.cell? ⟨g, (n - 1) * 5 + 2, none⟩ = some (.int .i64 0) := hc2
        replace hc3 : wr.cell? ⟨g, (n - 1) * 5 + 3, none⟩ = some (.float .f64 0) := hc3
        replace hc4 : wr.cell? ⟨g, (n - 1) * 5 + 4, none⟩ = some (.int .i64 (S.size : Nat)) := hc4
        have HW : Hid (Below w.heap.size w (wr.alloc (.cells #[.int .i64 0, .string ⟨#[]⟩, .int .i64 0, .float .f64 0, .int .i64 (S.size : Nat)] 32))) := Lib.hid ((Hb2.out.trans (Hwr.out.mono Hb2.out.size)).alloc (Nat.le_trans Hb2.out.size Hwr.out.size) _)
        have q1 : (0 : Int) ≤ (n : Int) - 1 := by omega
        have q2 : ((n : Int) - 1).toNat = n - 1 := by omega
        clear hcell hlast hnl hw5
        go_wp2_with fail
        go_ret
        exact ⟨rfl, HW.out⟩
  · have e0 : ((er : Int) != 0) = true := by rw [bne_iff_ne]; exact h0
    have HC := Lib.hid (words_bad S p er L w hs he hw h0)
    clear hw he h0
    go_enter Tryd.func6, Tryd.ntmps6
    go_wp2_with fail
    refine HC.out.mono ?_
    rintro e w1 ⟨rfl, hb1⟩
    have Hb1 := Lib.hid hb1; clear hb1
    go_wp2_with fail
    refine (HA.out _ Hb1.out).mono ?_
    rintro e w2 ⟨rfl, hb2⟩
    have Hb2 := Lib.hid (Hb1.out.trans (hb2.mono Hb1.out.size)); clear hb2
    go_wp2_with fail
    refine (HA.out _ Hb2.out).mono ?_
    rintro e w3 ⟨rfl, hb3⟩
    have Hb3 := Lib.hid (Hb2.out.trans (hb3.mono Hb2.out.size)); clear hb3
    go_wp2_with fail
    go_ret
    exact ⟨rfl, Hb3.out⟩

end Go.Proofs.YtbllmodafjdmcaaDoor
