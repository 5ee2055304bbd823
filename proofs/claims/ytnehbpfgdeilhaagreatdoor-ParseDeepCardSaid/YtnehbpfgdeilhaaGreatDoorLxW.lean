/- lex.Words -/
import Derived.Test.YtnehbpfgdeilhaaGreatDoorLxR
namespace Go.Proofs.YtnehbpfgdeilhaaGreatDoor
open Go.ChangeShapes Go.WideShapes Go.ChangeAt Go.RowKit Go.Fl
open Go.Shelf

def wdC (x : Wd) : List Value := [.int .i64 x.k, .string x.s, .int .i64 x.n, .float .f64 x.f, .int .i64 (x.at_ : Nat)]

def wdsC (l : List Wd) : List Value := l.flatMap wdC

theorem wdsC_len : ∀ l : List Wd, (wdsC l).length = l.length * 5
  | [] => rfl
  | x :: r => by
    have := wdsC_len r
    unfold wdsC at this ⊢
    rw [List.flatMap_cons, List.length_append, this, List.length_cons]
    simp [wdC]; omega

theorem wdsC_snoc (l : List Wd) (x : Wd) : wdsC (l ++ [x]) = wdsC l ++ wdC x := by simp [wdsC]

theorem wdsC_get : ∀ (l : List Wd) (j k : Nat) (hj : j < l.length), k < 5 → (wdsC l)[j * 5 + k]? = (wdC l[j])[k]?
  | [], j, _, hj, _ => absurd hj (Nat.not_lt_zero _)
  | x :: r, 0, k, _, hk => by
    show (wdC x ++ wdsC r)[0 * 5 + k]? = _
    rw [Nat.zero_mul, Nat.zero_add, List.getElem?_append_left (by simpa [wdC] using hk)]
    rfl
  | x :: r, j + 1, k, hj, hk => by
    have hl : (wdC x).length = 5 := rfl
    show (wdC x ++ wdsC r)[(j + 1) * 5 + k]? = _
    rw [List.getElem?_append_right (by rw [hl]; omega), hl, show (j + 1) * 5 + k - 5 = j * 5 + k by omega]
    exact wdsC_get r j k (by simpa using hj) hk

theorem info_word : (Tryz.prog.info? 56).map (fun i => (i.zero, i.size, i.bytes)) = some (some (.agg #[.int .i64 0, .string ⟨#[]⟩, .int .i64 0, .float .f64 0, .int .i64 0]), 5, 48) := by kernel_rfl

/-- a row of words of one's own -/
def OwnW (B : Nat) (w : World) (ws : List Wd) (v : Value) : Prop := w.ownsRow B 56 5 v ws.length (wdsC ws)

theorem OwnW.on {B : Nat} {w w' : World} {ws : List Wd} {v : Value} (h : OwnW B w ws v) (hb : Below w.heap.size w w') : OwnW B w' ws v := by
  refine World.ownsRow.kept (row := none) h ⟨hb.os, hb.tape, hb.output, hb.size, fun k hk _ => hb.block k hk⟩ ?_
  cases hv : v.ownBlock <;> simp

theorem OwnW.add {B : Nat} {w : World} {ws : List Wd} {v : Value} (h : OwnW B w ws v) (hB : B ≤ w.heap.size) (hn : ws.length ≤ 100000) (x : Wd) (a : Addr) (hc : ∀ j u, (wdC x)[j]? = some u → w.cell? (a.add j) = some u) :
    ∃ v' w', (Builtin.append_ #[30, 30] 30 #[v, .slice (some a) 1 1]).run Tryz.prog w = .ok v' w' ∧ OwnW B w' (ws ++ [x]) v' ∧ Below B w w' := by
  obtain ⟨i0, hi0, hz0, hz1, hz2⟩ := info_parts info_word
  obtain ⟨v', w', hr, hown, hg, -⟩ := run_append_fresh (P := Tryz.prog) w B 30 30 56 i0 _ 5 48 Tryz.underlying30 hi0 hz0 hz1 hz2 rfl (by decide) v ws.length (wdsC ws) h a 1 1 (wdC x) rfl hc
    (fun u hu => by simp [wdC] at hu; rcases hu with rfl | rfl | rfl | rfl | rfl <;> rfl) (by unfold maxLen; omega) (by omega) hB (by decide)
  refine ⟨v', w', hr, ?_, (Below.refl _ _).grown hg hB (fun k hk => (h.lt k hk).1)⟩
  unfold OwnW
  rw [wdsC_snoc, List.length_append, List.length_singleton]
  exact hown

theorem OwnW.slice {B : Nat} {w : World} {ws : List Wd} {v : Value} (h : OwnW B w ws v) (hne : ws ≠ []) : ∃ g cap, v = .slice (some ⟨g, 0, none⟩) ws.length cap ∧ ws.length ≤ cap ∧ B ≤ g ∧ g < w.heap.size ∧ (∀ j k (hj : j < ws.length), k < 5 → w.cell? ⟨g, j * 5 + k, none⟩ = (wdC ws[j])[k]?) := by
  have hlt := h.lt
  rcases h.2 with ⟨-, h0⟩ | ⟨g, cap, cur, rfl, hBg, hg, hnc, -, hcs, htake⟩
  · exact absurd (List.length_eq_zero_iff.1 h0) hne
  · refine ⟨g, cap, rfl, hnc, hBg, (hlt g (by simp [Value.ownBlock])).2, fun j k hj hk => ?_⟩
    have h1 := wdsC_get ws j k hj hk
    rw [← h1, ← htake, List.getElem?_take_of_lt (by omega), cell_of_row w g (j * 5 + k) cur 56 (0, 0) hg]
    simp

/-- words as a call hands them on -/
def IsWds (w : World) (v : Value) (ws : List Wd) : Prop := ∃ g cap, v = .slice (some ⟨g, 0, none⟩) ws.length cap ∧ ws.length ≤ cap ∧ g < w.heap.size ∧ (∀ j k (hj : j < ws.length), k < 5 → w.cell? ⟨g, j * 5 + k, none⟩ = (wdC ws[j])[k]?)

def WdsSaid (l : List UInt8) (w : World) (e : Ending) (w' : World) : Prop :=
  ∃ v, e = .returned (.tuple #[v, .int .i64 ((wdsO canonN l).2.1 : Nat), .int .i64 (wdsO canonN l).2.2]) ∧ (((wdsO canonN l).2.2 = 0 ∧ IsWds w' v (wdsO canonN l).1) ∨ ((wdsO canonN l).2.2 ≠ 0 ∧ v = .slice none 0 0)) ∧ Below w.heap.size w w'

theorem skip_lt {l : List UInt8} {a : Nat} (h : runP spcB l a ≤ l.length) : a ≤ l.length := Nat.le_trans (runP_ge spcB l a) h

set_option maxHeartbeats 8000000 in
set_option maxRecDepth 100000 in
theorem words_any (S : ByteArray) (w : World) (hs : S.size ≤ maxLen) (he : Env w) : Calls Tryz.prog 8 #[.string S] w (WdsSaid S.data.toList w) := by
  by_cases hbig : 3000 < S.size
  · have d1 : decide (3000 < (S.size : Int)) = true := by rw [decide_eq_true_eq]; omega
    have HT : Hid (wdsO canonN S.data.toList = ([], 3000, 3)) := Lib.hid (by unfold wdsO; rw [len_list, if_pos hbig])
    clear hbig
    go_enter Tryz.func8, Tryz.ntmps8
    go_wp2_with fail
    exact bodyPost_ret (v := .tuple #[.slice none 0 0, .int .i64 3000, .int .i64 3]) (by simp [results, Tryz.results8, go_sem]) rfl ⟨_, by rw [HT.out]; rfl, .inr ⟨by rw [HT.out]; decide, rfl⟩, Below.refl _ _⟩
  · have d1 : decide (3000 < (S.size : Int)) = false := by rw [decide_eq_false_iff_not]; omega
    have h0 : wdsO canonN S.data.toList = wdsGo canonN S.data.toList (S.size + 1) (runP spcB S.data.toList 0) [] := by unfold wdsO; rw [len_list, if_neg hbig]
    have hle : runP spcB S.data.toList 0 ≤ S.size := runP_le (P := spcB) (Nat.zero_le _)
    have H0 := Lib.hid h0; clear h0
    have He := Lib.hid he; clear he
    go_enter Tryz.func8, Tryz.ntmps8
    go_wp2_with fail
    refine (skip_any S 0 w (Nat.zero_le _) hs).mono ?_
    rintro e w' ⟨rfl, rfl⟩
    obtain ⟨a0, ha0⟩ : ∃ a0, runP spcB S.data.toList 0 = a0 := ⟨_, rfl⟩
    rw [ha0] at H0 hle ⊢
    clear ha0
    go_wp2_with fail
    go_loopw [5, 6] (fun sl si wr => ∃ (a fu : Nat) (ws : List Wd) (p : Option Addr) (c : Nat), sl = .slice p ws.length c ∧ si = .int .i64 a ∧ a ≤ S.size ∧ ws.length ≤ a ∧ Hid (wdsO canonN S.data.toList = wdsGo canonN S.data.toList fu a ws ∧ S.size + 1 ≤ a + fu) ∧ Hid (OwnW w.heap.size wr ws (.slice p ws.length c) ∧ Below w.heap.size w wr)) (fun _ si _ => S.size - (intOf si).toNat)
    case atStart => exact ⟨a0, S.size + 1, [], none, 0, rfl, rfl, hle, Nat.zero_le _, Lib.hid ⟨H0.out, by omega⟩, Lib.hid ⟨World.ownsRow_nil _ _ _ _, Below.refl _ _⟩⟩
    case round =>
      obtain ⟨a, fu, ws, p, c, rfl, rfl, ha, hwa, Hg, Hw⟩ := hrel
      obtain ⟨fu, rfl⟩ : ∃ f, fu = f + 1 := ⟨fu - 1, by have := Hg.out.2; omega⟩
      by_cases hlt : a < S.size
      · have hlt1 : decide ((a : Int) < (S.size : Int)) = true := by rw [decide_eq_true_eq]; omega
        have hx : (S.extract a S.size).size = S.size - a := by rw [ByteArray.size_extract]; omega
        have hcall := read_any (S.extract a S.size) wr (by omega) (by omega) (He.out.on (Hw.out.2))
        rw [drop_list] at hcall
        have htl := read_tells canonN (S.data.toList.drop a)
        have hgo : wdsGo canonN S.data.toList (fu + 1) a ws = match readO canonN (S.data.toList.drop a) with | none => ([], a, 110) | some (x, n) => wdsGo canonN S.data.toList fu (runP spcB S.data.toList (a + n)) (ws ++ [{ x with at_ := a }]) := by
          rw [wdsGo, if_pos (by rw [len_list]; exact hlt)]
          rfl
        cases hro : readO canonN (S.data.toList.drop a) with
        | none =>
          rw [hro] at hcall hgo
          have HC : Hid (Calls Tryz.prog 14 #[.string (S.extract a S.size)] wr fun e w' => e = .returned (.tuple #[.agg #[.int .i64 0, .string ⟨#[]⟩, .int .i64 0, .float .f64 0, .int .i64 0], .int .i64 0]) ∧ Below wr.heap.size wr w') := Lib.hid hcall
          have HT : Hid (wdsO canonN S.data.toList = ([], a, 110)) := Lib.hid (Hg.out.1.trans hgo)
          clear hcall hgo hro htl hx
          go_wp2_with fail
          refine HC.out.mono ?_
          rintro e w1 ⟨rfl, hb1⟩
          have HB := Lib.hid (Hw.out.2.trans (hb1.mono Hw.out.2.size))
          clear hb1
          go_wp2_with fail
          exact bodyPost_ret (v := .tuple #[.slice none 0 0, .int .i64 (a : Nat), .int .i64 110]) (by simp [results, Tryz.results8, go_sem]) rfl ⟨_, by rw [HT.out], .inr ⟨by rw [HT.out]; show (110 : Int) ≠ 0; decide, rfl⟩, HB.out.alloc HB.out.size _⟩
        | some xn =>
          obtain ⟨x, n⟩ := xn
          rw [hro] at hcall hgo
          obtain ⟨ht1, ht2, -⟩ := htl x n hro
          rw [List.length_drop, len_list] at ht2
          have HC : Hid (Calls Tryz.prog 14 #[.string (S.extract a S.size)] wr fun e w' => e = .returned (.tuple #[.agg #[.int .i64 x.k, .string x.s, .int .i64 x.n, .float .f64 x.f, .int .i64 (x.at_ : Nat)], .int .i64 (n : Nat)]) ∧ Below wr.heap.size wr w') := Lib.hid hcall
          have HT : Hid (wdsO canonN S.data.toList = wdsGo canonN S.data.toList fu (runP spcB S.data.toList (a + n)) (ws ++ [{ x with at_ := a }])) := Lib.hid (Hg.out.1.trans hgo)
          have dn : ((n : Int) == 0) = false := by rw [beq_eq_false_iff_ne]; omega
          clear hcall hgo hro htl hx
          go_wp2_with fail
          refine HC.out.mono ?_
          rintro e w1 ⟨rfl, hb1⟩
          have HO := Lib.hid (Hw.out.1.on hb1)
          have HB := Lib.hid (Hw.out.2.trans (hb1.mono Hw.out.2.size))
          clear hb1
          obtain ⟨k0, s0, n0, f0, at0⟩ := x
          have hbA : Below w1.heap.size w1 ((w1.alloc (.cells #[.int .i64 k0, .string s0, .int .i64 n0, .float .f64 f0, .int .i64 (a : Nat)] 56)).alloc (.cells #[.int .i64 k0, .string s0, .int .i64 n0, .float .f64 f0, .int .i64 (a : Nat)] 56)) := ((Below.refl _ _).alloc (Nat.le_refl _) _).alloc (by simp) _
          have hszA : ((w1.alloc (.cells #[.int .i64 k0, .string s0, .int .i64 n0, .float .f64 f0, .int .i64 (a : Nat)] 56)).alloc (.cells #[.int .i64 k0, .string s0, .int .i64 n0, .float .f64 f0, .int .i64 (a : Nat)] 56)).heap.size = w1.heap.size + 1 + 1 := by simp
          have hBw1 := HB.out.size
          obtain ⟨v', w2, hr, hown', hb2⟩ := OwnW.add (HO.out.on hbA) (by rw [hszA]; omega) (by omega) ⟨k0, s0, n0, f0, a⟩ ⟨w1.heap.size + 1, 0, none⟩ (fun j u hj => by
            have hc := (Blk.new (w1.alloc (.cells #[.int .i64 k0, .string s0, .int .i64 n0, .float .f64 f0, .int .i64 (a : Nat)] 56)) 56 #[.int .i64 k0, .string s0, .int .i64 n0, .float .f64 f0, .int .i64 (a : Nat)]).cell j
            rw [show (w1.alloc (.cells #[.int .i64 k0, .string s0, .int .i64 n0, .float .f64 f0, .int .i64 (a : Nat)] 56)).heap.size = w1.heap.size + 1 by simp] at hc
            rw [adr_add, Nat.zero_add, hc]
            simpa [wdC] using hj)
          obtain ⟨g, cap, hv', -⟩ := hown'.slice (by simp)
          subst hv'
          have HR := Lib.hid hr
          have HN : Hid (OwnW w.heap.size w2 (ws ++ [⟨k0, s0, n0, f0, a⟩]) (.slice (some ⟨g, 0, none⟩) (ws ++ [(⟨k0, s0, n0, f0, a⟩ : Wd)]).length cap) ∧ Below w.heap.size w w2) := Lib.hid ⟨hown', (HB.out.trans (hbA.mono hBw1)).trans hb2⟩
          have hle2 : runP spcB S.data.toList (a + n) ≤ S.size := runP_le (P := spcB) (by rw [len_list]; omega)
          have hge2 := runP_ge spcB S.data.toList (a + n)
          have HS := Lib.hid (fun W => skip_any S (a + n) W (by omega) (by unfold maxLen; omega))
          obtain ⟨b, hb⟩ : ∃ b : Nat, runP spcB S.data.toList (a + n) = b := ⟨_, rfl⟩
          rw [hb] at HT HS hle2 hge2
          clear hb hr hown' hb2 hbA hszA hBw1
          go_wp2_with (at_builtin; refine Lib.wpList_append_run_sl _ rfl _ _ 30 rfl _ _ rfl rfl HR.out ?_)
          refine (HS.out _).mono ?_
          rintro e w' ⟨rfl, rfl⟩
          go_wp2_with fail
          go_roundw
          case rel => exact ⟨b, fu, ws ++ [⟨k0, s0, n0, f0, a⟩], some ⟨g, 0, none⟩, cap, (by simp), rfl, hle2, by rw [List.length_append, List.length_singleton]; omega, Lib.hid ⟨HT.out, by have := Hg.out.2; omega⟩, HN⟩
          case measure => simp [intOf]; omega
      · have hlt1 : decide ((a : Int) < (S.size : Int)) = false := by rw [decide_eq_false_iff_not]; omega
        have hgo : wdsGo canonN S.data.toList (fu + 1) a ws = if 1500 < ws.length then ([], (ws.getD 1500 wdNone).at_, 3) else (ws ++ [⟨0, ⟨#[]⟩, 0, 0, S.size⟩], 0, 0) := by
          rw [wdsGo, if_neg (by rw [len_list]; exact hlt)]
          rfl
        have hBw := Hw.out.2.size
        by_cases hmost : 1500 < ws.length
        · have dm : decide (1500 < (ws.length : Int)) = true := by rw [decide_eq_true_eq]; omega
          rw [if_pos hmost] at hgo
          obtain ⟨g, cap, hv, hcap, -, hgl, hcl⟩ := Hw.out.1.slice (by intro e; rw [e] at hmost; simp at hmost)
          injection hv with hp _ hcc
          subst hp hcc
          have hc := hcl 1500 4 hmost (by decide)
          obtain ⟨z, hz⟩ : ∃ z : Nat, (ws.getD 1500 wdNone).at_ = z := ⟨_, rfl⟩
          have hz2 : ws[1500].at_ = z := by rw [← hz, List.getD_eq_getElem?_getD, List.getElem?_eq_getElem hmost]; rfl
          have c4 : wr.cell? ⟨g, 7504, none⟩ = some (.int .i64 (z : Nat)) := by
            rw [← hz2]; exact hc
          have HT : Hid (wdsO canonN S.data.toList = ([], z, 3)) := Lib.hid (by rw [Hg.out.1, hgo, hz])
          have i15 : (1500 : Int) < (ws.length : Int) := by omega
          have HB := Lib.hid Hw.out.2
          clear hgo hcl hc hz hz2 hmost
          go_wp2_with fail
          go_quiet (fail)
          go_wp2_with fail
          exact bodyPost_ret (v := .tuple #[.slice none 0 0, .int .i64 (z : Nat), .int .i64 3]) (by simp [results, Tryz.results8, go_sem]) rfl ⟨_, by rw [HT.out], .inr ⟨by rw [HT.out]; show (3 : Int) ≠ 0; decide, rfl⟩, HB.out.trans ((drewN_below wr _).mono HB.out.size)⟩
        · have dm : decide (1500 < (ws.length : Int)) = false := by rw [decide_eq_false_iff_not]; omega
          rw [if_neg hmost] at hgo
          have HT : Hid (wdsO canonN S.data.toList = (ws ++ [⟨0, ⟨#[]⟩, 0, 0, S.size⟩], 0, 0)) := Lib.hid (Hg.out.1.trans hgo)
          have hbA : Below wr.heap.size wr (wr.alloc (.cells #[.int .i64 0, .string ⟨#[]⟩, .int .i64 0, .float .f64 0, .int .i64 (S.size : Nat)] 56)) := (Below.refl _ _).alloc (Nat.le_refl _) _
          have hszA : (wr.alloc (.cells #[.int .i64 0, .string ⟨#[]⟩, .int .i64 0, .float .f64 0, .int .i64 (S.size : Nat)] 56)).heap.size = wr.heap.size + 1 := by simp
          obtain ⟨v', w2, hr, hown', hb2⟩ := OwnW.add (Hw.out.1.on hbA) (by rw [hszA]; omega) (by omega) ⟨0, ⟨#[]⟩, 0, 0, S.size⟩ ⟨wr.heap.size, 0, none⟩ (fun j u hj => by
            have hc := (Blk.new wr 56 #[.int .i64 0, .string ⟨#[]⟩, .int .i64 0, .float .f64 0, .int .i64 (S.size : Nat)]).cell j
            rw [adr_add, Nat.zero_add, hc]
            simpa [wdC] using hj)
          obtain ⟨g, cap, hv', hcap, -, hgl, hcl⟩ := hown'.slice (by simp)
          subst hv'
          have HR := Lib.hid hr
          have HI : Hid (IsWds w2 (.slice (some ⟨g, 0, none⟩) (ws ++ [(⟨0, ⟨#[]⟩, 0, 0, S.size⟩ : Wd)]).length cap) (ws ++ [⟨0, ⟨#[]⟩, 0, 0, S.size⟩])) := Lib.hid ⟨g, cap, rfl, hcap, hgl, hcl⟩
          have HB := Lib.hid ((Hw.out.2.trans (hbA.mono hBw)).trans hb2)
          clear hgo hr hown' hb2 hbA hszA hcl hcap hgl hmost
          go_wp2_with (at_builtin; refine Lib.wpList_append_run_sl _ rfl _ _ 30 rfl _ _ rfl rfl HR.out ?_)
          exact bodyPost_ret (v := .tuple #[.slice (some ⟨g, 0, none⟩) (ws ++ [(⟨0, ⟨#[]⟩, 0, 0, S.size⟩ : Wd)]).length cap, .int .i64 0, .int .i64 0]) (by simp [results, Tryz.results8, go_sem]) rfl ⟨_, by rw [HT.out]; rfl, .inl ⟨by rw [HT.out], by rw [HT.out]; exact HI.out⟩, HB.out⟩

end Go.Proofs.YtnehbpfgdeilhaaGreatDoor
