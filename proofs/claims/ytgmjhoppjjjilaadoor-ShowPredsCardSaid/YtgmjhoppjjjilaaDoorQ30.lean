/- SpP -/
import Derived.Test.YtgmjhoppjjjilaaDoorQ29
import Derived.Test.YtgmjhoppjjjilaaDoorQ11

/- the document's words: Words -/
namespace Go.Proofs.YtgmjhoppjjjilaaDoor
open Go.ChangeShapes Go.WideShapes Go.ChangeAt Go.RowKit Go.Fl
open Go.Shelf

/-- all words from a on: those ahead are acc -/
def rwGo (l : List UInt8) : Nat → Nat → List Wd → List Wd × Nat × Int
  | 0, _, _ => ([], 0, 0)
  | fu + 1, a, acc =>
    match l.drop a with
    | [] => (acc ++ [⟨0, ⟨#[]⟩, 0, 0, l.length⟩], 0, 0)
    | c :: r =>
      if c = 32 then rwGo l fu (a + 1) acc
      else match oneR (c :: r) with
        | none => ([], a, 110)
        | some (x, n) => if acc.length = 1500 then ([], a, 3) else rwGo l fu (a + n) (acc ++ [{ x with at_ := a }])

def rwO (l : List UInt8) : List Wd × Nat × Int := if 3000 < l.length then ([], 3000, 3) else rwGo l (l.length + 1) 0 []

section
variable {l r : List UInt8} {fu a n : Nat} {acc : List Wd} {c : UInt8} {x : Wd}

theorem rwGo_end (h : l.drop a = []) : rwGo l (fu + 1) a acc = (acc ++ [⟨0, ⟨#[]⟩, 0, 0, l.length⟩], 0, 0) := by rw [rwGo, h]

theorem rwGo_spc (h : l.drop a = 32 :: r) : rwGo l (fu + 1) a acc = rwGo l fu (a + 1) acc := by
  rw [rwGo, h]
  rfl

theorem rwGo_bad (h : l.drop a = c :: r) (hc : c ≠ 32) (ho : oneR (c :: r) = none) : rwGo l (fu + 1) a acc = ([], a, 110) := by
  rw [rwGo, h]
  show (if c = 32 then _ else match oneR (c :: r) with | none => ([], a, 110) | some (x, n) => if acc.length = 1500 then ([], a, 3) else rwGo l fu (a + n) (acc ++ [{ x with at_ := a }])) = _
  rw [if_neg hc, ho]

theorem rwGo_most (h : l.drop a = c :: r) (hc : c ≠ 32) (ho : oneR (c :: r) = some (x, n)) (hm : acc.length = 1500) : rwGo l (fu + 1) a acc = ([], a, 3) := by
  rw [rwGo, h]
  show (if c = 32 then _ else match oneR (c :: r) with | none => ([], a, 110) | some (x, n) => if acc.length = 1500 then ([], a, 3) else rwGo l fu (a + n) (acc ++ [{ x with at_ := a }])) = _
  rw [if_neg hc, ho]
  exact if_pos hm

theorem rwGo_go (h : l.drop a = c :: r) (hc : c ≠ 32) (ho : oneR (c :: r) = some (x, n)) (hm : acc.length ≠ 1500) : rwGo l (fu + 1) a acc = rwGo l fu (a + n) (acc ++ [{ x with at_ := a }]) := by
  rw [rwGo, h]
  show (if c = 32 then _ else match oneR (c :: r) with | none => ([], a, 110) | some (x, n) => if acc.length = 1500 then ([], a, 3) else rwGo l fu (a + n) (acc ++ [{ x with at_ := a }])) = _
  rw [if_neg hc, ho]
  exact if_neg hm

end

/-- what a word is -/
def WdG (m : Nat) (x : Wd) : Prop := 1 ≤ x.k ∧ x.k ≤ 5 ∧ is64 x.n = true ∧ x.f < 18446744073709551616 ∧ x.s.size ≤ m ∧ (x.k = 3 → canonN x.f = x.f)

theorem WdG.of {m : Nat} {k : Int} {s : ByteArray} {n : Int} {f a : Nat} (h1 : 1 ≤ k) (h2 : k ≤ 5) (h3 : is64 n = true) (h4 : f < 18446744073709551616) (h5 : s.size ≤ m) (h6 : k = 3 → canonN f = f) : WdG m ⟨k, s, n, f, a⟩ := ⟨h1, h2, h3, h4, h5, h6⟩

theorem quoO_len {l t : List UInt8} {n : Nat} (h : quoO l = some (t, n)) : t.length ≤ l.length := by
  unfold quoO at h
  split at h
  · cases h
  · split at h
    · have := qGo_le _ _ _ _ _ _ h
      rw [List.length_nil] at this
      omega
    · cases h

theorem oneR_tells {l : List UInt8} {x : Wd} {n : Nat} (h : oneR l = some (x, n)) : 0 < n ∧ n ≤ l.length ∧ WdG l.length x := by
  unfold oneR at h
  split at h
  · cases h
  · rename_i c r
    split at h
    · rename_i hf
      unfold fltR at h
      split at h
      · cases h
      · rename_i t m hq
        split at h
        · rename_i ht
          injection h with h; injection h with h1 h2; subst h1; subst h2
          have := quoO_pos hq
          refine ⟨by omega, by rw [List.length_cons]; omega, WdG.of (by decide) (by decide) (by decide) ?_ (Nat.zero_le _) (fun _ => ht.2.2)⟩
          have := hxV_lt 16 t ht.1 ht.2.1
          have e : (16 : Nat) ^ 16 = 18446744073709551616 := by decide
          omega
        · cases h
    · split at h
      · unfold txtR at h
        split at h
        · cases h
        · rename_i t m hq
          split at h
          · cases h
          · injection h with h; injection h with h1 h2; subst h1; subst h2
            have := quoO_pos hq
            have ht := quoO_len hq
            exact ⟨this.1, this.2, WdG.of (by decide) (by decide) (by decide) (by decide) ht (fun e => by cases e)⟩
      · split at h
        · unfold intR at h
          split at h
          · cases h
          · rename_i v hv
            injection h with h; injection h with h1 h2; subst h1; subst h2
            have h3 := runP_ge digB (c :: r) 1
            have h4 := runP_le (P := digB) (l := c :: r) (k := 1) (by simp)
            have hb := intO_back hv
            exact ⟨by omega, h4, WdG.of (by decide) (by decide) (is64_iff.2 ⟨hb.2.1, by have := hb.2.2; omega⟩) (by decide) (Nat.zero_le _) (fun e => by cases e)⟩
        · split at h
          · unfold namR at h
            split at h
            · cases h
            · injection h with h; injection h with h1 h2; subst h1; subst h2
              have h3 := runP_ge namB (c :: r) 1
              have h4 := runP_le (P := namB) (l := c :: r) (k := 1) (by simp)
              refine ⟨by omega, h4, WdG.of (by decide) (by decide) (by decide) (by decide) ?_ (fun e => by cases e)⟩
              show ((c :: r).take (runP namB (c :: r) 1)).length ≤ _
              rw [List.length_take]; omega
          · split at h
            · injection h with h; injection h with h1 h2; subst h1; subst h2
              exact ⟨by decide, by rw [List.length_cons]; omega, WdG.of (by decide) (by decide) (by decide) (by decide) (by show 1 ≤ _; rw [List.length_cons]; omega) (fun e => by cases e)⟩
            · cases h

def WdsR (l : List UInt8) (w : World) (e : Ending) (w' : World) : Prop :=
  ∃ v, e = .returned (.tuple #[v, .int .i64 ((rwO l).2.1 : Nat), .int .i64 (rwO l).2.2]) ∧ (((rwO l).2.2 = 0 ∧ IsWds w' v (rwO l).1) ∨ ((rwO l).2.2 ≠ 0 ∧ v = .slice none 0 0)) ∧ Below w.heap.size w w'

set_option maxHeartbeats 8000000 in
set_option maxRecDepth 100000 in
theorem rwords_any (S : ByteArray) (w : World) : Calls Tryd.prog 26 #[.string S] w (WdsR S.data.toList w) := by
  by_cases hbig : 3000 < S.size
  · have d1 : decide (3000 < (S.size : Int)) = true := by rw [decide_eq_true_eq]; omega
    have HT : Hid (rwO S.data.toList = ([], 3000, 3)) := Lib.hid (by unfold rwO; rw [len_list, if_pos hbig])
    clear hbig
    go_enter Tryd.func26, Tryd.ntmps26
    go_wp2_with fail
    exact bodyPost_ret (v := .tuple #[.slice none 0 0, .int .i64 3000, .int .i64 3]) (by simp [results, Tryd.results26, go_sem]) rfl ⟨_, by rw [HT.out]; rfl, .inr ⟨by rw [HT.out]; decide, rfl⟩, Below.refl _ _⟩
  · have d1 : decide (3000 < (S.size : Int)) = false := by rw [decide_eq_false_iff_not]; omega
    have H0 : Hid (rwO S.data.toList = rwGo S.data.toList (S.size + 1) 0 []) := Lib.hid (by unfold rwO; rw [len_list, if_neg hbig])
    have hst := World.ownsRow_made (e := 65) (size := 5) w #[] 0 (Nat.le_refl _) (Nat.zero_le _) (by simp)
    have HS0 : Hid (OwnW w.heap.size (w.alloc (.cells #[] 65)) [] (.slice (some ⟨w.heap.size, 0, none⟩) 0 0)) := Lib.hid hst
    clear hst
    go_enter Tryd.func26, Tryd.ntmps26
    go_wp2_with fail
    go_loopw [5, 6] (fun sl si wr => ∃ (a fu : Nat) (ws : List Wd) (p : Option Addr) (c : Nat), sl = .slice p ws.length c ∧ si = .int .i64 a ∧ a ≤ S.size ∧ ws.length ≤ 1500 ∧ Hid (rwO S.data.toList = rwGo S.data.toList fu a ws ∧ S.size + 1 ≤ a + fu) ∧ Hid (OwnW w.heap.size wr ws (.slice p ws.length c) ∧ Below w.heap.size w wr)) (fun _ si _ => S.size - (intOf si).toNat)
    case atStart => exact ⟨0, S.size + 1, [], _, 0, rfl, rfl, Nat.zero_le _, by simp, Lib.hid ⟨H0.out, by omega⟩, Lib.hid ⟨HS0.out, (Below.refl _ _).alloc (Nat.le_refl _) _⟩⟩
    case round =>
      obtain ⟨a, fu, ws, p, c, rfl, rfl, ha, hwl, Hg, Hw⟩ := hrel
      obtain ⟨fu, rfl⟩ : ∃ f, fu = f + 1 := ⟨fu - 1, by have := Hg.out.2; omega⟩
      by_cases hlt : a < S.size
      · have hlt1 : decide ((a : Int) < (S.size : Int)) = true := by rw [decide_eq_true_eq]; omega
        have hd := list_cut S a hlt
        by_cases h32 : S[a] = 32
        · have e1 : ((S[a].toNat : Int) == 32) = true := by rw [h32]; rfl
          have HN : Hid (rwO S.data.toList = rwGo S.data.toList fu (a + 1) ws ∧ S.size + 1 ≤ a + 1 + fu) := Lib.hid ⟨by rw [h32] at hd; rw [Hg.out.1]; exact rwGo_spc hd, by have := Hg.out.2; omega⟩
          clear h32 hd
          go_wp2_with fail
          refine ⟨⟨a + 1, fu, ws, p, c, rfl, (by first | rfl | go_num), hlt, hwl, HN, Hw⟩, by simp [intOf]; omega⟩
        · have e1 : ((S[a].toNat : Int) == 32) = false := by have := u8_ne (k := 32) h32; rw [beq_eq_false_iff_ne]; omega
          obtain ⟨D, hD⟩ : ∃ D, S.extract a S.size = D := ⟨_, rfl⟩
          have hDs : D.size = S.size - a := by rw [← hD, ByteArray.size_extract]; omega
          have hDl : D.data.toList = S.data.toList.drop a := by rw [← hD, drop_list]
          have HC := Lib.hid (one_any D (by omega) (by omega))
          have i0 : (a : Int) ≤ (S.size : Int) := by omega
          have HD := Lib.hid (And.intro hDl (And.intro hd (And.intro h32 hDs)))
          clear hDl hd h32 hDs
          go_wp2_with fail
          refine (HC.out _).mono ?_
          rintro e w1 ⟨x, n, rfl, hb1, hor⟩
          have HO := Lib.hid (Hw.out.1.on hb1)
          have HB := Lib.hid (Hw.out.2.trans (hb1.mono Hw.out.2.size))
          clear hb1
          obtain ⟨hDl, hd, h32, hDs⟩ := HD.out
          rw [hDl, hd] at hor
          have hdl : (S.data.toList.drop a).length = S.size - a := by rw [List.length_drop, len_list]
          obtain ⟨k0, s0, n0, f0, at0⟩ := x
          have hbA : Below w1.heap.size w1 ((w1.alloc (.cells #[.int .i64 k0, .string s0, .int .i64 n0, .float .f64 f0, .int .i64 (a : Nat)] 65)).alloc (.cells #[.int .i64 k0, .string s0, .int .i64 n0, .float .f64 f0, .int .i64 (a : Nat)] 65)) := ((Below.refl _ _).alloc (Nat.le_refl _) _).alloc (by simp) _
          rcases hor with ho | ⟨ho, rfl⟩
          rotate_left
          · have HT : Hid (rwO S.data.toList = ([], a, 110)) := Lib.hid (Hg.out.1.trans (rwGo_bad hd h32 ho))
            clear ho hd hDl h32 hDs hdl hbA
            go_wp2_with fail
            exact bodyPost_ret (v := .tuple #[.slice none 0 0, .int .i64 (a : Nat), .int .i64 110]) (by simp [results, Tryd.results26, go_sem]) rfl ⟨_, by rw [HT.out], .inr ⟨by rw [HT.out]; show (110 : Int) ≠ 0; decide, rfl⟩, HB.out.alloc HB.out.size _⟩
          · obtain ⟨ht1, ht2, -⟩ := oneR_tells ho
            rw [← hd, hdl] at ht2
            have dn : ((n : Int) == 0) = false := by rw [beq_eq_false_iff_ne]; omega
            by_cases hm : ws.length = 1500
            · have dm : ((ws.length : Int) == 1500) = true := by rw [beq_iff_eq]; omega
              have HT : Hid (rwO S.data.toList = ([], a, 3)) := Lib.hid (Hg.out.1.trans (rwGo_most hd h32 ho hm))
              clear ho hd hDl h32 hDs hdl hbA hm ht1 ht2
              go_wp2_with fail
              exact bodyPost_ret (v := .tuple #[.slice none 0 0, .int .i64 (a : Nat), .int .i64 3]) (by simp [results, Tryd.results26, go_sem]) rfl ⟨_, by rw [HT.out], .inr ⟨by rw [HT.out]; show (3 : Int) ≠ 0; decide, rfl⟩, HB.out.alloc HB.out.size _⟩
            · have dm : ((ws.length : Int) == 1500) = false := by rw [beq_eq_false_iff_ne]; omega
              have hws : ws.length + 1 ≤ 1500 := by omega
              have HT : Hid (rwO S.data.toList = rwGo S.data.toList fu (a + n) (ws ++ [⟨k0, s0, n0, f0, a⟩]) ∧ S.size + 1 ≤ a + n + fu) := Lib.hid ⟨Hg.out.1.trans (rwGo_go hd h32 ho hm), by have := Hg.out.2; omega⟩
              have hszA : ((w1.alloc (.cells #[.int .i64 k0, .string s0, .int .i64 n0, .float .f64 f0, .int .i64 (a : Nat)] 65)).alloc (.cells #[.int .i64 k0, .string s0, .int .i64 n0, .float .f64 f0, .int .i64 (a : Nat)] 65)).heap.size = w1.heap.size + 1 + 1 := by simp
              have hBw1 := HB.out.size
              obtain ⟨v', w2, hr, hown', hb2⟩ := OwnW.add (HO.out.on hbA) (by rw [hszA]; omega) (by omega) ⟨k0, s0, n0, f0, a⟩ ⟨w1.heap.size + 1, 0, none⟩ (fun j u hj => by
                have hc := (Blk.new (w1.alloc (.cells #[.int .i64 k0, .string s0, .int .i64 n0, .float .f64 f0, .int .i64 (a : Nat)] 65)) 65 #[.int .i64 k0, .string s0, .int .i64 n0, .float .f64 f0, .int .i64 (a : Nat)]).cell j
                rw [show (w1.alloc (.cells #[.int .i64 k0, .string s0, .int .i64 n0, .float .f64 f0, .int .i64 (a : Nat)] 65)).heap.size = w1.heap.size + 1 by simp] at hc
                rw [adr_add, Nat.zero_add, hc]
                simpa [wdC] using hj)
              obtain ⟨g, cap, hv', -⟩ := hown'.slice (by simp)
              subst hv'
              have HR := Lib.hid hr
              have HN : Hid (OwnW w.heap.size w2 (ws ++ [⟨k0, s0, n0, f0, a⟩]) (.slice (some ⟨g, 0, none⟩) (ws ++ [(⟨k0, s0, n0, f0, a⟩ : Wd)]).length cap) ∧ Below w.heap.size w w2) := Lib.hid ⟨hown', (HB.out.trans (hbA.mono hBw1)).trans hb2⟩
              clear hr hown' hb2 hbA hszA hBw1 ho hd hDl h32 hDs hdl hm
              go_wp2_with (at_builtin; refine Lib.wpList_append_run_sl _ rfl _ _ 59 rfl _ _ rfl rfl HR.out ?_)
              refine ⟨⟨a + n, fu, ws ++ [⟨k0, s0, n0, f0, a⟩], some ⟨g, 0, none⟩, cap, (by first | rfl | simp), (by first | rfl | go_num), by omega, by rw [List.length_append, List.length_singleton]; exact hws, HT, HN⟩, by simp [intOf]; omega⟩
      · have hlt1 : decide ((a : Int) < (S.size : Int)) = false := by rw [decide_eq_false_iff_not]; omega
        have HT : Hid (rwO S.data.toList = (ws ++ [⟨0, ⟨#[]⟩, 0, 0, S.size⟩], 0, 0)) := Lib.hid (Hg.out.1.trans (rwGo_end (list_none S a (by omega))))
        have hBw := Hw.out.2.size
        have hbA : Below wr.heap.size wr (wr.alloc (.cells #[.int .i64 0, .string ⟨#[]⟩, .int .i64 0, .float .f64 0, .int .i64 (S.size : Nat)] 65)) := (Below.refl _ _).alloc (Nat.le_refl _) _
        have hszA : (wr.alloc (.cells #[.int .i64 0, .string ⟨#[]⟩, .int .i64 0, .float .f64 0, .int .i64 (S.size : Nat)] 65)).heap.size = wr.heap.size + 1 := by simp
        obtain ⟨v', w2, hr, hown', hb2⟩ := OwnW.add (Hw.out.1.on hbA) (by rw [hszA]; omega) (by omega) ⟨0, ⟨#[]⟩, 0, 0, S.size⟩ ⟨wr.heap.size, 0, none⟩ (fun j u hj => by
          have hc := (Blk.new wr 65 #[.int .i64 0, .string ⟨#[]⟩, .int .i64 0, .float .f64 0, .int .i64 (S.size : Nat)]).cell j
          rw [adr_add, Nat.zero_add, hc]
          simpa [wdC] using hj)
        obtain ⟨g, cap, hv', hcap, hBg, hgl, hcl⟩ := hown'.slice (by simp)
        subst hv'
        have HR := Lib.hid hr
        have HF : Hid (IsWds w2 (.slice (some ⟨g, 0, none⟩) (ws ++ [(⟨0, ⟨#[]⟩, 0, 0, S.size⟩ : Wd)]).length cap) (ws ++ [⟨0, ⟨#[]⟩, 0, 0, S.size⟩]) ∧ Below w.heap.size w w2) := Lib.hid ⟨⟨g, cap, rfl, hcap, hgl, hcl⟩, (Hw.out.2.trans (hbA.mono hBw)).trans hb2⟩
        clear hr hown' hb2 hbA hszA hBw hcl hcap hBg hgl
        go_wp2_with (at_builtin; refine Lib.wpList_append_run_sl _ rfl _ _ 59 rfl _ _ rfl rfl HR.out ?_)
        refine bodyPost_ret (v := .tuple #[.slice (some ⟨g, 0, none⟩) (ws ++ [(⟨0, ⟨#[]⟩, 0, 0, S.size⟩ : Wd)]).length cap, .int .i64 0, .int .i64 0]) (by simp [results, Tryd.results26, go_sem]) rfl ⟨_, by rw [HT.out]; rfl, .inl ⟨by rw [HT.out], by rw [HT.out]; exact HF.out.1⟩, HF.out.2⟩

theorem rwGo_place (l : List UInt8) : ∀ (fu a : Nat) (acc : List Wd), (rwGo l fu a acc).2.2 = 0 → (rwGo l fu a acc).2.1 = 0
  | 0, _, _, _ => rfl
  | fu + 1, a, acc, h => by
    cases hd : l.drop a with
    | nil => rw [rwGo_end hd]
    | cons c r =>
      by_cases hc : c = 32
      · subst hc
        rw [rwGo_spc hd] at h ⊢
        exact rwGo_place l fu (a + 1) acc h
      · cases ho : oneR (c :: r) with
        | none => rw [rwGo_bad hd hc ho] at h; cases h
        | some v =>
          obtain ⟨x, n⟩ := v
          by_cases hm : acc.length = 1500
          · rw [rwGo_most hd hc ho hm] at h; cases h
          · rw [rwGo_go hd hc ho hm] at h ⊢
            exact rwGo_place l fu (a + n) _ h

theorem rwGo_good (l : List UInt8) : ∀ (fu a : Nat) (acc ws : List Wd), l.length ≤ 3000 → a ≤ l.length → acc.length ≤ 1500 → (∀ x ∈ acc, WdG 3000 x ∧ x.at_ ≤ 3000) → l.length + 1 ≤ a + fu → rwGo l fu a acc = (ws, 0, 0) →
    ∃ v, ws = v ++ [⟨0, ⟨#[]⟩, 0, 0, l.length⟩] ∧ v.length ≤ 1500 ∧ ∀ x ∈ v, WdG 3000 x ∧ x.at_ ≤ 3000
  | 0, a, acc, ws, _, h1, _, _, h, _ => by omega
  | fu + 1, a, acc, ws, h0, h1, h2, h3, h4, h => by
    cases hd : l.drop a with
    | nil =>
      rw [rwGo_end hd] at h
      injection h with h
      exact ⟨acc, h.symm, h2, h3⟩
    | cons c r =>
      have hl : a < l.length := by
        rcases Nat.lt_or_ge a l.length with h' | h'
        · exact h'
        · rw [List.drop_eq_nil_of_le h'] at hd; cases hd
      have hdl : (c :: r).length = l.length - a := by rw [← hd, List.length_drop]
      by_cases hc : c = 32
      · subst hc
        rw [rwGo_spc hd] at h
        exact rwGo_good l fu (a + 1) acc ws h0 hl h2 h3 (by omega) h
      · cases ho : oneR (c :: r) with
        | none => rw [rwGo_bad hd hc ho] at h; cases h
        | some v =>
          obtain ⟨x, n⟩ := v
          by_cases hm : acc.length = 1500
          · rw [rwGo_most hd hc ho hm] at h; cases h
          · rw [rwGo_go hd hc ho hm] at h
            obtain ⟨t1, t2, t3⟩ := oneR_tells ho
            refine rwGo_good l fu (a + n) _ ws h0 (by omega) (by rw [List.length_append, List.length_singleton]; omega) ?_ (by omega) h
            intro y hy
            rcases List.mem_append.1 hy with hy | hy
            · exact h3 y hy
            · rw [List.mem_singleton] at hy
              subst hy
              obtain ⟨g1, g2, g3, g4, g5, g6⟩ := t3
              exact ⟨⟨g1, g2, g3, g4, by show x.s.size ≤ 3000; omega, g6⟩, by show a ≤ 3000; omega⟩

theorem rwO_good {l : List UInt8} (h : (rwO l).2.2 = 0) : Gd (rwO l).1 ∧ CanW (rwO l).1 ∧ 0 < (rwO l).1.length := by
  unfold rwO at h ⊢
  split
  · rename_i h'
    rw [if_pos h'] at h; cases h
  · rename_i h'
    rw [if_neg h'] at h
    have h2 : (rwGo l (l.length + 1) 0 []).2.1 = 0 := rwGo_place l _ _ _ h
    obtain ⟨v, hv, hl, hx⟩ := rwGo_good l (l.length + 1) 0 [] (rwGo l (l.length + 1) 0 []).1 (by omega) (Nat.zero_le _) (by simp) (fun x h => by cases h) (by omega) (by
      generalize rwGo l (l.length + 1) 0 [] = q at h h2 ⊢
      obtain ⟨q1, q2, q3⟩ := q
      cases h; cases h2; rfl)
    rw [hv]
    refine ⟨⟨by rw [List.length_append, List.length_singleton]; omega, fun x hx' => ?_, fun x hx' => ?_⟩, fun x hx' hk => ?_, by simp⟩
    · rw [List.length_append, List.length_singleton, Nat.add_sub_cancel, List.getElem?_append_right (Nat.le_refl _), Nat.sub_self] at hx'
      injection hx' with hx'; subst hx'; rfl
    · rcases List.mem_append.1 hx' with hx' | hx'
      · obtain ⟨⟨g1, g2, g3, g4, g5, g6⟩, g7⟩ := hx x hx'
        exact ⟨by omega, g2, g3, g4, g5, g7⟩
      · rw [List.mem_singleton] at hx'
        subst hx'
        exact ⟨Int.le_refl _, by show (0 : Int) ≤ 5; decide, by show is64 0 = true; decide, by show (0 : Nat) < _; decide, Nat.zero_le _, by show l.length ≤ 3000; omega⟩
    · rcases List.mem_append.1 hx' with hx' | hx'
      · exact (hx x hx').1.2.2.2.2.2 hk
      · rw [List.mem_singleton] at hx'
        subst hx'; cases hk

end Go.Proofs.YtgmjhoppjjjilaaDoor
