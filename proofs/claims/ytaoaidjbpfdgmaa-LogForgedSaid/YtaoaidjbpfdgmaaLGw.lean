/- LogForged: the walk -/
import Derived.Test.YtaoaidjbpfdgmaaLFg
import Derived.Test.YtaoaidjbpfdgmaaLFo
import Derived.Test.YtaoaidjbpfdgmaaIntL
namespace Go.Proofs.Ytaoaidjbpfdgmaa
open Go.ChangeShapes Go.WideShapes Go.ChangeAt Go.RowKit

theorem u64_and7 (n : Int) : ∃ r : Nat, r ≤ 7 ∧ bits .and .u64 n 7 = r := by
  have h3 : (BitVec.ofInt 64 7).toNat = 2 ^ 3 - 1 := by decide
  have key : (BitVec.ofInt 64 n &&& BitVec.ofInt 64 7).toNat = (n % ((2 ^ 64 : Nat) : Int)).toNat % 2 ^ 3 := by
    rw [BitVec.toNat_and, BitVec.toNat_ofInt, h3, Nat.and_two_pow_sub_one_eq_mod]
  refine ⟨(n % ((2 ^ 64 : Nat) : Int)).toNat % 2 ^ 3, by omega, ?_⟩
  show IntKind.u64.wrap ((BitVec.ofInt 64 n &&& BitVec.ofInt 64 7).toNat : Nat) = _
  rw [key, IntKind.wrap_u64]
  omega

/-- 104 noughts in memory -/
def Z104 : Obj := .cells (Array.replicate 104 (Value.int .u8 0)) 5

theorem make_104 (W : World) : (Instr.makeSlice 64 (.int .i64 104) (.int .i64 104)).run Try.prog W = .ok (.slice (some ⟨W.heap.size, 0, none⟩) 104 104) (W.alloc Z104) := make_zeros 104 (by omega) W

theorem conv_gen {W : World} {b n : Nat} (h : W.heap[b]? = some (.cells (Array.replicate n (Value.int .u8 0)) 5)) :
    (convert 64 9 (.slice (some ⟨b, 0, none⟩) n n)).run Try.prog W = .ok (.string ⟨(List.replicate n (0 : UInt8)).toArray⟩) W := by
  have e : strOfNums (List.replicate n 0) = ⟨(List.replicate n (0 : UInt8)).toArray⟩ := by
    unfold strOfNums
    rw [List.map_replicate]; rfl
  rw [← e]
  refine run_convert_bytes_arg _ 64 5 Try.underlying64 Try.underlying5 b 0 n n (List.replicate n 0) (by simp) (fun i hi => ?_) 9 Try.underlying9
  rw [Nat.zero_add, cell_of_row _ _ _ _ _ _ h]
  have hi' : i < n := by simpa using hi
  simp [hi']

theorem conv_at : ∃ Q : Sec, Q.length = 104 ∧ ∀ (W : World) (b : Nat), W.heap[b]? = some Z104 → (convert 64 9 (.slice (some ⟨b, 0, none⟩) 104 104)).run Try.prog W = .ok (.string ⟨Q.toArray⟩) W :=
  ⟨List.replicate 104 0, List.length_replicate, fun _ _ h => conv_gen (n := 104) h⟩

theorem laid_first {w : World} {base : Nat} {v : Value} {n : Nat} {s : Sec} (h : Texts w base v (laidL n s)) : ∃ g c, v = .slice (some ⟨g, 0, none⟩) (laidL n s).length c ∧ 1 ≤ (laidL n s).length ∧ w.cell? ⟨g, 0, none⟩ = some (.string ⟨(headS n s).toArray⟩) := by
  have hp := sectN_pos s.length
  have hl : 1 ≤ (laidL n s).length := by unfold laidL; rw [List.length_map, List.length_range]; exact hp
  obtain ⟨A, cap, hv, -, hx⟩ := h.form
  obtain ⟨g, rfl, -, hy⟩ := hx (by intro e; rw [e] at hl; simp at hl)
  refine ⟨g, cap, hv, hl, hy 0 _ ?_⟩
  unfold laidL
  rw [List.getElem?_map, List.getElem?_range hp]
  rfl

def forgedT : Sec := [102, 111, 114, 103, 101, 100]

theorem forged_meas (i : Nat) (h : i < 3) : 3 - ((i : Int) + 1).toNat < 3 - (i : Int).toNat := by omega

theorem lg_keep {W w w' : World} {g : Nat} {x : Value} (hb : Below w.heap.size w w') (H : w.cell? ⟨g, 0, none⟩ = some x ∧ Below W.heap.size W w) : w'.cell? ⟨g, 0, none⟩ = some x ∧ Below W.heap.size W w' :=
  ⟨(hb.cell (World.cell_lt H.1)).trans H.1, H.2.trans (hb.mono H.2.size)⟩

set_option linter.unusedSimpArgs false in
set_option linter.unusedVariables false in
set_option maxRecDepth 100000 in
set_option maxHeartbeats 8000000 in
theorem lforged_walk (v0 : Value) (L : List Sec) (number torn : Int) (w : World) (hL : InT w v0 L) :
    Calls Try.prog 9 #[v0, .int .u64 number, .int .i64 torn] w fun e w' => e = .returned (.bool true) ∧ Below w.heap.size w w' := by
  obtain ⟨A0, cap0, rfl, -, hx0⟩ := hL.seen.form
  have HX0 := Lib.hid hx0
  obtain ⟨r, hr, er⟩ := u64_and7 number
  have HR := Lib.hid hr
  have hN := nk_new (n := fun k => w.heap.size ≤ k) (a := w) w 40 (by omega) (Only.refl _ _) (fun k hk => hk)
  rw [show ((40 : Nat) : Int) = 40 from rfl] at hN
  have HAW := Lib.hid awake4
  clear hL hx0 hr
  go_enter Try.func9, Try.ntmps9
  go_wp2_with fail
  refine hN.mono ?_
  rintro e w0 ⟨rfl, h⟩
  clear hN
  go_wp2_with fail
  have hc := open_any h rfl 0 40 (by omega) (by rw [new_len]; omega) 1 (by decide) (by decide) h.below.size
  rw [open_new (by show 40 ≤ 40; omega)] at hc
  refine hc.mono ?_
  clear hc; rintro e w1 ⟨vv, rfl, h1⟩
  generalize w0.heap.size = G at h1 ⊢
  have H1 := Lib.hid h1
  clear h h1
  go_wp2_with (first
    | (go_at_call 16; (with_reducible refine (HAW.out _).mono ?_); rintro e w2 ⟨rfl, hb2⟩; have h2 := H1.out.on hb2; clear hb2)
    | fail)
  go_loopw [12, 13] (fun sf si wr => ∃ (i : Nat) (X : Sec), i ≤ 3 ∧ i ≤ L.length ∧ sf = .string ⟨X.toArray⟩ ∧ Hid (X.length ≤ 360 * i) ∧ si = .int .i64 (i : Int) ∧ Hid (LT (fun k => w.heap.size ≤ k) w wr G (w.heap.size + 2) w.heap.size (w.heap.size + 1) (newD 40) ⟨0, 40, 0, 1⟩ vv [])) (fun _ si _ => 3 - (intOf si).toNat)
  case atStart => exact ⟨0, [], by decide, Nat.zero_le _, rfl, Lib.hid (Nat.le_refl _), rfl, Lib.hid h2⟩
  case round =>
    obtain ⟨i, X, hi3, hiL, rfl, HXL, rfl, HT⟩ := hrel
    clear h2 H1
    by_cases hgo : i < L.length ∧ i < 3
    · obtain ⟨hg1, hg2⟩ := hgo
      have z1 : (i : Int) < (L.length : Int) := by omega
      obtain ⟨b, o, eA, c0⟩ := HX0.out i L[i] (List.getElem?_eq_getElem hg1)
      subst eA
      have c00 := cell_below (HT.out.ld.now.below.below (Nat.le_refl _) (fun k hk => hk)) c0
      clear c0
      have hs5 : (L[i].take 500).length ≤ 500 := by rw [List.length_take]; omega
      have HFW := Lib.hid (fun W => few_any L[i] W)
      generalize L[i] = s0 at c00 HFW hs5
      generalize s0.take 500 = s at HFW hs5
      have HS5 := Lib.hid hs5
      have hm10 : r + i ≤ 10 := by have := HR.out; omega
      have hinc : wrap64 ((i : Int) + 1) = (i : Int) + 1 := w64 (by omega) (by omega)
      obtain ⟨m, hm⟩ : ∃ m, r + i = m := ⟨_, rfl⟩
      obtain ⟨m1, hm1⟩ : ∃ m1, m + 1 = m1 := ⟨_, rfl⟩
      have u1 : IntKind.u64.wrap (i : Int) = (i : Int) := IntWalk.u64_in _ (by omega)
      have u2 : IntKind.u64.wrap ((r : Int) + (i : Int)) = (m : Int) := by rw [IntWalk.u64_in _ (by omega)]; omega
      have u3 : IntKind.u64.wrap ((m : Int) + 1) = (m1 : Int) := by rw [IntWalk.u64_in _ (by omega)]; omega
      have HM := Lib.hid (forged_meas i hg2)
      have HINC := Lib.hid hinc
      have HLA := Lib.hid (fun wn => laid_any m (by omega) s (by omega) wn)
      have HLB : Hid (∀ wn, Calls Try.prog 22 #[.int .u64 m1, .string ⟨#[102, 111, 114, 103, 101, 100]⟩] wn fun e w' => ∃ v, e = .returned v ∧ TB wn v (laidL m1 forgedT) w') := Lib.hid (fun wn => laid_any m1 (by omega) forgedT (by decide) wn)
      obtain ⟨Q, hQ, HQ⟩ := conv_at
      have HQ' := Lib.hid HQ; clear HQ
      have hh1 : (headS m s).length = 128 := headS_len
      have hh2 : (headS m1 forgedT).length = 128 := headS_len
      clear hm hm1
      have HXX := HXL.out
      have a1 : ∀ W, (Op.stringOp .add ⟨(Q).toArray⟩ ⟨(headS m s).toArray⟩).run Try.prog W = .ok (.string ⟨(Q ++ headS m s).toArray⟩) W := fun W => by
        rw [run_string_add W _ _ (by rw [str_size, hQ]; omega) (by rw [str_size]; omega), str_cat]
      have a2 : ∀ W, (Op.stringOp .add ⟨(Q ++ headS m s).toArray⟩ ⟨(headS m1 forgedT).toArray⟩).run Try.prog W = .ok (.string ⟨(Q ++ headS m s ++ headS m1 forgedT).toArray⟩) W := fun W => by
        rw [run_string_add W _ _ (by rw [str_size, List.length_append, hQ]; omega) (by rw [str_size]; omega), str_cat]
      have a3 : ∀ W, (Op.stringOp .add ⟨X.toArray⟩ ⟨(Q ++ headS m s ++ headS m1 forgedT).toArray⟩).run Try.prog W = .ok (.string ⟨(X ++ (Q ++ headS m s ++ headS m1 forgedT)).toArray⟩) W := fun W => by
        rw [run_string_add W _ _ (by rw [str_size]; omega) (by rw [str_size, List.length_append, List.length_append, hQ]; omega), str_cat]
      have HX2 : Hid ((X ++ (Q ++ headS m s ++ headS m1 forgedT)).length ≤ 360 * (i + 1)) := Lib.hid (by rw [List.length_append, List.length_append, List.length_append, hQ]; omega)
      clear hs5 hinc hh1 hh2 HXX hm10 hQ
      generalize X ++ (Q ++ headS m s ++ headS m1 forgedT) = X2 at a3 HX2
      generalize Q ++ headS m s ++ headS m1 forgedT = z2 at a2 a3
      generalize Q ++ headS m s = z1' at a1 a2
      have hmk := make_104
      go_upto_region 11 with (first
        | (go_at_call 18; (with_reducible refine (HFW.out _).mono ?_); rintro e w5 ⟨rfl, rfl⟩)
        | (go_at_call 22; (with_reducible refine (HLA.out _).mono ?_); rintro e w7 ⟨v7, rfl, hl7⟩)
        | fail)
      have hT7 := HT.out.on hl7.below
      obtain ⟨g7, c7, rfl, hn7, q7⟩ := laid_first hl7.texts
      have HT7 := Lib.hid hT7
      clear hl7 hT7 c00
      obtain ⟨n7, hn7e⟩ : ∃ n7, (laidL m s).length = n7 := ⟨_, rfl⟩
      rw [hn7e] at hn7 ⊢
      clear hn7e
      have hn7' : 0 < n7 := hn7
      have hcvA := fun W : World => HQ'.out (W.alloc Z104) W.heap.size (heap_alloc_new W _)
      have hcvB := fun W : World => HQ'.out (W.alloc Z104).drew W.heap.size (heap_alloc_new W _)
      refine wp_region_held_drew (S := (fun w' => w'.cell? ⟨g7, 0, none⟩ = some (.string ⟨(headS m s).toArray⟩) ∧ Below w7.heap.size w7 w')) (by kernel_rfl) (lg_keep ((Below.refl w7.heap.size w7).drew) ⟨q7, Below.refl _ _⟩) (fun hHeld => ?_)
      refine wpAnyH_take (i := 0) (v := .string ⟨X.toArray⟩) rfl (by kernel_rfl) (by kernel_rfl) (by kernel_rfl) (fun _ _ _ h => h) (Or.inl ⟨by rfl, fun wq hq => ?_⟩) hHeld ?_
      · obtain ⟨hq1, hq2⟩ := hq
        go_simp
      (try simp only [Act.put, List.setIfInBounds_toArray, List.set_cons_zero, List.set_cons_succ])
      refine wpAnyH_take (i := 3) (v := .slice (some ⟨g7, 0, none⟩) n7 c7) rfl (by kernel_rfl) (by kernel_rfl) (by kernel_rfl) (fun _ _ _ h => h) (Or.inl ⟨by rfl, fun wq hq => ?_⟩) hHeld ?_
      · obtain ⟨hq1, hq2⟩ := hq
        go_simp
      (try simp only [Act.put, List.setIfInBounds_toArray, List.set_cons_zero, List.set_cons_succ])
      refine wpAnyH_take (i := 4) (v := .pointer (some ⟨g7, 0, none⟩)) rfl (by kernel_rfl) (by kernel_rfl) (by kernel_rfl) (fun _ _ _ h => h) (Or.inl ⟨by rfl, fun wq hq => ?_⟩) hHeld ?_
      · obtain ⟨hq1, hq2⟩ := hq
        go_simp
      (try simp only [Act.put, List.setIfInBounds_toArray, List.set_cons_zero, List.set_cons_succ])
      refine wpAnyH_take (i := 5) (v := .string ⟨(headS m s).toArray⟩) rfl (by kernel_rfl) (by kernel_rfl) (by kernel_rfl) (fun _ _ _ h => h) (Or.inl ⟨by rfl, fun wq hq => ?_⟩) hHeld ?_
      · obtain ⟨hq1, hq2⟩ := hq
        go_simp
      (try simp only [Act.put, List.setIfInBounds_toArray, List.set_cons_zero, List.set_cons_succ])
      refine wpAnyH_take (i := 7) (v := .int .u64 m) rfl (by kernel_rfl) (by kernel_rfl) (by kernel_rfl) (fun _ _ _ h => h) (Or.inl ⟨by rfl, fun wq hq => ?_⟩) hHeld ?_
      · obtain ⟨hq1, hq2⟩ := hq
        go_simp
      (try simp only [Act.put, List.setIfInBounds_toArray, List.set_cons_zero, List.set_cons_succ])
      refine wpAnyH_take (i := 8) (v := .int .u64 m1) rfl (by kernel_rfl) (by kernel_rfl) (by kernel_rfl) (fun _ _ _ h => h) (Or.inl ⟨by rfl, fun wq hq => ?_⟩) hHeld ?_
      · obtain ⟨hq1, hq2⟩ := hq
        go_simp
      (try simp only [Act.put, List.setIfInBounds_toArray, List.set_cons_zero, List.set_cons_succ])
      refine wpAnyH_ready (rs := [1, 9]) (by kernel_rfl) (by simp) ?_
      refine AllReadyH.cons rfl (fun K hK => ?_) ?_
      · go_simp
        refine hK.out _ _ (lg_keep (((Below.refl w7.heap.size w7).alloc (Nat.le_refl _) _).drew) ⟨q7, Below.refl _ _⟩) (fun hHeld => ?_)
        clear hK K
        (try simp only [Act.put, List.setIfInBounds_toArray, List.set_cons_zero, List.set_cons_succ])
        refine wpAnyH_ready (rs := [2, 9]) (by kernel_rfl) (by simp) ?_
        refine AllReadyH.cons rfl (fun K hK => ?_) ?_
        · go_simp
          refine hK.out _ _ (lg_keep (((Below.refl w7.heap.size w7).alloc (Nat.le_refl _) _).drew) ⟨q7, Below.refl _ _⟩) (fun hHeld => ?_)
          clear hK K
          (try simp only [Act.put, List.setIfInBounds_toArray, List.set_cons_zero, List.set_cons_succ])
          refine wpAnyH_take (i := 6) (v := .string ⟨z1'.toArray⟩) rfl (by kernel_rfl) (by kernel_rfl) (by kernel_rfl) (fun _ _ _ h => h) (Or.inl ⟨by rfl, fun wq hq => ?_⟩) hHeld ?_
          · obtain ⟨hq1, hq2⟩ := hq
            go_simp
          (try simp only [Act.put, List.setIfInBounds_toArray, List.set_cons_zero, List.set_cons_succ])
          refine wpAnyH_ready (rs := [9]) (by kernel_rfl) (by simp) ?_
          refine AllReadyH.cons rfl (fun K hK => ?_) ?_
          · go_simp
            go_at_call 22
            (with_reducible refine (HLB.out _).mono ?_)
            rintro e w8 ⟨v8, rfl, hl8⟩
            obtain ⟨g8, c8, rfl, hn8, q8⟩ := laid_first hl8.texts
            have hn8' : 0 < (laidL m1 forgedT).length := hn8
            have hb8 := hl8.below
            have q88 := fun o => ((Below.refl w8.heap.size w8).alloc (Nat.le_refl _) o).cell (p := ⟨g8, 0, none⟩) (World.cell_lt q8) |>.trans q8
            have hS8 := lg_keep (W := w7) (g := g7) (x := .string ⟨(headS m s).toArray⟩) hb8 (lg_keep (((Below.refl w7.heap.size w7).alloc (Nat.le_refl _) _).drew) ⟨q7, Below.refl _ _⟩)
            have hz8 := HQ'.out w8 w7.heap.size ((hb8.block _ (by simp)).trans (heap_alloc_new _ _))
            clear hl8 hb8
            go_wp2_with fail
            refine hK.out _ _ (hS8) (fun hHeld => ?_)
            clear hK K
            (try simp only [Act.put, List.setIfInBounds_toArray, List.set_cons_zero, List.set_cons_succ])
            refine wpAnyH_take (i := 10) (v := .pointer (some ⟨g8, 0, none⟩)) rfl (by kernel_rfl) (by kernel_rfl) (by kernel_rfl) (fun _ _ _ h => h) (Or.inl ⟨by rfl, fun wq hq => ?_⟩) hHeld ?_
            · obtain ⟨hq1, hq2⟩ := hq
              go_simp
            (try simp only [Act.put, List.setIfInBounds_toArray, List.set_cons_zero, List.set_cons_succ])
            refine wpAnyH_ready (rs := [11]) (by kernel_rfl) (by simp) ?_
            refine AllReadyH.cons rfl (fun K hK => ?_) ?_
            · go_simp
              refine hK.out _ _ (hS8) (fun hHeld => ?_)
              clear hK K
              (try simp only [Act.put, List.setIfInBounds_toArray, List.set_cons_zero, List.set_cons_succ])
              refine wpAnyH_take (i := 12) (v := .string ⟨z2.toArray⟩) rfl (by kernel_rfl) (by kernel_rfl) (by kernel_rfl) (fun _ _ _ h => h) (Or.inl ⟨by rfl, fun wq hq => ?_⟩) hHeld ?_
              · obtain ⟨hq1, hq2⟩ := hq
                go_simp
              (try simp only [Act.put, List.setIfInBounds_toArray, List.set_cons_zero, List.set_cons_succ])
              refine wpAnyH_take (i := 13) (v := .string ⟨X2.toArray⟩) rfl (by kernel_rfl) (by kernel_rfl) (by kernel_rfl) (fun _ _ _ h => h) (Or.inl ⟨by rfl, fun wq hq => ?_⟩) hHeld ?_
              · obtain ⟨hq1, hq2⟩ := hq
                go_simp
              (try simp only [Act.put, List.setIfInBounds_toArray, List.set_cons_zero, List.set_cons_succ])
              refine wpAnyH_take (i := 14) (v := .string ⟨X2.toArray⟩) rfl (by kernel_rfl) (by kernel_rfl) (by kernel_rfl) (fun _ _ _ h => h) (Or.inl ⟨by rfl, fun wq hq => ?_⟩) hHeld ?_
              · obtain ⟨hq1, hq2⟩ := hq
                go_simp
              (try simp only [Act.put, List.setIfInBounds_toArray, List.set_cons_zero, List.set_cons_succ])
              refine wpAnyH_done (by kernel_rfl) ?_ _
              go_wp2_with fail
              have hinc := HINC.out
              go_roundw
              case rel => exact ⟨i + 1, X2, hg2, hg1, rfl, HX2, rfl, Lib.hid (HT7.out.on hHeld.2)⟩
              case measure =>
                (try rw [hinc])
                exact HM.out
            exact AllReadyH.nil
          exact AllReadyH.nil
        refine AllReadyH.cons rfl (fun K hK => ?_) ?_
        · go_simp
          go_at_call 22
          (with_reducible refine (HLB.out _).mono ?_)
          rintro e w8 ⟨v8, rfl, hl8⟩
          obtain ⟨g8, c8, rfl, hn8, q8⟩ := laid_first hl8.texts
          have hn8' : 0 < (laidL m1 forgedT).length := hn8
          have hb8 := hl8.below
          have q88 := fun o => ((Below.refl w8.heap.size w8).alloc (Nat.le_refl _) o).cell (p := ⟨g8, 0, none⟩) (World.cell_lt q8) |>.trans q8
          have hS8 := lg_keep (W := w7) (g := g7) (x := .string ⟨(headS m s).toArray⟩) hb8 (lg_keep (((Below.refl w7.heap.size w7).alloc (Nat.le_refl _) _).drew) ⟨q7, Below.refl _ _⟩)
          have hz8 := HQ'.out w8 w7.heap.size ((hb8.block _ (by simp)).trans (heap_alloc_new _ _))
          clear hl8 hb8
          go_wp2_with fail
          refine hK.out _ _ (hS8) (fun hHeld => ?_)
          clear hK K
          (try simp only [Act.put, List.setIfInBounds_toArray, List.set_cons_zero, List.set_cons_succ])
          refine wpAnyH_take (i := 10) (v := .pointer (some ⟨g8, 0, none⟩)) rfl (by kernel_rfl) (by kernel_rfl) (by kernel_rfl) (fun _ _ _ h => h) (Or.inl ⟨by rfl, fun wq hq => ?_⟩) hHeld ?_
          · obtain ⟨hq1, hq2⟩ := hq
            go_simp
          (try simp only [Act.put, List.setIfInBounds_toArray, List.set_cons_zero, List.set_cons_succ])
          refine wpAnyH_ready (rs := [2, 11]) (by kernel_rfl) (by simp) ?_
          refine AllReadyH.cons rfl (fun K hK => ?_) ?_
          · go_simp
            refine hK.out _ _ (hS8) (fun hHeld => ?_)
            clear hK K
            (try simp only [Act.put, List.setIfInBounds_toArray, List.set_cons_zero, List.set_cons_succ])
            refine wpAnyH_take (i := 6) (v := .string ⟨z1'.toArray⟩) rfl (by kernel_rfl) (by kernel_rfl) (by kernel_rfl) (fun _ _ _ h => h) (Or.inl ⟨by rfl, fun wq hq => ?_⟩) hHeld ?_
            · obtain ⟨hq1, hq2⟩ := hq
              go_simp
            (try simp only [Act.put, List.setIfInBounds_toArray, List.set_cons_zero, List.set_cons_succ])
            refine wpAnyH_ready (rs := [11]) (by kernel_rfl) (by simp) ?_
            refine AllReadyH.cons rfl (fun K hK => ?_) ?_
            · go_simp
              refine hK.out _ _ (hS8) (fun hHeld => ?_)
              clear hK K
              (try simp only [Act.put, List.setIfInBounds_toArray, List.set_cons_zero, List.set_cons_succ])
              refine wpAnyH_take (i := 12) (v := .string ⟨z2.toArray⟩) rfl (by kernel_rfl) (by kernel_rfl) (by kernel_rfl) (fun _ _ _ h => h) (Or.inl ⟨by rfl, fun wq hq => ?_⟩) hHeld ?_
              · obtain ⟨hq1, hq2⟩ := hq
                go_simp
              (try simp only [Act.put, List.setIfInBounds_toArray, List.set_cons_zero, List.set_cons_succ])
              refine wpAnyH_take (i := 13) (v := .string ⟨X2.toArray⟩) rfl (by kernel_rfl) (by kernel_rfl) (by kernel_rfl) (fun _ _ _ h => h) (Or.inl ⟨by rfl, fun wq hq => ?_⟩) hHeld ?_
              · obtain ⟨hq1, hq2⟩ := hq
                go_simp
              (try simp only [Act.put, List.setIfInBounds_toArray, List.set_cons_zero, List.set_cons_succ])
              refine wpAnyH_take (i := 14) (v := .string ⟨X2.toArray⟩) rfl (by kernel_rfl) (by kernel_rfl) (by kernel_rfl) (fun _ _ _ h => h) (Or.inl ⟨by rfl, fun wq hq => ?_⟩) hHeld ?_
              · obtain ⟨hq1, hq2⟩ := hq
                go_simp
              (try simp only [Act.put, List.setIfInBounds_toArray, List.set_cons_zero, List.set_cons_succ])
              refine wpAnyH_done (by kernel_rfl) ?_ _
              go_wp2_with fail
              have hinc := HINC.out
              go_roundw
              case rel => exact ⟨i + 1, X2, hg2, hg1, rfl, HX2, rfl, Lib.hid (HT7.out.on hHeld.2)⟩
              case measure =>
                (try rw [hinc])
                exact HM.out
            exact AllReadyH.nil
          refine AllReadyH.cons rfl (fun K hK => ?_) ?_
          · go_simp
            refine hK.out _ _ (hS8) (fun hHeld => ?_)
            clear hK K
            (try simp only [Act.put, List.setIfInBounds_toArray, List.set_cons_zero, List.set_cons_succ])
            refine wpAnyH_ready (rs := [2]) (by kernel_rfl) (by simp) ?_
            refine AllReadyH.cons rfl (fun K hK => ?_) ?_
            · go_simp
              refine hK.out _ _ (hS8) (fun hHeld => ?_)
              clear hK K
              (try simp only [Act.put, List.setIfInBounds_toArray, List.set_cons_zero, List.set_cons_succ])
              refine wpAnyH_take (i := 6) (v := .string ⟨z1'.toArray⟩) rfl (by kernel_rfl) (by kernel_rfl) (by kernel_rfl) (fun _ _ _ h => h) (Or.inl ⟨by rfl, fun wq hq => ?_⟩) hHeld ?_
              · obtain ⟨hq1, hq2⟩ := hq
                go_simp
              (try simp only [Act.put, List.setIfInBounds_toArray, List.set_cons_zero, List.set_cons_succ])
              refine wpAnyH_take (i := 12) (v := .string ⟨z2.toArray⟩) rfl (by kernel_rfl) (by kernel_rfl) (by kernel_rfl) (fun _ _ _ h => h) (Or.inl ⟨by rfl, fun wq hq => ?_⟩) hHeld ?_
              · obtain ⟨hq1, hq2⟩ := hq
                go_simp
              (try simp only [Act.put, List.setIfInBounds_toArray, List.set_cons_zero, List.set_cons_succ])
              refine wpAnyH_take (i := 13) (v := .string ⟨X2.toArray⟩) rfl (by kernel_rfl) (by kernel_rfl) (by kernel_rfl) (fun _ _ _ h => h) (Or.inl ⟨by rfl, fun wq hq => ?_⟩) hHeld ?_
              · obtain ⟨hq1, hq2⟩ := hq
                go_simp
              (try simp only [Act.put, List.setIfInBounds_toArray, List.set_cons_zero, List.set_cons_succ])
              refine wpAnyH_take (i := 14) (v := .string ⟨X2.toArray⟩) rfl (by kernel_rfl) (by kernel_rfl) (by kernel_rfl) (fun _ _ _ h => h) (Or.inl ⟨by rfl, fun wq hq => ?_⟩) hHeld ?_
              · obtain ⟨hq1, hq2⟩ := hq
                go_simp
              (try simp only [Act.put, List.setIfInBounds_toArray, List.set_cons_zero, List.set_cons_succ])
              refine wpAnyH_done (by kernel_rfl) ?_ _
              go_wp2_with fail
              have hinc := HINC.out
              go_roundw
              case rel => exact ⟨i + 1, X2, hg2, hg1, rfl, HX2, rfl, Lib.hid (HT7.out.on hHeld.2)⟩
              case measure =>
                (try rw [hinc])
                exact HM.out
            exact AllReadyH.nil
          exact AllReadyH.nil
        exact AllReadyH.nil
      refine AllReadyH.cons rfl (fun K hK => ?_) ?_
      · go_simp
        go_at_call 22
        (with_reducible refine (HLB.out _).mono ?_)
        rintro e w8 ⟨v8, rfl, hl8⟩
        obtain ⟨g8, c8, rfl, hn8, q8⟩ := laid_first hl8.texts
        have hn8' : 0 < (laidL m1 forgedT).length := hn8
        have hb8 := hl8.below
        have q88 := fun o => ((Below.refl w8.heap.size w8).alloc (Nat.le_refl _) o).cell (p := ⟨g8, 0, none⟩) (World.cell_lt q8) |>.trans q8
        have hS8 := lg_keep (W := w7) (g := g7) (x := .string ⟨(headS m s).toArray⟩) hb8 (lg_keep ((Below.refl w7.heap.size w7).drew) ⟨q7, Below.refl _ _⟩)
        clear hl8 hb8
        go_wp2_with fail
        refine hK.out _ _ (hS8) (fun hHeld => ?_)
        clear hK K
        (try simp only [Act.put, List.setIfInBounds_toArray, List.set_cons_zero, List.set_cons_succ])
        refine wpAnyH_take (i := 10) (v := .pointer (some ⟨g8, 0, none⟩)) rfl (by kernel_rfl) (by kernel_rfl) (by kernel_rfl) (fun _ _ _ h => h) (Or.inl ⟨by rfl, fun wq hq => ?_⟩) hHeld ?_
        · obtain ⟨hq1, hq2⟩ := hq
          go_simp
        (try simp only [Act.put, List.setIfInBounds_toArray, List.set_cons_zero, List.set_cons_succ])
        refine wpAnyH_ready (rs := [1, 11]) (by kernel_rfl) (by simp) ?_
        refine AllReadyH.cons rfl (fun K hK => ?_) ?_
        · go_simp
          refine hK.out _ _ (lg_keep ((Below.refl w8.heap.size w8).alloc (Nat.le_refl _) _) hS8) (fun hHeld => ?_)
          clear hK K
          (try simp only [Act.put, List.setIfInBounds_toArray, List.set_cons_zero, List.set_cons_succ])
          refine wpAnyH_ready (rs := [2, 11]) (by kernel_rfl) (by simp) ?_
          refine AllReadyH.cons rfl (fun K hK => ?_) ?_
          · go_simp
            refine hK.out _ _ (lg_keep ((Below.refl w8.heap.size w8).alloc (Nat.le_refl _) _) hS8) (fun hHeld => ?_)
            clear hK K
            (try simp only [Act.put, List.setIfInBounds_toArray, List.set_cons_zero, List.set_cons_succ])
            refine wpAnyH_take (i := 6) (v := .string ⟨z1'.toArray⟩) rfl (by kernel_rfl) (by kernel_rfl) (by kernel_rfl) (fun _ _ _ h => h) (Or.inl ⟨by rfl, fun wq hq => ?_⟩) hHeld ?_
            · obtain ⟨hq1, hq2⟩ := hq
              go_simp
            (try simp only [Act.put, List.setIfInBounds_toArray, List.set_cons_zero, List.set_cons_succ])
            refine wpAnyH_ready (rs := [11]) (by kernel_rfl) (by simp) ?_
            refine AllReadyH.cons rfl (fun K hK => ?_) ?_
            · go_simp
              refine hK.out _ _ (lg_keep ((Below.refl w8.heap.size w8).alloc (Nat.le_refl _) _) hS8) (fun hHeld => ?_)
              clear hK K
              (try simp only [Act.put, List.setIfInBounds_toArray, List.set_cons_zero, List.set_cons_succ])
              refine wpAnyH_take (i := 12) (v := .string ⟨z2.toArray⟩) rfl (by kernel_rfl) (by kernel_rfl) (by kernel_rfl) (fun _ _ _ h => h) (Or.inl ⟨by rfl, fun wq hq => ?_⟩) hHeld ?_
              · obtain ⟨hq1, hq2⟩ := hq
                go_simp
              (try simp only [Act.put, List.setIfInBounds_toArray, List.set_cons_zero, List.set_cons_succ])
              refine wpAnyH_take (i := 13) (v := .string ⟨X2.toArray⟩) rfl (by kernel_rfl) (by kernel_rfl) (by kernel_rfl) (fun _ _ _ h => h) (Or.inl ⟨by rfl, fun wq hq => ?_⟩) hHeld ?_
              · obtain ⟨hq1, hq2⟩ := hq
                go_simp
              (try simp only [Act.put, List.setIfInBounds_toArray, List.set_cons_zero, List.set_cons_succ])
              refine wpAnyH_take (i := 14) (v := .string ⟨X2.toArray⟩) rfl (by kernel_rfl) (by kernel_rfl) (by kernel_rfl) (fun _ _ _ h => h) (Or.inl ⟨by rfl, fun wq hq => ?_⟩) hHeld ?_
              · obtain ⟨hq1, hq2⟩ := hq
                go_simp
              (try simp only [Act.put, List.setIfInBounds_toArray, List.set_cons_zero, List.set_cons_succ])
              refine wpAnyH_done (by kernel_rfl) ?_ _
              go_wp2_with fail
              have hinc := HINC.out
              go_roundw
              case rel => exact ⟨i + 1, X2, hg2, hg1, rfl, HX2, rfl, Lib.hid (HT7.out.on hHeld.2)⟩
              case measure =>
                (try rw [hinc])
                exact HM.out
            exact AllReadyH.nil
          refine AllReadyH.cons rfl (fun K hK => ?_) ?_
          · go_simp
            refine hK.out _ _ (lg_keep ((Below.refl w8.heap.size w8).alloc (Nat.le_refl _) _) hS8) (fun hHeld => ?_)
            clear hK K
            (try simp only [Act.put, List.setIfInBounds_toArray, List.set_cons_zero, List.set_cons_succ])
            refine wpAnyH_ready (rs := [2]) (by kernel_rfl) (by simp) ?_
            refine AllReadyH.cons rfl (fun K hK => ?_) ?_
            · go_simp
              refine hK.out _ _ (lg_keep ((Below.refl w8.heap.size w8).alloc (Nat.le_refl _) _) hS8) (fun hHeld => ?_)
              clear hK K
              (try simp only [Act.put, List.setIfInBounds_toArray, List.set_cons_zero, List.set_cons_succ])
              refine wpAnyH_take (i := 6) (v := .string ⟨z1'.toArray⟩) rfl (by kernel_rfl) (by kernel_rfl) (by kernel_rfl) (fun _ _ _ h => h) (Or.inl ⟨by rfl, fun wq hq => ?_⟩) hHeld ?_
              · obtain ⟨hq1, hq2⟩ := hq
                go_simp
              (try simp only [Act.put, List.setIfInBounds_toArray, List.set_cons_zero, List.set_cons_succ])
              refine wpAnyH_take (i := 12) (v := .string ⟨z2.toArray⟩) rfl (by kernel_rfl) (by kernel_rfl) (by kernel_rfl) (fun _ _ _ h => h) (Or.inl ⟨by rfl, fun wq hq => ?_⟩) hHeld ?_
              · obtain ⟨hq1, hq2⟩ := hq
                go_simp
              (try simp only [Act.put, List.setIfInBounds_toArray, List.set_cons_zero, List.set_cons_succ])
              refine wpAnyH_take (i := 13) (v := .string ⟨X2.toArray⟩) rfl (by kernel_rfl) (by kernel_rfl) (by kernel_rfl) (fun _ _ _ h => h) (Or.inl ⟨by rfl, fun wq hq => ?_⟩) hHeld ?_
              · obtain ⟨hq1, hq2⟩ := hq
                go_simp
              (try simp only [Act.put, List.setIfInBounds_toArray, List.set_cons_zero, List.set_cons_succ])
              refine wpAnyH_take (i := 14) (v := .string ⟨X2.toArray⟩) rfl (by kernel_rfl) (by kernel_rfl) (by kernel_rfl) (fun _ _ _ h => h) (Or.inl ⟨by rfl, fun wq hq => ?_⟩) hHeld ?_
              · obtain ⟨hq1, hq2⟩ := hq
                go_simp
              (try simp only [Act.put, List.setIfInBounds_toArray, List.set_cons_zero, List.set_cons_succ])
              refine wpAnyH_done (by kernel_rfl) ?_ _
              go_wp2_with fail
              have hinc := HINC.out
              go_roundw
              case rel => exact ⟨i + 1, X2, hg2, hg1, rfl, HX2, rfl, Lib.hid (HT7.out.on hHeld.2)⟩
              case measure =>
                (try rw [hinc])
                exact HM.out
            exact AllReadyH.nil
          exact AllReadyH.nil
        refine AllReadyH.cons rfl (fun K hK => ?_) ?_
        · go_simp
          refine hK.out _ _ (hS8) (fun hHeld => ?_)
          clear hK K
          (try simp only [Act.put, List.setIfInBounds_toArray, List.set_cons_zero, List.set_cons_succ])
          refine wpAnyH_ready (rs := [1]) (by kernel_rfl) (by simp) ?_
          refine AllReadyH.cons rfl (fun K hK => ?_) ?_
          · go_simp
            refine hK.out _ _ (lg_keep ((Below.refl w8.heap.size w8).alloc (Nat.le_refl _) _) hS8) (fun hHeld => ?_)
            clear hK K
            (try simp only [Act.put, List.setIfInBounds_toArray, List.set_cons_zero, List.set_cons_succ])
            refine wpAnyH_ready (rs := [2]) (by kernel_rfl) (by simp) ?_
            refine AllReadyH.cons rfl (fun K hK => ?_) ?_
            · go_simp
              refine hK.out _ _ (lg_keep ((Below.refl w8.heap.size w8).alloc (Nat.le_refl _) _) hS8) (fun hHeld => ?_)
              clear hK K
              (try simp only [Act.put, List.setIfInBounds_toArray, List.set_cons_zero, List.set_cons_succ])
              refine wpAnyH_take (i := 6) (v := .string ⟨z1'.toArray⟩) rfl (by kernel_rfl) (by kernel_rfl) (by kernel_rfl) (fun _ _ _ h => h) (Or.inl ⟨by rfl, fun wq hq => ?_⟩) hHeld ?_
              · obtain ⟨hq1, hq2⟩ := hq
                go_simp
              (try simp only [Act.put, List.setIfInBounds_toArray, List.set_cons_zero, List.set_cons_succ])
              refine wpAnyH_take (i := 12) (v := .string ⟨z2.toArray⟩) rfl (by kernel_rfl) (by kernel_rfl) (by kernel_rfl) (fun _ _ _ h => h) (Or.inl ⟨by rfl, fun wq hq => ?_⟩) hHeld ?_
              · obtain ⟨hq1, hq2⟩ := hq
                go_simp
              (try simp only [Act.put, List.setIfInBounds_toArray, List.set_cons_zero, List.set_cons_succ])
              refine wpAnyH_take (i := 13) (v := .string ⟨X2.toArray⟩) rfl (by kernel_rfl) (by kernel_rfl) (by kernel_rfl) (fun _ _ _ h => h) (Or.inl ⟨by rfl, fun wq hq => ?_⟩) hHeld ?_
              · obtain ⟨hq1, hq2⟩ := hq
                go_simp
              (try simp only [Act.put, List.setIfInBounds_toArray, List.set_cons_zero, List.set_cons_succ])
              refine wpAnyH_take (i := 14) (v := .string ⟨X2.toArray⟩) rfl (by kernel_rfl) (by kernel_rfl) (by kernel_rfl) (fun _ _ _ h => h) (Or.inl ⟨by rfl, fun wq hq => ?_⟩) hHeld ?_
              · obtain ⟨hq1, hq2⟩ := hq
                go_simp
              (try simp only [Act.put, List.setIfInBounds_toArray, List.set_cons_zero, List.set_cons_succ])
              refine wpAnyH_done (by kernel_rfl) ?_ _
              go_wp2_with fail
              have hinc := HINC.out
              go_roundw
              case rel => exact ⟨i + 1, X2, hg2, hg1, rfl, HX2, rfl, Lib.hid (HT7.out.on hHeld.2)⟩
              case measure =>
                (try rw [hinc])
                exact HM.out
            exact AllReadyH.nil
          exact AllReadyH.nil
        exact AllReadyH.nil
      exact AllReadyH.nil
    · have hend : ¬ i < L.length ∨ (i < L.length ∧ i = 3) := by omega
      have hX3 : X.length ≤ 1080 := by have := HXL.out; omega
      obtain ⟨d1, k, d2, e1, e2, hw3, d3, e3, hl3, ho⟩ := forged X hX3 torn
      have ha1 := lt_add HT.out X (by omega)
      rw [e1] at ha1
      have hrs := fun wn (hb : LT (fun k => w.heap.size ≤ k) w wn G (w.heap.size + 2) w.heap.size (w.heap.size + 1) d1 ⟨0, 40, k, 2⟩ vv []) => lt_reset hb (show (0 : Nat) ≤ 40 by omega)
      have ha2 := fun wn (hb : LT (fun k => w.heap.size ≤ k) w wn G (w.heap.size + 2) w.heap.size (w.heap.size + 1) d1 ⟨0, 40, 0, 2⟩ vv []) => lt_add hb shortT (by decide)
      rw [e2] at ha2
      have hst : ∀ wn, LT (fun k => w.heap.size ≤ k) w wn G (w.heap.size + 2) w.heap.size (w.heap.size + 1) d2 ⟨0, 40, 1, 3⟩ vv [] → Calls Try.prog 27 #[.pointer (some ⟨w.heap.size + 2, 0, none⟩)] wn fun e w' => e = .returned (.int .i64 d2.steps) ∧ wn = w' := fun wn hb => by
        obtain ⟨pv, hd⟩ := hb.ld.now.dev
        exact steps_any hd
      obtain ⟨z, hz⟩ : ∃ z, d2.steps + 3 = z := ⟨_, rfl⟩
      rw [hz] at hw3 e3
      have hpl : ∀ wn bb, wn.heap[bb]? = some (.cells #[.int .i64 z, .int .u64 0, .int .i64 torn] 40 (0, 0)) → LT (fun k => w.heap.size ≤ k) w wn G (w.heap.size + 2) w.heap.size (w.heap.size + 1) d2 ⟨0, 40, 1, 3⟩ vv [] → Calls Try.prog 28 #[.pointer (some ⟨w.heap.size + 2, 0, none⟩), .slice (some ⟨bb, 0, none⟩) 1 1] wn fun e w' => e = .returned (.tuple #[]) ∧ LT (fun k => w.heap.size ≤ k) w w' G (w.heap.size + 2) w.heap.size (w.heap.size + 1) { d2 with plan := [⟨z, 0, torn⟩] } ⟨0, 40, 1, 3⟩ vv [] :=
        fun wn bb hbb hb => lt_plan_one (f := ⟨z, 0, torn⟩) hb hbb (show (0 : Nat) < 18446744073709551616 by decide) 1
      have ha3 := fun wn (hb : LT (fun k => w.heap.size ≤ k) w wn G (w.heap.size + 2) w.heap.size (w.heap.size + 1) { d2 with plan := [⟨z, 0, torn⟩] } ⟨0, 40, 1, 3⟩ vv []) => lt_add hb lostT (by decide)
      rw [e3] at ha3
      have hup := fun wn (hb : LT (fun k => w.heap.size ≤ k) w wn G (w.heap.size + 2) w.heap.size (w.heap.size + 1) d3 ⟨0, 40, 1, 3⟩ vv []) => lt_up hb
      have hop := fun wn (hb : LT (fun k => w.heap.size ≤ k) w wn G (w.heap.size + 2) w.heap.size (w.heap.size + 1) { d3 with off := false } ⟨0, 40, 1, 3⟩ vv []) => lt_open hb (fun k hk => Nat.le_trans hb.ld.now.below.size hk) rfl 0 40 (by omega) (show 40 ≤ d3.sure.length by omega) 2 (by decide) (by decide)
      have HA1 := Lib.hid ha1; have HRS := Lib.hid hrs; have HST := Lib.hid hst; have HPL := Lib.hid hpl; have HUP := Lib.hid hup
      have HA2 : Hid (∀ wn, LT (fun k => w.heap.size ≤ k) w wn G (w.heap.size + 2) w.heap.size (w.heap.size + 1) d1 ⟨0, 40, 0, 2⟩ vv [] → Calls Try.prog 20 #[.pointer (some ⟨G, 0, none⟩), .string ⟨#[115, 104, 111, 114, 116]⟩] wn fun e w' => e = .returned (.int .i64 0) ∧ LT (fun k => w.heap.size ≤ k) w w' G (w.heap.size + 2) w.heap.size (w.heap.size + 1) d2 ⟨0, 40, 1, 3⟩ vv []) := Lib.hid ha2
      have HA3 : Hid (∀ wn, LT (fun k => w.heap.size ≤ k) w wn G (w.heap.size + 2) w.heap.size (w.heap.size + 1) { d2 with plan := [⟨z, 0, torn⟩] } ⟨0, 40, 1, 3⟩ vv [] → Calls Try.prog 20 #[.pointer (some ⟨G, 0, none⟩), .string ⟨#[108, 111, 115, 116]⟩] wn fun e w' => e = .returned (.int .i64 7) ∧ LT (fun k => w.heap.size ≤ k) w w' G (w.heap.size + 2) w.heap.size (w.heap.size + 1) d3 ⟨0, 40, 1, 3⟩ vv []) := Lib.hid ha3
      have t1 : ((⟨shortT.toArray⟩ : ByteArray).toList == (⟨#[115, 104, 111, 114, 116]⟩ : ByteArray).toList) = true := by rw [Lib.toList_data, Lib.toList_data]; decide
      have t2 : ((⟨lostT.toArray⟩ : ByteArray).toList == (⟨#[108, 111, 115, 116]⟩ : ByteArray).toList) = true := by rw [Lib.toList_data, Lib.toList_data]; decide
      clear ha1 hrs hst hpl hup ha2 ha3 e1 e2 e3 hX3 hgo hl3
      rcases hend with c1 | ⟨c1, rfl⟩
      all_goals
        rcases ho with ho | ho
        · have hop2 := hop
          rw [ho] at hop2
          have HOP := Lib.hid hop2
          clear hop hop2 ho
          go_wp2_with (first
            | (go_at_call 20; (with_reducible refine HA1.out.mono ?_); rintro e w6 ⟨rfl, hl6⟩)
            | (go_at_call 17; (with_reducible refine (HRS.out _ hl6).mono ?_); rintro e w7 ⟨rfl, hl7⟩)
            | (go_at_call 20; (with_reducible refine (HA2.out _ hl7).mono ?_); rintro e w8 ⟨rfl, hl8⟩)
            | (go_at_call 27; (with_reducible refine (HST.out _ hl8).mono ?_); rintro e w9 ⟨rfl, rfl⟩)
            | (go_at_call 28; refine (HPL.out _ _ (heap_alloc_new _ _) (hl8.on ((Below.refl _ _).alloc (Nat.le_refl _) _))).mono ?_; rintro e w10 ⟨rfl, hl10⟩)
            | (go_at_call 20; (with_reducible refine (HA3.out _ hl10).mono ?_); rintro e w11 ⟨rfl, hl11⟩)
            | (go_at_call 29; (with_reducible refine (HUP.out _ hl11).mono ?_); rintro e w12 ⟨rfl, hl12⟩)
            | (go_at_call 15; refine (HOP.out _ hl12).mono ?_; rintro e w13 ⟨v13, rfl, hl13, -⟩; obtain ⟨A13, c13, hv13, -, hx13⟩ := hl13.texts.form; obtain ⟨g13, rfl, -, hy13⟩ := hx13 (by simp); have y0 := hy13 0 _ rfl; rw [show ([shortT] : List Sec).length = 1 from rfl] at hv13; subst hv13; have HNX := Lib.hid (lt_next hl13); clear hx13 hy13)
            | (go_at_call 25; refine HNX.out.mono ?_; rintro e w14 ⟨rfl, hl14⟩)
            | fail)
          go_ret
          exact ⟨rfl, hl14.ld.now.below.below (Nat.le_refl _) (fun k hk => hk)⟩
        · have hop2 := hop
          rw [ho] at hop2
          have HOP := Lib.hid hop2
          clear hop hop2 ho
          go_wp2_with (first
            | (go_at_call 20; (with_reducible refine HA1.out.mono ?_); rintro e w6 ⟨rfl, hl6⟩)
            | (go_at_call 17; (with_reducible refine (HRS.out _ hl6).mono ?_); rintro e w7 ⟨rfl, hl7⟩)
            | (go_at_call 20; (with_reducible refine (HA2.out _ hl7).mono ?_); rintro e w8 ⟨rfl, hl8⟩)
            | (go_at_call 27; (with_reducible refine (HST.out _ hl8).mono ?_); rintro e w9 ⟨rfl, rfl⟩)
            | (go_at_call 28; refine (HPL.out _ _ (heap_alloc_new _ _) (hl8.on ((Below.refl _ _).alloc (Nat.le_refl _) _))).mono ?_; rintro e w10 ⟨rfl, hl10⟩)
            | (go_at_call 20; (with_reducible refine (HA3.out _ hl10).mono ?_); rintro e w11 ⟨rfl, hl11⟩)
            | (go_at_call 29; (with_reducible refine (HUP.out _ hl11).mono ?_); rintro e w12 ⟨rfl, hl12⟩)
            | (go_at_call 15; refine (HOP.out _ hl12).mono ?_; rintro e w13 ⟨v13, rfl, hl13, -⟩; obtain ⟨A13, c13, hv13, -, hx13⟩ := hl13.texts.form; obtain ⟨g13, rfl, -, hy13⟩ := hx13 (by simp); have y0 := hy13 0 _ rfl; have y1 := hy13 1 _ rfl; rw [show ([shortT, lostT] : List Sec).length = 2 from rfl] at hv13; subst hv13; have HNX := Lib.hid (lt_next hl13); clear hx13 hy13)
            | (go_at_call 25; refine HNX.out.mono ?_; rintro e w14 ⟨rfl, hl14⟩)
            | fail)
          go_ret
          exact ⟨rfl, hl14.ld.now.below.below (Nat.le_refl _) (fun k hk => hk)⟩

end Go.Proofs.Ytaoaidjbpfdgmaa
