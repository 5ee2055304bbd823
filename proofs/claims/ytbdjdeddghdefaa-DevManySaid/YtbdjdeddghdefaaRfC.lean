/- the document's device: Crash -/
import Derived.Test.YtbdjdeddghdefaaRfB
import Derived.Deep.RegionHeld3
namespace Go.Proofs.Ytbdjdeddghdefaa
open Go.ChangeShapes Go.WideShapes Go.ChangeAt Go.RowKit

/-- one bit -/
theorem bit_eq (keep i : Nat) : ((keep : Int) / 2 ^ i).tmod 2 = ((keep >>> i % 2 : Nat) : Int) := by
  have h : (keep : Int) / 2 ^ i = ((keep >>> i : Nat) : Int) := by rw [Nat.shiftRight_eq_div_pow]; simp
  rw [h, Int.tmod_eq_emod_of_nonneg (Int.natCast_nonneg _)]; omega

theorem bit_63 (keep : Nat) : Int.emod (Int.ediv (keep : Int) 9223372036854775808) 2 = ((keep >>> 63 % 2 : Nat) : Int) := by
  have h : Int.ediv (keep : Int) 9223372036854775808 = ((keep >>> 63 : Nat) : Int) := by rw [Nat.shiftRight_eq_div_pow]; rfl
  rw [h]; show ((keep >>> 63 : Nat) : Int) % 2 = _; omega

theorem rf_drewN (w : World) (n : Nat) : Below w.heap.size w (w.drewN n) := by
  have h := Below.refl w.heap.size w
  exact ⟨h.os, h.tape, h.output, h.size, h.block⟩

theorem heap_lt {w : World} {b : Nat} {o : Obj} (h : w.heap[b]? = some o) : b < w.heap.size := (Array.getElem?_eq_some_iff.1 h).1

theorem TB.seen_far {w0 w : World} {v : Value} {l : List Sec} (h : TB w0 v l w) {b j : Nat} (hb : b < w0.heap.size) (x : Value) : SeenT (w.setCell ⟨b, j, Option.none⟩ x) v l := by
  obtain ⟨A, cap, hv, hc, hx⟩ := h.texts.form
  refine ⟨A, cap, hv, hc, fun i s hs => ?_⟩
  obtain ⟨g, hA, hg, hy⟩ := hx (by rintro rfl; simp at hs)
  refine ⟨g, 0, hA, ?_⟩
  rw [Nat.zero_add]
  exact (World.cell?_setCell_far _ ⟨b, j, Option.none⟩ ⟨g, i, Option.none⟩ _ (show b ≠ g by omega)).trans (hy i s hs)

theorem bool_row {w : World} {b : Nat} {T : TypeId} {A L C : Option Addr} {n c m e k f : Nat} {s : Int} {o : Bool} (hp : w.heap[b]? = some (.cells #[.slice A n c, .slice L m e, .int .i64 s, .slice C k f, .bool o] T (0, 0))) (j : Nat) (B : ByteArray) : w.cell? ⟨b, j, none⟩ ≠ some (.string B) := by
  rw [cell_of_row _ _ _ _ _ _ hp]
  rcases j with _ | _ | _ | _ | _ | j <;> simp

/-- the box and the result, as Crash leaves them -/
def crashW (w : World) (b : Nat) (v0 v2 v3 : Value) : World :=
  (((((((w.setCell ⟨b, 1, none⟩ (.slice none 0 0)).setCell ⟨b, 4, none⟩ (.bool true)).setCell ⟨b + 1, 0, none⟩ v0).setCell ⟨b + 1, 1, none⟩ (.slice none 0 0)).setCell ⟨b + 1, 2, none⟩ v2).setCell ⟨b + 1, 3, none⟩ v3).setCell ⟨b + 1, 4, none⟩ (.bool true))

theorem crashW_seen {w : World} {b : Nat} {T : TypeId} {A L C A' L' C' : Option Addr} {n c m e k f n' c' m' e' k' f' : Nat} {s s' : Int} {o o' : Bool} (hp : w.heap[b]? = some (.cells #[.slice A n c, .slice L m e, .int .i64 s, .slice C k f, .bool o] T (0, 0)))
    (hq : w.heap[b + 1]? = some (.cells #[.slice A' n' c', .slice L' m' e', .int .i64 s', .slice C' k' f', .bool o'] T (0, 0))) {v : Value} {l : List Sec} (h : SeenT w v l) (v0 v2 v3 : Value) : SeenT (crashW w b v0 v2 v3) v l := by
  obtain ⟨A, cap, hv, hc, hx⟩ := h.form
  refine ⟨A, cap, hv, hc, fun i s hs => ?_⟩
  obtain ⟨g, o, hA, hy⟩ := hx i s hs
  refine ⟨g, o, hA, ?_⟩
  have n1 : g ≠ b := by rintro rfl; exact bool_row hp _ _ hy
  have n2 : g ≠ b + 1 := by rintro rfl; exact bool_row hq _ _ hy
  unfold crashW
  exact (World.cell?_setCell_far _ ⟨b + 1, 4, none⟩ ⟨g, _, none⟩ _ (Ne.symm n2)).trans ((World.cell?_setCell_far _ ⟨b + 1, 3, none⟩ ⟨g, _, none⟩ _ (Ne.symm n2)).trans ((World.cell?_setCell_far _ ⟨b + 1, 2, none⟩ ⟨g, _, none⟩ _ (Ne.symm n2)).trans ((World.cell?_setCell_far _ ⟨b + 1, 1, none⟩ ⟨g, _, none⟩ _ (Ne.symm n2)).trans ((World.cell?_setCell_far _ ⟨b + 1, 0, none⟩ ⟨g, _, none⟩ _ (Ne.symm n2)).trans ((World.cell?_setCell_far _ ⟨b, 4, none⟩ ⟨g, _, none⟩ _ (Ne.symm n1)).trans ((World.cell?_setCell_far _ ⟨b, 1, none⟩ ⟨g, _, none⟩ _ (Ne.symm n1)).trans (hy)))))))

theorem crashW_below {w w' : World} (h : Below w.heap.size w w') (v0 v2 v3 : Value) : Below w.heap.size w (crashW w' w.heap.size v0 v2 v3) := by
  unfold crashW
  exact ((((((h.setCell (p := ⟨w.heap.size, 1, none⟩) (Nat.le_refl _) _).setCell (p := ⟨w.heap.size, 4, none⟩) (Nat.le_refl _) _).setCell (p := ⟨w.heap.size + 1, 0, none⟩) (Nat.le_succ _) _).setCell (p := ⟨w.heap.size + 1, 1, none⟩) (Nat.le_succ _) _).setCell (p := ⟨w.heap.size + 1, 2, none⟩) (Nat.le_succ _) _).setCell (p := ⟨w.heap.size + 1, 3, none⟩) (Nat.le_succ _) _).setCell (p := ⟨w.heap.size + 1, 4, none⟩) (Nat.le_succ _) _

theorem crashW_res {w : World} {b : Nat} {T : TypeId} {a0 a1 a2 a3 a4 : Value} (hq : w.heap[b + 1]? = some (.cells #[a0, a1, a2, a3, a4] T (0, 0))) (v0 v2 v3 : Value) :
    (crashW w b v0 v2 v3).heap[b + 1]? = some (.cells #[v0, .slice none 0 0, v2, v3, .bool true] T (0, 0)) := by
  have h1 := (Below.heap_setCell w ⟨b, 1, none⟩ (.slice none 0 0) (b + 1) (by simp)).trans hq
  have h2 := (Below.heap_setCell _ ⟨b, 4, none⟩ (.bool true) (b + 1) (by simp)).trans h1
  exact Go.heap_setCell_same _ (b + 1) 4 _ T (.bool true) (Go.heap_setCell_same _ (b + 1) 3 _ T v3 (Go.heap_setCell_same _ (b + 1) 2 _ T v2 (Go.heap_setCell_same _ (b + 1) 1 _ T (.slice none 0 0) (Go.heap_setCell_same _ (b + 1) 0 _ T v0 h2))))

theorem SeenL.nil (w : World) : SeenL w (.slice none 0 0) [] := ⟨none, 0, rfl, Nat.le_refl _, fun i p hp => by simp at hp⟩

theorem cut_cases (torn : Int) : (torn < 0 ∧ cutT torn = 0) ∨ (128 < torn ∧ cutT torn = 128) ∨ (0 ≤ torn ∧ torn ≤ 128 ∧ (cutT torn : Int) = torn) := by
  unfold cutT; omega

set_option maxHeartbeats 4000000 in
set_option maxRecDepth 100000 in
theorem rfcrash_any {w : World} {v : Value} {d : Dv} {F : List Fal} (h : RfAt w v d F) {keep : Nat} (hk : keep < 18446744073709551616) (torn : Int) (hl : d.loose.length ≤ 100000) (hs : d.sure.length ≤ 65536)
    (hin : ∀ p ∈ d.loose, p.1 < d.sure.length ∧ p.2.length = 128) (hb : ∀ s ∈ d.sure, s.length = 128) :
    Calls Try.prog 36 #[v, .int .u64 keep, .int .i64 torn] w fun e w' => ∃ v', e = .returned v' ∧ RfAt w' v' (crashD d keep torn) F ∧ Below w.heap.size w w' := by
  obtain ⟨v0, v1, v3, rfl, h0, h1, h3⟩ := h.form
  have H0 := Lib.hid h0; have H1 := Lib.hid h1; have H3 := Lib.hid h3
  obtain ⟨A, c, rfl, -, hA⟩ := h0.form
  obtain ⟨L, e, rfl, -, hL⟩ := h1.form
  obtain ⟨C, f, rfl, -⟩ := h3.form
  have HA := Lib.hid hA; have HL := Lib.hid hL; have HIN := Lib.hid hin; have HBY := Lib.hid hb
  clear hA hL h h0 h1 h3 hin hb
  have hbox := (Below.refl w.heap.size w).alloc (Nat.le_refl _) (.cells #[.slice A d.sure.length c, .slice L d.loose.length e, .int .i64 d.steps, .slice C F.length f, .bool d.off] 31)
  cases ho : d.off
  · have hcd : crashD d keep torn = { d with sure := crashL keep 0 (cutT torn) d.loose d.sure, loose := [], off := true } := by unfold crashD; rw [ho]; rfl
    have HCD := Lib.hid hcd
    clear hcd
    rw [ho] at hbox
    have hB := (hbox.alloc hbox.size (.cells #[.slice none 0 0, .slice none 0 0, .int .i64 0, .slice none 0 0, .bool false] 31))
    have HB := Lib.hid hB
    have hbx := heap_alloc_last (w.alloc (.cells #[.slice A d.sure.length c, .slice L d.loose.length e, .int .i64 d.steps, .slice C F.length f, .bool false] 31)) (.cells #[.slice none 0 0, .slice none 0 0, .int .i64 0, .slice none 0 0, .bool false] 31)
    have hb0 := (((Below.refl _ _).alloc (Nat.le_refl _) (.cells #[.slice none 0 0, .slice none 0 0, .int .i64 0, .slice none 0 0, .bool false] 31)).block w.heap.size (by simp)).trans (heap_alloc_last w (.cells #[.slice A d.sure.length c, .slice L d.loose.length e, .int .i64 d.steps, .slice C F.length f, .bool false] 31))
    rw [World.size_alloc] at hbx
    have HX0 := Lib.hid hb0; have HX1 := Lib.hid hbx
    clear hB hbox hbx hb0
    obtain ⟨x, hx, HT⟩ : ∃ x : Int, ((torn < 0 ∧ x = 0) ∨ (128 < torn ∧ x = 128) ∨ (0 ≤ torn ∧ torn ≤ 128 ∧ torn = x)) ∧ Hid ((cutT torn : Int) = x) := by
      rcases cut_cases torn with ⟨a, b⟩ | ⟨a, b⟩ | ⟨a, b, c⟩
      · exact ⟨0, .inl ⟨a, rfl⟩, Lib.hid (by omega)⟩
      · exact ⟨128, .inr (.inl ⟨a, rfl⟩), Lib.hid (by omega)⟩
      · exact ⟨torn, .inr (.inr ⟨a, b, rfl⟩), Lib.hid c⟩
    rcases hx with ⟨t1, rfl⟩ | ⟨t1, rfl⟩ | ⟨t1, t2, rfl⟩
    all_goals
      go_enter Try.func36, Try.ntmps36
      go_wp2_with fail
      go_loopw [7, 8] (fun s7 s8 wr => ∃ (i left : Nat) (u : List Sec) (vS : Value), i ≤ d.loose.length ∧ left ≤ 128 ∧ s7 = .int .i64 (left : Int) ∧ s8 = .int .i64 (i : Int) ∧ Hid (crashL keep i left (d.loose.drop i) u = crashL keep 0 (cutT torn) d.loose d.sure) ∧ Hid (u.length = d.sure.length) ∧ Hid (∀ s ∈ u, s.length = 128) ∧ Hid (SeenT wr vS u) ∧
          Hid (wr.heap[w.heap.size]? = some (.cells #[vS, .slice L d.loose.length e, .int .i64 d.steps, .slice C F.length f, .bool false] 31 (0, 0))) ∧ Hid (wr.heap[w.heap.size + 1]? = some (.cells #[.slice none 0 0, .slice none 0 0, .int .i64 0, .slice none 0 0, .bool false] 31 (0, 0))) ∧ Hid (Below w.heap.size w wr)) (fun _ s8 _ => d.loose.length - (intOf s8).toNat)
      case atStart => exact ⟨0, cutT torn, d.sure, _, Nat.zero_le _, by have := cutT_le torn; omega, by rw [HT.out], rfl, Lib.hid rfl, Lib.hid rfl, HBY, Lib.hid (H0.out.on HB.out), HX0, HX1, HB⟩
      case round =>
        obtain ⟨i, left, u, vS, hi, hleft, rfl, rfl, HCR, HUL, HUB, HSN, HP, HQ, HBW⟩ := hrel
        have hp0 := HP.out
        have p0 : wr.cell? ⟨w.heap.size, 0, none⟩ = some vS := by rw [cell_of_row _ _ _ _ _ _ hp0]; rfl
        have p1 : wr.cell? ⟨w.heap.size, 1, none⟩ = some (.slice L d.loose.length e) := by rw [cell_of_row _ _ _ _ _ _ hp0]; rfl
        have pf : wr.frozen? ⟨w.heap.size, 0, none⟩ = false := by simp [World.frozen?, hp0]
        clear hp0
        by_cases hlt : i < d.loose.length
        · obtain ⟨g, o, rfl, k0, k1⟩ := HL.out i d.loose[i] (List.getElem?_eq_getElem hlt)
          have k0' := cell_below HBW.out k0
          have k1' := cell_below HBW.out k1
          have z2 : (i : Int) < (d.loose.length : Int) := by omega
          obtain ⟨ha, hs8⟩ := HIN.out _ (List.getElem_mem hlt)
          have hdr : d.loose.drop i = d.loose[i] :: d.loose.drop (i + 1) := List.drop_eq_getElem_cons hlt
          have hcr := HCR.out
          rw [hdr] at hcr
          have HM := Lib.hid (read_meas d.loose.length i hlt)
          generalize d.loose[i] = q at k0' k1' ha hs8 hcr
          clear k0 k1 hdr
          obtain ⟨a, s⟩ := q
          simp only at k0' k1' ha hs8
          obtain ⟨A', cap', hvS, -, hAs⟩ := HSN.out.form
          have hau : a < u.length := by rw [HUL.out]; exact ha
          obtain ⟨g', o', rfl, ks⟩ := hAs a u[a] (List.getElem?_eq_getElem hau)
          have hu8 : u[a].length = 128 := HUB.out _ (List.getElem_mem hau)
          have z3 : (a : Int) < (u.length : Int) := by omega
          subst hvS
          have hget : u.getD a [] = u[a] := by rw [List.getD_eq_getElem?_getD, List.getElem?_eq_getElem hau]; rfl
          have HCR1 := Lib.hid hcr; have HGET := Lib.hid hget; have HU8 := Lib.hid hu8; have HS8 := Lib.hid hs8
          clear hcr hget hAs
          by_cases h63 : 63 < i
          · have e63 : min i 63 = 63 := by omega
            have HBE := Lib.hid (bit_63 keep)
            have d63 : decide ((63 : Int) < (i : Int)) = true := by rw [decide_eq_true_eq]; omega
            have hcr := HCR1.out
            by_cases hbit : keep >>> min i 63 % 2 = 1
            · rw [crashL_yes hbit] at hcr
              have HCR2 := Lib.hid hcr
              have hb : ((keep : Int) / 9223372036854775808 % 2 == 0) = false := by have hq := HBE.out; rw [e63] at hbit; rw [hbit] at hq; exact beq_eq_false_iff_ne.2 (fun e => by have := hq.symm.trans e; exact absurd this (by decide))
              clear hcr hbit e63
              go_upto_region 14 with fail
              go_quiet (fail)
              go_wp2_with fail
              refine (rflaid_any (HSN.out.on (rf_drewN _ _)) (by rw [HUL.out]; exact hs) a hau (s)).mono ?_
              rintro e2 w2 ⟨v2, rfl, htb⟩
              obtain ⟨A2, cap2, rfl, -, -⟩ := htb.texts.form
              have hbw2 := (rf_drewN wr _).trans (htb.below.mono (rf_drewN wr _).size)
              have hp2 := (hbw2.block w.heap.size (heap_lt HP.out)).trans HP.out
              have hq2 := (hbw2.block (w.heap.size + 1) (heap_lt HQ.out)).trans HQ.out
              have c20 : w2.cell? ⟨w.heap.size, 0, none⟩ = some (.slice (some ⟨g', o', none⟩) u.length cap') := by rw [cell_of_row _ _ _ _ _ _ hp2]; rfl
              have f20 : w2.frozen? ⟨w.heap.size, 0, none⟩ = false := by simp [World.frozen?, hp2]
              have HP2 := Lib.hid hp2; have HQ2 := Lib.hid hq2; have HB2 := Lib.hid hbw2; have HTB := Lib.hid htb; have HLT := Lib.hid (heap_lt HP.out)
              clear hp2 hq2 hbw2 htb
              go_wp2_with fail
              go_roundw
              case rel => exact ⟨i + 1, left, u.set a (s), _, hlt, hleft, rfl, by go_num, HCR2, Lib.hid (by rw [List.length_set]; exact HUL.out), Lib.hid (fun y hy => by
                  rcases List.mem_or_eq_of_mem_set hy with hy | rfl
                  · exact HUB.out y hy
                  · exact HS8.out), Lib.hid (HTB.out.seen_far (by have := HLT.out; exact this) _), Lib.hid (by rw [List.length_set]; exact Go.heap_setCell_same w2 w.heap.size 0 _ _ (.slice A2 u.length cap2) HP2.out), Lib.hid ((Below.heap_setCell _ _ _ _ (by simp)).trans HQ2.out), Lib.hid ((HBW.out.trans (HB2.out.mono (by have := HBW.out.size; exact this))).setCell (p := ⟨w.heap.size, 0, none⟩) (Nat.le_refl _) _)⟩
              case measure => exact HM.out
            · rw [crashL_no hbit, HGET.out] at hcr
              have HCR2 := Lib.hid hcr
              have hb : ((keep : Int) / 9223372036854775808 % 2 == 0) = true := by
                have hq := HBE.out
                rw [e63] at hbit
                have h0 : keep >>> 63 % 2 = 0 := by omega
                rw [h0] at hq
                exact beq_iff_eq.2 hq
              have HN8 := Lib.hid (show (s.take left ++ u[a].drop left).length = 128 by rw [List.length_append, List.length_take, List.length_drop, HS8.out, HU8.out]; omega)
              obtain ⟨S, hS⟩ : ∃ S : ByteArray, ⟨s.toArray⟩ = S := ⟨_, rfl⟩
              obtain ⟨U, hU⟩ : ∃ U : ByteArray, ⟨u[a].toArray⟩ = U := ⟨_, rfl⟩
              have hSz : S.size = 128 := by rw [← hS, str_size]; exact HS8.out
              have hUz : U.size = 128 := by rw [← hU, str_size]; exact HU8.out
              have hadd : ∀ W, (Op.stringOp .add (S.extract 0 left) (U.extract left U.size)).run Try.prog W = .ok (.string ⟨(s.take left ++ u[a].drop left).toArray⟩) W := fun W => by
                have e1 : S.extract 0 left = ⟨(s.take left).toArray⟩ := by rw [← hS]; apply ByteArray.ext; apply Array.ext'; simp [ByteArray.data_extract, List.extract_eq_take_drop]
                have e2 : U.extract left U.size = ⟨(u[a].drop left).toArray⟩ := by
                  rw [hUz, ← hU]; apply ByteArray.ext; apply Array.ext'
                  simp only [ByteArray.data_extract, List.extract_toArray, List.extract_eq_take_drop]
                  rw [List.take_of_length_le (by rw [List.length_drop]; have := HU8.out; omega)]
                rw [e1, e2, run_string_add W _ _ (by rw [str_size, List.length_take]; have := HS8.out; omega) (by rw [str_size, List.length_drop]; have := HU8.out; omega), str_cat]
              rw [hS] at k1'
              rw [hU] at ks
              have i1 : (0 : Int) ≤ (left : Int) := by omega
              have i2 : (left : Int) ≤ (S.size : Int) := by omega
              have i3 : (left : Int) ≤ (U.size : Int) := by omega
              have i4 : left ≤ S.size := by omega
              have i5 : left ≤ U.size := by omega
              clear hcr hbit e63 hS hU hSz hUz
              generalize hN : s.take left ++ u[a].drop left = N at hadd HCR2 HN8
              clear hN
              go_upto_region 14 with fail
              go_quiet (fail)
              go_upto_region 16 with fail
              go_quiet (fail)
              go_wp2_with fail
              refine (rflaid_any (HSN.out.on (rf_drewN _ _)) (by rw [HUL.out]; exact hs) a hau (N)).mono ?_
              rintro e2 w2 ⟨v2, rfl, htb⟩
              obtain ⟨A2, cap2, rfl, -, -⟩ := htb.texts.form
              have hbw2 := (rf_drewN wr _).trans (htb.below.mono (rf_drewN wr _).size)
              have hp2 := (hbw2.block w.heap.size (heap_lt HP.out)).trans HP.out
              have hq2 := (hbw2.block (w.heap.size + 1) (heap_lt HQ.out)).trans HQ.out
              have c20 : w2.cell? ⟨w.heap.size, 0, none⟩ = some (.slice (some ⟨g', o', none⟩) u.length cap') := by rw [cell_of_row _ _ _ _ _ _ hp2]; rfl
              have f20 : w2.frozen? ⟨w.heap.size, 0, none⟩ = false := by simp [World.frozen?, hp2]
              have HP2 := Lib.hid hp2; have HQ2 := Lib.hid hq2; have HB2 := Lib.hid hbw2; have HTB := Lib.hid htb; have HLT := Lib.hid (heap_lt HP.out)
              clear hp2 hq2 hbw2 htb
              go_wp2_with fail
              go_roundw
              case rel => exact ⟨i + 1, 0, u.set a (N), _, hlt, Nat.zero_le _, rfl, by go_num, HCR2, Lib.hid (by rw [List.length_set]; exact HUL.out), Lib.hid (fun y hy => by
                  rcases List.mem_or_eq_of_mem_set hy with hy | rfl
                  · exact HUB.out y hy
                  · exact HN8.out), Lib.hid (HTB.out.seen_far (by have := HLT.out; exact this) _), Lib.hid (by rw [List.length_set]; exact Go.heap_setCell_same w2 w.heap.size 0 _ _ (.slice A2 u.length cap2) HP2.out), Lib.hid ((Below.heap_setCell _ _ _ _ (by simp)).trans HQ2.out), Lib.hid ((HBW.out.trans (HB2.out.mono (by have := HBW.out.size; exact this))).setCell (p := ⟨w.heap.size, 0, none⟩) (Nat.le_refl _) _)⟩
              case measure => exact HM.out
          · have e63 : min i 63 = i := by omega
            have HBE := Lib.hid (bit_eq keep i)
            have d63 : decide ((63 : Int) < (i : Int)) = false := by rw [decide_eq_false_iff_not]; omega
            have hcr := HCR1.out
            by_cases hbit : keep >>> min i 63 % 2 = 1
            · rw [crashL_yes hbit] at hcr
              have HCR2 := Lib.hid hcr
              have hb : (((keep : Int) / 2 ^ i).tmod 2 == 0) = false := by have hq := HBE.out; rw [e63] at hbit; rw [hbit] at hq; exact beq_eq_false_iff_ne.2 (fun e => by have := hq.symm.trans e; exact absurd this (by decide))
              clear hcr hbit e63
              go_upto_region 14 with fail
              go_quiet (fail)
              go_wp2_with fail
              refine (rflaid_any (HSN.out.on (rf_drewN _ _)) (by rw [HUL.out]; exact hs) a hau (s)).mono ?_
              rintro e2 w2 ⟨v2, rfl, htb⟩
              obtain ⟨A2, cap2, rfl, -, -⟩ := htb.texts.form
              have hbw2 := (rf_drewN wr _).trans (htb.below.mono (rf_drewN wr _).size)
              have hp2 := (hbw2.block w.heap.size (heap_lt HP.out)).trans HP.out
              have hq2 := (hbw2.block (w.heap.size + 1) (heap_lt HQ.out)).trans HQ.out
              have c20 : w2.cell? ⟨w.heap.size, 0, none⟩ = some (.slice (some ⟨g', o', none⟩) u.length cap') := by rw [cell_of_row _ _ _ _ _ _ hp2]; rfl
              have f20 : w2.frozen? ⟨w.heap.size, 0, none⟩ = false := by simp [World.frozen?, hp2]
              have HP2 := Lib.hid hp2; have HQ2 := Lib.hid hq2; have HB2 := Lib.hid hbw2; have HTB := Lib.hid htb; have HLT := Lib.hid (heap_lt HP.out)
              clear hp2 hq2 hbw2 htb
              go_wp2_with fail
              go_roundw
              case rel => exact ⟨i + 1, left, u.set a (s), _, hlt, hleft, rfl, by go_num, HCR2, Lib.hid (by rw [List.length_set]; exact HUL.out), Lib.hid (fun y hy => by
                  rcases List.mem_or_eq_of_mem_set hy with hy | rfl
                  · exact HUB.out y hy
                  · exact HS8.out), Lib.hid (HTB.out.seen_far (by have := HLT.out; exact this) _), Lib.hid (by rw [List.length_set]; exact Go.heap_setCell_same w2 w.heap.size 0 _ _ (.slice A2 u.length cap2) HP2.out), Lib.hid ((Below.heap_setCell _ _ _ _ (by simp)).trans HQ2.out), Lib.hid ((HBW.out.trans (HB2.out.mono (by have := HBW.out.size; exact this))).setCell (p := ⟨w.heap.size, 0, none⟩) (Nat.le_refl _) _)⟩
              case measure => exact HM.out
            · rw [crashL_no hbit, HGET.out] at hcr
              have HCR2 := Lib.hid hcr
              have hb : (((keep : Int) / 2 ^ i).tmod 2 == 0) = true := by
                have hq := HBE.out
                rw [e63] at hbit
                have h0 : keep >>> i % 2 = 0 := by omega
                rw [h0] at hq
                exact beq_iff_eq.2 hq
              have HN8 := Lib.hid (show (s.take left ++ u[a].drop left).length = 128 by rw [List.length_append, List.length_take, List.length_drop, HS8.out, HU8.out]; omega)
              obtain ⟨S, hS⟩ : ∃ S : ByteArray, ⟨s.toArray⟩ = S := ⟨_, rfl⟩
              obtain ⟨U, hU⟩ : ∃ U : ByteArray, ⟨u[a].toArray⟩ = U := ⟨_, rfl⟩
              have hSz : S.size = 128 := by rw [← hS, str_size]; exact HS8.out
              have hUz : U.size = 128 := by rw [← hU, str_size]; exact HU8.out
              have hadd : ∀ W, (Op.stringOp .add (S.extract 0 left) (U.extract left U.size)).run Try.prog W = .ok (.string ⟨(s.take left ++ u[a].drop left).toArray⟩) W := fun W => by
                have e1 : S.extract 0 left = ⟨(s.take left).toArray⟩ := by rw [← hS]; apply ByteArray.ext; apply Array.ext'; simp [ByteArray.data_extract, List.extract_eq_take_drop]
                have e2 : U.extract left U.size = ⟨(u[a].drop left).toArray⟩ := by
                  rw [hUz, ← hU]; apply ByteArray.ext; apply Array.ext'
                  simp only [ByteArray.data_extract, List.extract_toArray, List.extract_eq_take_drop]
                  rw [List.take_of_length_le (by rw [List.length_drop]; have := HU8.out; omega)]
                rw [e1, e2, run_string_add W _ _ (by rw [str_size, List.length_take]; have := HS8.out; omega) (by rw [str_size, List.length_drop]; have := HU8.out; omega), str_cat]
              rw [hS] at k1'
              rw [hU] at ks
              have i1 : (0 : Int) ≤ (left : Int) := by omega
              have i2 : (left : Int) ≤ (S.size : Int) := by omega
              have i3 : (left : Int) ≤ (U.size : Int) := by omega
              have i4 : left ≤ S.size := by omega
              have i5 : left ≤ U.size := by omega
              clear hcr hbit e63 hS hU hSz hUz
              generalize hN : s.take left ++ u[a].drop left = N at hadd HCR2 HN8
              clear hN
              go_upto_region 14 with fail
              go_quiet (fail)
              go_upto_region 16 with fail
              go_quiet (fail)
              go_wp2_with fail
              refine (rflaid_any (HSN.out.on (rf_drewN _ _)) (by rw [HUL.out]; exact hs) a hau (N)).mono ?_
              rintro e2 w2 ⟨v2, rfl, htb⟩
              obtain ⟨A2, cap2, rfl, -, -⟩ := htb.texts.form
              have hbw2 := (rf_drewN wr _).trans (htb.below.mono (rf_drewN wr _).size)
              have hp2 := (hbw2.block w.heap.size (heap_lt HP.out)).trans HP.out
              have hq2 := (hbw2.block (w.heap.size + 1) (heap_lt HQ.out)).trans HQ.out
              have c20 : w2.cell? ⟨w.heap.size, 0, none⟩ = some (.slice (some ⟨g', o', none⟩) u.length cap') := by rw [cell_of_row _ _ _ _ _ _ hp2]; rfl
              have f20 : w2.frozen? ⟨w.heap.size, 0, none⟩ = false := by simp [World.frozen?, hp2]
              have HP2 := Lib.hid hp2; have HQ2 := Lib.hid hq2; have HB2 := Lib.hid hbw2; have HTB := Lib.hid htb; have HLT := Lib.hid (heap_lt HP.out)
              clear hp2 hq2 hbw2 htb
              go_wp2_with fail
              go_roundw
              case rel => exact ⟨i + 1, 0, u.set a (N), _, hlt, Nat.zero_le _, rfl, by go_num, HCR2, Lib.hid (by rw [List.length_set]; exact HUL.out), Lib.hid (fun y hy => by
                  rcases List.mem_or_eq_of_mem_set hy with hy | rfl
                  · exact HUB.out y hy
                  · exact HN8.out), Lib.hid (HTB.out.seen_far (by have := HLT.out; exact this) _), Lib.hid (by rw [List.length_set]; exact Go.heap_setCell_same w2 w.heap.size 0 _ _ (.slice A2 u.length cap2) HP2.out), Lib.hid ((Below.heap_setCell _ _ _ _ (by simp)).trans HQ2.out), Lib.hid ((HBW.out.trans (HB2.out.mono (by have := HBW.out.size; exact this))).setCell (p := ⟨w.heap.size, 0, none⟩) (Nat.le_refl _) _)⟩
              case measure => exact HM.out
        · have hend : i = d.loose.length := by omega
          have HFIN := Lib.hid (show u = crashL keep 0 (cutT torn) d.loose d.sure by rw [← HCR.out, hend, List.drop_length]; rfl)
          have z4 : ¬ i < d.loose.length := hlt
          obtain ⟨A', cap', rfl, -, -⟩ := HSN.out.form
          have hp := HP.out
          have hq := HQ.out
          have p2 : wr.cell? ⟨w.heap.size, 2, none⟩ = some (.int .i64 d.steps) := by rw [cell_of_row _ _ _ _ _ _ hp]; rfl
          have p3 : wr.cell? ⟨w.heap.size, 3, none⟩ = some (.slice C F.length f) := by rw [cell_of_row _ _ _ _ _ _ hp]; rfl
          have p4 : wr.cell? ⟨w.heap.size, 4, none⟩ = some (.bool false) := by rw [cell_of_row _ _ _ _ _ _ hp]; rfl
          have q0 : wr.cell? ⟨w.heap.size + 1, 0, none⟩ = some (.slice none 0 0) := by rw [cell_of_row _ _ _ _ _ _ hq]; rfl
          have q1 : wr.cell? ⟨w.heap.size + 1, 1, none⟩ = some (.slice none 0 0) := by rw [cell_of_row _ _ _ _ _ _ hq]; rfl
          have q2 : wr.cell? ⟨w.heap.size + 1, 2, none⟩ = some (.int .i64 0) := by rw [cell_of_row _ _ _ _ _ _ hq]; rfl
          have q3 : wr.cell? ⟨w.heap.size + 1, 3, none⟩ = some (.slice none 0 0) := by rw [cell_of_row _ _ _ _ _ _ hq]; rfl
          have q4 : wr.cell? ⟨w.heap.size + 1, 4, none⟩ = some (.bool false) := by rw [cell_of_row _ _ _ _ _ _ hq]; rfl
          have pf1 : wr.frozen? ⟨w.heap.size, 1, none⟩ = false := by simp [World.frozen?, hp]
          have pf4 : wr.frozen? ⟨w.heap.size, 4, none⟩ = false := by simp [World.frozen?, hp]
          have qf0 : wr.frozen? ⟨w.heap.size + 1, 0, none⟩ = false := by simp [World.frozen?, hq]
          have qf1 : wr.frozen? ⟨w.heap.size + 1, 1, none⟩ = false := by simp [World.frozen?, hq]
          have qf2 : wr.frozen? ⟨w.heap.size + 1, 2, none⟩ = false := by simp [World.frozen?, hq]
          have qf3 : wr.frozen? ⟨w.heap.size + 1, 3, none⟩ = false := by simp [World.frozen?, hq]
          have qf4 : wr.frozen? ⟨w.heap.size + 1, 4, none⟩ = false := by simp [World.frozen?, hq]
          clear hp hq
          go_wp2_with fail
          have hres := crashW_res HQ.out (.slice A' u.length cap') (.int .i64 d.steps) (.slice C F.length f)
          have r0 := cell_of_row _ _ 0 _ _ _ hres
          have r1 := cell_of_row _ _ 1 _ _ _ hres
          have r2 := cell_of_row _ _ 2 _ _ _ hres
          have r3 := cell_of_row _ _ 3 _ _ _ hres
          have r4 := cell_of_row _ _ 4 _ _ _ hres
          simp only [List.getElem?_toArray, List.getElem?_cons_zero, List.getElem?_cons_succ] at r0 r1 r2 r3 r4
          change bodyPost _ _ _ _ _ (crashW wr w.heap.size (.slice A' u.length cap') (.int .i64 d.steps) (.slice C F.length f))
          exact bodyPost_ret (v := .agg #[.slice A' u.length cap', .slice none 0 0, .int .i64 d.steps, .slice C F.length f, .bool true]) (by simp [results, Try.results36, go_sem, r0, r1, r2, r3, r4]) rfl ⟨_, rfl, by rw [HCD.out]; exact ⟨_, _, _, rfl, by rw [← HFIN.out]; exact crashW_seen HP.out HQ.out HSN.out _ _ _, SeenL.nil _, H3.out.on (crashW_below HBW.out _ _ _)⟩, crashW_below HBW.out _ _ _⟩
  · have hcd : crashD d keep torn = d := by unfold crashD; rw [ho]; rfl
    have HCD := Lib.hid hcd
    clear hcd
    rw [ho] at hbox
    have hB := (hbox.alloc hbox.size (.cells #[.slice A d.sure.length c, .slice L d.loose.length e, .int .i64 d.steps, .slice C F.length f, .bool true] 31))
    have HB := Lib.hid hB
    clear hbox hB
    go_enter Try.func36, Try.ntmps36
    go_wp2_with fail
    exact bodyPost_ret (v := .agg #[.slice A d.sure.length c, .slice L d.loose.length e, .int .i64 d.steps, .slice C F.length f, .bool true]) (by simp [results, Try.results36, go_sem]) rfl ⟨_, rfl, by rw [HCD.out]; exact ⟨_, _, _, by rw [ho], H0.out.on HB.out, H1.out.on HB.out, H3.out.on HB.out⟩, HB.out⟩

end Go.Proofs.Ytbdjdeddghdefaa
