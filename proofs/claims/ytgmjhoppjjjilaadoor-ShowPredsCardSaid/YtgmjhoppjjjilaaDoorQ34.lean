/- SpU, SpV, SpW -/
import Derived.Test.YtgmjhoppjjjilaaDoorQ33

/- show: Value -/
namespace Go.Proofs.YtgmjhoppjjjilaaDoor
open Go.ChangeShapes Go.WideShapes Go.ChangeAt Go.RowKit Go.Fl
open Go.Shelf

set_option maxHeartbeats 4000000 in
set_option maxRecDepth 100000 in
theorem told_val {x : T} (hV : VT x) {w : World} {v : Value} (he : EnvT w) (hr : RdS w (fun q => q < w.heap.size) x v) (hlen : (shT x).length ≤ 99999999000) :
    Calls Tryd.prog 20 #[v, .func (.func 21) #[] #[]] w fun z w' => z = .returned (.string (ofL (shT x))) ∧ Below w.heap.size w w' := by
  obtain ⟨k, bb, n, f, s, l⟩ := x
  obtain ⟨A, cap, rfl, -⟩ := hr.open
  obtain ⟨W1, hW1⟩ : ∃ W, w.alloc (.cells #[.int .i64 k, .bool bb, .int .i64 n, .float .f64 f, .string s, .slice A l.length cap] 25) = W := ⟨_, rfl⟩
  have hb1 : Below w.heap.size w W1 := hW1 ▸ (Below.refl _ w).alloc (Nat.le_refl _) _
  have z1 : W1.heap[w.heap.size]? = some (.cells #[.int .i64 k, .bool bb, .int .i64 n, .float .f64 f, .string s, .slice A l.length cap] 25 (0, 0)) := hW1 ▸ heap_alloc_new w _
  have hR := RBx.start w W1 hb1
  obtain ⟨W2, hW2⟩ : ∃ W, W1.alloc (.cells #[.pointer none, .slice none 0 0] 78) = W := ⟨_, rfl⟩
  rw [hW2] at hR
  have hb2 : Below W1.heap.size W1 W2 := hW2 ▸ (Below.refl _ W1).alloc (Nat.le_refl _) _
  have z2 := (hb2.block _ (Array.getElem?_eq_some_iff.1 z1).1).trans z1
  have hlt1 : w.heap.size < W1.heap.size := (Array.getElem?_eq_some_iff.1 z1).1
  have hr2 : RdS W2 (fun q => q < W1.heap.size) (.mk k bb n f s l) (.agg #[.int .i64 k, .bool bb, .int .i64 n, .float .f64 f, .string s, .slice A l.length cap]) := RdS.keepS (S := fun q => q < w.heap.size) (fun p (hp : p.block < w.heap.size) => (hb2.cell (Nat.lt_trans hp hlt1)).trans (hb1.cell hp)) (fun q (hq : q < w.heap.size) => Nat.lt_trans hq hlt1) hr
  have HC := Lib.hid (hV w W2 W1.heap.size [] _ hR he hr2 (by rw [List.length_nil]; omega))
  obtain ⟨⟨x0, x1, x2, x3, x4, x5⟩, -, xl⟩ := six_cells z2
  have HB := Lib.hid (hb1.trans (hb2.mono hb1.size))
  clear hr he hV hb1 z1 hR hb2 z2 hr2 hlen
  go_enter Tryd.func20, Tryd.ntmps20
  go_wp2_with fail
  refine HC.out.mono ?_
  rintro e w3 ⟨rfl, hR3, hB3, hF3⟩
  have HS := Lib.hid (rbx_str hR3)
  clear hR3 hB3 hF3
  go_wp2_with fail
  refine HS.out.mono ?_
  rintro e w4 ⟨rfl, hb4, -⟩
  have HB4 := Lib.hid hb4
  clear hb4
  go_wp2_with fail
  go_ret
  exact ⟨by first | rfl | simp, HB4.out⟩

theorem show_value {x : T} (hsm : smT' x) {w : World} {v : Value} (he : EnvT w) (hr : RdS w (fun q => q < w.heap.size) x v) (hlen : (shT x).length ≤ 99999999000) :
    Calls Tryd.prog 8 #[v] w fun z w' => z = .returned (.string (ofL (shT x))) ∧ Below w.heap.size w w' := by
  have hva := value_any x hsm
  obtain ⟨k, bb, n, f, s, l⟩ := x
  obtain ⟨A, cap, rfl, -⟩ := hr.open
  have HC := Lib.hid (fun (W : World) (hb : Below w.heap.size w W) => told_val hva (he.on hb) (RdS.keepS (S := fun q => q < w.heap.size) (fun p (hp : p.block < w.heap.size) => hb.cell hp) (fun q (hq : q < w.heap.size) => Nat.lt_of_lt_of_le hq hb.size) hr) hlen)
  have HB := Lib.hid ((Below.refl _ w).alloc (Nat.le_refl _) (.cells #[.int .i64 k, .bool bb, .int .i64 n, .float .f64 f, .string s, .slice A l.length cap] 25))
  clear he hr hlen hsm hva
  go_enter Tryd.func8, Tryd.ntmps8
  go_wp2_with fail
  refine (HC.out _ HB.out).mono ?_
  rintro e w1 ⟨rfl, hb1⟩
  have HB1 := Lib.hid (HB.out.trans (hb1.mono HB.out.size))
  clear hb1
  go_wp2_with fail
  go_ret
  exact ⟨rfl, HB1.out⟩

end Go.Proofs.YtgmjhoppjjjilaaDoor

/- show: the document's hex, Text, Number -/
namespace Go.Proofs.YtgmjhoppjjjilaaDoor
open Go.ChangeShapes Go.WideShapes Go.ChangeAt Go.RowKit Go.Fl
open Go.Shelf

def hexL : List UInt8 := [48, 49, 50, 51, 52, 53, 54, 55, 56, 57, 97, 98, 99, 100, 101, 102]

theorem hexL_fin : ∀ n : Fin 16, (hexL.take (n.val + 1)).drop n.val = [hexC n.val] := by decide +kernel

theorem sl_hex (n : Nat) (h : n < 16) (W : World) :
    (Instr.slice 9 (.string ⟨#[48, 49, 50, 51, 52, 53, 54, 55, 56, 57, 97, 98, 99, 100, 101, 102]⟩) (some (.int .u8 (n : Nat))) (some (.int .u8 ((n : Int) + 1))) none).run Tryd.prog W = .ok (.string (ofL [hexC n])) W := by
  have hs : (⟨#[48, 49, 50, 51, 52, 53, 54, 55, 56, 57, 97, 98, 99, 100, 101, 102]⟩ : ByteArray) = ⟨hexL.toArray⟩ := rfl
  have hM : (n : Int) + 1 = ((n + 1 : Nat) : Int) := by omega
  rw [hs, hM]
  have hsz := str_size hexL
  have hl : hexL.length = 16 := rfl
  rw [hl] at hsz
  have hu := run_underlying (P := Tryd.prog) Tryd.underlying9 W
  have b1 : (Instr.sliceBound (.int .u8 ((n + 1 : Nat) : Int)) 16 .sliceAlen).run Tryd.prog W = .ok (n + 1) W := by
    have := run_sliceBound (P := Tryd.prog) W .u8 ((n + 1 : Nat) : Int) 16 .sliceAlen (by omega) (by omega)
    rwa [Int.toNat_natCast] at this
  have b2 : (Instr.sliceBound (.int .u8 (n : Int)) (n + 1) .sliceB).run Tryd.prog W = .ok n W := by
    have := run_sliceBound (P := Tryd.prog) W .u8 (n : Int) (n + 1) .sliceB (by omega) (by omega)
    rwa [Int.toNat_natCast] at this
  have e : (Instr.slice 9 (.string ⟨hexL.toArray⟩) (some (.int .u8 (n : Int))) (some (.int .u8 ((n + 1 : Nat) : Int))) none).run Tryd.prog W = .ok (.string ((⟨hexL.toArray⟩ : ByteArray).extract n (n + 1))) W := by
    simp only [Instr.slice, Sem.run_bind, hu, Result.andThen_ok, Instr.sliceBounds, hsz]
    simp [b1, b2, -Int.natCast_add]
  have ex : (⟨hexL.toArray⟩ : ByteArray).extract n (n + 1) = ofL [hexC n] := by
    have hf := hexL_fin ⟨n, h⟩
    apply ByteArray.ext
    apply Array.toList_inj.1
    simp only [ByteArray.data_extract, Array.toList_extract, List.extract_eq_take_drop]
    rw [← hf]
    show _ = (hexL.take (n + 1)).drop n
    rw [List.drop_take]
  rw [e, ex]

set_option maxHeartbeats 2000000 in
set_option maxRecDepth 100000 in
theorem rhex_any (c : UInt8) (w : World) : Calls Tryd.prog 23 #[.int .u8 (c.toNat : Nat)] w fun e w' => e = .returned (.string (ofL [hexC (c.toNat / 16), hexC (c.toNat % 16)])) ∧ Below w.heap.size w w' := by
  have hlt := c.toNat_lt
  obtain ⟨x, hx⟩ : ∃ x, c.toNat / 16 = x := ⟨_, rfl⟩
  obtain ⟨y, hy⟩ : ∃ y, c.toNat % 16 = y := ⟨_, rfl⟩
  have hx16 : x < 16 := by omega
  have hy16 : y < 16 := by omega
  rw [hx, hy]
  have ex : (c.toNat : Int) / 16 = (x : Int) := by omega
  have ey : (c.toNat : Int) % 16 = (y : Int) := by omega
  have i1 : (x : Int) + 1 ≤ 16 := by omega
  have i2 : (y : Int) + 1 ≤ 16 := by omega
  have w1 : IntKind.u8.wrap ((x : Int) + 1) = (x : Int) + 1 := by rw [IntKind.wrap_u8]; omega
  have w2 : IntKind.u8.wrap ((y : Int) + 1) = (y : Int) + 1 := by rw [IntKind.wrap_u8]; omega
  have hcx := sl_hex x hx16
  have hcy := sl_hex y hy16
  have hadd : ∀ W, (Op.stringOp .add (ofL [hexC x]) (ofL [hexC y])).run Tryd.prog W = .ok (.string (ofL [hexC x, hexC y])) W := fun W => ofL_add [hexC x] [hexC y] (by simp) W
  clear hx hy hlt
  go_enter Tryd.func23, Tryd.ntmps23
  go_wp2_with fail
  go_big_quiet (fail)
  go_wp2_with fail
  exact bodyPost_ret (v := .string (ofL [hexC x, hexC y])) (by simp [results, Tryd.results23, go_sem]) rfl ⟨rfl, ⟨rfl, rfl, rfl, Nat.le_refl _, fun _ _ => rfl⟩⟩

end Go.Proofs.YtgmjhoppjjjilaaDoor

/- show: the document's Text -/
namespace Go.Proofs.YtgmjhoppjjjilaaDoor
open Go.ChangeShapes Go.WideShapes Go.ChangeAt Go.RowKit Go.Fl
open Go.Shelf

theorem ext_one (S : ByteArray) (k : Nat) (hk : k < S.size) : S.extract k (k + 1) = ofL [S[k]] := by
  apply ByteArray.ext
  apply Array.toList_inj.1
  rw [mid_list, take_snocS S k hk, List.drop_append_of_le_length (by rw [List.length_take, len_list]; omega)]
  rw [List.drop_of_length_le (by rw [List.length_take]; omega)]
  rfl

set_option maxRecDepth 100000 in
theorem sl_midT (S : ByteArray) (a b : Nat) (hab : a ≤ b) (hb : b ≤ S.size) (n : Int) (hn : n = (b : Nat)) (W : World) :
    (Instr.slice 9 (.string S) (some (.int .i64 (a : Nat))) (some (.int .i64 n)) none).run Tryd.prog W = .ok (.string (S.extract a b)) W := by
  have h := sl_mid (s := S.data.toList) (n := (a : Nat)) (m := n) (N := a) (M := b) rfl hn hab (by rw [len_list]; exact hb) W
  have e : (⟨S.data.toList.toArray⟩ : ByteArray) = S := ofL_list S
  rw [e] at h
  rw [h]
  congr 2
  apply ByteArray.ext
  apply Array.toList_inj.1
  rw [mid_list]

theorem sl_oneS (S : ByteArray) (k : Nat) (hk : k < S.size) (W : World) :
    (Instr.slice 9 (.string S) (some (.int .i64 (k : Nat))) (some (.int .i64 ((k : Int) + 1))) none).run Tryd.prog W = .ok (.string (ofL [S[k]])) W := by
  rw [sl_midT S k (k + 1) (by omega) (by omega) ((k : Int) + 1) (by omega) W, ext_one S k hk]

theorem sayC_hex {c : UInt8} (h : c.toNat < 32 ∨ 126 < c.toNat) : sayC c = [92, 120, hexC (c.toNat / 16), hexC (c.toNat % 16)] := by
  have hp : plnB c = false := by
    unfold plnB
    rcases h with h | h
    · rw [decide_eq_false (by omega), Bool.false_and]
    · rw [decide_eq_false (p := c.toNat ≤ 126) (by omega), Bool.and_false]
  unfold sayC; rw [hp]; rfl

theorem sayC_esc {c : UInt8} (h : c = 39 ∨ c = 92) : sayC c = [92, c] := by
  rcases h with rfl | rfl <;> rfl

theorem sayC_self {c : UInt8} (h1 : 32 ≤ c.toNat) (h2 : c.toNat ≤ 126) (h3 : ¬ c = 39) (h4 : ¬ c = 92) : sayC c = [c] := by
  have hp : plnB c = true := by unfold plnB; rw [decide_eq_true h1, decide_eq_true h2]; rfl
  unfold sayC; rw [hp, if_neg (by simp), if_neg (fun h => h.elim h3 h4)]

set_option maxHeartbeats 4000000 in
set_option maxRecDepth 100000 in
theorem rtext_any (S : ByteArray) (w : World) (hs : S.size ≤ 100000) :
    Calls Tryd.prog 24 #[.string S] w fun e w' => e = .returned (.string (ofL (textL S.data.toList))) ∧ Below w.heap.size w w' := by
  go_enter Tryd.func24, Tryd.ntmps24
  go_wp2_with fail
  go_loopw [3, 4] (fun so si wr => ∃ (k : Nat) (X : List UInt8), so = .string (ofL X) ∧ si = .int .i64 k ∧ k ≤ S.size ∧ X.length ≤ 400001 ∧ Hid (X = 39 :: sayL (S.data.toList.take k)) ∧ Hid (Below w.heap.size w wr)) (fun _ si _ => S.size - (intOf si).toNat)
  case atStart => exact ⟨0, [39], rfl, rfl, Nat.zero_le _, by simp, Lib.hid (by simp [sayL]), Lib.hid (Below.refl _ _)⟩
  case round =>
    obtain ⟨k, X, rfl, rfl, hk, hX, HX, HB⟩ := hrel
    rename World => wr
    by_cases hlt : k < S.size
    · have hlt1 : decide ((k : Int) < (S.size : Int)) = true := by rw [decide_eq_true_eq]; omega
      have HN : ∀ Y, Y = X ++ sayC S[k] → Hid (Y = 39 :: sayL (S.data.toList.take (k + 1))) := fun Y hY => Lib.hid (by
        rw [hY, HX.out, take_snocS S k hlt, sayL_append, show sayL [S[k]] = sayC S[k] by simp [sayL], List.cons_append])
      have HM : ∀ Y, Hid (Y = 39 :: sayL (S.data.toList.take (k + 1))) → Y.length ≤ 400001 := fun Y hY => by
        have hb := sayL_len (S.data.toList.take (k + 1))
        have hb2 : (S.data.toList.take (k + 1)).length ≤ k + 1 := List.length_take_le _ _
        rw [hY.out, List.length_cons]; omega
      have HS := Lib.hid (sl_oneS S k hlt)
      have hcl := S[k].toNat_lt
      by_cases n1 : S[k].toNat = 39
      · have f1 : ((S[k].toNat : Int) == 39) = true := by rw [beq_iff_eq]; omega
        have g1 : decide ((S[k].toNat : Int) < 32) = false := by rw [decide_eq_false_iff_not]; omega
        have g2 : decide ((126 : Int) < (S[k].toNat : Int)) = false := by rw [decide_eq_false_iff_not]; omega
        have ec : sayC S[k] = [92, S[k]] := sayC_esc (by first | exact .inl (UInt8.toNat_inj.1 n1) | exact .inr (UInt8.toNat_inj.1 n2))
        have r1 : ∀ W, (Op.stringOp .add (ofL X) ⟨#[92]⟩).run Tryd.prog W = .ok (.string (ofL (X ++ [92]))) W := fun W => ofL_add X [92] (by simp; omega) W
        have r2 : ∀ W, (Op.stringOp .add (ofL (X ++ [92])) (ofL [S[k]])).run Tryd.prog W = .ok (.string (ofL (X ++ [92, S[k]]))) W := fun W => by have := ofL_add (P := Tryd.prog) (X ++ [92]) [S[k]] (by simp; omega) W; rwa [List.append_assoc] at this
        have HY := HN (X ++ [92, S[k]]) (by rw [ec])
        have HYM := Lib.hid (HM _ HY)
        clear ec HN HM HX
        have s1 := HS.out
        clear HS
        go_wp2_with fail
        -- WALK q
        go_roundw
        case rel => exact ⟨k + 1, X ++ [92, S[k]], rfl, by go_num, by omega, HYM.out, HY, HB⟩
        case measure => simp [intOf]; omega
      · by_cases n2 : S[k].toNat = 92
        · have f1 : ((S[k].toNat : Int) == 39) = false := by rw [beq_eq_false_iff_ne]; omega
          have f2 : ((S[k].toNat : Int) == 92) = true := by rw [beq_iff_eq]; omega
          have g1 : decide ((S[k].toNat : Int) < 32) = false := by rw [decide_eq_false_iff_not]; omega
          have g2 : decide ((126 : Int) < (S[k].toNat : Int)) = false := by rw [decide_eq_false_iff_not]; omega
          have ec : sayC S[k] = [92, S[k]] := sayC_esc (by first | exact .inl (UInt8.toNat_inj.1 n1) | exact .inr (UInt8.toNat_inj.1 n2))
          have r1 : ∀ W, (Op.stringOp .add (ofL X) ⟨#[92]⟩).run Tryd.prog W = .ok (.string (ofL (X ++ [92]))) W := fun W => ofL_add X [92] (by simp; omega) W
          have r2 : ∀ W, (Op.stringOp .add (ofL (X ++ [92])) (ofL [S[k]])).run Tryd.prog W = .ok (.string (ofL (X ++ [92, S[k]]))) W := fun W => by have := ofL_add (P := Tryd.prog) (X ++ [92]) [S[k]] (by simp; omega) W; rwa [List.append_assoc] at this
          have HY := HN (X ++ [92, S[k]]) (by rw [ec])
          have HYM := Lib.hid (HM _ HY)
          clear ec HN HM HX
          have s1 := HS.out
          clear HS
          go_wp2_with fail
          -- WALK b
          go_roundw
          case rel => exact ⟨k + 1, X ++ [92, S[k]], rfl, by go_num, by omega, HYM.out, HY, HB⟩
          case measure => simp [intOf]; omega
        · by_cases n3 : S[k].toNat < 32
          · have f1 : ((S[k].toNat : Int) == 39) = false := by rw [beq_eq_false_iff_ne]; omega
            have f2 : ((S[k].toNat : Int) == 92) = false := by rw [beq_eq_false_iff_ne]; omega
            have g1 : decide ((S[k].toNat : Int) < 32) = true := by rw [decide_eq_true_eq]; omega
            have ec : sayC S[k] = [92, 120, hexC (S[k].toNat / 16), hexC (S[k].toNat % 16)] := sayC_hex (by omega)
            have HH := Lib.hid (fun W => rhex_any S[k] W)
            obtain ⟨T, hT⟩ : ∃ T, [hexC (S[k].toNat / 16), hexC (S[k].toNat % 16)] = T := ⟨_, rfl⟩
            rw [hT] at HH
            have hTl : T.length = 2 := by rw [← hT]; rfl
            have r1 : ∀ W, (Op.stringOp .add ⟨#[92, 120]⟩ (ofL T)).run Tryd.prog W = .ok (.string (ofL (92 :: 120 :: T))) W := fun W => ofL_add [92, 120] T (by rw [hTl]; decide) W
            have r2 : ∀ W, (Op.stringOp .add (ofL X) (ofL (92 :: 120 :: T))).run Tryd.prog W = .ok (.string (ofL (X ++ (92 :: 120 :: T)))) W := fun W => ofL_add X (92 :: 120 :: T) (by rw [List.length_cons, List.length_cons, hTl]; omega) W
            have HY := HN (X ++ (92 :: 120 :: T)) (by rw [ec, ← hT])
            clear hT hTl
            have HYM := Lib.hid (HM _ HY)
            clear ec HN HM HX
            clear HS
            go_wp2_with fail
            -- WALK lo
            refine (HH.out _).mono ?_
            rintro e w2 ⟨rfl, hb2⟩
            have HB2 := Lib.hid (HB.out.trans (hb2.mono HB.out.size))
            clear hb2
            go_wp2_with fail
            go_roundw
            case rel => exact ⟨k + 1, X ++ (92 :: 120 :: T), rfl, by go_num, by omega, HYM.out, HY, HB2⟩
            case measure => simp [intOf]; omega
          · by_cases n4 : 126 < S[k].toNat
            · have f1 : ((S[k].toNat : Int) == 39) = false := by rw [beq_eq_false_iff_ne]; omega
              have f2 : ((S[k].toNat : Int) == 92) = false := by rw [beq_eq_false_iff_ne]; omega
              have g1 : decide ((S[k].toNat : Int) < 32) = false := by rw [decide_eq_false_iff_not]; omega
              have g2 : decide ((126 : Int) < (S[k].toNat : Int)) = true := by rw [decide_eq_true_eq]; omega
              have ec : sayC S[k] = [92, 120, hexC (S[k].toNat / 16), hexC (S[k].toNat % 16)] := sayC_hex (by omega)
              have HH := Lib.hid (fun W => rhex_any S[k] W)
              obtain ⟨T, hT⟩ : ∃ T, [hexC (S[k].toNat / 16), hexC (S[k].toNat % 16)] = T := ⟨_, rfl⟩
              rw [hT] at HH
              have hTl : T.length = 2 := by rw [← hT]; rfl
              have r1 : ∀ W, (Op.stringOp .add ⟨#[92, 120]⟩ (ofL T)).run Tryd.prog W = .ok (.string (ofL (92 :: 120 :: T))) W := fun W => ofL_add [92, 120] T (by rw [hTl]; decide) W
              have r2 : ∀ W, (Op.stringOp .add (ofL X) (ofL (92 :: 120 :: T))).run Tryd.prog W = .ok (.string (ofL (X ++ (92 :: 120 :: T)))) W := fun W => ofL_add X (92 :: 120 :: T) (by rw [List.length_cons, List.length_cons, hTl]; omega) W
              have HY := HN (X ++ (92 :: 120 :: T)) (by rw [ec, ← hT])
              clear hT hTl
              have HYM := Lib.hid (HM _ HY)
              clear ec HN HM HX
              clear HS
              go_wp2_with fail
              -- WALK hi
              refine (HH.out _).mono ?_
              rintro e w2 ⟨rfl, hb2⟩
              have HB2 := Lib.hid (HB.out.trans (hb2.mono HB.out.size))
              clear hb2
              go_wp2_with fail
              go_roundw
              case rel => exact ⟨k + 1, X ++ (92 :: 120 :: T), rfl, by go_num, by omega, HYM.out, HY, HB2⟩
              case measure => simp [intOf]; omega
            · have f1 : ((S[k].toNat : Int) == 39) = false := by rw [beq_eq_false_iff_ne]; omega
              have f2 : ((S[k].toNat : Int) == 92) = false := by rw [beq_eq_false_iff_ne]; omega
              have g1 : decide ((S[k].toNat : Int) < 32) = false := by rw [decide_eq_false_iff_not]; omega
              have g2 : decide ((126 : Int) < (S[k].toNat : Int)) = false := by rw [decide_eq_false_iff_not]; omega
              have ec : sayC S[k] = [S[k]] := sayC_self (by omega) (by omega) (fun h => n1 (by rw [h]; rfl)) (fun h => n2 (by rw [h]; rfl))
              have r1 : ∀ W, (Op.stringOp .add (ofL X) (ofL [S[k]])).run Tryd.prog W = .ok (.string (ofL (X ++ [S[k]]))) W := fun W => ofL_add X [S[k]] (by simp; omega) W
              have HY := HN (X ++ [S[k]]) (by rw [ec])
              have HYM := Lib.hid (HM _ HY)
              clear ec HN HM HX
              have s1 := HS.out
              clear HS
              go_wp2_with fail
              -- WALK no
              go_roundw
              case rel => exact ⟨k + 1, X ++ [S[k]], rfl, by go_num, by omega, HYM.out, HY, HB⟩
              case measure => simp [intOf]; omega
    · have hlt1 : decide ((k : Int) < (S.size : Int)) = false := by rw [decide_eq_false_iff_not]; omega
      have Ht : Hid (textL S.data.toList = X ++ [39]) := Lib.hid (by
        rw [HX.out, List.take_of_length_le (by rw [len_list]; omega), List.cons_append]; rfl)
      have r1 : ∀ W, (Op.stringOp .add (ofL X) ⟨#[39]⟩).run Tryd.prog W = .ok (.string (ofL (X ++ [39]))) W := fun W => ofL_add X [39] (by simp; omega) W
      clear HX
      go_wp2_with fail
      go_ret
      exact ⟨by rw [Ht.out]; rfl, HB.out⟩

end Go.Proofs.YtgmjhoppjjjilaaDoor
