/- the reference's Laid -/
import Derived.Test.YtaoaidjbpfdgmaaLogT
namespace Go.Proofs.Ytaoaidjbpfdgmaa
open Go.ChangeShapes Go.WideShapes Go.ChangeAt Go.RowKit

/-- an entry's sectors -/
def laidL (next : Nat) (s : Sec) : List Sec := (List.range (sectN s.length)).map (secS next s)

/-- the first so many of them -/
def laidN (next : Nat) (s : Sec) (j : Nat) : List Sec := (List.range j).map (secS next s)

theorem laidN_succ (next : Nat) (s : Sec) (j : Nat) : laidN next s (j + 1) = laidN next s j ++ [secS next s j] := by
  unfold laidN
  rw [List.range_succ, List.map_append]; rfl

theorem laidN_len (next : Nat) (s : Sec) (j : Nat) : (laidN next s j).length = j := by simp [laidN]

/-- noughts up to where the last sector ends -/
def fullT (s : Sec) : Nat := 104 + 128 * (sectN s.length - 1)

theorem fill_get {s : Sec} {T : Nat} (h : s.length ≤ T) (i : Nat) : (fillS s T)[i]? = if i < s.length then s[i]? else if i < T then some 0 else none := by
  unfold fillS
  rw [List.getElem?_append]
  by_cases h1 : i < s.length
  · rw [if_pos h1, if_pos h1]
  · rw [if_neg h1, if_neg h1, List.getElem?_replicate]
    by_cases h2 : i < T
    · rw [if_pos (by omega), if_pos h2]
    · rw [if_neg (by omega), if_neg h2]

theorem fill_front {s : Sec} {T : Nat} (h : s.length ≤ T) (hT : 104 ≤ T) : (fillS s T).take 104 = fillS (s.take 104) 104 := by
  apply List.ext_getElem?
  intro i
  rw [List.getElem?_take, fill_get h, fill_get (by rw [List.length_take]; omega), List.length_take, List.getElem?_take]
  by_cases h1 : i < 104
  · rw [if_pos h1]
    by_cases h2 : i < s.length
    · rw [if_pos h2, if_pos (by omega), if_pos h1]
    · rw [if_neg h2, if_pos (by omega), if_neg (by omega), if_pos h1]
  · rw [if_neg h1, if_neg (by omega), if_neg h1]

theorem fill_part {s : Sec} {T i : Nat} (h : s.length ≤ T) (hT : 104 + 128 * (i + 1) ≤ T) : ((fillS s T).take (104 + 128 * (i + 1))).drop (104 + 128 * i) = partS (s.drop 104) i := by
  unfold partS
  rw [List.drop_drop]
  apply List.ext_getElem?
  intro j
  rw [List.getElem?_drop, List.getElem?_take, fill_get h, fill_get (by rw [List.length_take]; omega), List.length_take, List.getElem?_take, List.getElem?_drop, List.length_drop]
  by_cases h1 : j < 128
  · rw [if_pos (by omega)]
    by_cases h2 : 104 + 128 * i + j < s.length
    · rw [if_pos h2, if_pos (by omega), if_pos h1]
    · rw [if_neg h2, if_pos (by omega), if_neg (by omega), if_pos h1]
  · rw [if_neg (by omega), if_neg (by omega), if_neg h1]

theorem TB.one {w0 w : World} (hb : Below w0.heap.size w0 w) (s : Sec) : TB w0 (.slice (some ⟨w.heap.size, 0, Option.none⟩) 1 1) [s] (w.alloc (.cells #[.string ⟨s.toArray⟩] 9)) :=
  ⟨hb.trans ((Below.refl _ w).alloc hb.size _), by simp, .inr ⟨w.heap.size, 1, _, rfl, hb.size, heap_alloc_last w _, by simp, by decide, rfl, rfl⟩⟩

theorem nought_add (s : Sec) (j : Nat) : s ++ List.replicate j 0 ++ [(0 : UInt8)] = s ++ List.replicate (j + 1) 0 := by
  rw [List.append_assoc, List.replicate_succ']

theorem meas_lt (K i : Nat) (h : i + 1 < K) : K - ((i : Int) + 1 + 1).toNat < K - (((i + 1 : Nat) : Int)).toNat := by
  have t1 : ((i : Int) + 1 + 1).toNat = i + 1 + 1 := Int.toNat_natCast (i + 1 + 1)
  have t2 : (((i + 1 : Nat) : Int)).toNat = i + 1 := Int.toNat_natCast _
  rw [t1, t2]
  exact Nat.sub_lt_sub_left h (Nat.lt_succ_self _)

theorem w64 {n : Int} (h1 : -9223372036854775808 ≤ n) (h2 : n ≤ 9223372036854775807) : wrap64 n = n := wrap64_id (is64_iff.2 ⟨h1, h2⟩)

theorem laid_wraps (i : Nat) (h : i ≤ 100000) : wrap64 (((i + 1 : Nat) : Int) - 1) = (i : Int) ∧ wrap64 (i : Int) = (i : Int) ∧ wrap64 (128 * (i : Int)) = 128 * (i : Int) ∧ wrap64 (104 + 128 * (i : Int)) = 104 + 128 * (i : Int) ∧
    wrap64 (128 * ((i : Int) + 1)) = 128 * ((i : Int) + 1) ∧ wrap64 (104 + 128 * ((i : Int) + 1)) = 104 + 128 * ((i : Int) + 1) ∧ wrap64 ((i : Int) + 1 + 1) = (i : Int) + 1 + 1 :=
  ⟨by rw [w64 (by omega) (by omega)]; omega, w64 (by omega) (by omega), w64 (by omega) (by omega), w64 (by omega) (by omega), w64 (by omega) (by omega), w64 (by omega) (by omega), w64 (by omega) (by omega)⟩

theorem laid_wraps0 (K T : Nat) (h : 1 ≤ K) (hK : K ≤ 100000) (hT : T = 104 + 128 * (K - 1)) : wrap64 ((K : Int) - 1) = ((K - 1 : Nat) : Int) ∧ wrap64 (128 * ((K - 1 : Nat) : Int)) = 128 * ((K - 1 : Nat) : Int) ∧ wrap64 (104 + 128 * ((K - 1 : Nat) : Int)) = (T : Int) :=
  ⟨by rw [w64 (by omega) (by omega)]; omega, w64 (by omega) (by omega), by rw [w64 (by omega) (by omega)]; omega⟩

set_option maxRecDepth 100000 in
set_option maxHeartbeats 4000000 in
theorem laid_any (next : Nat) (hn : next < 18446744073709551616) (s : Sec) (hs : s.length ≤ 60000) (w : World) :
    Calls Try.prog 22 #[.int .u64 next, .string ⟨s.toArray⟩] w fun e w' => ∃ v, e = .returned v ∧ TB w v (laidL next s) w' := by
  have hk1 := sectN_pos s.length
  have hk2 : s.length ≤ fullT s := sectN_fits
  have hk3 : sectN s.length ≤ 1 + s.length := sectN_le _
  have HR := Lib.hid (fun W => refsect_any s.length (by omega) W)
  have hl := fun W => len_str s 3 W
  have hT : fullT s = 104 + 128 * (sectN s.length - 1) := rfl
  have hLL : laidL next s = laidN next s (sectN s.length) := rfl
  have HLL := Lib.hid hLL
  clear hLL
  generalize fullT s = T at hk2 hT
  obtain ⟨K, hK⟩ : ∃ K, K = sectN s.length := ⟨_, rfl⟩
  rw [← hK] at HR hk1 hk3 hT HLL
  have HWS := Lib.hid (laid_wraps0 K T hk1 (by omega) hT)
  have HN : Hid (s.length ≤ 60000 ∧ 1 ≤ K ∧ K ≤ 1 + s.length ∧ T = 104 + 128 * (K - 1) ∧ s.length ≤ T) := Lib.hid ⟨hs, hk1, hk3, hT, hk2⟩
  have hlz : ∀ (j : Nat) W, (Builtin.len_ #[9] 3 #[.string ⟨(s ++ List.replicate j (0 : UInt8)).toArray⟩]).run Try.prog W = .ok (.int .i64 ((s.length + j : Nat) : Int)) W := fun j W => by
    rw [len_str, List.length_append, List.length_replicate]
  clear hs hk1 hk2 hk3 hT hK
  go_enter Try.func22, Try.ntmps22
  go_wp2_with (first
    | (go_at_call 19; (with_reducible refine (HR.out _).mono ?_); rintro e w1 ⟨rfl, rfl⟩)
    | fail)
  clear hl
  go_loopw [1] (fun sv wr => ∃ j : Nat, s.length + j ≤ T ∧ sv = .string ⟨(s ++ List.replicate j (0 : UInt8)).toArray⟩ ∧ Hid (w = wr)) (fun sv _ => match sv with | .string b => T - b.size | _ => 0)
  case atStart => exact ⟨0, HN.out.2.2.2.2, by simp, Lib.hid rfl⟩
  case round =>
    obtain ⟨j, hj, rfl, HW⟩ := hrel
    have hl2 := fun W => hlz j W
    by_cases hlt : s.length + j < T
    · have d1 : decide ((s.length : Int) + (j : Int) < (T : Int)) = true := by simp; omega
      have hb := HN.out
      have hadd : ∀ W, (Op.stringOp .add ⟨(s ++ List.replicate j (0 : UInt8)).toArray⟩ ⟨#[0]⟩).run Try.prog W = .ok (.string ⟨(s ++ List.replicate (j + 1) (0 : UInt8)).toArray⟩) W := fun W => by
        have := run_string_add (P := Try.prog) W ⟨(s ++ List.replicate j (0 : UInt8)).toArray⟩ ⟨[(0 : UInt8)].toArray⟩ (by rw [str_size, List.length_append, List.length_replicate]; omega) (by rw [str_size]; decide)
        rw [str_cat, nought_add] at this
        exact this
      have HI : Hid (s.length + (j + 1) ≤ T ∧ T - (s.length + (j + 1)) < T - (s.length + j)) := Lib.hid ⟨by omega, by omega⟩
      clear hb hj hlt
      obtain ⟨w1, w2, w3⟩ := HWS.out
      go_wp2_with fail
      go_roundw
      case rel => exact ⟨j + 1, HI.out.1, rfl, HW⟩
      case measure =>
        show T - ByteArray.size _ < T - ByteArray.size _
        rw [str_size, str_size]
        simp only [List.length_append, List.length_replicate]
        exact HI.out.2
    · have hjT : s.length + j = T := by omega
      have hfs : s ++ List.replicate j (0 : UInt8) = fillS s T := by
        unfold fillS
        rw [← hjT, Nat.add_sub_cancel_left]
      have hb := HN.out
      have c1 : ¬ s.length + j < T := hlt
      have HW1 : Hid (Below w.heap.size w wr) := Lib.hid (by rw [HW.out]; exact Below.refl _ _)
      have hfll : (fillS (s.take 104) 104).length = 104 := fillS_len (by rw [List.length_take]; omega)
      have hft : (fillS s T).take 104 = fillS (s.take 104) 104 := fill_front hb.2.2.2.2 (by omega)
      have hfl : (fillS s T).length = T := fillS_len hb.2.2.2.2
      have hsl := fun W => sl_head (s := fillS s T) (n := 104) (N := 104) rfl (by rw [hfl]; omega) W
      rw [hft] at hsl
      have a1 : ∀ W, (Op.stringOp .add ⟨(eightL next).toArray⟩ ⟨(eightL s.length).toArray⟩).run Try.prog W = .ok (.string ⟨(eightL next ++ eightL s.length).toArray⟩) W := fun W => by
        rw [run_string_add W _ _ (by rw [str_size, eightL_len]; omega) (by rw [str_size, eightL_len]; omega), str_cat]
      have a2 : ∀ W, (Op.stringOp .add ⟨(eightL next ++ eightL s.length).toArray⟩ ⟨(fillS (s.take 104) 104).toArray⟩).run Try.prog W = .ok (.string ⟨(eightL next ++ eightL s.length ++ fillS (s.take 104) 104).toArray⟩) W := fun W => by
        rw [run_string_add W _ _ (by rw [str_size]; simp only [List.length_append, eightL_len]; omega) (by rw [str_size, hfll]; omega), str_cat]
      have a3 : ∀ W, (Op.stringOp .add ⟨(eightL next ++ eightL s.length ++ fillS (s.take 104) 104).toArray⟩ ⟨(eightL next).toArray⟩).run Try.prog W = .ok (.string ⟨(headS next s).toArray⟩) W := fun W => by
        rw [run_string_add W _ _ (by rw [str_size]; simp only [List.length_append, eightL_len, hfll]; omega) (by rw [str_size, eightL_len]; omega), str_cat]; rfl
      have hcv : IntKind.u64.wrap (s.length : Int) = (s.length : Int) := IntWalk.u64_in _ (by omega)
      have h8 : ∀ wn, Below w.heap.size w wn → Calls Try.prog 47 #[.int .u64 next] wn fun e w' => e = .returned (.string ⟨(eightL next).toArray⟩) ∧ Below w.heap.size w w' := fun wn hbl =>
        (reight_any next wn hn).mono fun e w' p => ⟨by rw [p.1, eightL_str], hbl.trans (p.2.mono hbl.size)⟩
      have h8s : ∀ wn, Below w.heap.size w wn → Calls Try.prog 47 #[.int .u64 s.length] wn fun e w' => e = .returned (.string ⟨(eightL s.length).toArray⟩) ∧ Below w.heap.size w w' := fun wn hbl =>
        (reight_any s.length wn (by omega)).mono fun e w' p => ⟨by rw [p.1, eightL_str], hbl.trans (p.2.mono hbl.size)⟩
      have hone := fun wn (hbl : Below w.heap.size w wn) => TB.one hbl (headS next s)
      have hl1 : laidN next s 1 = [headS next s] := rfl
      rw [← hl1] at hone
      simp only [hfs]
      clear hl2 hlz hfll hft hl1 hn hlt hjT hj hb
      generalize headS next s = hd at a3 hone
      generalize eightL next ++ eightL s.length ++ fillS (s.take 104) 104 = z2 at a2 a3
      generalize eightL next ++ eightL s.length = z1 at a1 a2
      generalize eightL next = x8 at a1 a3 h8
      generalize eightL s.length = y8 at a1 h8s
      generalize fillS (s.take 104) 104 = ft at a2 hsl
      have H8 := Lib.hid h8; have H8s := Lib.hid h8s; have HONE := Lib.hid hone; have HFS := Lib.hid hfs; have HFL := Lib.hid hfl
      clear h8 h8s hone hfl
      have hl3 := fun W => len_str (fillS s T) 3 W
      rw [HFL.out] at hl3
      have c2 : decide ((T : Int) < (T : Int)) = false := by simp
      clear hfs c1
      generalize hfe : fillS s T = full at hsl HFS HFL hl3 ⊢
      have HFE := Lib.hid hfe
      clear hfe
      have hbd := (HW1.out).drew
      obtain ⟨w1, w2, w3⟩ := HWS.out
      go_upto_region 5 with fail
      (try simp only [w1, w2, w3])
      clear w1 w2 w3
      go_cut [7] from 22 to 34 (fun x wx => Hid (TB w x (laidN next s 1) wx))
      case first =>
        go_region_held3 (fun w' => Below w.heap.size w w')
          (first | exact hbd | assumption | exact Below.alloc (by assumption) (Below.size (by assumption)) _)
          (first
            | (go_at_call 47; (with_reducible refine (H8.out _ (by assumption)).mono ?_); rintro e wf ⟨rfl, hbf⟩)
            | (go_at_call 47; (with_reducible refine (H8s.out _ (by assumption)).mono ?_); rintro e wg ⟨rfl, hbg⟩))
        all_goals (go_wp2_with fail; go_meet; exact HONE.out _ (by assumption))
      case rest =>
        clear a1 a2 a3 hsl hl3 hcv H8 H8s hbd
        go_wp2_with fail
        go_loopw [7, 8] (fun sv si wr => ∃ i : Nat, i + 1 ≤ K ∧ si = .int .i64 ((i + 1 : Nat) : Int) ∧ Hid (TB w sv (laidN next s (i + 1)) wr)) (fun _ si _ => K - (intOf si).toNat)
        case atStart => exact ⟨0, HN.out.2.1, by first | rfl | simp, hcut⟩
        case round =>
          obtain ⟨i, hi, rfl, HL⟩ := hrel
          by_cases hlt : i + 1 < K
          · have hb := HN.out
            have HE := Lib.hid (laid_wraps i (by omega))
            have hsl := fun W => sl_mid (s := full) (n := 104 + 128 * (i : Int)) (m := 104 + 128 * ((i : Int) + 1)) (N := 104 + 128 * i) (M := 104 + 128 * (i + 1)) (by omega) (by omega) (by omega) (by rw [HFL.out]; omega) W
            have hp : (full.take (104 + 128 * (i + 1))).drop (104 + 128 * i) = secS next s (i + 1) := by
              rw [← HFE.out]
              exact fill_part hb.2.2.2.2 (by omega)
            rw [hp] at hsl
            have hap := fun wn v (hb : TB w v (laidN next s (i + 1)) wn) => tb_append hb (secS next s (i + 1)) (by rw [laidN_len]; omega) 27
            rw [← laidN_succ] at hap
            have HI : Hid (i + 1 + 1 ≤ K ∧ K - (i + 1 + 1) < K - (i + 1)) := Lib.hid ⟨by omega, by omega⟩
            have HM : Hid (K - ((i : Int) + 1 + 1).toNat < K - (((i + 1 : Nat) : Int)).toNat) := Lib.hid (meas_lt K i hlt)
            have d1 : decide ((i : Int) + 1 < (K : Int)) = true := by simp; omega
            obtain ⟨v4, w4, hr4, hl4⟩ := hap _ _ HL.out
            clear hb hp hap
            generalize secS next s (i + 1) = sec at hsl hr4
            obtain ⟨e1, e1', e2, e3, e4, e5, e6⟩ := HE.out
            clear hlt
            go_wp2_with (first
              | (at_builtin; refine Lib.wpList_append_run _ rfl _ _ _ _ rfl _ _ rfl rfl _ _ hr4 ?_)
              | fail)
            go_roundw
            case rel => exact ⟨i + 1, HI.out.1, by congr 1, Lib.hid hl4⟩
            case measure =>
              rw [e6]
              clear e1 e1' e2 e3 e4 e5 e6
              exact HM.out
          · have hK : i + 1 = K := by omega
            have d1 : decide ((i : Int) + 1 < (K : Int)) = false := by simp; omega
            have hL := HL.out
            rw [hK, ← HLL.out] at hL
            have HL2 := Lib.hid hL
            clear hL hlt hi
            go_wp2_with fail
            go_ret
            exact ⟨_, rfl, HL2.out⟩

end Go.Proofs.Ytaoaidjbpfdgmaa
