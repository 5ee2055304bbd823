/- a page read of its bytes -/
import Derived.Test.YtdfkahkomcfoeaaPgF
namespace Go.Proofs.Ytdfkahkomcfoeaa
open Go.ChangeShapes Go.WideShapes Go.ChangeAt Go.RowKit

theorem wd_two_lt (s : List UInt8) : wd (s.take 2) < 65536 := by
  have h1 := wd_lt (s.take 2)
  have h2 : (s.take 2).length ≤ 2 := by rw [List.length_take]; omega
  have h3 : 256 ^ (s.take 2).length ≤ 256 ^ 2 := Nat.pow_le_pow_right (by decide) h2
  omega

theorem wide_any_str (s : List UInt8) (w : World) (hs : s.length ≤ 100000) : Calls Try.prog 38 #[.string ⟨s.toArray⟩] w fun e w' => e = .returned (.int .u64 (wd (s.take 8) : Nat)) ∧ w = w' := by
  have := wide_any ⟨s.toArray⟩ w (by rw [str_size]; omega)
  rw [wide_str] at this
  exact this

theorem number_any (s : List UInt8) (w : World) (h2 : 2 ≤ s.length) (hs : s.length ≤ 100000) : Calls Try.prog 37 #[.string ⟨s.toArray⟩] w fun e w' => e = .returned (.int .i64 (wd (s.take 2) : Nat)) ∧ w = w' := by
  have hw := wide_any_str (s.take 2) w (by rw [List.length_take]; omega)
  rw [List.take_take, show min 8 2 = 2 by rfl] at hw
  have hl := wd_two_lt s
  have hsl := fun W => sl_head (s := s) (n := 2) (N := 2) rfl h2 W
  generalize wd (s.take 2) = x at hw hl ⊢
  have hx : wrap64 (x : Int) = (x : Int) := wrap64_id (is64_iff.2 (by omega))
  have hx2 : IntKind.i64.wrap (x : Int) = (x : Int) := by rw [IntKind.wrap_i64]; omega
  have HW := Lib.hid hw
  generalize s.take 2 = t at HW hsl
  clear hw hs h2 hl
  go_enter Try.func37, Try.ntmps37
  go_wp2_with (first
    | (go_at_call 38; (with_reducible refine HW.out.mono ?_); rintro e w1 ⟨rfl, rfl⟩)
    | fail)
  go_ret
  exact ⟨rfl, rfl⟩

theorem IsPg.mono {n m : Nat} {w : World} {P : Nat} {v : Value} {l : Pg} (h : IsPg n w P v l) (hm : m ≤ n) : IsPg m w P v l := by
  refine ⟨h.blk, ⟨h.row.1, ?_⟩, h.ne, Nat.le_trans hm h.ge, h.ok⟩
  rcases h.row.2 with h2 | ⟨g, cap, cur, e, hb, r⟩
  · exact .inl h2
  · exact .inr ⟨g, cap, cur, e, Nat.le_trans hm hb, r⟩

/-- a page of a call's own that changed: nothing that was there ahead of the call did -/
theorem PgStep.below {n : Nat} {w w' : World} {P : Nat} {v : Value} {l l' : Pg} {r : Value} {e : Ending} (h : IsPg n w P v l) (hs : PgStep n w P v l' r e w') : Below n w w' := by
  obtain ⟨-, v', -, ho, -⟩ := hs
  refine ho.below (by have := h.lt; have := h.ge; omega) ?_
  rintro k (rfl | hk)
  · exact h.ge
  · exact (h.row.lt k hk.symm).1

/-- what read answers -/
def readR (s : List UInt8) : Option Pg := if 42 < wd (s.take 2) then none else readP s (wd (s.take 2)) (s.drop 2) []

def ReadOk (w : World) (o : Option Pg) (e : Ending) (w' : World) : Prop :=
  Below w.heap.size w w' ∧ match o with
    | none => e = .returned (.tuple #[.pointer none, .bool false])
    | some l => ∃ P v, e = .returned (.tuple #[.pointer (some ⟨P, 0, none⟩), .bool true]) ∧ IsPg w.heap.size w' P v l

theorem readP_succ (s : List UInt8) (n : Nat) (sl : List UInt8) (l : Pg) : readP s (n + 1) sl l =
    if 512 < wd ((sl.drop 8).take 2) + wd ((sl.drop 10).take 2) then none
    else if (putR l (wd (sl.take 8)) ((s.take (wd ((sl.drop 8).take 2) + wd ((sl.drop 10).take 2))).drop (wd ((sl.drop 8).take 2)))).2 = true then readP s n (sl.drop 12) (putR l (wd (sl.take 8)) ((s.take (wd ((sl.drop 8).take 2) + wd ((sl.drop 10).take 2))).drop (wd ((sl.drop 8).take 2)))).1 else none := by
  rw [readP]
  unfold putR
  split
  · rfl
  · generalize putL l (wd (sl.take 8)) ((s.take (wd ((sl.drop 8).take 2) + wd ((sl.drop 10).take 2))).drop (wd ((sl.drop 8).take 2))) = L
    by_cases h : usedP L ≤ 512
    · rw [if_neg (by omega)]; simp [h]
    · rw [if_pos (by omega)]; simp [h]

theorem wd8_lt (s : List UInt8) : wd (s.take 8) < 18446744073709551616 := wd_le8 _ (k := 8) (by rw [List.length_take]; omega) (Nat.le_refl _)

set_option maxHeartbeats 2000000 in
set_option maxRecDepth 100000 in
theorem read_any (s : List UInt8) (hs : s.length = 512) (w : World) : Calls Try.prog 24 #[.string ⟨s.toArray⟩] w (ReadOk w (readR s)) := by
  have HN := Lib.hid (fun wn => number_any s wn (by omega) (by omega))
  have hN := wd_two_lt s
  have hdl : (s.drop 2).length = 510 := by rw [List.length_drop, hs]
  have hsl := fun W => sl_tail (s := s) (n := 2) (N := 2) rfl (by omega) W
  have hln := fun W => len_str (s.drop 2) 3 W
  rw [hdl] at hln
  by_cases hn : 42 < wd (s.take 2)
  · have hR : readR s = none := if_pos hn
    rw [hR]
    generalize wd (s.take 2) = N at HN hN hn
    generalize s.drop 2 = sl at hsl hln hdl
    have b1 : decide ((42 : Int) < (N : Int)) = true := by simp; omega
    go_enter Try.func24, Try.ntmps24
    go_wp2_with fail
    go_region_with (go_at_call 37; (with_reducible refine (HN.out _).mono ?_); rintro e w1 ⟨rfl, rfl⟩)
    all_goals
      go_wp2_with fail
      go_ret2
      exact ⟨(Below.refl _ _).drew, rfl⟩
  · have HR : Hid (readR s = readP s (wd (s.take 2)) (s.drop 2) []) := Lib.hid (if_neg hn)
    generalize wd (s.take 2) = N at HN hN hn HR
    obtain ⟨sl, hsl0⟩ : ∃ sl, s.drop 2 = sl := ⟨_, rfl⟩
    rw [hsl0] at hsl hln hdl HR
    have b1 : decide ((42 : Int) < (N : Int)) = false := by simp; omega
    have HNW : Hid (∀ wn, Below w.heap.size w wn → Calls Try.prog 7 #[] wn fun e w' => ∃ P, e = .returned (.pointer (some ⟨P, 0, none⟩)) ∧ IsPg w.heap.size w' P (.slice none 0 0) [] ∧ Below w.heap.size w w') := Lib.hid fun wn hb =>
      (pg_new wn).mono fun e w' p => ⟨_, p.1, p.2.1.mono hb.size, hb.trans (p.2.2.mono hb.size)⟩
    clear hsl0
    go_enter Try.func24, Try.ntmps24
    go_wp2_with fail
    go_cut [4, 5] from 9 to 12 (fun x4 x5 wx => x4 = .int .i64 N ∧ x5 = .string ⟨sl.toArray⟩ ∧ Below w.heap.size w wx)
    case first =>
      go_region_with (go_at_call 37; (with_reducible refine (HN.out _).mono ?_); rintro e w1 ⟨rfl, rfl⟩)
      all_goals (go_wp2_with fail; go_meet; exact ⟨rfl, rfl, (Below.refl _ _).drew⟩)
    case rest =>
      obtain ⟨rfl, rfl, hb0⟩ := hcut
      go_wp2_with (first
        | (go_at_call 7; (with_reducible refine (HNW.out _ (by assumption)).mono ?_); rintro e w1 ⟨P, rfl, hp1, hb1⟩; have HP1 := Lib.hid hp1; have HB1 := Lib.hid hb1; clear hp1 hb1)
        | fail)
      go_loopg [4, 5] N (fun g sn ss wr => ∃ (k : Nat) (sl' : List UInt8) (l : Pg) (v : Value), sn = .int .i64 k ∧ ss = .string ⟨sl'.toArray⟩ ∧ k ≤ g ∧ 12 * k ≤ sl'.length ∧ sl'.length ≤ 510 ∧ Hid (readP s N sl [] = readP s k sl' l) ∧ Hid (IsPg w.heap.size wr P v l) ∧ Hid (Below w.heap.size w wr))
      case atStart => exact ⟨N, sl, [], _, rfl, rfl, Nat.le_refl _, by omega, by omega, rfl, HP1.out, HB1.out⟩
      case round =>
        obtain ⟨k, sl', l, v, rfl, rfl, hk, h12, h510, HQ, HP, HB⟩ := hrel
        cases k with
        | zero =>
          go_wp2_with fail
          go_ret2
          refine ⟨HB.out, ?_⟩
          rw [HR.out, HQ.out]
          exact ⟨P, v, rfl, HP.out⟩
        | succ k =>
          have hq := HQ.out
          rw [readP_succ] at hq
          have hs8 := fun W => sl_tail (s := sl') (n := 8) (N := 8) rfl (by omega) W
          have hs10 := fun W => sl_tail (s := sl') (n := 10) (N := 10) rfl (by omega) W
          have hs12 := fun W => sl_tail (s := sl') (n := 12) (N := 12) rfl (by omega) W
          have HN8 := Lib.hid (fun wn => number_any (sl'.drop 8) wn (by rw [List.length_drop]; omega) (by rw [List.length_drop]; omega))
          have HN10 := Lib.hid (fun wn => number_any (sl'.drop 10) wn (by rw [List.length_drop]; omega) (by rw [List.length_drop]; omega))
          have hB := wd_two_lt (sl'.drop 8)
          have hZ := wd_two_lt (sl'.drop 10)
          have hls := fun W => len_str s 3 W
          rw [hs] at hls
          have hdl12 : (sl'.drop 12).length = sl'.length - 12 := List.length_drop
          have hkz : (0 : Int) < (k : Int) + 1 := by omega
          generalize wd ((sl'.drop 8).take 2) = B at hq HN8 hB
          generalize wd ((sl'.drop 10).take 2) = Z at hq HN10 hZ
          generalize sl'.drop 8 = s8 at hs8 HN8
          generalize sl'.drop 10 = s10 at hs10 HN10
          have HWD := Lib.hid (fun wn => wide_any_str sl' wn (by omega))
          have hid := wd8_lt sl'
          generalize wd (sl'.take 8) = ID at hq HWD hid
          go_wp2_with fail
          go_cut [7, 8] from 23 to 28 (fun x7 x8 wy => x7 = .int .i64 B ∧ x8 = .int .i64 Z ∧ Hid (IsPg w.heap.size wy P v l) ∧ Hid (Below w.heap.size w wy))
          case first =>
            go_region_with (first
              | (go_at_call 37; (with_reducible refine (HN8.out _).mono ?_); rintro e w1 ⟨rfl, rfl⟩)
              | (go_at_call 37; (with_reducible refine (HN10.out _).mono ?_); rintro e w1 ⟨rfl, rfl⟩))
            all_goals (go_wp2_with fail; go_meet; exact ⟨rfl, rfl, HP.out.on (Below.refl _ _).drew, HB.out.drew⟩)
          case rest =>
            obtain ⟨rfl, rfl, HP2, HB2⟩ := hcut
            by_cases hbz : 512 < B + Z
            · rw [if_pos hbz] at hq
              have HQ2 := Lib.hid hq
              have b2 : decide ((512 : Int) < (B : Int) + (Z : Int)) = true := by simp; omega
              have hwz : IntKind.i64.wrap ((B : Int) + (Z : Int)) = (B : Int) + (Z : Int) := by rw [IntKind.wrap_i64]; omega
              clear hq hbz
              go_wp2_with fail
              go_region
              all_goals
                go_wp2_with fail
                go_ret2
                refine ⟨HB2.out.drew, ?_⟩
                rw [HR.out, HQ2.out]
                rfl
            · rw [if_neg hbz] at hq
              have b2 : decide ((512 : Int) < (B : Int) + (Z : Int)) = false := by simp; omega
              have hmid := fun W => sl_mid (s := s) (n := (B : Int)) (m := (B : Int) + (Z : Int)) (N := B) (M := B + Z) rfl (by omega) (by omega) (by omega) W
              have htl : ((s.take (B + Z)).drop B).length ≤ 512 := by rw [List.length_drop, List.length_take]; omega
              generalize (s.take (B + Z)).drop B = t at hmid hq htl
              have HPU : Hid (∀ wn, IsPg w.heap.size wn P v l → Calls Try.prog 14 #[.pointer (some ⟨P, 0, none⟩), .int .u64 ID, .string ⟨t.toArray⟩] wn fun e w' => e = .returned (.bool (putR l ID t).2) ∧ ∃ v', IsPg w.heap.size w' P v' (putR l ID t).1 ∧ Below w.heap.size wn w') := Lib.hid fun wn hp =>
                (pg_put hp ID hid t (by omega)).mono fun e w' p => ⟨p.1, by obtain ⟨-, v', hp', ho, hv⟩ := id p; exact ⟨v', hp', PgStep.below hp p⟩⟩
              have HQ2 := Lib.hid hq
              clear hq
              generalize hres : putR l ID t = res at HPU HQ2
              obtain ⟨l2, ok⟩ := res
              simp only at HPU HQ2
              have hwz : IntKind.i64.wrap ((B : Int) + (Z : Int)) = (B : Int) + (Z : Int) := by rw [IntKind.wrap_i64]; omega
              have hp3 := HP2.out.on (Below.refl _ _).drew
              have q1 : 12 * k ≤ (sl'.drop 12).length := by omega
              have q2 : (sl'.drop 12).length ≤ 510 := by omega
              have q3 : k ≤ k := Nat.le_refl _
              have HZ := Lib.hid (And.intro q1 q2)
              have HK := Lib.hid (show k < gk from by omega)
              have HK2 := Lib.hid (show k ≤ 42 from by omega)
              clear hres hbz HN8 HN10 hs8 hs10 hkz hdl12 hk h12 h510 hB hZ hid htl hln hsl hN hn hdl b1 HNW HP1 HB1 hb0 hs HN q1 q2 q3
              have hkz : (0 : Int) < (k : Int) + 1 := by omega
              have HWK : Hid (wrap64 (k : Int) = (k : Int)) := Lib.hid (wrap64_id (is64_iff.2 (by have := HK2.out; omega)))
              cases ok with
              | false =>
                rw [if_neg (by simp)] at HQ2
                go_wp2_with fail
                refine region_tail 16 (by kernel_rfl) (by kernel_rfl) ?_
                simp only [List.take_succ_cons, List.take_zero, List.drop_succ_cons, List.drop_zero]
                repeat still_step
                still_call ((HWD.out _).mono (fun e w1 p => ⟨p.1, p.2.symm⟩))
                repeat still_step
                refine wpStill_nil ?_
                go_wp2_with (first
                  | (go_at_call 14; (with_reducible refine (HPU.out _ (by assumption)).mono ?_); rintro e w1 ⟨rfl, v', hp4, hb4⟩)
                  | fail)
                go_ret2
                refine ⟨HB2.out.drew.trans hb4, ?_⟩
                rw [HR.out, HQ2.out]
                rfl
              | true =>
                rw [if_pos rfl] at HQ2
                go_wp2_with fail
                refine region_tail 16 (by kernel_rfl) (by kernel_rfl) ?_
                simp only [List.take_succ_cons, List.take_zero, List.drop_succ_cons, List.drop_zero]
                repeat still_step
                still_call ((HWD.out _).mono (fun e w1 p => ⟨p.1, p.2.symm⟩))
                repeat still_step
                refine wpStill_nil ?_
                go_wp2_with (first
                  | (go_at_call 14; (with_reducible refine (HPU.out _ (by assumption)).mono ?_); rintro e w1 ⟨rfl, v', hp4, hb4⟩)
                  | fail)
                go_roundg k
                case measure => exact HK.out
                case rel => exact ⟨k, _, l2, v', by rw [HWK.out], rfl, Nat.le_refl _, HZ.out.1, HZ.out.2, HQ2, hp4, HB2.out.drew.trans hb4⟩

/-- what Decode leaves -/
def DecOk (w : World) (o : Option Pg × Int) (e : Ending) (w' : World) : Prop :=
  Below w.heap.size w w' ∧ match o.1 with
    | none => e = .returned (.tuple #[.pointer none, .int .i64 o.2])
    | some l => ∃ P v, e = .returned (.tuple #[.pointer (some ⟨P, 0, none⟩), .int .i64 o.2]) ∧ IsPg w.heap.size w' P v l

theorem decode_any (s : List UInt8) (hs : s.length ≤ 100000) (w : World) : Calls Try.prog 11 #[.string ⟨s.toArray⟩] w (DecOk w (decP s)) := by
  have hl := fun W => len_str s 3 W
  by_cases h1 : s.length < 512
  · have hd : decP s = (none, 4) := if_pos h1
    rw [hd]
    have b1 : decide ((s.length : Int) < 512) = true := by simp; omega
    clear hd
    go_enter Try.func11, Try.ntmps11
    go_wp2_with fail
    go_ret2
    exact ⟨Below.refl _ _, rfl⟩
  by_cases h2 : 512 < s.length
  · have hd : decP s = (none, 5) := by unfold decP; rw [if_neg h1, if_pos h2]
    rw [hd]
    have b1 : decide ((s.length : Int) < 512) = false := by simp; omega
    have b2 : decide ((512 : Int) < (s.length : Int)) = true := by simp; omega
    clear hd
    go_enter Try.func11, Try.ntmps11
    go_wp2_with fail
    go_ret2
    exact ⟨Below.refl _ _, rfl⟩
  have h5 : s.length = 512 := by omega
  have hd : decP s = match readR s with
      | none => (none, 6)
      | some l => if encP l = s then (some l, 0) else (none, 6) := by
    unfold decP readR
    rw [if_neg h1, if_neg h2]
    split
    · rfl
    · rfl
  have HRD := Lib.hid (read_any s h5 w)
  rw [h5] at hl
  rw [hd]
  clear hd h1 h2 hs
  cases hr : readR s with
  | none =>
    rw [hr] at HRD
    clear hr
    go_enter Try.func11, Try.ntmps11
    go_wp2_with (first
      | (go_at_call 24; (with_reducible refine HRD.out.mono ?_); rintro e w1 ⟨hb, rfl⟩)
      | fail)
    go_ret2
    exact ⟨hb, rfl⟩
  | some l =>
    rw [hr] at HRD
    clear hr
    by_cases he : encP l = s
    · have HE : Hid (∀ w1 P v, IsPg w.heap.size w1 P v l → Calls Try.prog 12 #[.pointer (some ⟨P, 0, none⟩)] w1 fun e w' => e = .returned (.string ⟨s.toArray⟩) ∧ Below w1.heap.size w1 w') := Lib.hid fun w1 P v h => by
        have := pg_encode h
        rw [he] at this; exact this
      have hif : (if encP l = s then (some l, (0 : Int)) else (none, 6)) = (some l, 0) := if_pos he
      simp only [hif]
      clear he hif h5
      go_enter Try.func11, Try.ntmps11
      go_wp2_with (first
        | (go_at_call 24; (with_reducible refine HRD.out.mono ?_); rintro e w1 ⟨hb, P, v, rfl, hp⟩; have HP := Lib.hid hp; have HB := Lib.hid hb; clear hb hp)
        | (go_at_call 12; (with_reducible refine (HE.out _ _ _ HP.out).mono ?_); rintro e w2 ⟨rfl, hb2⟩)
        | fail)
      go_ret2
      exact ⟨HB.out.trans (hb2.mono HB.out.size), P, v, rfl, HP.out.on hb2⟩
    · have HE : Hid (∀ w1 P v, IsPg w.heap.size w1 P v l → Calls Try.prog 12 #[.pointer (some ⟨P, 0, none⟩)] w1 fun e w' => e = .returned (.string ⟨(encP l).toArray⟩) ∧ Below w1.heap.size w1 w') := Lib.hid fun w1 P v h => pg_encode h
      have hif : (if encP l = s then (some l, (0 : Int)) else (none, 6)) = (none, 6) := if_neg he
      simp only [hif]
      have b4 : (encP l == s) = false := by simpa using he
      clear he hif h5
      generalize encP l = E at HE b4
      go_enter Try.func11, Try.ntmps11
      go_wp2_with (first
        | (go_at_call 24; (with_reducible refine HRD.out.mono ?_); rintro e w1 ⟨hb, P, v, rfl, hp⟩; have HP := Lib.hid hp; have HB := Lib.hid hb; clear hb hp)
        | (go_at_call 12; (with_reducible refine (HE.out _ _ _ HP.out).mono ?_); rintro e w2 ⟨rfl, hb2⟩)
        | fail)
      go_ret2
      exact ⟨HB.out.trans (hb2.mono HB.out.size), rfl⟩

end Go.Proofs.Ytdfkahkomcfoeaa
