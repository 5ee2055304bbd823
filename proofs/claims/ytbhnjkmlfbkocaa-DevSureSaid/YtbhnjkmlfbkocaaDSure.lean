/- DevSure -/
import Derived.Test.YtbhnjkmlfbkocaaDevT
import Derived.Test.YtbhnjkmlfbkocaaDevA
import Derived.Deep.RegionHeld3
namespace Go.Proofs.Ytbhnjkmlfbkocaa
open Go.ChangeShapes Go.WideShapes Go.ChangeAt Go.RowKit

/-- a device of which P holds stands there -/
def Has (P : Dv → Prop) (n : Nat) (a : World) (B S M : Nat) (w : World) : Prop := ∃ d, P d ∧ Now n a w B S M d

/-- in use: no plan, power, so many sectors -/
def Use (k : Nat) (d : Dv) : Prop := d.plan = [] ∧ d.off = false ∧ d.sure.length = k

/-- .. and the sector at a place is sure, and not loose -/
def Kept (k : Nat) (i : Nat) (s : Sec) (d : Dv) : Prop := Use k d ∧ d.sure[i]? = some s ∧ getL i d.loose = none

theorem writeD_as {k : Nat} {d : Dv} (h : Use k d) (i : Int) (s : Sec) :
    (writeD d i s).1 = d ∨ (∃ j : Nat, i = j ∧ (writeD d i s).1 = { d with steps := wrap64 (d.steps + 1), loose := putL j s d.loose }) := by
  obtain ⟨h1, h2, h3⟩ := h
  by_cases hc : 0 ≤ i ∧ i < d.sure.length ∧ s.length = 128
  · obtain ⟨j, rfl⟩ : ∃ j : Nat, i = j := ⟨i.toNat, by omega⟩
    exact .inr ⟨j, rfl, by rw [writeD_ok h1 h2 (by omega) hc.2.2]⟩
  · left
    simp only [writeD, h2]
    rw [if_neg (by simp), if_neg hc]

theorem Use.write {k : Nat} {d : Dv} (h : Use k d) (i : Int) (s : Sec) : Use k (writeD d i s).1 := by
  rcases writeD_as h i s with e | ⟨j, -, e⟩
  · rw [e]; exact h
  · rw [e]; exact h

theorem Kept.write {k i : Nat} {t : Sec} {d : Dv} (h : Kept k i t d) (j : Int) (hj : j ≠ i) (s : Sec) : Kept k i t (writeD d j s).1 := by
  refine ⟨h.1.write j s, ?_⟩
  rcases writeD_as h.1 j s with e | ⟨m, rfl, e⟩
  · rw [e]; exact h.2
  · rw [e]
    refine ⟨h.2.1, ?_⟩
    simp only
    rw [get_putL, if_neg (by omega)]
    exact h.2.2

theorem getL_no {a : Nat} : ∀ {l : List (Nat × Sec)}, getL a l = none → ∀ p ∈ l, p.1 ≠ a
  | (b, t) :: r, h, p, hp => by
    unfold getL at h
    split at h
    · cases h
    · rename_i hn
      rcases List.mem_cons.1 hp with rfl | hp
      · exact fun e => hn e.symm
      · exact getL_no h p hp

theorem crashL_at {keep a : Nat} : ∀ (i left : Nat) (l : List (Nat × Sec)) (u : List Sec), (∀ p ∈ l, p.1 ≠ a) → (crashL keep i left l u)[a]? = u[a]?
  | _, _, [], _, _ => rfl
  | i, left, (b, s) :: r, u, h => by
    have hb : b ≠ a := h (b, s) (by simp)
    have hr : ∀ p ∈ r, p.1 ≠ a := fun p hp => h p (List.mem_cons_of_mem _ hp)
    unfold crashL
    split <;> rw [crashL_at _ _ r _ hr, List.getElem?_set_ne hb]

theorem has_write {P Q : Dv → Prop} {n : Nat} {a : World} {B S M : Nat} {w : World} (h : Has P n a B S M w) (hp : ∀ d, P d → d.plan = []) (i : Int) (s : Sec) (hq : ∀ d, P d → Q (writeD d i s).1) :
    Calls Try.prog 22 #[.pointer (some ⟨B, 0, none⟩), .int .i64 i, .string ⟨s.toArray⟩] w fun e w' => ∃ z, e = .returned (.int .i64 z) ∧ Has Q n a B S M w' := by
  obtain ⟨d, hd, hn⟩ := h
  refine (now_write hn (step_nil (hp d hd)) i s).mono ?_
  rintro e w' ⟨rfl, hn'⟩
  exact ⟨_, rfl, _, hq d hd, hn'⟩

theorem has_sector {P : Dv → Prop} {n : Nat} {a : World} {B S M : Nat} {w : World} (h : Has P n a B S M w) (c : UInt8) :
    Calls Try.prog 23 #[.int .u8 (c.toNat : Int)] w fun e w' => e = .returned (.string ⟨(letter c).toArray⟩) ∧ Has P n a B S M w' := by
  obtain ⟨d, hd, hn⟩ := h
  refine (now_sector hn c).mono ?_
  rintro e w' ⟨rfl, hn'⟩
  exact ⟨rfl, d, hd, hn'⟩

theorem Has.below {P : Dv → Prop} {n : Nat} {a : World} {B S M : Nat} {w : World} (h : Has P n a B S M w) : Below n a w := by
  obtain ⟨d, -, hn⟩ := h
  exact hn.below

theorem Has.drew {P : Dv → Prop} {n : Nat} {a : World} {B S M : Nat} {w : World} (h : Has P n a B S M w) : Has P n a B S M w.drew := by
  obtain ⟨d, hd, ⟨⟨pv, hi⟩, hb, r1, r2, r3⟩⟩ := h
  exact ⟨d, hd, ⟨⟨pv, hi.drew⟩, hb.drew, r1, r2, r3⟩⟩

theorem flushP_at (l : List (Nat × Sec)) (u : List Sec) (i : Nat) : (flushP (fun _ => false) l u)[i]? = u[i]?.map fun s => (getL i l).getD s := by
  simp [flushP]

theorem kept_start {d : Dv} (h : Use 9 d) (s : Sec) :
    Kept 9 4 s { d with steps := wrap64 (wrap64 (d.steps + 1) + 1), sure := flushP (fun _ => false) (putL 4 s d.loose) d.sure, loose := [] } := by
  obtain ⟨h1, h2, h3⟩ := h
  refine ⟨⟨h1, h2, by simp only [flushP_len]; exact h3⟩, ?_, rfl⟩
  simp only [flushP_at]
  rw [List.getElem?_eq_getElem (by rw [h3]; decide), get_putL, if_pos rfl]
  rfl

theorem kept_end {d : Dv} {s : Sec} (h : Kept 9 4 s d) (keep : Nat) (torn : Int) : (crashD d keep torn).off = true ∧ readD { crashD d keep torn with off := false } 4 = (s, 0) := by
  obtain ⟨⟨h1, h2, h3⟩, h4, h5⟩ := h
  have e : crashD d keep torn = { d with sure := crashL keep 0 (cutT torn) d.loose d.sure, loose := [], off := true } := by
    simp only [crashD, h2]; rfl
  rw [e]
  refine ⟨rfl, ?_⟩
  have e2 : (crashL keep 0 (cutT torn) d.loose d.sure)[4]? = some s := by rw [crashL_at _ _ _ _ (getL_no h5)]; exact h4
  simp only [readD]
  rw [if_neg (by simp), if_pos ⟨by decide, by rw [crashL_len, h3]; decide⟩]
  have e4 : (4 : Int).toNat = 4 := rfl
  simp only [e4, List.getD_eq_getElem?_getD, e2, getL, Option.getD_none, Option.getD_some]

theorem acts_at {w w' : World} {b o : Nat} (hb : b < w.heap.size) (h : Below w.heap.size w w') {i : Nat} {v : Value} (hc : w.cell? ⟨b, o + i, none⟩ = some v) : w'.cell? ⟨b, o + i, none⟩ = some v := (h.cell hb).trans hc

set_option maxRecDepth 100000 in
set_option maxHeartbeats 4000000 in
theorem dsure_walk (l more : List Act3) (A A' : Option Addr) (cap cap' : Nat) (x0 torn : Int) (keep : Nat) (hk : keep < 18446744073709551616) (w : World) (hl : IsActs w A l) (hm : IsActs w A' more) :
    Calls Try.prog 6 #[.slice A l.length cap, .slice A' more.length cap', .agg #[.int .i64 x0, .int .u64 (keep : Int), .int .i64 torn]] w fun e w' => e = .returned (.bool true) ∧ Below w.heap.size w w' := by
  have hN := now_new (w.alloc (.cells #[.int .i64 x0, .int .u64 (keep : Int), .int .i64 torn] 40)) 9 (by decide) (Nat.le_refl _) (Below.refl _ _)
  simp only [World.size_alloc] at hN
  rw [show ((9 : Nat) : Int) = 9 from rfl] at hN
  have HK := Lib.hid hk
  have hbx := heap_alloc_last w (.cells #[.int .i64 x0, .int .u64 (keep : Int), .int .i64 torn] 40)
  have q1 : (w.alloc (.cells #[.int .i64 x0, .int .u64 (keep : Int), .int .i64 torn] 40)).cell? ⟨w.heap.size, 1, none⟩ = some (.int .u64 (keep : Int)) := by rw [cell_of_row _ _ _ _ _ _ hbx]; rfl
  have q2 : (w.alloc (.cells #[.int .i64 x0, .int .u64 (keep : Int), .int .i64 torn] 40)).cell? ⟨w.heap.size, 2, none⟩ = some (.int .i64 torn) := by rw [cell_of_row _ _ _ _ _ _ hbx]; rfl
  have hba : Below w.heap.size w (w.alloc (.cells #[.int .i64 x0, .int .u64 (keep : Int), .int .i64 torn] 40)) := (Below.refl w.heap.size w).alloc (Nat.le_refl _) _
  have hsz : (w.alloc (.cells #[.int .i64 x0, .int .u64 (keep : Int), .int .i64 torn] 40)).heap.size = w.heap.size + 1 := by simp
  have HL := Lib.hid hl; have HM := Lib.hid hm
  clear hbx hk hl hm
  go_enter Try.func6, Try.ntmps6
  go_wp2_with fail
  generalize w.alloc (.cells #[.int .i64 x0, .int .u64 (keep : Int), .int .i64 torn] 40) = a at hN q1 q2 hba hsz ⊢
  have Q1 := Lib.hid q1; have Q2 := Lib.hid q2; have HBA := Lib.hid hba; have HSZ := Lib.hid hsz
  clear q1 q2 hba hsz
  refine hN.mono ?_
  rintro e w0 ⟨rfl, h⟩
  clear hN
  go_wp2_with fail
  refine (awake3 w0).mono ?_
  rintro e w1 ⟨rfl, hb⟩
  have h := h.on hb
  clear hb
  go_wp2_with fail
  have HH : Hid (Has (Use 9) (w.heap.size + 1) a (w.heap.size + 1 + 2) (w.heap.size + 1) (w.heap.size + 1 + 1) w1) := ⟨newD 9, ⟨rfl, rfl, rfl⟩, h⟩
  clear h
  go_loopw [9] (fun si wr => ∃ i : Nat, i ≤ l.length ∧ i ≤ 20 ∧ si = .int .i64 i ∧ Hid (Has (Use 9) (w.heap.size + 1) a (w.heap.size + 1 + 2) (w.heap.size + 1) (w.heap.size + 1 + 1) wr)) (fun si _ => 20 - (intOf si).toNat)
  case atStart => exact ⟨0, Nat.zero_le _, Nat.zero_le _, rfl, HH⟩
  case round =>
    obtain ⟨i, hi, hi20, rfl, HR⟩ := hrel
    by_cases hc20 : i < l.length ∧ i < 20
    · obtain ⟨hlt, h20⟩ := hc20
      · obtain ⟨x, hx⟩ : ∃ x, l[i]? = some x := ⟨_, List.getElem?_eq_getElem hlt⟩
        obtain hnil | ⟨b, o, rfl, hblt, hc⟩ := HL.out.2
        · rw [hnil] at hlt; exact absurd hlt (Nat.not_lt_zero _)
        · obtain ⟨x0', x1', x2', x3', x4', x5', x6', xr⟩ := hc i x hx
          have hbw : Below w.heap.size w wr := HBA.out.trans (HR.out.below.mono (Nat.le_succ _))
          have g0 : wr.cell? ⟨b, o + i * 7, none⟩ = some (.int .i64 x.kind) := (hbw.cell hblt).trans x0'
          have g1 : wr.cell? ⟨b, o + i * 7 + 1, none⟩ = some (.int .i64 x.at_) := (hbw.cell hblt).trans x1'
          have g2 : wr.cell? ⟨b, o + i * 7 + 2, none⟩ = some (.int .u8 (x.c.toNat : Int)) := (hbw.cell hblt).trans x2'
          have g3 : wr.cell? ⟨b, o + i * 7 + 3, none⟩ = some (.bool x.odd) := (hbw.cell hblt).trans x3'
          have G1 := Lib.hid x1'; have G2 := Lib.hid x2'
          clear x0' x1' x2' x3' x4' x5' x6' xr hc
          cases hkd : decide (x.kind < 3)
          · go_wp2_with fail
            go_roundw
            case rel => exact ⟨i + 1, hlt, h20, by congr 1, HR⟩
            case measure => simp [intOf]; omega
          · cases hod : x.odd
            · rw [hod] at g3
              have HW : Hid (∀ wn, Has (Use 9) (w.heap.size + 1) a (w.heap.size + 1 + 2) (w.heap.size + 1) (w.heap.size + 1 + 1) wn →
                  Calls Try.prog 22 #[.pointer (some ⟨w.heap.size + 1 + 2, 0, none⟩), .int .i64 x.at_, .string ⟨(letter x.c).toArray⟩] wn fun e w' => ∃ z, e = .returned (.int .i64 z) ∧ w'.cell? ⟨b, o + i * 7 + 1, none⟩ = some (.int .i64 x.at_) ∧ w'.cell? ⟨b, o + i * 7 + 2, none⟩ = some (.int .u8 (x.c.toNat : Int)) ∧ Has (Use 9) (w.heap.size + 1) a (w.heap.size + 1 + 2) (w.heap.size + 1) (w.heap.size + 1 + 1) w') := Lib.hid fun wn hn => by
                refine (has_write hn (fun d hd => hd.1) x.at_ (letter x.c) (fun d hd => hd.write _ _)).mono ?_
                rintro e w' ⟨z, rfl, hh⟩
                have hbw' : Below w.heap.size w w' := HBA.out.trans (hh.below.mono (Nat.le_succ _))
                exact ⟨z, rfl, (hbw'.cell hblt).trans G1.out, (hbw'.cell hblt).trans G2.out, hh⟩
              have HS : Hid (∀ wn, Has (Use 9) (w.heap.size + 1) a (w.heap.size + 1 + 2) (w.heap.size + 1) (w.heap.size + 1 + 1) wn →
                  Calls Try.prog 23 #[.int .u8 (x.c.toNat : Int)] wn fun e w' => e = .returned (.string ⟨(letter x.c).toArray⟩) ∧ w'.cell? ⟨b, o + i * 7 + 1, none⟩ = some (.int .i64 x.at_) ∧ w'.cell? ⟨b, o + i * 7 + 2, none⟩ = some (.int .u8 (x.c.toNat : Int)) ∧ Has (Use 9) (w.heap.size + 1) a (w.heap.size + 1 + 2) (w.heap.size + 1) (w.heap.size + 1 + 1) w') := Lib.hid fun wn hn => by
                refine (has_sector hn x.c).mono ?_
                rintro e w' ⟨rfl, hh⟩
                have hbw' : Below w.heap.size w w' := HBA.out.trans (hh.below.mono (Nat.le_succ _))
                exact ⟨rfl, (hbw'.cell hblt).trans G1.out, (hbw'.cell hblt).trans G2.out, hh⟩
              have hr0 := HR.out.drew
              go_wp2_with fail
              go_region_held3 (fun w' => w'.cell? ⟨b, o + i * 7 + 1, none⟩ = some (.int .i64 x.at_) ∧ w'.cell? ⟨b, o + i * 7 + 2, none⟩ = some (.int .u8 (x.c.toNat : Int)) ∧ Has (Use 9) (w.heap.size + 1) a (w.heap.size + 1 + 2) (w.heap.size + 1) (w.heap.size + 1 + 1) w')
                (first | (exact ⟨by assumption, by assumption, by assumption⟩))
                (first
                  | (go_at_call 23; (with_reducible refine (HS.out _ (by go_split_ands; assumption)).mono ?_); rintro e wn ⟨rfl, hn1, hn2, hn3⟩)
                  | (go_at_call 22; (with_reducible refine (HW.out _ (by go_split_ands; assumption)).mono ?_); rintro e wn ⟨z, rfl, hn1, hn2, hn3⟩))
              all_goals
                go_wp2_with fail
                go_roundw
                case rel => exact ⟨i + 1, hlt, h20, by congr 1, by assumption⟩
                case measure => simp [intOf]; omega
            · rw [hod] at g3
              go_wp2_with fail
              go_roundw
              case rel => exact ⟨i + 1, hlt, h20, by congr 1, HR⟩
              case measure => simp [intOf]; omega
    · have hex : ¬ i < l.length ∨ (i < l.length ∧ ¬ i < 20) := by omega
      clear hc20
      rcases hex with hlt | ⟨hlt, h20⟩
      all_goals
        go_wp2_with fail
        refine (has_sector HR.out 115).mono ?_
        rintro e w2 ⟨rfl, ⟨d, hd, hn⟩⟩
        have hus := hd
        obtain ⟨hd1, hd2, hd3⟩ := hd
        go_wp2_with fail
        have hc := now_write hn (step_nil hd1) 4 (letter 115)
        have ew : writeD d 4 (letter 115) = ({ d with steps := wrap64 (d.steps + 1), loose := putL 4 (letter 115) d.loose }, 0) := writeD_ok hd1 hd2 (a := 4) (by rw [hd3]; decide) (letter_len _)
        rw [ew] at hc
        refine hc.mono ?_
        clear hn hc ew; rintro e w3 ⟨rfl, hn⟩
        go_wp2_with fail
        have hc := now_flush hn (step_nil hd1)
        rw [flushX_ok (d := { d with steps := wrap64 (d.steps + 1), loose := putL 4 (letter 115) d.loose }) hd1 hd2] at hc
        refine hc.mono ?_
        clear hn hc; rintro e w4 ⟨rfl, hn⟩
        have HK4 : Hid (Has (Kept 9 4 (letter 115)) (w.heap.size + 1) a (w.heap.size + 1 + 2) (w.heap.size + 1) (w.heap.size + 1 + 1) w4) := ⟨_, kept_start hus _, hn⟩
        clear hn hus hd1 hd2 hd3 HR
        go_wp2_with fail
        go_loopw [12] (fun si wr => ∃ i : Nat, i ≤ more.length ∧ i ≤ 20 ∧ si = .int .i64 i ∧ Hid (Has (Kept 9 4 (letter 115)) (w.heap.size + 1) a (w.heap.size + 1 + 2) (w.heap.size + 1) (w.heap.size + 1 + 1) wr)) (fun si _ => 20 - (intOf si).toNat)
        case atStart => exact ⟨0, Nat.zero_le _, Nat.zero_le _, rfl, HK4⟩
        case round =>
          obtain ⟨i, hi, hi20, rfl, HR⟩ := hrel
          by_cases hc20 : i < more.length ∧ i < 20
          · obtain ⟨hlt, h20⟩ := hc20
            obtain ⟨x, hx⟩ : ∃ x, more[i]? = some x := ⟨_, List.getElem?_eq_getElem hlt⟩
            obtain hnil | ⟨b, o, rfl, hblt, hc⟩ := HM.out.2
            · rw [hnil] at hlt; exact absurd hlt (Nat.not_lt_zero _)
            · obtain ⟨x0', x1', x2', x3', x4', x5', x6', xr⟩ := hc i x hx
              have hbw : Below w.heap.size w wr := HBA.out.trans (HR.out.below.mono (Nat.le_succ _))
              have g0 : wr.cell? ⟨b, o + i * 7, none⟩ = some (.int .i64 x.kind) := (hbw.cell hblt).trans x0'
              have g1 : wr.cell? ⟨b, o + i * 7 + 1, none⟩ = some (.int .i64 x.at_) := (hbw.cell hblt).trans x1'
              have g2 : wr.cell? ⟨b, o + i * 7 + 2, none⟩ = some (.int .u8 (x.c.toNat : Int)) := (hbw.cell hblt).trans x2'
              have G1 := Lib.hid x1'; have G2 := Lib.hid x2'
              clear x0' x1' x2' x3' x4' x5' x6' xr hc
              cases hkd : decide (x.kind < 3)
              · go_wp2_with fail
                go_roundw
                case rel => exact ⟨i + 1, hlt, h20, by congr 1, HR⟩
                case measure => simp [intOf]; omega
              · cases hat : (x.at_ == 4)
                · have h4 : x.at_ ≠ ((4 : Nat) : Int) := by simpa using hat
                  have HW : Hid (∀ wn, Has (Kept 9 4 (letter 115)) (w.heap.size + 1) a (w.heap.size + 1 + 2) (w.heap.size + 1) (w.heap.size + 1 + 1) wn →
                      Calls Try.prog 22 #[.pointer (some ⟨w.heap.size + 1 + 2, 0, none⟩), .int .i64 x.at_, .string ⟨(letter x.c).toArray⟩] wn fun e w' => ∃ z, e = .returned (.int .i64 z) ∧ w'.cell? ⟨b, o + i * 7 + 1, none⟩ = some (.int .i64 x.at_) ∧ w'.cell? ⟨b, o + i * 7 + 2, none⟩ = some (.int .u8 (x.c.toNat : Int)) ∧ Has (Kept 9 4 (letter 115)) (w.heap.size + 1) a (w.heap.size + 1 + 2) (w.heap.size + 1) (w.heap.size + 1 + 1) w') := Lib.hid fun wn hn => by
                    refine (has_write hn (fun d hd => hd.1.1) x.at_ (letter x.c) (fun d hd => hd.write _ h4 _)).mono ?_
                    rintro e w' ⟨z, rfl, hh⟩
                    have hbw' : Below w.heap.size w w' := HBA.out.trans (hh.below.mono (Nat.le_succ _))
                    exact ⟨z, rfl, (hbw'.cell hblt).trans G1.out, (hbw'.cell hblt).trans G2.out, hh⟩
                  have HS : Hid (∀ wn, Has (Kept 9 4 (letter 115)) (w.heap.size + 1) a (w.heap.size + 1 + 2) (w.heap.size + 1) (w.heap.size + 1 + 1) wn →
                      Calls Try.prog 23 #[.int .u8 (x.c.toNat : Int)] wn fun e w' => e = .returned (.string ⟨(letter x.c).toArray⟩) ∧ w'.cell? ⟨b, o + i * 7 + 1, none⟩ = some (.int .i64 x.at_) ∧ w'.cell? ⟨b, o + i * 7 + 2, none⟩ = some (.int .u8 (x.c.toNat : Int)) ∧ Has (Kept 9 4 (letter 115)) (w.heap.size + 1) a (w.heap.size + 1 + 2) (w.heap.size + 1) (w.heap.size + 1 + 1) w') := Lib.hid fun wn hn => by
                    refine (has_sector hn x.c).mono ?_
                    rintro e w' ⟨rfl, hh⟩
                    have hbw' : Below w.heap.size w w' := HBA.out.trans (hh.below.mono (Nat.le_succ _))
                    exact ⟨rfl, (hbw'.cell hblt).trans G1.out, (hbw'.cell hblt).trans G2.out, hh⟩
                  have hr0 := HR.out.drew
                  clear h4
                  go_wp2_with fail
                  go_region_held3 (fun w' => w'.cell? ⟨b, o + i * 7 + 1, none⟩ = some (.int .i64 x.at_) ∧ w'.cell? ⟨b, o + i * 7 + 2, none⟩ = some (.int .u8 (x.c.toNat : Int)) ∧ Has (Kept 9 4 (letter 115)) (w.heap.size + 1) a (w.heap.size + 1 + 2) (w.heap.size + 1) (w.heap.size + 1 + 1) w')
                    (first | (exact ⟨by assumption, by assumption, by assumption⟩))
                    (first
                      | (go_at_call 23; (with_reducible refine (HS.out _ (by go_split_ands; assumption)).mono ?_); rintro e wn ⟨rfl, hn1, hn2, hn3⟩)
                      | (go_at_call 22; (with_reducible refine (HW.out _ (by go_split_ands; assumption)).mono ?_); rintro e wn ⟨z, rfl, hn1, hn2, hn3⟩))
                  all_goals
                    go_wp2_with fail
                    go_roundw
                    case rel => exact ⟨i + 1, hlt, h20, by congr 1, by assumption⟩
                    case measure => simp [intOf]; omega
                · go_wp2_with fail
                  go_roundw
                  case rel => exact ⟨i + 1, hlt, h20, by congr 1, HR⟩
                  case measure => simp [intOf]; omega
          · have hex : ¬ i < more.length ∨ (i < more.length ∧ ¬ i < 20) := by omega
            clear hc20
            obtain ⟨d, hd, hn⟩ := HR.out
            have p1 : wr.cell? ⟨w.heap.size, 1, none⟩ = some (.int .u64 (keep : Int)) := (hn.below.cell (p := ⟨w.heap.size, 1, none⟩) (by simp)).trans Q1.out
            have p2 : wr.cell? ⟨w.heap.size, 2, none⟩ = some (.int .i64 torn) := (hn.below.cell (p := ⟨w.heap.size, 2, none⟩) (by simp)).trans Q2.out
            obtain ⟨ke1, ke2⟩ := kept_end hd keep torn
            clear hd HR
            rcases hex with hlt | ⟨hlt, h20⟩
            all_goals
              go_wp2_with fail
              refine (now_crash hn HK.out torn).mono ?_
              clear hn; rintro e w5 ⟨rfl, hn⟩
              go_wp2_with fail
              have hc := now_up hn
              rw [ke1] at hc
              refine hc.mono ?_
              clear hn hc; rintro e w6 ⟨rfl, hn⟩
              go_wp2_with fail
              have hc := now_read hn 4
              rw [ke2] at hc
              refine hc.mono ?_
              clear hn hc; rintro e w7 ⟨rfl, hn⟩
              go_wp2_with fail
              refine (now_sector hn 115).mono ?_
              clear hn; rintro e w8 ⟨rfl, hn⟩
              go_wp2_with fail
              go_ret
              exact ⟨rfl, HBA.out.trans (hn.below.mono (Nat.le_succ _))⟩

end Go.Proofs.Ytbhnjkmlfbkocaa
