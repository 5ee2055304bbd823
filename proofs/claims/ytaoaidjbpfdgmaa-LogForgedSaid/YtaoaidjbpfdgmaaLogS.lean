/- whether the next entry stands there -/
import Derived.Test.YtaoaidjbpfdgmaaLogW
import Derived.Deep.RegionHeld3
import Derived.Test.YtaoaidjbpfdgmaaCmpA
namespace Go.Proofs.Ytaoaidjbpfdgmaa
open Go.ChangeShapes Go.WideShapes Go.ChangeAt Go.RowKit

/-- what a region that reads the log's own fields holds on to -/
theorem ld_keep {n : Nat → Prop} {a w : World} {G B S M : Nat} {d : Dv} {g : Lg} (h : LD n a w G B S M d g) :
    w.cell? ⟨G, 0, none⟩ = some (.pointer (some ⟨B, 0, none⟩)) ∧ w.cell? ⟨G, 3, none⟩ = some (.int .i64 g.at_) ∧ LD n a w G B S M d g :=
  ⟨h.log.cells.1, h.log.cells.2.2.2.1, h⟩

theorem LD.drewN {n : Nat → Prop} {a w : World} {G B S M : Nat} {d : Dv} {g : Lg} (h : LD n a w G B S M d g) (k : Nat) : LD n a (w.drewN k) G B S M d g :=
  h.on (below_drewN (Below.refl _ _) k)

set_option maxRecDepth 100000 in
set_option maxHeartbeats 1000000 in
theorem stands_any {n : Nat → Prop} {a w : World} {G B S M : Nat} {d : Dv} {g : Lg} (h : LD n a w G B S M d g) :
    Calls Try.prog 42 #[.pointer (some ⟨G, 0, none⟩)] w fun e w' => e = .returned (.tuple #[.int .i64 ((standsG d g).getD 0 : Nat), .bool (standsG d g).isSome]) ∧ LD n a w' G B S M d g := by
  obtain ⟨c0, c1, c2, c3, c4⟩ := h.log.cells
  obtain ⟨pv, hdv⟩ := h.now.dev
  have hm := hdv.most
  have hlt := h.lt
  have hnx := h.next
  have H := Lib.hid h
  have HRm := Lib.hid (ld_room h)
  have HRd := Lib.hid (fun wn (hb : wn.cell? ⟨G, 0, none⟩ = some (.pointer (some ⟨B, 0, none⟩)) ∧ wn.cell? ⟨G, 3, none⟩ = some (.int .i64 g.at_) ∧ LD n a wn G B S M d g) => ld_read hb.2.2 g.at_)
  clear h hdv
  by_cases hn0 : g.next = 0
  · have e : standsG d g = none := by unfold standsG; rw [if_pos (.inl hn0)]
    have d0 : ((g.next : Int) == 0) = true := by rw [hn0]; rfl
    rw [e]
    clear hn0 e hnx
    go_enter Try.func42, Try.ntmps42
    go_wp2_with fail
    go_ret2
    exact ⟨rfl, H.out⟩
  · have d0 : ((g.next : Int) == 0) = false := by rw [beq_eq_false_iff_ne]; omega
    by_cases hr0 : g.to_ - g.at_ = 0
    · have e : standsG d g = none := by unfold standsG; rw [if_pos (.inr hr0)]
      rw [hr0] at HRm
      rw [e]
      clear hn0 e hnx hr0
      go_enter Try.func42, Try.ntmps42
      go_wp2_with (first
        | (go_at_call 26; refine HRm.out.mono ?_; rintro e w1 ⟨rfl, hl1⟩)
        | fail)
      go_ret2
      exact ⟨rfl, hl1⟩
    · have d1 : (((g.to_ - g.at_ : Nat) : Int) == 0) = false := by rw [beq_eq_false_iff_ne]; omega
      have he0 : standsG d g = if wd ((readD d g.at_).1.take 8) ≠ g.next ∨ wd (((readD d g.at_).1.drop 120).take 8) ≠ g.next then none
          else if (g.to_ - g.at_) * 128 - 24 < wd (((readD d g.at_).1.drop 8).take 8) then none
          else some (wd (((readD d g.at_).1.drop 8).take 8)) := by
        unfold standsG; rw [if_neg (by omega)]
      obtain ⟨hd, hhd⟩ : ∃ x, x = (readD d g.at_).1 := ⟨_, rfl⟩
      obtain ⟨er, her⟩ : ∃ x, x = (readD d g.at_).2 := ⟨_, rfl⟩
      have hlen : hd ≠ [] → hd.length = 128 := by rw [hhd]; exact read_len H.out _
      rw [← hhd, ← her] at HRd
      rw [← hhd] at he0
      have hW1 := fun W => wide_any ⟨hd.toArray⟩ W (by
        rw [str_size]
        by_cases hc : hd = []
        · rw [hc]; simp
        · rw [hlen hc]; decide)
      simp only [wide_str] at hW1
      have HW1 := Lib.hid hW1
      clear hW1 hhd her
      have hroom : ∀ wn, LD n a wn G B S M d g → Calls Try.prog 26 #[.pointer (some ⟨G, 0, none⟩)] wn fun e w' => e = .returned (.int .i64 ((g.to_ - g.at_ : Nat) : Int)) ∧ LD n a w' G B S M d g := fun wn h => ld_room h
      have HRn := Lib.hid hroom
      clear hroom
      have hrl : 1 ≤ g.to_ - g.at_ := by omega
      have hrm : g.to_ - g.at_ ≤ 65536 := by omega
      generalize g.to_ - g.at_ = rm at he0 HRm d1 HRn hrl hrm
      have hlw : wrap64 ((rm : Int) * 128) = (rm : Int) * 128 := wrap64_id (is64_iff.2 (by omega))
      have hlw2 : wrap64 ((rm : Int) * 128 - 24) = ((rm * 128 - 24 : Nat) : Int) := by rw [wrap64_id (is64_iff.2 (by omega))]; omega
      by_cases h1 : wd (hd.take 8) = g.next
      · have hne : hd ≠ [] := by
          rintro rfl
          exact hn0 h1.symm
        have h128 := hlen hne
        have b1 : (((wd (hd.take 8) : Nat) : Int) != (g.next : Int)) = false := by rw [h1]; simp
        have hs1 := fun W => sl_tail (s := hd) (n := 120) (N := 120) rfl (by omega) W
        have hs2 := fun W => sl_tail (s := hd) (n := 8) (N := 8) rfl (by omega) W
        have hW2 := fun W => wide_any ⟨(hd.drop 120).toArray⟩ W (by rw [str_size, List.length_drop]; omega)
        have hW3 := fun W => wide_any ⟨(hd.drop 8).toArray⟩ W (by rw [str_size, List.length_drop]; omega)
        simp only [wide_str] at hW2 hW3
        have hw3 := wd8 (hd.drop 8)
        have HW2 := Lib.hid hW2; have HW3 := Lib.hid hW3
        clear hW2 hW3 hlen hne h128
        generalize wd ((hd.drop 120).take 8) = t2 at he0 HW2
        generalize wd ((hd.drop 8).take 8) = t3 at he0 HW3 hw3
        by_cases h2 : t2 = g.next
        · have b2 : (((t2 : Nat) : Int) != (g.next : Int)) = false := by rw [h2]; simp
          rw [if_neg (by omega)] at he0
          have ht3 : wrap64 (t3 : Int) = (t3 : Int) ∨ rm * 128 - 24 < t3 := by
            by_cases hq : rm * 128 - 24 < t3
            · exact .inr hq
            · exact .inl (wrap64_id (is64_iff.2 (by omega)))
          have hlim : rm * 128 - 24 < 18446744073709551616 := by omega
          generalize rm * 128 - 24 = lim at hlw2 hlim ht3 he0
          have HE := Lib.hid he0; have HT := Lib.hid ht3
          clear he0 ht3 h1 h2 hn0 hr0 hrl hrm
          go_enter Try.func42, Try.ntmps42
          go_wp2_with (first
            | (go_at_call 26; refine HRm.out.mono ?_; rintro e w1 ⟨rfl, hl1⟩; obtain ⟨k0, k1, k2, k3, k4⟩ := hl1.log.cells)
            | fail)
          have hk1 := ld_keep hl1.drew
          go_region_held3 (fun w' => w'.cell? ⟨G, 0, none⟩ = some (.pointer (some ⟨B, 0, none⟩)) ∧ w'.cell? ⟨G, 3, none⟩ = some (.int .i64 g.at_) ∧ LD n a w' G B S M d g)
            (first | exact hk1 | (exact ld_keep (by assumption)))
            (first
              | (go_at_call 34; (with_reducible refine (HRd.out _ (by assumption)).mono ?_); rintro e wn ⟨rfl, hln⟩))
          all_goals
            obtain ⟨q0, q1, q2, q3, q4⟩ := hln.log.cells
            go_wp2_with fail
            go_quiet (first
              | ((go_at_call 58; with_reducible exact quiet_left (HW1.out _)))
              | ((go_at_call 58; with_reducible exact quiet_left (HW2.out _))))
            have hlq := hln.drewN nq
            obtain ⟨p0, p1, p2, p3, p4⟩ := hlq.log.cells
            go_wp2_with (first
              | (go_at_call 58; (with_reducible refine (HW3.out _).mono ?_); rintro e wa ⟨rfl, rfl⟩)
              | (go_at_call 26; (with_reducible refine (HRn.out _ (by assumption)).mono ?_); rintro e wb ⟨rfl, hlb⟩)
              | fail)
            all_goals
              rename_i hc
              rw [HE.out]
              (first | rw [if_pos hc] | rw [if_neg hc])
              (try rw [HT.out.resolve_right hc])
              go_ret2
              exact ⟨rfl, hlb⟩
        · have b2 : (((t2 : Nat) : Int) != (g.next : Int)) = true := by simp; omega
          rw [if_pos (by omega)] at he0
          rw [he0]
          clear he0 h1 h2 hn0 hr0 hrl hrm
          go_enter Try.func42, Try.ntmps42
          go_wp2_with (first
            | (go_at_call 26; refine HRm.out.mono ?_; rintro e w1 ⟨rfl, hl1⟩; obtain ⟨k0, k1, k2, k3, k4⟩ := hl1.log.cells)
            | fail)
          have hk1 := ld_keep hl1.drew
          go_region_held3 (fun w' => w'.cell? ⟨G, 0, none⟩ = some (.pointer (some ⟨B, 0, none⟩)) ∧ w'.cell? ⟨G, 3, none⟩ = some (.int .i64 g.at_) ∧ LD n a w' G B S M d g)
            (first | exact hk1 | (exact ld_keep (by assumption)))
            (first
              | (go_at_call 34; (with_reducible refine (HRd.out _ (by assumption)).mono ?_); rintro e wn ⟨rfl, hln⟩))
          all_goals
            obtain ⟨q0, q1, q2, q3, q4⟩ := hln.log.cells
            go_wp2_with fail
            go_quiet (first
              | ((go_at_call 58; with_reducible exact quiet_left (HW1.out _)))
              | ((go_at_call 58; with_reducible exact quiet_left (HW2.out _))))
            go_wp2_with fail
            go_ret2
            exact ⟨rfl, hln.drewN _⟩
      · have b1 : (((wd (hd.take 8) : Nat) : Int) != (g.next : Int)) = true := by simp; omega
        rw [if_pos (.inl h1)] at he0
        rw [he0]
        clear he0 h1 hn0 hr0 hrl hrm
        go_enter Try.func42, Try.ntmps42
        go_wp2_with (first
          | (go_at_call 26; refine HRm.out.mono ?_; rintro e w1 ⟨rfl, hl1⟩; obtain ⟨k0, k1, k2, k3, k4⟩ := hl1.log.cells)
          | fail)
        have hk1 := ld_keep hl1.drew
        go_region_held3 (fun w' => w'.cell? ⟨G, 0, none⟩ = some (.pointer (some ⟨B, 0, none⟩)) ∧ w'.cell? ⟨G, 3, none⟩ = some (.int .i64 g.at_) ∧ LD n a w' G B S M d g)
          (first | exact hk1 | (exact ld_keep (by assumption)))
          (first
            | (go_at_call 34; (with_reducible refine (HRd.out _ (by assumption)).mono ?_); rintro e wn ⟨rfl, hln⟩))
        all_goals
          obtain ⟨q0, q1, q2, q3, q4⟩ := hln.log.cells
          go_wp2_with fail
          go_quiet ((go_at_call 58; with_reducible exact quiet_left (HW1.out _)))
          go_wp2_with fail
          go_ret2
          exact ⟨rfl, hln.drewN _⟩

end Go.Proofs.Ytaoaidjbpfdgmaa
