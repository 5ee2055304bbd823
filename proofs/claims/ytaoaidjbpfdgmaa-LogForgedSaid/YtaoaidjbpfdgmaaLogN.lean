/- calls of layer 4's laws; awake of layer 4 -/
import Derived.Test.YtaoaidjbpfdgmaaLogC
namespace Go.Proofs.Ytaoaidjbpfdgmaa
open Go.ChangeShapes Go.WideShapes Go.ChangeAt Go.RowKit

section
variable {n : Nat → Prop} {a w : World} {G B S M : Nat} {d : Dv} {g : Lg}

theorem nk_new (w : World) (k : Nat) (hk : k ≤ 65536) (hb : Only n a w) (hn : ∀ k, w.heap.size ≤ k → n k) :
    Calls Try.prog 10 #[.int .i64 k] w fun e w' => e = .returned (.tuple #[.pointer (some ⟨w.heap.size + 2, 0, none⟩), .int .i64 0]) ∧ NowK n a w' (w.heap.size + 2) w.heap.size (w.heap.size + 1) (newD k) := by
  refine (new_in w k hk).mono ?_
  rintro e w' ⟨rfl, hd, hb'⟩
  exact ⟨rfl, ⟨_, hd⟩, hb.trans (Only.of_below hb'), hn _ (by omega), hn _ (Nat.le_refl _), hn _ (by omega)⟩

theorem nk_crash (h : NowK n a w B S M d) {keep : Nat} (hk : keep < 18446744073709551616) (torn : Int) :
    Calls Try.prog 30 #[.pointer (some ⟨B, 0, none⟩), .int .u64 keep, .int .i64 torn] w fun e w' => e = .returned (.tuple #[]) ∧ NowK n a w' B S M (crashD d keep torn) := by
  obtain ⟨pv, hd⟩ := h.dev
  refine (crash_any hd hk torn).mono ?_
  rintro e w' ⟨rfl, hd', ho⟩
  exact ⟨rfl, h.step ho ⟨pv, hd'⟩⟩

theorem nk_up (h : NowK n a w B S M d) :
    Calls Try.prog 29 #[.pointer (some ⟨B, 0, none⟩)] w fun e w' => e = .returned (.bool d.off) ∧ NowK n a w' B S M { d with off := false } := by
  obtain ⟨pv, hd⟩ := h.dev
  refine (up_any hd).mono ?_
  rintro e w' ⟨rfl, hd', ho⟩
  exact ⟨rfl, h.step (ho.mono fun k _ hk => .inl hk) ⟨pv, hd'⟩⟩

theorem nk_read (h : NowK n a w B S M d) (i : Int) :
    Calls Try.prog 34 #[.pointer (some ⟨B, 0, none⟩), .int .i64 i] w fun e w' => e = .returned (.tuple #[.string ⟨(readD d i).1.toArray⟩, .int .i64 (readD d i).2]) ∧ NowK n a w' B S M d := by
  obtain ⟨pv, hd⟩ := h.dev
  refine (read_any hd i).mono ?_
  rintro e w' ⟨rfl, hb⟩
  exact ⟨rfl, h.on hb⟩

theorem ld_next (h : LD n a w G B S M d g) : Calls Try.prog 25 #[.pointer (some ⟨G, 0, none⟩)] w fun e w' => e = .returned (.int .u64 g.next) ∧ LD n a w' G B S M d g := by
  refine (next_any h.log).mono ?_
  rintro e w' ⟨rfl, rfl⟩
  exact ⟨rfl, h⟩

theorem ld_steps (h : LD n a w G B S M d g) : Calls Try.prog 27 #[.pointer (some ⟨B, 0, none⟩)] w fun e w' => e = .returned (.int .i64 d.steps) ∧ LD n a w' G B S M d g := by
  obtain ⟨pv, hd⟩ := h.now.dev
  refine (steps_any hd).mono ?_
  rintro e w' ⟨rfl, rfl⟩
  exact ⟨rfl, h⟩

theorem ld_reset (h : LD n a w G B S M d g) (hf : g.from_ ≤ g.to_) : Calls Try.prog 17 #[.pointer (some ⟨G, 0, none⟩)] w fun e w' => e = .returned (.tuple #[]) ∧ LD n a w' G B S M d { g with at_ := g.from_ } := by
  refine (reset_any h.log).mono ?_
  rintro e w' ⟨rfl, hl, ho⟩
  exact ⟨rfl, h.setLog hl ho hf h.lt h.next⟩

theorem ld_crash (h : LD n a w G B S M d g) {keep : Nat} (hk : keep < 18446744073709551616) (torn : Int) :
    Calls Try.prog 30 #[.pointer (some ⟨B, 0, none⟩), .int .u64 keep, .int .i64 torn] w fun e w' => e = .returned (.tuple #[]) ∧ LD n a w' G B S M (crashD d keep torn) g := by
  obtain ⟨pv, hd⟩ := h.now.dev
  refine (crash_any hd hk torn).mono ?_
  rintro e w' ⟨rfl, hd', ho⟩
  refine ⟨rfl, h.step ho ⟨pv, hd'⟩ ?_⟩
  unfold crashD
  split
  · rfl
  · exact crashL_len _ _ _ _ _

theorem ld_up (h : LD n a w G B S M d g) :
    Calls Try.prog 29 #[.pointer (some ⟨B, 0, none⟩)] w fun e w' => e = .returned (.bool d.off) ∧ LD n a w' G B S M { d with off := false } g := by
  obtain ⟨pv, hd⟩ := h.now.dev
  refine (up_any hd).mono ?_
  rintro e w' ⟨rfl, hd', ho⟩
  exact ⟨rfl, h.step (ho.mono fun k _ hk => .inl hk) ⟨pv, hd'⟩ rfl⟩

end

theorem few_any (s : Sec) (w : World) : Calls Try.prog 18 #[.string ⟨s.toArray⟩] w fun e w' => e = .returned (.string ⟨(s.take 500).toArray⟩) ∧ w = w' := by
  have hl := fun W => len_str s 3 W
  by_cases h : 500 < s.length
  · have hh := fun W => sl_head (s := s) (n := 500) (N := 500) rfl (by omega) W
    go_enter Try.func18, Try.ntmps18
    go_wp2_with fail
    go_ret
    exact ⟨rfl, rfl⟩
  · rw [List.take_of_length_le (by omega)]
    go_enter Try.func18, Try.ntmps18
    go_wp2_with fail
    go_ret
    exact ⟨rfl, rfl⟩

/-- how many sectors, of an int -/
def sectZ (m : Int) : Int := if m ≤ 104 then 1 else 2 + (m - 105) / 128

theorem sectZ_nat (k : Nat) : sectZ k = sectN k := by
  unfold sectZ sectN
  split
  · rw [if_pos (by omega)]; rfl
  · rw [if_neg (by omega)]; omega

theorem sectZ_step {m : Int} (h : ¬ m ≤ 104) : sectZ m = 1 + sectZ (m - 128) := by
  unfold sectZ
  rw [if_neg h]
  split <;> omega

theorem sectN_le (k : Nat) : sectN k ≤ 1 + k := by unfold sectN; split <;> omega

set_option maxRecDepth 100000 in
theorem refsect_any (k : Nat) (hk : k ≤ 281474976710656) (w : World) : Calls Try.prog 19 #[.int .i64 k] w fun e w' => e = .returned (.int .i64 (sectN k)) ∧ w = w' := by
  have HK : Hid (sectN k ≤ 1 + k) := Lib.hid (sectN_le k)
  go_enter Try.func19, Try.ntmps19
  go_wp2_with fail
  go_loopw [0, 3] (fun sn sk wr => ∃ (m : Int) (c : Nat), m ≤ k ∧ -128 ≤ m ∧ sn = .int .i64 m ∧ sk = .int .i64 c ∧ Hid ((c : Int) + sectZ m = 1 + sectN k) ∧ Hid (w = wr)) (fun sn _ _ => (intOf sn + 128).toNat)
  case atStart => exact ⟨k, 1, Int.le_refl _, by omega, rfl, rfl, Lib.hid (by rw [sectZ_nat]; rfl), Lib.hid rfl⟩
  case round =>
    obtain ⟨m, c, hm1, hm2, rfl, rfl, HQ, HW⟩ := hrel
    by_cases h : m ≤ 104
    · have d1 : decide (104 < m) = false := by simp; omega
      have e0 := HQ.out
      have e1 : sectZ m = 1 := by unfold sectZ; rw [if_pos h]
      rw [e1] at e0
      have e2 : c = sectN k := by omega
      subst e2
      clear h e0 e1
      go_wp2_with fail
      go_ret
      exact ⟨rfl, HW.out⟩
    · have d1 : decide (104 < m) = true := by simp; omega
      have e0 := HQ.out
      rw [sectZ_step h] at e0
      have h1 : 1 ≤ sectZ (m - 128) := by unfold sectZ; split <;> omega
      have hk1 := HK.out
      have hc : wrap64 ((c : Int) + 1) = ((c + 1 : Nat) : Int) := by rw [wrap64_id (is64_iff.2 (by omega))]; omega
      have hs : wrap64 (m - 128) = m - 128 := wrap64_id (is64_iff.2 (by omega))
      have HN : Hid (((c + 1 : Nat) : Int) + sectZ (m - 128) = 1 + sectN k) := Lib.hid (by omega)
      have HB : Hid (m - 128 ≤ k ∧ -128 ≤ m - 128 ∧ (m - 128 + 128).toNat < (m + 128).toNat) := Lib.hid (by omega)
      clear h e0 h1 hk1
      go_wp2_with fail
      go_roundw
      case rel => exact ⟨m - 128, c + 1, HB.out.1, HB.out.2.1, by congr 1, by congr 1, HN, HW⟩
      case measure =>
        have := HB.out.2.2
        (first
          | exact this
          | (simp only [hs, intOf]; exact this)
          | (simp only [intOf]; exact this))

end Go.Proofs.Ytaoaidjbpfdgmaa
