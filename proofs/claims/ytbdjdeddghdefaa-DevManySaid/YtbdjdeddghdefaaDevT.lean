/- awake of layer 3; DevTorn -/
import Derived.Test.YtbdjdeddghdefaaDevL
namespace Go.Proofs.Ytbdjdeddghdefaa
open Go.ChangeShapes Go.WideShapes Go.ChangeAt Go.RowKit

theorem stepP_plan (d : Dv) : stepP d [] = ({ d with plan := [], steps := wrap64 (d.steps + 1) }, true) := rfl

theorem stepD_nil {d : Dv} (h : d.plan = []) : stepD d = ({ d with steps := wrap64 (d.steps + 1) }, true) := by
  rcases d with ⟨a, b, c, e, f⟩
  simp only at h
  subst h
  rfl

theorem writeD_ok {d : Dv} (hp : d.plan = []) (ho : d.off = false) {a : Nat} (ha : a < d.sure.length) {s : Sec} (hs : s.length = 128) :
    writeD d a s = ({ d with steps := wrap64 (d.steps + 1), loose := putL a s d.loose }, 0) := by
  simp only [writeD, ho, stepD_nil hp, Int.toNat_natCast]
  rw [if_neg (by simp), if_pos ⟨by omega, by omega, hs⟩]
  rfl

theorem flushX_ok {d : Dv} (hp : d.plan = []) (ho : d.off = false) :
    flushX d = ({ d with steps := wrap64 (d.steps + 1), sure := flushP (fun _ => false) d.loose d.sure, loose := [] }, 0) := by
  simp only [flushX, ho, stepD_nil hp, flushD]
  rfl

/-- a device of a call's own, in the world where it stands -/
structure Now (n : Nat) (a w : World) (B S M : Nat) (d : Dv) : Prop where
  dev : ∃ pv, IsDev w B S M pv d
  below : Below n a w
  b : n ≤ B
  s : n ≤ S
  m : n ≤ M

section
variable {n : Nat} {a w : World} {B S M : Nat} {d : Dv}

theorem Now.size (h : Now n a w B S M d) : n ≤ w.heap.size := by
  obtain ⟨pv, hd⟩ := h.dev
  have := hd.ltB; have := h.b; omega

theorem Now.on {w' : World} (h : Now n a w B S M d) (hb : Below w.heap.size w w') : Now n a w' B S M d := by
  obtain ⟨pv, hd⟩ := h.dev
  exact ⟨⟨pv, hd.on hb⟩, h.below.trans (hb.mono h.size), h.b, h.s, h.m⟩

theorem Now.step {w' : World} {d' : Dv} (h : Now n a w B S M d) (ho : Only (dev3 B S M) w w') (hd : ∃ pv, IsDev w' B S M pv d') : Now n a w' B S M d' :=
  ⟨hd, h.below.trans (ho.below h.size (by
    have := h.b; have := h.s; have := h.m
    rintro k (rfl | rfl | rfl) <;> assumption)), h.b, h.s, h.m⟩

theorem now_new (w : World) (k : Nat) (hk : k ≤ 65536) {n : Nat} {a : World} (hn : n ≤ w.heap.size) (hb : Below n a w) :
    Calls Try.prog 10 #[.int .i64 k] w fun e w' => e = .returned (.tuple #[.pointer (some ⟨w.heap.size + 2, 0, none⟩), .int .i64 0]) ∧ Now n a w' (w.heap.size + 2) w.heap.size (w.heap.size + 1) (newD k) := by
  refine (new_in w k hk).mono ?_
  rintro e w' ⟨rfl, hd, hb'⟩
  exact ⟨rfl, ⟨_, hd⟩, hb.trans (hb'.mono hn), by omega, hn, by omega⟩

theorem now_sector (h : Now n a w B S M d) (c : UInt8) : Calls Try.prog 32 #[.int .u8 (c.toNat : Int)] w fun e w' => e = .returned (.string ⟨(letter c).toArray⟩) ∧ Now n a w' B S M d := by
  refine (sector_any c w).mono ?_
  rintro e w' ⟨rfl, hb⟩
  exact ⟨rfl, h.on hb⟩

theorem now_write (h : Now n a w B S M d) (hst : StepC d) (i : Int) (s : Sec) :
    Calls Try.prog 31 #[.pointer (some ⟨B, 0, none⟩), .int .i64 i, .string ⟨s.toArray⟩] w fun e w' => e = .returned (.int .i64 (writeD d i s).2) ∧ Now n a w' B S M (writeD d i s).1 := by
  obtain ⟨pv, hd⟩ := h.dev
  have hw := write_any hd hst i ⟨s.toArray⟩
  have e : (⟨s.toArray⟩ : ByteArray).data.toList = s := by simp
  rw [e] at hw
  refine hw.mono ?_
  rintro e w' ⟨rfl, hd', ho⟩
  exact ⟨rfl, h.step ho hd'⟩

theorem now_flush (h : Now n a w B S M d) (hst : StepC d) :
    Calls Try.prog 33 #[.pointer (some ⟨B, 0, none⟩)] w fun e w' => e = .returned (.int .i64 (flushX d).2) ∧ Now n a w' B S M (flushX d).1 := by
  obtain ⟨pv, hd⟩ := h.dev
  refine (flush_any hd hst).mono ?_
  rintro e w' ⟨rfl, hd', ho⟩
  exact ⟨rfl, h.step ho hd'⟩

theorem now_crash (h : Now n a w B S M d) {keep : Nat} (hk : keep < 18446744073709551616) (torn : Int) :
    Calls Try.prog 30 #[.pointer (some ⟨B, 0, none⟩), .int .u64 keep, .int .i64 torn] w fun e w' => e = .returned (.tuple #[]) ∧ Now n a w' B S M (crashD d keep torn) := by
  obtain ⟨pv, hd⟩ := h.dev
  refine (crash_any hd hk torn).mono ?_
  rintro e w' ⟨rfl, hd', ho⟩
  exact ⟨rfl, h.step ho ⟨pv, hd'⟩⟩

theorem now_up (h : Now n a w B S M d) :
    Calls Try.prog 29 #[.pointer (some ⟨B, 0, none⟩)] w fun e w' => e = .returned (.bool d.off) ∧ Now n a w' B S M { d with off := false } := by
  obtain ⟨pv, hd⟩ := h.dev
  refine (up_any hd).mono ?_
  rintro e w' ⟨rfl, hd', ho⟩
  exact ⟨rfl, h.step (ho.mono fun k _ hk => .inl hk) ⟨pv, hd'⟩⟩

theorem now_read (h : Now n a w B S M d) (i : Int) :
    Calls Try.prog 34 #[.pointer (some ⟨B, 0, none⟩), .int .i64 i] w fun e w' => e = .returned (.tuple #[.string ⟨(readD d i).1.toArray⟩, .int .i64 (readD d i).2]) ∧ Now n a w' B S M d := by
  obtain ⟨pv, hd⟩ := h.dev
  refine (read_any hd i).mono ?_
  rintro e w' ⟨rfl, hb⟩
  exact ⟨rfl, h.on hb⟩

theorem now_loose (h : Now n a w B S M d) :
    Calls Try.prog 39 #[.pointer (some ⟨B, 0, none⟩)] w fun e w' => e = .returned (.int .i64 d.loose.length) ∧ Now n a w' B S M d := by
  obtain ⟨pv, hd⟩ := h.dev
  refine (loose_any hd).mono ?_
  rintro e w' ⟨rfl, rfl⟩
  exact ⟨rfl, h⟩

end

def da1 : Dv := ⟨[zer, zer], [(0, letter 97)], [], 1, false⟩
def da2 : Dv := ⟨[letter 97, zer], [], [], 2, false⟩
def da3 : Dv := ⟨[letter 97, zer], [(1, letter 98)], [], 3, false⟩
def da4 : Dv := ⟨[letter 97, zer], [], [], 3, true⟩

theorem da1_eq : writeD (newD 2) 0 (letter 97) = (da1, 0) := by
  have := writeD_ok (d := newD 2) rfl rfl (a := 0) (by decide) (letter_len 97)
  rw [show wrap64 ((newD 2).steps + 1) = 1 from wrap64_id (n := 1) (by decide)] at this
  exact this

theorem da2_eq : flushX da1 = (da2, 0) := by
  have := flushX_ok (d := da1) rfl rfl
  rw [show wrap64 (da1.steps + 1) = 2 from wrap64_id (n := 2) (by decide)] at this
  exact this

theorem da3_eq : writeD da2 1 (letter 98) = (da3, 0) := by
  have := writeD_ok (d := da2) rfl rfl (a := 1) (by decide) (letter_len 98)
  rw [show wrap64 (da2.steps + 1) = 3 from wrap64_id (n := 3) (by decide)] at this
  exact this

theorem da4_eq : crashD da3 0 0 = da4 := rfl

theorem da5_eq : ({ da4 with off := false } : Dv) = ⟨[letter 97, zer], [], [], 3, false⟩ := rfl

theorem letter0 : letter 0 = zer := rfl

theorem rd0 : readD (⟨[letter 97, zer], [], [], 3, false⟩ : Dv) 0 = (letter 97, 0) := rfl

theorem rd1 : readD (⟨[letter 97, zer], [], [], 3, false⟩ : Dv) 1 = (zer, 0) := rfl

set_option maxRecDepth 100000 in
theorem awake3 (w : World) : Calls Try.prog 12 #[] w fun e w' => e = .returned (.bool true) ∧ Below w.heap.size w w' := by
  have hN := now_new w 2 (by decide) (Nat.le_refl _) (Below.refl _ w)
  rw [show ((2 : Nat) : Int) = 2 from rfl] at hN
  go_enter Try.func12, Try.ntmps12
  go_wp2_with fail
  refine hN.mono ?_
  rintro e w0 ⟨rfl, h⟩
  clear hN
  go_wp2_with fail
  refine (now_sector h 97).mono ?_
  clear h; rintro e w1 ⟨rfl, h⟩
  go_wp2_with fail
  have hc := now_write h (step_nil rfl) 0 (letter 97)
  rw [da1_eq] at hc
  refine hc.mono ?_
  clear h hc; rintro e w2 ⟨rfl, h⟩
  go_wp2_with fail
  have hc := now_flush h (step_nil rfl)
  simp only [da2_eq] at hc
  refine hc.mono ?_
  clear h hc; rintro e w3 ⟨rfl, h⟩
  go_wp2_with fail
  refine (now_sector h 98).mono ?_
  clear h; rintro e w4 ⟨rfl, h⟩
  go_wp2_with fail
  have hc := now_write h (step_nil rfl) 1 (letter 98)
  simp only [da3_eq] at hc
  refine hc.mono ?_
  clear h hc; rintro e w5 ⟨rfl, h⟩
  go_wp2_with fail
  have hc := now_crash h (keep := 0) (by decide) 0
  simp only [da4_eq] at hc
  refine hc.mono ?_
  clear h hc; rintro e w6 ⟨rfl, h⟩
  go_wp2_with fail
  refine (now_up h).mono ?_
  clear h; rintro e w7 ⟨rfl, h⟩
  rw [da5_eq] at h
  go_wp2_with fail
  have hc := now_read h 0
  rw [rd0] at hc
  refine hc.mono ?_
  clear h hc; rintro e w8 ⟨rfl, h⟩
  go_wp2_with fail
  have hc := now_read h 1
  rw [rd1] at hc
  refine hc.mono ?_
  clear h hc; rintro e w9 ⟨rfl, h⟩
  have hda : da4.off = true := rfl
  go_wp2_with fail
  refine (now_sector h 97).mono ?_
  clear h; rintro e w10 ⟨rfl, h⟩
  go_wp2_with fail
  have hc := now_sector h 0
  rw [letter0] at hc
  refine hc.mono ?_
  clear h hc; rintro e w11 ⟨rfl, h⟩
  go_wp2_with fail
  go_ret
  exact ⟨rfl, h.below⟩

end Go.Proofs.Ytbdjdeddghdefaa
