/- a log over a device of a call's own; what stands there -/
import Derived.Test.YtaoaidjbpfdgmaaLogB
import Derived.Test.YtaoaidjbpfdgmaaDevT
namespace Go.Proofs.Ytaoaidjbpfdgmaa
open Go.ChangeShapes Go.WideShapes Go.ChangeAt Go.RowKit

theorem LogAt.only {w w' : World} {G B S M : Nat} {pv : Oth} {d : Dv} {g : Lg} (h : LogAt w G B g) (hd : IsDev w B S M pv d) (ho : Only (dev3 B S M) w w') : LogAt w' G B g := by
  refine (ho.block G (LogAt.lt h) ?_).trans h
  have h' : w.heap[G]? = some (.cells #[.pointer (some ⟨B, 0, none⟩), .int .i64 g.from_, .int .i64 g.to_, .int .i64 g.at_, .int .u64 g.next] 83 (0, 0)) := h
  rintro (rfl | rfl | rfl)
  · have := hd.blk.symm.trans h'
    simp at this
  · have := hd.sure.symm.trans h'
    simp at this
  · obtain ⟨es, clock, hb, _⟩ := hd.map
    have := hb.symm.trans h'
    simp at this

/-- a device of a call's own, in the world where it stands: nothing else that was there has changed but where n holds -/
structure NowK (n : Nat → Prop) (a w : World) (B S M : Nat) (d : Dv) : Prop where
  dev : ∃ pv, IsDev w B S M pv d
  below : Only n a w
  b : n B
  s : n S
  m : n M

theorem NowK.on {n : Nat → Prop} {a w w' : World} {B S M : Nat} {d : Dv} (h : NowK n a w B S M d) (hb : Below w.heap.size w w') : NowK n a w' B S M d := by
  obtain ⟨pv, hd⟩ := h.dev
  exact ⟨⟨pv, hd.on hb⟩, h.below.trans (Only.of_below hb), h.b, h.s, h.m⟩

theorem NowK.step {n : Nat → Prop} {a w w' : World} {B S M : Nat} {d d' : Dv} (h : NowK n a w B S M d) (ho : Only (dev3 B S M) w w') (hd : ∃ pv, IsDev w' B S M pv d') : NowK n a w' B S M d' :=
  ⟨hd, h.below.trans (ho.mono (by
    have := h.b; have := h.s; have := h.m
    rintro k - (rfl | rfl | rfl) <;> assumption)), h.b, h.s, h.m⟩

/-- a log and its device, in the world where they stand -/
structure LD (n : Nat → Prop) (a w : World) (G B S M : Nat) (d : Dv) (g : Lg) : Prop where
  now : NowK n a w B S M d
  log : LogAt w G B g
  own : n G
  le : g.at_ ≤ g.to_
  lt : g.to_ ≤ d.sure.length
  next : g.next < 18446744073709551616

theorem writeD_len (d : Dv) (i : Int) (s : Sec) : (writeD d i s).1.sure.length = d.sure.length := by
  unfold writeD
  split
  · rfl
  · split
    · split
      · exact stepP_len d _
      · exact stepP_len d _
    · rfl

theorem flushX_len (d : Dv) : (flushX d).1.sure.length = d.sure.length := by
  unfold flushX
  split
  · rfl
  · split
    · simp only [flushD, flushP_len]; exact stepP_len d _
    · exact stepP_len d _

section
variable {n : Nat → Prop} {a w : World} {G B S M : Nat} {d : Dv} {g : Lg}

theorem LD.on {w' : World} (h : LD n a w G B S M d g) (hb : Below w.heap.size w w') : LD n a w' G B S M d g :=
  ⟨h.now.on hb, h.log.on hb, h.own, h.le, h.lt, h.next⟩

theorem LD.step {w' : World} {d' : Dv} (h : LD n a w G B S M d g) (ho : Only (dev3 B S M) w w') (hd : ∃ pv, IsDev w' B S M pv d') (hl : d'.sure.length = d.sure.length) : LD n a w' G B S M d' g := by
  obtain ⟨pv, hi⟩ := h.now.dev
  exact ⟨h.now.step ho hd, h.log.only hi ho, h.own, h.le, by rw [hl]; exact h.lt, h.next⟩

theorem ld_write (h : LD n a w G B S M d g) (i : Int) (s : Sec) :
    Calls Try.prog 31 #[.pointer (some ⟨B, 0, none⟩), .int .i64 i, .string ⟨s.toArray⟩] w fun e w' => e = .returned (.int .i64 (writeD d i s).2) ∧ LD n a w' G B S M (writeD d i s).1 g := by
  obtain ⟨pv, hd⟩ := h.now.dev
  have hw := write_any hd (step_any d) i ⟨s.toArray⟩
  have e : (⟨s.toArray⟩ : ByteArray).data.toList = s := by simp
  rw [e] at hw
  refine hw.mono ?_
  rintro e w' ⟨rfl, hd', ho⟩
  exact ⟨rfl, h.step ho hd' (writeD_len d i s)⟩

theorem ld_flush (h : LD n a w G B S M d g) :
    Calls Try.prog 33 #[.pointer (some ⟨B, 0, none⟩)] w fun e w' => e = .returned (.int .i64 (flushX d).2) ∧ LD n a w' G B S M (flushX d).1 g := by
  obtain ⟨pv, hd⟩ := h.now.dev
  refine (flush_any hd (step_any d)).mono ?_
  rintro e w' ⟨rfl, hd', ho⟩
  exact ⟨rfl, h.step ho hd' (flushX_len d)⟩

theorem ld_read (h : LD n a w G B S M d g) (i : Int) :
    Calls Try.prog 34 #[.pointer (some ⟨B, 0, none⟩), .int .i64 i] w fun e w' => e = .returned (.tuple #[.string ⟨(readD d i).1.toArray⟩, .int .i64 (readD d i).2]) ∧ LD n a w' G B S M d g := by
  obtain ⟨pv, hd⟩ := h.now.dev
  refine (read_any hd i).mono ?_
  rintro e w' ⟨rfl, hb⟩
  exact ⟨rfl, h.on hb⟩

theorem ld_room (h : LD n a w G B S M d g) : Calls Try.prog 26 #[.pointer (some ⟨G, 0, none⟩)] w fun e w' => e = .returned (.int .i64 ((g.to_ - g.at_ : Nat) : Int)) ∧ LD n a w' G B S M d g := by
  obtain ⟨pv, hd⟩ := h.now.dev
  refine (room_any h.log h.le (Nat.le_trans h.lt hd.most)).mono ?_
  rintro e w' ⟨rfl, hb⟩
  exact ⟨rfl, h.on hb⟩

theorem ld_off (h : LD n a w G B S M d g) : Calls Try.prog 38 #[.pointer (some ⟨B, 0, none⟩)] w fun e w' => e = .returned (.bool d.off) ∧ LD n a w' G B S M d g := by
  obtain ⟨pv, hd⟩ := h.now.dev
  refine (off_any hd).mono ?_
  rintro e w' ⟨rfl, rfl⟩
  exact ⟨rfl, h⟩

end

theorem LD.drew {n : Nat → Prop} {a w : World} {G B S M : Nat} {d : Dv} {g : Lg} (h : LD n a w G B S M d g) : LD n a w.drew G B S M d g := by
  obtain ⟨⟨hd, hb, r1, r2, r3⟩, hl, r4, r5, r6, r7⟩ := h
  obtain ⟨pv, hi⟩ := hd
  exact ⟨⟨⟨pv, hi.drew⟩, hb.drew, r1, r2, r3⟩, hl, r4, r5, r6, r7⟩

/-! what stands there -/

/-- how many bytes the entry has that stands where the next one would, if one does -/
def standsG (d : Dv) (g : Lg) : Option Nat :=
  if g.next = 0 ∨ g.to_ - g.at_ = 0 then none
  else if wd ((readD d g.at_).1.take 8) ≠ g.next ∨ wd (((readD d g.at_).1.drop 120).take 8) ≠ g.next then none
  else if (g.to_ - g.at_) * 128 - 24 < wd (((readD d g.at_).1.drop 8).take 8) then none
  else some (wd (((readD d g.at_).1.drop 8).take 8))

theorem wd8 (s : Sec) : wd (s.take 8) < 18446744073709551616 := wd_le8 _ (k := 8) (by rw [List.length_take]; omega) (Nat.le_refl _)

theorem read_len {n : Nat → Prop} {a w : World} {G B S M : Nat} {d : Dv} {g : Lg} (h : LD n a w G B S M d g) (i : Int) (hne : (readD d i).1 ≠ []) : (readD d i).1.length = 128 := by
  obtain ⟨pv, hd⟩ := h.now.dev
  unfold readD at hne ⊢
  split
  · rename_i hc; rw [if_pos hc] at hne; exact absurd rfl hne
  · rename_i hc
    rw [if_neg hc] at hne
    split
    · rename_i hc2
      simp only
      cases hg : getL i.toNat d.loose with
      | some s => exact (hd.lbytes _ (getL_mem hg)).2
      | none =>
        simp only [Option.getD_none]
        have hlt : i.toNat < d.sure.length := by omega
        rw [List.getD_eq_getElem?_getD, List.getElem?_eq_getElem hlt]
        exact hd.bytes _ (List.getElem_mem hlt)
    · rename_i hc2; rw [if_neg hc2] at hne; exact absurd rfl hne

end Go.Proofs.Ytaoaidjbpfdgmaa
