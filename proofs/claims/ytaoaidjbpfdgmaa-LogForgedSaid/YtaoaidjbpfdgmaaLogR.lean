/- an entry is read -/
import Derived.Test.YtaoaidjbpfdgmaaLogS
namespace Go.Proofs.Ytaoaidjbpfdgmaa
open Go.ChangeShapes Go.WideShapes Go.ChangeAt Go.RowKit
open Go.Shelf

/-- what a sector gives of an entry -/
def pieceG (d : Dv) (at_ i : Nat) : Sec := if i = 0 then ((readD d ((at_ + i : Nat) : Int)).1.take 120).drop 16 else (readD d ((at_ + i : Nat) : Int)).1

/-- the first so many sectors' bytes of an entry of k bytes -/
def readG (d : Dv) (at_ k : Nat) : Nat → Sec
  | 0 => []
  | i + 1 => readG d at_ k i ++ (pieceG d at_ i).take (k - (readG d at_ k i).length)

theorem readG_len (d : Dv) (at_ k : Nat) : ∀ i, (readG d at_ k i).length ≤ k
  | 0 => Nat.zero_le _
  | i + 1 => by
    have := readG_len d at_ k i
    rw [readG, List.length_append, List.length_take]
    omega

/-- a builder of one's own -/
structure RB (w0 : World) (l : Sec) (w : World) : Prop where
  below : Below w0.heap.size w0 w
  bld : Lib.IsBuilder 108 5 w0.heap.size w0.heap.size (Lib.byteCells l) w

theorem builderAt_on {T e : TypeId} {B b : Nat} {p : Value} {bs : List Value} {w w' : World} (h : Lib.BuilderAt T e B b p bs w) (hb : Below w.heap.size w w') : Lib.BuilderAt T e B b p bs w' := by
  have hlt := h.lt
  obtain ⟨h1, v, h2, h3, h4⟩ := h
  refine ⟨h1, v, (hb.block _ hlt).trans h2, h3.kept (row := none) ⟨hb.os, hb.tape, hb.output, hb.size, fun k hk _ => hb.block k hk⟩ ?_, h4⟩
  cases hv : v.ownBlock <;> simp

theorem RB.on {w0 w w' : World} {l : Sec} (h : RB w0 l w) (hb : Below w.heap.size w w') : RB w0 l w' :=
  ⟨h.below.trans (hb.mono h.below.size), h.bld.elim (fun x => .inl (builderAt_on x hb)) (fun x => .inr (builderAt_on x hb))⟩

theorem RB.start (w : World) : RB w [] (w.alloc (.cells #[.pointer none, .slice none 0 0] 108)) :=
  ⟨(Below.refl _ w).alloc (Nat.le_refl _) _, .inl ⟨Nat.le_refl _, .slice none 0 0, heap_alloc_last w _, World.ownsRow_nil _ _ _ _, by simp [Value.ownBlock]⟩⟩

theorem rb_len {w0 w : World} {l : Sec} (h : RB w0 l w) : Calls Try.prog 60 #[.pointer (some ⟨w0.heap.size, 0, none⟩)] w fun e w' => e = .returned (.int .i64 l.length) ∧ w = w' := by
  have := Any.Builder_Len (ρ := repeatA_ren) { repeatA with } w0.heap.size w0.heap.size (Lib.byteCells l) w h.bld
  rw [Lib.byteCells_length] at this
  refine this.mono ?_
  rintro e w' ⟨h1, h2⟩
  exact ⟨h1, h2.symm⟩

theorem rb_write {w0 w : World} {l : Sec} (h : RB w0 l w) (s : Sec) (hlen : l.length + s.length ≤ 140737488355328) : Calls Try.prog 59 #[.pointer (some ⟨w0.heap.size, 0, none⟩), .string ⟨s.toArray⟩] w fun e w' => e = .returned (.tuple #[.int .i64 s.length, .nilIface]) ∧ RB w0 (l ++ s) w' := by
  have := Any.Builder_WriteString (ρ := repeatA_ren) { repeatA with } rep_extra w0.heap.size w0.heap.size (Lib.byteCells l) ⟨s.toArray⟩ w h.bld (by rw [Lib.byteCells_length, str_size]; exact hlen) h.below.size
  rw [str_size] at this
  refine this.mono ?_
  rintro e w' ⟨h1, h2, h3⟩
  refine ⟨h1, h.below.trans h3, .inr ?_⟩
  have e1 : Lib.byteCells (l ++ s) = Lib.byteCells l ++ Lib.strCells ⟨s.toArray⟩ := by simp [Lib.byteCells, Lib.strCells]
  rw [e1]
  exact h2

theorem rb_str {w0 w : World} {l : Sec} (h : RB w0 l w) : Calls Try.prog 61 #[.pointer (some ⟨w0.heap.size, 0, none⟩)] w fun e w' => e = .returned (.string ⟨l.toArray⟩) ∧ Below w0.heap.size w0 w' := by
  have := Any.Builder_String_any (ρ := repeatA_ren) { repeatA with } rep_extra w0.heap.size w0.heap.size l w h.bld h.below.size
  refine this.mono ?_
  rintro e w' ⟨h1, h2⟩
  exact ⟨h1, h.below.trans h2⟩

/-- what the region that reads a sector holds on to -/
theorem rb_keep {n : Nat → Prop} {a w0 w : World} {G B S M : Nat} {d : Dv} {g : Lg} {l : Sec} (h : LD n a w0 G B S M d g) (hr : RB w0 l w) :
    w.cell? ⟨G, 0, none⟩ = some (.pointer (some ⟨B, 0, none⟩)) ∧ w.cell? ⟨G, 3, none⟩ = some (.int .i64 g.at_) ∧ RB w0 l w :=
  ⟨(h.on hr.below).log.cells.1, (h.on hr.below).log.cells.2.2.2.1, hr⟩

theorem rb_read {n : Nat → Prop} {a w0 w : World} {G B S M : Nat} {d : Dv} {g : Lg} {l : Sec} (h : LD n a w0 G B S M d g) (hr : RB w0 l w) (i : Int) :
    Calls Try.prog 34 #[.pointer (some ⟨B, 0, none⟩), .int .i64 i] w fun e w' => e = .returned (.tuple #[.string ⟨(readD d i).1.toArray⟩, .int .i64 (readD d i).2]) ∧ RB w0 l w' := by
  obtain ⟨pv, hd⟩ := (h.on hr.below).now.dev
  refine (read_any hd i).mono ?_
  rintro e w' ⟨rfl, hb⟩
  exact ⟨rfl, hr.on hb⟩

set_option maxRecDepth 100000 in
set_option maxHeartbeats 1000000 in
theorem rd_any {n : Nat → Prop} {a w : World} {G B S M : Nat} {d : Dv} {g : Lg} (h : LD n a w G B S M d g) (ho : d.off = false) (k : Nat) (hk2 : k ≤ 16777216) (hk : g.at_ + sectN k ≤ g.to_) :
    Calls Try.prog 43 #[.pointer (some ⟨G, 0, none⟩), .int .i64 k] w fun e w' => e = .returned (.string ⟨(readG d g.at_ k (sectN k)).toArray⟩) ∧ Below w.heap.size w w' := by
  obtain ⟨pv, hd⟩ := h.now.dev
  have hm := hd.most
  have hlt := h.lt
  clear hd
  have HS := Lib.hid (fun W => sect_any k (by omega) W)
  have HH := Lib.hid h
  have hrl := readG_len d g.at_ k
  have hok : ∀ i, i < sectN k → (readD d ((g.at_ + i : Nat) : Int)).1.length = 128 := fun i hi => by
    refine read_len h _ ?_
    unfold readD
    rw [ho, if_neg (by simp), if_pos ⟨by omega, by omega⟩]
    intro e
    have hz := e
    simp only at hz
    obtain ⟨pv, hd⟩ := h.now.dev
    cases hg : getL ((g.at_ + i : Nat) : Int).toNat d.loose with
    | some s =>
      rw [hg] at hz
      have := (hd.lbytes _ (getL_mem hg)).2
      simp only [Option.getD_some] at hz
      rw [hz] at this
      simp at this
    | none =>
      rw [hg] at hz
      simp only [Option.getD_none, Int.toNat_natCast] at hz
      have hlt2 : g.at_ + i < d.sure.length := by omega
      rw [List.getD_eq_getElem?_getD, List.getElem?_eq_getElem hlt2] at hz
      have := hd.bytes _ (List.getElem_mem hlt2)
      simp only [Option.getD_some] at hz
      rw [hz] at this
      simp at this
  have hat : g.at_ ≤ 65536 := by omega
  have hK : sectN k ≤ 65536 := by omega
  clear h ho hk hlt hm
  generalize sectN k = K at HS hok hK ⊢
  have HRL := Lib.hid hrl; have HOK := Lib.hid hok
  clear hrl hok
  go_enter Try.func43, Try.ntmps43
  go_wp2_with (first
    | (go_at_call 21; (with_reducible refine (HS.out _).mono ?_); rintro e w1 ⟨rfl, rfl⟩)
    | fail)
  go_loopw [11] (fun si wr => ∃ i : Nat, i ≤ K ∧ si = .int .i64 i ∧ RB w (readG d g.at_ k i) wr) (fun si _ => K - (intOf si).toNat)
  case atStart => exact ⟨0, Nat.zero_le _, rfl, RB.start w⟩
  case round =>
    obtain ⟨i, hiK, rfl, hr⟩ := hrel
    by_cases hi : i < K
    · have hrl := HRL.out i
      have h128 := HOK.out i hi
      have hinc : wrap64 ((i : Int) + 1) = ((i + 1 : Nat) : Int) := by rw [wrap64_id (is64_iff.2 (by omega))]; omega
      have hsum : wrap64 ((g.at_ : Int) + (i : Int)) = ((g.at_ + i : Nat) : Int) := by rw [wrap64_id (is64_iff.2 (by omega))]; omega
      have hdf : wrap64 ((k : Int) - ((readG d g.at_ k i).length : Int)) = ((k - (readG d g.at_ k i).length : Nat) : Int) := by rw [wrap64_id (is64_iff.2 (by omega))]; omega
      have hsum2 : IntKind.i64.wrap ((g.at_ : Int) + (i : Int)) = ((g.at_ + i : Nat) : Int) := by rw [IntKind.wrap_i64]; omega
      have hrd := (fun wn (hb : wn.cell? ⟨G, 0, none⟩ = some (.pointer (some ⟨B, 0, none⟩)) ∧ wn.cell? ⟨G, 3, none⟩ = some (.int .i64 g.at_) ∧ RB w (readG d g.at_ k i) wn) => rb_read HH.out hb.2.2 (IntKind.i64.wrap ((g.at_ : Int) + (i : Int))))
      have hrde : readD d (IntKind.i64.wrap ((g.at_ : Int) + (i : Int))) = readD d ((g.at_ + i : Nat) : Int) := by rw [hsum2]
      rw [hrde] at hrd
      have HRD := Lib.hid hrd
      clear hrd hrde hsum2 hsum
      have hpc : pieceG d g.at_ i = if i = 0 then ((readD d ((g.at_ + i : Nat) : Int)).1.take 120).drop 16 else (readD d ((g.at_ + i : Nat) : Int)).1 := rfl
      have hre : readG d g.at_ k (i + 1) = readG d g.at_ k i ++ (pieceG d g.at_ i).take (k - (readG d g.at_ k i).length) := rfl
      have hpl : (pieceG d g.at_ i).length ≤ 128 := by
        rw [hpc]
        split
        · rw [List.length_drop, List.length_take]; omega
        · omega
      generalize pieceG d g.at_ i = p at hpc hre hpl
      obtain ⟨l2, hl2⟩ : ∃ x, x = readG d g.at_ k (i + 1) := ⟨_, rfl⟩
      rw [← hl2] at hre
      have HL2 := Lib.hid hl2
      clear hl2
      generalize readG d g.at_ k i = l at hr hrl hdf HRD hre
      generalize readD d ((g.at_ + i : Nat) : Int) = rr at HRD hpc h128
      obtain ⟨x, er⟩ := rr
      simp only at HRD hpc h128
      have hmin := fun W => min_nat (P := Try.prog) p.length (k - l.length) 3 #[3, 3] W
      have hlen := fun W => len_str p 3 W
      have hhd := fun W => sl_head (s := p) (n := ((min p.length (k - l.length) : Nat) : Int)) rfl (Nat.min_le_left _ _) W
      have e1 : p.take (min p.length (k - l.length)) = p.take (k - l.length) := by
        rcases Nat.le_total p.length (k - l.length) with h | h
        · rw [Nat.min_eq_left h, List.take_length, List.take_of_length_le h]
        · rw [Nat.min_eq_right h]
      rw [e1] at hhd
      have hb2 : l.length + (p.take (k - l.length)).length ≤ 140737488355328 := by rw [List.length_take]; omega
      have HLEN := Lib.hid (fun wn (hb : RB w l wn) => rb_len hb)
      have HWR := Lib.hid (fun wn (hb : RB w l wn) => rb_write hb (p.take (k - l.length)) hb2)
      rw [← hre] at HWR
      clear hb2 e1 hre
      generalize p.take (k - l.length) = pt at hhd HWR
      generalize min p.length (k - l.length) = m at hmin hhd
      have hk1 := rb_keep HH.out (hr.on (Below.refl _ _).drew)
      have hinc2 := Lib.hid hinc
      have HI : Hid (i + 1 ≤ K) := Lib.hid hi
      clear hr hrl hpl hinc hiK
      by_cases hi0 : i = 0
      · have b1 : ((i : Int) == 0) = true := by rw [hi0]; rfl
        rw [if_pos hi0] at hpc
        have hsl := fun W => sl_mid (s := x) (n := 16) (m := 120) (N := 16) (M := 120) rfl rfl (by omega) (by omega) W
        rw [← hpc] at hsl
        clear hpc h128 hi0
        go_wp2_with fail
        go_region_held3 (fun w' => w'.cell? ⟨G, 0, none⟩ = some (.pointer (some ⟨B, 0, none⟩)) ∧ w'.cell? ⟨G, 3, none⟩ = some (.int .i64 g.at_) ∧ RB w l w')
          (first | exact hk1 | (exact rb_keep HH.out (by assumption)))
          (first
            | (go_at_call 34; (with_reducible refine (HRD.out _ (by assumption)).mono ?_); rintro e wn ⟨rfl, hrn⟩))
        all_goals
          go_wp2_with (first
            | (go_at_call 60; (with_reducible refine (HLEN.out _ hrn).mono ?_); rintro e w5 ⟨rfl, rfl⟩)
            | (go_at_call 59; (with_reducible refine (HWR.out _ hrn).mono ?_); rintro e w5 ⟨rfl, hr5⟩)
            | fail)
          have hinc := hinc2.out
          go_roundw
          case rel => exact ⟨i + 1, HI.out, by congr 1, HL2.out ▸ hr5⟩
          case measure =>
            have := HI.out
            (first
              | (simp only [intOf, Int.toNat_natCast]; clear hinc; omega)
              | (clear hinc; simp only [intOf]; omega))
      · have b1 : ((i : Int) == 0) = false := by rw [beq_eq_false_iff_ne]; omega
        rw [if_neg hi0] at hpc
        subst hpc
        clear h128 hi0
        go_wp2_with fail
        go_region_held3 (fun w' => w'.cell? ⟨G, 0, none⟩ = some (.pointer (some ⟨B, 0, none⟩)) ∧ w'.cell? ⟨G, 3, none⟩ = some (.int .i64 g.at_) ∧ RB w l w')
          (first | exact hk1 | (exact rb_keep HH.out (by assumption)))
          (first
            | (go_at_call 34; (with_reducible refine (HRD.out _ (by assumption)).mono ?_); rintro e wn ⟨rfl, hrn⟩))
        all_goals
          go_wp2_with (first
            | (go_at_call 60; (with_reducible refine (HLEN.out _ hrn).mono ?_); rintro e w5 ⟨rfl, rfl⟩)
            | (go_at_call 59; (with_reducible refine (HWR.out _ hrn).mono ?_); rintro e w5 ⟨rfl, hr5⟩)
            | fail)
          have hinc := hinc2.out
          go_roundw
          case rel => exact ⟨i + 1, HI.out, by congr 1, HL2.out ▸ hr5⟩
          case measure =>
            have := HI.out
            (first
              | (simp only [intOf, Int.toNat_natCast]; clear hinc; omega)
              | (clear hinc; simp only [intOf]; omega))
    · obtain rfl : i = K := by omega
      have HST := Lib.hid (rb_str hr)
      clear hr
      go_wp2_with (first
        | (go_at_call 61; (with_reducible refine HST.out.mono ?_); rintro e w5 ⟨rfl, hb⟩)
        | fail)
      go_ret
      exact ⟨rfl, hb⟩

end Go.Proofs.Ytaoaidjbpfdgmaa
