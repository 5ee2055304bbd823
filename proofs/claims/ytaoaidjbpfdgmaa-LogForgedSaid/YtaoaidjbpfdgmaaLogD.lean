/- pass, Add -/
import Derived.Test.YtaoaidjbpfdgmaaLogL
namespace Go.Proofs.Ytaoaidjbpfdgmaa
open Go.ChangeShapes Go.WideShapes Go.ChangeAt Go.RowKit

/-- behind an entry -/
def passG (g : Lg) (n : Nat) : Lg := { g with at_ := g.at_ + sectN n, next := (g.next + 1) % 18446744073709551616 }

theorem LD.setLog {n : Nat → Prop} {a w w' : World} {G B S M : Nat} {d : Dv} {g g' : Lg} (h : LD n a w G B S M d g) (hg : LogAt w' G B g') (ho : Only (fun k => k = G) w w') (hle : g'.at_ ≤ g'.to_) (hlt : g'.to_ ≤ d.sure.length) (hn : g'.next < 18446744073709551616) : LD n a w' G B S M d g' := by
  obtain ⟨⟨⟨pv, hd⟩, hb, r1, r2, r3⟩, hl, r4, r5, r6, r7⟩ := h
  have hl' : w.heap[G]? = some (.cells #[.pointer (some ⟨B, 0, none⟩), .int .i64 g.from_, .int .i64 g.to_, .int .i64 g.at_, .int .u64 g.next] 83 (0, 0)) := hl
  have hGB : B ≠ G := by
    rintro rfl
    have := hd.blk.symm.trans hl'
    simp at this
  have hGS : S ≠ G := by
    rintro rfl
    have := hd.sure.symm.trans hl'
    simp at this
  obtain ⟨es, clock, hm, r⟩ := hd.map
  have hGM : M ≠ G := by
    rintro rfl
    have := hm.symm.trans hl'
    simp at this
  have e : ∀ k, k < w.heap.size → k ≠ G → w'.heap[k]? = w.heap[k]? := fun k hk hn => ho.block k hk hn
  refine ⟨⟨⟨pv, ⟨(e _ hd.ltB hGB).trans hd.blk, (e _ hd.ltS hGS).trans hd.sure, ⟨es, clock, (e _ hd.ltM hGM).trans hm, r⟩, hd.bytes, hd.lbytes, hd.ris, hd.most, IsPlan.keep hd.plan fun k cs hk => ?_⟩⟩, hb.trans (ho.mono (by rintro k - rfl; exact r4)), r1, r2, r3⟩, hg, r4, hle, hlt, hn⟩
  refine (e k (Array.getElem?_eq_some_iff.1 hk).1 ?_).trans hk
  rintro rfl
  have := hk.symm.trans hl'
  simp at this

set_option maxRecDepth 100000 in
theorem pass_any {n : Nat → Prop} {a w : World} {G B S M : Nat} {d : Dv} {g : Lg} (h : LD n a w G B S M d g) (k : Nat) (hk : g.at_ + sectN k ≤ g.to_) (hk2 : k ≤ 281474976710656) :
    Calls Try.prog 44 #[.pointer (some ⟨G, 0, none⟩), .int .i64 k] w fun e w' => e = .returned (.tuple #[]) ∧ LD n a w' G B S M d (passG g k) := by
  obtain ⟨pv, hd⟩ := h.now.dev
  have hm := hd.most
  have hlt := h.lt
  have hnx := h.next
  clear hd
  obtain ⟨c0, c1, c2, c3, c4⟩ := h.log.cells
  have z3 := h.log.frozen 3
  have z4 := h.log.frozen 4
  have HS := Lib.hid (fun W => sect_any k hk2 W)
  have HH := Lib.hid h
  have hsum : wrap64 ((g.at_ : Int) + (sectN k : Int)) = ((g.at_ + sectN k : Nat) : Int) := by rw [wrap64_id (is64_iff.2 (by omega))]; omega
  have hsum2 : IntKind.i64.wrap ((g.at_ : Int) + (sectN k : Int)) = ((g.at_ + sectN k : Nat) : Int) := by rw [IntKind.wrap_i64]; omega
  have hnum : IntKind.u64.wrap ((g.next : Int) + 1) = (((g.next + 1) % 18446744073709551616 : Nat) : Int) := by
    rw [IntKind.wrap_u64]; omega
  have HQ : Hid (passG g k = ⟨g.from_, g.to_, g.at_ + sectN k, (g.next + 1) % 18446744073709551616⟩) := Lib.hid rfl
  have hat := h.log
  have hat' : w.heap[G]? = some (.cells #[.pointer (some ⟨B, 0, none⟩), .int .i64 g.from_, .int .i64 g.to_, .int .i64 g.at_, .int .u64 g.next] 83 (0, 0)) := hat
  have HA := Lib.hid hat'
  have HK : Hid (g.at_ + sectN k ≤ g.to_ ∧ g.to_ ≤ d.sure.length ∧ (g.next + 1) % 18446744073709551616 < 18446744073709551616) := Lib.hid ⟨hk, hlt, Nat.mod_lt _ (by decide)⟩
  clear h hat hat' hm hlt hnx hk hk2
  generalize passG g k = g' at HQ ⊢
  generalize g.at_ + sectN k = at2 at hsum hsum2 HQ HK
  generalize (g.next + 1) % 18446744073709551616 = nx2 at hnum HQ HK
  generalize sectN k = sk at HS hsum hsum2
  go_enter Try.func44, Try.ntmps44
  go_wp2_with fail
  refine region_tail 9 (by kernel_rfl) (by kernel_rfl) ?_
  simp only [List.take_succ_cons, List.take_zero, List.drop_succ_cons, List.drop_zero]
  repeat still_step
  still_call ((HS.out _).mono (fun e w1 p => ⟨p.1, p.2.symm⟩))
  repeat still_step
  refine wpStill_nil ?_
  go_wp2_with fail
  go_end0
  refine ⟨rfl, ?_⟩
  refine HH.out.setLog (g' := g') ?_ ((((Only.refl (fun j => j = G) w).setCell (p := ⟨G, 3, none⟩) (.inl rfl) _).setCell (p := ⟨G, 4, none⟩) (.inl rfl) _).drew) ?_ ?_ ?_
  · rw [HQ.out]
    exact (heap_setCell_same _ G 4 _ _ _ ((heap_setCell_same w G 3 _ _ _ HA.out).trans rfl)).trans rfl
  · rw [HQ.out]; exact HK.out.1
  · rw [HQ.out]; exact HK.out.2.1
  · rw [HQ.out]; exact HK.out.2.2

/-- an entry is added -/
def addG (d : Dv) (g : Lg) (s : Sec) : Dv × Lg × Int :=
  if d.off = true then (d, g, 7)
  else if g.next = 0 ∨ g.to_ - g.at_ < sectN s.length then (d, g, 40)
  else if (wipeG d g).2 = 0 then
    (if (layG (wipeG d g).1 g s).2 = 0 then ((layG (wipeG d g).1 g s).1, passG g s.length, 0) else ((layG (wipeG d g).1 g s).1, g, (layG (wipeG d g).1 g s).2))
  else ((wipeG d g).1, g, (wipeG d g).2)

set_option maxRecDepth 100000 in
set_option maxHeartbeats 1000000 in
theorem add_any {n : Nat → Prop} {a w : World} {G B S M : Nat} {d : Dv} {g : Lg} (h : LD n a w G B S M d g) (s : Sec) (hs : s.length ≤ 8388608) :
    Calls Try.prog 20 #[.pointer (some ⟨G, 0, none⟩), .string ⟨s.toArray⟩] w fun e w' => e = .returned (.int .i64 (addG d g s).2.2) ∧ LD n a w' G B S M (addG d g s).1 (addG d g s).2.1 := by
  obtain ⟨c0, c1, c2, c3, c4⟩ := h.log.cells
  have hl := fun W => len_str s 3 W
  have HOF := Lib.hid (ld_off h)
  have H := Lib.hid h
  cases hof : d.off
  · rw [hof] at HOF
    have HS := Lib.hid (fun W => sect_any s.length (by omega) W)
    have HRM := Lib.hid (ld_room h)
    have he : addG d g s = if g.next = 0 ∨ g.to_ - g.at_ < sectN s.length then (d, g, 40)
        else if (wipeG d g).2 = 0 then
          (if (layG (wipeG d g).1 g s).2 = 0 then ((layG (wipeG d g).1 g s).1, passG g s.length, 0) else ((layG (wipeG d g).1 g s).1, g, (layG (wipeG d g).1 g s).2))
        else ((wipeG d g).1, g, (wipeG d g).2) := by unfold addG; rw [hof]; simp
    by_cases hn0 : g.next = 0
    · have b0 : ((g.next : Int) == 0) = true := by rw [hn0]; rfl
      rw [if_pos (.inl hn0)] at he
      rw [he]
      clear he hn0 h hof
      go_enter Try.func20, Try.ntmps20
      go_wp2_with (first
        | (go_at_call 38; (with_reducible refine HOF.out.mono ?_); rintro e w1 ⟨rfl, hl1⟩; obtain ⟨k0, k1, k2, k3, k4⟩ := hl1.log.cells)
        | fail)
      go_ret
      exact ⟨rfl, hl1⟩
    · have b0 : ((g.next : Int) == 0) = false := by rw [beq_eq_false_iff_ne]; omega
      have HRN := Lib.hid (fun wn (hb : LD n a wn G B S M d g) => ld_room hb)
      by_cases hfit : g.to_ - g.at_ < sectN s.length
      · have b2 : (g.to_ - g.at_ : Nat) < sectN s.length := hfit
        rw [if_pos (.inr hfit)] at he
        rw [he]
        clear he hn0 h hof hfit
        generalize sectN s.length = sn at HS b2
        generalize g.to_ - g.at_ = rm at HRM HRN b2
        go_enter Try.func20, Try.ntmps20
        go_wp2_with (first
          | (go_at_call 38; (with_reducible refine HOF.out.mono ?_); rintro e w1 ⟨rfl, hl1⟩; obtain ⟨k0, k1, k2, k3, k4⟩ := hl1.log.cells)
          | (go_at_call 21; (with_reducible refine (HS.out _).mono ?_); rintro e w2 ⟨rfl, rfl⟩)
          | (go_at_call 26; (with_reducible refine (HRN.out _ (by assumption)).mono ?_); rintro e w3 ⟨rfl, hl3⟩)
          | fail)
        go_ret
        exact ⟨rfl, hl3⟩
      · have b2 : ¬ (g.to_ - g.at_ : Nat) < sectN s.length := hfit
        rw [if_neg (by omega)] at he
        have hle := h.le
        have hroom : g.at_ + sectN s.length ≤ g.to_ := by omega
        have hwi := fun wn (hb : LD n a wn G B S M d g) => wipe_any hb
        have hla := fun wn (hb : LD n a wn G B S M (wipeG d g).1 g) => lay_any hb s hs hroom
        have hpa := fun wn (d' : Dv) (hb : LD n a wn G B S M d' g) => pass_any hb s.length hroom (by omega)
        have HPA := Lib.hid hpa
        clear h hn0 hof hfit hle hroom hpa hs
        generalize wipeG d g = wi at he hwi hla
        obtain ⟨d1, e1⟩ := wi
        simp only at he hwi hla
        generalize layG d1 g s = la at he hla
        obtain ⟨d2, e2⟩ := la
        simp only at he hla
        generalize passG g s.length = g2 at he HPA
        generalize sectN s.length = sn at HS b2
        generalize g.to_ - g.at_ = rm at HRM HRN b2
        have HWI := Lib.hid hwi; have HLA := Lib.hid hla
        clear hwi hla
        by_cases he1 : e1 = 0
        · have b3 : (e1 != 0) = false := by simp [he1]
          rw [if_pos he1] at he
          clear he1
          by_cases he2 : e2 = 0
          · have b4 : (e2 != 0) = false := by simp [he2]
            rw [if_pos he2] at he
            rw [he]
            clear he he2
            go_enter Try.func20, Try.ntmps20
            go_wp2_with (first
              | (go_at_call 38; (with_reducible refine HOF.out.mono ?_); rintro e w1 ⟨rfl, hl1⟩; obtain ⟨k0, k1, k2, k3, k4⟩ := hl1.log.cells)
              | (go_at_call 21; (with_reducible refine (HS.out _).mono ?_); rintro e w2 ⟨rfl, rfl⟩)
              | (go_at_call 26; (with_reducible refine (HRN.out _ (by assumption)).mono ?_); rintro e w3 ⟨rfl, hl3⟩)
              | (go_at_call 45; (with_reducible refine (HWI.out _ hl3).mono ?_); rintro e w4 ⟨rfl, hl4⟩)
              | (go_at_call 46; (with_reducible refine (HLA.out _ hl4).mono ?_); rintro e w5 ⟨rfl, hl5⟩)
              | (go_at_call 44; (with_reducible refine (HPA.out _ _ hl5).mono ?_); rintro e w6 ⟨rfl, hl6⟩)
              | fail)
            go_ret
            exact ⟨rfl, hl6⟩
          · have b4 : (e2 != 0) = true := by simp [he2]
            rw [if_neg he2] at he
            rw [he]
            clear he he2
            go_enter Try.func20, Try.ntmps20
            go_wp2_with (first
              | (go_at_call 38; (with_reducible refine HOF.out.mono ?_); rintro e w1 ⟨rfl, hl1⟩; obtain ⟨k0, k1, k2, k3, k4⟩ := hl1.log.cells)
              | (go_at_call 21; (with_reducible refine (HS.out _).mono ?_); rintro e w2 ⟨rfl, rfl⟩)
              | (go_at_call 26; (with_reducible refine (HRN.out _ (by assumption)).mono ?_); rintro e w3 ⟨rfl, hl3⟩)
              | (go_at_call 45; (with_reducible refine (HWI.out _ hl3).mono ?_); rintro e w4 ⟨rfl, hl4⟩)
              | (go_at_call 46; (with_reducible refine (HLA.out _ hl4).mono ?_); rintro e w5 ⟨rfl, hl5⟩)
              | fail)
            go_ret
            exact ⟨rfl, hl5⟩
        · have b3 : (e1 != 0) = true := by simp [he1]
          rw [if_neg he1] at he
          rw [he]
          clear he he1
          go_enter Try.func20, Try.ntmps20
          go_wp2_with (first
            | (go_at_call 38; (with_reducible refine HOF.out.mono ?_); rintro e w1 ⟨rfl, hl1⟩; obtain ⟨k0, k1, k2, k3, k4⟩ := hl1.log.cells)
            | (go_at_call 21; (with_reducible refine (HS.out _).mono ?_); rintro e w2 ⟨rfl, rfl⟩)
            | (go_at_call 26; (with_reducible refine (HRN.out _ (by assumption)).mono ?_); rintro e w3 ⟨rfl, hl3⟩)
            | (go_at_call 45; (with_reducible refine (HWI.out _ hl3).mono ?_); rintro e w4 ⟨rfl, hl4⟩)
            | fail)
          go_ret
          exact ⟨rfl, hl4⟩
  · rw [hof] at HOF
    have he : addG d g s = (d, g, 7) := by unfold addG; rw [if_pos hof]
    rw [he]
    clear he h hof
    go_enter Try.func20, Try.ntmps20
    go_wp2_with (first
      | (go_at_call 38; (with_reducible refine HOF.out.mono ?_); rintro e w1 ⟨rfl, hl1⟩)
      | fail)
    go_ret
    exact ⟨rfl, hl1⟩

end Go.Proofs.Ytaoaidjbpfdgmaa
