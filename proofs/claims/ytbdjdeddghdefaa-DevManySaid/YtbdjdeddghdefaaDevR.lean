/- New, Read, Up -/
import Derived.Test.YtbdjdeddghdefaaDevI
import Derived.Laws.MakeOwn
import Derived.OwnWalk
import Derived.Carry
namespace Go.Proofs.Ytbdjdeddghdefaa
open Go.ChangeShapes Go.WideShapes Go.ChangeAt Go.RowKit
open Go.Maps (Keyed)

/-- what is read at a place -/
def readD (d : Dv) (a : Int) : Sec × Int :=
  if d.off then ([], 7) else if 0 ≤ a ∧ a < d.sure.length then ((getL a.toNat d.loose).getD (d.sure.getD a.toNat []), 0) else ([], 1)

theorem up_any {w : World} {B S M : Nat} {pv : Oth} {d : Dv} (h : IsDev w B S M pv d) :
    Calls Try.prog 29 #[.pointer (some ⟨B, 0, none⟩)] w fun e w' => e = .returned (.bool d.off) ∧ IsDev w' B S M pv { d with off := false } ∧ Only (fun k => k = B) w w' := by
  obtain ⟨c0, c1, c2, c3, c4⟩ := h.cells
  have z4 := h.frozen 4
  have H := Lib.hid h
  clear h
  cases ho : d.off
  · rw [ho] at c4
    go_enter Try.func29, Try.ntmps29
    go_wp2_with fail
    go_ret
    refine ⟨rfl, ?_, Only.refl _ _⟩
    have := H.out
    rcases d with ⟨a, b, c, e, f⟩
    cases ho
    exact this
  · rw [ho] at c4
    go_enter Try.func29, Try.ntmps29
    go_wp2_with fail
    go_ret
    have ho' : Only (fun k => k = B) w (w.setCell ⟨B, 4, none⟩ (.bool false)) := (Only.refl (fun k => k = B) w).setCell (p := ⟨B, 4, none⟩) (.inl rfl) _
    refine ⟨rfl, ?_, ho'⟩
    have h := H.out
    obtain ⟨es, clock, hb, r⟩ := h.map
    exact ⟨(heap_setCell_same w B 4 _ _ _ h.blk).trans rfl, (ho'.block _ h.ltS (fun e => h.neBS e.symm)).trans h.sure, ⟨es, clock, (ho'.block _ h.ltM (fun e => h.neBM e.symm)).trans hb, r⟩, h.bytes, h.lbytes, h.ris, h.most,
      IsPlan.keep h.plan fun k cs hk => (ho'.block k (Array.getElem?_eq_some_iff.1 hk).1 (by
        rintro rfl
        have := h.blk.symm.trans hk
        simp at this)).trans hk⟩

/-! what the walks ask of a sector's value: its cells are a variable there -/
section
variable {w : World} {C Z : Array Value}

theorem sec_store (hZ : Z.size = 128) (hC : C.size = 128) (h1 : ∀ v ∈ C.toList, v.oneCell' = true) (w : World) :
    (storeCells ⟨w.heap.size, 0, none⟩ C.toList 0).run Try.prog (w.alloc (.cells Z 99)) = .ok () (w.alloc (.cells C 99)) :=
  run_storeCells_new w 99 Z C (by rw [size_sec, hC]) (by rw [hZ, hC]) (by rw [Array.all_eq_true_iff_forall_mem]; intro v hv; exact h1 v (by simpa using hv))

theorem secA_one (s : Sec) : ∀ v ∈ (secA s).toList, v.oneCell' = true := by
  intro v hv
  exact Lib.byteCells_one s v (by simpa [secA] using hv)

theorem sec_conv {s : Sec} (hs : s.length = 128) (w : World) (t : TypeId) :
    (convert 64 9 (.slice (some ⟨w.heap.size, 0, none⟩) 128 128)).run Try.prog (w.alloc (.cells (secA s) t)) = .ok (.string ⟨s.toArray⟩) (w.alloc (.cells (secA s) t)) := by
  have := run_convert_bytes_back (P := Try.prog) (w.alloc (.cells (secA s) t)) 64 9 5 ⟨w.heap.size, 0, none⟩ 128 s Try.underlying64 Try.underlying5 Try.underlying9 (fun j hj => by
    rw [Addr.add_mid, Nat.zero_add, cell_of_row _ _ _ _ _ _ (heap_alloc_last w _)]
    simp [secA, Lib.byteCells, hj])
  rwa [hs] at this

end

/-- the sector that is read -/
def atD (d : Dv) (n : Nat) : Sec := (getL n d.loose).getD (d.sure.getD n [])

set_option maxRecDepth 100000 in
theorem read_in {w : World} {B S M : Nat} {pv : Oth} {d : Dv} (h : IsDev w B S M pv d) (ho : d.off = false) {n : Nat} (hn : n < d.sure.length) :
    Calls Try.prog 34 #[.pointer (some ⟨B, 0, none⟩), .int .i64 n] w fun e w' => e = .returned (.tuple #[.string ⟨(atD d n).toArray⟩, .int .i64 0]) ∧ Below w.heap.size w w' := by
  obtain ⟨c0, c1, c2, c3, c4⟩ := h.cells
  have HO := Lib.hid (off_any h)
  have HH := Lib.hid (has_any h n)
  have H := Lib.hid h
  clear h
  rw [ho] at HO
  have e1 : (decide (0 ≤ (n : Int)) && decide ((n : Int) < d.sure.length)) = true := by simpa using hn
  rw [e1] at HH
  have hlk := look_ok H.out.map n (by have := H.out.most; omega) true
  simp only [if_true] at hlk
  obtain ⟨x, hx⟩ : ∃ x, d.sure[n]? = some x := ⟨_, List.getElem?_eq_getElem hn⟩
  have hxl : x.length = 128 := H.out.bytes x (List.mem_of_getElem? hx)
  have hz := zero_sec
  unfold secV at hlk hz
  have hZ : (secA zer).size = 128 := by rw [secA_size, zer_len]
  have hat : atD d n = match getL n d.loose with | some s => s | none => x := by
    unfold atD; rw [List.getD_eq_getElem?_getD, hx]; cases getL n d.loose <;> rfl
  cases hg : getL n d.loose with
  | some s =>
    rw [hg] at hlk hat
    simp only [Option.getD_some, Option.isSome_some] at hlk hat
    have hs : s.length = 128 := (H.out.lbytes _ (getL_mem hg)).2
    have hcv := sec_conv hs w 99
    have hC : (secA s).size = 128 := by rw [secA_size, hs]
    have hst := sec_store hZ hC (secA_one s) w
    have HAT := Lib.hid hat
    clear hx hxl hn e1 hat hg ho hs
    generalize secA s = C at hlk hcv hC hst
    generalize secA zer = Z at hz hZ hst
    go_enter Try.func34, Try.ntmps34
    go_wp2_with (first
      | (go_at_call 38; refine HO.out.mono ?_; rintro e w' ⟨rfl, rfl⟩)
      | (go_at_call 54; refine HH.out.mono ?_; rintro e w' ⟨rfl, rfl⟩)
      | fail)
    go_ret2
    exact ⟨by rw [HAT.out]; rfl, (Below.refl _ _).alloc (Nat.le_refl _) _⟩
  | none =>
    rw [hg] at hlk hat
    simp only [Option.getD_none, Option.isSome_none] at hlk hat
    have hcv := sec_conv hxl w 99
    have hC : (secA x).size = 128 := by rw [secA_size, hxl]
    have hst := sec_store hZ hZ (secA_one zer) w
    have hst2 := sec_store hZ hC (secA_one x) w
    have HAT := Lib.hid hat
    have hld2 : (Instr.loadAt 99 (.pointer (some ⟨S, n * 128, none⟩))).run Try.prog (w.alloc (.cells (secA zer) 99)) = .ok (.agg (secA x)) (w.alloc (.cells (secA zer) 99)) := by
      have h2 := H.out.on ((Below.refl _ w).alloc (Nat.le_refl _) (.cells (secA zer) 99))
      exact load_at h2.sure h2.bytes hx
    have hc0 : (w.alloc (.cells (secA zer) 99)).cell? ⟨B, 0, none⟩ = some (.slice (some ⟨S, 0, none⟩) d.sure.length pv.cap) := (H.out.on ((Below.refl _ w).alloc (Nat.le_refl _) (.cells (secA zer) 99))).cells.1
    clear hx hxl e1 hat hg ho
    generalize secA x = C at hcv hC hst2 hld2
    generalize secA zer = Z at hz hZ hst hst2 hlk hld2 hc0
    go_enter Try.func34, Try.ntmps34
    go_wp2_with (first
      | (go_at_call 38; refine HO.out.mono ?_; rintro e w' ⟨rfl, rfl⟩)
      | (go_at_call 54; refine HH.out.mono ?_; rintro e w' ⟨rfl, rfl⟩)
      | (refine list_load rfl 99 _ rfl _ rfl _ hld2 ?_)
      | fail)
    go_ret2
    exact ⟨by rw [HAT.out]; rfl, (Below.refl _ _).alloc (Nat.le_refl _) _⟩

theorem read_any {w : World} {B S M : Nat} {pv : Oth} {d : Dv} (h : IsDev w B S M pv d) (a : Int) :
    Calls Try.prog 34 #[.pointer (some ⟨B, 0, none⟩), .int .i64 a] w fun e w' => e = .returned (.tuple #[.string ⟨(readD d a).1.toArray⟩, .int .i64 (readD d a).2]) ∧ Below w.heap.size w w' := by
  cases ho : d.off
  · by_cases hh : 0 ≤ a ∧ a < d.sure.length
    · obtain ⟨n, rfl⟩ : ∃ n : Nat, a = n := ⟨a.toNat, by omega⟩
      have e0 : readD d (n : Int) = (atD d n, 0) := by simp only [readD, ho, if_pos hh, atD, Int.toNat_natCast]; rfl
      rw [e0]
      exact read_in h ho (by omega)
    · have e0 : readD d a = ([], 1) := by simp only [readD, ho, if_neg hh]; rfl
      have e1 : (decide (0 ≤ a) && decide (a < d.sure.length)) = false := by
        rw [Bool.eq_false_iff]; intro e; simp at e; exact hh ⟨e.1, e.2⟩
      have HO := Lib.hid (off_any h)
      have HH := Lib.hid (has_any h a)
      rw [ho] at HO
      rw [e1] at HH
      rw [e0]
      clear h e0 e1 hh ho
      go_enter Try.func34, Try.ntmps34
      go_wp2_with (first
        | (go_at_call 38; refine HO.out.mono ?_; rintro e w' ⟨rfl, rfl⟩)
        | (go_at_call 54; refine HH.out.mono ?_; rintro e w' ⟨rfl, rfl⟩)
        | fail)
      go_ret2
      exact ⟨rfl, Below.refl _ _⟩
  · have e0 : readD d a = ([], 7) := by simp only [readD, ho]; rfl
    have HO := Lib.hid (off_any h)
    rw [ho] at HO
    rw [e0]
    clear h e0 ho
    go_enter Try.func34, Try.ntmps34
    go_wp2_with (first
      | (go_at_call 38; refine HO.out.mono ?_; rintro e w' ⟨rfl, rfl⟩)
      | fail)
    go_ret2
    exact ⟨rfl, Below.refl _ _⟩

/-- a new device -/
def newD (n : Nat) : Dv := { sure := List.replicate n zer, loose := [], plan := [], steps := 0, off := false }

theorem made_sure (n : Nat) : madeCells (secV zer).cells (n * 128) = cellsOf (List.replicate n zer) [] := by
  have e1 : Lib.byteCells zer = List.replicate 128 (.int .u8 0) := rfl
  have e2 : ∀ n, flatS (List.replicate n zer) = List.replicate (n * 128) (.int .u8 0) := by
    intro n
    induction n with
    | zero => rfl
    | succ n ih =>
      simp only [flatS, List.replicate_succ, List.flatMap_cons] at ih ⊢
      rw [ih, e1, List.replicate_append_replicate]; congr 1; omega
  have e3 : (secV zer).cells = (List.replicate 128 (Value.int .u8 0)).toArray := by simp only [secV, Value.cells, secA, e1]
  rw [cellsOf, e2, e3, List.append_nil]
  unfold madeCells
  apply Array.ext_getElem?
  intro i
  simp only [Array.getElem?_map, List.size_toArray, List.length_replicate, List.getElem?_toArray, List.getElem?_replicate]
  by_cases hi : i < n * 128
  · rw [if_pos hi, Array.getElem?_range, if_pos hi]
    have : i % 128 < 128 := Nat.mod_lt _ (by decide)
    simp only [Option.map_some]
    rw [getElem!_pos _ _ (by simp only [List.size_toArray, List.length_replicate]; exact this)]
    simp only [List.getElem_toArray, List.getElem_replicate]
  · rw [if_neg hi, Array.getElem?_range, if_neg hi]; rfl

theorem info_secb : (Try.prog.info? 99).map (fun i => (i.zero, i.size, i.bytes)) = some (some (secV zer), 128, 128) := by kernel_rfl

theorem make_row {P : Program} (t e : TypeId) (i : TypeInfo) (z : Value) (ht : P.underlying t = some (.slice e)) (hi : P.info? e = some i) (hz : i.zero = some z)
    (kl kc : IntKind) (n c : Nat) (hnc : n ≤ c) (hbytes : i.bytes * c ≤ 281474976710656) (h63 : c ≤ 9223372036854775807) (w : World) :
    (Instr.makeSlice t (.int kl (n : Int)) (.int kc (c : Int))).run P w = .ok (.slice (some ⟨w.heap.size, 0, none⟩) n c) (w.alloc (.cells (madeCells z.cells (c * i.size)) e)) := by
  have hb : (i.bytes : Int) * (c : Int) ≤ 281474976710656 := by
    have h : ((i.bytes * c : Nat) : Int) ≤ 281474976710656 := by omega
    rwa [Int.natCast_mul] at h
  have hr := run_make (P := P) w t e i z ht hi hz kl kc n c (by omega) (by omega) hb (by omega)
  simp only [Int.toNat_natCast] at hr
  exact hr

theorem new_in (w : World) (n : Nat) (hn : n ≤ 65536) :
    Calls Try.prog 10 #[.int .i64 n] w fun e w' => e = .returned (.tuple #[.pointer (some ⟨w.heap.size + 2, 0, none⟩), .int .i64 0]) ∧ IsDev w' (w.heap.size + 2) w.heap.size (w.heap.size + 1) ⟨.slice none 0 0, [], n⟩ (newD n) ∧ Below w.heap.size w w' := by
  obtain ⟨i0, hi0, hz0, hz1, hz2⟩ := info_parts info_secb
  have hmk := fun W => make_row (P := Try.prog) 66 99 i0 _ Try.underlying66 hi0 hz0 .i64 .i64 n n (Nat.le_refl _) (by rw [hz2]; omega) (by omega) W
  rw [hz1, made_sure] at hmk
  have hmm := run_makeMap (P := Try.prog) 67
  have d0 : decide ((n : Int) < 0) = false := by simp
  have d1 : decide ((65536 : Int) < n) = false := by simp; omega
  have HN := Lib.hid hn
  clear hi0 hz0 hz1 hz2 hn
  generalize hc : cellsOf (List.replicate n zer) [] = cs at hmk
  have HC := Lib.hid hc
  clear hc
  go_enter Try.func10, Try.ntmps10
  go_wp2_with fail
  go_ret2
  refine ⟨rfl, ?_, (((Below.refl _ _).alloc (Nat.le_refl _) _).alloc (by simp only [World.size_alloc]; omega) _).alloc (by simp only [World.size_alloc]; omega) _⟩
  have e1 := HC.out
  subst e1
  have e2 : (newD n).sure.length = n := List.length_replicate
  refine ⟨?_, ?_, ⟨#[], 0, ?_, ⟨by simp, MapKept.stamped_empty 0, by simp⟩, Nat.le_refl _, rfl⟩, fun s hs => ?_, fun p hp => absurd hp (by simp [newD]), List.Pairwise.nil, by rw [e2]; exact HN.out, ⟨none, 0, rfl, Nat.le_refl _, by decide, .inl rfl⟩⟩
  · rw [e2]
    have := heap_alloc_last ((w.alloc (.cells (cellsOf (List.replicate n zer) []) 99)).alloc (.map #[] 0)) (.cells #[.slice (some ⟨w.heap.size, 0, none⟩) n n, .map (some (w.heap.size + 1)), .slice none 0 0, .int .i64 0, .bool false] 69)
    simp only [World.size_alloc] at this
    exact this
  · rw [Below.heap_alloc _ _ _ (by simp only [World.size_alloc]; omega), Below.heap_alloc _ _ _ (by simp only [World.size_alloc]; omega)]
    exact heap_alloc_last w _
  · rw [Below.heap_alloc _ _ _ (by simp only [World.size_alloc]; omega)]
    have := heap_alloc_last (w.alloc (.cells (cellsOf (List.replicate n zer) []) 99)) (.map #[] 0)
    simpa only [World.size_alloc] using this
  · have := List.eq_of_mem_replicate hs
    rw [this, zer_len]

theorem new_out (w : World) (n : Int) (hn : ¬ (0 ≤ n ∧ n ≤ 65536)) :
    Calls Try.prog 10 #[.int .i64 n] w fun e w' => e = .returned (.tuple #[.pointer none, .int .i64 1]) ∧ w = w' := by
  by_cases h0 : n < 0
  · have d0 : decide (n < 0) = true := by simpa using h0
    clear hn h0
    go_enter Try.func10, Try.ntmps10
    go_wp2_with fail
    go_ret2
    exact ⟨rfl, rfl⟩
  · have d0 : decide (n < 0) = false := by simpa using h0
    have d1 : decide ((65536 : Int) < n) = true := by simp; omega
    clear hn h0
    go_enter Try.func10, Try.ntmps10
    go_wp2_with fail
    go_ret2
    exact ⟨rfl, rfl⟩

end Go.Proofs.Ytbdjdeddghdefaa
