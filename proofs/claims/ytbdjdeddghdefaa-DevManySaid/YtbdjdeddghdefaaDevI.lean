/- a device in memory: what it is, and what only reads it -/
import Derived.Test.YtbdjdeddghdefaaDevW
import Derived.Test.YtbdjdeddghdefaaRowL
namespace Go.Proofs.Ytbdjdeddghdefaa
open Go.ChangeShapes Go.WideShapes Go.ChangeAt Go.RowKit
open Go.Maps (Keyed)

/-- a plan in memory: what the slice holds -/
def IsPlan (w : World) (pv : Value) (l : List Fal) : Prop :=
  ∃ A cap, pv = .slice A l.length cap ∧ l.length ≤ cap ∧ cap ≤ 9223372036854775807 ∧ (l = [] ∨ ∃ b o cs, A = some ⟨b, o, none⟩ ∧ w.heap[b]? = some (.cells cs 40 (0, 0)) ∧
    ∀ i (hi : i < l.length), cs[o + i * 3]? = some (.int .i64 l[i].at_) ∧ cs[o + (i * 3 + 1)]? = some (.int .u64 (l[i].keep : Int)) ∧ cs[o + (i * 3 + 2)]? = some (.int .i64 l[i].torn) ∧ l[i].keep < 18446744073709551616)

/-- what a device's block has beside: the plan's slice; what lies spare in the row of its sectors, and how many these may be -/
structure Oth where
  plan : Value
  spare : List Value
  cap : Nat

/-- a device in memory: its own block, the row of its sectors, its map -/
structure IsDev (w : World) (B S M : Nat) (pv : Oth) (d : Dv) : Prop where
  blk : w.heap[B]? = some (.cells #[.slice (some ⟨S, 0, none⟩) d.sure.length pv.cap, .map (some M), pv.plan, .int .i64 d.steps, .bool d.off] 69 (0, 0))
  sure : w.heap[S]? = some (.cells (cellsOf d.sure pv.spare) 99 (0, 0))
  map : w.ownsMap Try.prog 3 RSec M d.loose.length (Dm d.loose)
  bytes : ∀ s ∈ d.sure, s.length = 128
  lbytes : ∀ p ∈ d.loose, p.1 < d.sure.length ∧ p.2.length = 128
  ris : RisL d.loose
  most : d.sure.length ≤ 65536
  plan : IsPlan w pv.plan d.plan

theorem ris_len {n : Nat} : ∀ {l : List (Nat × Sec)}, RisL l → (∀ p ∈ l, p.1 < n) → ∀ k, (∀ p ∈ l, k ≤ p.1) → k + l.length ≤ max k n
  | [], _, _, k, _ => by simp; omega
  | p :: r, h, hn, k, hk => by
    obtain ⟨h1, h2⟩ := List.pairwise_cons.1 h
    have a := hk p (by simp)
    have b := hn p (by simp)
    have := ris_len h2 (fun q hq => hn q (List.mem_cons_of_mem _ hq)) (p.1 + 1) (fun q hq => h1 q hq)
    simp only [List.length_cons]; omega

section
variable {w : World} {B S M : Nat} {pv : Oth} {d : Dv}

theorem IsDev.few (h : IsDev w B S M pv d) : d.loose.length ≤ d.sure.length := by
  have := ris_len h.ris (fun p hp => (h.lbytes p hp).1) 0 (fun _ _ => Nat.zero_le _)
  omega

theorem IsDev.ltB (h : IsDev w B S M pv d) : B < w.heap.size := (Array.getElem?_eq_some_iff.1 h.blk).1
theorem IsDev.ltS (h : IsDev w B S M pv d) : S < w.heap.size := (Array.getElem?_eq_some_iff.1 h.sure).1
theorem IsDev.ltM (h : IsDev w B S M pv d) : M < w.heap.size := h.map.lt

theorem IsDev.neBS (h : IsDev w B S M pv d) : B ≠ S := by
  rintro rfl
  have := h.blk.symm.trans h.sure
  simp at this

theorem IsDev.neBM (h : IsDev w B S M pv d) : B ≠ M := by
  rintro rfl
  obtain ⟨es, clock, hb, _⟩ := h.map
  have := h.blk.symm.trans hb
  simp at this

theorem IsDev.neSM (h : IsDev w B S M pv d) : S ≠ M := by
  rintro rfl
  obtain ⟨es, clock, hb, _⟩ := h.map
  have := h.sure.symm.trans hb
  simp at this

theorem IsDev.cells (h : IsDev w B S M pv d) :
    w.cell? ⟨B, 0, none⟩ = some (.slice (some ⟨S, 0, none⟩) d.sure.length pv.cap) ∧ w.cell? ⟨B, 1, none⟩ = some (.map (some M)) ∧ w.cell? ⟨B, 2, none⟩ = some pv.plan ∧
    w.cell? ⟨B, 3, none⟩ = some (.int .i64 d.steps) ∧ w.cell? ⟨B, 4, none⟩ = some (.bool d.off) := by
  simp only [cell_of_row _ _ _ _ _ _ h.blk]
  exact ⟨rfl, rfl, rfl, rfl, rfl⟩

theorem IsDev.frozen (h : IsDev w B S M pv d) (j : Nat) : w.frozen? ⟨B, j, none⟩ = false := by simp [World.frozen?, h.blk]

theorem IsPlan.keep {w' : World} {v : Value} {l : List Fal} (h : IsPlan w v l) (hb : ∀ (k : Nat) (cs : Array Value), w.heap[k]? = some (Obj.cells cs 40 (0, 0)) → w'.heap[k]? = some (Obj.cells cs 40 (0, 0))) : IsPlan w' v l := by
  obtain ⟨A, cap, h1, h2, h3, h4⟩ := h
  refine ⟨A, cap, h1, h2, h3, ?_⟩
  rcases h4 with h4 | ⟨b, o, cs, e1, e2, e3⟩
  · exact .inl h4
  · exact .inr ⟨b, o, cs, e1, hb b cs e2, e3⟩

/-- whatever else is done, a device stays -/
theorem IsDev.keep {w' : World} (h : IsDev w B S M pv d) {ok : Nat → Prop} (ho : Only ok w w') (hk : ∀ k, ok k → w.heap.size ≤ k) : IsDev w' B S M pv d := by
  have e : ∀ k, k < w.heap.size → w'.heap[k]? = w.heap[k]? := fun k hk' => ho.block k hk' fun hk'' => absurd (hk k hk'') (by omega)
  obtain ⟨es, clock, hb, r⟩ := h.map
  exact ⟨(e _ h.ltB).trans h.blk, (e _ h.ltS).trans h.sure, ⟨es, clock, (e _ h.ltM).trans hb, r⟩, h.bytes, h.lbytes, h.ris, h.most,
    IsPlan.keep h.plan fun k cs hk => (e k (Array.getElem?_eq_some_iff.1 hk).1).trans hk⟩

theorem IsDev.on {w' : World} (h : IsDev w B S M pv d) (ho : Below w.heap.size w w') : IsDev w' B S M pv d := h.keep (ok := fun _ => False) (Only.of_below ho) (fun _ h => h.elim)

end

/-! what only reads -/
section
variable {w : World} {B S M : Nat} {pv : Oth} {d : Dv}

theorem off_any (h : IsDev w B S M pv d) : Calls Try.prog 38 #[.pointer (some ⟨B, 0, none⟩)] w fun e w' => e = .returned (.bool d.off) ∧ w = w' := by
  obtain ⟨c0, c1, c2, c3, c4⟩ := h.cells
  clear h
  go_enter Try.func38, Try.ntmps38
  go_wp2_with fail
  go_ret
  exact ⟨rfl, rfl⟩

theorem has_any (h : IsDev w B S M pv d) (a : Int) : Calls Try.prog 54 #[.pointer (some ⟨B, 0, none⟩), .int .i64 a] w fun e w' => e = .returned (.bool (decide (0 ≤ a) && decide (a < d.sure.length))) ∧ w = w' := by
  obtain ⟨c0, c1, c2, c3, c4⟩ := h.cells
  clear h
  cases h0 : decide (0 ≤ a)
  · go_enter Try.func54, Try.ntmps54
    go_wp2_with fail
    go_ret
    exact ⟨rfl, rfl⟩
  · go_enter Try.func54, Try.ntmps54
    go_wp2_with fail
    go_ret
    exact ⟨by simp, rfl⟩

theorem len_any (h : IsDev w B S M pv d) : Calls Try.prog 40 #[.pointer (some ⟨B, 0, none⟩)] w fun e w' => e = .returned (.int .i64 d.sure.length) ∧ w = w' := by
  obtain ⟨c0, c1, c2, c3, c4⟩ := h.cells
  clear h
  go_enter Try.func40, Try.ntmps40
  go_wp2_with fail
  go_ret
  exact ⟨rfl, rfl⟩

theorem steps_any (h : IsDev w B S M pv d) : Calls Try.prog 27 #[.pointer (some ⟨B, 0, none⟩)] w fun e w' => e = .returned (.int .i64 d.steps) ∧ w = w' := by
  obtain ⟨c0, c1, c2, c3, c4⟩ := h.cells
  clear h
  go_enter Try.func27, Try.ntmps27
  go_wp2_with fail
  go_ret
  exact ⟨rfl, rfl⟩

theorem len_map {n : Nat} {l : List (Nat × Sec)} (h : w.ownsMap Try.prog 3 RSec M n (Dm l)) (ty : TypeId) : (Builtin.len_ #[67] ty #[.map (some M)]).run Try.prog w = .ok (.int .i64 l.length) w := by
  obtain ⟨es, clock, hb, F, _, hD⟩ := h
  have h1 := congrArg Maps.size hD
  rw [dm_size, Maps.size_eq, length_sorted] at h1
  have h2 : es.size = l.length := by simpa using h1.symm
  simp [Builtin.len_, MapKept.run_getObj_map hb, h2, Result.andThen, goInt]

theorem loose_any (h : IsDev w B S M pv d) : Calls Try.prog 39 #[.pointer (some ⟨B, 0, none⟩)] w fun e w' => e = .returned (.int .i64 d.loose.length) ∧ w = w' := by
  obtain ⟨c0, c1, c2, c3, c4⟩ := h.cells
  have hl := len_map h.map
  clear h
  go_enter Try.func39, Try.ntmps39
  go_wp2_with fail
  go_ret
  exact ⟨rfl, rfl⟩

end

end Go.Proofs.Ytbdjdeddghdefaa
