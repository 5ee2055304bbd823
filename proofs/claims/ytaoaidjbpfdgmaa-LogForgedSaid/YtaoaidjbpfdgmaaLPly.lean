/- LogPlays: what holds, call by call -/
import Derived.Test.YtaoaidjbpfdgmaaLogU
namespace Go.Proofs.Ytaoaidjbpfdgmaa
open Go.ChangeShapes Go.WideShapes Go.ChangeAt Go.RowKit Go.Deep

section
variable {H : Type} {enc : TypeId × Value → H} {w : World} {spare : Nat → Bool} {held : Bool}

/-- a slice of texts that came in -/
structure InT (w : World) (v : Value) (l : List Sec) : Prop where
  seen : SeenT w v l
  few : l.length ≤ 9223372036854775807
  len : ∀ s ∈ l, s.length ≤ 9223372036854775807

set_option maxRecDepth 100000 in
theorem open_texts {v : Value} {b0 : Nat} {d : DataW H} {p : List MemPlace} (hv : Value.okWide Try.prog w .any b0 27 v) (h : DataW.Trod enc Try.prog w 0 spare held 27 v d p) :
    ∃ l, InT w v l := by
  obtain ⟨a0, len, cap, rfl⟩ := okWide_slice Try.underlying27 hv
  obtain ⟨fuel, hf⟩ := h
  rcases Go.Deep.open_slice1 Try.underlying27 (by kernel_rfl) hf with ⟨hcs, _⟩ | ⟨x, l, c, m, n, V, D, Pl, hcs, _, hl, hm, hmm, _, hcell⟩
  · simp [Value.cells] at hcs
    obtain ⟨rfl, rfl, rfl⟩ := hcs
    exact ⟨[], ⟨none, 0, rfl, Nat.le_refl _, fun i s h => by simp at h⟩, by simp, by simp⟩
  · simp [Value.cells] at hcs
    obtain ⟨rfl, rfl, rfl⟩ := hcs
    have hlm : len ≤ m := by rw [hmm]; split <;> omega
    have hlc : len ≤ cap := hl
    have hfl : ∀ i, i < len → ∃ z : ByteArray, V i = .string z ∧ z.size ≤ 9223372036854775807 := by
      intro i hi
      obtain ⟨h1, h2⟩ := hcell i (by omega)
      obtain ⟨z, hz, -, hs⟩ := DataW.trod_string Try.underlying9 h2
      simp at hz
      unfold maxLen at hs
      exact ⟨z, hz, hs⟩
    unfold maxLen at hm
    have hll : ((List.range len).map fun i => match V i with | .string z => z.data.toList | _ => []).length = len := by simp
    have hat : ∀ i s, ((List.range len).map fun i => match V i with | .string z => z.data.toList | _ => [])[i]? = some s → i < len ∧ V i = .string ⟨s.toArray⟩ ∧ s.length ≤ 9223372036854775807 := by
      intro i s hi
      have hil : i < len := by have := (List.getElem?_eq_some_iff.1 hi).1; rwa [hll] at this
      obtain ⟨y, hy, hsz⟩ := hfl i hil
      rw [List.getElem?_map, List.getElem?_range hil] at hi
      simp only [Option.map_some, hy, Option.some.injEq] at hi
      subst hi
      exact ⟨hil, by rw [hy], hsz⟩
    refine ⟨(List.range len).map fun i => match V i with | .string z => z.data.toList | _ => [], ⟨some x, cap, by rw [hll], by rw [hll]; exact hlc, fun i s hi => ?_⟩, by rw [hll]; omega, fun s hs => ?_⟩
    · obtain ⟨hil, hV, -⟩ := hat i s hi
      obtain ⟨b, off, spot⟩ := x
      have hspot : spot = none := by simpa [Addr.add] using World.cell?_spot (hcell 0 (by omega)).1
      subst hspot
      refine ⟨b, off, rfl, ?_⟩
      have h1 := (hcell i (by omega)).1
      rw [Go.WideShapes.add_plain] at h1
      rw [h1, hV]
    · obtain ⟨i, hi⟩ := List.getElem?_of_mem hs
      exact (hat i s hi).2.2
end

theorem SeenT.on {w w' : World} {v : Value} {l : List Sec} (h : SeenT w v l) (hb : Below w.heap.size w w') : SeenT w' v l := by
  obtain ⟨A, cap, hv, hc, hx⟩ := h.form
  refine ⟨A, cap, hv, hc, fun i s hs => ?_⟩
  obtain ⟨g, o, hA, hy⟩ := hx i s hs
  refine ⟨g, o, hA, ?_⟩
  rw [hb.cell (p := ⟨g, o + i, none⟩) (World.cell_lt hy)]
  exact hy

section
variable {n : Nat → Prop} {a w : World} {G B S M : Nat} {d : Dv} {g : Lg} {v : Value} {acc : List Sec}

theorem LT.turn (h : LT n a w G B S M d g v acc) {w' : World} {d' : Dv} {g' : Lg} (h' : LD (own4 B S M G) w w' G B S M d' g') : LT n a w' G B S M d' g' v acc :=
  ⟨h.ld.lift h', h.texts.only h'.now.below (by
    have := h.bG; have := h.sG; have := h.mG
    rintro k (rfl | rfl | rfl | rfl) <;> omega), h.bG, h.sG, h.mG, h.new⟩

theorem LT.on {w' : World} (h : LT n a w G B S M d g v acc) (hb : Below w.heap.size w w') : LT n a w' G B S M d g v acc := h.turn (h.ld.self.on hb)

theorem LT.none (h : LT n a w G B S M d g v acc) : LT n a (w.alloc (.cells #[] 9)) G B S M d g (.slice (some ⟨w.heap.size, 0, Option.none⟩) 0 0) [] := by
  have h1 := h.on ((Below.refl _ w).alloc (Nat.le_refl _) (.cells #[] 9))
  exact ⟨h1.ld, World.ownsRow_made w #[] 0 (by have := LogAt.lt h.ld.log; omega) (Nat.zero_le _) (by simp), h.bG, h.sG, h.mG, h.new⟩

theorem lt_add (h : LT n a w G B S M d g v acc) (s : Sec) (hs : s.length ≤ 8388608) :
    Calls Try.prog 20 #[.pointer (some ⟨G, 0, none⟩), .string ⟨s.toArray⟩] w fun e w' => e = .returned (.int .i64 (addG d g s).2.2) ∧ LT n a w' G B S M (addG d g s).1 (addG d g s).2.1 v acc := by
  refine (add_any h.ld.self s hs).mono ?_
  rintro e w' ⟨rfl, h'⟩
  exact ⟨rfl, h.turn h'⟩

theorem lt_reset (h : LT n a w G B S M d g v acc) (hf : g.from_ ≤ g.to_) : Calls Try.prog 17 #[.pointer (some ⟨G, 0, none⟩)] w fun e w' => e = .returned (.tuple #[]) ∧ LT n a w' G B S M d { g with at_ := g.from_ } v acc := by
  refine (ld_reset h.ld.self hf).mono ?_
  rintro e w' ⟨rfl, h'⟩
  exact ⟨rfl, h.turn h'⟩

theorem lt_next (h : LT n a w G B S M d g v acc) : Calls Try.prog 25 #[.pointer (some ⟨G, 0, none⟩)] w fun e w' => e = .returned (.int .u64 g.next) ∧ LT n a w' G B S M d g v acc := by
  refine (ld_next h.ld.self).mono ?_
  rintro e w' ⟨rfl, h'⟩
  exact ⟨rfl, h.turn h'⟩

theorem lt_room (h : LT n a w G B S M d g v acc) : Calls Try.prog 26 #[.pointer (some ⟨G, 0, none⟩)] w fun e w' => e = .returned (.int .i64 ((g.to_ - g.at_ : Nat) : Int)) ∧ LT n a w' G B S M d g v acc := by
  refine (ld_room h.ld.self).mono ?_
  rintro e w' ⟨rfl, h'⟩
  exact ⟨rfl, h.turn h'⟩

end

/-! what holds -/

/-- behind so many rounds -/
structure PlaysI (n : Nat) (d : Dv) (g : Lg) (acc : List Sec) (first i : Nat) : Prop where
  calm : Calm d
  len : d.sure.length = n + 2
  from_ : g.from_ = 1
  to_ : g.to_ = n + 1
  at1 : 1 ≤ g.at_
  ate : g.at_ ≤ n + 1
  chain : Chain (conL d) 1 first acc g.at_
  next : g.next = first + acc.length
  f7 : 7 ≤ first
  nx : g.next ≤ 7 + i
  few : ∀ s ∈ acc, s.length ≤ 500
  end_ : acc ≠ [] ∨ first = 7 → g.at_ < n + 1 → (conL d).getD g.at_ [] = zer

theorem plays_start (n : Nat) : PlaysI n (newD (n + 2)) ⟨1, n + 1, 1, 7⟩ [] 7 0 where
  calm := calm_new _
  len := new_len _
  from_ := rfl
  to_ := rfl
  at1 := Nat.le_refl _
  ate := by show 1 ≤ n + 1; omega
  chain := rfl
  next := rfl
  f7 := Nat.le_refl _
  nx := Nat.le_refl _
  few := by simp
  end_ := fun _ h => by
    rw [con_new, List.getD_eq_getElem?_getD, List.getElem?_replicate, if_pos (by show 1 < n + 2; omega)]
    rfl

theorem plays_reset {n : Nat} {d : Dv} {g : Lg} {acc : List Sec} {first i : Nat} (h : PlaysI n d g acc first i) : PlaysI n d { g with at_ := g.from_ } [] g.next i where
  calm := h.calm
  len := h.len
  from_ := h.from_
  to_ := h.to_
  at1 := by show 1 ≤ g.from_; rw [h.from_]; exact Nat.le_refl _
  ate := by show g.from_ ≤ n + 1; rw [h.from_]; omega
  chain := by show 1 = g.from_; rw [h.from_]
  next := rfl
  f7 := by have := h.f7; have := h.next; omega
  nx := h.nx
  few := by simp
  end_ := fun h1 h2 => by
    have h7 : g.next = 7 := by
      rcases h1 with h1 | h1
      · exact absurd rfl h1
      · exact h1
    have hf := h.f7; have hn := h.next
    have hl : acc.length = 0 := by omega
    have hl0 := List.length_eq_zero_iff.1 hl
    subst hl0
    have hc : 1 = g.at_ := h.chain
    have e : ({ g with at_ := g.from_ } : Lg).at_ = g.at_ := by show g.from_ = _; rw [h.from_]; exact hc
    rw [e]
    exact h.end_ (.inr (by simp at hn; omega)) (by rw [← hc]; have : g.from_ < n + 1 := h2; rw [h.from_] at this; exact this)

theorem plays_more {n : Nat} {d : Dv} {g : Lg} {acc : List Sec} {first i : Nat} (h : PlaysI n d g acc first i) : PlaysI n d g acc first (i + 1) :=
  ⟨h.calm, h.len, h.from_, h.to_, h.at1, h.ate, h.chain, h.next, h.f7, by have := h.nx; omega, h.few, h.end_⟩

theorem plays_add {n : Nat} {d : Dv} {g : Lg} {acc : List Sec} {first i : Nat} (h : PlaysI n d g acc first i) (hi : i ≤ 12) {s : Sec} (hs : s.length ≤ 500) (hfit : sectN s.length ≤ n + 1 - g.at_) :
    ∃ d' g', addG d g s = (d', g', 0) ∧ PlaysI n d' g' (acc ++ [s]) first (i + 1) ∧ g'.next = g.next + 1 ∧ g'.at_ = g.at_ + sectN s.length ∧ rdsL d' g.at_ (sectN s.length) = laidL g.next s := by
  have hat := h.ate
  have hn := h.next; have hf := h.f7; have hnx := h.nx
  have hp := sectN_pos s.length
  have hto := h.to_; have hlen := h.len
  obtain ⟨d', e1, c1, l1, -, f1⟩ := calm_add h.calm (g := g) (s := s) (by omega) (by omega) (by omega)
  have hpass : passG g s.length = { g with at_ := g.at_ + sectN s.length, next := g.next + 1 } := by
    unfold passG
    rw [Nat.mod_eq_of_lt (by omega)]
  rw [hpass] at e1
  have hst : ∀ i, i < sectN s.length → (conL d').getD (g.at_ + i) [] = secS g.next s i := fun i hi => by
    rw [f1, if_pos ⟨by omega, by omega⟩, Nat.add_sub_cancel_left]
  refine ⟨d', _, e1, ⟨c1, by omega, h.from_, h.to_, ?_, ?_, ?_, ?_, hf, ?_, ?_, ?_⟩, rfl, rfl, ?_⟩
  · show 1 ≤ g.at_ + _; omega
  · show g.at_ + _ ≤ n + 1; omega
  · refine Chain.snoc (h.chain.keep fun j h1 h2 => ?_) ?_
    · rw [f1, if_neg (by omega), if_neg (by omega)]
    · rw [← hn]
      exact hst
  · show g.next + 1 = _
    rw [List.length_append]; simp only [List.length_singleton]; omega
  · show g.next + 1 ≤ _; omega
  · intro t ht
    rcases List.mem_append.1 ht with ht | ht
    · exact h.few t ht
    · rw [List.mem_singleton] at ht
      subst ht
      exact hs
  · intro _ h2
    have h2' : g.at_ + sectN s.length < n + 1 := h2
    show (conL d').getD (g.at_ + sectN s.length) [] = zer
    rw [f1, if_neg (by omega), if_pos ⟨rfl, by omega⟩]
  · unfold rdsL laidL
    refine List.map_congr_left fun i hi => ?_
    rw [List.mem_range] at hi
    rw [on_read c1.2 (by omega)]
    exact hst i hi

theorem plays_full {n : Nat} {d : Dv} {g : Lg} {acc : List Sec} {first i : Nat} (h : PlaysI n d g acc first i) {s : Sec} (hfit : ¬ sectN s.length ≤ n + 1 - g.at_) : addG d g s = (d, g, 40) :=
  full_add h.calm.2 (.inr (by rw [h.to_]; omega))

theorem plays_open {n : Nat} {d : Dv} {g : Lg} {acc : List Sec} {first i : Nat} (h : PlaysI n d g acc first i) (hi : i ≤ 12) (he : acc ≠ [] ∨ first = 7) : openG d ⟨1, n + 1, 1, first⟩ = (acc, g) := by
  have hn := h.next; have hf := h.f7; have hnx := h.nx
  have hto := h.to_; have hlen := h.len; have hat := h.ate
  have hg : ({ from_ := 1, to_ := n + 1, at_ := g.at_, next := first + acc.length } : Lg) = g := by
    obtain ⟨a, b, c, e⟩ := g
    have h1 : a = 1 := h.from_
    have h2 : b = n + 1 := h.to_
    have h3 : e = first + acc.length := h.next
    subst h1 h2 h3
    rfl
  have := open_chain h.calm.2 (l := acc) (g := ⟨1, n + 1, 1, first⟩) (e := g.at_) (by show n + 1 ≤ _; omega) h.chain hat (by show first ≠ 0; omega) (by show first + _ < _; omega) (fun s hs => by have := h.few s hs; omega) (by
    rw [hg]
    exact stands_zer h.calm.2 (by omega) fun h2 => h.end_ he (by omega))
  rw [hg] at this
  exact this

end Go.Proofs.Ytaoaidjbpfdgmaa
