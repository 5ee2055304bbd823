/- the device and the document's, side by side -/
import Derived.Test.YtbdjdeddghdefaaRfH
import Derived.Test.YtbdjdeddghdefaaDevX
import Derived.Test.YtbdjdeddghdefaaDevQ
import Derived.Test.YtbdjdeddghdefaaDevT
namespace Go.Proofs.Ytbdjdeddghdefaa
open Go.ChangeShapes Go.WideShapes Go.ChangeAt Go.RowKit

/-- the same but for the plan -/
structure Alike (d m : Dv) : Prop where
  sure : m.sure = d.sure
  loose : m.loose = d.loose
  steps : m.steps = d.steps
  off : m.off = d.off

theorem Alike.refl (d : Dv) : Alike d d := ⟨rfl, rfl, rfl, rfl⟩

theorem RfAt.alike {w : World} {v : Value} {d m : Dv} {F : List Fal} (h : RfAt w v m F) (e : Alike d m) : RfAt w v d F := by
  obtain ⟨v0, v1, v3, hv, h0, h1, h3⟩ := h.form
  obtain ⟨e0, e1, e2, e3⟩ := e
  exact ⟨v0, v1, v3, by rw [hv, e2, e3], e0 ▸ h0, e1 ▸ h1, h3⟩

/-- what is planned is what is to fall -/
def Plans (d : Dv) (F : List Fal) : Prop := (F = [] ∧ d.plan = []) ∨ ∃ f, F = [f] ∧ (d.plan = [f] ∨ (d.plan = [] ∧ f.at_ < d.steps))

theorem Plans.one {d : Dv} {F : List Fal} (h : Plans d F) : F.length ≤ 1 := by
  rcases h with ⟨rfl, -⟩ | ⟨f, rfl, -⟩ <;> simp

theorem crash_alike {d m : Dv} (e : Alike d m) (keep : Nat) (torn : Int) : Alike (crashD d keep torn) (crashD m keep torn) := by
  obtain ⟨e0, e1, e2, e3⟩ := e
  unfold crashD
  rw [e3]
  split
  · exact ⟨e0, e1, e2, e3⟩
  · exact ⟨by rw [e0, e1], rfl, e2, rfl⟩

theorem crash_plan (d : Dv) (keep : Nat) (torn : Int) : (crashD d keep torn).plan = d.plan ∧ (crashD d keep torn).steps = d.steps := by
  unfold crashD; split <;> exact ⟨rfl, rfl⟩

theorem Plans.crash {d : Dv} {F : List Fal} (h : Plans d F) (keep : Nat) (torn : Int) : Plans (crashD d keep torn) F := by
  unfold Plans
  rw [(crash_plan d keep torn).1, (crash_plan d keep torn).2]
  exact h

/-- so many steps at most -/
def Few (k : Int) (d : Dv) : Prop := 0 ≤ d.steps ∧ d.steps ≤ k

theorem wrap_few {k : Int} {d : Dv} (h : Few k d) (hk : k ≤ 1000) : wrap64 (d.steps + 1) = d.steps + 1 := by
  obtain ⟨h0, h1⟩ := h
  exact wrap64_id (by rw [is64_iff]; omega)

theorem step_both {k : Int} {d : Dv} {F : List Fal} (hp : Plans d F) (hf : Few k d) (hk : k ≤ 1000) :
    Alike (stepD d).1 (rstepX d F).1 ∧ Plans (stepD d).1 (rstepX d F).2.1 ∧ Few (k + 1) (stepD d).1 ∧ (((stepD d).2 = true ∧ (rstepX d F).2.2 = 0) ∨ ((stepD d).2 = false ∧ (rstepX d F).2.2 = 7)) := by
  have hw := wrap_few hf hk
  obtain ⟨h0, h1⟩ := hf
  have hfew : Few (k + 1) { d with plan := [], steps := d.steps + 1 } := ⟨by show 0 ≤ d.steps + 1; omega, by show d.steps + 1 ≤ k + 1; omega⟩
  rcases hp with ⟨rfl, hp⟩ | ⟨f, rfl, hp | ⟨hp, hlt⟩⟩
  · rw [stepD_nil hp]
    simp only [rstepX, hw]
    exact ⟨⟨rfl, rfl, rfl, rfl⟩, .inl ⟨rfl, hp⟩, hfew, by simp⟩
  · unfold stepD
    rw [hp]
    simp only [stepP, rstepX, hw]
    by_cases hle : f.at_ ≤ d.steps
    · rw [if_pos hle]
      by_cases he : f.at_ = d.steps
      · rw [if_pos he, if_pos he]
        refine ⟨crash_alike (d := { d with plan := [] }) (m := d) ⟨rfl, rfl, rfl, rfl⟩ f.keep f.torn, .inl ⟨rfl, (crash_plan _ _ _).1⟩, ?_, by simp⟩
        unfold Few
        rw [(crash_plan _ _ _).2]
        exact ⟨h0, by show d.steps ≤ k + 1; omega⟩
      · rw [if_neg he, if_neg he]
        exact ⟨⟨rfl, rfl, rfl, rfl⟩, .inr ⟨f, rfl, .inr ⟨rfl, by show f.at_ < d.steps + 1; omega⟩⟩, hfew, by simp⟩
    · rw [if_neg hle, if_neg (fun e => hle (by omega))]
      exact ⟨⟨rfl, rfl, rfl, rfl⟩, .inr ⟨f, rfl, .inl rfl⟩, hfew, by simp⟩
  · rw [stepD_nil hp]
    simp only [rstepX, hw]
    rw [if_neg (by omega)]
    exact ⟨⟨rfl, rfl, rfl, rfl⟩, .inr ⟨f, rfl, .inr ⟨hp, by show f.at_ < d.steps + 1; omega⟩⟩, hfew, by simp⟩

theorem Few.mono {k j : Int} {d : Dv} (h : Few k d) (hk : k ≤ j) : Few j d := ⟨h.1, by have := h.2; omega⟩

theorem write_both {k : Int} {d : Dv} {F : List Fal} (hp : Plans d F) (hf : Few k d) (hk : k ≤ 1000) (hr : RisL d.loose) (a : Int) (s : Sec) :
    Alike (writeD d a s).1 (rwriteX d F a s).1 ∧ Plans (writeD d a s).1 (rwriteX d F a s).2.1 ∧ Few (k + 1) (writeD d a s).1 ∧ (writeD d a s).2 = (rwriteX d F a s).2.2 := by
  unfold writeD rwriteX
  cases ho : d.off
  · simp only [Bool.false_eq_true, ↓reduceIte]
    by_cases hok : 0 ≤ a ∧ a < d.sure.length ∧ s.length = 128
    · rw [if_pos hok, if_neg (show ¬ (a < 0 ∨ (d.sure.length : Int) ≤ a ∨ s.length ≠ 128) by omega)]
      obtain ⟨e1, e2, e3, e4⟩ := step_both hp hf hk
      rcases e4 with ⟨q1, q2⟩ | ⟨q1, q2⟩
      · rw [q1, q2, if_pos rfl, if_pos rfl]
        have hl := (stepP_true d d.plan q1).2.1
        refine ⟨⟨e1.sure, ?_, e1.steps, e1.off⟩, e2, e3, rfl⟩
        show wrL _ _ _ (rstepX d F).1.loose = putL _ _ _
        rw [e1.loose, wrL_put _ _ (by show RisL (stepP d d.plan).1.loose; rw [hl]; exact hr)]
      · rw [q1, if_neg (by simp), if_neg (by rw [q2]; decide)]
        exact ⟨e1, e2, e3, q2.symm⟩
    · rw [if_neg hok, if_pos (show (a < 0 ∨ (d.sure.length : Int) ≤ a ∨ s.length ≠ 128) by omega)]
      exact ⟨.refl d, hp, hf.mono (by omega), by simp⟩
  · simp only [↓reduceIte]
    exact ⟨.refl d, hp, hf.mono (by omega), by simp⟩

theorem flush_both {k : Int} {d : Dv} {F : List Fal} (hp : Plans d F) (hf : Few k d) (hk : k ≤ 1000) (hr : RisL d.loose) :
    Alike (flushX d).1 (rflushX d F).1 ∧ Plans (flushX d).1 (rflushX d F).2.1 ∧ Few (k + 1) (flushX d).1 ∧ (flushX d).2 = (rflushX d F).2.2 := by
  unfold flushX rflushX
  cases ho : d.off
  · simp only [Bool.false_eq_true, ↓reduceIte]
    obtain ⟨e1, e2, e3, e4⟩ := step_both hp hf hk
    rcases e4 with ⟨q1, q2⟩ | ⟨q1, q2⟩
    · rw [q1, q2, if_pos rfl, if_pos rfl]
      have hl := (stepP_true d d.plan q1).2.1
      refine ⟨⟨?_, rfl, e1.steps, e1.off⟩, e2, e3, rfl⟩
      show setL (rstepX d F).1.loose (rstepX d F).1.sure = flushP _ (stepD d).1.loose (stepD d).1.sure
      rw [e1.loose, e1.sure, setL_flush (by show RisL (stepP d d.plan).1.loose; rw [hl]; exact hr)]
    · rw [q1, if_neg (by simp), if_neg (by rw [q2]; decide)]
      exact ⟨e1, e2, e3, q2.symm⟩
  · simp only [↓reduceIte]
    exact ⟨.refl d, hp, hf.mono (by omega), by simp⟩

/-! the two in memory -/

theorem cells_u8 {u : List Sec} {j : Nat} {x : Value} (h : (cellsOf u [])[j]? = some x) : ∃ c : Int, x = .int .u8 c := by
  have h' : x ∈ (cellsOf u []).toList := by
    rw [Array.mem_toList_iff]
    exact Array.mem_of_getElem? h
  simp only [cellsOf, List.append_nil, flatS, List.mem_flatMap, Lib.byteCells, List.mem_map] at h'
  obtain ⟨s, -, c, -, rfl⟩ := h'
  exact ⟨_, rfl⟩

/-- neither texts nor unsigned numbers stand in a device's blocks -/
theorem dev_apart {w : World} {B S M : Nat} {pv : Oth} {d : Dv} (hd : IsDev w B S M pv d) (hsp : pv.spare = []) {g j : Nat} {x : Value} (hx : w.cell? ⟨g, j, none⟩ = some x)
    (hk : (∃ s, x = .string s) ∨ ∃ n, x = .int .u64 n) : ¬ dev3 B S M g := by
  rintro (rfl | rfl | rfl)
  · obtain ⟨A, cap, hp, -⟩ := hd.plan
    rw [cell_of_row _ _ _ _ _ _ hd.blk, hp] at hx
    match j, hx with
    | 0, hx => simp at hx; subst hx; simp at hk
    | 1, hx => simp at hx; subst hx; simp at hk
    | 2, hx => simp at hx; subst hx; simp at hk
    | 3, hx => simp at hx; subst hx; simp at hk
    | 4, hx => simp at hx; subst hx; simp at hk
    | (n + 5), hx => simp at hx
  · rw [cell_of_row _ _ _ _ _ _ hd.sure, hsp] at hx
    obtain ⟨c, rfl⟩ := cells_u8 hx
    simp at hk
  · obtain ⟨es, clock, hb, -⟩ := hd.map
    simp [World.cell?, hb] at hx

/-- the document's device stays where the other one does something -/
theorem RfAt.only {w w' : World} {v : Value} {m d : Dv} {F : List Fal} {B S M : Nat} {pv : Oth} (h : RfAt w v m F) (hd : IsDev w B S M pv d) (hsp : pv.spare = []) (ho : Only (dev3 B S M) w w') : RfAt w' v m F := by
  obtain ⟨v0, v1, v3, hv, h0, h1, h3⟩ := h.form
  have far : ∀ {g o : Nat} {x : Value}, w.cell? ⟨g, o, none⟩ = some x → ¬ dev3 B S M g → w'.cell? ⟨g, o, none⟩ = some x := fun {g o x} hx hg =>
    (World.cell?_of_block (a := ⟨g, o, none⟩) (ho.block g (World.cell_lt hx) hg)).trans hx
  refine ⟨v0, v1, v3, hv, ?_, ?_, ?_⟩
  · obtain ⟨A, cap, e1, e2, hx⟩ := h0.form
    refine ⟨A, cap, e1, e2, fun i s hs => ?_⟩
    obtain ⟨g, o, hA, hy⟩ := hx i s hs
    exact ⟨g, o, hA, far hy (dev_apart hd hsp hy (.inl ⟨_, rfl⟩))⟩
  · obtain ⟨A, cap, e1, e2, hx⟩ := h1.form
    refine ⟨A, cap, e1, e2, fun i s hs => ?_⟩
    obtain ⟨g, o, hA, hy, hz⟩ := hx i s hs
    have hg := dev_apart hd hsp hz (.inl ⟨_, rfl⟩)
    exact ⟨g, o, hA, far hy hg, far hz hg⟩
  · obtain ⟨A, cap, e1, hx⟩ := h3.form
    refine ⟨A, cap, e1, fun i s hs => ?_⟩
    obtain ⟨g, o, hA, hk, hx0, hx1, hx2⟩ := hx i s hs
    have hg := dev_apart hd hsp hx1 (.inr ⟨_, rfl⟩)
    exact ⟨g, o, hA, hk, far hx0 hg, far hx1 hg, far hx2 hg⟩

/-- what the document's device may be -/
structure Fit (m : Dv) (F : List Fal) : Prop where
  one : F.length ≤ 1
  loose : m.loose.length ≤ 100000
  sure : m.sure.length ≤ 65536
  within : ∀ p ∈ m.loose, p.1 < m.sure.length ∧ p.2.length = 128
  bytes : ∀ s ∈ m.sure, s.length = 128

/-- both devices, in the world where they stand -/
structure Two (n : Nat) (a w : World) (B S M : Nat) (d : Dv) (v : Value) (m : Dv) (F : List Fal) : Prop where
  dev : ∃ pv, pv.spare = [] ∧ IsDev w B S M pv d
  below : Below n a w
  nb : n ≤ B
  ns : n ≤ S
  nm : n ≤ M
  ref : RfAt w v m F
  fit : Fit m F

section
variable {n : Nat} {a w : World} {B S M : Nat} {d m : Dv} {v : Value} {F : List Fal}

theorem Two.size (h : Two n a w B S M d v m F) : n ≤ w.heap.size := by
  obtain ⟨pv, -, hd⟩ := h.dev
  have := hd.ltB; have := h.nb; omega

theorem Two.on {w' : World} (h : Two n a w B S M d v m F) (hb : Below w.heap.size w w') : Two n a w' B S M d v m F := by
  obtain ⟨pv, hs, hd⟩ := h.dev
  exact ⟨⟨pv, hs, hd.on hb⟩, h.below.trans (hb.mono h.size), h.nb, h.ns, h.nm, h.ref.on hb, h.fit⟩

theorem Two.step {w' : World} {d' : Dv} (h : Two n a w B S M d v m F) (ho : Only (dev3 B S M) w w') (hd : ∃ pv, pv.spare = [] ∧ IsDev w' B S M pv d') : Two n a w' B S M d' v m F := by
  obtain ⟨pv, hs, hd0⟩ := h.dev
  exact ⟨hd, h.below.trans (ho.below h.size (by
    have := h.nb; have := h.ns; have := h.nm
    rintro k (rfl | rfl | rfl) <;> assumption)), h.nb, h.ns, h.nm, h.ref.only hd0 hs ho, h.fit⟩

theorem Two.fits (h : Two n a w B S M d v m F) {G : List Fal} (hG : G.length ≤ 1) : Fit d G := by
  obtain ⟨pv, -, hd⟩ := h.dev
  exact ⟨hG, by have := hd.few; have := hd.most; omega, hd.most, hd.lbytes, hd.bytes⟩

theorem Two.ris (h : Two n a w B S M d v m F) : RisL d.loose := by
  obtain ⟨pv, -, hd⟩ := h.dev
  exact hd.ris

theorem two_write (h : Two n a w B S M d v m F) (i : Int) (s : Sec) :
    Calls Try.prog 31 #[.pointer (some ⟨B, 0, none⟩), .int .i64 i, .string ⟨s.toArray⟩] w fun e w' => e = .returned (.int .i64 (writeD d i s).2) ∧ Two n a w' B S M (writeD d i s).1 v m F ∧ Only (dev3 B S M) w w' := by
  obtain ⟨pv, hs, hd⟩ := h.dev
  have hw := write_any2 hd (step_any2 d) i ⟨s.toArray⟩
  have e : (⟨s.toArray⟩ : ByteArray).data.toList = s := by simp
  rw [e] at hw
  refine hw.mono ?_
  rintro e w' ⟨rfl, ⟨pv', hs', hd'⟩, ho⟩
  exact ⟨rfl, h.step ho ⟨pv', hs'.trans hs, hd'⟩, ho⟩

theorem two_flush (h : Two n a w B S M d v m F) :
    Calls Try.prog 33 #[.pointer (some ⟨B, 0, none⟩)] w fun e w' => e = .returned (.int .i64 (flushX d).2) ∧ Two n a w' B S M (flushX d).1 v m F ∧ Only (dev3 B S M) w w' := by
  obtain ⟨pv, hs, hd⟩ := h.dev
  refine (flush_any2 hd (step_any2 d)).mono ?_
  rintro e w' ⟨rfl, ⟨pv', hs', hd'⟩, ho⟩
  exact ⟨rfl, h.step ho ⟨pv', hs'.trans hs, hd'⟩, ho⟩

theorem two_crash (h : Two n a w B S M d v m F) {keep : Nat} (hk : keep < 18446744073709551616) (torn : Int) :
    Calls Try.prog 30 #[.pointer (some ⟨B, 0, none⟩), .int .u64 keep, .int .i64 torn] w fun e w' => e = .returned (.tuple #[]) ∧ Two n a w' B S M (crashD d keep torn) v m F ∧ Only (dev3 B S M) w w' := by
  obtain ⟨pv, hs, hd⟩ := h.dev
  refine (crash_any hd hk torn).mono ?_
  rintro e w' ⟨rfl, hd', ho⟩
  exact ⟨rfl, h.step ho ⟨pv, hs, hd'⟩, ho⟩

theorem two_up (h : Two n a w B S M d v m F) :
    Calls Try.prog 29 #[.pointer (some ⟨B, 0, none⟩)] w fun e w' => e = .returned (.bool d.off) ∧ Two n a w' B S M { d with off := false } v m F ∧ Only (dev3 B S M) w w' := by
  obtain ⟨pv, hs, hd⟩ := h.dev
  refine (up_any hd).mono ?_
  rintro e w' ⟨rfl, hd', ho⟩
  exact ⟨rfl, h.step (ho.mono fun k _ hk => .inl hk) ⟨pv, hs, hd'⟩, ho.mono fun k _ hk => .inl hk⟩

theorem two_read (h : Two n a w B S M d v m F) (i : Int) :
    Calls Try.prog 34 #[.pointer (some ⟨B, 0, none⟩), .int .i64 i] w fun e w' => e = .returned (.tuple #[.string ⟨(readD d i).1.toArray⟩, .int .i64 (readD d i).2]) ∧ Two n a w' B S M d v m F ∧ Only (dev3 B S M) w w' := by
  obtain ⟨pv, hs, hd⟩ := h.dev
  refine (read_any hd i).mono ?_
  rintro e w' ⟨rfl, hb⟩
  exact ⟨rfl, h.on hb, Only.of_below hb⟩

theorem two_loose (h : Two n a w B S M d v m F) :
    Calls Try.prog 39 #[.pointer (some ⟨B, 0, none⟩)] w fun e w' => e = .returned (.int .i64 d.loose.length) ∧ w = w' := by
  obtain ⟨pv, -, hd⟩ := h.dev
  exact loose_any hd

theorem two_off (h : Two n a w B S M d v m F) :
    Calls Try.prog 38 #[.pointer (some ⟨B, 0, none⟩)] w fun e w' => e = .returned (.bool d.off) ∧ w = w' := by
  obtain ⟨pv, -, hd⟩ := h.dev
  exact off_any hd

theorem two_steps (h : Two n a w B S M d v m F) :
    Calls Try.prog 27 #[.pointer (some ⟨B, 0, none⟩)] w fun e w' => e = .returned (.int .i64 d.steps) ∧ w = w' := by
  obtain ⟨pv, -, hd⟩ := h.dev
  exact steps_any hd

theorem two_len (h : Two n a w B S M d v m F) :
    Calls Try.prog 40 #[.pointer (some ⟨B, 0, none⟩)] w fun e w' => e = .returned (.int .i64 d.sure.length) ∧ w = w' := by
  obtain ⟨pv, -, hd⟩ := h.dev
  exact len_any hd

theorem two_plan (h : Two n a w B S M d v m F) {b : Nat} {f : Fal} (hw : w.heap[b]? = some (.cells (cellsF f).toArray 40 (0, 0))) (hk : f.keep < 18446744073709551616) (c : Nat) :
    Calls Try.prog 28 #[.pointer (some ⟨B, 0, none⟩), .slice (some ⟨b, 0, none⟩) 1 c] w fun e w' => e = .returned (.tuple #[]) ∧ Two n a w' B S M { d with plan := [f] } v m F ∧ Only (dev3 B S M) w w' := by
  have HC := Lib.hid (cloneF hw c)
  have HS := Lib.hid (fun A c W => sortF A (.func (.func 50) #[] #[]) 1 c (Nat.le_refl _) W)
  have H := Lib.hid h
  clear h hw
  go_enter Try.func28, Try.ntmps28
  go_wp2_with (first
    | (go_at_call 48; (with_reducible refine HC.out.mono ?_); rintro e w1 ⟨v1, rfl, hown, -, hb⟩; obtain ⟨hpl, A1, c1, rfl⟩ := owns_plan hown hk; have h1 := H.out.on hb; obtain ⟨pv, hsp, hd⟩ := h1.dev; obtain ⟨q0, q1, q2, q3, q4⟩ := hd.cells; have z2 := hd.frozen 2)
    | (go_at_call 49; refine (HS.out _ _ _).mono ?_; rintro e w2 ⟨rfl, rfl⟩)
    | fail)
  go_end0
  have ho : Only (fun k => k = B) w1 (w1.setCell ⟨B, 2, none⟩ (.slice A1 1 c1)) := (Only.refl (fun k => k = B) w1).setCell (p := ⟨B, 2, none⟩) (.inl rfl) _
  exact ⟨rfl, h1.step (ho.mono fun k _ hk => .inl hk) ⟨⟨.slice A1 1 c1, pv.spare, pv.cap⟩, hsp, IsDev.setB hd ho ((heap_setCell_same w1 B 2 _ _ _ hd.blk).trans rfl) rfl rfl rfl hpl⟩, (Only.of_below hb).trans (ho.mono fun k _ hk => .inl hk)⟩

/-! the document's calls -/

theorem two_rfread (h : Two n a w B S M d v m F) (i : Int) :
    Calls Try.prog 41 #[v, .int .i64 i] w fun e w' => e = .returned (.tuple #[.string ⟨(readD m i).1.toArray⟩, .int .i64 (readD m i).2]) ∧ Two n a w' B S M d v m F ∧ Only (dev3 B S M) w w' := by
  refine (rfread_any h.ref i h.fit.loose).mono ?_
  rintro e w' ⟨rfl, hb⟩
  exact ⟨rfl, h.on hb, Only.of_below hb⟩

/-- another one in the document's place -/
theorem Two.swap {w' : World} {v' : Value} {m' : Dv} {F' : List Fal} (h : Two n a w B S M d v m F) (hb : Below w.heap.size w w') (hr : RfAt w' v' m' F') (hal : Alike d m') (hp : Plans d F') : Two n a w' B S M d v' d F' := by
  have h1 := h.on hb
  exact ⟨h1.dev, h1.below, h1.nb, h1.ns, h1.nm, hr.alike hal, h1.fits hp.one⟩

theorem two_rfwrite (h : Two n a w B S M d v m F) (i : Int) (s : Sec) (hal : Alike d (rwriteX m F i s).1) (hp : Plans d (rwriteX m F i s).2.1) :
    Calls Try.prog 37 #[v, .int .i64 i, .string ⟨s.toArray⟩] w fun e w' => ∃ v', e = .returned (.tuple #[v', .int .i64 (rwriteX m F i s).2.2]) ∧ Two n a w' B S M d v' d (rwriteX m F i s).2.1 ∧ Only (dev3 B S M) w w' := by
  refine (rfwrite_any h.ref h.fit.one h.fit.loose h.fit.sure h.fit.within h.fit.bytes i s).mono ?_
  rintro e w' ⟨v', rfl, hr, hb⟩
  exact ⟨v', rfl, h.swap hb hr hal hp, Only.of_below hb⟩

theorem two_rfflush (h : Two n a w B S M d v m F) (hal : Alike d (rflushX m F).1) (hp : Plans d (rflushX m F).2.1) :
    Calls Try.prog 35 #[v] w fun e w' => ∃ v', e = .returned (.tuple #[v', .int .i64 (rflushX m F).2.2]) ∧ Two n a w' B S M d v' d (rflushX m F).2.1 ∧ Only (dev3 B S M) w w' := by
  refine (rfflush_any h.ref h.fit.one h.fit.loose h.fit.sure h.fit.within h.fit.bytes).mono ?_
  rintro e w' ⟨v', rfl, hr, hb⟩
  exact ⟨v', rfl, h.swap hb hr hal hp, Only.of_below hb⟩

theorem two_rfcrash (h : Two n a w B S M d v m F) {keep : Nat} (hk : keep < 18446744073709551616) (torn : Int) (hal : Alike d (crashD m keep torn)) (hp : Plans d F) :
    Calls Try.prog 36 #[v, .int .u64 keep, .int .i64 torn] w fun e w' => ∃ v', e = .returned v' ∧ Two n a w' B S M d v' d F ∧ Only (dev3 B S M) w w' := by
  refine (rfcrash_any h.ref hk torn h.fit.loose h.fit.sure h.fit.within h.fit.bytes).mono ?_
  rintro e w' ⟨v', rfl, hr, hb⟩
  exact ⟨v', rfl, h.swap hb hr hal hp, Only.of_below hb⟩

end

end Go.Proofs.Ytbdjdeddghdefaa
