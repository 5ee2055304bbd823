/- Open -/
import Derived.Test.YtaoaidjbpfdgmaaLogD
import Derived.Test.YtaoaidjbpfdgmaaLogR
namespace Go.Proofs.Ytaoaidjbpfdgmaa
open Go.ChangeShapes Go.WideShapes Go.ChangeAt Go.RowKit

/-- the entries that stand, and the log behind them -/
def openL : Nat → Dv → Lg → List Sec × Lg
  | 0, _, g => ([], g)
  | f + 1, d, g => match standsG d g with
    | none => ([], g)
    | some k => (readG d g.at_ k (sectN k) :: (openL f d (passG g k)).1, (openL f d (passG g k)).2)

def openG (d : Dv) (g : Lg) : List Sec × Lg := openL (g.to_ - g.at_ + 1) d g

theorem stands_fits {d : Dv} {g : Lg} {k : Nat} (h : standsG d g = some k) : g.next ≠ 0 ∧ k ≤ (g.to_ - g.at_) * 128 ∧ g.at_ + sectN k ≤ g.to_ := by
  unfold standsG at h
  split at h
  · simp at h
  · rename_i h1
    split at h
    · simp at h
    · split at h
      · simp at h
      · rename_i h2 h3
        simp only [Option.some.injEq] at h
        rw [h] at h3
        refine ⟨by omega, by omega, ?_⟩
        unfold sectN
        split <;> omega

theorem openL_more : ∀ (f f' : Nat) (d : Dv) (g : Lg), g.to_ - g.at_ < f → g.to_ - g.at_ < f' → openL f d g = openL f' d g
  | f + 1, f' + 1, d, g, h, h' => by
    unfold openL
    cases hs : standsG d g with
    | none => rfl
    | some k =>
      obtain ⟨-, -, h3⟩ := stands_fits hs
      have hp := sectN_pos k
      have ha : (passG g k).at_ = g.at_ + sectN k := rfl
      have ht : (passG g k).to_ = g.to_ := rfl
      simp only
      rw [openL_more f f' d (passG g k) (by rw [ha, ht]; omega) (by rw [ha, ht]; omega)]

theorem openG_none {d : Dv} {g : Lg} (h : standsG d g = none) : openG d g = ([], g) := by
  unfold openG openL
  rw [h]

theorem openG_some {d : Dv} {g : Lg} {k : Nat} (h : standsG d g = some k) : openG d g = (readG d g.at_ k (sectN k) :: (openG d (passG g k)).1, (openG d (passG g k)).2) := by
  obtain ⟨-, -, h3⟩ := stands_fits h
  have hp := sectN_pos k
  have ha : (passG g k).at_ = g.at_ + sectN k := rfl
  have ht : (passG g k).to_ = g.to_ := rfl
  have e : openL (g.to_ - g.at_) d (passG g k) = openG d (passG g k) := by
    unfold openG
    exact openL_more _ _ _ _ (by rw [ha, ht]; omega) (by omega)
  rw [← e]
  unfold openG
  rw [openL, h]

/-- a text, as a value -/
def strV (s : Sec) : Value := .string ⟨s.toArray⟩

/-- a row of texts of one's own -/
def Texts (w : World) (base : Nat) (v : Value) (l : List Sec) : Prop := w.ownsRow base 9 1 v l.length (l.map strV)

theorem Texts.on {w w' : World} {base : Nat} {v : Value} {l : List Sec} (h : Texts w base v l) (hb : Below w.heap.size w w') : Texts w' base v l := by
  refine World.ownsRow.kept (row := none) h ⟨hb.os, hb.tape, hb.output, hb.size, fun k hk _ => hb.block k hk⟩ ?_
  cases hv : v.ownBlock <;> simp

theorem info_text : (Try.prog.info? 9).map (fun i => (i.zero, i.size, i.bytes)) = some (some (.string ⟨#[]⟩), 1, 16) := by kernel_rfl

theorem Texts.ge {w : World} {base : Nat} {v : Value} {l : List Sec} (h : Texts w base v l) : ∀ g, v.ownBlock = some g → base ≤ g ∧ ∃ cs, w.heap[g]? = some (.cells cs 9 (0, 0)) := by
  intro g hg
  rcases h.2 with ⟨rfl, -⟩ | ⟨g', cap, cur, rfl, hbg, hh, -⟩
  · simp [Value.ownBlock] at hg
  · simp only [Value.ownBlock, Option.some.injEq] at hg
    subst hg
    exact ⟨hbg, cur, hh⟩

theorem Texts.only {w w' : World} {base : Nat} {v : Value} {l : List Sec} {ok : Nat → Prop} (h : Texts w base v l) (ho : Only ok w w') (hk : ∀ k, ok k → k < base ∨ w.heap.size ≤ k) : Texts w' base v l := by
  refine ⟨h.1, ?_⟩
  rcases h.2 with h2 | ⟨g, cap, cur, hv, hbg, hh, r⟩
  · exact .inl h2
  · refine .inr ⟨g, cap, cur, hv, hbg, (ho.block g (Array.getElem?_eq_some_iff.1 hh).1 fun h' => ?_).trans hh, r⟩
    have := hk g h'
    have := (Array.getElem?_eq_some_iff.1 hh).1
    omega

theorem run_append_text (w : World) (base : Nat) (v : Value) (l : List Sec) (s : Sec) (h : Texts w base v l) (hbytes : (l.length + 1) * 16 ≤ 140737488355328) (hb : base ≤ w.heap.size) (ty : TypeId) :
    ∃ v' w', (Builtin.append_ #[27, 27] ty #[v, .slice (some ⟨w.heap.size, 0, none⟩) 1 1]).run Try.prog (w.alloc (.cells #[strV s] 9)) = .ok v' w' ∧ Texts w' base v' (l ++ [s]) ∧
      Only (fun k => v.ownBlock = some k) w w' := by
  obtain ⟨i0, hi0, hz0, hz1, hz2⟩ := info_parts info_text
  have h1 : Texts (w.alloc (.cells #[strV s] 9)) base v l := h.on ((Below.refl _ w).alloc (Nat.le_refl _) _)
  obtain ⟨v', w2, hr, hown, hgr, -⟩ := run_append_own (P := Try.prog) (w.alloc (.cells #[strV s] 9)) base 27 ty 9 i0 _ 1 16 Try.underlying27 hi0 hz0 hz1 hz2 rfl (by decide) v l.length (l.map strV) h1 ⟨w.heap.size, 0, none⟩ 1 1 [strV s] rfl
    (fun j u hu => by
      rw [adr_add, Nat.zero_add, cell_of_row _ _ _ _ _ _ (heap_alloc_last w _), ← Array.getElem?_toList]
      exact hu) (by intro u hu; rw [List.mem_singleton] at hu; subst hu; rfl) (by unfold maxLen; omega) (by omega) (Nat.le_trans hb (by simp))
  refine ⟨v', w2, hr, ?_, ?_⟩
  · unfold Texts
    rw [List.length_append, List.map_append]
    exact hown
  · exact ((Only.refl _ w).alloc _).trans ⟨hgr.os, hgr.tape, hgr.output, hgr.size, fun k hk hn => hgr.block k hk (fun e => hn e.symm)⟩

/-- a device and its log: their blocks -/
def own4 (B S M G : Nat) (k : Nat) : Prop := k = B ∨ k = S ∨ k = M ∨ k = G

section
variable {n : Nat → Prop} {a w : World} {G B S M : Nat} {d : Dv} {g : Lg}

theorem LD.self (h : LD n a w G B S M d g) : LD (own4 B S M G) w w G B S M d g :=
  ⟨⟨h.now.dev, Only.refl _ _, .inl rfl, .inr (.inl rfl), .inr (.inr (.inl rfl))⟩, h.log, .inr (.inr (.inr rfl)), h.le, h.lt, h.next⟩

theorem LD.lift {w' : World} {d' : Dv} {g' : Lg} (h : LD n a w G B S M d g) (h' : LD (own4 B S M G) w w' G B S M d' g') : LD n a w' G B S M d' g' :=
  ⟨⟨h'.now.dev, h.now.below.trans (h'.now.below.mono (by
    have := h.now.b; have := h.now.s; have := h.now.m; have := h.own
    rintro k - (rfl | rfl | rfl | rfl) <;> assumption)), h.now.b, h.now.s, h.now.m⟩, h'.log, h.own, h'.le, h'.lt, h'.next⟩

/-- rows of texts beside it turn -/
theorem LD.beside {w' : World} {ok : Nat → Prop} (h : LD n a w G B S M d g) (ho : Only ok w w') (hk : ∀ k, ok k → ∃ cs, w.heap[k]? = some (.cells cs 9 (0, 0))) (hn : ∀ k, ok k → n k ∨ a.heap.size ≤ k) : LD n a w' G B S M d g := by
  obtain ⟨⟨⟨pv, hd⟩, hb, r1, r2, r3⟩, hl, r4, r5, r6, r7⟩ := h
  have hl' : w.heap[G]? = some (.cells #[.pointer (some ⟨B, 0, none⟩), .int .i64 g.from_, .int .i64 g.to_, .int .i64 g.at_, .int .u64 g.next] 83 (0, 0)) := hl
  obtain ⟨es, clock, hm, r⟩ := hd.map
  have e : ∀ k, k < w.heap.size → (∀ cs, w.heap[k]? ≠ some (.cells cs 9 (0, 0))) → w'.heap[k]? = w.heap[k]? := fun k hk' hne => ho.block k hk' fun hk'' => by
    obtain ⟨cs, hc⟩ := hk k hk''
    exact hne cs hc
  have eG := e _ (LogAt.lt hl) (by intro cs hc; have := hl'.symm.trans hc; simp at this)
  have eB := e _ hd.ltB (by intro cs hc; have := hd.blk.symm.trans hc; simp at this)
  have eS := e _ hd.ltS (by intro cs hc; have := hd.sure.symm.trans hc; simp at this)
  have eM := e _ hd.ltM (by intro cs hc; have := hm.symm.trans hc; simp at this)
  refine ⟨⟨⟨pv, ⟨eB.trans hd.blk, eS.trans hd.sure, ⟨es, clock, eM.trans hm, r⟩, hd.bytes, hd.lbytes, hd.ris, hd.most, IsPlan.keep hd.plan fun k cs hk => ?_⟩⟩, ?_, r1, r2, r3⟩, eG.trans hl, r4, r5, r6, r7⟩
  · exact (e k (Array.getElem?_eq_some_iff.1 hk).1 (by intro cs' hc; have := hk.symm.trans hc; simp at this)).trans hk
  · exact ⟨ho.os.trans hb.os, ho.tape.trans hb.tape, ho.output.trans hb.output, Nat.le_trans hb.size ho.size, fun k hk' hnk => (ho.block k (Nat.lt_of_lt_of_le hk' hb.size) fun hk'' => by
      rcases hn k hk'' with h | h
      · exact hnk h
      · omega).trans (hb.block k hk' hnk)⟩

end

/-- how far a log is, read off the memory -/
def atOf (w : World) (G : Nat) : Nat := match w.cell? ⟨G, 3, none⟩ with | some (.int _ x) => x.toNat | _ => 0

theorem LogAt.atOf {w : World} {G B : Nat} {g : Lg} (h : LogAt w G B g) : atOf w G = g.at_ := by
  unfold Go.Proofs.Ytaoaidjbpfdgmaa.atOf
  rw [h.cells.2.2.2.1]
  simp

/-- a log, its device, and the entries that were read -/
structure LT (n : Nat → Prop) (a w : World) (G B S M : Nat) (d : Dv) (g : Lg) (v : Value) (acc : List Sec) : Prop where
  ld : LD n a w G B S M d g
  texts : Texts w (G + 1) v acc
  bG : B < G
  sG : S < G
  mG : M < G
  new : a.heap.size ≤ G

section
variable {n : Nat → Prop} {a w : World} {G B S M : Nat} {d : Dv} {g : Lg} {v : Value} {acc : List Sec}

theorem LT.next (h : LT n a w G B S M d g v acc) {w' : World} {g' : Lg} (h' : LD (own4 B S M G) w w' G B S M d g') : LT n a w' G B S M d g' v acc :=
  ⟨h.ld.lift h', h.texts.only h'.now.below (by
    have := h.bG; have := h.sG; have := h.mG
    rintro k (rfl | rfl | rfl | rfl) <;> omega), h.bG, h.sG, h.mG, h.new⟩

theorem lt_stands (h : LT n a w G B S M d g v acc) :
    Calls Try.prog 42 #[.pointer (some ⟨G, 0, none⟩)] w fun e w' => e = .returned (.tuple #[.int .i64 ((standsG d g).getD 0 : Nat), .bool (standsG d g).isSome]) ∧ LT n a w' G B S M d g v acc := by
  refine (stands_any h.ld.self).mono ?_
  rintro e w' ⟨rfl, h'⟩
  exact ⟨rfl, h.next h'⟩

theorem lt_read (h : LT n a w G B S M d g v acc) (ho : d.off = false) {k : Nat} (hs : standsG d g = some k) :
    Calls Try.prog 43 #[.pointer (some ⟨G, 0, none⟩), .int .i64 k] w fun e w' => e = .returned (.string ⟨(readG d g.at_ k (sectN k)).toArray⟩) ∧ LT n a w' G B S M d g v acc := by
  obtain ⟨-, h2, h3⟩ := stands_fits hs
  obtain ⟨pv, hd⟩ := h.ld.now.dev
  have := hd.most
  have := h.ld.lt
  refine (rd_any h.ld ho k (by omega) h3).mono ?_
  rintro e w' ⟨rfl, hb⟩
  exact ⟨rfl, h.next (h.ld.self.on hb)⟩

theorem lt_pass (h : LT n a w G B S M d g v acc) {k : Nat} (hs : standsG d g = some k) :
    Calls Try.prog 44 #[.pointer (some ⟨G, 0, none⟩), .int .i64 k] w fun e w' => e = .returned (.tuple #[]) ∧ LT n a w' G B S M d (passG g k) v acc := by
  obtain ⟨-, h2, h3⟩ := stands_fits hs
  obtain ⟨pv, hd⟩ := h.ld.now.dev
  have := hd.most
  have := h.ld.lt
  refine (pass_any h.ld.self k h3 (by omega)).mono ?_
  rintro e w' ⟨rfl, h'⟩
  exact ⟨rfl, h.next h'⟩

theorem lt_append (h : LT n a w G B S M d g v acc) (s : Sec) (hl : acc.length ≤ 65536) (ty : TypeId) :
    ∃ v' w', (Builtin.append_ #[27, 27] ty #[v, .slice (some ⟨w.heap.size, 0, none⟩) 1 1]).run Try.prog (w.alloc (.cells #[.string ⟨s.toArray⟩] 9)) = .ok v' w' ∧ LT n a w' G B S M d g v' (acc ++ [s]) := by
  obtain ⟨v', w', hr, ht, ho⟩ := run_append_text w (G + 1) v acc s h.texts (by omega) (by have := LogAt.lt h.ld.log; omega) ty
  refine ⟨v', w', hr, h.ld.beside ho (fun k hk => (h.texts.ge k hk).2) (fun k hk => .inr ?_), ht, h.bG, h.sG, h.mG, h.new⟩
  have := (h.texts.ge k hk).1
  have := h.new
  omega

end

set_option maxRecDepth 100000 in
set_option maxHeartbeats 1000000 in
theorem open_any {n : Nat → Prop} {a w : World} {B S M : Nat} {d : Dv} (h : NowK n a w B S M d) (ho : d.off = false) (fr hi : Nat) (hft : fr ≤ hi) (hto : hi ≤ d.sure.length) (nx : Nat) (hn0 : nx ≠ 0) (hnx : nx < 18446744073709551616) (hn : n w.heap.size) :
    Calls Try.prog 15 #[.pointer (some ⟨B, 0, none⟩), .int .i64 fr, .int .i64 hi, .int .u64 nx] w fun e w' => ∃ v, e = .returned (.tuple #[.pointer (some ⟨w.heap.size, 0, none⟩), v, .int .i64 0]) ∧
      LT n a w' w.heap.size B S M d (openG d ⟨fr, hi, fr, nx⟩).2 v (openG d ⟨fr, hi, fr, nx⟩).1 := by
  obtain ⟨pv, hd⟩ := h.dev
  have hm := hd.most
  have HLN := Lib.hid (len_any hd)
  have hof := off_any hd
  rw [ho] at hof
  have HOF := Lib.hid hof
  have c1 : decide ((fr : Int) < 0) = false := by simp
  have c2 : ¬ hi < fr := by omega
  have c3 : ¬ d.sure.length < hi := by omega
  have c4 : ((nx : Int) == 0) = false := by rw [beq_eq_false_iff_ne]; omega
  have hb1 := hd.ltB; have hb2 := hd.ltS; have hb3 := hd.ltM
  have hst : LT n a (w.alloc (.cells #[.pointer (some ⟨B, 0, none⟩), .int .i64 fr, .int .i64 hi, .int .i64 fr, .int .u64 nx] 83)) w.heap.size B S M d ⟨fr, hi, fr, nx⟩ (.slice none 0 0) [] :=
    ⟨⟨h.on ((Below.refl _ w).alloc (Nat.le_refl _) _), heap_alloc_last w _, hn, hft, hto, hnx⟩, World.ownsRow_nil _ _ _ _, hb1, hb2, hb3, h.below.size⟩
  have HST := Lib.hid hst
  have HT : Hid (hi ≤ 65536) := Lib.hid (Nat.le_trans hto hm)
  clear hst h hd hof hft hto hn0 hnx hn hm hb1 hb2 hb3
  generalize hG : w.heap.size = G at HST ⊢
  obtain ⟨g0, hg0⟩ : ∃ x : Lg, x = ⟨fr, hi, fr, nx⟩ := ⟨_, rfl⟩
  have hgt : g0.to_ = hi := by rw [hg0]
  rw [← hg0] at HST ⊢
  have HGT := Lib.hid hgt
  have HG := Lib.hid hG
  clear hg0 hgt
  go_enter Try.func15, Try.ntmps15
  go_wp2_with (first
    | (go_at_call 40; (with_reducible refine HLN.out.mono ?_); rintro e w1 ⟨rfl, rfl⟩)
    | (go_at_call 38; (with_reducible refine HOF.out.mono ?_); rintro e w1 ⟨rfl, rfl⟩)
    | (go_at_call 42; (try simp only [hG]); (with_reducible refine (lt_stands HST.out).mono ?_); rintro e w2 ⟨rfl, hl2⟩)
    | fail)
  go_loopw [12, 13, 14] (fun sv sn sok wr => ∃ (acc : List Sec) (g' : Lg), Hid (openG d g0 = (acc ++ (openG d g').1, (openG d g').2)) ∧ Hid (acc.length ≤ g'.at_ ∧ g'.to_ = hi) ∧ sn = .int .i64 ((standsG d g').getD 0 : Nat) ∧ sok = .bool (standsG d g').isSome ∧ Hid (LT n a wr G B S M d g' sv acc)) (fun _ _ _ wr => hi - atOf wr G)
  case atStart => exact ⟨[], g0, Lib.hid rfl, Lib.hid ⟨Nat.zero_le _, HGT.out⟩, rfl, rfl, Lib.hid hl2⟩
  case round =>
    obtain ⟨acc, g', HQ, HA, rfl, rfl, HL⟩ := hrel
    clear hl2
    cases hsg : standsG d g' with
    | none =>
      have e0 := HQ.out
      rw [openG_none hsg, List.append_nil] at e0
      have E0 := Lib.hid e0
      simp only [Option.isSome_none, Option.getD_none]
      clear e0
      go_wp2_with fail
      go_ret3
      exact ⟨_, rfl, by rw [E0.out]; exact HL.out⟩
    | some k =>
      have e0 := HQ.out
      rw [openG_some hsg] at e0
      simp only at e0
      have hf := stands_fits hsg
      have hp := sectN_pos k
      have hsz := HT.out
      have hac := HA.out
      have hL := HL.out
      have HRD := Lib.hid (lt_read hL (k := k) (by assumption) hsg)
      have HPS := Lib.hid (fun wn (v : Value) (acc : List Sec) (hb : LT n a wn G B S M d g' v acc) => lt_pass hb hsg)
      have hto2 := hL.ld.le
      generalize hsd : readG d g'.at_ k (sectN k) = sd at e0 HRD
      have HAP := Lib.hid (fun wn (v : Value) (hb : LT n a wn G B S M d g' v acc) => lt_append hb sd (by omega) 27)
      have HQ2 : Hid (openG d g0 = ((acc ++ [sd]) ++ (openG d (passG g' k)).1, (openG d (passG g' k)).2)) := Lib.hid (by rw [e0]; simp)
      have HA2 : Hid ((acc ++ [sd]).length ≤ (passG g' k).at_ ∧ (passG g' k).to_ = hi) := Lib.hid ⟨by rw [List.length_append]; show _ ≤ g'.at_ + sectN k; simp only [List.length_singleton]; omega, hac.2⟩
      have HM : Hid (hi - (passG g' k).at_ < hi - g'.at_ ∧ g'.at_ = atOf wr G) := Lib.hid ⟨by show hi - (g'.at_ + sectN k) < _; have := hf.2.2; rw [hac.2] at this; omega, (LogAt.atOf hL.ld.log).symm⟩
      simp only [Option.isSome_some, Option.getD_some]
      clear e0 hf hp hsz hac hL hto2 HQ HA hsd hsg HL
      go_wp2_with (first
        | (go_at_call 43; (with_reducible refine HRD.out.mono ?_); rintro e w3 ⟨rfl, hl3⟩; obtain ⟨v4, w4, hr4, hl4⟩ := HAP.out _ _ hl3)
        | (at_builtin; refine Lib.wpList_append_run _ rfl _ _ _ _ rfl _ _ rfl rfl _ _ hr4 ?_)
        | (go_at_call 44; (with_reducible refine (HPS.out _ _ _ hl4).mono ?_); rintro e w5 ⟨rfl, hl5⟩)
        | (go_at_call 42; (with_reducible refine (lt_stands hl5).mono ?_); rintro e w6 ⟨rfl, hl6⟩)
        | fail)
      go_roundw
      case rel => exact ⟨acc ++ [sd], passG g' k, HQ2, HA2, rfl, rfl, Lib.hid hl6⟩
      case measure =>
        have h1 := HM.out
        rw [LogAt.atOf hl6.ld.log, ← h1.2]
        exact h1.1

end Go.Proofs.Ytaoaidjbpfdgmaa
