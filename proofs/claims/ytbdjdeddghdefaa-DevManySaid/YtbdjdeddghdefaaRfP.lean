/- DevActs' walk (written by tools/laws03t.py) -/
import Derived.Test.YtbdjdeddghdefaaRfO
import Derived.Deep.DeepCutAuto
import Derived.Deep.CutRange
import Derived.Deep.RegionWith
namespace Go.Proofs.Ytbdjdeddghdefaa
open Go.ChangeShapes Go.WideShapes Go.ChangeAt Go.RowKit

theorem i64_and15 (n : Int) : ∃ r : Nat, r ≤ 15 ∧ bits .and .i64 n 15 = r := by
  have h3 : (BitVec.ofInt 64 15).toNat = 2 ^ 4 - 1 := by decide
  have key : (BitVec.ofInt 64 n &&& BitVec.ofInt 64 15).toNat = (n % ((2 ^ 64 : Nat) : Int)).toNat % 2 ^ 4 := by
    rw [BitVec.toNat_and, BitVec.toNat_ofInt, h3, Nat.and_two_pow_sub_one_eq_mod]
  refine ⟨(n % ((2 ^ 64 : Nat) : Int)).toNat % 2 ^ 4, by omega, ?_⟩
  show IntKind.i64.wrap ((BitVec.ofInt 64 n &&& BitVec.ofInt 64 15).toNat : Nat) = _
  rw [key, IntKind.wrap_i64]
  omega

theorem few_new (k : Nat) : Few 0 (newD k) := ⟨Int.le_refl 0, Int.le_refl 0⟩

theorem plans_new (k : Nat) : Plans (newD k) [] := .inl ⟨rfl, rfl⟩

theorem two_start {w w1 w2 : World} {B S M k : Nat} {pv : Oth} {v : Value} (hd : IsDev w1 B S M pv (newD k)) (hs : pv.spare = []) (hb1 : Below w.heap.size w w1) (h0 : w.heap.size ≤ B) (h1 : w.heap.size ≤ S) (h2 : w.heap.size ≤ M)
    (hr : RfAt w2 v (newD k) []) (hb2 : Below w1.heap.size w1 w2) : Two w.heap.size w w2 B S M (newD k) v (newD k) [] :=
  ⟨⟨pv, hs, hd.on hb2⟩, hb1.trans (hb2.mono hb1.size), h0, h1, h2, hr, ⟨by simp, by simp [newD], hd.most, hd.lbytes, hd.bytes⟩⟩

/-- what do comes to, spelled -/
theorem do_spelled {n : Nat} {a w : World} {B S M : Nat} {d : Dv} {v : Value} {F : List Fal} {k : Int} (h : Two n a w B S M d v d F) (hp : Plans d F) (hf : Few k d) (hk : k ≤ 900) (x : Act3) (hkeep : x.fall.keep < 18446744073709551616) :
    Calls Try.prog 13 #[bothV B v, actV x] w fun ex w' => ∃ (d : Dv) (F : List Fal) (A : Option Addr) (n0 c : Nat) (L : Option Addr) (n1 e : Nat) (st : Int) (C : Option Addr) (n3 f : Nat) (o : Bool),
      ex = .returned (.tuple #[.agg #[.pointer (some ⟨B, 0, none⟩), .slice A n0 c, .slice L n1 e, .int .i64 st, .slice C n3 f, .bool o], .bool true]) ∧ Two n a w' B S M d (.agg #[.slice A n0 c, .slice L n1 e, .int .i64 st, .slice C n3 f, .bool o]) d F ∧ Plans d F ∧ Few (k + 1) d ∧ Only (dev3 B S M) w w' := by
  refine (do_any h hp hf hk x hkeep).mono ?_
  rintro ex w' ⟨d', v', F', rfl, ht, hp', hf', ho⟩
  obtain ⟨A, c, L, e, C, f, rfl⟩ := ht.ref.open_
  exact ⟨_, _, _, _, _, _, _, _, _, _, _, _, _, rfl, ht, hp', hf', ho⟩

theorem both_cells {w : World} {b : Nat} {v0 v1 v2 v3 v4 v5 : Value} {T : TypeId} (h : w.heap[b]? = some (.cells #[v0, v1, v2, v3, v4, v5] T (0, 0))) :
    w.cell? ⟨b, 0, none⟩ = some v0 ∧ w.cell? ⟨b, 1, none⟩ = some v1 ∧ w.cell? ⟨b, 2, none⟩ = some v2 ∧ w.cell? ⟨b, 3, none⟩ = some v3 ∧ w.cell? ⟨b, 4, none⟩ = some v4 ∧ w.cell? ⟨b, 5, none⟩ = some v5 ∧ w.frozen? ⟨b, 0, none⟩ = false ∧ w.frozen? ⟨b, 1, none⟩ = false ∧ w.frozen? ⟨b, 2, none⟩ = false ∧ w.frozen? ⟨b, 3, none⟩ = false ∧ w.frozen? ⟨b, 4, none⟩ = false ∧ w.frozen? ⟨b, 5, none⟩ = false := by
  refine ⟨?_, ?_, ?_, ?_, ?_, ?_, ?_, ?_, ?_, ?_, ?_, ?_⟩
  all_goals first | (rw [cell_of_row _ _ _ _ _ _ h]; rfl) | (simp [World.frozen?, h])

theorem after_alloc {w wf : World} {bb : Nat} {k : Int} {bx : Array Value} {d' : Dv} {F' : List Fal} {A2 : Option Addr} {m2 c2 : Nat} {L2 : Option Addr} {p2 e2 : Nat} {st2 : Int} {C2 : Option Addr} {q2 f2 : Nat} {o2 : Bool}
    (hT' : Hid (Two w.heap.size w wf (w.heap.size + 2) w.heap.size (w.heap.size + 1) d' (.agg #[.slice A2 m2 c2, .slice L2 p2 e2, .int .i64 st2, .slice C2 q2 f2, .bool o2]) d' F' ∧ Plans d' F' ∧ Few k d')) (hkb : Hid (wf.heap[bb]? = some (.cells bx 34 (0, 0)))) :
    ∃ (cb : Nat), Value.pointer (some ⟨wf.heap.size, 0, none⟩) = .pointer (some ⟨cb, 0, none⟩) ∧ Value.bool true = .bool true ∧ ∃ (d' : Dv) (F' : List Fal) (A' : Option Addr) (m0 c' : Nat) (L' : Option Addr) (m1 e' : Nat) (st' : Int) (C' : Option Addr) (m3 f' : Nat) (o' : Bool), Hid (Two w.heap.size w (wf.alloc (.cells #[.pointer (some ⟨w.heap.size + 2, 0, none⟩), .slice A2 m2 c2, .slice L2 p2 e2, .int .i64 st2, .slice C2 q2 f2, .bool o2] 34)) (w.heap.size + 2) w.heap.size (w.heap.size + 1) d' (.agg #[.slice A' m0 c', .slice L' m1 e', .int .i64 st', .slice C' m3 f', .bool o']) d' F' ∧ Plans d' F' ∧ Few k d') ∧ Hid ((wf.alloc (.cells #[.pointer (some ⟨w.heap.size + 2, 0, none⟩), .slice A2 m2 c2, .slice L2 p2 e2, .int .i64 st2, .slice C2 q2 f2, .bool o2] 34)).heap[bb]? = some (.cells bx 34 (0, 0))) ∧ Hid ((wf.alloc (.cells #[.pointer (some ⟨w.heap.size + 2, 0, none⟩), .slice A2 m2 c2, .slice L2 p2 e2, .int .i64 st2, .slice C2 q2 f2, .bool o2] 34)).heap[cb]? = some (.cells #[.pointer (some ⟨w.heap.size + 2, 0, none⟩), .slice A' m0 c', .slice L' m1 e', .int .i64 st', .slice C' m3 f', .bool o'] 34 (0, 0))) ∧ Hid (w.heap.size ≤ cb ∧ cb ≠ bb) :=
  ⟨_, rfl, rfl, d', F', _, _, _, _, _, _, _, _, _, _, _, Lib.hid ⟨hT'.out.1.on ((Below.refl _ wf).alloc (Nat.le_refl _) _), hT'.out.2⟩, Lib.hid ((Below.heap_alloc wf _ bb (heap_lt hkb.out)).trans hkb.out), Lib.hid (heap_alloc_last wf _), Lib.hid ⟨hT'.out.1.size, fun h => Nat.lt_irrefl _ (h ▸ heap_lt hkb.out)⟩⟩

theorem after_sets {w wf : World} {bb cz : Nat} {k : Int} {bx : Array Value} {d' : Dv} {F' : List Fal} {A2 : Option Addr} {m2 c2 : Nat} {L2 : Option Addr} {p2 e2 : Nat} {st2 : Int} {C2 : Option Addr} {q2 f2 : Nat} {o2 : Bool}
    (hT' : Hid (Two w.heap.size w wf (w.heap.size + 2) w.heap.size (w.heap.size + 1) d' (.agg #[.slice A2 m2 c2, .slice L2 p2 e2, .int .i64 st2, .slice C2 q2 f2, .bool o2]) d' F' ∧ Plans d' F' ∧ Few k d')) (hkb : Hid (wf.heap[bb]? = some (.cells bx 34 (0, 0)))) (hkz : Hid (wf.heap[cz]? = some (.cells #[.pointer none, .slice none 0 0, .slice none 0 0, .int .i64 0, .slice none 0 0, .bool false] 34 (0, 0)))) (hle : w.heap.size ≤ cz) (hlt : bb < cz) :
    ∃ (cb : Nat), Value.pointer (some ⟨cz, 0, none⟩) = .pointer (some ⟨cb, 0, none⟩) ∧ Value.bool true = .bool true ∧ ∃ (d' : Dv) (F' : List Fal) (A' : Option Addr) (m0 c' : Nat) (L' : Option Addr) (m1 e' : Nat) (st' : Int) (C' : Option Addr) (m3 f' : Nat) (o' : Bool), Hid (Two w.heap.size w ((((((wf.setCell ⟨cz, 0, none⟩ (.pointer (some ⟨w.heap.size + 2, 0, none⟩))).setCell ⟨cz, 1, none⟩ (.slice A2 m2 c2)).setCell ⟨cz, 2, none⟩ (.slice L2 p2 e2)).setCell ⟨cz, 3, none⟩ (.int .i64 st2)).setCell ⟨cz, 4, none⟩ (.slice C2 q2 f2)).setCell ⟨cz, 5, none⟩ (.bool o2)) (w.heap.size + 2) w.heap.size (w.heap.size + 1) d' (.agg #[.slice A' m0 c', .slice L' m1 e', .int .i64 st', .slice C' m3 f', .bool o']) d' F' ∧ Plans d' F' ∧ Few k d') ∧ Hid (((((((wf.setCell ⟨cz, 0, none⟩ (.pointer (some ⟨w.heap.size + 2, 0, none⟩))).setCell ⟨cz, 1, none⟩ (.slice A2 m2 c2)).setCell ⟨cz, 2, none⟩ (.slice L2 p2 e2)).setCell ⟨cz, 3, none⟩ (.int .i64 st2)).setCell ⟨cz, 4, none⟩ (.slice C2 q2 f2)).setCell ⟨cz, 5, none⟩ (.bool o2)).heap[bb]? = some (.cells bx 34 (0, 0))) ∧ Hid (((((((wf.setCell ⟨cz, 0, none⟩ (.pointer (some ⟨w.heap.size + 2, 0, none⟩))).setCell ⟨cz, 1, none⟩ (.slice A2 m2 c2)).setCell ⟨cz, 2, none⟩ (.slice L2 p2 e2)).setCell ⟨cz, 3, none⟩ (.int .i64 st2)).setCell ⟨cz, 4, none⟩ (.slice C2 q2 f2)).setCell ⟨cz, 5, none⟩ (.bool o2)).heap[cb]? = some (.cells #[.pointer (some ⟨w.heap.size + 2, 0, none⟩), .slice A' m0 c', .slice L' m1 e', .int .i64 st', .slice C' m3 f', .bool o'] 34 (0, 0))) ∧ Hid (w.heap.size ≤ cb ∧ cb ≠ bb) := by
  have h1 := Two.sets [.pointer (some ⟨w.heap.size + 2, 0, none⟩), .slice A2 m2 c2, .slice L2 p2 e2, .int .i64 st2, .slice C2 q2 f2, .bool o2] 0 hT'.out.1 hle hkz.out (by simp [plainV]) (by simp [plainV])
  have h2 := (setsW_other (Nat.ne_of_lt hlt) [.pointer (some ⟨w.heap.size + 2, 0, none⟩), .slice A2 m2 c2, .slice L2 p2 e2, .int .i64 st2, .slice C2 q2 f2, .bool o2] wf 0).trans hkb.out
  have h3 := setsW_heap [.pointer (some ⟨w.heap.size + 2, 0, none⟩), .slice A2 m2 c2, .slice L2 p2 e2, .int .i64 st2, .slice C2 q2 f2, .bool o2] wf _ 0 hkz.out
  rw [setsR_six] at h3
  exact ⟨_, rfl, rfl, d', F', _, _, _, _, _, _, _, _, _, _, _, Lib.hid ⟨h1, hT'.out.2⟩, Lib.hid h2, Lib.hid h3, Lib.hid ⟨hle, fun h => Nat.lt_irrefl _ (h ▸ hlt)⟩⟩

theorem acts_meas (i m : Nat) (h : i < m) : m - (i + 1) < m - i := by omega

set_option maxHeartbeats 4000000 in
set_option maxRecDepth 100000 in
theorem acts_walk (n : Int) (l : List Act3) (A0 : Option Addr) (cap : Nat) (w : World) (hl : IsActs w A0 l) :
    Calls Try.prog 3 #[.int .i64 n, .slice A0 l.length cap] w fun ex w' => ex = .returned (.bool true) ∧ Below w.heap.size w w' := by
  obtain ⟨r, hr, he⟩ := i64_and15 n
  have HL := Lib.hid hl; have HR15 := Lib.hid hr
  have hN := new_in w r (by omega)
  have HRf := fun wn => Lib.hid (rfnew_any wn r (by omega))
  clear hl hr
  go_enter Try.func3, Try.ntmps3
  go_wp2_with fail
  refine hN.mono ?_
  rintro ex w1 ⟨rfl, hd, hb1⟩
  have HD := Lib.hid hd; have HB1 := Lib.hid hb1
  clear hN hd hb1
  go_wp2_with fail
  refine (HRf _).out.mono ?_
  rintro ex w2 ⟨v, rfl, hra, hb2⟩
  have hT := two_start HD.out rfl HB1.out (by omega) (Nat.le_refl _) (by omega) hra hb2
  obtain ⟨A, c, L, e, C, f, rfl⟩ := hT.ref.open_
  have hP := plans_new r; have hF := few_new r
  clear hra hb2 HRf HD HB1
  generalize newD r = d at hT hP hF ⊢
  obtain ⟨n0, hn0⟩ : ∃ q, d.sure.length = q := ⟨_, rfl⟩
  obtain ⟨n1, hn1⟩ : ∃ q, d.loose.length = q := ⟨_, rfl⟩
  obtain ⟨st, hst⟩ : ∃ q, d.steps = q := ⟨_, rfl⟩
  obtain ⟨o, ho⟩ : ∃ q, d.off = q := ⟨_, rfl⟩
  obtain ⟨n3, hn3⟩ : ∃ q, ([] : List Fal).length = q := ⟨_, rfl⟩
  rw [hn0, hn1, hst, ho, hn3] at hT ⊢
  have HT := Lib.hid hT; have HP := Lib.hid hP; have HF := Lib.hid hF
  clear hT hP hF hn0 hn1 hst ho hn3
  go_wp2_with fail
  refine (awake3 _).mono ?_
  rintro ex w3 ⟨rfl, hb3⟩
  have b1 := (Below.refl w2.heap.size w2).alloc (Nat.le_refl _) (.cells #[.pointer (some ⟨w.heap.size + 2, 0, none⟩), .slice A n0 c, .slice L n1 e, .int .i64 st, .slice C n3 f, .bool o] 34)
  have hrow := (hb3.block w2.heap.size (by simp)).trans (heap_alloc_last w2 (.cells #[.pointer (some ⟨w.heap.size + 2, 0, none⟩), .slice A n0 c, .slice L n1 e, .int .i64 st, .slice C n3 f, .bool o] 34))
  have HT3 := Lib.hid ((HT.out.on b1).on hb3)
  have HLe : Hid (w.heap.size ≤ w2.heap.size) := Lib.hid HT.out.size
  clear HT b1 hb3
  obtain ⟨bb, hbb⟩ : ∃ q, w2.heap.size = q := ⟨_, rfl⟩
  rw [hbb] at hrow HLe ⊢
  have HROW := Lib.hid hrow
  clear hbb hrow
  go_wp2_with fail
  go_loopw [9] (fun s9 wr => ∃ i : Nat, i ≤ l.length ∧ i ≤ 50 ∧ s9 = .int .i64 i ∧ ∃ (d : Dv) (F : List Fal) (A : Option Addr) (n0 c : Nat) (L : Option Addr) (n1 e : Nat) (st : Int) (C : Option Addr) (n3 f : Nat) (o : Bool), Hid (Two w.heap.size w wr (w.heap.size + 2) w.heap.size (w.heap.size + 1) d (.agg #[.slice A n0 c, .slice L n1 e, .int .i64 st, .slice C n3 f, .bool o]) d F) ∧ Hid (Plans d F) ∧ Hid (Few (i : Int) d) ∧ Hid (wr.heap[bb]? = some (.cells #[.pointer (some ⟨w.heap.size + 2, 0, none⟩), .slice A n0 c, .slice L n1 e, .int .i64 st, .slice C n3 f, .bool o] 34 (0, 0)))) (fun s9 _ => 50 - (intOf s9).toNat)
  case atStart => exact ⟨0, Nat.zero_le _, Nat.zero_le _, rfl, _, _, _, _, _, _, _, _, _, _, _, _, _, HT3, HP, HF, HROW⟩
  case round =>
    clear HT3 HP HF HROW
    obtain ⟨i, hi, hi50, rfl, d, F, A, n0, c, L, n1, e, st, C, n3, f, o, HT, HP, HF, HB⟩ := hrel
    by_cases hc50 : i < l.length ∧ i < 50
    · obtain ⟨hlt, h50⟩ := hc50
      obtain ⟨x, hx⟩ : ∃ x, l[i]? = some x := ⟨_, List.getElem?_eq_getElem hlt⟩
      obtain hnil | ⟨b, og, rfl, hblt, hc⟩ := HL.out.2
      · rw [hnil] at hlt; exact absurd hlt (Nat.not_lt_zero _)
      · obtain ⟨x0', x1', x2', x3', x4', x5', x6', -, -, -, -, hkeep⟩ := hc i x hx
        have hbw : Below w.heap.size w wr := HT.out.below
        have g0 : wr.cell? ⟨b, og + i * 7, none⟩ = some (.int .i64 x.kind) := (hbw.cell hblt).trans x0'
        have g1 : wr.cell? ⟨b, og + i * 7 + 1, none⟩ = some (.int .i64 x.at_) := (hbw.cell hblt).trans x1'
        have g2 : wr.cell? ⟨b, og + i * 7 + 2, none⟩ = some (.int .u8 (x.c.toNat : Int)) := (hbw.cell hblt).trans x2'
        have g3 : wr.cell? ⟨b, og + i * 7 + 3, none⟩ = some (.bool x.odd) := (hbw.cell hblt).trans x3'
        have g4 : wr.cell? ⟨b, og + i * 7 + 4, none⟩ = some (.int .i64 x.fall.at_) := (hbw.cell hblt).trans x4'
        have g5 : wr.cell? ⟨b, og + i * 7 + 5, none⟩ = some (.int .u64 (x.fall.keep : Int)) := (hbw.cell hblt).trans x5'
        have g6 : wr.cell? ⟨b, og + i * 7 + 6, none⟩ = some (.int .i64 x.fall.torn) := (hbw.cell hblt).trans x6'
        have hkk : (i : Int) ≤ 900 := by omega
        have HC1 : Hid (∀ wn, Hid (Two w.heap.size w wn (w.heap.size + 2) w.heap.size (w.heap.size + 1) d (.agg #[.slice A n0 c, .slice L n1 e, .int .i64 st, .slice C n3 f, .bool o]) d F ∧ wn.heap[bb]? = some (.cells #[.pointer (some ⟨w.heap.size + 2, 0, none⟩), .slice A n0 c, .slice L n1 e, .int .i64 st, .slice C n3 f, .bool o] 34 (0, 0))) → Calls Try.prog 13 #[.agg #[.pointer (some ⟨w.heap.size + 2, 0, none⟩), .slice A n0 c, .slice L n1 e, .int .i64 st, .slice C n3 f, .bool o], .agg #[.int .i64 x.kind, .int .i64 x.at_, .int .u8 (x.c.toNat : Int), .bool x.odd, .int .i64 x.fall.at_, .int .u64 (x.fall.keep : Int), .int .i64 x.fall.torn]] wn fun ex w' => ∃ (d' : Dv) (F' : List Fal) (A' : Option Addr) (m0 c' : Nat) (L' : Option Addr) (m1 e' : Nat) (st' : Int) (C' : Option Addr) (m3 f' : Nat) (o' : Bool),
            ex = .returned (.tuple #[.agg #[.pointer (some ⟨w.heap.size + 2, 0, none⟩), .slice A' m0 c', .slice L' m1 e', .int .i64 st', .slice C' m3 f', .bool o'], .bool true]) ∧ Hid (Two w.heap.size w w' (w.heap.size + 2) w.heap.size (w.heap.size + 1) d' (.agg #[.slice A' m0 c', .slice L' m1 e', .int .i64 st', .slice C' m3 f', .bool o']) d' F' ∧ Plans d' F' ∧ Few ((i : Int) + 1) d') ∧ Hid (w'.heap[bb]? = some (.cells #[.pointer (some ⟨w.heap.size + 2, 0, none⟩), .slice A n0 c, .slice L n1 e, .int .i64 st, .slice C n3 f, .bool o] 34 (0, 0)))) := Lib.hid fun wn hn => (do_spelled hn.out.1 HP.out HF.out hkk x hkeep).mono (by
              rintro ex w' ⟨d', F', A', m0, c', L', m1, e', st', C', m3, f', o', rfl, h1, h2, h3, ho⟩
              exact ⟨_, _, _, _, _, _, _, _, _, _, _, _, _, rfl, Lib.hid ⟨h1, h2, h3⟩, hn.out.1.keep ho hn.out.2 (by decide) (by decide)⟩)
        have HC2 : Hid (∀ wn, Hid (Two w.heap.size w wn (w.heap.size + 2) w.heap.size (w.heap.size + 1) d (.agg #[.slice A n0 c, .slice L n1 e, .int .i64 st, .slice C n3 f, .bool o]) d F ∧ wn.heap[bb]? = some (.cells #[.pointer (some ⟨w.heap.size + 2, 0, none⟩), .slice A n0 c, .slice L n1 e, .int .i64 st, .slice C n3 f, .bool o] 34 (0, 0)) ∧ wn.heap[wr.heap.size]? = some (.cells #[.pointer none, .slice none 0 0, .slice none 0 0, .int .i64 0, .slice none 0 0, .bool false] 34 (0, 0))) → Calls Try.prog 13 #[.agg #[.pointer (some ⟨w.heap.size + 2, 0, none⟩), .slice A n0 c, .slice L n1 e, .int .i64 st, .slice C n3 f, .bool o], .agg #[.int .i64 x.kind, .int .i64 x.at_, .int .u8 (x.c.toNat : Int), .bool x.odd, .int .i64 x.fall.at_, .int .u64 (x.fall.keep : Int), .int .i64 x.fall.torn]] wn fun ex w' => ∃ (d' : Dv) (F' : List Fal) (A' : Option Addr) (m0 c' : Nat) (L' : Option Addr) (m1 e' : Nat) (st' : Int) (C' : Option Addr) (m3 f' : Nat) (o' : Bool),
            ex = .returned (.tuple #[.agg #[.pointer (some ⟨w.heap.size + 2, 0, none⟩), .slice A' m0 c', .slice L' m1 e', .int .i64 st', .slice C' m3 f', .bool o'], .bool true]) ∧ Hid (Two w.heap.size w w' (w.heap.size + 2) w.heap.size (w.heap.size + 1) d' (.agg #[.slice A' m0 c', .slice L' m1 e', .int .i64 st', .slice C' m3 f', .bool o']) d' F' ∧ Plans d' F' ∧ Few ((i : Int) + 1) d') ∧ Hid (w'.heap[bb]? = some (.cells #[.pointer (some ⟨w.heap.size + 2, 0, none⟩), .slice A n0 c, .slice L n1 e, .int .i64 st, .slice C n3 f, .bool o] 34 (0, 0))) ∧ Hid (w'.heap[wr.heap.size]? = some (.cells #[.pointer none, .slice none 0 0, .slice none 0 0, .int .i64 0, .slice none 0 0, .bool false] 34 (0, 0)))) := Lib.hid fun wn hn => (do_spelled hn.out.1 HP.out HF.out hkk x hkeep).mono (by
              rintro ex w' ⟨d', F', A', m0, c', L', m1, e', st', C', m3, f', o', rfl, h1, h2, h3, ho⟩
              exact ⟨_, _, _, _, _, _, _, _, _, _, _, _, _, rfl, Lib.hid ⟨h1, h2, h3⟩, hn.out.1.keep ho hn.out.2.1 (by decide) (by decide), hn.out.1.keep ho hn.out.2.2 (by decide) (by decide)⟩)
        clear x0' x1' x2' x3' x4' x5' x6' hc hbw hkeep hkk HP HF
        have hb := HB.out
        have p0 : wr.cell? ⟨bb, 0, none⟩ = some (.pointer (some ⟨w.heap.size + 2, 0, none⟩)) := by rw [cell_of_row _ _ _ _ _ _ hb]; rfl
        have p1 : wr.cell? ⟨bb, 1, none⟩ = some (.slice A n0 c) := by rw [cell_of_row _ _ _ _ _ _ hb]; rfl
        have p2 : wr.cell? ⟨bb, 2, none⟩ = some (.slice L n1 e) := by rw [cell_of_row _ _ _ _ _ _ hb]; rfl
        have p3 : wr.cell? ⟨bb, 3, none⟩ = some (.int .i64 st) := by rw [cell_of_row _ _ _ _ _ _ hb]; rfl
        have p4 : wr.cell? ⟨bb, 4, none⟩ = some (.slice C n3 f) := by rw [cell_of_row _ _ _ _ _ _ hb]; rfl
        have p5 : wr.cell? ⟨bb, 5, none⟩ = some (.bool o) := by rw [cell_of_row _ _ _ _ _ _ hb]; rfl
        have pf0 : wr.frozen? ⟨bb, 0, none⟩ = false := by simp [World.frozen?, hb]
        have pf1 : wr.frozen? ⟨bb, 1, none⟩ = false := by simp [World.frozen?, hb]
        have pf2 : wr.frozen? ⟨bb, 2, none⟩ = false := by simp [World.frozen?, hb]
        have pf3 : wr.frozen? ⟨bb, 3, none⟩ = false := by simp [World.frozen?, hb]
        have pf4 : wr.frozen? ⟨bb, 4, none⟩ = false := by simp [World.frozen?, hb]
        have pf5 : wr.frozen? ⟨bb, 5, none⟩ = false := by simp [World.frozen?, hb]
        have ht := HT.out
        have bz := (Below.refl wr.heap.size wr).alloc (Nat.le_refl _) (.cells #[.pointer none, .slice none 0 0, .slice none 0 0, .int .i64 0, .slice none 0 0, .bool false] 34)
        have ht1 := ht.on bz
        have hbz : (wr.alloc (.cells #[.pointer none, .slice none 0 0, .slice none 0 0, .int .i64 0, .slice none 0 0, .bool false] 34)).heap[bb]? = some (.cells #[.pointer (some ⟨w.heap.size + 2, 0, none⟩), .slice A n0 c, .slice L n1 e, .int .i64 st, .slice C n3 f, .bool o] 34 (0, 0)) := (bz.block bb (heap_lt hb)).trans hb
        have hcz := heap_alloc_last wr (.cells #[.pointer none, .slice none 0 0, .slice none 0 0, .int .i64 0, .slice none 0 0, .bool false] 34)
        have HG1 : Hid (Two w.heap.size w wr (w.heap.size + 2) w.heap.size (w.heap.size + 1) d (.agg #[.slice A n0 c, .slice L n1 e, .int .i64 st, .slice C n3 f, .bool o]) d F ∧ wr.heap[bb]? = some (.cells #[.pointer (some ⟨w.heap.size + 2, 0, none⟩), .slice A n0 c, .slice L n1 e, .int .i64 st, .slice C n3 f, .bool o] 34 (0, 0))) := Lib.hid ⟨ht, hb⟩
        have HG2 : Hid (Two w.heap.size w wr.drew (w.heap.size + 2) w.heap.size (w.heap.size + 1) d (.agg #[.slice A n0 c, .slice L n1 e, .int .i64 st, .slice C n3 f, .bool o]) d F ∧ wr.drew.heap[bb]? = some (.cells #[.pointer (some ⟨w.heap.size + 2, 0, none⟩), .slice A n0 c, .slice L n1 e, .int .i64 st, .slice C n3 f, .bool o] 34 (0, 0))) := Lib.hid ⟨ht.drew, hb⟩
        have HG3 : Hid (Two w.heap.size w (wr.alloc (.cells #[.pointer none, .slice none 0 0, .slice none 0 0, .int .i64 0, .slice none 0 0, .bool false] 34)) (w.heap.size + 2) w.heap.size (w.heap.size + 1) d (.agg #[.slice A n0 c, .slice L n1 e, .int .i64 st, .slice C n3 f, .bool o]) d F ∧ (wr.alloc (.cells #[.pointer none, .slice none 0 0, .slice none 0 0, .int .i64 0, .slice none 0 0, .bool false] 34)).heap[bb]? = some (.cells #[.pointer (some ⟨w.heap.size + 2, 0, none⟩), .slice A n0 c, .slice L n1 e, .int .i64 st, .slice C n3 f, .bool o] 34 (0, 0)) ∧ (wr.alloc (.cells #[.pointer none, .slice none 0 0, .slice none 0 0, .int .i64 0, .slice none 0 0, .bool false] 34)).heap[wr.heap.size]? = some (.cells #[.pointer none, .slice none 0 0, .slice none 0 0, .int .i64 0, .slice none 0 0, .bool false] 34 (0, 0))) := Lib.hid ⟨ht1, hbz, hcz⟩
        have HG4 : Hid (Two w.heap.size w (wr.alloc (.cells #[.pointer none, .slice none 0 0, .slice none 0 0, .int .i64 0, .slice none 0 0, .bool false] 34)).drew (w.heap.size + 2) w.heap.size (w.heap.size + 1) d (.agg #[.slice A n0 c, .slice L n1 e, .int .i64 st, .slice C n3 f, .bool o]) d F ∧ (wr.alloc (.cells #[.pointer none, .slice none 0 0, .slice none 0 0, .int .i64 0, .slice none 0 0, .bool false] 34)).drew.heap[bb]? = some (.cells #[.pointer (some ⟨w.heap.size + 2, 0, none⟩), .slice A n0 c, .slice L n1 e, .int .i64 st, .slice C n3 f, .bool o] 34 (0, 0)) ∧ (wr.alloc (.cells #[.pointer none, .slice none 0 0, .slice none 0 0, .int .i64 0, .slice none 0 0, .bool false] 34)).drew.heap[wr.heap.size]? = some (.cells #[.pointer none, .slice none 0 0, .slice none 0 0, .int .i64 0, .slice none 0 0, .bool false] 34 (0, 0))) := Lib.hid ⟨ht1.drew, hbz, hcz⟩
        have HBL : Hid (bb < wr.heap.size) := Lib.hid (heap_lt hb)
        have hlbb : bb < wr.heap.size := heap_lt hb
        have hlb : b < wr.heap.size := Nat.lt_of_lt_of_le hblt HT.out.below.size
        clear bz hbz hcz hb ht1 ht
        have d50 : decide ((i : Int) < 50) = true := by rw [decide_eq_true_iff]; omega
        have d51 : decide ((i : Int) < (l.length : Int)) = true := by rw [decide_eq_true_iff]; omega
        have H50 := Lib.hid h50; have HLT := Lib.hid hlt
        clear h50 hlt
        go_upto_region 9 with fail
        go_cut [10, 11] from 39 to 47 (fun s10 s11 wx => ∃ (cb : Nat), s10 = .pointer (some ⟨cb, 0, none⟩) ∧ s11 = .bool true ∧ ∃ (d' : Dv) (F' : List Fal) (A' : Option Addr) (m0 c' : Nat) (L' : Option Addr) (m1 e' : Nat) (st' : Int) (C' : Option Addr) (m3 f' : Nat) (o' : Bool), Hid (Two w.heap.size w wx (w.heap.size + 2) w.heap.size (w.heap.size + 1) d' (.agg #[.slice A' m0 c', .slice L' m1 e', .int .i64 st', .slice C' m3 f', .bool o']) d' F' ∧ Plans d' F' ∧ Few ((i : Int) + 1) d') ∧ Hid (wx.heap[bb]? = some (.cells #[.pointer (some ⟨w.heap.size + 2, 0, none⟩), .slice A n0 c, .slice L n1 e, .int .i64 st, .slice C n3 f, .bool o] 34 (0, 0))) ∧ Hid (wx.heap[cb]? = some (.cells #[.pointer (some ⟨w.heap.size + 2, 0, none⟩), .slice A' m0 c', .slice L' m1 e', .int .i64 st', .slice C' m3 f', .bool o'] 34 (0, 0))) ∧ Hid (w.heap.size ≤ cb ∧ cb ≠ bb))
        case first =>
          go_region_with (first
            | (go_at_call 13; (with_reducible refine (HC1.out _ ?hh).mono ?_); (case hh => assumption); rintro ex wf ⟨d', F', A', m0, c', L', m1, e', st', C', m3, f', o', rfl, hT', hkb⟩)
            | (go_at_call 13; (with_reducible refine (HC2.out _ ?hh).mono ?_); (case hh => assumption); rintro ex wf ⟨d', F', A', m0, c', L', m1, e', st', C', m3, f', o', rfl, hT', hkb, hkz⟩; obtain ⟨z0, z1, z2, z3, z4, z5, zf0, zf1, zf2, zf3, zf4, zf5⟩ := both_cells hkz.out))
          all_goals (go_wp2_with fail; go_simp; go_meet)
          all_goals first
            | (with_reducible exact after_alloc hT' hkb)
            | (with_reducible exact after_sets hT' hkb hkz HT.out.size HBL.out)
        case rest =>
          obtain ⟨cb, rfl, rfl, d', F', A', m0, c', L', m1, e', st', C', m3, f', o', HT', HB', HCB, HNE⟩ := hcut
          have HSAME : Hid (∀ wn, Two w.heap.size w wn (w.heap.size + 2) w.heap.size (w.heap.size + 1) d' (.agg #[.slice A' m0 c', .slice L' m1 e', .int .i64 st', .slice C' m3 f', .bool o']) d' F' → Calls Try.prog 14 #[.agg #[.pointer (some ⟨w.heap.size + 2, 0, none⟩), .slice A' m0 c', .slice L' m1 e', .int .i64 st', .slice C' m3 f', .bool o']] wn fun ex w' => ex = .returned (.bool true) ∧ Two w.heap.size w w' (w.heap.size + 2) w.heap.size (w.heap.size + 1) d' (.agg #[.slice A' m0 c', .slice L' m1 e', .int .i64 st', .slice C' m3 f', .bool o']) d' F' ∧ Only (dev3 (w.heap.size + 2) w.heap.size (w.heap.size + 1)) wn w') := Lib.hid fun wn hn => same_any hn
          have hS1 := Two.sets [.pointer (some ⟨w.heap.size + 2, 0, none⟩), .slice A' m0 c', .slice L' m1 e', .int .i64 st', .slice C' m3 f', .bool o'] 0 HT'.out.1 HLe.out HB'.out (by simp [plainV]) (by simp [plainV])
          have hrow := setsW_heap [.pointer (some ⟨w.heap.size + 2, 0, none⟩), .slice A' m0 c', .slice L' m1 e', .int .i64 st', .slice C' m3 f', .bool o'] _ _ 0 HB'.out
          rw [setsR_six] at hrow
          have HS1 := Lib.hid hS1; have HROW := Lib.hid hrow
          have hne := HNE.out.2
          obtain ⟨q0, q1, q2, q3, q4, q5, qf0, qf1, qf2, qf3, qf4, qf5⟩ := both_cells HB'.out
          obtain ⟨s0, s1, s2, s3, s4, s5, -, -, -, -, -, -⟩ := both_cells HCB.out
          clear p0 p1 p2 p3 p4 p5 pf0 pf1 pf2 pf3 pf4 pf5 g0 g1 g2 g3 g4 g5 g6 HC1 HC2 HG1 HG2 HG3 HG4 hS1 hrow
          go_wp2_with fail
          refine (HSAME.out _ HS1.out).mono ?_
          rintro ex w5 ⟨rfl, h5, ho5⟩
          have hr5 := HS1.out.keep ho5 HROW.out (by decide) (by decide)
          have H5 := Lib.hid h5; have HR5 := Lib.hid hr5
          clear h5 ho5 hr5
          go_wp2_with fail
          go_roundw
          case rel => exact ⟨i + 1, HLT.out, H50.out, by go_num, d', F', _, _, _, _, _, _, _, _, _, _, _, H5, Lib.hid HT'.out.2.1, Lib.hid (by have h := HT'.out.2.2; rw [show ((i : Int) + 1) = ((i + 1 : Nat) : Int) from rfl] at h; exact h), HR5⟩
          case measure => exact acts_meas i 50 H50.out
    · have hex : ¬ i < l.length ∨ (i < l.length ∧ ¬ i < 50) := by omega
      clear hc50
      rcases hex with hlt | ⟨hlt, h50⟩
      all_goals
        go_wp2_with fail
        go_ret
        exact ⟨rfl, HT.out.below⟩

end Go.Proofs.Ytbdjdeddghdefaa
