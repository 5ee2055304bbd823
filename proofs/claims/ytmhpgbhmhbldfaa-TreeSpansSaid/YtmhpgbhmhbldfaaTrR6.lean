/- TreeSpans -/
import Derived.Test.YtmhpgbhmhbldfaaTrR5
import Derived.Deep.CutBlock
namespace Go.Proofs.Ytmhpgbhmhbldfaa
open Go.ChangeShapes Go.WideShapes Go.ChangeAt Go.RowKit Go.Shelf

attribute [local go_sem] Oper.semAt_some

/-- what the first loop leaves -/
def SpnA (w0 : World) (A : Option Addr) (l : List ByteArray) (x : Value) (wx : World) : Prop :=
  ∃ (i : Nat) (a : Addr) (c : Nat) (m : List ByteArray) (next root : Nat), i ≤ 60 ∧ x = .slice (some a) m.length c ∧ AgnI w0 w0.heap.size i A l a c m next root wx

/-- the row of keys that are wanted, and its box -/
structure SpnB (wB : World) (pc : Nat) (q : List ByteArray) (A' : Option Addr) (c' : Nat) (wr : World) : Prop where
  below : Below wB.heap.size wB wr
  box : wr.heap[pc]? = some (.cells #[.slice A' q.length c'] 22 (0, 0))
  row : OwS wr wB.heap.size (.slice A' q.length c') q

theorem SpnB.on {wB : World} {pc : Nat} {q : List ByteArray} {A' : Option Addr} {c' : Nat} {wr w' : World} (h : SpnB wB pc q A' c' wr) (hb : Below wr.heap.size wr w') : SpnB wB pc q A' c' w' :=
  ⟨h.below.trans (hb.mono h.below.size), (hb.block _ (Array.getElem?_eq_some_iff.1 h.box).1).trans h.box, h.row.on hb⟩

theorem SpnB.app {wB : World} {pc : Nat} {q : List ByteArray} {A' : Option Addr} {c' : Nat} {wr : World} (h : SpnB wB pc q A' c' wr) (x : ByteArray) (hq : q.length ≤ 100) (hpc : wB.heap.size ≤ pc) :
    ∃ A2 c2 w2, (Builtin.append_ #[22, 22] 22 #[.slice A' q.length c', .slice (some ⟨wr.heap.size, 0, none⟩) 1 1]).run Try.prog (wr.alloc (.cells #[.string x] 9)).drew = .ok (.slice A2 (q.length + 1) c2) w2 ∧
      w2.cell? ⟨pc, 0, none⟩ = some (.slice A' q.length c') ∧ w2.frozen? ⟨pc, 0, none⟩ = false ∧ SpnB wB pc (q ++ [x]) A2 c2 (w2.setCell ⟨pc, 0, none⟩ (.slice A2 (q.length + 1) c2)) := by
  have hbx : Below wr.heap.size wr (wr.alloc (.cells #[.string x] 9)).drew := ((Below.refl _ wr).alloc (Nat.le_refl _) _).drew
  have h1 := h.on hbx
  have hx : (wr.alloc (.cells #[.string x] 9)).drew.heap[wr.heap.size]? = some (.cells #[.string x] 9 (0, 0)) := heap_alloc_new wr _
  obtain ⟨p, c2, w2, hr, ho, hb, hg⟩ := app_S (q := [x]) h1.row h1.below.size ⟨wr.heap.size, 0, none⟩ 1 (fun j u hj => by
    rw [adr_add, Nat.zero_add, cell_of_row _ _ _ _ _ _ hx, ← Array.getElem?_toList]
    exact hj) (by simp; omega)
  have hne : ∀ {W : World} {l : List ByteArray} {B : Option Addr} {k n : Nat} {cs : Array Value}, OwS W wB.heap.size (.slice B n k) l → W.heap[pc]? = some (.cells cs 22 (0, 0)) → ¬ (Value.slice B n k).ownBlock = some pc := by
    intro W l B k n cs hw hbox e
    rcases hw.2 with ⟨e2, -⟩ | ⟨g, cap, cur, e2, -, hgb, -⟩
    · simp only [Value.slice.injEq] at e2
      rw [e2.1] at e
      cases e
    · simp only [Value.slice.injEq] at e2
      rw [e2.1] at e
      have e3 : g = pc := by simpa [Value.ownBlock] using e
      subst e3
      rw [hbox] at hgb
      simp at hgb
  have hbox2 : w2.heap[pc]? = some (.cells #[.slice A' q.length c'] 22 (0, 0)) := (hg.block _ (Array.getElem?_eq_some_iff.1 h1.box).1 (fun e => hne h1.row h1.box e.symm)).trans h1.box
  have hlen : (q ++ [x]).length = q.length + 1 := by simp
  refine ⟨p, c2, w2, hr _, by rw [cell_of_row _ _ _ _ _ _ hbox2]; rfl, by simp [World.frozen?, hbox2], (h1.below.trans hb).setCell (p := ⟨pc, 0, none⟩) hpc _, ?_, ?_⟩
  · rw [hlen]; simp [World.setCell, Array.getElem?_modify, hbox2]
  · rw [hlen]
    refine ⟨ho.1, ?_⟩
    rcases ho.2 with h2 | ⟨g, cap, cur, e2, h3, hgb, r⟩
    · exact .inl h2
    · refine .inr ⟨g, cap, cur, e2, h3, (Below.heap_setCell _ ⟨pc, 0, none⟩ _ g ?_).trans hgb, r⟩
      rintro (rfl : g = pc)
      rw [hbox2] at hgb
      simp at hgb

set_option maxHeartbeats 4000000 in
set_option maxRecDepth 100000 in
theorem spans_walk {w : World} {A : Option Addr} {cap : Nat} {l : List ByteArray} {lo0 hi0 : ByteArray} (hA : SAt w w.heap.size A l) (hl0 : l.length ≤ 9223372036854775807) (hs : ∀ s ∈ l, s.size ≤ 9223372036854775807) (hlo0 : lo0.size ≤ 9223372036854775807) (hhi0 : hi0.size ≤ 9223372036854775807) :
    Calls Try.prog 3 #[.slice A l.length cap, .string lo0, .string hi0] w fun e w' => e = .returned (.bool true) ∧ Below w.heap.size w w' := by
  obtain ⟨n0, hn0⟩ : ∃ n, l.length = n := ⟨_, rfl⟩
  rw [hn0]
  have HA := Lib.hid hA; have HS := Lib.hid hs; have HN0 := Lib.hid hn0; have HLH := Lib.hid (And.intro hlo0 hhi0)
  have hl : n0 ≤ 9223372036854775807 := hn0 ▸ hl0
  clear hA hs hn0 hl0 hlo0 hhi0
  have HCA := Lib.hid (awake8 w)
  refine (callsIn_wide (n := 9)).1 ?_
  refine callsIn_of_wp_marks Try.func3 rfl trivial ?_ rfl
  simp only [Try.ntmps3, List.size_toArray, List.length_cons, List.length_nil, Nat.reduceAdd, Nat.reduceSub, Array.replicate_succ, Array.replicate_zero, List.push_toArray, List.append_toArray, List.nil_append, List.cons_append]
  refine wpIn_wide.2 ?_
  go_wp2_with fail
  refine HCA.out.mono ?_
  rintro e w0 ⟨rfl, hb0⟩
  have HB0 := Lib.hid hb0
  have HC0 : Hid (Calls Try.prog 6 #[.nilFunc, .int .u64 0, .int .u64 1] w0 fun e w' => e = .returned (.pointer (some ⟨w0.heap.size, 0, none⟩)) ∧ IsT w' w0.heap.size none none 0 1 false ∧ Below w0.heap.size w0 w') := Lib.hid (new_c 0 1 w0)
  clear hb0
  go_wp2_with fail
  refine HC0.out.mono ?_
  rintro e w1 ⟨rfl, hT, hb1⟩
  obtain ⟨W1, hW1⟩ : ∃ W1, w1.alloc (.cells #[] 9) = W1 := ⟨_, rfl⟩
  have hbW : Below w1.heap.size w1 W1 := hW1 ▸ (Below.refl _ _).alloc (Nat.le_refl _) _
  have HI0 : Hid (AgnI w0 w0.heap.size 0 A l ⟨w1.heap.size, 0, none⟩ 0 [] 1 0 W1) := Lib.hid ⟨⟨Nat.le_refl _, .inl ⟨rfl, rfl, hT.on hbW hT.cells.2.2⟩⟩, ⟨Nat.le_refl _, by omega, Nat.le_refl _, by simp⟩, ⟨fun i s h => by simp at h, Nat.le_refl _⟩, (HA.out.on HB0.out).keep (hb1.trans (hbW.mono hb1.size)) (Nat.le_refl _), hb1.trans (hbW.mono hb1.size)⟩
  clear hT hb1 hbW HC0
  go_upto_block 0 with fail
  go_cut [8] from 21 to 47 (SpnA w0 A l)
  case first =>
    go_wp2_with fail
    go_loopg [8, 9] 60 (fun g mv iv wr => ∃ (i : Nat) (a : Addr) (c : Nat) (m : List ByteArray) (next root : Nat), mv = .slice (some a) m.length c ∧ iv = .int .i64 i ∧ i ≤ n0 ∧ i ≤ 60 ∧ 60 - i ≤ g ∧ Hid (AgnI w0 w0.heap.size i A l a c m next root wr))
    case atStart => exact ⟨0, _, 0, [], 1, 0, rfl, rfl, Nat.zero_le _, by omega, by omega, HI0⟩
    case round =>
      obtain ⟨i, a, c, m, next, root, rfl, rfl, hi, hi60, hg, HI⟩ := hrel
      by_cases hlt : i < n0 ∧ i < 60
      · obtain ⟨hlm, hl60⟩ := hlt
        have hlz : (i : Int) < (n0 : Int) := by omega
        have hlz60 : (i : Int) < 60 := by omega
        have hil : i < l.length := by rw [HN0.out]; exact hlm
        obtain ⟨x, hx⟩ : ∃ x, l[i]? = some x := ⟨_, List.getElem?_eq_getElem hil⟩
        obtain ⟨b, o, rfl, hb, c0⟩ := HI.out.2.2.2.1 i x hx
        have hxs := HS.out x (List.mem_of_getElem? hx)
        obtain ⟨z, hz⟩ : ∃ z, fewS x = z := ⟨_, rfl⟩
        have HFW := Lib.hid (few_c2 x wr hxs)
        rw [hz] at HFW
        clear hx hb hxs hil hz
        by_cases h90 : z.size ≤ 90
        · have h90z : ¬ (90 : Int) < (z.size : Int) := by omega
          by_cases hin : z ∈ m
          · have HIN := Lib.hid hin; have H90 := Lib.hid h90
            clear hin h90
            go_wp2_with fail
            refine HFW.out.mono ?_
            rintro e w2 ⟨rfl, hb2⟩
            have hq := HI.out
            have hC := add_yes (k := z) (hq.1.on hb2) H90.out (by have := hq.2.1.2.2.1; omega) (by have := hq.2.1.2.1; omega) HIN.out
            have HC := Lib.hid hC; have HB2 := Lib.hid hb2
            clear hC hb2 hq
            go_wp2_with fail
            refine HC.out.mono ?_
            rintro e w3 ⟨rfl, hb3, hT3⟩
            have hq := HI.out
            have hb23 := HB2.out.trans (hb3.mono HB2.out.size)
            have hC := rwith_c m z a c w3 (hq.2.2.1.1.on hb23) hq.1.ris (by have := hq.2.1.2.2.1; omega) hq.2.2.1.2
            have HC2 := Lib.hid hC; have HB3 := Lib.hid hb23; have HR := Lib.hid hq.1.ris
            clear hC hb3 hq hT3 hb23
            go_wp2_with fail
            refine HC2.out.mono ?_
            rintro e w4 ⟨a', c', m', rfl, hm', hA', hc', hb4⟩
            have hhs : hasS z m = true := (hasS_iff HR.out).2 HIN.out
            rw [hhs, if_pos rfl] at hm'
            subst hm'
            have HI4 : Hid (AgnI w0 w0.heap.size (i + 1) (some ⟨b, o, none⟩) l a' c' m' next root w4) := Lib.hid (HI.out.same (HB3.out.trans (hb4.mono HB3.out.size)) hA' hc')
            clear hA' hc' hb4 hhs
            go_wp2_with fail
            go_roundg (60 - (i + 1))
            case measure => omega
            case rel => exact ⟨i + 1, a', c', m', next, root, rfl, by go_num, by omega, by omega, Nat.le_refl _, HI4⟩
          · have HIN := Lib.hid hin; have H90 := Lib.hid h90
            clear hin h90
            go_wp2_with fail
            refine HFW.out.mono ?_
            rintro e w2 ⟨rfl, hb2⟩
            have hq := HI.out
            have hC := add_no (k := z) (hq.1.on hb2) (by have := hq.2.2.2.2.size; have := hb2.size; omega) H90.out (by have := hq.2.1.2.2.1; omega) hq.2.1.1 (by have := hq.2.1.2.1; omega) HIN.out
            have HC := Lib.hid hC; have HB2 := Lib.hid hb2
            clear hC hb2 hq
            go_wp2_with fail
            refine HC.out.mono ?_
            rintro e w3 ⟨rfl, next', root', k1, k2, -, k3, k4, k5⟩
            have hq := HI.out
            obtain ⟨la, go, hT2⟩ := (hq.1.on HB2.out).isT
            have hA3 : SAt w3 w3.heap.size (some a) m := ((hq.2.2.1.1.on HB2.out).keepT hT2 k4).up k4.size
            have hC := rwith_c m z a c w3 hA3 hq.1.ris (by have := hq.2.1.2.2.1; omega) hq.2.2.1.2
            have HC2 := Lib.hid hC; have HR := Lib.hid hq.1.ris; have HKK := Lib.hid (And.intro k1 (And.intro k2 (And.intro k3 (And.intro k4 k5))))
            clear hC hq hT2 hA3 k1 k2 k3 k4 k5
            go_wp2_with fail
            refine HC2.out.mono ?_
            rintro e w4 ⟨a', c', m', rfl, hm', hA', hc', hb4⟩
            have hhs : hasS z m = false := by
              cases h : hasS z m with
              | false => rfl
              | true => exact absurd ((hasS_iff HR.out).1 h) HIN.out
            rw [hhs] at hm'
            simp only [Bool.false_eq_true, if_false] at hm'
            subst hm'
            obtain ⟨m', hm'⟩ : ∃ m', insK ltS z m = m' := ⟨_, rfl⟩
            have HI4 : Hid (AgnI w0 w0.heap.size (i + 1) (some ⟨b, o, none⟩) l a' c' m' next' root' w4) := Lib.hid (hm' ▸ HI.out.put HB2.out H90.out HKK.out.1 HKK.out.2.1 HKK.out.2.2.1 HKK.out.2.2.2.1 HKK.out.2.2.2.2 hA' hc' hb4)
            rw [hm']
            clear hA' hc' hb4 hhs hm'
            go_wp2_with fail
            go_roundg (60 - (i + 1))
            case measure => omega
            case rel => exact ⟨i + 1, a', c', m', next', root', rfl, by go_num, by omega, by omega, Nat.le_refl _, HI4⟩
        · have h90z : (90 : Int) < (z.size : Int) := by omega
          clear h90
          go_wp2_with fail
          refine HFW.out.mono ?_
          rintro e w2 ⟨rfl, hb2⟩
          have HI4 : Hid (AgnI w0 w0.heap.size (i + 1) (some ⟨b, o, none⟩) l a c m next root w2) := Lib.hid (HI.out.same hb2 (HI.out.2.2.1.1.on hb2) HI.out.2.2.1.2)
          clear hb2
          go_wp2_with fail
          go_roundg (60 - (i + 1))
          case measure => omega
          case rel => exact ⟨i + 1, a, c, m, next, root, rfl, by go_num, by omega, by omega, Nat.le_refl _, HI4⟩
      · have hcut : (i : Int) < (n0 : Int) ∨ ¬ (i : Int) < (n0 : Int) := by omega
        rcases hcut with hlz | hlz
        all_goals
          first
            | have hlz60 : ¬ (i : Int) < 60 := by omega
            | skip
          go_wp2_with fail
          go_meet
          exact ⟨i, a, c, m, next, root, hi60, rfl, HI.out⟩
  case rest =>
    obtain ⟨i, a, c, m, next, root, hi60, rfl, hI⟩ := hcut
    rename World => w2
    obtain ⟨lo, hlo⟩ : ∃ y, fewS lo0 = y := ⟨_, rfl⟩
    obtain ⟨hi, hhi⟩ : ∃ y, fewS hi0 = y := ⟨_, rfl⟩
    have HF1 := Lib.hid (few_c2 lo0 w2 HLH.out.1)
    rw [hlo] at HF1
    have HF2 := Lib.hid (fun W => few_c2 hi0 W HLH.out.2)
    rw [hhi] at HF2
    have HSZ : Hid (lo.size ≤ 100 ∧ hi.size ≤ 100) := Lib.hid ⟨hlo ▸ few_size lo0, hhi ▸ few_size hi0⟩
    have HI := Lib.hid hI
    clear hlo hhi hI
    go_wp2_with fail
    refine HF1.out.mono ?_
    rintro e w3 ⟨rfl, hb3⟩
    have HB3 := Lib.hid hb3
    clear hb3
    go_wp2_with fail
    refine (HF2.out w3).mono ?_
    rintro e w4 ⟨rfl, hb4⟩
    have HB4 := Lib.hid hb4
    clear hb4
    obtain ⟨wB, hwB⟩ : ∃ wB, w4.alloc (.cells #[.string lo, .string hi] 34) = wB := ⟨_, rfl⟩
    obtain ⟨wC, hwC⟩ : ∃ wC, wB.alloc (.cells #[] 9) = wC := ⟨_, rfl⟩
    obtain ⟨wD, hwD⟩ : ∃ wD, wC.alloc (.cells #[.slice (some ⟨wB.heap.size, 0, none⟩) 0 0] 22) = wD := ⟨_, rfl⟩
    have bB : Below w4.heap.size w4 wB := hwB ▸ (Below.refl _ _).alloc (Nat.le_refl _) _
    have bC : Below wB.heap.size wB wC := hwC ▸ (Below.refl _ _).alloc (Nat.le_refl _) _
    have bD : Below wC.heap.size wC wD := hwD ▸ (Below.refl _ _).alloc (Nat.le_refl _) _
    have zC : wC.heap.size = wB.heap.size + 1 := by rw [← hwC]; simp
    have hsB : SpB wB w4.heap.size lo hi := hwB ▸ heap_alloc_new w4 _
    have hD0 : SpnB wB wC.heap.size [] (some ⟨wB.heap.size, 0, none⟩) 0 wD := ⟨bC.trans (bD.mono bC.size), hwD ▸ heap_alloc_new wC _, by
      have h1 : OwS wC wB.heap.size (.slice (some ⟨wB.heap.size, 0, none⟩) 0 0) [] := hwC ▸ OwS.made wB
      exact h1.on bD⟩
    have hb2B := HB3.out.trans ((HB4.out.trans (bB.mono HB4.out.size)).mono HB3.out.size)
    have HIB : Hid (TSt wB w0.heap.size w0.heap.size next root m ∧ SAt wB wB.heap.size (some a) m ∧ Below w0.heap.size w0 wB ∧ SpB wB w4.heap.size lo hi ∧ wC.heap.size = wB.heap.size + 1) := Lib.hid ⟨HI.out.1.on hb2B, HI.out.2.2.1.1.on hb2B, HI.out.2.2.2.2.trans (hb2B.mono HI.out.2.2.2.2.size), hsB, zC⟩
    have HM : Hid (m.length ≤ 60 ∧ next < 400000 ∧ (∀ x ∈ m, x.size ≤ 90) ∧ m.length ≤ c) := Lib.hid ⟨by have := HI.out.2.1.2.2.1; omega, by have := HI.out.2.1.2.1; omega, HI.out.2.1.2.2.2, HI.out.2.2.1.2⟩
    have HD0 := Lib.hid hD0
    clear bB bC bD hsB hD0 hb2B zC HF1 HF2
    go_upto_block 2 with fail
    go_cut [13] from 54 to 72 (fun _ wx => ∃ A' c', SpnB wB wC.heap.size (spanF lo hi m) A' c' wx)
    case first =>
      go_wp2_with fail
      go_loopg [13] m.length (fun g iv wr => ∃ (j : Nat) (q : List ByteArray) (A' : Option Addr) (c' : Nat), iv = .int .i64 j ∧ m.length - j ≤ g ∧ j ≤ m.length ∧ Hid ((m.take j).filter (inS lo hi) = q) ∧ q.length ≤ j ∧ Hid (SpnB wB wC.heap.size q A' c' wr))
      case atStart => exact ⟨0, [], _, 0, rfl, by omega, Nat.zero_le _, Lib.hid rfl, Nat.le_refl _, HD0⟩
      case round =>
        obtain ⟨j, q, A', c', rfl, hg2, hj, HQ, hqj, HJ⟩ := hrel
        have hm60 := HM.out.1
        by_cases hlt2 : j < m.length
        · have hlz2 : (j : Int) < (m.length : Int) := by omega
          obtain ⟨x, hx⟩ : ∃ x, m[j]? = some x := ⟨_, List.getElem?_eq_getElem hlt2⟩
          obtain ⟨b, o, he, hb, cB⟩ := HIB.out.2.1 j x hx
          cases he
          have c0 : wr.cell? ⟨b, o + j, none⟩ = some (.string x) := (Below.cell HJ.out.below (p := ⟨b, o + j, none⟩) hb).trans cB
          have hsr : SpB wr w4.heap.size lo hi := (HJ.out.below.block _ HIB.out.2.2.2.1.cells.2.2).trans HIB.out.2.2.2.1
          obtain ⟨⟨s0, s1⟩, -, -⟩ := hsr.cells
          obtain ⟨z, hz⟩ : ∃ z, inS lo hi x = z := ⟨_, rfl⟩
          have HTK : Hid ((m.take (j + 1)).filter (inS lo hi) = if z = true then q ++ [x] else q) := Lib.hid (by
            rw [List.take_add_one, hx, List.filter_append, HQ.out, ← hz]
            show q ++ List.filter (inS lo hi) [x] = _
            cases h : inS lo hi x <;> simp [h])
          have hlb : b < wr.heap.size := Nat.lt_of_lt_of_le hb HJ.out.below.size
          have HCB := Lib.hid (And.intro hb cB)
          have hBW := Below.refl wr.heap.size wr
          have HKeep : Hid (∀ w1 w', Below w1.heap.size w1 w' → ((w1.cell? ⟨w4.heap.size, 0, none⟩ = some (.string lo) ∧ w1.cell? ⟨w4.heap.size, 1, none⟩ = some (.string hi) ∧ w1.cell? ⟨b, o + j, none⟩ = some (.string x)) ∧ Below wr.heap.size wr w1) → ((w'.cell? ⟨w4.heap.size, 0, none⟩ = some (.string lo) ∧ w'.cell? ⟨w4.heap.size, 1, none⟩ = some (.string hi) ∧ w'.cell? ⟨b, o + j, none⟩ = some (.string x)) ∧ Below wr.heap.size wr w')) := Lib.hid (by
            rintro w1 w' hb ⟨⟨k0, k1, k2⟩, k3⟩
            exact ⟨⟨(Below.cell hb (p := ⟨w4.heap.size, 0, none⟩) (World.block_lt_of_cell? w1 _ k0)).trans k0, (Below.cell hb (p := ⟨w4.heap.size, 1, none⟩) (World.block_lt_of_cell? w1 _ k1)).trans k1, (Below.cell hb (p := ⟨b, o + j, none⟩) (World.block_lt_of_cell? w1 _ k2)).trans k2⟩, k3.trans (hb.mono k3.size)⟩)
          have HCI : Hid (∀ W, Calls Try.prog 10 #[.agg #[.string lo, .string hi], .string x] W fun e w' => e = .returned (.bool z) ∧ Below W.heap.size W w') := Lib.hid (fun W => hz ▸ in_c lo hi x W)
          clear hx hb cB hsr hz hlb
          go_upto_region 16 with fail
          go_cut [65] from 60 to 65 (fun x wx => x = .bool z ∧ Below wr.heap.size wr wx)
          case first =>
            go_region_held3 (fun w' => (w'.cell? ⟨w4.heap.size, 0, none⟩ = some (.string lo) ∧ w'.cell? ⟨w4.heap.size, 1, none⟩ = some (.string hi) ∧ w'.cell? ⟨b, o + j, none⟩ = some (.string x)) ∧ Below wr.heap.size wr w')
              (first | (exact HKeep.out _ _ ((Below.refl wr.heap.size wr).drew) ⟨⟨s0, s1, c0⟩, hBW⟩) | (exact HKeep.out _ _ (by assumption) (by assumption)))
              (first
                | (go_at_call 10; (with_reducible refine (HCI.out _).mono ?_); rintro e wn ⟨rfl, hbn⟩))
            all_goals
              go_wp2_with fail
              go_meet
              exact ⟨rfl, And.right (by assumption)⟩
          case rest =>
            obtain ⟨rfl, hbn⟩ := hcut
            rename World => wn
            have hJ2 := HJ.out.on hbn
            have HJ2 := Lib.hid hJ2
            cases z
            · clear hbn hJ2 s0 s1 c0
              go_wp2_with fail
              go_roundg (m.length - (j + 1))
              case measure => omega
              case rel => exact ⟨j + 1, q, A', c', by go_num, Nat.le_refl _, hlt2, Lib.hid (by rw [HTK.out]; rfl), by omega, HJ2⟩
            · obtain ⟨A2, c2, w5, hr, u0, uf, hJ3⟩ := HJ2.out.app x (by omega) (by have := HIB.out.2.2.2.2; omega)
              have c1 : wn.cell? ⟨b, o + j, none⟩ = some (.string x) := (Below.cell hJ2.below (p := ⟨b, o + j, none⟩) HCB.out.1).trans HCB.out.2
              have q0 : wn.cell? ⟨wC.heap.size, 0, none⟩ = some (.slice A' q.length c') := by rw [cell_of_row _ _ _ _ _ _ hJ2.box]; rfl
              have q1 : (wn.alloc (.cells #[.string x] 9)).cell? ⟨wC.heap.size, 0, none⟩ = some (.slice A' q.length c') := by
                rw [cell_of_row _ _ _ _ _ _ ((Below.heap_alloc wn (.cells #[.string x] 9) _ (Array.getElem?_eq_some_iff.1 hJ2.box).1).trans hJ2.box)]; rfl
              have HJ3 := Lib.hid hJ3
              have HQL : Hid ((q ++ [x]).length = q.length + 1) := Lib.hid (by simp)
              clear hbn hJ2 s0 s1 c0 hJ3
              go_wp2_with fail
              have mixed : Try.prog.follows Departure.mixedOrders = true := by kernel_rfl
              refine wp_region_noPanic ?_
              go_region_law_o (refine step_append_runB rfl _ _ 22 22 rfl _ _ (by simp [Act.eval]) (by simp [Act.eval]) hr ?_)
              all_goals
                refine NoPanic.normal ?_
                go_wp2_with fail
                go_roundg (m.length - (j + 1))
                case measure => omega
                case rel => exact ⟨j + 1, q ++ [x], A2, c2, by go_num, Nat.le_refl _, hlt2, Lib.hid (by rw [HTK.out]; rfl), by rw [HQL.out]; omega, HJ3⟩
        · have hlz2 : ¬ (j : Int) < (m.length : Int) := by omega
          have hF : ∃ A' c', SpnB wB wC.heap.size (spanF lo hi m) A' c' wr := ⟨A', c', by
            have h1 := HQ.out
            rw [List.take_of_length_le (by omega)] at h1
            unfold spanF
            rw [h1]; exact HJ.out⟩
          have HF := Lib.hid hF
          clear hF
          go_wp2_with fail
          go_meet
          exact HF.out
    case rest =>
      obtain ⟨A', c', hJ⟩ := hcut
      rename World => wc
      obtain ⟨q, hq⟩ : ∃ q, spanF lo hi m = q := ⟨_, rfl⟩
      rw [hq] at hJ
      have hqm : q.length ≤ m.length := by rw [← hq]; exact List.length_filter_le _ _
      obtain ⟨W, hW⟩ : ∃ W, (wc.alloc (.cells #[.int .i64 0] 3)).alloc (.cells #[.bool true] 4) = W := ⟨_, rfl⟩
      have bW : Below wc.heap.size wc W := hW ▸ ((Below.refl _ wc).alloc (Nat.le_refl _) _).alloc (by simp) _
      have zW : W.heap.size = wc.heap.size + 2 := by rw [← hW]; simp
      have ei : W.heap[wc.heap.size]? = some (.cells #[.int .i64 0] 3 (0, 0)) := hW ▸ two_a wc _ _
      have eo : W.heap[wc.heap.size + 1]? = some (.cells #[.bool true] 4 (0, 0)) := hW ▸ two_b wc _ _
      have hTc := HIB.out.1.on hJ.below
      have hsW : SpB W w4.heap.size lo hi := (bW.block _ (Nat.lt_of_lt_of_le HIB.out.2.2.2.1.cells.2.2 hJ.below.size)).trans ((hJ.below.block _ HIB.out.2.2.2.1.cells.2.2).trans HIB.out.2.2.2.1)
      obtain ⟨⟨s0, s1⟩, -, -⟩ := hsW.cells
      obtain ⟨Aq, cq, eAq, -, -, hAq⟩ := own_SAt hJ.row
      obtain ⟨lg, lm, lT⟩ := hTc.isT
      have htl := lT.cells.2.2
      have heA : A' = Aq := by simp only [Value.slice.injEq] at eAq; exact eAq.1
      subst heA
      have HHA : Hid (∀ W' : World, Only (fun k => k = w0.heap.size) W W' → SAt W' wc.heap.size A' q) := Lib.hid (fun W' hO => (hAq.keepT lT (CellsKeep.of_below bW)).keepT (lT.on bW htl) (CellsKeep.of_t hO))
      have HC := Lib.hid (range_c (lo := lo) (hi := hi) (own := fun b => b = wc.heap.size ∨ b = wc.heap.size + 1) (hTc.own bW (fun b hb => by omega)) (fun b hb => by omega) HM.out.1 HM.out.2.1 (fun x hx => Nat.le_trans (HM.out.2.2.1 x hx) (by decide)) (Nat.le_trans HSZ.out.1 (by decide)) (Nat.le_trans HSZ.out.2 (by decide)))
      have HQ := Lib.hid hq
      have HBc : Hid (Below w.heap.size w wc) := Lib.hid ((HB0.out.trans (HIB.out.2.2.1.mono HB0.out.size)).trans (hJ.below.mono (by have := HB0.out.size; have := HIB.out.2.2.1.size; omega)))
      have hpc := hJ.box
      have hwBc := hJ.below.size
      have HE := Lib.hid (And.intro bW (And.intro zW (And.intro ei (And.intro eo (And.intro htl hpc)))))
      have HL : Hid (q.length ≤ 60 ∧ w0.heap.size < wB.heap.size) := Lib.hid ⟨Nat.le_trans hqm HM.out.1, by obtain ⟨_, _, hI⟩ := HIB.out.1.isT; exact hI.cells.2.2⟩
      have HZC : Hid (wC.heap.size = wB.heap.size + 1) := Lib.hid HIB.out.2.2.2.2
      clear hJ hqm hq bW zW ei eo hTc hsW hAq lT htl hpc hwBc eAq
      go_wp2_with fail
      refine HC.out.mono ?_
      rintro e wL ⟨gf, lb, rfl, heg, hO, hIt⟩
      rw [HQ.out] at hIt
      obtain ⟨bW, zW, ei, eo, htl, hpc⟩ := HE.out
      have hOs := hO.size
      have hl0 := HL.out.2
      have hzc := HZC.out
      have hpl := (Array.getElem?_eq_some_iff.1 hpc).1
      have htp : wC.heap.size ≠ w0.heap.size := by omega
      have hi' : wc.heap.size < wL.heap.size := by omega
      have ho' : wc.heap.size + 1 < wL.heap.size := by omega
      have ne1 : wc.heap.size ≠ wc.heap.size + 1 := by omega
      have ne2 : wc.heap.size + 1 ≠ wc.heap.size := by omega
      have fl : wL.heap[wC.heap.size]? = some (.cells #[.slice A' q.length c'] 22 (0, 0)) := (hO.block _ (by omega) htp).trans ((bW.block _ hpl).trans hpc)
      have fi : wL.heap[wc.heap.size]? = some (.cells #[.int .i64 0] 3 (0, 0)) := (hO.block _ (by omega) (by show wc.heap.size ≠ w0.heap.size; omega)).trans ei
      have fo : wL.heap[wc.heap.size + 1]? = some (.cells #[.bool true] 4 (0, 0)) := (hO.block _ (by omega) (by show wc.heap.size + 1 ≠ w0.heap.size; omega)).trans eo
      have hAL := HHA.out wL hO
      have HFL := Lib.hid fl; have HAL := Lib.hid hAL; have HZ := Lib.hid (And.intro hpl (And.intro hi' (And.intro ho' htl)))
      have HOW : Hid (∀ V, Only (fun b => b = wc.heap.size ∨ b = wc.heap.size + 1) wL V → Below w.heap.size w V) := Lib.hid (fun V hV => by
        have hzw := HBc.out.size
        have hlow : w.heap.size ≤ w0.heap.size := HB0.out.size
        have h1 : Below w.heap.size w W := HBc.out.trans (bW.mono hzw)
        have h2 := hO.below (n := w.heap.size) h1.size (fun b hb => by rw [hb]; exact hlow)
        exact h1.trans (h2.trans (hV.below (by have := h2.size; have := h1.size; omega) (fun b hb => by omega))))
      have h00 : HasI wL wc.heap.size (wc.heap.size + 1) q (fun _ => False) [] wL := ⟨fun b h => h.elim, fi, fo, Only.refl _ _⟩
      have HI1 := Lib.hid (hIt 8)
      clear hAL fl fi fo hIt bW zW ei eo htl hpc hOs hO hl0 hzc hpl
      go_wp2_with fail
      refine (wpIn_wide (n := 9)).1 ?_
      refine wpIn_range_iter2 rfl (by decide) (gf := gf) (lb := lb) rfl trivial heg (read := ReadH wL wc.heap.size (wc.heap.size + 1)) HI1.out (fun b hb => hb.1) (fun _ => rfl) (HasI wL wc.heap.size (wc.heap.size + 1) q) (fun _ _ _ _ => False) (HasI.clos hi' ho') (fun _ => clos_false) (HasI.recs hi' ho') (fun _ => recs_false _) h00 ?round ?done ?stop
      case round =>
        intro x
        apply Exists.intro
        refine ⟨fun la V K hK => ?_, fun la mine pre V hI h2 hN => ?_⟩
        · gi_wp2
          exact hK
        · obtain ⟨i1, i2, i3, i4⟩ := hI
          have vi : V.cell? ⟨wc.heap.size, 0, none⟩ = some (.int .i64 (pre.length : Int)) := by rw [cell_of_row _ _ _ _ _ _ i2]; rfl
          have vo : V.cell? ⟨wc.heap.size + 1, 0, none⟩ = some (.bool (decide (q.take pre.length = pre))) := by rw [cell_of_row _ _ _ _ _ _ i3]; rfl
          have gi : V.frozen? ⟨wc.heap.size, 0, none⟩ = false := by simp [World.frozen?, i2]
          have go : V.frozen? ⟨wc.heap.size + 1, 0, none⟩ = false := by simp [World.frozen?, i3]
          have vlb : V.heap[wC.heap.size]? = some (.cells #[.slice A' q.length c'] 22 (0, 0)) := (i4.block _ (Array.getElem?_eq_some_iff.1 HFL.out).1 (by have := HZ.out.1; omega)).trans HFL.out
          have vl : V.cell? ⟨wC.heap.size, 0, none⟩ = some (.slice A' q.length c') := by rw [cell_of_row _ _ _ _ _ _ vlb]; rfl
          have hAV : ∀ i s, q[i]? = some s → ∃ b o, A' = some ⟨b, o, none⟩ ∧ V.cell? ⟨b, o + i, none⟩ = some (.string s) := fun i s hi => by
            obtain ⟨b, o, e, hb, hc⟩ := HAL.out i s hi
            exact ⟨b, o, e, (World.cell?_of_block (a := ⟨b, o + i, none⟩) (i4.block b (by have := HZ.out; omega) (by have := HZ.out; omega))).trans hc⟩
          have HP : Hid (∀ z n, z = decide (q.take (pre ++ [x]).length = pre ++ [x]) → n = ((pre ++ [x]).length : Int) → Hold (fun b => (b = wL.heap.size ∨ b = wL.heap.size + 1) ∨ (mine b ∨ ReadH wL wc.heap.size (wc.heap.size + 1) b)) V ((V.setCell ⟨wc.heap.size + 1, 0, none⟩ (.bool z)).setCell ⟨wc.heap.size, 0, none⟩ (.int .i64 n)) ∧ HasI wL wc.heap.size (wc.heap.size + 1) q mine (pre ++ [x]) ((V.setCell ⟨wc.heap.size + 1, 0, none⟩ (.bool z)).setCell ⟨wc.heap.size, 0, none⟩ (.int .i64 n))) := Lib.hid (fun z n hz hn => by
            have hq := HZ.out
            refine ⟨HasI.hold ?_ ?_ _ _, HasI.step ⟨i1, i2, i3, i4⟩ (by omega) hz hn⟩
            · rintro (h | h | h)
              · omega
              · have := i1 _ h; omega
              · exact h.2 (.inl rfl)
            · rintro (h | h | h)
              · omega
              · have := i1 _ h; omega
              · exact h.2 (.inr rfl))
          have hnw : wrap64 ((pre.length : Int) + 1) = ((pre ++ [x]).length : Int) := by
            have := HL.out.1
            rw [List.length_append, List.length_singleton, wrap64_id (is64_iff.2 (by omega))]; omega
          have HNW := Lib.hid hnw
          have HTS := Lib.hid (take_step (l := q) (pre := pre) (x := x))
          obtain ⟨z, hz⟩ : ∃ z, decide (q.take pre.length = pre) = z := ⟨_, rfl⟩
          have HZ2 := Lib.hid hz
          rw [hz] at vo
          have HAV := Lib.hid hAV
          clear i1 i2 i3 i4 vlb hz hnw hAV h2
          cases z
          · have HD : Hid (false = decide (q.take (pre ++ [x]).length = pre ++ [x])) := Lib.hid (by
              have h1 := of_decide_eq_false HZ2.out
              rw [eq_comm, decide_eq_false_iff_not]
              exact fun h => h1 (HTS.out.1 h).1)
            gi_wp2
            exact HP.out _ _ HD.out HNW.out
          · by_cases hlt : pre.length < q.length
            · have hlz : (pre.length : Int) < (q.length : Int) := by omega
              obtain ⟨y, hy⟩ : ∃ y, q[pre.length]? = some y := ⟨_, List.getElem?_eq_getElem hlt⟩
              obtain ⟨b, o, hAe, c0⟩ := HAV.out _ _ hy
              subst hAe
              obtain ⟨v, hv⟩ : ∃ v, (y.toList == x.toList) = v := ⟨_, rfl⟩
              have HD : Hid (v = decide (q.take (pre ++ [x]).length = pre ++ [x])) := Lib.hid (by
                have h1 := of_decide_eq_true HZ2.out
                by_cases e : y = x
                · rw [decide_eq_true (HTS.out.2 ⟨h1, by rw [hy, e]⟩), ← hv, e]
                  simp
                · rw [decide_eq_false (fun h => e (by have h3 := (HTS.out.1 h).2; rw [hy] at h3; exact Option.some.inj h3)), ← hv]
                  have : ¬ (y.toList = x.toList) := fun h => e (toList_inj h)
                  simpa using this)
              clear hy
              gi_wp2
              exact HP.out _ _ HD.out HNW.out
            · exact absurd hN hlt
      case stop =>
        rintro c2 mine xs V - h _
        exact h.elim
      case done =>
        rintro mine xs V rfl ⟨i1, i2, i3, i4⟩ hd
        have vlb : V.heap[wC.heap.size]? = some (.cells #[.slice A' xs.length c'] 22 (0, 0)) := (i4.block _ (Array.getElem?_eq_some_iff.1 HFL.out).1 (by have := HZ.out.1; omega)).trans HFL.out
        have h5 : decide (xs.take xs.length = xs) = true := by simp
        rw [h5] at i3
        have HOV := Lib.hid (HOW.out V i4)
        have HV := Lib.hid (And.intro i2 (And.intro i3 (And.intro vlb hd)))
        have HA8 := Lib.hid (awake8 V)
        clear i1 i2 i3 i4 vlb hd h5
        go_wp2_with fail
        refine HA8.out.mono ?_
        rintro e w9 ⟨rfl, hb9⟩
        obtain ⟨i2, i3, vlb, hd⟩ := HV.out
        have j2 := (hb9.block _ (Array.getElem?_eq_some_iff.1 i2).1).trans i2
        have j3 := (hb9.block _ (Array.getElem?_eq_some_iff.1 i3).1).trans i3
        have j4 := (hb9.block _ (Array.getElem?_eq_some_iff.1 vlb).1).trans vlb
        have HD := Lib.hid ((hb9.block _ (Array.getElem?_eq_some_iff.1 hd).1).trans hd)
        have vi : w9.cell? ⟨wc.heap.size, 0, none⟩ = some (.int .i64 (xs.length : Int)) := by rw [cell_of_row _ _ _ _ _ _ j2]; rfl
        have vo : w9.cell? ⟨wc.heap.size + 1, 0, none⟩ = some (.bool true) := by rw [cell_of_row _ _ _ _ _ _ j3]; rfl
        have vl : w9.cell? ⟨wC.heap.size, 0, none⟩ = some (.slice A' xs.length c') := by rw [cell_of_row _ _ _ _ _ _ j4]; rfl
        have HF : Hid (∀ o, Below w.heap.size w (w9.putObj wL.heap.size o)) := Lib.hid (fun o => by
          have h1 := HOV.out.trans (hb9.mono HOV.out.size)
          have h2 := HBc.out.size
          have h3 := HZ.out.2.1
          exact ⟨h1.os, h1.tape, h1.output, by have := h1.size; simpa using this, fun k hk => (World.putObj_heap_other (by omega)).trans (h1.block k hk)⟩)
        clear i2 i3 vlb hd j2 j3 j4 hb9
        go_wp2_with fail
        refine ⟨by simp, .inl ⟨_, _, rfl, run_takeDeferred HD.out, ?_⟩⟩
        exact ⟨_, results_tmp rfl _ _ _, rfl, HF.out _⟩

end Go.Proofs.Ytmhpgbhmhbldfaa
