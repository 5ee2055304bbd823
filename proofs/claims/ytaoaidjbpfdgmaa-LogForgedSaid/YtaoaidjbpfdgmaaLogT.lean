/- rows of texts: sectors, same, the reference's Laid -/
import Derived.Test.YtaoaidjbpfdgmaaLSec
namespace Go.Proofs.Ytaoaidjbpfdgmaa
open Go.ChangeShapes Go.WideShapes Go.ChangeAt Go.RowKit

/-- a row of texts that a call makes -/
structure TB (w0 : World) (v : Value) (l : List Sec) (w : World) : Prop where
  below : Below w0.heap.size w0 w
  texts : Texts w w0.heap.size v l

theorem TB.on {w0 w w' : World} {v : Value} {l : List Sec} (h : TB w0 v l w) (hb : Below w.heap.size w w') : TB w0 v l w' :=
  ⟨h.below.trans (hb.mono h.below.size), h.texts.on hb⟩

theorem TB.none (w : World) : TB w (.slice (some ⟨w.heap.size, 0, none⟩) 0 0) [] (w.alloc (.cells #[] 9)) :=
  ⟨(Below.refl _ w).alloc (Nat.le_refl _) _, World.ownsRow_made w #[] 0 (Nat.le_refl _) (Nat.zero_le _) (by simp)⟩

theorem tb_append {w0 w : World} {v : Value} {l : List Sec} (h : TB w0 v l w) (s : Sec) (hl : l.length ≤ 65536) (ty : TypeId) :
    ∃ v' w', (Builtin.append_ #[27, 27] ty #[v, .slice (some ⟨w.heap.size, 0, none⟩) 1 1]).run Try.prog (w.alloc (.cells #[.string ⟨s.toArray⟩] 9)) = .ok v' w' ∧ TB w0 v' (l ++ [s]) w' := by
  obtain ⟨v', w', hr, ht, ho⟩ := run_append_text w w0.heap.size v l s h.texts (by omega) h.below.size ty
  exact ⟨v', w', hr, h.below.trans (ho.below h.below.size fun k hk => (h.texts.ge k hk).1), ht⟩

/-! sectors -/

/-- what is read from a place on -/
def rdsL (d : Dv) (fr : Nat) (n : Nat) : List Sec := (List.range n).map fun i => (readD d ((fr + i : Nat) : Int)).1

theorem rdsL_succ (d : Dv) (fr n : Nat) : rdsL d fr (n + 1) = rdsL d fr n ++ [(readD d ((fr + n : Nat) : Int)).1] := by
  unfold rdsL
  rw [List.range_succ, List.map_append]; rfl

theorem rdsL_len (d : Dv) (fr n : Nat) : (rdsL d fr n).length = n := by simp [rdsL]

set_option maxRecDepth 100000 in
theorem sectors_any {n : Nat → Prop} {a w : World} {B S M : Nat} {d : Dv} (h : NowK n a w B S M d) (fr hi : Nat) (hft : fr ≤ hi) (hto : hi ≤ 65536) :
    Calls Try.prog 24 #[.pointer (some ⟨B, 0, none⟩), .int .i64 fr, .int .i64 hi] w fun e w' => ∃ v, e = .returned v ∧ TB w v (rdsL d fr (hi - fr)) w' := by
  have HH := Lib.hid h
  have HF : Hid (fr ≤ hi ∧ hi ≤ 65536) := Lib.hid ⟨hft, hto⟩
  have HT := Lib.hid (TB.none w)
  clear h
  go_enter Try.func24, Try.ntmps24
  go_wp2_with fail
  go_loopw [7, 8] (fun sv si wr => ∃ j : Nat, fr + j ≤ hi ∧ si = .int .i64 ((fr + j : Nat) : Int) ∧ Hid (TB w sv (rdsL d fr j) wr)) (fun _ si _ => hi - (intOf si).toNat)
  case atStart => exact ⟨0, hft, rfl, HT⟩
  case round =>
    obtain ⟨j, hj, rfl, HL⟩ := hrel
    clear HT
    by_cases hlt : fr + j < hi
    · have hff := HF.out
      have hrd : ∀ wn v, TB w v (rdsL d fr j) wn → Calls Try.prog 34 #[.pointer (some ⟨B, 0, none⟩), .int .i64 ((fr + j : Nat) : Int)] wn fun e w' => e = .returned (.tuple #[.string ⟨(readD d ((fr + j : Nat) : Int)).1.toArray⟩, .int .i64 (readD d ((fr + j : Nat) : Int)).2]) ∧ TB w v (rdsL d fr j) w' := fun wn v hb => by
        obtain ⟨pv, hd⟩ := (HH.out.on hb.below).dev
        refine (read_any hd _).mono ?_
        rintro e w' ⟨rfl, hb'⟩
        exact ⟨rfl, hb.on hb'⟩
      have hs := rdsL_succ d fr j
      have hap := fun wn v (hb : TB w v (rdsL d fr j) wn) => tb_append hb (readD d ((fr + j : Nat) : Int)).1 (by rw [rdsL_len]; omega) 27
      rw [← hs] at hap
      have hinc : wrap64 (((fr + j : Nat) : Int) + 1) = ((fr + (j + 1) : Nat) : Int) := by rw [wrap64_id (is64_iff.2 (by omega))]; omega
      have HRD := Lib.hid hrd; have HAP := Lib.hid hap
      have HI : Hid (fr + (j + 1) ≤ hi ∧ hi - (fr + (j + 1)) < hi - (fr + j)) := Lib.hid ⟨by omega, by omega⟩
      have hl := HL.out
      clear hrd hap hff hs HL
      generalize readD d ((fr + j : Nat) : Int) = rr at HRD HAP
      obtain ⟨x, er⟩ := rr
      simp only at HRD HAP
      generalize hkk : fr + j = k at hlt hinc HRD HI ⊢
      have HKK := Lib.hid hkk
      clear hkk
      go_wp2_with (first
        | (go_at_call 34; (with_reducible refine (HRD.out _ _ hl).mono ?_); rintro e w3 ⟨rfl, hl3⟩; obtain ⟨v4, w4, hr4, hl4⟩ := HAP.out _ _ hl3)
        | (at_builtin; refine Lib.wpList_append_run _ rfl _ _ _ _ rfl _ _ rfl rfl _ _ hr4 ?_)
        | fail)
      go_roundw
      case rel => exact ⟨j + 1, HI.out.1, by congr 1; have := HKK.out; omega, Lib.hid hl4⟩
      case measure =>
        have := HI.out.2
        (first
          | (simp only [intOf, Int.toNat_natCast]; have := HKK.out; omega)
          | (simp only [intOf]; omega))
    · have hn : ¬ fr + j < hi := hlt
      have e0 : j = hi - fr := by omega
      clear hlt
      have HL2 : Hid (∀ v, TB w v (rdsL d fr j) wr → TB w v (rdsL d fr (hi - fr)) wr) := Lib.hid (by rw [e0]; exact fun v h => h)
      have hl := HL.out
      clear e0
      generalize fr + j = k at hn ⊢
      go_wp2_with fail
      go_ret
      exact ⟨_, rfl, HL2.out _ hl⟩

/-! same -/

/-- texts that can be read -/
structure SeenT (w : World) (v : Value) (l : List Sec) : Prop where
  form : ∃ A cap, v = .slice A l.length cap ∧ l.length ≤ cap ∧ ∀ (i : Nat) s, l[i]? = some s → ∃ g o, A = some ⟨g, o, none⟩ ∧ w.cell? ⟨g, o + i, none⟩ = some (.string ⟨s.toArray⟩)

theorem Texts.seen {w : World} {base : Nat} {v : Value} {l : List Sec} (h : Texts w base v l) : SeenT w v l := by
  obtain ⟨A, cap, hv, hc, hx⟩ := h.form
  refine ⟨A, cap, hv, hc, fun i s hs => ?_⟩
  have hl : l ≠ [] := by rintro rfl; simp at hs
  obtain ⟨g, hA, -, hy⟩ := hx hl
  exact ⟨g, 0, hA, by rw [Nat.zero_add]; exact hy i s hs⟩

theorem below_nE {n : Nat} {w wr : World} (h : Below n w wr) (q : Nat) : Below n w (wr.drewN q) := ⟨h.os, h.tape, h.output, h.size, h.block⟩

theorem World.cell_lt {w : World} {p : Addr} {v : Value} (h : w.cell? p = some v) : p.block < w.heap.size := by
  rcases Nat.lt_or_ge p.block w.heap.size with h' | h'
  · exact h'
  · unfold World.cell? at h
    rw [Array.getElem?_eq_none h'] at h
    cases h

theorem same_str (s t : Sec) : ((⟨s.toArray⟩ : ByteArray) = ⟨t.toArray⟩) ↔ s = t := by
  constructor
  · intro h
    have := congrArg (fun b : ByteArray => b.data.toList) h
    simpa using this
  · rintro rfl; rfl

set_option maxRecDepth 100000 in
theorem sameT_any (l k : List Sec) (v v' : Value) (w : World) (h : SeenT w v l) (h' : SeenT w v' k) (hl : l.length ≤ 65536) :
    Calls Try.prog 23 #[v, v'] w fun e w' => e = .returned (.bool (decide (l = k))) ∧ Below w.heap.size w w' := by
  obtain ⟨A, c, rfl, hc, hx⟩ := h.form
  obtain ⟨A', c', rfl, hc', hx'⟩ := h'.form
  by_cases hlen : l.length = k.length
  · have H := Lib.hid hx; have H' := Lib.hid hx'
    have HL := Lib.hid hlen
    have b0 : ((l.length : Int) != (k.length : Int)) = false := by simp; omega
    clear h h' hx hx'
    rw [← hlen] at b0 ⊢
    clear hlen
    go_enter Try.func23, Try.ntmps23
    go_wp2_with fail
    go_loopg [5] l.length (fun g si wr => ∃ i : Nat, si = .int .i64 i ∧ i ≤ l.length ∧ l.length - i ≤ g ∧ Hid (∀ t (ht : t < l.length) (ht' : t < k.length), t < i → l[t] = k[t]) ∧ Hid (Below w.heap.size w wr))
    case atStart => exact ⟨0, rfl, Nat.zero_le _, by omega, fun t ht ht' h => absurd h (Nat.not_lt_zero _), Below.refl _ _⟩
    case round =>
      obtain ⟨i, rfl, hi, hg, HE, HB⟩ := hrel
      by_cases hlt : i < l.length
      · have hlt' : i < k.length := by have := HL.out; omega
        obtain ⟨g1, o1, eA, j0⟩ := H.out i l[i] (List.getElem?_eq_getElem hlt)
        obtain ⟨g2, o2, eA', k0⟩ := H'.out i k[i] (List.getElem?_eq_getElem hlt')
        have j1 := HB.out.cell (p := ⟨g1, o1 + i, none⟩) (World.cell_lt j0)
        rw [j0] at j1
        have k1 := HB.out.cell (p := ⟨g2, o2 + i, none⟩) (World.cell_lt k0)
        rw [k0] at k1
        clear j0 k0
        subst eA eA'
        obtain ⟨x, hx⟩ : ∃ x, (⟨l[i].toArray⟩ : ByteArray) = x := ⟨_, rfl⟩
        obtain ⟨y, hy⟩ : ∃ y, (⟨k[i].toArray⟩ : ByteArray) = y := ⟨_, rfl⟩
        have HX := Lib.hid hx; have HY := Lib.hid hy
        rw [hx] at j1
        rw [hy] at k1
        have z1 : (i : Int) < (l.length : Int) := by omega
        clear hx hy
        by_cases hxy : x = y
        · subst hxy
          go_wp2_with fail
          go_quiet (fail)
          go_wp2_with fail
          go_roundg (l.length - (i + 1))
          case measure => omega
          case rel => exact ⟨i + 1, by go_num, by omega, Nat.le_refl _, (fun t ht ht' h => by
            rcases Nat.lt_or_ge t i with h1 | h1
            · exact HE.out t ht ht' h1
            · obtain rfl : t = i := by omega
              exact (same_str _ _).1 (HX.out.trans HY.out.symm)), below_nE HB.out _⟩
        · have hd : decide (l = k) = false := decide_eq_false fun e => hxy (by
            have h1 := HX.out; have h2 := HY.out
            subst e
            rw [← h1, ← h2])
          have HD := Lib.hid hd
          have b1 : (x.toList == y.toList) = false := by
            rw [beq_eq_false_iff_ne]
            intro e
            rw [Lib.toList_data, Lib.toList_data] at e
            exact hxy (ByteArray.ext (Array.toList_inj.1 e))
          clear hd hxy
          go_wp2_with fail
          go_quiet (fail)
          go_wp2_with fail
          go_ret
          exact ⟨by rw [HD.out]; rfl, below_nE HB.out _⟩
      · obtain rfl : i = l.length := by omega
        have hd : decide (l = k) = true := decide_eq_true (List.ext_getElem HL.out fun t ht ht' => HE.out t ht ht' ht)
        have HD := Lib.hid hd
        clear hd
        go_wp2_with fail
        go_ret
        exact ⟨by rw [HD.out]; rfl, HB.out⟩
  · have hne : decide (l = k) = false := by
      simp only [decide_eq_false_iff_not]
      rintro rfl
      exact hlen rfl
    have b1 : (((l.length : Nat) : Int) != ((k.length : Nat) : Int)) = true := by simp; omega
    rw [hne]
    clear hx hx' hlen hne
    go_enter Try.func23, Try.ntmps23
    go_wp2_with fail
    go_ret
    exact ⟨rfl, Below.refl _ _⟩

end Go.Proofs.Ytaoaidjbpfdgmaa
