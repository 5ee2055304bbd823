/- all records of a page; are two rows of records the same? -/
import Derived.Test.YtdfkahkomcfoeaaPgH
import Derived.BigQuiet
namespace Go.Proofs.Ytdfkahkomcfoeaa
open Go.ChangeShapes Go.WideShapes Go.ChangeAt Go.RowKit

theorem below_of_only {w w' : World} {v : Value} (h : w.grownBy w' v.ownBlock) {n : Nat} (hn : n ≤ w.heap.size) (hv : ∀ g, v.ownBlock = some g → n ≤ g) : Below n w w' :=
  (grown_only h).below hn fun k hk => hv k hk.symm

set_option maxRecDepth 100000 in
theorem clone_body {n : Nat} {v : Value} {l : Pg} {w : World} (hown : w.ownsRow n 47 2 v l.length (cellsB l)) (hl : l.length ≤ 1000) :
    Calls Try.prog 30 #[v] w fun e w' => ∃ v', e = .returned v' ∧ w'.ownsRow w.heap.size 47 2 v' l.length (cellsB l) ∧ Below w.heap.size w w' := by
  rcases hown.2 with ⟨rfl, h0⟩ | ⟨g, cap, cur, rfl, hb, hg, hnc, hcm, hcs, ht⟩
  · have e0 : l = [] := List.length_eq_zero_iff.1 h0
    subst e0
    have hq := fun W n' c' => Lib.run_eql_slice_nil (P := Try.prog) W 25 47 none 0 0 n' c' Try.underlying25
    clear hown
    go_enter Try.func30, Try.ntmps30
    go_wp2_with fail
    go_ret
    exact ⟨_, rfl, World.ownsRow_nil _ _ _ _, Below.refl _ _⟩
  · obtain ⟨i0, hi0, hz0, hz1, hz2⟩ := info_parts info_body
    have hrow : ∀ j u, (cellsB l)[j]? = some u → w.cell? ⟨g, j, none⟩ = some u := fun j u hu => by
      rw [cell_of_row _ _ _ _ _ _ hg, ← Array.getElem?_toList]
      rw [← ht, List.getElem?_take] at hu
      split at hu
      · exact hu
      · cases hu
    have hgw : g < w.heap.size := (Array.getElem?_eq_some_iff.1 hg).1
    have hq := fun W n' c' => Lib.run_eql_slice_nil (P := Try.prog) W 25 47 (some ⟨g, 0, none⟩) l.length cap n' c' Try.underlying25
    have hmade : (w.alloc (.cells #[] 47)).ownsRow w.heap.size 47 2 (.slice (some ⟨w.heap.size, 0, none⟩) 0 0) 0 [] := World.ownsRow_made w #[] 0 (Nat.le_refl _) (Nat.zero_le _) (by simp)
    obtain ⟨v', w2, hr, hown', hgr, -⟩ := run_append_own (P := Try.prog) (w.alloc (.cells #[] 47)) w.heap.size 25 25 47 i0 _ 2 24 Try.underlying25 hi0 hz0 hz1 hz2 rfl (by decide) _ 0 [] hmade ⟨g, 0, none⟩ l.length cap (cellsB l) (cellsB_len l)
      (fun j u hu => by rw [adr_add, Nat.zero_add]; exact (World.cell?_of_block (a := ⟨g, j, none⟩) (Below.heap_alloc w _ g hgw)).trans (hrow j u hu)) (cellsB_one l) (by unfold maxLen; omega) (by omega) (by simp)
    have HO := Lib.hid hown'
    have HB : Hid (Below w.heap.size w w2) := Lib.hid (((Below.refl _ w).alloc (Nat.le_refl _) _).trans (below_of_only hgr (by simp) (fun k hk => by simp only [Value.ownBlock, Option.some.injEq] at hk; omega)))
    clear hown hrow hmade hown' hgr hi0 hz0 hz1 hz2 ht hg
    go_enter Try.func30, Try.ntmps30
    go_wp2_with (first
      | (at_builtin; refine Lib.wpList_append_run _ rfl _ _ _ _ rfl _ _ rfl rfl _ _ hr ?_)
      | fail)
    go_ret
    refine ⟨_, rfl, ?_, HB.out⟩
    have := HO.out
    rw [Nat.zero_add, List.nil_append] at this
    exact this

theorem below_nD {n : Nat} {w wr : World} (h : Below n w wr) (q : Nat) : Below n w (wr.drewN q) := ⟨h.os, h.tape, h.output, h.size, h.block⟩

/-- a row of records that can be read, told -/
structure Seen (w : World) (l : Pg) (A : Option Addr) (c b : Nat) : Prop where
  cap : l.length ≤ c
  at_ : l ≠ [] → A = some ⟨b, 0, none⟩
  row : RowB w b l

theorem Seen.below {w w' : World} {l : Pg} {A : Option Addr} {c b : Nat} (h : Seen w l A c b) (hb : Below w.heap.size w w') : Seen w' l A c b := ⟨h.cap, h.at_, h.row.below hb⟩

theorem owns_seen {n : Nat} {w : World} {v : Value} {l : Pg} (h : w.ownsRow n 47 2 v l.length (cellsB l)) : ∃ A c b, v = .slice A l.length c ∧ Seen w l A c b := by
  obtain ⟨A, c, hv, hc, hx⟩ := owns_form h
  by_cases hl : l = []
  · exact ⟨A, c, 0, hv, hc, fun h => absurd hl h, by rw [hl]; intro j u hu; simp [cellsB] at hu⟩
  · obtain ⟨g, cur, hA, -, hg, -, -, ht⟩ := hx (by rw [ne_eq, List.length_eq_zero_iff]; exact hl)
    refine ⟨A, c, g, hv, hc, fun _ => hA, fun j u hu => ?_⟩
    rw [cell_of_row _ _ _ _ _ _ hg, ← Array.getElem?_toList]
    rw [← ht, List.getElem?_take] at hu
    split at hu
    · exact hu
    · cases hu

set_option maxHeartbeats 1000000 in
set_option maxRecDepth 100000 in
theorem same_any (l k : Pg) (A A' : Option Addr) (c c' b b' : Nat) (w : World) (h : Seen w l A c b) (h' : Seen w k A' c' b') (hl : l.length ≤ 1000) :
    Calls Try.prog 15 #[.slice A l.length c, .slice A' k.length c'] w fun e w' => e = .returned (.bool (decide (l = k))) ∧ Below w.heap.size w w' := by
  by_cases hlen : l.length = k.length
  · have H := Lib.hid h; have H' := Lib.hid h'
    have HL := Lib.hid hlen
    have b0 : ((l.length : Int) != (k.length : Int)) = false := by simp; omega
    clear h h'
    rw [← hlen] at b0 ⊢
    clear hlen
    go_enter Try.func15, Try.ntmps15
    go_wp2_with fail
    go_loopg [5] l.length (fun g si wr => ∃ i : Nat, si = .int .i64 i ∧ i ≤ l.length ∧ l.length - i ≤ g ∧ Hid (∀ t (ht : t < l.length) (ht' : t < k.length), t < i → l[t] = k[t]) ∧ Hid (Below w.heap.size w wr))
    case atStart => exact ⟨0, rfl, Nat.zero_le _, by omega, fun t ht ht' h => absurd h (Nat.not_lt_zero _), Below.refl _ _⟩
    case round =>
      obtain ⟨i, rfl, hi, hg, HE, HB⟩ := hrel
      by_cases hlt : i < l.length
      · have hlt' : i < k.length := by have := HL.out; omega
        obtain ⟨j0, j1⟩ := (H.out.row.below HB.out).at hlt
        obtain ⟨k0, k1⟩ := (H'.out.row.below HB.out).at hlt'
        have eA := H.out.at_ (by rintro rfl; simp at hlt)
        have eA' := H'.out.at_ (by rintro rfl; simp at hlt')
        subst eA eA'
        obtain ⟨x, hx⟩ : ∃ x, l[i] = x := ⟨_, rfl⟩
        obtain ⟨y, hy⟩ : ∃ y, k[i] = y := ⟨_, rfl⟩
        have HX := Lib.hid hx; have HY := Lib.hid hy
        rw [hx] at j0 j1
        rw [hy] at k0 k1
        have z1 : (i : Int) < (l.length : Int) := by omega
        clear hx hy
        by_cases hxy : x = y
        · subst hxy
          go_wp2_with fail
          go_quiet (fail)
          go_wp2_with fail
          go_roundg (l.length - (i + 1))
          case measure => omega
          case rel => exact ⟨i + 1, by go_num, by omega, Nat.le_refl _, (fun t ht ht' h => by
            rcases Nat.lt_or_ge t i with h1 | h1
            · exact HE.out t ht ht' h1
            · obtain rfl : t = i := by omega
              rw [HX.out, HY.out]), below_nD HB.out _⟩
        · have hd : decide (l = k) = false := decide_eq_false fun e => hxy (by
            have h1 := HX.out; have h2 := HY.out
            subst e
            rw [← h1, ← h2])
          have HD := Lib.hid hd
          by_cases h1 : x.1 = y.1
          · have b1 : ((x.1 : Int) == (y.1 : Int)) = true := by simp; omega
            have b2 : (x.2 == y.2) = false := by
              cases hq : (x.2 == y.2) with
              | false => rfl
              | true => exact absurd (Prod.ext h1 (by simpa using hq)) hxy
            clear hd hxy
            have H1 := Lib.hid h1
            clear h1
            go_wp2_with fail
            go_quiet (fail)
            go_wp2_with fail
            go_ret
            exact ⟨by rw [HD.out]; rfl, below_nD HB.out _⟩
          · have b1 : ((x.1 : Int) == (y.1 : Int)) = false := by simp; omega
            clear hd hxy h1
            go_wp2_with fail
            go_quiet (fail)
            go_wp2_with fail
            go_ret
            exact ⟨by rw [HD.out]; rfl, below_nD HB.out _⟩
      · obtain rfl : i = l.length := by omega
        have hd : decide (l = k) = true := decide_eq_true (List.ext_getElem HL.out fun t ht ht' => HE.out t ht ht' ht)
        have HD := Lib.hid hd
        clear hd
        go_wp2_with fail
        go_ret
        exact ⟨by rw [HD.out]; rfl, HB.out⟩
  · have b0 : ((l.length : Int) != (k.length : Int)) = true := by simp; omega
    have hd : decide (l = k) = false := decide_eq_false fun e => hlen (congrArg List.length e)
    rw [hd]
    clear hlen hd h h'
    go_enter Try.func15, Try.ntmps15
    go_wp2_with fail
    go_ret
    exact ⟨rfl, Below.refl _ _⟩

/-- what All leaves: a row of its own -/
def AllOk (w : World) (l : Pg) (e : Ending) (w' : World) : Prop := ∃ v, e = .returned v ∧ w'.ownsRow w.heap.size 47 2 v l.length (cellsB l) ∧ Below w.heap.size w w'

theorem owns_same {n : Nat} {w : World} {g c : Nat} {l : Pg} (h : w.ownsRow n 47 2 (.slice (some ⟨g, 0, none⟩) l.length c) l.length (cellsB l)) {i : Nat} (hi : i < l.length) {id : Nat} {s : List UInt8} (hx : l[i] = (id, s)) :
    (w.setCell ⟨g, i * 2 + 1, none⟩ (.string ⟨s.toArray⟩)).ownsRow n 47 2 (.slice (some ⟨g, 0, none⟩) l.length c) l.length (cellsB l) := by
  have e : l = l.take i ++ (id, s) :: l.drop (i + 1) := by
    rw [← hx, ← List.drop_eq_getElem_cons hi, List.take_append_drop]
  have hl : (l.take i).length = i := by rw [List.length_take]; omega
  have h2 := owns_set (n := n) (w := w) (g := g) (c := c) (a := l.take i) (b := l.drop (i + 1)) (id := id) (t := s) (by rw [← e]; exact h) s
  rw [← e, hl] at h2
  exact h2

set_option maxHeartbeats 1000000 in
set_option maxRecDepth 100000 in
theorem pg_all {n : Nat} {w : World} {P : Nat} {v : Value} {l : Pg} (h : IsPg n w P v l) :
    Calls Try.prog 16 #[.pointer (some ⟨P, 0, none⟩)] w (AllOk w l) := by
  have hlen := h.ok.len
  have hstr : ∀ r ∈ l, r.2.length ≤ 498 := fun r hr => h.ok.str hr
  have HC := Lib.hid (clone_body h.row (by omega))
  have HS := Lib.hid hstr
  obtain ⟨A, c, b, rfl, hc, -, -⟩ := h.form
  have c0 : w.cell? ⟨P, 0, none⟩ = some (.slice A l.length c) := by rw [cell_of_row _ _ _ _ _ _ h.blk]; rfl
  clear h hstr
  go_enter Try.func16, Try.ntmps16
  go_wp2_with (first
    | (go_at_call 30; (with_reducible refine HC.out.mono ?_); rintro e w1 ⟨v', rfl, hown, hb⟩; obtain ⟨A', c', b', rfl, hseen⟩ := owns_seen hown; have HO := Lib.hid hown; have HB := Lib.hid hb; have HAT := Lib.hid hseen.at_; clear hown hb hseen)
    | fail)
  go_loopg [14, 4] l.length (fun g si sj wr => ∃ i : Nat, si = .int .i64 i ∧ i ≤ l.length ∧ l.length - i ≤ g ∧ Hid (wr.ownsRow w.heap.size 47 2 (.slice A' l.length c') l.length (cellsB l)) ∧ Hid (Below w.heap.size w wr))
  case atStart => exact ⟨0, rfl, Nat.zero_le _, by omega, HO.out, HB.out⟩
  case round =>
    obtain ⟨i, rfl, hi, hg, HO2, HB2⟩ := hrel
    by_cases hlt : i < l.length
    · have eA := HAT.out (by rintro rfl; simp at hlt)
      subst eA
      obtain ⟨x, hx⟩ : ∃ x, l[i] = x := ⟨_, rfl⟩
      have hsl : x.2.length ≤ 498 := HS.out x (by rw [← hx]; exact List.getElem_mem hlt)
      have HR : Hid (∀ wn : World, wn.ownsRow w.heap.size 47 2 (.slice (some ⟨b', 0, none⟩) l.length c') l.length (cellsB l) → wn.cell? ⟨b', i * 2 + 1, none⟩ = some (.string ⟨x.2.toArray⟩) ∧ wn.frozen? ⟨b', i * 2 + 1, none⟩ = false ∧ w.heap.size ≤ b') := Lib.hid fun wn ho => by
        obtain ⟨A2, c2, b2, he, hs2⟩ := owns_seen ho
        simp only [Value.slice.injEq, true_and] at he
        obtain ⟨rfl, rfl⟩ := he
        have hb2 := hs2.at_ (by rintro rfl; simp at hlt)
        simp only [Option.some.injEq, Addr.mk.injEq, and_true] at hb2
        subst hb2
        have h1 := (hs2.row.at hlt).2
        rw [hx] at h1
        refine ⟨h1, ?_, (ho.lt b' rfl).1⟩
        rcases ho.2 with ⟨e, -⟩ | ⟨g', cap, cur, hv, -, hg, -⟩
        · cases e
        · simp only [Value.slice.injEq, Option.some.injEq, Addr.mk.injEq, and_true] at hv
          obtain ⟨rfl, -, rfl⟩ := hv
          simp [World.frozen?, hg]
      have HK : Hid (∀ wn wn' : World, wn.ownsRow w.heap.size 47 2 (.slice (some ⟨b', 0, none⟩) l.length c') l.length (cellsB l) → Below wn.heap.size wn wn' → wn'.ownsRow w.heap.size 47 2 (.slice (some ⟨b', 0, none⟩) l.length c') l.length (cellsB l)) := Lib.hid fun wn wn' ho hb => owns_on ho (Only.of_below (ok := fun _ => False) hb) fun _ _ h => h
      have HCL := Lib.hid (fun W => clone_any ⟨x.2.toArray⟩ W (by rw [str_size]; omega))
      obtain ⟨k1, -, hbw⟩ := HR.out _ HO2.out
      have HX : Hid (∀ wn : World, wn.ownsRow w.heap.size 47 2 (.slice (some ⟨b', 0, none⟩) l.length c') l.length (cellsB l) → (wn.setCell ⟨b', i * 2 + 1, none⟩ (.string ⟨x.2.toArray⟩)).ownsRow w.heap.size 47 2 (.slice (some ⟨b', 0, none⟩) l.length c') l.length (cellsB l)) := Lib.hid fun wn ho => owns_same ho hlt (id := x.1) (s := x.2) hx
      have HBW := Lib.hid hbw
      clear hx hsl hbw
      go_wp2_with (first
        | (go_at_call 29; (with_reducible refine (HCL.out _).mono ?_); rintro e w2 ⟨rfl, hb2⟩; have HO3 := Lib.hid (HK.out _ _ HO2.out hb2); obtain ⟨m1, z1, -⟩ := HR.out _ HO3.out; have HB3 := Lib.hid (HB2.out.trans (hb2.mono HB2.out.size)); clear hb2)
        | fail)
      go_roundg (l.length - (i + 1))
      case measure => omega
      case rel => exact ⟨i + 1, by go_num, by omega, Nat.le_refl _, HX.out _ HO3.out, HB3.out.setCell HBW.out _⟩
    · obtain rfl : i = l.length := by omega
      go_wp2_with fail
      go_ret
      exact ⟨_, rfl, HO2.out, HB2.out⟩

end Go.Proofs.Ytdfkahkomcfoeaa
