/- TreeAgain -/
import Derived.Test.YtmhpgbhmhbldfaaTrR3
import Derived.Test.YtmhpgbhmhbldfaaTrR4
namespace Go.Proofs.Ytmhpgbhmhbldfaa
open Go.ChangeShapes Go.WideShapes Go.ChangeAt Go.RowKit Go.Shelf

/-- what the first loop stands on -/
def AgnI (w : World) (N i : Nat) (A : Option Addr) (l : List ByteArray) (a : Addr) (c : Nat) (m : List ByteArray) (next root : Nat) (wr : World) : Prop :=
  TSt wr N w.heap.size next root m ∧ (1 ≤ next ∧ next ≤ 1 + 70 * i ∧ m.length ≤ i ∧ ∀ x ∈ m, x.size ≤ 90) ∧ (SAt wr wr.heap.size (some a) m ∧ m.length ≤ c) ∧ SAt wr w.heap.size A l ∧ Below N w wr

theorem mem_insK {k x : ByteArray} {m : List ByteArray} (h : x ∈ insK ltS k m) : x = k ∨ x ∈ m := by
  rw [insK_place rfl] at h
  rcases List.mem_append.1 h with h | h
  · exact .inr (List.mem_of_mem_take h)
  · rcases List.mem_cons.1 h with h | h
    · exact .inl h
    · exact .inr (List.mem_of_mem_drop h)

theorem len_insK (k : ByteArray) (m : List ByteArray) : (insK ltS k m).length = m.length + 1 := by
  rw [insK_place rfl, List.length_append, List.length_cons]
  have h1 := placeK_le ltS k m
  rw [List.length_take, List.length_drop]; omega

/-- .. a key was put, and the list has it, too -/
theorem AgnI.put {w : World} {i : Nat} {A : Option Addr} {l : List ByteArray} {a : Addr} {c : Nat} {m : List ByteArray} {next root : Nat} {wr w2 w3 w4 : World} {k : ByteArray} {next' root' : Nat} {a' : Addr} {c' : Nat} (h : AgnI w w.heap.size i A l a c m next root wr) (hb2 : Below wr.heap.size wr w2) (hk : k.size ≤ 90) (hn1 : next ≤ next') (hn2 : next' ≤ next + 70) (hT : TSt w3 w.heap.size w.heap.size next' root' (insK ltS k m)) (hC : CellsKeep w.heap.size w2 w3) (hb3 : Below w.heap.size w2 w3)
    (hA : SAt w4 w4.heap.size (some a') (insK ltS k m)) (hc : (insK ltS k m).length ≤ c') (hb4 : Below w3.heap.size w3 w4) : AgnI w w.heap.size (i + 1) A l a' c' (insK ltS k m) next' root' w4 := by
  obtain ⟨h1, ⟨h2, h3, h4, h5⟩, h6, h7, h8⟩ := h
  obtain ⟨la, go, hI⟩ := (h1.on hb2).isT
  have q2 := h8.trans (hb2.mono h8.size)
  have q3 := q2.trans (hb3.mono (Nat.le_refl _))
  exact ⟨hT.on hb4, ⟨by omega, by omega, by rw [len_insK]; omega, fun x hx => by
    rcases mem_insK hx with rfl | hx
    · exact hk
    · exact h5 x hx⟩, ⟨hA, hc⟩, (((h7.keep hb2 h8.size).keepT hI hC)).keep hb4 q3.size, q3.trans (hb4.mono q3.size)⟩

/-- .. nothing was put -/
theorem AgnI.same {w : World} {i : Nat} {A : Option Addr} {l : List ByteArray} {a a' : Addr} {c c' : Nat} {m : List ByteArray} {next root : Nat} {wr w' : World} (h : AgnI w w.heap.size i A l a c m next root wr) (hb : Below wr.heap.size wr w') (hA : SAt w' w'.heap.size (some a') m) (hc : m.length ≤ c') : AgnI w w.heap.size (i + 1) A l a' c' m next root w' := by
  obtain ⟨h1, ⟨h2, h3, h4, h5⟩, h6, h7, h8⟩ := h
  exact ⟨h1.on hb, ⟨h2, by omega, by omega, h5⟩, ⟨hA, hc⟩, h7.keep hb h8.size, h8.trans (hb.mono h8.size)⟩

set_option maxHeartbeats 4000000 in
set_option maxRecDepth 100000 in
theorem again_walk {w : World} {A : Option Addr} {cap : Nat} {l : List ByteArray} {k : ByteArray} (hA : SAt w w.heap.size A l) (hl0 : l.length ≤ 9223372036854775807) (hs : ∀ s ∈ l, s.size ≤ 9223372036854775807) (hk : k.size ≤ 9223372036854775807) :
    Calls Try.prog 4 #[.slice A l.length cap, .string k] w fun e w' => e = .returned (.bool true) ∧ Below w.heap.size w w' := by
  obtain ⟨n0, hn0⟩ : ∃ n, l.length = n := ⟨_, rfl⟩
  rw [hn0]
  have HA := Lib.hid hA; have HS := Lib.hid hs; have HN0 := Lib.hid hn0; have HK := Lib.hid hk
  have hl : n0 ≤ 9223372036854775807 := hn0 ▸ hl0
  clear hA hs hn0 hk hl0
  have HC0 := Lib.hid (new_c 0 1 w)
  go_enter Try.func4, Try.ntmps4
  go_wp2_with fail
  refine HC0.out.mono ?_
  rintro e w1 ⟨rfl, hT, hb1⟩
  obtain ⟨W1, hW1⟩ : ∃ W1, w1.alloc (.cells #[] 9) = W1 := ⟨_, rfl⟩
  have hbW : Below w1.heap.size w1 W1 := hW1 ▸ (Below.refl _ _).alloc (Nat.le_refl _) _
  have HI0 : Hid (AgnI w w.heap.size 0 A l ⟨w1.heap.size, 0, none⟩ 0 [] 1 0 W1) := Lib.hid ⟨⟨Nat.le_refl _, .inl ⟨rfl, rfl, hT.on hbW hT.cells.2.2⟩⟩, ⟨Nat.le_refl _, by omega, Nat.le_refl _, by simp⟩, ⟨fun i s h => by simp at h, Nat.le_refl _⟩, HA.out.keep (hb1.trans (hbW.mono hb1.size)) (Nat.le_refl _), hb1.trans (hbW.mono hb1.size)⟩
  clear hT hb1 hbW HC0
  go_wp2_with fail
  go_loopg [6, 7] 40 (fun g mv iv wr => ∃ (i : Nat) (a : Addr) (c : Nat) (m : List ByteArray) (next root : Nat), mv = .slice (some a) m.length c ∧ iv = .int .i64 i ∧ i ≤ n0 ∧ i ≤ 40 ∧ 40 - i ≤ g ∧ Hid (AgnI w w.heap.size i A l a c m next root wr))
  case atStart => exact ⟨0, _, 0, [], 1, 0, rfl, rfl, Nat.zero_le _, by omega, by omega, HI0⟩
  case round =>
    obtain ⟨i, a, c, m, next, root, rfl, rfl, hi, hi40, hg, HI⟩ := hrel
    by_cases hlt : i < n0 ∧ i < 40
    · obtain ⟨hlm, hl40⟩ := hlt
      have hlz : (i : Int) < (n0 : Int) := by omega
      have hlz40 : (i : Int) < 40 := by omega
      have hil : i < l.length := by rw [HN0.out]; exact hlm
      obtain ⟨x, hx⟩ : ∃ x, l[i]? = some x := ⟨_, List.getElem?_eq_getElem hil⟩
      obtain ⟨b, o, rfl, hb, c0⟩ := HI.out.2.2.2.1 i x hx
      have hxs := HS.out x (List.mem_of_getElem? hx)
      obtain ⟨z, hz⟩ : ∃ z, fewS x = z := ⟨_, rfl⟩
      have HFW := Lib.hid (few_c2 x wr hxs)
      rw [hz] at HFW
      clear hx hb hxs hil hz
      by_cases h90 : z.size ≤ 90
      · have h90z : (z.size : Int) ≤ 90 := by omega
        by_cases hin : z ∈ m
        · have HIN := Lib.hid hin; have H90 := Lib.hid h90
          clear hin h90
          go_wp2_with fail
          refine HFW.out.mono ?_
          rintro e w2 ⟨rfl, hb2⟩
          have hq := HI.out
          have hC := add_yes (k := z) (hq.1.on hb2) H90.out (by have := hq.2.1.2.2.1; omega) (by have := hq.2.1.2.1; omega) HIN.out
          have HC := Lib.hid hC; have HB2 := Lib.hid hb2
          clear hC hb2 hq
          go_wp2_with fail
          refine HC.out.mono ?_
          rintro e w3 ⟨rfl, hb3, hT3⟩
          have hq := HI.out
          have hb23 := HB2.out.trans (hb3.mono HB2.out.size)
          have hC := rwith_c m z a c w3 (hq.2.2.1.1.on hb23) hq.1.ris (by have := hq.2.1.2.2.1; omega) hq.2.2.1.2
          have HC2 := Lib.hid hC; have HB3 := Lib.hid hb23; have HR := Lib.hid hq.1.ris
          clear hC hb3 hq hT3 hb23
          go_wp2_with fail
          refine HC2.out.mono ?_
          rintro e w4 ⟨a', c', m', rfl, hm', hA', hc', hb4⟩
          have hhs : hasS z m = true := (hasS_iff HR.out).2 HIN.out
          rw [hhs, if_pos rfl] at hm'
          subst hm'
          have HI4 : Hid (AgnI w w.heap.size (i + 1) (some ⟨b, o, none⟩) l a' c' m' next root w4) := Lib.hid (HI.out.same (HB3.out.trans (hb4.mono HB3.out.size)) hA' hc')
          clear hA' hc' hb4 hhs
          go_wp2_with fail
          go_roundg (40 - (i + 1))
          case measure => omega
          case rel => exact ⟨i + 1, a', c', m', next, root, rfl, by go_num, by omega, by omega, Nat.le_refl _, HI4⟩
        · have HIN := Lib.hid hin; have H90 := Lib.hid h90
          clear hin h90
          go_wp2_with fail
          refine HFW.out.mono ?_
          rintro e w2 ⟨rfl, hb2⟩
          have hq := HI.out
          have hC := add_no (k := z) (hq.1.on hb2) (by have := hq.2.2.2.2.size; have := hb2.size; omega) H90.out (by have := hq.2.1.2.2.1; omega) hq.2.1.1 (by have := hq.2.1.2.1; omega) HIN.out
          have HC := Lib.hid hC; have HB2 := Lib.hid hb2
          clear hC hb2 hq
          go_wp2_with fail
          refine HC.out.mono ?_
          rintro e w3 ⟨rfl, next', root', k1, k2, -, k3, k4, k5⟩
          have hq := HI.out
          obtain ⟨la, go, hT2⟩ := (hq.1.on HB2.out).isT
          have hA3 : SAt w3 w3.heap.size (some a) m := ((hq.2.2.1.1.on HB2.out).keepT hT2 k4).up k4.size
          have hC := rwith_c m z a c w3 hA3 hq.1.ris (by have := hq.2.1.2.2.1; omega) hq.2.2.1.2
          have HC2 := Lib.hid hC; have HR := Lib.hid hq.1.ris; have HKK := Lib.hid (And.intro k1 (And.intro k2 (And.intro k3 (And.intro k4 k5))))
          clear hC hq hT2 hA3 k1 k2 k3 k4 k5
          go_wp2_with fail
          refine HC2.out.mono ?_
          rintro e w4 ⟨a', c', m', rfl, hm', hA', hc', hb4⟩
          have hhs : hasS z m = false := by
            cases h : hasS z m with
            | false => rfl
            | true => exact absurd ((hasS_iff HR.out).1 h) HIN.out
          rw [hhs] at hm'
          simp only [Bool.false_eq_true, if_false] at hm'
          subst hm'
          obtain ⟨m', hm'⟩ : ∃ m', insK ltS z m = m' := ⟨_, rfl⟩
          have HI4 : Hid (AgnI w w.heap.size (i + 1) (some ⟨b, o, none⟩) l a' c' m' next' root' w4) := Lib.hid (hm' ▸ HI.out.put HB2.out H90.out HKK.out.1 HKK.out.2.1 HKK.out.2.2.1 HKK.out.2.2.2.1 HKK.out.2.2.2.2 hA' hc' hb4)
          rw [hm']
          clear hA' hc' hb4 hhs hm'
          go_wp2_with fail
          go_roundg (40 - (i + 1))
          case measure => omega
          case rel => exact ⟨i + 1, a', c', m', next', root', rfl, by go_num, by omega, by omega, Nat.le_refl _, HI4⟩
      · have h90z : ¬ (z.size : Int) ≤ 90 := by omega
        clear h90
        go_wp2_with fail
        refine HFW.out.mono ?_
        rintro e w2 ⟨rfl, hb2⟩
        have HI4 : Hid (AgnI w w.heap.size (i + 1) (some ⟨b, o, none⟩) l a c m next root w2) := Lib.hid (HI.out.same hb2 (HI.out.2.2.1.1.on hb2) HI.out.2.2.1.2)
        clear hb2
        go_wp2_with fail
        go_roundg (40 - (i + 1))
        case measure => omega
        case rel => exact ⟨i + 1, a, c, m, next, root, rfl, by go_num, by omega, by omega, Nat.le_refl _, HI4⟩
    · have hcut : (i : Int) < (n0 : Int) ∨ ¬ (i : Int) < (n0 : Int) := by omega
      rcases hcut with hlz | hlz
      all_goals
        first
          | have hlz40 : ¬ (i : Int) < 40 := by omega
          | skip
        obtain ⟨la, go, hIT⟩ := HI.out.1.isT
        have HCN := Lib.hid (next_c hIT)
        clear hIT
        go_wp2_with fail
        refine HCN.out.mono ?_
        rintro e w5 ⟨rfl, hb5⟩
        obtain ⟨la, go, hIT⟩ := (HI.out.1.on hb5).isT
        have HCR := Lib.hid (root_c hIT)
        have HB5 := Lib.hid hb5
        clear hIT hb5
        go_wp2_with fail
        refine HCR.out.mono ?_
        rintro e w6 ⟨rfl, hb6⟩
        have hb56 := HB5.out.trans (hb6.mono HB5.out.size)
        have HJ0 : Hid (TSt w6 w.heap.size w.heap.size next root m ∧ SAt w6 w6.heap.size (some a) m ∧ Below w.heap.size w w6) := Lib.hid ⟨HI.out.1.on hb56, HI.out.2.2.1.1.on hb56, HI.out.2.2.2.2.trans (hb56.mono HI.out.2.2.2.2.size)⟩
        have HM : Hid (m.length ≤ 60 ∧ next < 400000 ∧ (∀ x ∈ m, x.size ≤ 90) ∧ m.length ≤ c) := Lib.hid ⟨by have := HI.out.2.1.2.2.1; omega, by have := HI.out.2.1.2.1; omega, HI.out.2.1.2.2.2, HI.out.2.2.1.2⟩
        clear hb6 hb56
        go_wp2_with fail
        go_loopg [11] m.length (fun g iv wr2 => ∃ j : Nat, iv = .int .i64 j ∧ m.length - j ≤ g ∧ j ≤ m.length ∧ Hid (TSt wr2 w.heap.size w.heap.size next root m ∧ SAt wr2 wr2.heap.size (some a) m ∧ Below w.heap.size w wr2))
        case atStart => exact ⟨0, rfl, by omega, Nat.zero_le _, HJ0⟩
        case round =>
          obtain ⟨j, rfl, hg2, hj, HJ⟩ := hrel
          have hm60 := HM.out.1
          by_cases hlt2 : j < m.length
          · have hlz2 : (j : Int) < (m.length : Int) := by omega
            obtain ⟨x, hx⟩ : ∃ x, m[j]? = some x := ⟨_, List.getElem?_eq_getElem hlt2⟩
            obtain ⟨b, o, he, hb, c0⟩ := HJ.out.2.1 j x hx
            cases he
            have hxm := List.mem_of_getElem? hx
            have HC := Lib.hid (add_yes (k := x) HJ.out.1 (HM.out.2.2.1 x hxm) HM.out.1 HM.out.2.1 hxm)
            clear hx hb hxm
            go_wp2_with fail
            refine HC.out.mono ?_
            rintro e w7 ⟨rfl, hb7, hT7⟩
            have HJ7 : Hid (TSt w7 w.heap.size w.heap.size next root m ∧ SAt w7 w7.heap.size (some ⟨b, o, none⟩) m ∧ Below w.heap.size w w7) := Lib.hid ⟨hT7, HJ.out.2.1.on hb7, HJ.out.2.2.trans (hb7.mono HJ.out.2.2.size)⟩
            clear hb7 hT7
            go_wp2_with fail
            go_roundg (m.length - (j + 1))
            case measure => omega
            case rel => exact ⟨j + 1, by go_num, Nat.le_refl _, hlt2, HJ7⟩
          · have hlz2 : ¬ (j : Int) < (m.length : Int) := by omega
            obtain ⟨y, hy⟩ : ∃ y, fewS k = y := ⟨_, rfl⟩
            have HFW := Lib.hid (few_c2 k wr HK.out)
            rw [hy] at HFW
            clear hy
            go_wp2_with fail
            refine HFW.out.mono ?_
            rintro e w7 ⟨rfl, hb7⟩
            have HJ7 : Hid (TSt w7 w.heap.size w.heap.size next root m ∧ SAt w7 w7.heap.size (some a) m ∧ Below w.heap.size w w7) := Lib.hid ⟨HJ.out.1.on hb7, HJ.out.2.1.on hb7, HJ.out.2.2.trans (hb7.mono HJ.out.2.2.size)⟩
            have HCM := Lib.hid (member_c m y (some a) c w7 HJ7.out.2.1 (by have := HM.out.1; omega))
            clear hb7
            go_wp2_with fail
            refine HCM.out.mono ?_
            rintro e w8 ⟨⟨z, rfl, hz⟩, hb8⟩
            have HJ8 : Hid (TSt w8 w.heap.size w.heap.size next root m ∧ SAt w8 w8.heap.size (some a) m ∧ Below w.heap.size w w8) := Lib.hid ⟨HJ7.out.1.on hb8, HJ7.out.2.1.on hb8, HJ7.out.2.2.trans (hb8.mono HJ7.out.2.2.size)⟩
            clear hb8
            have hrest : ∀ w9, Below w8.heap.size w8 w9 → Hid (TSt w9 w.heap.size w.heap.size next root m ∧ SAt w9 w9.heap.size (some a) m ∧ Below w.heap.size w w9) := fun w9 hb9 => Lib.hid ⟨HJ8.out.1.on hb9, HJ8.out.2.1.on hb9, HJ8.out.2.2.trans (hb9.mono HJ8.out.2.2.size)⟩
            cases z
            · have hy : y ∉ m := fun h => by cases hz.2 h
              have HCD := Lib.hid (drop_no HJ8.out.1 HM.out.1 HM.out.2.1 hy)
              clear hz hy
              go_wp2_with fail
              refine HCD.out.mono ?_
              rintro e w9 ⟨rfl, hb9⟩
              have HJ9 := hrest w9 hb9
              clear hb9 hrest
              go_wp2_with fail
              refine (awake8 _).mono ?_
              rintro e w10 ⟨rfl, hb10⟩
              have HJ10 : Hid (TSt w10 w.heap.size w.heap.size next root m ∧ SAt w10 w10.heap.size (some a) m ∧ Below w.heap.size w w10) := Lib.hid ⟨HJ9.out.1.on hb10, HJ9.out.2.1.on hb10, HJ9.out.2.2.trans (hb10.mono HJ9.out.2.2.size)⟩
              obtain ⟨la, go, hIT⟩ := HJ10.out.1.isT
              have HCN := Lib.hid (next_c hIT)
              clear hIT hb10
              go_wp2_with fail
              refine HCN.out.mono ?_
              rintro e w11 ⟨rfl, hb11⟩
              have HJ11 : Hid (TSt w11 w.heap.size w.heap.size next root m ∧ SAt w11 w11.heap.size (some a) m ∧ Below w.heap.size w w11) := Lib.hid ⟨HJ10.out.1.on hb11, HJ10.out.2.1.on hb11, HJ10.out.2.2.trans (hb11.mono HJ10.out.2.2.size)⟩
              obtain ⟨la, go, hIT⟩ := HJ11.out.1.isT
              have HCR := Lib.hid (root_c hIT)
              clear hIT hb11
              go_wp2_with fail
              refine HCR.out.mono ?_
              rintro e w12 ⟨rfl, hb12⟩
              have HJ12 : Hid (TSt w12 w.heap.size w.heap.size next root m ∧ SAt w12 w12.heap.size (some a) m ∧ Below w.heap.size w w12) := Lib.hid ⟨HJ11.out.1.on hb12, HJ11.out.2.1.on hb12, HJ11.out.2.2.trans (hb12.mono HJ11.out.2.2.size)⟩
              have HCH := Lib.hid (has_c (cap := c) HJ12.out.1 HM.out.1 HM.out.2.1 (fun x hx => Nat.le_trans (HM.out.2.2.1 x hx) (by decide)) HJ12.out.2.1 (by have := HM.out.1; omega))
              clear hb12
              go_wp2_with fail
              refine HCH.out.mono ?_
              rintro e w13 ⟨rfl, hO⟩
              simp only [decide_true]
              have HF : Hid (Below w.heap.size w w13) := Lib.hid (HJ12.out.2.2.trans (hO.below HJ12.out.2.2.size (fun b hb => by rw [hb]; exact Nat.le_refl _)))
              clear hO
              go_wp2_with fail
              go_ret
              exact ⟨rfl, HF.out⟩
            · have HJ9 := hrest w8 (Below.refl _ _)
              clear hrest hz
              go_wp2_with fail
              refine (awake8 _).mono ?_
              rintro e w10 ⟨rfl, hb10⟩
              have HJ10 : Hid (TSt w10 w.heap.size w.heap.size next root m ∧ SAt w10 w10.heap.size (some a) m ∧ Below w.heap.size w w10) := Lib.hid ⟨HJ9.out.1.on hb10, HJ9.out.2.1.on hb10, HJ9.out.2.2.trans (hb10.mono HJ9.out.2.2.size)⟩
              obtain ⟨la, go, hIT⟩ := HJ10.out.1.isT
              have HCN := Lib.hid (next_c hIT)
              clear hIT hb10
              go_wp2_with fail
              refine HCN.out.mono ?_
              rintro e w11 ⟨rfl, hb11⟩
              have HJ11 : Hid (TSt w11 w.heap.size w.heap.size next root m ∧ SAt w11 w11.heap.size (some a) m ∧ Below w.heap.size w w11) := Lib.hid ⟨HJ10.out.1.on hb11, HJ10.out.2.1.on hb11, HJ10.out.2.2.trans (hb11.mono HJ10.out.2.2.size)⟩
              obtain ⟨la, go, hIT⟩ := HJ11.out.1.isT
              have HCR := Lib.hid (root_c hIT)
              clear hIT hb11
              go_wp2_with fail
              refine HCR.out.mono ?_
              rintro e w12 ⟨rfl, hb12⟩
              have HJ12 : Hid (TSt w12 w.heap.size w.heap.size next root m ∧ SAt w12 w12.heap.size (some a) m ∧ Below w.heap.size w w12) := Lib.hid ⟨HJ11.out.1.on hb12, HJ11.out.2.1.on hb12, HJ11.out.2.2.trans (hb12.mono HJ11.out.2.2.size)⟩
              have HCH := Lib.hid (has_c (cap := c) HJ12.out.1 HM.out.1 HM.out.2.1 (fun x hx => Nat.le_trans (HM.out.2.2.1 x hx) (by decide)) HJ12.out.2.1 (by have := HM.out.1; omega))
              clear hb12
              go_wp2_with fail
              refine HCH.out.mono ?_
              rintro e w13 ⟨rfl, hO⟩
              simp only [decide_true]
              have HF : Hid (Below w.heap.size w w13) := Lib.hid (HJ12.out.2.2.trans (hO.below HJ12.out.2.2.size (fun b hb => by rw [hb]; exact Nat.le_refl _)))
              clear hO
              go_wp2_with fail
              go_ret
              exact ⟨rfl, HF.out⟩

end Go.Proofs.Ytmhpgbhmhbldfaa
