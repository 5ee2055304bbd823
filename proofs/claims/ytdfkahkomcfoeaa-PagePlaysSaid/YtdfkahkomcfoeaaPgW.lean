/- PagePlays: the walk -/
import Derived.Test.YtdfkahkomcfoeaaPgZ
namespace Go.Proofs.Ytdfkahkomcfoeaa
open Go.ChangeShapes Go.WideShapes Go.ChangeAt Go.RowKit

/-- what is done, in memory -/
def actO (k : Int) (id : Nat) (s : List UInt8) : Obj := .cells #[.int .i64 k, .int .u64 (id : Int), .string ⟨s.toArray⟩] 29

theorem PSt.cells {n : Nat} {w : World} {P : Nat} {v mv : Value} {l k : Pg} {g : Nat} {q : Int} {id : Nat} {s : List UInt8} (h : PSt n w P v mv l k g (actO q id s)) :
    w.cell? ⟨g, 0, none⟩ = some (.int .i64 q) ∧ w.cell? ⟨g, 1, none⟩ = some (.int .u64 (id : Int)) ∧ w.cell? ⟨g, 2, none⟩ = some (.string ⟨s.toArray⟩) := by
  have := h.act
  unfold actO at this
  exact ⟨by rw [cell_of_row _ _ _ _ _ _ this]; rfl, by rw [cell_of_row _ _ _ _ _ _ this]; rfl, by rw [cell_of_row _ _ _ _ _ _ this]; rfl⟩

theorem getS_yes {l : Pg} (hr : RisB l) {k id : Nat} (hk : k < l.length) {x : Bod} (hx : l[k] = x) (he : x.1 = id) : getS (l.take (k + 1)) id = x.2 ∧ hasP (l.take (k + 1)) id = true := by
  have htk : l.take (k + 1) = l.take k ++ [x] := by rw [← hx]; exact List.take_succ_eq_append_getElem hk
  have hn : ∀ r ∈ l.take k, ¬ r.1 = id := fun r hr' => by
    obtain ⟨t, ht, rfl⟩ := List.getElem_of_mem hr'
    rw [List.length_take] at ht
    rw [List.getElem_take]
    have := List.pairwise_iff_getElem.1 hr t k (by omega) hk (by omega)
    rw [hx] at this
    omega
  rw [htk]
  refine ⟨?_, ?_⟩
  · unfold getS
    rw [List.find?_append, List.find?_eq_none.2 (fun r hr' => by simpa using hn r hr')]
    simp [he]
  · unfold hasP
    rw [List.any_append]
    simp [he]

theorem getS_no {l : Pg} {k id : Nat} (hk : k < l.length) {x : Bod} (hx : l[k] = x) (he : ¬ x.1 = id) : getS (l.take (k + 1)) id = getS (l.take k) id ∧ hasP (l.take (k + 1)) id = hasP (l.take k) id := by
  have htk : l.take (k + 1) = l.take k ++ [x] := by rw [← hx]; exact List.take_succ_eq_append_getElem hk
  have hb : (x.1 == id) = false := by simpa using he
  rw [htk]
  refine ⟨?_, ?_⟩
  · unfold getS
    rw [List.find?_append]
    simp [hb]
  · unfold hasP
    rw [List.any_append]
    simp [hb]

theorem PSt.left {n : Nat} {w : World} {P : Nat} {v mv : Value} {l k : Pg} {g : Nat} {O : Obj} (h : PSt n w P v mv l k g O) : ((512 - usedP l : Nat) : Int) = 512 - (usedP l : Int) := by
  have := h.pg.ok.fit
  omega

set_option maxHeartbeats 4000000 in
set_option maxRecDepth 100000 in
theorem pplays_walk (A : Option Addr) (cap : Nat) (L : List ActP) (w : World) (hL : IsActsP w A L) :
    Calls Try.prog 3 #[.slice A L.length cap] w fun e w' => e = .returned (.bool true) ∧ Below w.heap.size w w' := by
  have HL := Lib.hid hL
  have HN := Lib.hid (pg_new w)
  have HA0 : Hid (∀ wn P v mv, PS0 w.heap.size wn P v mv [] [] → Below w.heap.size w wn → Calls Try.prog 8 #[] wn fun e w' => e = .returned (.bool true) ∧ PS0 w.heap.size w' P v mv [] [] ∧ Below w.heap.size w w') := Lib.hid fun wn P v mv h hb =>
    (awake5 wn).mono fun e w' p => ⟨p.1, h.on p.2, hb.trans (p.2.mono hb.size)⟩
  have hl63 := hL.1
  clear hL
  go_enter Try.func3, Try.ntmps3
  go_wp2_with (first
    | (go_at_call 7; (with_reducible refine HN.out.mono ?_); rintro e w1 ⟨rfl, hp, hb⟩;
        have HP0 := Lib.hid (show PS0 w.heap.size (w1.alloc (.cells #[] 47)) w.heap.size (.slice none 0 0) (.slice (some ⟨w1.heap.size, 0, none⟩) 0 0) [] [] from ⟨hp.on ((Below.refl _ w1).alloc (Nat.le_refl _) _), owns_mono (made_empty w1) hb.size, (by have := hp.lt; intro e; simp only [Value.ownBlock, Option.some.injEq] at e; omega), (fun g hg e => by cases e)⟩);
        have HB0 := Lib.hid (hb.alloc hb.size (.cells #[] 47)); clear hp hb)
    | (go_at_call 8; (with_reducible refine (HA0.out _ _ _ _ HP0.out HB0.out).mono ?_); rintro e w2 ⟨rfl, hp, hb⟩; have HP1 := Lib.hid hp; have HB1 := Lib.hid hb; clear hp hb)
    | fail)
  go_loopg [3, 4, 5] 40 (fun g s3 s4 s5 wr => ∃ (i P : Nat) (v : Value) (A' : Option Addr) (c' : Nat) (l : Pg), s5 = .int .i64 i ∧ s3 = .pointer (some ⟨P, 0, none⟩) ∧ s4 = .slice A' l.length c' ∧ i ≤ 40 ∧ 40 - i ≤ g ∧ Hid (PS0 w.heap.size wr P v (.slice A' l.length c') l l) ∧ Hid (Below w.heap.size w wr))
  case atStart => exact ⟨0, _, _, _, _, [], rfl, rfl, rfl, by omega, by omega, HP1.out, HB1.out⟩
  case round =>
    obtain ⟨i, P, v, A', c', l, rfl, rfl, rfl, hi, hg, HP, HB⟩ := hrel
    by_cases hlt : i < L.length ∧ i < 40
    · obtain ⟨h1, h2⟩ := hlt
      obtain ⟨b, o, rfl, -, hc⟩ := (HL.out.on HB.out).2.resolve_left (by rintro rfl; simp at h1)
      obtain ⟨x, hx⟩ : ∃ x, L[i]? = some x := ⟨_, List.getElem?_eq_getElem h1⟩
      obtain ⟨c0, c1, c2, hid, -⟩ := hc i x hx
      obtain ⟨kd, id, s0⟩ := x
      simp only at c0 c1 c2 hid
      obtain ⟨t, ht1, ht2⟩ : ∃ t, (s0.length ≤ 600 → t = s0) ∧ (600 < s0.length → t = s0.take 600) := by
        by_cases h : s0.length ≤ 600
        · exact ⟨s0, fun _ => rfl, fun h2 => absurd h2 (by omega)⟩
        · exact ⟨s0.take 600, fun h2 => absurd h2 h, fun _ => rfl⟩
      have htl : t.length ≤ 600 := by
        by_cases h : s0.length ≤ 600
        · rw [ht1 h]; exact h
        · rw [ht2 (by omega), List.length_take]; omega
      have hl := fun W => len_str s0 3 W
      have hcut : 600 < s0.length → ∀ W, (Instr.slice 9 (.string ⟨s0.toArray⟩) none (some (.int .i64 600)) none).run Try.prog W = .ok (.string ⟨t.toArray⟩) W := fun h W => by
        rw [ht2 h]
        exact sl_head (s := s0) (n := 600) (N := 600) rfl (by omega) W
      have HPA : Hid (PSt w.heap.size (wr.alloc (actO kd id t)) P v (.slice A' l.length c') l l wr.heap.size (actO kd id t)) := Lib.hid (HP.out.act _ _)
      have HBA : Hid (Below w.heap.size w (wr.alloc (actO kd id t))) := Lib.hid (HB.out.alloc HB.out.size _)
      unfold actO at HPA HBA
      clear hc hx
      by_cases h6 : s0.length ≤ 600
      all_goals
        first
          | (have e := ht1 h6
             subst e
             have h7 : ¬ 600 < t.length := by omega
             clear hcut ht1 ht2)
          | (have h7 : 600 < s0.length := by omega
             have hct := hcut h7
             clear hcut ht1 ht2 h6)
        by_cases k3 : kd = 3
        · subst k3
          have HWO := Lib.hid (plays_without HPA.out id)
          go_upto_region 25 with (first
            | (go_at_call 9; (with_reducible refine HWO.out.mono ?_); rintro e w1 ⟨A2, c2, rfl, hp, hb⟩; obtain ⟨a0, a1, a2⟩ := hp.cells; have HDR := Lib.hid (plays_drop hp id); have HB1 := Lib.hid (HBA.out.trans hb); clear hp hb)
            | (go_at_call 10; (with_reducible refine HDR.out.mono ?_); rintro e w2 ⟨rfl, v', hp, hb⟩; have HP2 := Lib.hid hp; have HB2 := Lib.hid (HB1.out.trans hb); clear hp hb)
            | fail)
          generalize dropL l id = l2 at HP2 ⊢
          have eU := HP2.out.left
          have HAL := Lib.hid (plays_all HP2.out)
          go_wp2_with (first
            | (go_at_call 16; (with_reducible refine HAL.out.mono ?_); rintro e w3 ⟨A3, c3, b3, rfl, hs, hp, hb⟩; have HSA := Lib.hid (plays_same hp hs); have HB3 := Lib.hid (HB2.out.trans hb); clear hp hb hs)
            | (go_at_call 15; (with_reducible refine HSA.out.mono ?_); rintro e w4 ⟨rfl, hp, hb⟩; have HFR := Lib.hid (plays_free hp); have HB4 := Lib.hid (HB3.out.trans hb); clear hp hb)
            | (go_at_call 17; (with_reducible refine HFR.out.mono ?_); rintro e w5 ⟨rfl, hp, hb⟩; have HUS := Lib.hid (plays_used hp); have HEN5 := Lib.hid (plays_encode hp); have HB5 := Lib.hid (HB4.out.trans hb); clear hp hb)
            | (go_at_call 18; (with_reducible refine HUS.out.mono ?_); rintro e w6 ⟨rfl, rfl⟩)
            | (go_at_call 12; (with_reducible refine HEN5.out.mono ?_); rintro e w7 ⟨rfl, hp, hb⟩; have HRP := Lib.hid (plays_rput hp); have HB7 := Lib.hid (HB5.out.trans hb); clear hp hb)
            | (go_at_call 19; (with_reducible refine HRP.out.mono ?_); rintro e w8 ⟨rfl, hp, hb⟩; obtain ⟨d0, d1, d2⟩ := hp.cells; have HGT := Lib.hid (plays_get hp id); have HB8 := Lib.hid (HB7.out.trans hb); clear hp hb)
            | (go_at_call 20; (with_reducible refine HGT.out.mono ?_); rintro e w9 ⟨rfl, hp, hb⟩; have HP9 := Lib.hid hp; have HB9 := Lib.hid (HB8.out.trans hb); clear hp hb)
            | fail)
          obtain ⟨A5, c5, b5, he5, hs5⟩ := owns_seen HP9.out.row
          simp only [Value.slice.injEq, true_and] at he5
          obtain ⟨rfl, rfl⟩ := he5
          have HS5 := Lib.hid hs5; have HRIS := Lib.hid HP9.out.pg.ok.ris
          have hlen5 := HP9.out.pg.ok.len
          clear hs5 eU
          go_loopg [15, 16, 17] l2.length (fun g s15 s16 s17 wq => ∃ k : Nat, s17 = .int .i64 k ∧ k ≤ l2.length ∧ l2.length - k ≤ g ∧ s15 = .string ⟨(getS (l2.take k) id).toArray⟩ ∧ s16 = .bool (hasP (l2.take k) id) ∧ Hid (Below w9.heap.size w9 wq))
          case atStart => exact ⟨0, rfl, Nat.zero_le _, by omega, rfl, rfl, Below.refl _ _⟩
          case round =>
            obtain ⟨k, rfl, hk, hgk, rfl, rfl, HBQ⟩ := hrel
            obtain ⟨f0, f1, f2⟩ := (HP9.out.on HBQ.out).cells
            by_cases hkl : k < l2.length
            · obtain ⟨j0, j1⟩ := (HS5.out.row.below HBQ.out).at hkl
              have eA5 := HS5.out.at_ (by rintro rfl; simp at hkl)
              subst eA5
              obtain ⟨x5, hx5⟩ : ∃ x5, l2[k] = x5 := ⟨_, rfl⟩
              rw [hx5] at j0 j1
              have z5 : (k : Int) < (l2.length : Int) := by omega
              by_cases he5 : x5.1 = id
              · obtain ⟨g1, g2⟩ := getS_yes HRIS.out hkl hx5 he5
                have HG1 := Lib.hid g1; have HG2 := Lib.hid g2
                rw [he5] at j0
                clear g1 g2 hx5 he5
                go_wp2_with fail
                go_quiet (fail)
                go_wp2_with fail
                go_roundg (l2.length - (k + 1))
                case measure => omega
                case rel => exact ⟨k + 1, by go_num, by omega, Nat.le_refl _, by rw [HG1.out], by rw [HG2.out], below_nD HBQ.out _⟩
              · obtain ⟨g1, g2⟩ := getS_no hkl hx5 he5
                have HG1 := Lib.hid g1; have HG2 := Lib.hid g2
                have b5 : ((x5.1 : Int) == (id : Int)) = false := by simp; omega
                have b6 : ¬ (x5.1 : Int) = (id : Int) := by omega
                clear g1 g2 hx5 he5
                go_wp2_with fail
                go_quiet (fail)
                go_wp2_with fail
                go_roundg (l2.length - (k + 1))
                case measure => omega
                case rel => exact ⟨k + 1, by go_num, by omega, Nat.le_refl _, by rw [HG1.out], by rw [HG2.out], below_nD HBQ.out _⟩
            · obtain rfl : k = l2.length := by omega
              have eT : l2.take l2.length = l2 := List.take_length
              rw [eT]
              have HPE := Lib.hid (HP9.out.on HBQ.out)
              go_wp2_with fail
              go_roundg (40 - (i + 1))
              case measure => omega
              case rel => exact ⟨i + 1, _, _, A2, c2, l2, by go_num, rfl, rfl, by omega, Nat.le_refl _, HPE.out.toPS0, HB9.out.trans (HBQ.out.mono HB9.out.size)⟩
        · by_cases k4 : kd = 4
          · subst k4
            have HEN := Lib.hid (plays_encode HPA.out)
            go_upto_region 25 with (first
              | (go_at_call 12; (with_reducible refine HEN.out.mono ?_); rintro e w1 ⟨rfl, hp, hb⟩; have HDE := Lib.hid (plays_decode hp); have HB1 := Lib.hid (HBA.out.trans hb); clear hp hb)
              | (go_at_call 11; (with_reducible refine HDE.out.mono ?_); rintro e w2 ⟨P', v', rfl, hp, hb⟩; have HP2 := Lib.hid hp; have HB2 := Lib.hid (HB1.out.trans hb); clear hp hb)
              | fail)
            have eU := HP2.out.left
            have HAL := Lib.hid (plays_all HP2.out)
            go_wp2_with (first
              | (go_at_call 16; (with_reducible refine HAL.out.mono ?_); rintro e w3 ⟨A3, c3, b3, rfl, hs, hp, hb⟩; have HSA := Lib.hid (plays_same hp hs); have HB3 := Lib.hid (HB2.out.trans hb); clear hp hb hs)
              | (go_at_call 15; (with_reducible refine HSA.out.mono ?_); rintro e w4 ⟨rfl, hp, hb⟩; have HFR := Lib.hid (plays_free hp); have HB4 := Lib.hid (HB3.out.trans hb); clear hp hb)
              | (go_at_call 17; (with_reducible refine HFR.out.mono ?_); rintro e w5 ⟨rfl, hp, hb⟩; have HUS := Lib.hid (plays_used hp); have HEN5 := Lib.hid (plays_encode hp); have HB5 := Lib.hid (HB4.out.trans hb); clear hp hb)
              | (go_at_call 18; (with_reducible refine HUS.out.mono ?_); rintro e w6 ⟨rfl, rfl⟩)
              | (go_at_call 12; (with_reducible refine HEN5.out.mono ?_); rintro e w7 ⟨rfl, hp, hb⟩; have HRP := Lib.hid (plays_rput hp); have HB7 := Lib.hid (HB5.out.trans hb); clear hp hb)
              | (go_at_call 19; (with_reducible refine HRP.out.mono ?_); rintro e w8 ⟨rfl, hp, hb⟩; obtain ⟨d0, d1, d2⟩ := hp.cells; have HGT := Lib.hid (plays_get hp id); have HB8 := Lib.hid (HB7.out.trans hb); clear hp hb)
              | (go_at_call 20; (with_reducible refine HGT.out.mono ?_); rintro e w9 ⟨rfl, hp, hb⟩; have HP9 := Lib.hid hp; have HB9 := Lib.hid (HB8.out.trans hb); clear hp hb)
              | fail)
            obtain ⟨A5, c5, b5, he5, hs5⟩ := owns_seen HP9.out.row
            simp only [Value.slice.injEq, true_and] at he5
            obtain ⟨rfl, rfl⟩ := he5
            have HS5 := Lib.hid hs5; have HRIS := Lib.hid HP9.out.pg.ok.ris
            have hlen5 := HP9.out.pg.ok.len
            clear hs5 eU
            go_loopg [15, 16, 17] l.length (fun g s15 s16 s17 wq => ∃ k : Nat, s17 = .int .i64 k ∧ k ≤ l.length ∧ l.length - k ≤ g ∧ s15 = .string ⟨(getS (l.take k) id).toArray⟩ ∧ s16 = .bool (hasP (l.take k) id) ∧ Hid (Below w9.heap.size w9 wq))
            case atStart => exact ⟨0, rfl, Nat.zero_le _, by omega, rfl, rfl, Below.refl _ _⟩
            case round =>
              obtain ⟨k, rfl, hk, hgk, rfl, rfl, HBQ⟩ := hrel
              obtain ⟨f0, f1, f2⟩ := (HP9.out.on HBQ.out).cells
              by_cases hkl : k < l.length
              · obtain ⟨j0, j1⟩ := (HS5.out.row.below HBQ.out).at hkl
                have eA5 := HS5.out.at_ (by rintro rfl; simp at hkl)
                subst eA5
                obtain ⟨x5, hx5⟩ : ∃ x5, l[k] = x5 := ⟨_, rfl⟩
                rw [hx5] at j0 j1
                have z5 : (k : Int) < (l.length : Int) := by omega
                by_cases he5 : x5.1 = id
                · obtain ⟨g1, g2⟩ := getS_yes HRIS.out hkl hx5 he5
                  have HG1 := Lib.hid g1; have HG2 := Lib.hid g2
                  rw [he5] at j0
                  clear g1 g2 hx5 he5
                  go_wp2_with fail
                  go_quiet (fail)
                  go_wp2_with fail
                  go_roundg (l.length - (k + 1))
                  case measure => omega
                  case rel => exact ⟨k + 1, by go_num, by omega, Nat.le_refl _, by rw [HG1.out], by rw [HG2.out], below_nD HBQ.out _⟩
                · obtain ⟨g1, g2⟩ := getS_no hkl hx5 he5
                  have HG1 := Lib.hid g1; have HG2 := Lib.hid g2
                  have b5 : ((x5.1 : Int) == (id : Int)) = false := by simp; omega
                  have b6 : ¬ (x5.1 : Int) = (id : Int) := by omega
                  clear g1 g2 hx5 he5
                  go_wp2_with fail
                  go_quiet (fail)
                  go_wp2_with fail
                  go_roundg (l.length - (k + 1))
                  case measure => omega
                  case rel => exact ⟨k + 1, by go_num, by omega, Nat.le_refl _, by rw [HG1.out], by rw [HG2.out], below_nD HBQ.out _⟩
              · obtain rfl : k = l.length := by omega
                have eT : l.take l.length = l := List.take_length
                rw [eT]
                have HPE := Lib.hid (HP9.out.on HBQ.out)
                go_wp2_with fail
                go_roundg (40 - (i + 1))
                case measure => omega
                case rel => exact ⟨i + 1, _, _, A', c', l, by go_num, rfl, rfl, by omega, Nat.le_refl _, HPE.out.toPS0, HB9.out.trans (HBQ.out.mono HB9.out.size)⟩
          · have HWI := Lib.hid (plays_with HPA.out id t (by omega))
            have HPT : Hid (∀ wn v0 mv0 k0, PSt w.heap.size wn P v0 mv0 l k0 wr.heap.size (actO kd id t) → Calls Try.prog 14 #[.pointer (some ⟨P, 0, none⟩), .int .u64 id, .string ⟨t.toArray⟩] wn fun e w' => e = .returned (.bool (putR l id t).2) ∧ ∃ v', PSt w.heap.size w' P v' mv0 (putR l id t).1 k0 wr.heap.size (actO kd id t) ∧ Below w.heap.size wn w') := Lib.hid fun wn v0 mv0 k0 h => plays_put h id hid t (by omega)
            generalize putR l id t = res at HWI HPT
            obtain ⟨l2, ok⟩ := res
            simp only at HWI HPT
            cases ok
            all_goals
              go_upto_region 25 with (first
                | (go_at_call 13; (with_reducible refine HWI.out.mono ?_); rintro e w1 ⟨A2, c2, rfl, hp, hb⟩; obtain ⟨a0, a1, a2⟩ := hp.cells; have HP1 := Lib.hid hp; have HB1 := Lib.hid (HBA.out.trans hb); clear hp hb)
                | (go_at_call 14; (with_reducible refine (HPT.out _ _ _ _ HP1.out).mono ?_); rintro e w2 ⟨rfl, v', hp, hb⟩; have HP2 := Lib.hid hp; have HB2 := Lib.hid (HB1.out.trans hb); clear hp hb)
                | fail)
              have eU := HP2.out.left
              have HAL := Lib.hid (plays_all HP2.out)
              go_wp2_with (first
                | (go_at_call 16; (with_reducible refine HAL.out.mono ?_); rintro e w3 ⟨A3, c3, b3, rfl, hs, hp, hb⟩; have HSA := Lib.hid (plays_same hp hs); have HB3 := Lib.hid (HB2.out.trans hb); clear hp hb hs)
                | (go_at_call 15; (with_reducible refine HSA.out.mono ?_); rintro e w4 ⟨rfl, hp, hb⟩; have HFR := Lib.hid (plays_free hp); have HB4 := Lib.hid (HB3.out.trans hb); clear hp hb)
                | (go_at_call 17; (with_reducible refine HFR.out.mono ?_); rintro e w5 ⟨rfl, hp, hb⟩; have HUS := Lib.hid (plays_used hp); have HEN5 := Lib.hid (plays_encode hp); have HB5 := Lib.hid (HB4.out.trans hb); clear hp hb)
                | (go_at_call 18; (with_reducible refine HUS.out.mono ?_); rintro e w6 ⟨rfl, rfl⟩)
                | (go_at_call 12; (with_reducible refine HEN5.out.mono ?_); rintro e w7 ⟨rfl, hp, hb⟩; have HRP := Lib.hid (plays_rput hp); have HB7 := Lib.hid (HB5.out.trans hb); clear hp hb)
                | (go_at_call 19; (with_reducible refine HRP.out.mono ?_); rintro e w8 ⟨rfl, hp, hb⟩; obtain ⟨d0, d1, d2⟩ := hp.cells; have HGT := Lib.hid (plays_get hp id); have HB8 := Lib.hid (HB7.out.trans hb); clear hp hb)
                | (go_at_call 20; (with_reducible refine HGT.out.mono ?_); rintro e w9 ⟨rfl, hp, hb⟩; have HP9 := Lib.hid hp; have HB9 := Lib.hid (HB8.out.trans hb); clear hp hb)
                | fail)
              obtain ⟨A5, c5, b5, he5, hs5⟩ := owns_seen HP9.out.row
              simp only [Value.slice.injEq, true_and] at he5
              obtain ⟨rfl, rfl⟩ := he5
              have HS5 := Lib.hid hs5; have HRIS := Lib.hid HP9.out.pg.ok.ris
              have hlen5 := HP9.out.pg.ok.len
              clear hs5 eU
              go_loopg [15, 16, 17] l2.length (fun g s15 s16 s17 wq => ∃ k : Nat, s17 = .int .i64 k ∧ k ≤ l2.length ∧ l2.length - k ≤ g ∧ s15 = .string ⟨(getS (l2.take k) id).toArray⟩ ∧ s16 = .bool (hasP (l2.take k) id) ∧ Hid (Below w9.heap.size w9 wq))
              case atStart => exact ⟨0, rfl, Nat.zero_le _, by omega, rfl, rfl, Below.refl _ _⟩
              case round =>
                obtain ⟨k, rfl, hk, hgk, rfl, rfl, HBQ⟩ := hrel
                obtain ⟨f0, f1, f2⟩ := (HP9.out.on HBQ.out).cells
                by_cases hkl : k < l2.length
                · obtain ⟨j0, j1⟩ := (HS5.out.row.below HBQ.out).at hkl
                  have eA5 := HS5.out.at_ (by rintro rfl; simp at hkl)
                  subst eA5
                  obtain ⟨x5, hx5⟩ : ∃ x5, l2[k] = x5 := ⟨_, rfl⟩
                  rw [hx5] at j0 j1
                  have z5 : (k : Int) < (l2.length : Int) := by omega
                  by_cases he5 : x5.1 = id
                  · obtain ⟨g1, g2⟩ := getS_yes HRIS.out hkl hx5 he5
                    have HG1 := Lib.hid g1; have HG2 := Lib.hid g2
                    rw [he5] at j0
                    clear g1 g2 hx5 he5
                    go_wp2_with fail
                    go_quiet (fail)
                    go_wp2_with fail
                    go_roundg (l2.length - (k + 1))
                    case measure => omega
                    case rel => exact ⟨k + 1, by go_num, by omega, Nat.le_refl _, by rw [HG1.out], by rw [HG2.out], below_nD HBQ.out _⟩
                  · obtain ⟨g1, g2⟩ := getS_no hkl hx5 he5
                    have HG1 := Lib.hid g1; have HG2 := Lib.hid g2
                    have b5 : ((x5.1 : Int) == (id : Int)) = false := by simp; omega
                    have b6 : ¬ (x5.1 : Int) = (id : Int) := by omega
                    clear g1 g2 hx5 he5
                    go_wp2_with fail
                    go_quiet (fail)
                    go_wp2_with fail
                    go_roundg (l2.length - (k + 1))
                    case measure => omega
                    case rel => exact ⟨k + 1, by go_num, by omega, Nat.le_refl _, by rw [HG1.out], by rw [HG2.out], below_nD HBQ.out _⟩
                · obtain rfl : k = l2.length := by omega
                  have eT : l2.take l2.length = l2 := List.take_length
                  rw [eT]
                  have HPE := Lib.hid (HP9.out.on HBQ.out)
                  go_wp2_with fail
                  go_roundg (40 - (i + 1))
                  case measure => omega
                  case rel => exact ⟨i + 1, _, _, A2, c2, l2, by go_num, rfl, rfl, by omega, Nat.le_refl _, HPE.out.toPS0, HB9.out.trans (HBQ.out.mono HB9.out.size)⟩
    · have hx : ¬ i < L.length ∨ (40 < L.length ∧ i = 40) := by omega
      rcases hx with d1 | ⟨d1, rfl⟩
      all_goals
        go_wp2_with fail
        go_ret
        exact ⟨rfl, HB.out⟩

end Go.Proofs.Ytdfkahkomcfoeaa
