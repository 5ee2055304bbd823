/- LogPlays: the walk -/
import Derived.Test.YtadopnfnhgimgaaLPly
namespace Go.Proofs.Ytadopnfnhgimgaa
open Go.ChangeShapes Go.WideShapes Go.ChangeAt Go.RowKit

theorem i64_and31 (n : Int) : ∃ r : Nat, r ≤ 31 ∧ bits .and .i64 n 31 = r := by
  have h3 : (BitVec.ofInt 64 31).toNat = 2 ^ 5 - 1 := by decide
  have key : (BitVec.ofInt 64 n &&& BitVec.ofInt 64 31).toNat = (n % ((2 ^ 64 : Nat) : Int)).toNat % 2 ^ 5 := by
    rw [BitVec.toNat_and, BitVec.toNat_ofInt, h3, Nat.and_two_pow_sub_one_eq_mod]
  refine ⟨(n % ((2 ^ 64 : Nat) : Int)).toNat % 2 ^ 5, by omega, ?_⟩
  show IntKind.i64.wrap ((BitVec.ofInt 64 n &&& BitVec.ofInt 64 31).toNat : Nat) = _
  rw [key, IntKind.wrap_i64]
  omega

/-- the numbers of a round that added -/
theorem plays_nums (n at_ k : Nat) (hn : n ≤ 40) (h1 : 1 ≤ at_) (h2 : at_ ≤ n + 1) (hk : k ≤ n + 1 - at_) :
    wrap64 (1 + (n : Int)) = 1 + (n : Int) ∧ wrap64 (1 + (n : Int) - ((n + 1 - at_ : Nat) : Int)) = (at_ : Int) ∧ wrap64 ((at_ : Int) + (k : Int)) = ((at_ + k : Nat) : Int) ∧ wrap64 (((n + 1 - at_ : Nat) : Int) - (k : Int)) = ((n + 1 - (at_ + k) : Nat) : Int) :=
  ⟨w64 (by omega) (by omega), by rw [w64 (by omega) (by omega)]; omega, by rw [w64 (by omega) (by omega)]; omega, by rw [w64 (by omega) (by omega)]; omega⟩

/-- the numbers of a round, each by a name -/
theorem plays_nums2 (n : Nat) (nz left : Int) (at_ k nx : Nat) (hz : nz = n) (hl : left = ((n + 1 - at_ : Nat) : Int)) (hn : n ≤ 40) (h1 : 1 ≤ at_) (h2 : at_ ≤ n + 1) (hk : k ≤ n + 1 - at_) (hnx : nx ≤ 1000) :
    ∃ (x1 left2 : Int) (hiN : Nat), wrap64 (1 + nz) = x1 ∧ wrap64 (x1 - left) = (at_ : Int) ∧ wrap64 ((at_ : Int) + (k : Int)) = (hiN : Int) ∧ wrap64 (left - (k : Int)) = left2 ∧ left2 = ((n + 1 - (at_ + k) : Nat) : Int) ∧ hiN = at_ + k ∧
      decide ((k : Int) ≤ left) = true ∧ IntKind.u64.wrap ((nx : Int) + 1) = ((nx + 1 : Nat) : Int) :=
  ⟨1 + nz, left - (k : Int), at_ + k, w64 (by omega) (by omega), by rw [w64 (by omega) (by omega)]; omega, by rw [w64 (by omega) (by omega)]; omega, w64 (by omega) (by omega), by omega, rfl, by simp; omega, IntWalk.u64_in _ (by omega)⟩

theorem plays_meas (i : Nat) (h : i < 12) : 12 - ((i : Int) + 1).toNat < 12 - (i : Int).toNat := by omega

set_option maxRecDepth 100000 in
set_option maxHeartbeats 4000000 in
theorem lplays_walk (v : Value) (L : List Sec) (room reset : Int) (w : World) (hL : InT w v L) :
    Calls Try.prog 5 #[v, .int .i64 room, .int .i64 reset] w fun e w' => e = .returned (.bool true) ∧ Below w.heap.size w w' := by
  obtain ⟨r, hr, er⟩ := i64_and31 room
  obtain ⟨A, cap, rfl, hcap, -⟩ := hL.seen.form
  obtain ⟨n, hn⟩ : ∃ n, n = 2 + r := ⟨_, rfl⟩
  have e1 : wrap64 (2 + (r : Int)) = (n : Int) := by rw [w64 (by omega) (by omega)]; omega
  have e2 : wrap64 ((n : Int) + 2) = ((n + 2 : Nat) : Int) := by rw [w64 (by omega) (by omega)]; omega
  have e3 : wrap64 ((n : Int) + 1) = ((n + 1 : Nat) : Int) := by rw [w64 (by omega) (by omega)]; omega
  have hn40 : n ≤ 40 := by omega
  have HN40 := Lib.hid hn40
  have hN := nk_new (n := fun k => w.heap.size ≤ k) (a := w) w (n + 2) (by omega) (Only.refl _ _) (fun k hk => hk)
  have HL := Lib.hid hL
  have HAW := Lib.hid awake4
  obtain ⟨nz, hnz⟩ : ∃ x : Int, x = (n : Int) := ⟨_, rfl⟩
  rw [← hnz] at e1 e2 e3
  have HNZ := Lib.hid hnz
  have E3 := Lib.hid e3
  clear hr hn hL hcap hn40 hnz
  go_enter Try.func5, Try.ntmps5
  go_wp2_with fail
  refine hN.mono ?_
  rintro e w0 ⟨rfl, h⟩
  clear hN
  go_wp2_with fail
  have hn7 := HN40.out
  have hc := open_any h rfl 1 (n + 1) (by omega) (by rw [new_len]; omega) 7 (by decide) (by decide) h.below.size
  rw [open_new (by show n + 1 ≤ n + 2; omega)] at hc
  refine hc.mono ?_
  clear hc hn7; rintro e w1 ⟨v1, rfl, h1⟩
  generalize w0.heap.size = G at h1 ⊢
  have H1 := Lib.hid h1
  clear h h1
  go_wp2_with (first
    | (go_at_call 16; (with_reducible refine (HAW.out _).mono ?_); rintro e w2 ⟨rfl, hb2⟩; have h2 := (H1.out.on hb2).none; clear hb2)
    | fail)
  clear e1 e2 e3
  go_loopw [13, 14, 15, 16, 17] (fun sh sl sn sf si wr => ∃ (i : Nat) (acc : List Sec) (d : Dv) (g : Lg) (first : Nat) (left : Int), Hid (PlaysI n d g acc first i ∧ i ≤ 12) ∧ i ≤ L.length ∧ Hid (left = ((n + 1 - g.at_ : Nat) : Int)) ∧ sl = .int .i64 left ∧ sn = .int .u64 (g.next : Int) ∧ sf = .int .u64 (first : Int) ∧ si = .int .i64 (i : Int) ∧ Hid (LT (fun k => w.heap.size ≤ k) w wr G (w.heap.size + 2) w.heap.size (w.heap.size + 1) d g sh acc)) (fun _ _ _ _ si _ => 12 - (intOf si).toNat)
  case atStart => exact ⟨0, [], newD (n + 2), ⟨1, n + 1, 1, 7⟩, 7, nz, Lib.hid ⟨plays_start n, by decide⟩, Nat.zero_le _, Lib.hid (by rw [HNZ.out]; rfl), rfl, rfl, rfl, rfl, Lib.hid h2⟩
  case round =>
    obtain ⟨i, acc, d, g, first, left, HP, hiL, HLF, rfl, rfl, rfl, rfl, HT⟩ := hrel
    clear h2
    by_cases hgo : i < L.length ∧ i < 12
    · obtain ⟨hg1, hg2⟩ := hgo
      have z1 : (i : Int) < (L.length : Int) := by omega
      obtain ⟨A', cap', eA0, -, hx⟩ := HL.out.seen.form
      obtain ⟨b, o, eA, c0⟩ := hx i L[i] (List.getElem?_eq_getElem hg1)
      cases eA0
      subst eA
      clear hx
      have C0 := Lib.hid c0
      clear c0
      have hs5 : (L[i].take 500).length ≤ 500 := by rw [List.length_take]; omega
      have HFW := Lib.hid (fun W => few_any L[i] W)
      generalize L[i] = s0 at C0 HFW hs5
      generalize s0.take 500 = s at HFW hs5
      have hl := fun W => len_str s 3 W
      have HRS := Lib.hid (fun W => refsect_any s.length (by omega) W)
      have HSE := Lib.hid (fun W => sect_any s.length (by omega) W)
      have HS5 := Lib.hid hs5
      have hinc : wrap64 ((i : Int) + 1) = (i : Int) + 1 := w64 (by omega) (by omega)
      have HINC := Lib.hid hinc
      have HM := Lib.hid (plays_meas i hg2)
      clear hs5 hinc
      by_cases hre : (i : Int) = reset
      · have b0 : ((i : Int) == reset) = true := by simp [hre]
        have HPR : Hid (PlaysI n d { g with at_ := g.from_ } [] g.next i ∧ i ≤ 12) := Lib.hid ⟨plays_reset HP.out.1, HP.out.2⟩
        have hfr : g.from_ ≤ g.to_ := by rw [HP.out.1.from_, HP.out.1.to_]; omega
        have HRE := Lib.hid (fun wn v (hb : LT (fun k => w.heap.size ≤ k) w wn G (w.heap.size + 2) w.heap.size (w.heap.size + 1) d g v acc) => lt_reset hb hfr)
        have HLF1 : Hid (nz = ((n + 1 - ({ g with at_ := g.from_ } : Lg).at_ : Nat) : Int)) := Lib.hid (by show nz = ((n + 1 - g.from_ : Nat) : Int); rw [HP.out.1.from_, HNZ.out]; rfl)
        have hnx1 : ({ g with at_ := g.from_ } : Lg).next = g.next := rfl
        have hT := HT.out
        generalize ({ g with at_ := g.from_ } : Lg) = g1 at HPR HRE HLF1 hnx1
        clear hre hfr
        go_upto_region 13 with (first
          | (go_at_call 17; (with_reducible refine (HRE.out _ _ hT).mono ?_); rintro e w3 ⟨rfl, hl3⟩; have hl4 := hl3.none)
          | fail)
        have HT1 := Lib.hid hl4
        have HQ1 := HPR
        clear hT hl3 hl4 b0 HPR
        rw [← hnx1] at HQ1
        (try rw [← hnx1])
        clear hnx1
        have c0 := ((HT1.out.ld.now.below.below (Nat.le_refl _) (fun k hk => hk)).cell (p := ⟨b, o + i, none⟩) (World.cell_lt C0.out)).trans C0.out
        by_cases hfit : sectN s.length ≤ n + 1 - g1.at_
        · obtain ⟨d2, g2, eadd, HP2, en2, ea2, er2⟩ := plays_add HQ1.out.1 (by omega) HS5.out hfit
          have hnums := plays_nums2 n nz nz g1.at_ (sectN s.length) g1.next HNZ.out HLF1.out HN40.out HQ1.out.1.at1 HQ1.out.1.ate hfit (by have := HQ1.out.1.nx; omega)
          have HP3 : Hid (PlaysI n d2 g2 (([] : List Sec) ++ [s]) g1.next (i + 1) ∧ i + 1 ≤ 12) := Lib.hid ⟨HP2, hg2⟩
          have HAD := Lib.hid (fun wn v (hb : LT (fun k => w.heap.size ≤ k) w wn G (w.heap.size + 2) w.heap.size (w.heap.size + 1) d g1 v ([] : List Sec)) => lt_add hb s (by have := HS5.out; omega))
          rw [eadd] at HAD
          have HLA := Lib.hid (fun wn => laid_any g1.next (by have := HQ1.out.1.nx; omega) s (by have := HS5.out; omega) wn)
          obtain ⟨x1, left2, hiN, n1, n2, n3, n4, n5, n6, n7, n8⟩ := hnums
          have HSC := Lib.hid (fun wn v (hb : LT (fun k => w.heap.size ≤ k) w wn G (w.heap.size + 2) w.heap.size (w.heap.size + 1) d2 g2 v ([] : List Sec)) => sectors_any hb.ld.now g1.at_ hiN (by omega) (by have := HN40.out; have := HQ1.out.1.ate; omega))
          have esc : hiN - g1.at_ = sectN s.length := by omega
          rw [esc, er2] at HSC
          have HLL : Hid ((laidL g1.next s).length ≤ 65536) := Lib.hid (by unfold laidL; rw [List.length_map, List.length_range]; have := HN40.out; omega)
          have HAP := Lib.hid (fun wn v (hb : LT (fun k => w.heap.size ≤ k) w wn G (w.heap.size + 2) w.heap.size (w.heap.size + 1) d2 g2 v ([] : List Sec)) => lt_append hb s (by have h1 := HQ1.out.1.next; have h2 := HQ1.out.1.nx; omega) 27)
          have HNX := Lib.hid (fun wn v (hb : LT (fun k => w.heap.size ≤ k) w wn G (w.heap.size + 2) w.heap.size (w.heap.size + 1) d2 g2 v (([] : List Sec) ++ [s])) => lt_next hb)
          have hrm := (fun wn v (hb : LT (fun k => w.heap.size ≤ k) w wn G (w.heap.size + 2) w.heap.size (w.heap.size + 1) d2 g2 v (([] : List Sec) ++ [s])) => lt_room hb)
          have erm : ((g2.to_ - g2.at_ : Nat) : Int) = left2 := by rw [HP2.to_, ea2, n5]
          rw [erm] at hrm
          have HRM := Lib.hid hrm
          have HL2 : Hid (left2 = ((n + 1 - g2.at_ : Nat) : Int)) := Lib.hid (by rw [ea2]; exact n5)
          have hT1 := HT1.out
          rw [← en2] at n8
          clear eadd HP2 en2 ea2 er2 n5 n6 esc erm hrm hfit
          generalize sectN s.length = k at HRS HSE n3 n4 n7
          generalize laidL g1.next s = ll at HLA HSC HLL
          go_wp2_with (first
            | (go_at_call 18; (with_reducible refine (HFW.out _).mono ?_); rintro e w5 ⟨rfl, rfl⟩)
            | (go_at_call 19; (with_reducible refine (HRS.out _).mono ?_); rintro e w5 ⟨rfl, rfl⟩)
            | (go_at_call 21; (with_reducible refine (HSE.out _).mono ?_); rintro e w5 ⟨rfl, rfl⟩)
            | (go_at_call 20; (with_reducible refine (HAD.out _ _ hT1).mono ?_); rintro e w6 ⟨rfl, hl6⟩)
            | (go_at_call 22; (with_reducible refine (HLA.out _).mono ?_); rintro e w7 ⟨v7, rfl, hl7⟩; have hl7' := hl6.on hl7.below)
            | (go_at_call 24; (with_reducible refine (HSC.out _ _ hl7').mono ?_); rintro e w8 ⟨v8, rfl, hl8⟩; have hl8' := hl7'.on hl8.below; have hsm := sameT_any ll ll v8 v7 w8 hl8.texts.seen (hl7.on hl8.below).texts.seen HLL.out; rw [decide_eq_true rfl] at hsm)
            | (go_at_call 23; (with_reducible refine hsm.mono ?_); rintro e w9 ⟨rfl, hb9⟩; obtain ⟨v10, w10, hr10, hl10⟩ := HAP.out _ _ (hl8'.on hb9))
            | (at_builtin; refine Lib.wpList_append_run _ rfl _ _ _ _ rfl _ _ rfl rfl _ _ hr10 ?_)
            | (go_at_call 25; (with_reducible refine (HNX.out _ _ hl10).mono ?_); rintro e w11 ⟨rfl, hl11⟩)
            | (go_at_call 26; (with_reducible refine (HRM.out _ _ hl11).mono ?_); rintro e w12 ⟨rfl, hl12⟩)
            | fail)
          have hinc := HINC.out
          go_roundw
          case rel => exact ⟨i + 1, ([] : List Sec) ++ [s], d2, g2, g1.next, left2, HP3, hg1, HL2, rfl, rfl, rfl, rfl, Lib.hid hl12⟩
          case measure =>
            (try rw [hinc])
            exact HM.out
        · have eadd := plays_full HQ1.out.1 hfit
          have HP3 : Hid (PlaysI n d g1 ([] : List Sec) g1.next (i + 1) ∧ i + 1 ≤ 12) := Lib.hid ⟨plays_more HQ1.out.1, hg2⟩
          have HAD := Lib.hid (fun wn v (hb : LT (fun k => w.heap.size ≤ k) w wn G (w.heap.size + 2) w.heap.size (w.heap.size + 1) d g1 v ([] : List Sec)) => lt_add hb s (by have := HS5.out; omega))
          rw [eadd] at HAD
          have HNX := Lib.hid (fun wn v (hb : LT (fun k => w.heap.size ≤ k) w wn G (w.heap.size + 2) w.heap.size (w.heap.size + 1) d g1 v ([] : List Sec)) => lt_next hb)
          have hrm := (fun wn v (hb : LT (fun k => w.heap.size ≤ k) w wn G (w.heap.size + 2) w.heap.size (w.heap.size + 1) d g1 v ([] : List Sec)) => lt_room hb)
          have erm : ((g1.to_ - g1.at_ : Nat) : Int) = nz := by rw [HQ1.out.1.to_, HLF1.out]
          rw [erm] at hrm
          have HRM := Lib.hid hrm
          have n7 : decide (((sectN s.length : Nat) : Int) ≤ nz) = false := by rw [HLF1.out]; simp; omega
          have hT1 := HT1.out
          clear eadd erm hrm hfit
          generalize sectN s.length = k at HRS HSE n7
          go_wp2_with (first
            | (go_at_call 18; (with_reducible refine (HFW.out _).mono ?_); rintro e w5 ⟨rfl, rfl⟩)
            | (go_at_call 19; (with_reducible refine (HRS.out _).mono ?_); rintro e w5 ⟨rfl, rfl⟩)
            | (go_at_call 21; (with_reducible refine (HSE.out _).mono ?_); rintro e w5 ⟨rfl, rfl⟩)
            | (go_at_call 20; (with_reducible refine (HAD.out _ _ hT1).mono ?_); rintro e w6 ⟨rfl, hl6⟩)
            | (go_at_call 25; (with_reducible refine (HNX.out _ _ hl6).mono ?_); rintro e w11 ⟨rfl, hl11⟩)
            | (go_at_call 26; (with_reducible refine (HRM.out _ _ hl11).mono ?_); rintro e w12 ⟨rfl, hl12⟩)
            | fail)
          have hinc := HINC.out
          go_roundw
          case rel => exact ⟨i + 1, ([] : List Sec), d, g1, g1.next, nz, HP3, hg1, HLF1, rfl, rfl, rfl, rfl, Lib.hid hl12⟩
          case measure =>
            (try rw [hinc])
            exact HM.out

      · have b0 : ((i : Int) == reset) = false := by simp [hre]
        have HT1 := HT
        have HQ1 := HP
        clear hre
        go_upto_region 13 with fail
        clear b0
        have c0 := ((HT1.out.ld.now.below.below (Nat.le_refl _) (fun k hk => hk)).cell (p := ⟨b, o + i, none⟩) (World.cell_lt C0.out)).trans C0.out
        by_cases hfit : sectN s.length ≤ n + 1 - g.at_
        · obtain ⟨d2, g2, eadd, HP2, en2, ea2, er2⟩ := plays_add HQ1.out.1 (by omega) HS5.out hfit
          have hnums := plays_nums2 n nz left g.at_ (sectN s.length) g.next HNZ.out HLF.out HN40.out HQ1.out.1.at1 HQ1.out.1.ate hfit (by have := HQ1.out.1.nx; omega)
          have HP3 : Hid (PlaysI n d2 g2 (acc ++ [s]) first (i + 1) ∧ i + 1 ≤ 12) := Lib.hid ⟨HP2, hg2⟩
          have HAD := Lib.hid (fun wn v (hb : LT (fun k => w.heap.size ≤ k) w wn G (w.heap.size + 2) w.heap.size (w.heap.size + 1) d g v acc) => lt_add hb s (by have := HS5.out; omega))
          rw [eadd] at HAD
          have HLA := Lib.hid (fun wn => laid_any g.next (by have := HQ1.out.1.nx; omega) s (by have := HS5.out; omega) wn)
          obtain ⟨x1, left2, hiN, n1, n2, n3, n4, n5, n6, n7, n8⟩ := hnums
          have HSC := Lib.hid (fun wn v (hb : LT (fun k => w.heap.size ≤ k) w wn G (w.heap.size + 2) w.heap.size (w.heap.size + 1) d2 g2 v acc) => sectors_any hb.ld.now g.at_ hiN (by omega) (by have := HN40.out; have := HQ1.out.1.ate; omega))
          have esc : hiN - g.at_ = sectN s.length := by omega
          rw [esc, er2] at HSC
          have HLL : Hid ((laidL g.next s).length ≤ 65536) := Lib.hid (by unfold laidL; rw [List.length_map, List.length_range]; have := HN40.out; omega)
          have HAP := Lib.hid (fun wn v (hb : LT (fun k => w.heap.size ≤ k) w wn G (w.heap.size + 2) w.heap.size (w.heap.size + 1) d2 g2 v acc) => lt_append hb s (by have h1 := HQ1.out.1.next; have h2 := HQ1.out.1.nx; omega) 27)
          have HNX := Lib.hid (fun wn v (hb : LT (fun k => w.heap.size ≤ k) w wn G (w.heap.size + 2) w.heap.size (w.heap.size + 1) d2 g2 v (acc ++ [s])) => lt_next hb)
          have hrm := (fun wn v (hb : LT (fun k => w.heap.size ≤ k) w wn G (w.heap.size + 2) w.heap.size (w.heap.size + 1) d2 g2 v (acc ++ [s])) => lt_room hb)
          have erm : ((g2.to_ - g2.at_ : Nat) : Int) = left2 := by rw [HP2.to_, ea2, n5]
          rw [erm] at hrm
          have HRM := Lib.hid hrm
          have HL2 : Hid (left2 = ((n + 1 - g2.at_ : Nat) : Int)) := Lib.hid (by rw [ea2]; exact n5)
          have hT1 := HT1.out
          rw [← en2] at n8
          clear eadd HP2 en2 ea2 er2 n5 n6 esc erm hrm hfit
          generalize sectN s.length = k at HRS HSE n3 n4 n7
          generalize laidL g.next s = ll at HLA HSC HLL
          go_wp2_with (first
            | (go_at_call 18; (with_reducible refine (HFW.out _).mono ?_); rintro e w5 ⟨rfl, rfl⟩)
            | (go_at_call 19; (with_reducible refine (HRS.out _).mono ?_); rintro e w5 ⟨rfl, rfl⟩)
            | (go_at_call 21; (with_reducible refine (HSE.out _).mono ?_); rintro e w5 ⟨rfl, rfl⟩)
            | (go_at_call 20; (with_reducible refine (HAD.out _ _ hT1).mono ?_); rintro e w6 ⟨rfl, hl6⟩)
            | (go_at_call 22; (with_reducible refine (HLA.out _).mono ?_); rintro e w7 ⟨v7, rfl, hl7⟩; have hl7' := hl6.on hl7.below)
            | (go_at_call 24; (with_reducible refine (HSC.out _ _ hl7').mono ?_); rintro e w8 ⟨v8, rfl, hl8⟩; have hl8' := hl7'.on hl8.below; have hsm := sameT_any ll ll v8 v7 w8 hl8.texts.seen (hl7.on hl8.below).texts.seen HLL.out; rw [decide_eq_true rfl] at hsm)
            | (go_at_call 23; (with_reducible refine hsm.mono ?_); rintro e w9 ⟨rfl, hb9⟩; obtain ⟨v10, w10, hr10, hl10⟩ := HAP.out _ _ (hl8'.on hb9))
            | (at_builtin; refine Lib.wpList_append_run _ rfl _ _ _ _ rfl _ _ rfl rfl _ _ hr10 ?_)
            | (go_at_call 25; (with_reducible refine (HNX.out _ _ hl10).mono ?_); rintro e w11 ⟨rfl, hl11⟩)
            | (go_at_call 26; (with_reducible refine (HRM.out _ _ hl11).mono ?_); rintro e w12 ⟨rfl, hl12⟩)
            | fail)
          have hinc := HINC.out
          go_roundw
          case rel => exact ⟨i + 1, acc ++ [s], d2, g2, first, left2, HP3, hg1, HL2, rfl, rfl, rfl, rfl, Lib.hid hl12⟩
          case measure =>
            (try rw [hinc])
            exact HM.out
        · have eadd := plays_full HQ1.out.1 hfit
          have HP3 : Hid (PlaysI n d g acc first (i + 1) ∧ i + 1 ≤ 12) := Lib.hid ⟨plays_more HQ1.out.1, hg2⟩
          have HAD := Lib.hid (fun wn v (hb : LT (fun k => w.heap.size ≤ k) w wn G (w.heap.size + 2) w.heap.size (w.heap.size + 1) d g v acc) => lt_add hb s (by have := HS5.out; omega))
          rw [eadd] at HAD
          have HNX := Lib.hid (fun wn v (hb : LT (fun k => w.heap.size ≤ k) w wn G (w.heap.size + 2) w.heap.size (w.heap.size + 1) d g v acc) => lt_next hb)
          have hrm := (fun wn v (hb : LT (fun k => w.heap.size ≤ k) w wn G (w.heap.size + 2) w.heap.size (w.heap.size + 1) d g v acc) => lt_room hb)
          have erm : ((g.to_ - g.at_ : Nat) : Int) = left := by rw [HQ1.out.1.to_, HLF.out]
          rw [erm] at hrm
          have HRM := Lib.hid hrm
          have n7 : decide (((sectN s.length : Nat) : Int) ≤ left) = false := by rw [HLF.out]; simp; omega
          have hT1 := HT1.out
          clear eadd erm hrm hfit
          generalize sectN s.length = k at HRS HSE n7
          go_wp2_with (first
            | (go_at_call 18; (with_reducible refine (HFW.out _).mono ?_); rintro e w5 ⟨rfl, rfl⟩)
            | (go_at_call 19; (with_reducible refine (HRS.out _).mono ?_); rintro e w5 ⟨rfl, rfl⟩)
            | (go_at_call 21; (with_reducible refine (HSE.out _).mono ?_); rintro e w5 ⟨rfl, rfl⟩)
            | (go_at_call 20; (with_reducible refine (HAD.out _ _ hT1).mono ?_); rintro e w6 ⟨rfl, hl6⟩)
            | (go_at_call 25; (with_reducible refine (HNX.out _ _ hl6).mono ?_); rintro e w11 ⟨rfl, hl11⟩)
            | (go_at_call 26; (with_reducible refine (HRM.out _ _ hl11).mono ?_); rintro e w12 ⟨rfl, hl12⟩)
            | fail)
          have hinc := HINC.out
          go_roundw
          case rel => exact ⟨i + 1, acc, d, g, first, left, HP3, hg1, HLF, rfl, rfl, rfl, rfl, Lib.hid hl12⟩
          case measure =>
            (try rw [hinc])
            exact HM.out

    · have hend : ¬ i < L.length ∨ (i < L.length ∧ i = 12) := by have := HP.out.2; omega
      obtain ⟨A3, c3, e13, -, -⟩ := HT.out.texts.form
      have hT := HT.out
      have hnow := hT.ld.now
      have hfin := hnow.below
      have HSELF : Hid (NowK (fun k => k = w.heap.size + 2 ∨ k = w.heap.size ∨ k = w.heap.size + 1 ∨ wr.heap.size ≤ k) wr wr (w.heap.size + 2) w.heap.size (w.heap.size + 1) d) :=
        Lib.hid ⟨hnow.dev, Only.refl _ _, .inl rfl, .inr (.inl rfl), .inr (.inr (.inl rfl))⟩
      have hsz := hfin.size
      have hbG := hT.bG; have hsG := hT.sG; have hmG := hT.mG
      have hGl := LogAt.lt hT.ld.log
      subst e13
      by_cases hnone : first ≠ 7 ∧ acc = []
      · obtain ⟨hf7, rfl⟩ := hnone
        have b1 : ((first : Int) != 7) = true := by simp; omega
        have HBL : Hid (Below w.heap.size w wr) := Lib.hid (hfin.below (Nat.le_refl _) (fun k hk => hk))
        clear hf7 hT hnow hfin hsz hbG hsG hmG hGl hgo hiL
        rcases hend with c1 | ⟨c1, rfl⟩
        all_goals
          go_wp2_with fail
          go_ret
          exact ⟨rfl, HBL.out⟩
      · have hsome : acc ≠ [] ∨ first = 7 := by
          by_cases h7 : first = 7
          · exact .inr h7
          · exact .inl fun h => hnone ⟨h7, h⟩
        have b12 : ((first : Int) != 7) = false ∨ (((first : Int) != 7) = true ∧ ((acc.length : Int) == 0) = false) := by
          by_cases h7 : first = 7
          · left; rw [h7]; rfl
          · right
            refine ⟨by simp; omega, ?_⟩
            rw [beq_eq_false_iff_ne]
            intro h0
            have h0' : acc.length = 0 := by omega
            exact hnone ⟨h7, List.length_eq_zero_iff.1 h0'⟩
        have hO := plays_open HP.out.1 HP.out.2 hsome
        have hop := open_any HSELF.out HP.out.1.calm.2 1 (n + 1) (by omega) (by rw [HP.out.1.len]; omega) first (by have := HP.out.1.f7; omega) (by have h1 := HP.out.1.next; have h2 := HP.out.1.nx; have h3 := HP.out.2; omega) (.inr (.inr (.inr (Nat.le_refl _))))
        rw [hO] at hop
        have HOP := Lib.hid hop
        have HTX := Lib.hid (fun wn (ho : Only (fun k => k = w.heap.size + 2 ∨ k = w.heap.size ∨ k = w.heap.size + 1 ∨ wr.heap.size ≤ k) wr wn) => hT.texts.only ho (by
          rintro k (rfl | rfl | rfl | h) <;> omega))
        have HBL : Hid (∀ wn, Only (fun k => k = w.heap.size + 2 ∨ k = w.heap.size ∨ k = w.heap.size + 1 ∨ wr.heap.size ≤ k) wr wn → Below w.heap.size w wn) := Lib.hid fun wn ho =>
          (hfin.below (Nat.le_refl _) (fun k hk => hk)).trans (ho.below hsz (by rintro k (rfl | rfl | rfl | h) <;> omega))
        have hle : acc.length ≤ 65536 := by have h1 := HP.out.1.next; have h2 := HP.out.1.nx; have h3 := HP.out.2; omega
        have HSM := Lib.hid (fun wn v v' (h1 : SeenT wn v acc) (h2 : SeenT wn v' acc) => sameT_any acc acc v v' wn h1 h2 hle)
        have erm : ((g.to_ - g.at_ : Nat) : Int) = left := by rw [HP.out.1.to_, HLF.out]
        have hrm := (fun wn v (hb : LT (fun k => k = w.heap.size + 2 ∨ k = w.heap.size ∨ k = w.heap.size + 1 ∨ wr.heap.size ≤ k) wr wn wr.heap.size (w.heap.size + 2) w.heap.size (w.heap.size + 1) d g v acc) => lt_room hb)
        rw [erm] at hrm
        have HRM := Lib.hid hrm
        have HNX := Lib.hid (fun wn v (hb : LT (fun k => k = w.heap.size + 2 ∨ k = w.heap.size ∨ k = w.heap.size + 1 ∨ wr.heap.size ≤ k) wr wn wr.heap.size (w.heap.size + 2) w.heap.size (w.heap.size + 1) d g v acc) => lt_next hb)
        clear hT hnow hfin hsz hbG hsG hmG hGl hgo hiL hnone hsome hO hop hle erm hrm
        have e3 := E3.out
        rcases hend with c1 | ⟨c1, rfl⟩
        all_goals
          rcases b12 with b1 | ⟨b1, b2⟩
          all_goals
            go_wp2_with (first
              | (go_at_call 15; refine HOP.out.mono ?_; rintro e w5 ⟨v5, rfl, hl5⟩; have hs5 := HSM.out w5 v5 _ hl5.texts.seen (HTX.out _ hl5.ld.now.below).seen; rw [decide_eq_true rfl] at hs5)
              | (go_at_call 23; (with_reducible refine hs5.mono ?_); rintro e w6 ⟨rfl, hb6⟩; have hl6 := hl5.on hb6)
              | (go_at_call 25; (with_reducible refine (HNX.out _ _ hl6).mono ?_); rintro e w11 ⟨rfl, hl11⟩)
              | (go_at_call 26; (with_reducible refine (HRM.out _ _ hl11).mono ?_); rintro e w12 ⟨rfl, hl12⟩)
              | fail)
            go_ret
            exact ⟨rfl, HBL.out _ hl12.ld.now.below⟩

end Go.Proofs.Ytadopnfnhgimgaa
