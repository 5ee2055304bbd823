/- layer 9: TxLater -/
import Derived.Test.YtkhhmmblkfogcaaTxI
namespace Go.Proofs.Ytkhhmmblkfogcaa
open Go.ChangeShapes Go.WideShapes Go.ChangeAt Go.RowKit Go.Deep

theorem doL_mem {Q : Nat → ByteArray → Prop} : ∀ (cs : List (Nat × Ch)) {l : List (Nat × ByteArray)}, RisU l → (∀ p ∈ l, Q p.1 p.2) → (∀ c ∈ cs, Q c.1 c.2.s) → ∀ p ∈ doL l cs, Q p.1 p.2
  | [], _, _, h, _ => h
  | c :: t, l, hr, h, hc => doL_mem t (doOne_ris hr c) (fun p hp => by
      rw [doOne_eq hr] at hp
      split at hp
      · exact h p (List.mem_filter.1 hp).1
      · rcases mem_putU hp with rfl | hp
        · exact hc c (by simp)
        · exact h p hp) (fun c hc' => hc c (List.mem_cons_of_mem _ hc'))

theorem base_facts {w : World} {A : Option Addr} {cs : List (Nat × Ch)} (hc : IsChs w A cs) : RisU (baseL cs) ∧ (baseL cs).length ≤ 12 ∧ ∀ p ∈ baseL cs, p.2.size ≤ 281474976710656 := by
  refine ⟨doL_ris _ List.Pairwise.nil, ?_, ?_⟩
  · have h1 := doL_len ((cs.take 12).filter keepB) (l := []) List.Pairwise.nil
    have h2 := List.length_filter_le keepB (cs.take 12)
    have h3 := List.length_take_le 12 cs
    unfold baseL
    simp at h1; omega
  · exact doL_mem (Q := fun _ s => s.size ≤ 281474976710656) _ List.Pairwise.nil (by simp) (fun c h => (hc.2.1 c (List.mem_of_mem_take (List.mem_filter.1 h).1)).2)

theorem and7 (n : Nat) (hn : n < 18446744073709551616) : bits .and .u64 (n : Int) 7 = ((n % 8 : Nat) : Int) := by
  have := u64_and_nat n 7 hn (by decide)
  have e : n &&& 7 = n % 8 := Nat.and_two_pow_sub_one_eq_mod n 3
  rw [e] at this
  exact this

/-- Apply, as the law calls it -/
theorem app_at {n : Nat} {w : World} {T : Nat} {M : Option Nat} {b : Value} {f : Nat → Option ByteArray} {l : List (Nat × Ch)} (h : IsTx w T M b l) (hb : IsBase w b f) (hn : n ≤ w.heap.size) (hT : n ≤ T) (hM : ∀ m, M = some m → n ≤ m) (hl : l.length < 1000) {a : Nat} {s : ByteArray} {gn : Bool} (hok : ChOk a ⟨s, gn⟩) :
    Calls Try.prog 14 #[.pointer (some ⟨T, 0, none⟩), .slice (some ⟨w.heap.size + 1, 0, none⟩) 1 1] ((w.alloc (.cells #[.int .u64 (a : Int), .string s, .bool gn] 38)).alloc (.cells #[.int .u64 (a : Int), .string s, .bool gn] 38)) fun e w' => e = .returned (.tuple #[]) ∧ AppPost n T b f (appT f l a ⟨s, gn⟩) w w' := by
  have hb1 : Below w.heap.size w ((w.alloc (.cells #[.int .u64 (a : Int), .string s, .bool gn] 38)).alloc (.cells #[.int .u64 (a : Int), .string s, .bool gn] 38)) := ((Below.refl _ w).alloc (Nat.le_refl _) _).alloc (by simp) _
  refine (apply_one (n := n) (h.on hb1) (hb.on hb1) (Nat.le_trans hn hb1.size) hT hM hl (c := 1) (g := w.heap.size + 1) ?_ hok).mono ?_
  · have := heap_alloc_last (w.alloc (.cells #[.int .u64 (a : Int), .string s, .bool gn] 38)) (.cells #[.int .u64 (a : Int), .string s, .bool gn] 38)
    simpa using this
  · rintro e w' ⟨rfl, M', k1, k2, k3, k4⟩
    exact ⟨rfl, M', k1, k2, (hb1.mono hn).trans k3, k4⟩

/-- the transaction over the records behind the changes -/
theorem later_new {w : World} {A : Option Addr} {n c : Nat} {L : List (Nat × ByteArray)} (h : IsRecs w (.slice A n c) L) (hok : ∀ p ∈ L, p.2.size ≤ 281474976710656) :
    Calls Try.prog 7 #[.func (.func 23) #[] #[.pointer (some ⟨w.heap.size, 0, none⟩)]] (w.alloc (.cells #[.slice A n c] 34)) fun e w' => e = .returned (.pointer (some ⟨w.heap.size + 1, 0, none⟩)) ∧ IsTx w' (w.heap.size + 1) none (.func (.func 23) #[] #[.pointer (some ⟨w.heap.size, 0, none⟩)]) [] ∧ IsBase w' (.func (.func 23) #[] #[.pointer (some ⟨w.heap.size, 0, none⟩)]) (findR L) ∧ Below w.heap.size w w' := by
  have hbx : Below w.heap.size w (w.alloc (.cells #[.slice A n c] 34)) := (Below.refl _ w).alloc (Nat.le_refl _) _
  have hbs : IsBase (w.alloc (.cells #[.slice A n c] 34)) (.func (.func 23) #[] #[.pointer (some ⟨w.heap.size, 0, none⟩)]) (findR L) := .inr ⟨_, _, L, rfl, heap_alloc_last w _, h.on hbx, rfl, hok⟩
  refine (new_any _ (.inr ⟨_, _, _, rfl⟩) _).mono ?_
  rintro e w' ⟨rfl, k1, k2⟩
  rw [World.size_alloc] at k1
  exact ⟨by rw [World.size_alloc], k1, hbs.on k2, hbx.trans (k2.mono hbx.size)⟩

theorem tx_few {w : World} {T : Nat} {M : Option Nat} {b : Value} {l : List (Nat × Ch)} (h : IsTx w T M b l) (h8 : ∀ p ∈ l, p.1 < 8) : l.length ≤ 8 := by
  have := few_keys h.ris h8 0 (fun _ _ => Nat.zero_le _)
  simpa using this

set_option maxRecDepth 100000 in
set_option maxHeartbeats 2000000 in
theorem txlater_walk {w : World} {A0 : Option Addr} {cap0 : Nat} {cs0 : List (Nat × Ch)} (h0 : IsChs w A0 cs0) {A1 : Option Addr} {cap1 : Nat} {cs1 : List (Nat × Ch)} (h1 : IsChs w A1 cs1) :
    Calls Try.prog 4 #[.slice A0 cs0.length cap0, .slice A1 cs1.length cap1] w fun e w' => e = .returned (.bool true) ∧ Below w.heap.size w w' := by
  obtain ⟨hR1, hR2, hR3⟩ := base_facts h0
  have HBA := Lib.hid (base_any (cap := cap0) h0 rfl)
  obtain ⟨R, hR⟩ : ∃ R, baseL cs0 = R := ⟨_, rfl⟩
  rw [hR] at HBA hR1 hR2 hR3
  have HR1 := Lib.hid hR1; have HR2 := Lib.hid hR2; have HR3 := Lib.hid hR3
  obtain ⟨m, hm⟩ : ∃ m, cs1.length = m := ⟨_, rfl⟩
  have hm63 : m ≤ 9223372036854775807 := hm ▸ h1.1
  rw [hm]
  have HM := Lib.hid hm
  have H1 := Lib.hid h1
  obtain ⟨m0, hm0⟩ : ∃ m0, cs0.length = m0 := ⟨_, rfl⟩
  rw [hm0] at HBA ⊢
  clear h0 h1 hR hR1 hR2 hR3 hm hm0
  go_enter Try.func4, Try.ntmps4
  go_wp2_with (first
    | (go_at_call 12; (with_reducible refine HBA.out.mono ?_); rintro e w1 ⟨Ar, nr, cr, rfl, k1, k2, k3⟩; have HRC := Lib.hid k1; have HNR := Lib.hid k2; have HB1 := Lib.hid k3; clear k1 k2 k3)
    | (go_at_call 13; (with_reducible refine (getter_any _ _ _ _).mono ?_); rintro e w2 ⟨rfl, rfl⟩)
    | (go_at_call 7; (with_reducible refine (new_any _ (.inr ⟨_, _, _, rfl⟩) _).mono ?_); rintro e w3 ⟨rfl, k1, k2⟩; have HT3 := Lib.hid k1; have HB3 := Lib.hid k2; clear k1 k2)
    | fail)
  have hbx : Below w1.heap.size w1 (w1.alloc (.cells #[.slice Ar nr cr] 34)) := (Below.refl _ w1).alloc (Nat.le_refl _) _
  have hbs : IsBase (w1.alloc (.cells #[.slice Ar nr cr] 34)) (.func (.func 23) #[] #[.pointer (some ⟨w1.heap.size, 0, none⟩)]) (findR R) := .inr ⟨_, _, R, rfl, heap_alloc_last w1 _, HRC.out.on hbx, rfl, HR3.out⟩
  have HBS3 := Lib.hid (hbs.on HB3.out)
  have HBW3 : Hid (Below w1.heap.size w1 w3) := Lib.hid (hbx.trans (HB3.out.mono hbx.size))
  rw [World.size_alloc] at HT3
  clear hbx hbs HBA
  obtain ⟨b, hb⟩ : ∃ b, Value.func (.func 23) #[] #[.pointer (some ⟨w1.heap.size, 0, none⟩)] = b := ⟨_, rfl⟩
  rw [hb] at HT3 HBS3 ⊢
  clear hb
  go_loopg [7] 20 (fun g iv wr => ∃ (i : Nat) (M : Option Nat) (l : List (Nat × Ch)), iv = .int .i64 i ∧ i ≤ m ∧ i ≤ 20 ∧ 20 - i ≤ g ∧ Hid (IsTx wr (w1.heap.size + 1) M b l) ∧ Hid (IsBase wr b (findR R)) ∧ Hid (Below w1.heap.size w1 wr) ∧ Hid ((∀ p ∈ l, p.1 < 8) ∧ ∀ m, M = some m → w1.heap.size ≤ m))
  case atStart => exact ⟨0, none, [], rfl, Nat.zero_le _, by omega, by omega, HT3, HBS3, HBW3, by simp, fun m h => by cases h⟩
  case round =>
    obtain ⟨i, M, l, rfl, hi, hi20, hg, HT, HBS, HB, HLM⟩ := hrel
    by_cases hlt : i < m ∧ i < 20
    · obtain ⟨hlm, hl20⟩ := hlt
      have hlz : (i : Int) < (m : Int) := by omega
      have hlz20 : (i : Int) < 20 := by omega
      have hil : i < cs1.length := by rw [HM.out]; exact hlm
      obtain ⟨⟨id, ⟨s, gn⟩⟩, hx⟩ : ∃ x, cs1[i] = x := ⟨_, rfl⟩
      obtain ⟨bb, o, rfl, hbl, k0, k1, k2⟩ := ((H1.out.on rfl HB1.out).on rfl HB.out).at hil hx
      have hok := H1.out.2.1 _ (List.getElem_mem hil)
      rw [hx] at hok
      simp only at k0 k1 k2 hok
      have hand := and7 id hok.1
      obtain ⟨q, hq⟩ : ∃ q, id % 8 = q := ⟨_, rfl⟩
      have hq8 : q < 8 := by omega
      rw [hq] at hand
      have HQ8 := Lib.hid hq8
      cases gn with
      | true =>
        have HAP := Lib.hid (app_at (n := w1.heap.size) HT.out HBS.out HB.out.size (by omega) HLM.out.2 (by have := tx_few HT.out HLM.out.1; omega) (a := q) (s := noB) (gn := true) ⟨by omega, by decide, fun _ => rfl⟩)
        clear hx hok hq
        go_wp2_with (first
          | (go_at_call 14; refine HAP.out.mono ?_; rintro e w4 ⟨rfl, M', k1, k2, k3, k4⟩; have K1 := Lib.hid k1; have K2 := Lib.hid k2; have K3 := Lib.hid k3; have K4 := Lib.hid k4; clear k1 k2 k3 k4)
          | fail)
        go_roundg (20 - (i + 1))
        case measure => omega
        case rel => exact ⟨i + 1, M', _, by go_num, by omega, by omega, Nat.le_refl _, K1, K2, HB.out.trans K3.out, appT_keys HLM.out.1 HQ8.out, K4.out⟩
      | false =>
        have HAP := Lib.hid (app_at (n := w1.heap.size) HT.out HBS.out HB.out.size (by omega) HLM.out.2 (by have := tx_few HT.out HLM.out.1; omega) (a := q) (s := s) (gn := false) ⟨by omega, hok.2, fun h => by cases h⟩)
        clear hx hok hq
        go_wp2_with (first
          | (go_at_call 14; refine HAP.out.mono ?_; rintro e w4 ⟨rfl, M', k1, k2, k3, k4⟩; have K1 := Lib.hid k1; have K2 := Lib.hid k2; have K3 := Lib.hid k3; have K4 := Lib.hid k4; clear k1 k2 k3 k4)
          | fail)
        go_roundg (20 - (i + 1))
        case measure => omega
        case rel => exact ⟨i + 1, M', _, by go_num, by omega, by omega, Nat.le_refl _, K1, K2, HB.out.trans K3.out, appT_keys HLM.out.1 HQ8.out, K4.out⟩
    · have H8 := tx_few HT.out HLM.out.1
      have H8H := Lib.hid H8
      have HCH := Lib.hid (changes_any HT.out (by omega))
      have HWB : Hid (Below w.heap.size w wr) := Lib.hid (HB1.out.trans (HB.out.mono HB1.out.size))
      have HCG : Hid (∀ (w4 : World) (v : Value), Below wr.heap.size wr w4 → w4.ownsRow wr.heap.size 38 3 v l.length (cellsC l) → ∃ Av cv, v = .slice Av l.length cv ∧ IsChs w4 Av l) := Lib.hid (fun w4 v _ hv => by
        obtain ⟨Av, cv, rfl⟩ := owns_slice hv
        exact ⟨Av, cv, rfl, (owns_chs hv (by omega) (fun x hx => ⟨(HT.out.ok x hx).1, (HT.out.ok x hx).2.1⟩)).1⟩)
      have HRW : Hid (∀ w4 : World, Below wr.heap.size wr w4 → IsRecs w4 (.slice Ar nr cr) R) := Lib.hid (fun w4 h => (HRC.out.on HB.out).on h)
      have HEQ : Hid (∀ a, a < 9 → getT (findR R) l a = findR (doL R l) a) := Lib.hid (fun a _ => by
        rw [find_get, get_doL l HR1.out HT.out.ris a]
        congr 1
        funext x
        exact find_get R x)
      have HOK : Hid (∀ p ∈ doL R l, p.2.size ≤ 281474976710656) := Lib.hid (doL_mem (Q := fun _ s => s.size ≤ 281474976710656) l HR1.out HR3.out (fun c hc => (HT.out.ok c hc).2.1))
      obtain ⟨nl, hnl⟩ : ∃ nl, l.length = nl := ⟨_, rfl⟩
      have HNL := Lib.hid hnl
      rw [hnl] at H8
      have hcut : (i : Int) < (m : Int) ∨ ¬ (i : Int) < (m : Int) := by omega
      rcases hcut with hlz | hlz
      all_goals
        first
          | have hlz20 : ¬ (i : Int) < 20 := by omega
          | skip
        clear hnl
        go_wp2_with (first
          | (go_at_call 10; (with_reducible refine HCH.out.mono ?_); rintro e w4 ⟨v, rfl, k1, k2⟩; obtain ⟨Av, cv, rfl, k3⟩ := HCG.out _ _ k2 k1; rw [HNL.out]; have HB4 := Lib.hid k2; have HC4 := Lib.hid k3; clear k1 k2 k3)
          | (go_at_call 15; (with_reducible refine (do_any (HRW.out _ HB4.out) HR1.out HC4.out HNL.out (Nat.le_trans HR2.out (by decide)) (by omega)).mono ?_); rintro e w5 ⟨An, nn, cn, rfl, k1, k2, k3⟩; have HN5 := Lib.hid k1; have HB5 : Hid (Below wr.heap.size wr w5) := Lib.hid (HB4.out.trans (k3.mono HB4.out.size)); clear k1 k2 k3)
          | (go_at_call 13; (with_reducible refine (getter_any _ _ _ _).mono ?_); rintro e w6 ⟨rfl, rfl⟩)
          | (go_at_call 7; (with_reducible refine (later_new HN5.out HOK.out).mono ?_); rintro e w7 ⟨rfl, k1, k2, k3⟩; have HT7 := Lib.hid k1; have HS7 := Lib.hid k2; have HB7 : Hid (Below wr.heap.size wr w7) := Lib.hid (HB5.out.trans (k3.mono HB5.out.size)); have HB57 := Lib.hid k3; clear k1 k2 k3)
          | (go_at_call 14; (with_reducible refine (apply_nil _ _).mono ?_); rintro e w8 ⟨rfl, rfl⟩)
          | (go_at_call 8; (with_reducible refine (awake_any _).mono ?_); rintro e w8 ⟨rfl, k1⟩; have HB78 := Lib.hid k1; have HB8 : Hid (Below wr.heap.size wr w8) := Lib.hid (HB7.out.trans (k1.mono HB7.out.size)); clear k1)
          | (go_at_call 16; (with_reducible refine (same_any (HT.out.on HB8.out) (HBS.out.on HB8.out) ((HN5.out.on HB57.out).on HB78.out) HEQ.out).mono ?_); rintro e w9 ⟨rfl, k1⟩; have HB89 := Lib.hid k1; have HB9 : Hid (Below wr.heap.size wr w9) := Lib.hid (HB8.out.trans (k1.mono HB8.out.size)); clear k1)
          | (go_at_call 16; (with_reducible refine (same_any ((HT7.out.on HB78.out).on HB89.out) ((HS7.out.on HB78.out).on HB89.out) (((HN5.out.on HB57.out).on HB78.out).on HB89.out) (fun _ _ => rfl)).mono ?_); rintro e w10 ⟨rfl, k1⟩; have HB910 := Lib.hid k1; have HB10 : Hid (Below wr.heap.size wr w10) := Lib.hid (HB9.out.trans (k1.mono HB9.out.size)); clear k1)
          | (go_at_call 10; (with_reducible refine (changes_len (n := 0) (((HT7.out.on HB78.out).on HB89.out).on HB910.out) rfl (by decide)).mono ?_); rintro e w11 ⟨⟨Aw, cw, rfl⟩, k1⟩; have HB11 : Hid (Below wr.heap.size wr w11) := Lib.hid (HB10.out.trans (k1.mono HB10.out.size)); clear k1)
          | fail)
        go_ret
        exact ⟨rfl, HWB.out.trans (HB11.out.mono HWB.out.size)⟩

end Go.Proofs.Ytkhhmmblkfogcaa
