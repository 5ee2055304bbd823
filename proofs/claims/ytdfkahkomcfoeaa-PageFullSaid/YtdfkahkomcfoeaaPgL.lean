/- PageFull -/
import Derived.Test.YtdfkahkomcfoeaaPgH
import Derived.Test.YtdfkahkomcfoeaaIntL
namespace Go.Proofs.Ytdfkahkomcfoeaa
open Go.ChangeShapes Go.WideShapes Go.ChangeAt Go.RowKit

theorem put_next {l : Pg} {id : Nat} (h : ∀ r ∈ l, r.1 < id) (s : List UInt8) : putR l id s = if usedP l + 12 + s.length ≤ 512 then (l ++ [(id, s)], true) else (l, false) := by
  unfold putR
  rw [put_end h]
  have := usedP_app l [(id, s)]
  simp only [usedP] at this
  rw [show usedP (l ++ [(id, s)]) = usedP l + 12 + s.length by omega]

/-- Put, told over a page of the call's own -/
theorem put_own {n : Nat} {w : World} {P : Nat} {v : Value} {l : Pg} (h : IsPg n w P v l) (id : Nat) (hid : id < 18446744073709551616) (s : List UInt8) (hs : s.length ≤ 100000) {l' : Pg} {ok : Bool} (he : putR l id s = (l', ok)) :
    Calls Try.prog 14 #[.pointer (some ⟨P, 0, none⟩), .int .u64 id, .string ⟨s.toArray⟩] w fun e w' => e = .returned (.bool ok) ∧ ∃ v', IsPg n w' P v' l' ∧ Below n w w' := by
  refine (pg_put h id hid s hs).mono fun e w' p => ?_
  rw [he] at p
  have hb := PgStep.below h p
  obtain ⟨e1, v', hp', -, -⟩ := p
  exact ⟨e1, v', hp', hb⟩

theorem free_own {n : Nat} {w : World} {P : Nat} {v : Value} {l : Pg} (h : IsPg n w P v l) :
    Calls Try.prog 17 #[.pointer (some ⟨P, 0, none⟩)] w fun e w' => e = .returned (.int .i64 ((512 - usedP l : Nat) : Int)) ∧ IsPg n w' P v l ∧ Below n w w' :=
  (pg_free h).mono fun e w' p => ⟨p.1, h.on p.2, p.2.mono (by have := h.lt; have := h.ge; omega)⟩

theorem left_step {u r : Nat} (h : u + 12 + r ≤ 512) : ((512 - (u + 12 + r) : Nat) : Int) = ((512 - u : Nat) : Int) - ((r : Int) + 12) := by omega

theorem wrap_one {n : Nat} (h : n ≤ 100000) : wrap64 ((n : Int) + 1) = (n : Int) + 1 := wrap64_id (is64_iff.2 (by omega))

theorem wrap_nat {n : Nat} (h : n ≤ 100000) : wrap64 (n : Int) = (n : Int) := wrap64_id (is64_iff.2 (by omega))

theorem add12 {r : Nat} (h : r ≤ 100000) : wrap64 ((r : Int) + 12) = (r : Int) + 12 := wrap64_id (is64_iff.2 (by omega))

theorem IsPg.alloc {n : Nat} {w : World} {P : Nat} {v : Value} {l : Pg} (h : IsPg n w P v l) (o : Obj) : IsPg n (w.alloc o) P v l := h.on ((Below.refl _ w).alloc (Nat.le_refl _) o)

theorem IsPg.alloc_below {n : Nat} {w : World} {P : Nat} {v : Value} {l : Pg} (h : IsPg n w P v l) (o : Obj) : Below n w (w.alloc o) := (Below.refl _ w).alloc (by have := h.lt; have := h.ge; omega) o

set_option maxHeartbeats 2000000 in
set_option maxRecDepth 100000 in
theorem pfull_walk (A : Option Addr) (cap : Nat) (L : List Int) (w : World) (hL : IsIntL w A L) :
    Calls Try.prog 6 #[.slice A L.length cap] w fun e w' => e = .returned (.bool true) ∧ Below w.heap.size w w' := by
  have HL := Lib.hid hL
  have HN := Lib.hid (pg_new w)
  have hl63 := hL.1
  clear hL
  go_enter Try.func6, Try.ntmps6
  go_wp2_with (first
    | (go_at_call 7; (with_reducible refine HN.out.mono ?_); rintro e w1 ⟨rfl, hp, hb⟩; have HP0 := Lib.hid hp; have HB0 := Lib.hid hb; clear hp hb)
    | fail)
  go_loopg [4, 5] 60 (fun g s4 s5 wr => ∃ (i : Nat) (l : Pg) (v : Value), s5 = .int .i64 i ∧ s4 = .int .i64 ((512 - usedP l : Nat) : Int) ∧ i ≤ 60 ∧ 60 - i ≤ g ∧ Hid (∀ r ∈ l, r.1 < i) ∧ Hid (IsPg w.heap.size wr w.heap.size v l) ∧ Hid (Below w.heap.size w wr))
  case atStart => exact ⟨0, [], _, rfl, rfl, by omega, by omega, (fun r hr => by cases hr), HP0.out, HB0.out⟩
  case round =>
    obtain ⟨i, l, v, rfl, rfl, hi, hg, HID, HP, HB⟩ := hrel
    have hfit := HP.out.ok.fit
    by_cases hlt : i < L.length ∧ i < 60
    · obtain ⟨h1, h2⟩ := hlt
      obtain ⟨b, o, rfl, -, hc⟩ := (HL.out.on HB.out).2.resolve_left (by rintro rfl; simp at h1)
      obtain ⟨x, hx⟩ : ∃ x, L[i]? = some x := ⟨_, List.getElem?_eq_getElem h1⟩
      have c0 := hc i x hx
      obtain ⟨r, hr, er⟩ := i64_and511 x
      have hmk := fun W => make_zeros r (by omega) W
      have hcv := fun W => conv_zeros r W
      have hrl : (List.replicate r (0 : UInt8)).length = r := List.length_replicate
      have hpn := put_next HID.out (List.replicate r (0 : UInt8))
      rw [hrl] at hpn
      have hi1 : IntKind.u64.wrap (i : Int) = (i : Int) := IntWalk.u64_in _ (by omega)
      have d1 : decide ((i : Int) < (L.length : Int)) = true := by simp; omega
      have d2 : decide ((i : Int) < 60) = true := by simp; omega
      have hb0 : Below w.heap.size wr (wr.alloc (.cells (Array.replicate r (Value.int .u8 0)) 5)) := HP.out.alloc_below _
      have HBA := Lib.hid (HB.out.trans hb0)
      have HPA := Lib.hid (HP.out.alloc (.cells (Array.replicate r (Value.int .u8 0)) 5))
      clear hx hc hb0
      by_cases hf : usedP l + 12 + r ≤ 512
      · rw [if_pos hf] at hpn
        have hu : usedP (l ++ [(i, List.replicate r (0 : UInt8))]) = usedP l + 12 + r := by
          have := usedP_app l [(i, List.replicate r (0 : UInt8))]
          simp only [usedP, hrl] at this
          omega
        have d3 : decide ((r : Int) + 12 ≤ ((512 - usedP l : Nat) : Int)) = true := by simp; omega
        have HPU := Lib.hid (put_own HPA.out i (by omega) (List.replicate r (0 : UInt8)) (by rw [hrl]; omega) hpn)
        have HID2 : Hid (∀ q ∈ l ++ [(i, List.replicate r (0 : UInt8))], q.1 < i + 1) := Lib.hid fun q hq => by
          rcases List.mem_append.1 hq with hq | hq
          · have := HID.out q hq; omega
          · simp only [List.mem_cons, List.not_mem_nil, or_false] at hq
            subst hq
            exact Nat.lt_succ_self i
        have w2 := left_step hf
        rw [← hu] at w2
        have HV := Lib.hid w2
        have w1 := add12 (r := r) (by omega)
        clear hpn hu hrl hf
        generalize l ++ [(i, List.replicate r (0 : UInt8))] = l2 at HPU HID2 w2 HV
        generalize List.replicate r (0 : UInt8) = zz at HPU hcv
        go_wp2_with (first
          | (go_at_call 14; (with_reducible refine HPU.out.mono ?_); rintro e w3 ⟨rfl, v', hp3, hb3⟩; have HF3 := Lib.hid (free_own hp3); have HB3 := Lib.hid (HBA.out.trans hb3); clear hp3 hb3)
          | (go_at_call 17; (with_reducible refine HF3.out.mono ?_); rintro e w4 ⟨rfl, hp4, hb4⟩; have HP4 := Lib.hid hp4; have HB4 := Lib.hid (HB3.out.trans hb4); clear hp4 hb4)
          | fail)
        go_roundg (60 - (i + 1))
        case measure => omega
        case rel => exact ⟨i + 1, l2, v', by go_num, by rw [HV.out], by omega, Nat.le_refl _, HID2, HP4, HB4⟩
      · rw [if_neg hf] at hpn
        have d3 : decide ((r : Int) + 12 ≤ ((512 - usedP l : Nat) : Int)) = false := by simp; omega
        have HPU := Lib.hid (put_own HPA.out i (by omega) (List.replicate r (0 : UInt8)) (by rw [hrl]; omega) hpn)
        have HID2 : Hid (∀ q ∈ l, q.1 < i + 1) := Lib.hid fun q hq => by have := HID.out q hq; omega
        have w1 := add12 (r := r) (by omega)
        clear hpn hrl hf
        generalize List.replicate r (0 : UInt8) = zz at HPU hcv
        go_wp2_with (first
          | (go_at_call 14; (with_reducible refine HPU.out.mono ?_); rintro e w3 ⟨rfl, v', hp3, hb3⟩; have HF3 := Lib.hid (free_own hp3); have HB3 := Lib.hid (HBA.out.trans hb3); clear hp3 hb3)
          | (go_at_call 17; (with_reducible refine HF3.out.mono ?_); rintro e w4 ⟨rfl, hp4, hb4⟩; have HP4 := Lib.hid hp4; have HB4 := Lib.hid (HB3.out.trans hb4); clear hp4 hb4)
          | fail)
        go_roundg (60 - (i + 1))
        case measure => omega
        case rel => exact ⟨i + 1, l, v', by go_num, rfl, by omega, Nat.le_refl _, HID2, HP4, HB4⟩
    · have hx : ¬ i < L.length ∨ (60 < L.length ∧ i = 60) := by omega
      have HID2 : Hid (∀ r ∈ l, r.1 < 1000) := Lib.hid fun q hq => by have := HID.out q hq; omega
      have HA : Hid (Calls Try.prog 8 #[] wr fun e w' => e = .returned (.bool true) ∧ IsPg w.heap.size w' w.heap.size v l ∧ Below w.heap.size w w') := Lib.hid
        ((awake5 wr).mono fun e w' p => ⟨p.1, HP.out.on p.2, HB.out.trans (p.2.mono HB.out.size)⟩)
      clear hlt
      by_cases h12 : usedP l ≤ 500
      · obtain ⟨n2, hn2⟩ : ∃ n2, 512 - usedP l = n2 + 12 := ⟨500 - usedP l, by omega⟩
        have hp1 : putR l 1000 (List.replicate (n2 + 1) (0 : UInt8)) = (l, false) := by
          rw [put_next HID2.out, List.length_replicate, if_neg (by omega)]
        have hp2 : putR l 1000 (List.replicate n2 (0 : UInt8)) = (l ++ [(1000, List.replicate n2 (0 : UInt8))], true) := by
          rw [put_next HID2.out, List.length_replicate, if_pos (by omega)]
        have hu3 : ((512 - usedP (l ++ [(1000, List.replicate n2 (0 : UInt8))]) : Nat) : Int) = 0 := by
          have := usedP_app l [(1000, List.replicate n2 (0 : UInt8))]
          simp only [usedP, List.length_replicate] at this
          omega
        have hmk1 := fun W => make_zeros (n2 + 1) (by omega) W
        have hmk2 := fun W => make_zeros n2 (by omega) W
        have hcv1 := fun W => conv_zeros (n2 + 1) W
        have hcv2 := fun W => conv_zeros n2 W
        have e0 : ((n2 + 12 : Nat) : Int) = (n2 : Int) + 12 := by omega
        have e1 : ((n2 + 1 : Nat) : Int) = (n2 : Int) + 1 := by omega
        rw [hn2, e0]
        rw [e1] at hmk1
        have s1 : (n2 : Int) + 12 - 11 = (n2 : Int) + 1 := by omega
        have s2 : (n2 : Int) + 12 - 12 = (n2 : Int) := by omega
        have d5 : decide ((12 : Int) ≤ (n2 : Int) + 12) = true := decide_eq_true (by omega)
        have HPU1 : Hid (∀ wn v', IsPg w.heap.size wn w.heap.size v' l → Calls Try.prog 14 #[.pointer (some ⟨w.heap.size, 0, none⟩), .int .u64 1000, .string ⟨(List.replicate (n2 + 1) (0 : UInt8)).toArray⟩] wn fun e w' => e = .returned (.bool false) ∧ ∃ v', IsPg w.heap.size w' w.heap.size v' l ∧ Below w.heap.size wn w') := Lib.hid fun wn v' hp =>
          put_own hp 1000 (by decide) _ (by rw [List.length_replicate]; omega) hp1
        have HPU2 : Hid (∀ wn v', IsPg w.heap.size wn w.heap.size v' l → Calls Try.prog 14 #[.pointer (some ⟨w.heap.size, 0, none⟩), .int .u64 1000, .string ⟨(List.replicate n2 (0 : UInt8)).toArray⟩] wn fun e w' => e = .returned (.bool true) ∧ ∃ v', IsPg w.heap.size w' w.heap.size v' (l ++ [(1000, List.replicate n2 (0 : UInt8))]) ∧ Below w.heap.size wn w') := Lib.hid fun wn v' hp =>
          put_own hp 1000 (by decide) _ (by rw [List.length_replicate]; omega) hp2
        have w5 := wrap_one (n := n2) (by omega)
        have w6 := wrap_nat (n := n2) (by omega)
        clear hp1 hp2 e0 e1 hn2 h12 hfit HID2
        generalize l ++ [(1000, List.replicate n2 (0 : UInt8))] = l3 at HPU2 hu3
        generalize List.replicate (n2 + 1) (0 : UInt8) = z1 at HPU1 hcv1
        generalize List.replicate n2 (0 : UInt8) = z2 at HPU2 hcv2
        rcases hx with d1 | ⟨d1, rfl⟩
        all_goals
          go_wp2_with (first
            | (go_at_call 8; (with_reducible refine HA.out.mono ?_); rintro e w2 ⟨rfl, hp2, hb2⟩; have HP2 := Lib.hid (hp2.alloc (.cells (Array.replicate (n2 + 1) (Value.int .u8 0)) 5)); have HB2 := Lib.hid (hb2.trans (hp2.alloc_below (.cells (Array.replicate (n2 + 1) (Value.int .u8 0)) 5))); clear hp2 hb2)
            | (go_at_call 14; (with_reducible refine (HPU1.out _ _ HP2.out).mono ?_); rintro e w3 ⟨rfl, v3, hp3, hb3⟩; have HP3 := Lib.hid (hp3.alloc (.cells (Array.replicate n2 (Value.int .u8 0)) 5)); have HB3 := Lib.hid (HB2.out.trans (hb3.trans (hp3.alloc_below (.cells (Array.replicate n2 (Value.int .u8 0)) 5)))); clear hp3 hb3)
            | (go_at_call 14; (with_reducible refine (HPU2.out _ _ HP3.out).mono ?_); rintro e w4 ⟨rfl, v4, hp4, hb4⟩; have HF4 := Lib.hid (free_own hp4); have HB4 := Lib.hid (HB3.out.trans hb4); clear hp4 hb4)
            | (go_at_call 17; (with_reducible refine HF4.out.mono ?_); rintro e w5 ⟨rfl, -, hb5⟩)
            | fail)
          go_ret
          exact ⟨rfl, HB4.out.trans hb5⟩
      · have hp1 : putR l 1000 [] = (l, false) := by
          rw [put_next HID2.out, if_neg (by simp; omega)]
        have HPU1 : Hid (∀ wn v', IsPg w.heap.size wn w.heap.size v' l → Calls Try.prog 14 #[.pointer (some ⟨w.heap.size, 0, none⟩), .int .u64 1000, .string ⟨#[]⟩] wn fun e w' => e = .returned (.bool false) ∧ ∃ v', IsPg w.heap.size w' w.heap.size v' l ∧ Below w.heap.size wn w') := Lib.hid fun wn v' hp =>
          put_own hp 1000 (by decide) [] (by simp) hp1
        have d5 : decide ((12 : Int) ≤ ((512 - usedP l : Nat) : Int)) = false := by simp; omega
        clear hp1 h12 hfit HID2
        rcases hx with d1 | ⟨d1, rfl⟩
        all_goals
          go_wp2_with (first
            | (go_at_call 8; (with_reducible refine HA.out.mono ?_); rintro e w2 ⟨rfl, hp2, hb2⟩; have HP2 := Lib.hid hp2; have HB2 := Lib.hid hb2; clear hp2 hb2)
            | (go_at_call 14; (with_reducible refine (HPU1.out _ _ HP2.out).mono ?_); rintro e w3 ⟨rfl, v3, hp3, hb3⟩)
            | fail)
          go_ret
          exact ⟨rfl, HB2.out.trans hb3⟩

end Go.Proofs.Ytdfkahkomcfoeaa
