/- the reference of pages: Get -/
import Derived.Test.YtdfkahkomcfoeaaPgR
namespace Go.Proofs.Ytdfkahkomcfoeaa
open Go.ChangeShapes Go.WideShapes Go.ChangeAt Go.RowKit

theorem wd_pair {s : List UInt8} (h : 2 ≤ s.length) : wd (s.take 2) = (s[0]'(by omega)).toNat * 256 + (s[1]'(by omega)).toNat := by
  match s, h with
  | a :: b :: t, _ => simp [wd]

theorem wd_pair_at {s : List UInt8} {k : Nat} (h : k + 1 < s.length) : wd ((s.drop k).take 2) = (s[k]'(by omega)).toNat * 256 + (s[k + 1]'h).toNat := by
  rw [wd_pair (by rw [List.length_drop]; omega)]
  simp [List.getElem_drop]

theorem pair_lt {a b n : Nat} (ha : a < 256) (hb : b < 256) (h : a * 256 + b = n) : n < 65536 := by omega

theorem w_nat {n : Nat} (h : n ≤ 100000) : wrap64 (n : Int) = (n : Int) := wrap64_id (is64_iff.2 (by omega))

theorem w_256 {a : Nat} (h : a < 256) : wrap64 ((a : Int) * 256) = (a : Int) * 256 := wrap64_id (is64_iff.2 (by omega))

theorem w_ab {a b n : Nat} (ha : a < 256) (hb : b < 256) (h : a * 256 + b = n) : wrap64 ((a : Int) * 256 + (b : Int)) = (n : Int) := by
  rw [wrap64_id (is64_iff.2 (by omega))]; omega

/-- what the reference leaves -/
def GetOk (w : World) (o : Option Pg × Int) (e : Ending) (w' : World) : Prop :=
  ∃ v, e = .returned (.tuple #[v, .int .i64 o.2]) ∧ w'.ownsRow w.heap.size 47 2 v (o.1.getD []).length (cellsB (o.1.getD [])) ∧ Below w.heap.size w w'

theorem parse_facts (s : List UInt8) : ∀ (n : Nat) (sl : List UInt8) (l : Pg), parseP s n sl = some l → ∀ r ∈ l, r.1 < 18446744073709551616 ∧ r.2.length ≤ s.length
  | 0, _, l, h, r, hr => by
    simp only [parseP, Option.some.injEq] at h
    subst h; cases hr
  | n + 1, sl, l, h, r, hr => by
    rw [parseP] at h
    split at h
    · cases h
    · obtain ⟨t', ht', rfl⟩ := Option.map_eq_some_iff.1 h
      rcases List.mem_cons.1 hr with rfl | hr
      · exact ⟨wd8_lt _, by rw [List.length_drop, List.length_take]; omega⟩
      · exact parse_facts s n _ t' ht' r hr

theorem usedP_le {m : Nat} : ∀ {l : Pg}, (∀ r ∈ l, r.2.length ≤ m) → usedP l ≤ 2 + l.length * (12 + m)
  | [], _ => by simp [usedP]
  | r :: t, h => by
    have h1 := h r (by simp)
    have h2 := usedP_le (l := t) fun q hq => h q (List.mem_cons_of_mem _ hq)
    simp only [usedP, List.length_cons, Nat.add_mul, Nat.one_mul] at h2 ⊢
    omega

theorem ris_adj : ∀ {l : Pg}, (∀ t (h1 : t + 1 < l.length), l[t].1 < l[t + 1].1) → RisB l
  | [], _ => .nil
  | [r], _ => by simp [RisB]
  | r :: q :: t, h => by
    have h2 : RisB (q :: t) := ris_adj fun k hk => by
      have := h (k + 1) (by simpa using hk)
      simpa using this
    have h0 : r.1 < q.1 := by have := h 0 (by simp); simpa using this
    refine List.pairwise_cons.2 ⟨fun x hx => ?_, h2⟩
    rcases List.mem_cons.1 hx with rfl | hx
    · exact h0
    · exact Nat.lt_trans h0 ((List.pairwise_cons.1 h2).1 x hx)

/-- one record appended to a row of the call's own, behind a draw -/
theorem app_rec {w wn : World} {A : Option Addr} {c i : Nat} {o : Pg} (h1 : wn.ownsRow w.heap.size 47 2 (.slice A i c) i (cellsB o)) (h2 : Below w.heap.size w wn) (hi : i ≤ 1000) (r : Bod) :
    ∃ A' c' w2, (∀ ty, (Builtin.append_ #[25, 25] ty #[.slice A i c, .slice (some ⟨wn.heap.size, 0, none⟩) 1 1]).run Try.prog (wn.alloc (.cells #[.int .u64 (r.1 : Int), .string ⟨r.2.toArray⟩] 47)).drew = .ok (.slice A' (i + 1) c') w2) ∧
      w2.ownsRow w.heap.size 47 2 (.slice A' (i + 1) c') (i + 1) (cellsB (o ++ [r])) ∧ Below w.heap.size w w2 := by
  obtain ⟨i0, hi0, hz0, hz1, hz2⟩ := info_parts info_body
  have hb1 : Below wn.heap.size wn (wn.alloc (.cells #[.int .u64 (r.1 : Int), .string ⟨r.2.toArray⟩] 47)).drew := ((Below.refl _ wn).alloc (Nat.le_refl _) _).drew
  have hown := owns_on h1 (Only.of_below (ok := fun _ => False) hb1) fun _ _ h => h
  have hnew : (wn.alloc (.cells #[.int .u64 (r.1 : Int), .string ⟨r.2.toArray⟩] 47)).drew.heap[wn.heap.size]? = some (.cells #[.int .u64 (r.1 : Int), .string ⟨r.2.toArray⟩] 47 (0, 0)) := heap_alloc_new wn _
  have key := fun ty => run_append_own (P := Try.prog) (wn.alloc (.cells #[.int .u64 (r.1 : Int), .string ⟨r.2.toArray⟩] 47)).drew w.heap.size 25 ty 47 i0 _ 2 24 Try.underlying25 hi0 hz0 hz1 hz2 rfl (by decide) _ i (cellsB o) hown ⟨wn.heap.size, 0, none⟩ 1 1 (cellsB [r]) rfl
    (fun j u hj => by rw [adr_add, Nat.zero_add, cell_of_row _ _ _ _ _ _ hnew]; simpa [cellsB] using hj) (cellsB_one [r]) (by unfold maxLen; omega) (by omega) (by have := h2.size; have := hb1.size; omega)
  obtain ⟨v', w2, hr, hown', hgr, -⟩ := key 0
  have hlt := hown.lt
  obtain ⟨A', c', rfl, -, -⟩ := owns_form hown'
  refine ⟨A', c', w2, fun ty => ?_, by rw [cellsB_app]; exact hown', ?_⟩
  · exact hr
  · exact (h2.trans (hb1.mono h2.size)).trans (below_of_only hgr (by have := h2.size; have := hb1.size; omega) fun g hg => (hlt g hg).1)

set_option maxHeartbeats 4000000 in
set_option maxRecDepth 100000 in
theorem rget_any (s : List UInt8) (hs : s.length ≤ 100000) (w : World) : Calls Try.prog 21 #[.string ⟨s.toArray⟩] w (GetOk w (getP s)) := by
  have hl := fun W => len_str s 3 W
  by_cases h1 : s.length < 512
  · have hd : getP s = (none, 4) := if_pos h1
    rw [hd]
    have b1 : decide ((s.length : Int) < 512) = true := by simp; omega
    clear hd
    go_enter Try.func21, Try.ntmps21
    go_wp2_with fail
    go_ret2
    exact ⟨_, rfl, World.ownsRow_nil _ _ _ _, Below.refl _ _⟩
  by_cases h2 : 512 < s.length
  · have hd : getP s = (none, 5) := by unfold getP; rw [if_neg h1, if_pos h2]
    rw [hd]
    have b1 : decide ((s.length : Int) < 512) = false := by simp; omega
    have b2 : decide ((512 : Int) < (s.length : Int)) = true := by simp; omega
    clear hd
    go_enter Try.func21, Try.ntmps21
    go_wp2_with fail
    go_ret2
    exact ⟨_, rfl, World.ownsRow_nil _ _ _ _, Below.refl _ _⟩
  have h5 : s.length = 512 := by omega
  rw [h5] at hl
  have hsz : (⟨s.toArray⟩ : ByteArray).size = 512 := by rw [str_size, h5]
  have hgp : getP s = if 42 < wd (s.take 2) then ((none : Option Pg), (6 : Int)) else match parseP s (wd (s.take 2)) (s.drop 2) with
      | none => (none, 6)
      | some l => if RisB l ∧ usedP l ≤ 512 ∧ encP l = s then (some l, 0) else (none, 6) := by
    unfold getP
    rw [if_neg h1, if_neg h2]
    rfl
  obtain ⟨A0, hA0⟩ : ∃ A0, ((⟨s.toArray⟩ : ByteArray)[0]'(by omega)).toNat = A0 := ⟨_, rfl⟩
  obtain ⟨A1, hA1⟩ : ∃ A1, ((⟨s.toArray⟩ : ByteArray)[1]'(by omega)).toNat = A1 := ⟨_, rfl⟩
  have hN : wd (s.take 2) = A0 * 256 + A1 := by
    rw [wd_pair (by omega), ← hA0, ← hA1]; rfl
  have hA0l : A0 < 256 := by rw [← hA0]; exact UInt8.toNat_lt _
  have hA1l : A1 < 256 := by rw [← hA1]; exact UInt8.toNat_lt _
  obtain ⟨N, hNN⟩ : ∃ N, A0 * 256 + A1 = N := ⟨_, rfl⟩
  rw [hN, hNN] at hgp
  have HGP := Lib.hid hgp
  have hNl : N < 65536 := by omega
  have v1 := w_nat (n := A0) (by omega)
  have v2 := w_256 hA0l
  have v3 := w_nat (n := A1) (by omega)
  have v4 := w_ab hA0l hA1l hNN
  have HL := Lib.hid hl
  clear h1 h2 hs hN hNN hA0l hA1l hgp
  go_enter Try.func21, Try.ntmps21
  go_wp2_with fail
  go_region
  simp only [v1, v2, v3, v4]
  clear v1 v2 v3 v4 hA0 hA1
  have hmade : (w.alloc (.cells #[] 47)).drew.ownsRow w.heap.size 47 2 (.slice (some ⟨w.heap.size, 0, none⟩) 0 0) 0 [] := World.ownsRow_made w #[] 0 (Nat.le_refl _) (Nat.zero_le _) (by simp)
  have hbm : Below w.heap.size w (w.alloc (.cells #[] 47)).drew := ((Below.refl _ w).alloc (Nat.le_refl _) _).drew
  by_cases hn : 42 < N
  · have hd := HGP.out
    rw [if_pos hn] at hd
    have HD := Lib.hid hd
    have b1 : decide ((42 : Int) < (N : Int)) = true := by simp; omega
    clear hd hmade
    go_wp2_with fail
    go_ret2
    rw [HD.out]
    exact ⟨_, rfl, World.ownsRow_nil _ _ _ _, hbm⟩
  · have hd := HGP.out
    rw [if_neg hn] at hd
    have HD := Lib.hid hd
    have b1 : decide ((42 : Int) < (N : Int)) = false := by simp; omega
    have HM := Lib.hid hmade; have HBM := Lib.hid hbm
    clear hd hmade hbm HGP
    generalize (w.alloc (.cells #[] 47)).drew = w0 at HM HBM ⊢
    go_wp2_with fail
    go_loopg [5, 6] N (fun g s5 s6 wr => ∃ (i : Nat) (o : Pg) (A : Option Addr) (c : Nat), s6 = .int .i64 i ∧ s5 = .slice A i c ∧ i ≤ N ∧ N - i ≤ g ∧ Hid (o.length = i) ∧ Hid (parseP s N (s.drop 2) = (parseP s (N - i) (s.drop (2 + 12 * i))).map (o ++ ·)) ∧ Hid (wr.ownsRow w.heap.size 47 2 (.slice A i c) i (cellsB o)) ∧ Hid (Below w.heap.size w wr))
    case atStart => exact ⟨0, [], _, _, rfl, rfl, Nat.zero_le _, by omega, rfl, Lib.hid (by simp), HM.out, HBM.out⟩
    case round =>
      obtain ⟨i, o, A, c, rfl, rfl, hi, hg, HOL, HPA, HO, HB⟩ := hrel
      by_cases hlt : i < N
      · obtain ⟨k, hk⟩ : ∃ k, N - i = k + 1 := ⟨N - i - 1, by omega⟩
        have hpa := HPA.out
        rw [hk, parseP] at hpa
        have htd : (s.drop (2 + 12 * i)).length = 510 - 12 * i := by rw [List.length_drop, h5]; omega
        have hst := fun W => sl_tail (s := s) (n := (2 : Int) + 12 * (i : Int)) (N := 2 + 12 * i) (by omega) (by omega) W
        obtain ⟨t, ht⟩ : ∃ t, s.drop (2 + 12 * i) = t := ⟨_, rfl⟩
        rw [ht] at hpa htd hst
        have h8 : (t.drop 8).take 2 = (t.drop 8).take 2 := rfl
        have q8 := wd_pair_at (s := t) (k := 8) (by omega)
        have q10 := wd_pair_at (s := t) (k := 10) (by omega)
        have htz : (⟨t.toArray⟩ : ByteArray).size = 510 - 12 * i := by rw [str_size, htd]
        obtain ⟨B0, hB0⟩ : ∃ B0, ((⟨t.toArray⟩ : ByteArray)[8]'(by omega)).toNat = B0 := ⟨_, rfl⟩
        obtain ⟨B1, hB1⟩ : ∃ B1, ((⟨t.toArray⟩ : ByteArray)[9]'(by omega)).toNat = B1 := ⟨_, rfl⟩
        obtain ⟨B2, hB2⟩ : ∃ B2, ((⟨t.toArray⟩ : ByteArray)[10]'(by omega)).toNat = B2 := ⟨_, rfl⟩
        obtain ⟨B3, hB3⟩ : ∃ B3, ((⟨t.toArray⟩ : ByteArray)[11]'(by omega)).toNat = B3 := ⟨_, rfl⟩
        have q8' : wd ((t.drop 8).take 2) = B0 * 256 + B1 := by rw [q8, ← hB0, ← hB1]; rfl
        have q10' : wd ((t.drop 10).take 2) = B2 * 256 + B3 := by rw [q10, ← hB2, ← hB3]; rfl
        rw [q8', q10'] at hpa
        have l0 : B0 < 256 := by rw [← hB0]; exact UInt8.toNat_lt _
        have l1 : B1 < 256 := by rw [← hB1]; exact UInt8.toNat_lt _
        have l2 : B2 < 256 := by rw [← hB2]; exact UInt8.toNat_lt _
        have l3 : B3 < 256 := by rw [← hB3]; exact UInt8.toNat_lt _
        have hid : wd (t.take 8) = wd (t.take 8) := rfl
        have ht12 : t.drop 12 = s.drop (2 + 12 * (i + 1)) := by rw [← ht, List.drop_drop]; congr 1
        rw [ht12] at hpa
        have hsh := fun W => sl_head (s := t) (n := 8) (N := 8) rfl (by omega) W
        have hrw := fun W => (by
          have := rwide_any ⟨(t.take 8).toArray⟩ W (by rw [str_size, List.length_take]; omega)
          rw [wide_str, List.take_take] at this
          exact this : Calls Try.prog 33 #[.string ⟨(t.take 8).toArray⟩] W fun e w' => e = .returned (.int .u64 (wd (t.take (min 8 8)) : Nat)) ∧ W = w')
        rw [show min 8 8 = 8 from rfl] at hrw
        have HRW := Lib.hid hrw
        have hi42 : i ≤ 42 := by omega
        have v5 : (2 : Int) + 12 * (i : Int) ≤ 512 := by omega
        have htl12 : 12 ≤ 510 - 12 * i := by omega
        obtain ⟨B, hBB⟩ : ∃ B, B0 * 256 + B1 = B := ⟨_, rfl⟩
        obtain ⟨Z, hZZ⟩ : ∃ Z, B2 * 256 + B3 = Z := ⟨_, rfl⟩
        rw [hBB, hZZ] at hpa
        have hBl := pair_lt l0 l1 hBB
        have hZl := pair_lt l2 l3 hZZ
        have u0 := w_nat (n := B0) (Nat.le_trans (Nat.le_of_lt l0) (by decide))
        have u1 := w_nat (n := B1) (Nat.le_trans (Nat.le_of_lt l1) (by decide))
        have u2 := w_nat (n := B2) (Nat.le_trans (Nat.le_of_lt l2) (by decide))
        have u3 := w_nat (n := B3) (Nat.le_trans (Nat.le_of_lt l3) (by decide))
        have u4 := w_256 l0
        have u5 := w_256 l2
        have u6 := w_ab l0 l1 hBB
        have u7 := w_ab l2 l3 hZZ
        obtain ⟨tl, htl⟩ : ∃ tl, 510 - 12 * i = tl := ⟨_, rfl⟩
        rw [htl] at htz htl12
        have HPA2 := Lib.hid hpa
        have HK := Lib.hid hk
        clear hpa q8 q10 q8' q10' h8 hid ht12 ht hrw l0 l1 l2 l3 hBB hZZ htl hk hl
        go_wp2_with fail
        go_cut [8, 9] from 38 to 53 (fun x8 x9 wy => x8 = .int .i64 B ∧ x9 = .int .i64 Z ∧ Hid (wy.ownsRow w.heap.size 47 2 (.slice A i c) i (cellsB o)) ∧ Hid (Below w.heap.size w wy))
        case first =>
          go_quiet (fail)
          go_wp2_with fail
          go_meet
          exact ⟨by rw [u6], by rw [u7], owns_on HO.out (Only.of_below (ok := fun _ => False) (below_nD (Below.refl _ _) _)) fun _ _ h => h, below_nD HB.out _⟩
        case rest =>
          obtain ⟨rfl, rfl, HO2, HB2⟩ := hcut
          clear u0 u1 u2 u3 u4 u5 u6 u7 hB0 hB1 hB2 hB3 htz htl12
          by_cases hbz : 512 < B + Z
          · have hp := HPA2.out
            rw [if_pos hbz] at hp
            have hd := HD.out
            rw [hp] at hd
            have HD2 := Lib.hid hd
            clear hp hd hsh hst hsz
            have b2 : ¬ (B + Z ≤ 512) := by omega
            go_wp2_with fail
            go_ret2
            rw [HD2.out]
            exact ⟨_, rfl, World.ownsRow_nil _ _ _ _, HB2.out⟩
          · have hp := HPA2.out
            rw [if_neg hbz] at hp
            have hmid := fun W => sl_mid (s := s) (n := (B : Int)) (m := (B : Int) + (Z : Int)) (N := B) (M := B + Z) (by omega) (by omega) (by omega) (by omega) W
            generalize (s.take (B + Z)).drop B = str at hp hmid
            generalize wd (t.take 8) = ID at hp HRW
            have HP3 : Hid (parseP s N (s.drop 2) = (parseP s (N - (i + 1)) (s.drop (2 + 12 * (i + 1)))).map ((o ++ [(ID, str)]) ++ ·)) := Lib.hid (by
              rw [hp, show N - (i + 1) = k by have := HK.out; omega, Option.map_map]
              congr 1
              funext x
              simp)
            have HAP := Lib.hid (fun (wn : World) (h1 : wn.ownsRow w.heap.size 47 2 (.slice A i c) i (cellsB o)) (h2 : Below w.heap.size w wn) => app_rec h1 h2 (by omega) (ID, str))
            obtain ⟨A', c', w2, hr, hown, hbel⟩ := HAP.out _ HO2.out HB2.out
            have HO3 := Lib.hid hown; have HB3 := Lib.hid hbel
            have HOL2 : Hid ((o ++ [(ID, str)]).length = i + 1) := Lib.hid (by have := HOL.out; simp [this])
            have b2 : ¬ (512 < B + Z) := hbz
            have b3 : B + Z ≤ 512 := by omega
            have b4 : IntKind.i64.wrap ((B : Int) + (Z : Int)) = (B : Int) + (Z : Int) := by rw [IntKind.wrap_i64]; omega
            clear hp hown hbel hst hsz hbz
            go_wp2_with fail
            have mixed : Try.prog.follows Departure.mixedOrders = true := by kernel_rfl
            go_region_law_o (first
              | (refine step_append_runI rfl _ _ 25 25 rfl _ _ (by simp [Act.eval]) (by simp [Act.eval]) (hr _) ?_)
              | (go_simp; go_at_call 33; (with_reducible refine (HRW.out _).mono ?_); rintro e w1 ⟨rfl, rfl⟩))
            go_wp2_with fail
            go_roundg (N - (i + 1))
            case measure => omega
            case rel => exact ⟨i + 1, _, A', c', by go_num, rfl, by omega, Nat.le_refl _, HOL2, HP3, HO3, HB3⟩
      · obtain rfl : i = N := by omega
        have hpar : parseP s i (s.drop 2) = some o := by
          have := HPA.out
          rw [Nat.sub_self, parseP] at this
          simpa using this
        have hD := HD.out
        rw [hpar] at hD
        simp only at hD
        have HD2 := Lib.hid hD
        have hf := parse_facts s i (s.drop 2) o hpar
        have hol := HOL.out
        have hub := usedP_le (m := 512) (l := o) fun r hr => by have := (hf r hr).2; omega
        have HU := Lib.hid hub
        have HIDS := Lib.hid (fun r hr => (hf r hr).1 : ∀ r ∈ o, r.1 < 18446744073709551616)
        subst hol
        obtain ⟨A2, c2, b2, he2, hseen⟩ := owns_seen HO.out
        simp only [Value.slice.injEq, true_and] at he2
        obtain ⟨rfl, rfl⟩ := he2
        have HSE := Lib.hid hseen
        have hlen : o.length ≤ 42 := by omega
        clear hpar hD hf hub hseen hsz hl
        go_wp2_with fail
        go_loopg [10] o.length (fun g s10 wq => ∃ j : Nat, s10 = .int .i64 ((j : Int) + 1) ∧ j ≤ o.length ∧ o.length - j ≤ g ∧ Hid (∀ t (h1 : t + 1 < o.length), t < j → o[t].1 < o[t + 1].1) ∧ Hid (Below wr.heap.size wr wq))
        case atStart => exact ⟨0, rfl, Nat.zero_le _, by omega, fun t h1 h2 => absurd h2 (Nat.not_lt_zero _), Below.refl _ _⟩
        case round =>
          obtain ⟨j, rfl, hj, hgj, HADJ, HBQ⟩ := hrel
          by_cases hjl : j + 1 < o.length
          · have hjl0 : j < o.length := by omega
            obtain ⟨j0, -⟩ := (HSE.out.row.below HBQ.out).at hjl0
            obtain ⟨k0, -⟩ := (HSE.out.row.below HBQ.out).at hjl
            have eA := HSE.out.at_ (by rintro rfl; simp at hjl)
            subst eA
            have e1 : ((j : Int) + 1) < (o.length : Int) := by omega
            have e2 : (j : Int) < (o.length : Int) := by omega
            have e3 : wrap64 ((j : Int) + 1 - 1) = (j : Int) := by rw [wrap64_id (is64_iff.2 (by omega))]; omega
            have e4 : (j : Int) + 1 - 1 = (j : Int) := by omega
            obtain ⟨x, hx⟩ : ∃ x, (o[j]'hjl0).1 = x := ⟨_, rfl⟩
            obtain ⟨y, hy⟩ : ∃ y, (o[j + 1]'hjl).1 = y := ⟨_, rfl⟩
            rw [hx] at j0
            rw [hy] at k0
            have HX := Lib.hid hx; have HY := Lib.hid hy
            have hjn : (((j : Int) + 1)).toNat = j + 1 := by omega
            clear hx hy
            by_cases hxy : x < y
            · have d1 : decide ((y : Int) ≤ (x : Int)) = false := by simp; omega
              have hnle : ¬ y ≤ x := by omega
              have HXY := Lib.hid hxy
              clear hxy
              go_wp2_with fail
              go_quiet (fail)
              go_wp2_with fail
              go_roundg (o.length - (j + 1))
              case measure => omega
              case rel => exact ⟨j + 1, by go_num, by omega, Nat.le_refl _, (fun t h1 h2 => by
                rcases Nat.lt_or_ge t j with h3 | h3
                · exact HADJ.out t h1 h3
                · obtain rfl : t = j := by omega
                  rw [HX.out, HY.out]; exact HXY.out), below_nD HBQ.out _⟩
            · have hng : getP s = (none, 6) := by
                rw [HD2.out, if_neg]
                intro hc
                have := List.pairwise_iff_getElem.1 hc.1 j (j + 1) hjl0 hjl (by omega)
                rw [HX.out, HY.out] at this
                exact hxy this
              have HNG := Lib.hid hng
              have d1 : decide ((y : Int) ≤ (x : Int)) = true := by simp; omega
              have hle : y ≤ x := by omega
              clear hxy hng
              go_wp2_with fail
              go_quiet (fail)
              go_wp2_with fail
              go_ret2
              rw [HNG.out]
              exact ⟨_, rfl, World.ownsRow_nil _ _ _ _, HB.out.trans ((below_nD HBQ.out _).mono HB.out.size)⟩
          · have hris : RisB o := ris_adj fun t h1 => HADJ.out t h1 (by omega)
            have hbq := HBQ.out
            have hse2 := HSE.out.below hbq
            have HUS := Lib.hid (used_any o A c b2 _ hse2 (by omega) (by have := HU.out; omega))
            by_cases hu5 : usedP o ≤ 512
            · have HPT := Lib.hid (rput_any o A c b2 _ hse2 hu5 HIDS.out)
              have hu6 : ¬ 512 < usedP o := by omega
              have d1 : decide ((512 : Int) < (usedP o : Int)) = false := by simp; omega
              have HOE := Lib.hid (fun wz hb => owns_on HO.out (Only.of_below (ok := fun _ => False) (hbq.trans (Below.mono (w' := wz) hb hbq.size))) fun _ _ h => h)
              by_cases he : encP o = s
              · have hg5 : getP s = (some o, 0) := by rw [HD2.out, if_pos ⟨hris, hu5, he⟩]
                have HG5 := Lib.hid hg5
                rw [he] at HPT
                clear hg5 hris hse2 hbq he
                go_wp2_with (first
                  | (go_at_call 18; (with_reducible refine HUS.out.mono ?_); rintro e w5 ⟨rfl, rfl⟩)
                  | (go_at_call 19; (with_reducible refine HPT.out.mono ?_); rintro e w5 ⟨rfl, hb5⟩)
                  | fail)
                go_ret2
                rw [HG5.out]
                exact ⟨_, rfl, HOE.out _ hb5, HB.out.trans ((HBQ.out.trans (hb5.mono HBQ.out.size)).mono HB.out.size)⟩
              · have hg5 : getP s = (none, 6) := by rw [HD2.out, if_neg (fun hc => he hc.2.2)]
                have HG5 := Lib.hid hg5
                have b4 : (encP o == s) = false := by simpa using he
                clear hg5 hris hse2 hbq he
                generalize encP o = E at HPT b4
                go_wp2_with (first
                  | (go_at_call 18; (with_reducible refine HUS.out.mono ?_); rintro e w5 ⟨rfl, rfl⟩)
                  | (go_at_call 19; (with_reducible refine HPT.out.mono ?_); rintro e w5 ⟨rfl, hb5⟩)
                  | fail)
                go_ret2
                rw [HG5.out]
                exact ⟨_, rfl, World.ownsRow_nil _ _ _ _, HB.out.trans ((HBQ.out.trans (hb5.mono HBQ.out.size)).mono HB.out.size)⟩
            · have hng : getP s = (none, 6) := by
                rw [HD2.out, if_neg (fun hc => hu5 hc.2.1)]
              have HNG := Lib.hid hng
              have hu6 : 512 < usedP o := by omega
              have d1 : decide ((512 : Int) < (usedP o : Int)) = true := by simp; omega
              clear hng hris hse2 hbq
              go_wp2_with (first
                | (go_at_call 18; (with_reducible refine HUS.out.mono ?_); rintro e w5 ⟨rfl, rfl⟩)
                | fail)
              go_ret2
              rw [HNG.out]
              exact ⟨_, rfl, World.ownsRow_nil _ _ _ _, HB.out.trans (HBQ.out.mono HB.out.size)⟩

end Go.Proofs.Ytdfkahkomcfoeaa
