/- slices.Sort and slices.Sorted, of at most 12 numbers -/
import Derived.Test.YtkhhmmblkfogcaaSrtU
namespace Go.Proofs.Ytkhhmmblkfogcaa
open Go.ChangeShapes Go.WideShapes Go.ChangeAt Go.RowKit

theorem len_u12 (n : Nat) (hn : n < 256) (w : World) : Calls Try.prog 32 #[.int .u64 (n : Int)] w fun e w' => (∃ k : Int, e = .returned (.int .i64 k)) ∧ w' = w := by
  have HL := Lib.hid (len64_u n hn w)
  go_enter Try.func32, Try.ntmps32
  go_wp2_with (first
    | (go_at_call 43; refine HL.out.mono ?_; rintro e w' ⟨⟨k, rfl⟩, rfl⟩)
    | fail)
  go_ret
  exact ⟨⟨_, rfl⟩, rfl⟩

/-- an empty row is left alone -/
theorem isort_none (A : Option Addr) (cap : Nat) (w : World) : Calls Try.prog 33 #[.slice A 0 cap, .int .i64 0, .int .i64 0] w fun e w' => e = .returned (.tuple #[]) ∧ w' = w := by
  go_enter Try.func33, Try.ntmps33
  go_wp2_with fail
  go_loopg [6] 0 (fun g1 vi wr => vi = .int .i64 1 ∧ wr = w)
  case atStart => exact ⟨by go_num, rfl⟩
  case round =>
    obtain ⟨rfl, rfl⟩ := hrel
    go_wp2_with fail
    go_end0
    exact ⟨rfl, rfl⟩

set_option maxRecDepth 100000 in
set_option maxHeartbeats 2000000 in
theorem pdq_u (A : Option Addr) (n cap : Nat) (k : Int) (w : World) (hn : n ≤ 12) {Q : Ending → World → Prop} (hi : Calls Try.prog 33 #[.slice A n cap, .int .i64 0, .int .i64 n] w Q) (hQ : ∀ e w', Q e w' → e = .returned (.tuple #[])) :
    Calls Try.prog 31 #[.slice A n cap, .int .i64 0, .int .i64 n, .int .i64 k] w Q := by
  have HI := Lib.hid hi
  have HQ := Lib.hid hQ
  clear hi hQ
  go_enter Try.func31, Try.ntmps31
  go_wp2_with fail
  go_loopg [1, 2] 0 (fun g1 a b wr => a = .int .i64 0 ∧ b = .int .i64 n ∧ wr = w)
  case atStart => exact ⟨rfl, rfl, rfl⟩
  case round =>
    obtain ⟨rfl, rfl, rfl⟩ := hrel
    have hle : (n : Int) ≤ 12 := by omega
    go_wp2_with (first
      | (go_at_call 33; refine HI.out.mono ?_; intro e w' hq; obtain rfl := HQ.out e w' hq; have HQQ := Lib.hid hq; clear hq)
      | fail)
    go_end0
    exact HQQ.out

theorem sort_u {base : Nat} {v : Value} {xs : List Nat} {w : World} (h : w.ownsRow base 22 1 v xs.length (xs.map encU)) (hl : xs.length ≤ 12) :
    Calls Try.prog 27 #[v] w fun e w' => e = .returned (.tuple #[]) ∧ ∃ ys : List Nat, ys.Perm xs ∧ ys.Pairwise (· ≤ ·) ∧ w'.ownsRow base 22 1 v xs.length (ys.map encU) ∧ Only (fun k => base ≤ k) w w' := by
  obtain ⟨n, hn⟩ : ∃ n, xs.length = n := ⟨_, rfl⟩
  have HB : ∃ A cap, v = .slice A n cap ∧ Calls Try.prog 33 #[.slice A n cap, .int .i64 0, .int .i64 n] w fun e w' => e = .returned (.tuple #[]) ∧ ∃ ys : List Nat, ys.Perm xs ∧ ys.Pairwise (· ≤ ·) ∧ w'.ownsRow base 22 1 v xs.length (ys.map encU) ∧ Only (fun k => base ≤ k) w w' := by
    rcases h.2 with ⟨rfl, h0⟩ | ⟨g, cap, cur, rfl, hbg, hg, hnc, hcm, hcs, htake⟩
    · have e : xs = [] := List.eq_nil_of_length_eq_zero h0
      subst e
      simp at hn; subst hn
      refine ⟨none, 0, rfl, (isort_none none 0 w).mono ?_⟩
      rintro e w' ⟨rfl, rfl⟩
      exact ⟨rfl, [], List.Perm.refl _, List.Pairwise.nil, h, Only.refl _ _⟩
    · refine ⟨some ⟨g, 0, none⟩, cap, by rw [hn], ?_⟩
      have hcur : cur = (xs.map encU ++ cur.toList.drop xs.length).toArray := by
        apply Array.toList_inj.1
        have := List.take_append_drop xs.length cur.toList
        rw [Nat.mul_one] at htake
        rw [htake] at this
        exact this.symm
      have hr : RowN g (cur.toList.drop xs.length) xs w := by
        unfold RowN
        rw [← hcur]; exact hg
      have hI := isort_u xs _ g cap w hr hl
      rw [hn] at hI
      refine hI.mono ?_
      rintro e w' ⟨rfl, ys, h1, h2, h3, h4⟩
      have hyl : ys.length = xs.length := h1.length_eq
      refine ⟨rfl, ys, h1, h2, ⟨by simp [hyl], .inr ⟨g, cap, _, rfl, hbg, h3, hnc, hcm, ?_, ?_⟩⟩, h4.mono fun k _ hk => by rw [hk]; exact hbg⟩
      · have := congrArg Array.size hcur
        simp at this
        simp only [List.size_toArray, List.length_append, List.length_map, List.length_drop, hyl]
        rw [← hcs]; simp; omega
      · rw [Nat.mul_one, List.take_append_of_le_length (by simp [hyl]), List.take_of_length_le (by simp [hyl])]
  obtain ⟨A, cap, rfl, hI⟩ := HB
  have HP := Lib.hid (fun k : Int => pdq_u A n cap k w (by omega) hI (fun e w' h => h.1))
  have HL := Lib.hid (len_u12 n (by omega) w)
  have hn0 : (n : Int) % 18446744073709551616 = n := by omega
  clear h hI hn hl
  go_enter Try.func27, Try.ntmps27
  go_wp2_with (first
    | (go_at_call 32; refine HL.out.mono ?_; rintro e w' ⟨⟨k, rfl⟩, rfl⟩)
    | (go_at_call 31; refine (HP.out _).mono ?_; rintro e w' ⟨rfl, HQ⟩; have HQQ := Lib.hid HQ; clear HQ)
    | fail)
  go_end0
  exact ⟨rfl, HQQ.out⟩

theorem sorted_u {g : Nat} {lb : Array Value} (eg : ∀ args w, (callFunc g args).run Try.prog w = .ok (.enter g args) w) {S : List Nat → Prop} {N : Nat} (hN : N ≤ 1000000) (hS : ∀ ss, S ss → ss.length ≤ 12) {w : World}
    (hseq : SeqStopsK Fence.wide 1 Try.prog g lb (fun a : Nat => #[Value.int .u64 (a : Int)]) KeepsWalks S (fun _ => True) N w) :
    Calls Try.prog 20 #[.func (.func g) #[] lb] w fun e w' => ∃ (v : Value) (ss ys : List Nat), e = .returned v ∧ S ss ∧ ys.Perm ss ∧ ys.Pairwise (· ≤ ·) ∧ w'.ownsRow w.heap.size 22 1 v ys.length (ys.map encU) ∧ (v = .slice none 0 0 ↔ ys = []) ∧ Below w.heap.size w w' := by
  have HC := Lib.hid (collect_any eg hN hseq)
  have HS := Lib.hid hS
  clear hseq hS
  go_enter Try.func20, Try.ntmps20
  go_wp2_with (first
    | (go_at_call 26; refine HC.out.mono ?_; rintro e w1 ⟨v, ss, rfl, h1, h2, h3, h4⟩; have HR := Lib.hid h2; have H3 := Lib.hid h3; have H4 := Lib.hid h4; have H1 := Lib.hid h1; clear h1 h2 h3 h4)
    | (go_at_call 27; refine (sort_u HR.out (HS.out _ H1.out)).mono ?_; rintro e w2 ⟨rfl, ys, k1, k2, k3, k4⟩; have K3 := Lib.hid k3; have K4 := Lib.hid k4; have K1 := Lib.hid k1; have K2 := Lib.hid k2; clear k1 k2 k3 k4)
    | fail)
  go_ret
  have hyl := K1.out.length_eq
  refine ⟨v, ss, ys, rfl, H1.out, K1.out, K2.out, by rw [hyl]; exact K3.out, ?_, H4.out.trans (K4.out.below H4.out.size (fun k hk => hk))⟩
  rw [H3.out]
  constructor
  · rintro rfl; exact K1.out.eq_nil
  · rintro rfl; exact K1.out.symm.eq_nil

/-- slices.Sorted(maps.Keys(m)) -/
theorem sorted_keys_c {β : Type} {V : Nat → β → Value} {l : List (Nat × β)} {b : Nat} {w : World} (h : OwnU w b V l) (hl : l.length ≤ 12) :
    Calls Try.prog 20 #[.func (.func 28) #[] #[.pointer (some ⟨w.heap.size, 0, none⟩)]] (w.alloc (.cells #[.map (some b)] 43)) fun e w' =>
      ∃ v, e = .returned v ∧ w'.ownsRow (w.heap.size + 1) 22 1 v l.length (l.map fun p => encU p.1) ∧ (v = .slice none 0 0 ↔ l = []) ∧ Below w.heap.size w w' := by
  have hb : Below w.heap.size w (w.alloc (.cells #[.map (some b)] 43)) := (Below.refl _ w).alloc (Nat.le_refl _) _
  refine (sorted_u (enters_of Try.func28 (by kernel_rfl) rfl) (by omega) (fun ss h => by rw [h.length_eq, List.length_map]; exact hl)
    (keys_stops_c (V := V) (l := l) w.heap.size b _ (by simp) (by simp) (h.keep (hb.block b h.lt)))).mono ?_
  rintro e w' ⟨v, ss, ys, rfl, h1, h2, h3, h4, h5, h6⟩
  have e : ys = l.map (·.1) := by
    refine List.Perm.eq_of_pairwise (le := (· ≤ ·)) (by intro a b _ _ h1 h2; omega) h3 ?_ (h2.trans h1)
    rw [List.pairwise_map]
    exact h.ris.imp fun h => by omega
  subst e
  simp only [List.length_map, List.map_map, World.size_alloc] at h4 h6
  refine ⟨v, rfl, h4, by rw [h5]; simp, hb.trans (h6.mono (by omega))⟩

theorem sorted_keys_nc (w : World) :
    Calls Try.prog 20 #[.func (.func 28) #[] #[.pointer (some ⟨w.heap.size, 0, none⟩)]] (w.alloc (.cells #[.map none] 43)) fun e w' =>
      e = .returned (.slice none 0 0) ∧ Below w.heap.size w w' := by
  have hb : Below w.heap.size w (w.alloc (.cells #[.map none] 43)) := (Below.refl _ w).alloc (Nat.le_refl _) _
  refine (sorted_u (enters_of Try.func28 (by kernel_rfl) rfl) (Nat.zero_le _) (fun ss h => by rw [h]; simp)
    (keys_stops_nc w.heap.size _ (by simp) (by simp))).mono ?_
  rintro e w' ⟨v, ss, ys, rfl, h1, h2, h3, h4, h5, h6⟩
  subst h1
  have e := h2.eq_nil
  refine ⟨by rw [h5.2 e], hb.trans (h6.mono (by simp))⟩

end Go.Proofs.Ytkhhmmblkfogcaa
