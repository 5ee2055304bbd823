/- a transaction in memory: Changes; nil transactions -/
import Derived.Test.YtkhhmmblkfogcaaTxC
import Derived.Deep.LoopGhost
import Derived.OwnWalk
namespace Go.Proofs.Ytkhhmmblkfogcaa
open Go.ChangeShapes Go.WideShapes Go.ChangeAt Go.RowKit

/-- the cells of a row of changes -/
def cellsC : List (Nat × Ch) → List Value
  | [] => []
  | r :: t => .int .u64 (r.1 : Int) :: .string r.2.s :: .bool r.2.gone :: cellsC t

theorem cellsC_len : ∀ l : List (Nat × Ch), (cellsC l).length = l.length * 3
  | [] => rfl
  | r :: t => by simp only [cellsC, List.length_cons, cellsC_len t]; omega

theorem cellsC_app : ∀ a b : List (Nat × Ch), cellsC (a ++ b) = cellsC a ++ cellsC b
  | [], _ => rfl
  | r :: t, b => by simp only [List.cons_append, cellsC, cellsC_app t b]

theorem cellsC_one : ∀ (l : List (Nat × Ch)) (u : Value), u ∈ cellsC l → u.oneCell' = true
  | r :: t, u, h => by
    simp only [cellsC, List.mem_cons] at h
    rcases h with rfl | rfl | rfl | h
    · rfl
    · rfl
    · rfl
    · exact cellsC_one t u h

theorem cellsC_at : ∀ (l : List (Nat × Ch)) (j : Nat) (hj : j < l.length), (cellsC l)[j * 3]? = some (.int .u64 (l[j].1 : Int)) ∧ (cellsC l)[j * 3 + 1]? = some (.string l[j].2.s) ∧ (cellsC l)[j * 3 + 2]? = some (.bool l[j].2.gone)
  | r :: t, 0, _ => ⟨rfl, rfl, rfl⟩
  | r :: t, j + 1, hj => by
    have := cellsC_at t j (by simpa using hj)
    rw [show (j + 1) * 3 = j * 3 + 3 by omega]
    simpa [cellsC] using this

theorem info_ch : (Try.prog.info? 38).map (fun i => (i.zero, i.size, i.bytes)) = some (some (.agg #[.int .u64 0, .string noB, .bool false]), 3, 32) := by kernel_rfl

theorem changes_nil (w : World) : Calls Try.prog 10 #[.pointer none] w fun e w' => e = .returned (.slice none 0 0) ∧ w = w' := by
  go_enter Try.func10, Try.ntmps10
  go_wp2_with fail
  go_ret
  exact ⟨rfl, rfl⟩

theorem put_nil (a : Int) (s : ByteArray) (w : World) : Calls Try.prog 5 #[.pointer none, .int .u64 a, .string s] w fun e w' => e = .returned (.tuple #[]) ∧ w = w' := by
  go_enter Try.func5, Try.ntmps5
  go_wp2_with fail
  refine bodyPost_ret (results_none rfl _ _ _) rfl ?_
  exact ⟨rfl, rfl⟩

theorem get_nil (a : Int) (w : World) : Calls Try.prog 6 #[.pointer none, .int .u64 a] w fun e w' => e = .returned (.tuple #[.string noB, .bool false]) ∧ w = w' := by
  go_enter Try.func6, Try.ntmps6
  go_wp2_with fail
  go_ret2
  exact ⟨rfl, rfl⟩

theorem drop_nil (a : Int) (w : World) : Calls Try.prog 9 #[.pointer none, .int .u64 a] w fun e w' => e = .returned (.bool false) ∧ w = w' := by
  have HG := Lib.hid (get_nil a w)
  go_enter Try.func9, Try.ntmps9
  go_wp2_with (first
    | (go_at_call 6; refine HG.out.mono ?_; rintro e w1 ⟨rfl, rfl⟩)
    | fail)
  go_ret
  exact ⟨rfl, rfl⟩

theorem copy_nil (w : World) : Calls Try.prog 11 #[.pointer none] w fun e w' => e = .returned (.pointer none) ∧ w = w' := by
  go_enter Try.func11, Try.ntmps11
  go_wp2_with fail
  go_ret
  exact ⟨rfl, rfl⟩

/-- a row of keys, one by one -/
theorem keys_at {base : Nat} {v : Value} {l : List (Nat × Ch)} {w : World} (h : w.ownsRow base 22 1 v l.length (l.map fun p => encU p.1)) : ∃ A cap, v = .slice A l.length cap ∧ ∀ i (hi : i < l.length), ∃ g, A = some ⟨g, 0, none⟩ ∧ w.cell? ⟨g, i, none⟩ = some (.int .u64 (l[i].1 : Int)) := by
  rcases h.2 with ⟨rfl, h0⟩ | ⟨g, cap, cur, rfl, hbg, hg, hnc, hcm, hcs, htake⟩
  · exact ⟨none, 0, by rw [h0], fun i hi => absurd hi (by omega)⟩
  · refine ⟨some ⟨g, 0, none⟩, cap, rfl, fun i hi => ⟨g, rfl, ?_⟩⟩
    rw [cell_of_row _ _ _ _ _ _ hg, ← Array.getElem?_toList]
    have : (cur.toList.take (l.length * 1))[i]? = (l.map fun p => encU p.1)[i]? := by rw [htake]
    rw [List.getElem?_take, if_pos (by omega)] at this
    rw [this, List.getElem?_map, List.getElem?_eq_getElem hi]; rfl

theorem owns_keep {w w' : World} {n : Nat} {e : TypeId} {size : Nat} {v : Value} {k : Nat} {xs : List Value} (h : w.ownsRow n e size v k xs) (hb : Below w.heap.size w w') : w'.ownsRow n e size v k xs := by
  refine ⟨h.1, ?_⟩
  rcases h.2 with h2 | ⟨g, cap, cur, rfl, hbg, hg, r⟩
  · exact .inl h2
  · exact .inr ⟨g, cap, cur, rfl, hbg, (hb.block g (Array.getElem?_eq_some_iff.1 hg).1).trans hg, r⟩

theorem owns_mono {w : World} {n m : Nat} {e : TypeId} {size : Nat} {v : Value} {k : Nat} {xs : List Value} (h : w.ownsRow n e size v k xs) (hm : m ≤ n) : w.ownsRow m e size v k xs := by
  refine ⟨h.1, ?_⟩
  rcases h.2 with h2 | ⟨g, cap, cur, rfl, hbg, r⟩
  · exact .inl h2
  · exact .inr ⟨g, cap, cur, rfl, Nat.le_trans hm hbg, r⟩

theorem owns_slice {w : World} {base : Nat} {e : TypeId} {size : Nat} {v : Value} {n : Nat} {xs : List Value} (h : w.ownsRow base e size v n xs) : ∃ A c, v = .slice A n c := by
  rcases h.2 with ⟨rfl, h0⟩ | ⟨g, cap, cur, rfl, -⟩
  · exact ⟨none, 0, by rw [h0]⟩
  · exact ⟨_, _, rfl⟩

theorem cells3' {W : World} {g : Nat} {a b c : Value} (t : TypeId) (hg : g = W.heap.size) : ∀ j u, [a, b, c][j]? = some u → (W.alloc (.cells #[a, b, c] t)).cell? ((⟨g, 0, none⟩ : Addr).add j) = some u := by
  subst hg
  intro j u hu
  rw [adr_add, cell_of_row _ _ _ _ _ _ (heap_alloc_last W _), Nat.zero_add, ← hu]
  simp

set_option maxRecDepth 100000 in
set_option maxHeartbeats 1000000 in
theorem changes_any {w : World} {T : Nat} {M : Option Nat} {b : Value} {l : List (Nat × Ch)} (h : IsTx w T M b l) (hl : l.length ≤ 12) :
    Calls Try.prog 10 #[.pointer (some ⟨T, 0, none⟩)] w fun e w' => ∃ v, e = .returned v ∧ w'.ownsRow w.heap.size 38 3 v l.length (cellsC l) ∧ Below w.heap.size w w' := by
  have c1 : w.cell? ⟨T, 1, none⟩ = some (.map M) := by rw [cell_of_row _ _ _ _ _ _ h.box]; rfl
  have HT := Lib.hid h
  have HK := Lib.hid (keys_calls M w)
  have HS : Hid (Calls Try.prog 20 #[.func (.func 28) #[] #[.pointer (some ⟨w.heap.size, 0, none⟩)]] (w.alloc (.cells #[.map M] 43)) fun e w' =>
      ∃ v, e = .returned v ∧ w'.ownsRow (w.heap.size + 1) 22 1 v l.length (l.map fun p => encU p.1) ∧ Below w.heap.size w w') := by
    rcases h.map with ⟨rfl, rfl⟩ | ⟨m, rfl, hm⟩
    · refine Lib.hid ((sorted_keys_nc w).mono ?_)
      rintro e w' ⟨rfl, hb⟩
      exact ⟨_, rfl, World.ownsRow_nil _ _ _ _, hb⟩
    · refine Lib.hid ((sorted_keys_c hm hl).mono ?_)
      rintro e w' ⟨v, rfl, h1, -, h3⟩
      exact ⟨v, rfl, h1, h3⟩
  obtain ⟨n, hn⟩ : ∃ n, l.length = n := ⟨_, rfl⟩
  have HN := Lib.hid hn
  have hn12 : n ≤ 12 := by omega
  obtain ⟨i0, hi, hz0, hz1, hz2⟩ := info_parts info_ch
  have Hi := Lib.hid hi; have H0 := Lib.hid hz0; have H1 := Lib.hid hz1; have H2 := Lib.hid hz2
  clear hi hz0 hz1 hz2 h hl hn
  go_enter Try.func10, Try.ntmps10
  go_wp2_with (first
    | (go_at_call 21; refine HK.out.mono ?_; rintro e w0 ⟨rfl, rfl⟩)
    | (go_at_call 20; refine HS.out.mono ?_; rintro e w1 ⟨v, rfl, hr1, hb1⟩; obtain ⟨A, cap, rfl, hat⟩ := keys_at hr1; have HB1 := Lib.hid hb1; have HA := Lib.hid hat; rw [HN.out]; clear hr1 hb1 hat)
    | fail)
  have ht1 := HT.out.on HB1.out
  have HT1 := Lib.hid ht1
  have hz1 : w.heap.size ≤ w1.heap.size := HB1.out.size
  clear ht1
  go_loopg [3, 16] n (fun g lv iv wr => ∃ i : Nat, iv = .int .i64 i ∧ i ≤ n ∧ n - i ≤ g ∧ Hid (wr.ownsRow w1.heap.size 38 3 lv i (cellsC (l.take i))) ∧ Hid (Below w1.heap.size w1 wr))
  case atStart => exact ⟨0, rfl, Nat.zero_le _, by omega, World.ownsRow_nil _ _ _ _, Below.refl _ _⟩
  case round =>
    obtain ⟨i, rfl, hi, hg, HR, HB⟩ := hrel
    by_cases hlt : i < n
    · have hil : i < l.length := by rw [HN.out]; exact hlt
      obtain ⟨g, rfl, hk⟩ := HA.out i hil
      obtain ⟨⟨a, ⟨s, gn⟩⟩, hp⟩ : ∃ p, l[i] = p := ⟨_, rfl⟩
      have hmem : (a, (⟨s, gn⟩ : Ch)) ∈ l := by rw [← hp]; exact List.getElem_mem _
      have htr := HT1.out.on HB.out
      obtain ⟨ha, hsz, -⟩ := htr.ok _ hmem
      simp only at ha hsz
      rw [hp] at hk
      simp only at hk
      have kk : wr.cell? ⟨g, i, none⟩ = some (.int .u64 (a : Int)) := (HB.out.cell (World.block_lt_of_cell? w1 _ hk)).trans hk
      have ct : wr.cell? ⟨T, 1, none⟩ = some (.map M) := by rw [cell_of_row _ _ _ _ _ _ htr.box]; rfl
      have hlook : (Instr.lookup 43 (.map M) (.int .u64 (a : Int)) false).run Try.prog wr = .ok (.agg #[.int .u64 (a : Int), .string s, .bool gn]) wr := by
        rcases htr.map with ⟨rfl, rfl⟩ | ⟨m, rfl, hm⟩
        · simp at hmem
        · have := look_u hm Try.underlying43 (zero_ch wr) ha false
          rw [getU_of_mem htr.ris hmem] at this
          rw [this]; rfl
      have HP := Lib.hid hp
      have HC := Lib.hid (fun W => cloneB s W hsz)
      clear htr hk hmem hp hsz ha
      obtain ⟨A2, c2, rfl⟩ := owns_slice HR.out
      have hzr : w1.heap.size ≤ wr.heap.size := HB.out.size
      go_wp2_with (first
        | (go_at_call 19; refine (HC.out _).mono ?_; rintro e w2 ⟨rfl, hb2⟩; obtain ⟨hcl, hfr⟩ := bcell rfl hb2; have HB2 := Lib.hid ((((Below.refl _ wr).alloc (Nat.le_refl _) (.cells #[.int .u64 (a : Int), .string s, .bool gn] 38)).trans (hb2.mono (by simp))).setCell (p := ⟨wr.heap.size, 1, none⟩) (Nat.le_refl _) (.string s)))
        | (at_builtin; refine wpList_append_own _ rfl _ _ 30 rfl w1.heap.size 38 i0 _ 3 32 Try.underlying30 Hi.out H0.out H1.out H2.out rfl (by decide) _ _ _ rfl (owns_keep HR.out (HB2.out.alloc HB2.out.size _)) ⟨w2.heap.size, 0, none⟩ 1 1 [.int .u64 (a : Int), .string s, .bool gn] rfl rfl ?c1 ?c2 ?c3 ?c4 ?c5 ?_)
        | fail)
      case c1 => exact cells3' 38 (by simp [World.setCell])
      case c2 => simp [Value.oneCell']
      case c3 => unfold maxLen; omega
      case c4 => omega
      case c5 => have := HB2.out.size; simp [World.setCell] at this ⊢; omega
      intro v' w4 hown' hgrow _
      have HF : Hid (w4.ownsRow w1.heap.size 38 3 v' (i + 1) (cellsC (l.take (i + 1)))) := Lib.hid (by
        rw [List.take_succ_eq_append_getElem hil, HP.out, cellsC_app]
        exact hown')
      have HBF : Hid (Below w1.heap.size w1 w4) := Lib.hid (HB.out.trans (((HB2.out.alloc HB2.out.size _).mono hzr).grown hgrow (by have := HB2.out.size; simp [World.setCell] at this ⊢; omega) (fun k e => (HR.out.lt k e).1)))
      clear hown' hgrow
      go_wp2_with fail
      go_roundg (n - (i + 1))
      case measure => omega
      case rel => exact ⟨i + 1, by go_num, by omega, Nat.le_refl _, HF.out, HBF.out⟩
    · obtain rfl : i = n := by omega
      go_wp2_with fail
      go_ret
      have e : l.take i = l := List.take_of_length_le (by rw [HN.out]; omega)
      have hr := HR.out
      rw [e] at hr
      exact ⟨_, rfl, owns_mono (by rw [HN.out]; exact hr) hz1, HB1.out.trans (HB.out.mono hz1)⟩

end Go.Proofs.Ytkhhmmblkfogcaa
