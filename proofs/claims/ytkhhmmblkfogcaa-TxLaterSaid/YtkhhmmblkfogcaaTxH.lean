/- layer 9: base, Apply, same -/
import Derived.Test.YtkhhmmblkfogcaaTxG
namespace Go.Proofs.Ytkhhmmblkfogcaa
open Go.ChangeShapes Go.WideShapes Go.ChangeAt Go.RowKit

/-- one change appended to a row of the call's own -/
theorem app_chR {n : Nat} {wn : World} {A : Option Addr} {c i : Nat} {o : List (Nat × Ch)} (h1 : wn.ownsRow n 38 3 (.slice A i c) i (cellsC o)) (h2 : n ≤ wn.heap.size) (hi : i ≤ 100000) (a : Nat) (s : ByteArray) (g : Bool) :
    ∃ A' c' w2, (∀ ty, (Builtin.append_ #[30, 30] ty #[.slice A i c, .slice (some ⟨wn.heap.size, 0, none⟩) 1 1]).run Try.prog (wn.alloc (.cells #[.int .u64 (a : Int), .string s, .bool g] 38)) = .ok (.slice A' (i + 1) c') w2) ∧
      w2.ownsRow n 38 3 (.slice A' (i + 1) c') (i + 1) (cellsC (o ++ [(a, ⟨s, g⟩)])) ∧ Below n wn w2 := by
  obtain ⟨i0, hi0, hz0, hz1, hz2⟩ := info_parts info_ch
  have hb1 : Below wn.heap.size wn (wn.alloc (.cells #[.int .u64 (a : Int), .string s, .bool g] 38)) := (Below.refl _ wn).alloc (Nat.le_refl _) _
  have hown := owns_keep h1 hb1
  have key := fun ty => run_append_own (P := Try.prog) (wn.alloc (.cells #[.int .u64 (a : Int), .string s, .bool g] 38)) n 30 ty 38 i0 _ 3 32 Try.underlying30 hi0 hz0 hz1 hz2 rfl (by decide) _ i (cellsC o) hown ⟨wn.heap.size, 0, none⟩ 1 1 (cellsC [(a, ⟨s, g⟩)]) rfl
    (fun j u hj => cells3' 38 rfl j u hj) (cellsC_one [(a, ⟨s, g⟩)]) (by unfold maxLen; omega) (by omega) (by have := hb1.size; omega)
  obtain ⟨v', w2, hr, hown', hgr, -⟩ := key 0
  have hlt := hown.lt
  rcases hown'.2 with ⟨-, h0⟩ | ⟨g, cap, cur, rfl, -⟩
  · omega
  · refine ⟨some ⟨g, 0, none⟩, cap, w2, fun ty => hr, by rw [cellsC_app]; exact hown', ?_⟩
    exact (hb1.mono h2).grown hgr (by have := hb1.size; omega) fun g hg => (hlt g hg).1

/-- what base takes -/
def keepB (x : Nat × Ch) : Bool := !x.2.gone && decide (x.1 < 8)

def baseL (cs : List (Nat × Ch)) : List (Nat × ByteArray) := doL [] ((cs.take 12).filter keepB)

theorem made_emptyC (w : World) : (w.alloc (.cells #[] 38)).ownsRow w.heap.size 38 3 (.slice (some ⟨w.heap.size, 0, none⟩) 0 0) 0 (cellsC []) := World.ownsRow_made w #[] 0 (Nat.le_refl _) (Nat.zero_le _) (by simp)

set_option maxRecDepth 100000 in
set_option maxHeartbeats 1000000 in
theorem base_any {w : World} {A : Option Addr} {cap m : Nat} {cs : List (Nat × Ch)} (hc : IsChs w A cs) (hm : cs.length = m) :
    Calls Try.prog 12 #[.slice A m cap] w fun e w' => ∃ A' n' c', e = .returned (.slice A' n' c') ∧ IsRecs w' (.slice A' n' c') (baseL cs) ∧ (baseL cs).length = n' ∧ Below w.heap.size w w' := by
  have hm63 : m ≤ 9223372036854775807 := hm ▸ hc.1
  have HC := Lib.hid hc; have HM := Lib.hid hm
  have HE : Hid ((w.alloc (.cells #[] 38)).ownsRow w.heap.size 38 3 (.slice (some ⟨w.heap.size, 0, none⟩) 0 0) 0 (cellsC [])) := Lib.hid (made_emptyC w)
  have HBE : Hid (Below w.heap.size w (w.alloc (.cells #[] 38))) := Lib.hid ((Below.refl _ w).alloc (Nat.le_refl _) _)
  clear hc hm
  go_enter Try.func12, Try.ntmps12
  go_wp2_with fail
  go_loopg [3, 4] 12 (fun g ov iv wr => ∃ (i : Nat) (Ao : Option Addr) (co no : Nat) (out : List (Nat × Ch)), iv = .int .i64 i ∧ ov = .slice Ao no co ∧ i ≤ m ∧ i ≤ 12 ∧ 12 - i ≤ g ∧ no ≤ i ∧ Hid ((cs.take i).filter keepB = out ∧ out.length = no) ∧ Hid (wr.ownsRow w.heap.size 38 3 (.slice Ao no co) no (cellsC out)) ∧ Hid (Below w.heap.size w wr))
  case atStart => exact ⟨0, _, _, 0, [], rfl, rfl, Nat.zero_le _, Nat.zero_le _, by omega, Nat.le_refl _, ⟨rfl, rfl⟩, HE.out, HBE.out⟩
  case round =>
    obtain ⟨i, Ao, co, no, out, rfl, rfl, hi, hi12, hg, hno, HF, HO, HB⟩ := hrel
    have OUT : Hid ((¬ (i < m ∧ i < 12)) → ((cs.take 12).filter keepB = out ∧ out.length = no)) := Lib.hid (fun hnot => by
      have : cs.take i = cs.take 12 := by
        have h1 := HM.out
        by_cases h : i = 12
        · rw [h]
        · rw [List.take_of_length_le (by omega), List.take_of_length_le (by omega)]
      rw [← this]; exact HF.out)
    by_cases hlt : i < m ∧ i < 12
    · obtain ⟨hlm, hl12⟩ := hlt
      have hil : i < cs.length := by rw [HM.out]; exact hlm
      obtain ⟨⟨id, ⟨s, gn⟩⟩, hx⟩ : ∃ x, cs[i] = x := ⟨_, rfl⟩
      obtain ⟨b, o, rfl, hbl, k0, k1, k2⟩ := (HC.out.on rfl HB.out).at hil hx
      simp only at k0 k1 k2
      have hlz : (i : Int) < (m : Int) := by omega
      have hlz12 : (i : Int) < 12 := by omega
      have HTK : Hid ((cs.take (i + 1)).filter keepB = if keepB (id, ⟨s, gn⟩) then out ++ [(id, ⟨s, gn⟩)] else out) := Lib.hid (by
        rw [List.take_succ_eq_append_getElem hil, List.filter_append, hx, HF.out.1]
        cases hk : keepB (id, ⟨s, gn⟩) <;> simp [hk])
      clear hx hil hbl
      cases gn with
      | true =>
        have HK : Hid ((cs.take (i + 1)).filter keepB = out) := Lib.hid (by rw [HTK.out]; rfl)
        clear HTK
        go_wp2_with fail
        go_roundg (12 - (i + 1))
        case measure => omega
        case rel => exact ⟨i + 1, _, co, no, out, by go_num, rfl, by omega, by omega, Nat.le_refl _, by omega, ⟨HK.out, HF.out.2⟩, HO, HB⟩
      | false =>
        by_cases h8 : id < 8
        · have h8z : (id : Int) < 8 := by omega
          have HK : Hid ((cs.take (i + 1)).filter keepB = out ++ [(id, ⟨s, false⟩)]) := Lib.hid (by rw [HTK.out]; simp [keepB, h8])
          obtain ⟨A2, c2, w2, hr, hown, hbel⟩ := app_chR (wn := wr) (o := out) HO.out HB.out.size (by omega) id s false
          have HO2 := Lib.hid hown; have HB2 := Lib.hid (HB.out.trans hbel)
          clear HTK hown hbel
          go_wp2_with (first
            | (at_builtin; refine Lib.wpList_append_run _ rfl _ _ _ _ rfl _ _ rfl rfl _ _ (hr _) ?_)
            | fail)
          go_roundg (12 - (i + 1))
          case measure => omega
          case rel => exact ⟨i + 1, A2, c2, no + 1, out ++ [(id, ⟨s, false⟩)], by go_num, rfl, by omega, by omega, Nat.le_refl _, by omega, ⟨HK.out, by rw [List.length_append, HF.out.2]; rfl⟩, HO2, HB2⟩
        · have h8z : ¬ (id : Int) < 8 := by omega
          have HK : Hid ((cs.take (i + 1)).filter keepB = out) := Lib.hid (by rw [HTK.out]; simp [keepB, h8])
          clear HTK
          go_wp2_with fail
          go_roundg (12 - (i + 1))
          case measure => omega
          case rel => exact ⟨i + 1, _, co, no, out, by go_num, rfl, by omega, by omega, Nat.le_refl _, by omega, ⟨HK.out, HF.out.2⟩, HO, HB⟩
    · have HFF := Lib.hid (OUT.out hlt)
      have hch : IsChs wr Ao out ∧ no = out.length := owns_chs (by rw [HFF.out.2]; exact HO.out) (by have := HFF.out.2; omega) (fun x hx => by
        rw [← HFF.out.1] at hx
        exact HC.out.2.1 x (List.mem_of_mem_take (List.mem_filter.1 hx).1))
      have hnil : IsRecs wr (.slice none 0 0) [] := ⟨none, 0, rfl, by simp, .inl rfl⟩
      have HD := Lib.hid (do_any hnil List.Pairwise.nil (cap := co) hch.1 HFF.out.2 (by simp) (by omega))
      have HBL : Hid (doL [] out = baseL cs) := Lib.hid (by unfold baseL; rw [HFF.out.1])
      rw [HBL.out] at HD
      clear OUT hch hnil
      by_cases hlm : i < m
      · have hlz : (i : Int) < (m : Int) := by omega
        have hlz12 : ¬ (i : Int) < 12 := by omega
        go_wp2_with (first
          | (go_at_call 15; (with_reducible refine HD.out.mono ?_); rintro e w2 ⟨A', n', c', rfl, h1, h2, h3⟩; have H1 := Lib.hid h1; have H2 := Lib.hid h2; have H3 := Lib.hid h3; clear h1 h2 h3)
          | fail)
        go_ret
        exact ⟨A', n', c', rfl, H1.out, H2.out, HB.out.trans (H3.out.mono HB.out.size)⟩
      · have hlz : ¬ (i : Int) < (m : Int) := by omega
        go_wp2_with (first
          | (go_at_call 15; (with_reducible refine HD.out.mono ?_); rintro e w2 ⟨A', n', c', rfl, h1, h2, h3⟩; have H1 := Lib.hid h1; have H2 := Lib.hid h2; have H3 := Lib.hid h3; clear h1 h2 h3)
          | fail)
        go_ret
        exact ⟨A', n', c', rfl, H1.out, H2.out, HB.out.trans (H3.out.mono HB.out.size)⟩

end Go.Proofs.Ytkhhmmblkfogcaa
