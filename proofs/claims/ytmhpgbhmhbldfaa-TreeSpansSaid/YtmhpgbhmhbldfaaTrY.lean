/- the way, walked -/
import Derived.Test.YtmhpgbhmhbldfaaTrX
import Derived.Deep.LoopGhost
namespace Go.Proofs.Ytmhpgbhmhbldfaa
open Go.ChangeShapes Go.WideShapes Go.ChangeAt Go.RowKit

/-- over no root -/
theorem way_zero {w : World} {t : Nat} {laid gone : Option Nat} {next : Nat} {lent : Bool} (h : IsT w t laid gone 0 next lent) (k : ByteArray) :
    Calls Try.prog 18 #[.pointer (some ⟨t, 0, none⟩), .string k] w fun e w' => e = .returned (.tuple #[.slice none 0 0, .bool false]) ∧ Below w.heap.size w w' := by
  obtain ⟨⟨-, -, -, x3, -, -⟩, -, -⟩ := h.cells
  clear h
  go_enter Try.func18, Try.ntmps18
  go_wp2_with fail
  go_ret2
  exact ⟨rfl, Below.refl _ _⟩

/-- on the way -/
def OnWay (w wr : World) (bad : Nat → Prop) (T : B ByteArray) (k : ByteArray) (z : List (Fr ByteArray)) (c : B ByteArray) (N : Nat) (v : Value) : Prop :=
  plug z c = T ∧ GoodZ z ∧ (∀ f ∈ z, f.at_ = placeK ltS k f.keys ∧ k ∉ f.keys) ∧ Linked z c.id ∧ ∃ l, OwSt wr N v l.reverse ∧ Steps w bad l z

set_option maxHeartbeats 4000000 in
set_option maxRecDepth 100000 in
theorem way_c {w : World} {t M G : Nat} {next : Nat} {lent : Bool} {laid : List (Nat × Value)} {bad : Nat → Prop} {T : B ByteArray} (h : IsT w t (some M) (some G) T.id next lent) (hM : OwnU w M VNo laid) (hi : Inv w bad laid next T) (hn : next < 1000000) (hfl : T.flat.length ≤ 60) (k : ByteArray) :
    Calls Try.prog 18 #[.pointer (some ⟨t, 0, none⟩), .string k] w (WayEnd w bad T k) := by
  have hroot : 1 ≤ T.id := (hi.low _ (node_mem T)).1
  obtain ⟨⟨x0, x1, x2, x3, x4, x5⟩, -, xl⟩ := h.cells
  have hr0 : ¬ ((T.id : Int) = 0) := by omega
  have hr1 : ((T.id : Int) == 0) = false := by simpa using hr0
  have H := Lib.hid h; have HM := Lib.hid hM; have HI := Lib.hid hi; have HN := Lib.hid hn; have HF := Lib.hid hfl; have XL := Lib.hid xl
  clear h hM hi hn hfl hroot xl
  go_enter Try.func18, Try.ntmps18
  go_wp2_with fail
  go_loopg [6, 7, 8] (T.flat.length + 1) (fun g v6 v7 v8 wr => Hid (Below w.heap.size w wr) ∧ ((∃ z c, v7 = .int .u64 (c.id : Int) ∧ v8 = .bool true ∧ T.flat.length - z.length + 1 ≤ g ∧ Hid (OnWay w wr bad T k z c w.heap.size v6)) ∨ (v7 = .int .u64 0 ∧ v8 = .bool false ∧ Hid (k ∉ T.flat ∧ WayNo wr bad T k w.heap.size v6))))
  case atStart => exact ⟨Below.refl _ _, .inl ⟨[], T, rfl, rfl, by simp, Lib.hid ⟨by rw [plug], (fun f hf => by cases hf), (fun f hf => by cases hf), trivial, [], World.ownsRow_nil _ _ _ _, trivial⟩⟩⟩
  case round =>
    obtain ⟨HB, hrel⟩ := hrel
    rcases hrel with ⟨z, c, rfl, rfl, hg, HO⟩ | ⟨rfl, rfl, HE⟩
    · obtain ⟨hp, hgz, hk, hl, l, hw, hs⟩ := HO.out
      obtain ⟨hL, hrk, hkid, hiff, hsub, hlen, hid1, hid2⟩ := way_node HI.out hp hgz hk
      obtain ⟨⟨hL1, hL2, hL3⟩, A, n, cc, A', n', cc', hget, hnode⟩ := hL
      obtain rfl : n = c.keys.length := hnode.hn
      have hwr := HB.out
      obtain ⟨⟨x0, x1, x2, x3, x4, x5⟩, -, -⟩ := (H.out.on hwr XL.out).cells
      have hnr := hnode.on hwr
      have HC1 := Lib.hid (node_c (HM.out.keep (hwr.block M HM.out.lt)) (id := c.id) (by have := HN.out; omega) hget .nilFunc (some G))
      have HNR := Lib.hid hnr; have HNW := Lib.hid hnode; have HRK := Lib.hid hrk; have HKID := Lib.hid hkid; have HIFF := Lib.hid hiff; have HSUB := Lib.hid hsub; have HLEN := Lib.hid hlen; have HL2 := Lib.hid hL2; have HPOS : Hid (0 < c.flat.length) := Lib.hid (by cases hkx : c.keys with | nil => rw [hkx] at hL1; simp at hL1 | cons y r => exact List.length_pos_of_mem (hsub y (by rw [hkx]; simp))); have HW := Lib.hid hw; have HS := Lib.hid hs
      have HP := Lib.hid hp; have HGZ := Lib.hid hgz; have HK := Lib.hid hk; have HL := Lib.hid hl
      clear hp hgz hk hl hw hs hrk hkid hiff hsub hlen hid1 hid2 hL1 hL2 hL3 hget hnode hwr hnr
      go_wp2_with fail
      refine HC1.out.mono ?_
      rintro e w1 ⟨rfl, hb1⟩
      obtain ⟨W2, hW2⟩ : ∃ W2, w1.alloc (.cells #[.slice A c.keys.length cc, .slice A' n' cc'] 60) = W2 := ⟨_, rfl⟩
      have hb12 : Below w1.heap.size w1 W2 := hW2 ▸ (Below.refl _ _).alloc (Nat.le_refl _) _
      have hbx := hb1.trans (hb12.mono hb1.size)
      have ht2 : Two W2 w1.heap.size (.slice A c.keys.length cc) (.slice A' n' cc') := hW2 ▸ heap_alloc_new w1 _
      obtain ⟨⟨y0, y1⟩, -, -⟩ := ht2.cells
      have HNR2 := Lib.hid (HNR.out.on hbx); have HBX := Lib.hid hbx; have HT2 := Lib.hid ht2
      have HC2 := Lib.hid (find_c c.keys k A A' cc n' cc' W2 HNR2.out.keys HRK.out (Nat.le_trans HL2.out (by decide)))
      clear hb1 hb12 hbx ht2
      go_wp2_with fail
      refine HC2.out.mono ?_
      rintro e w3 ⟨rfl, hb3⟩
      have hb13 := HBX.out.trans (hb3.mono HBX.out.size)
      obtain ⟨⟨y0, y1⟩, -, -⟩ := (HT2.out.on hb3 HT2.out.cells.2.2).cells
      obtain ⟨pl, hpl⟩ : ∃ pl, placeK ltS k c.keys = pl := ⟨_, rfl⟩
      have hll : l.length ≤ 60 := by have := HLEN.out; have := HS.out.len; have := HF.out; omega
      obtain ⟨g4, c4, w4, hr4, ho4, hst4, hb4⟩ := app_St (N := w.heap.size) (owns_on HW.out hb13) (by have := HB.out.size; have := hb13.size; omega) ⟨c.id, A, c.keys.length, cc, A', n', cc', pl⟩ (by rw [List.length_reverse]; omega)
      simp only [List.length_reverse] at hr4 ho4
      have hbw3 := HB.out.trans (hb13.mono HB.out.size)
      have hbw4 : Below w.heap.size w w4 := hbw3.trans hb4
      have HBW4 := Lib.hid hbw4
      rw [hpl]
      have HPL := Lib.hid hpl; have HO4 := Lib.hid ho4; have HST4 := Lib.hid hst4
      clear hb13 hpl ho4 hst4 hbw3 hbw4 hb4 hll
      have HHS := Lib.hid (hasS_iff (k := k) HRK.out)
      obtain ⟨hz, hhz⟩ : ∃ hz, hasS k c.keys = hz := ⟨_, rfl⟩
      rw [hhz] at HHS ⊢
      clear hhz
      cases hz
      · have HKC : Hid (k ∉ c.keys) := Lib.hid (fun hx => by have := HHS.out.2 hx; cases this)
        have HSL : Hid (Steps w bad (⟨c.id, A, c.keys.length, cc, A', n', cc', pl⟩ :: l) (⟨c.id, c.keys, c.kids, placeK ltS k c.keys⟩ :: z)) := Lib.hid ⟨⟨rfl, HPL.out.symm, HNW.out⟩, HS.out⟩
        by_cases hleaf : c.kids = []
        · have HC5 := Lib.hid (onward_leaf (s := ⟨c.id, A, c.keys.length, cc, A', n', cc', pl⟩) c4 l.length HST4.out (by rw [List.getElem?_append_right (by simp)]; simp) (by show n' = 0; rw [HNW.out.hn', hleaf]; rfl) (by have := HLEN.out; have := HS.out.len; have := HF.out; omega))
          have HLF := Lib.hid hleaf
          clear hleaf
          go_wp2_with (first | (at_builtin; refine Lib.wpList_append_run _ rfl _ _ _ _ rfl _ _ rfl rfl _ _ (hr4 _) ?_) | fail)
          refine HC5.out.mono ?_
          rintro e w5 ⟨rfl, hb5⟩
          go_wp2_with fail
          go_roundg 0
          case measure => omega
          case rel =>
            refine ⟨Lib.hid (HBW4.out.trans (hb5.mono HBW4.out.size)), .inr ⟨rfl, rfl, Lib.hid ⟨fun hx => ?_, ?_⟩⟩⟩
            · have := HIFF.out.1 hx
              rw [flat_leaf HLF.out] at this
              exact HKC.out this
            · have hS := HSL.out.on (HBW4.out.trans (hb5.mono HBW4.out.size))
              rw [HLF.out] at hS
              exact ⟨z, c, _, g4, c4, rfl, (own_at HO4.out).2 g4 0 rfl |>.1, by rw [List.reverse_cons]; exact HST4.out.on hb5, HP.out, HLF.out, HGZ.out, HL.out, HK.out, HKC.out, hS⟩
        · obtain ⟨c', hc', hp', hgz', hk', hl', hids⟩ := way_kid HI.out HP.out HGZ.out HK.out HL.out HKC.out hleaf
          rw [HPL.out] at hc'
          obtain ⟨b, o, eA, hbl, hcell⟩ := HNW.out.kids pl c'.id (by rw [List.getElem?_map, hc']; rfl)
          have hpln : pl < n' := by rw [HNW.out.hn', List.length_map]; exact (List.getElem?_eq_some_iff.1 hc').1
          have HC5 := Lib.hid (onward_in (s := ⟨c.id, A, c.keys.length, cc, A', n', cc', pl⟩) c4 l.length c'.id HST4.out (by simp) (by rw [List.getElem?_append_right (by simp)]; simp) (by show n' ≠ 0; omega) (by have := HLEN.out; have := HS.out.len; have := HF.out; omega) (a := ⟨b, o, none⟩) eA hpln (by rw [adr_add]; exact (HBW4.out.cell (p := ⟨b, o + pl, none⟩) hbl).trans hcell) (fun s hs => by
            obtain ⟨f, hf, e⟩ := HSL.out.mem s (by rw [List.mem_append, List.mem_reverse, List.mem_singleton] at hs; rw [List.mem_cons]; exact hs.symm)
            rw [e]
            exact hids f hf))
          have HNX := Lib.hid (And.intro hp' (And.intro hgz' (And.intro hk' hl')))
          clear hc' hp' hgz' hk' hl' hids eA hbl hcell hpln hleaf
          go_wp2_with (first | (at_builtin; refine Lib.wpList_append_run _ rfl _ _ _ _ rfl _ _ rfl rfl _ _ (hr4 _) ?_) | fail)
          refine HC5.out.mono ?_
          rintro e w5 ⟨rfl, hb5⟩
          go_wp2_with fail
          go_roundg (T.flat.length - (z.length + 1) + 1)
          case measure => have := HLEN.out; have := HF.out; have := HPOS.out; omega
          case rel =>
            refine ⟨Lib.hid (HBW4.out.trans (hb5.mono HBW4.out.size)), .inl ⟨_, c', rfl, rfl, Nat.le_refl _, Lib.hid ⟨HNX.out.1, HNX.out.2.1, HNX.out.2.2.1, HNX.out.2.2.2, _, ?_, HSL.out⟩⟩⟩
            rw [List.reverse_cons]
            exact owns_on HO4.out hb5
      · have HKI := Lib.hid (HIFF.out.2 (HSUB.out k (HHS.out.1 rfl)))
        go_wp2_with (first | (at_builtin; refine Lib.wpList_append_run _ rfl _ _ _ _ rfl _ _ rfl rfl _ _ (hr4 _) ?_) | fail)
        go_ret2
        exact ⟨_, true, rfl, HBW4.out, .inl ⟨rfl, HKI.out⟩⟩
    · go_wp2_with fail
      go_ret2
      exact ⟨_, false, rfl, HB.out, .inr ⟨rfl, HE.out⟩⟩

end Go.Proofs.Ytmhpgbhmhbldfaa
