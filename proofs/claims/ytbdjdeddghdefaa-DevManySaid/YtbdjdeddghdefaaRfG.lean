/- the document's device: Write -/
import Derived.Test.YtbdjdeddghdefaaRfF
namespace Go.Proofs.Ytbdjdeddghdefaa
open Go.ChangeShapes Go.WideShapes Go.ChangeAt Go.RowKit

theorem resW_size (w : World) (b : Nat) (v0 v1 v2 v3 v4 : Value) : (resW w b v0 v1 v2 v3 v4).heap.size = w.heap.size := by simp [resW, World.setCell]

/-- a sector is written -/
def rwriteX (d : Dv) (F : List Fal) (a : Int) (s : Sec) : Dv × List Fal × Int :=
  if d.off then (d, F, 7) else if a < 0 ∨ (d.sure.length : Int) ≤ a ∨ s.length ≠ 128 then (d, F, 1) else
    if (rstepX d F).2.2 = 0 then ({ (rstepX d F).1 with loose := wrL a.toNat s false (rstepX d F).1.loose }, (rstepX d F).2.1, 0) else rstepX d F

set_option maxHeartbeats 4000000 in
set_option maxRecDepth 100000 in
theorem rfwrite_any {w : World} {v : Value} {d : Dv} {F : List Fal} (h : RfAt w v d F) (hF : F.length ≤ 1) (hl : d.loose.length ≤ 100000) (hs : d.sure.length ≤ 65536)
    (hin : ∀ p ∈ d.loose, p.1 < d.sure.length ∧ p.2.length = 128) (hb : ∀ s ∈ d.sure, s.length = 128) (a : Int) (s : Sec) :
    Calls Try.prog 37 #[v, .int .i64 a, .string ⟨s.toArray⟩] w fun e w' => ∃ v', e = .returned (.tuple #[v', .int .i64 (rwriteX d F a s).2.2]) ∧ RfAt w' v' (rwriteX d F a s).1 (rwriteX d F a s).2.1 ∧ Below w.heap.size w w' := by
  obtain ⟨A, c, L, e, C, f, rfl⟩ := h.open_
  have H := Lib.hid h
  have HIN := Lib.hid hin; have HBY := Lib.hid hb
  clear h hin hb
  have hB := (((Below.refl w.heap.size w).alloc (Nat.le_refl _) (.cells #[.slice A d.sure.length c, .slice L d.loose.length e, .int .i64 d.steps, .slice C F.length f, .bool d.off] 31)).alloc (((Below.refl w.heap.size w).alloc (Nat.le_refl _) (.cells #[.slice A d.sure.length c, .slice L d.loose.length e, .int .i64 d.steps, .slice C F.length f, .bool d.off] 31)).size) (.cells #[.slice none 0 0, .slice none 0 0, .int .i64 0, .slice none 0 0, .bool false] 31))
  have HB := Lib.hid hB
  have hbx := heap_alloc_last (w.alloc (.cells #[.slice A d.sure.length c, .slice L d.loose.length e, .int .i64 d.steps, .slice C F.length f, .bool d.off] 31)) (.cells #[.slice none 0 0, .slice none 0 0, .int .i64 0, .slice none 0 0, .bool false] 31)
  have hb0 := (((Below.refl _ _).alloc (Nat.le_refl _) (.cells #[.slice none 0 0, .slice none 0 0, .int .i64 0, .slice none 0 0, .bool false] 31)).block w.heap.size (by simp)).trans (heap_alloc_last w (.cells #[.slice A d.sure.length c, .slice L d.loose.length e, .int .i64 d.steps, .slice C F.length f, .bool d.off] 31))
  rw [World.size_alloc] at hbx
  have HX0 := Lib.hid hb0; have HX1 := Lib.hid hbx
  clear hB hbx hb0
  obtain ⟨S, hS⟩ : ∃ S : ByteArray, ⟨s.toArray⟩ = S := ⟨_, rfl⟩
  have hSz : S.size = s.length := by rw [← hS, str_size]
  cases ho : d.off
  · have h0 : RfAt w _ d F := H.out
    rw [ho] at HB HX0 HX1 H h0
    by_cases hbad : a < 0 ∨ (d.sure.length : Int) ≤ a ∨ s.length ≠ 128
    · have HE := Lib.hid (show rwriteX d F a s = (d, F, 1) by unfold rwriteX; rw [if_neg (by rw [ho]; simp), if_pos hbad])
      clear h0
      by_cases z1 : a < 0
      · clear hbad hSz
        clear HB HX0 HX1
        have HB := Lib.hid ((((Below.refl w.heap.size w).alloc (Nat.le_refl _) (.cells #[.slice A d.sure.length c, .slice L d.loose.length e, .int .i64 d.steps, .slice C F.length f, .bool false] 31)).alloc (((Below.refl w.heap.size w).alloc (Nat.le_refl _) (.cells #[.slice A d.sure.length c, .slice L d.loose.length e, .int .i64 d.steps, .slice C F.length f, .bool false] 31)).size) (.cells #[.slice A d.sure.length c, .slice L d.loose.length e, .int .i64 d.steps, .slice C F.length f, .bool false] 31)))
        rw [hS]
        clear hS
        go_enter Try.func37, Try.ntmps37
        go_wp2_with fail
        refine bodyPost_ret (v := .tuple #[.agg #[.slice A d.sure.length c, .slice L d.loose.length e, .int .i64 d.steps, .slice C F.length f, .bool false], .int .i64 1]) (by simp [results, Try.results37, go_sem]) rfl ?_
        rw [HE.out]
        exact ⟨_, rfl, H.out.on HB.out, HB.out⟩
      · by_cases z2 : (d.sure.length : Int) ≤ a
        · clear hbad hSz
          clear HB HX0 HX1
          have HB := Lib.hid ((((Below.refl w.heap.size w).alloc (Nat.le_refl _) (.cells #[.slice A d.sure.length c, .slice L d.loose.length e, .int .i64 d.steps, .slice C F.length f, .bool false] 31)).alloc (((Below.refl w.heap.size w).alloc (Nat.le_refl _) (.cells #[.slice A d.sure.length c, .slice L d.loose.length e, .int .i64 d.steps, .slice C F.length f, .bool false] 31)).size) (.cells #[.slice A d.sure.length c, .slice L d.loose.length e, .int .i64 d.steps, .slice C F.length f, .bool false] 31)))
          rw [hS]
          clear hS
          go_enter Try.func37, Try.ntmps37
          go_wp2_with fail
          refine bodyPost_ret (v := .tuple #[.agg #[.slice A d.sure.length c, .slice L d.loose.length e, .int .i64 d.steps, .slice C F.length f, .bool false], .int .i64 1]) (by simp [results, Try.results37, go_sem]) rfl ?_
          rw [HE.out]
          exact ⟨_, rfl, H.out.on HB.out, HB.out⟩
        · have z3 : ((S.size : Int) == 128) = false := by rw [beq_eq_false_iff_ne, hSz]; rcases hbad with q | q | q; exact absurd q z1; exact absurd q z2; omega
          clear hbad hSz
          clear HB HX0 HX1
          have HB := Lib.hid ((((Below.refl w.heap.size w).alloc (Nat.le_refl _) (.cells #[.slice A d.sure.length c, .slice L d.loose.length e, .int .i64 d.steps, .slice C F.length f, .bool false] 31)).alloc (((Below.refl w.heap.size w).alloc (Nat.le_refl _) (.cells #[.slice A d.sure.length c, .slice L d.loose.length e, .int .i64 d.steps, .slice C F.length f, .bool false] 31)).size) (.cells #[.slice A d.sure.length c, .slice L d.loose.length e, .int .i64 d.steps, .slice C F.length f, .bool false] 31)))
          rw [hS]
          clear hS
          go_enter Try.func37, Try.ntmps37
          go_wp2_with fail
          refine bodyPost_ret (v := .tuple #[.agg #[.slice A d.sure.length c, .slice L d.loose.length e, .int .i64 d.steps, .slice C F.length f, .bool false], .int .i64 1]) (by simp [results, Try.results37, go_sem]) rfl ?_
          rw [HE.out]
          exact ⟨_, rfl, H.out.on HB.out, HB.out⟩
    · have hok : 0 ≤ a ∧ a < (d.sure.length : Int) ∧ s.length = 128 := by omega
      obtain ⟨k, rfl⟩ : ∃ k : Nat, a = k := ⟨a.toNat, by omega⟩
      have z1 : ¬ (k : Int) < 0 := by omega
      have z2 : ¬ (d.sure.length : Int) ≤ (k : Int) := by omega
      have z3 : ((S.size : Int) == 128) = true := by rw [beq_iff_eq, hSz]; omega
      have hst1 := rfstep_any (d := d) (F := F) (h0.on HB.out) hF hl hs HIN.out HBY.out
      have HBAD := Lib.hid hbad
      have HSS := Lib.hid hS
      rw [hS]
      clear hok hS hSz hbad
      rcases rstep_cases d F with ⟨F1, hst⟩ | ⟨d1, F1, hst⟩
      · generalize hsv : wrap64 (d.steps + 1) = st at hst
        have hd : ({ d with steps := st } : Dv) = { d with steps := st, off := false } := by rw [← ho]
        rw [hd] at hst
        have HFLU := Lib.hid (show rwriteX d F k s = ({ d with loose := wrL k s false d.loose, steps := st, off := false }, F1, 0) by unfold rwriteX; rw [if_neg (by rw [ho]; simp), if_neg HBAD.out, hst]; rfl)
        rw [hst] at hst1
        go_enter Try.func37, Try.ntmps37
        go_wp2_with fail
        refine hst1.mono ?_
        rintro e0 w1 ⟨v1, rfl, hr1, hb1⟩
        obtain ⟨A1, c1, L1, e1, C1, f1, rfl⟩ : ∃ A1 c1 L1 e1 C1 f1, v1 = .agg #[.slice A1 d.sure.length c1, .slice L1 d.loose.length e1, .int .i64 st, .slice C1 F1.length f1, .bool false] := hr1.open_
        have hp := (hb1.block (w.heap.size) (heap_lt HX0.out)).trans HX0.out
        have hq := (hb1.block (w.heap.size + 1) (heap_lt HX1.out)).trans HX1.out
        have HP1 := Lib.hid hp; have HQ1 := Lib.hid hq; have HR1 := Lib.hid hr1; have HB1 := Lib.hid (HB.out.trans (hb1.mono HB.out.size))
        have p0 : w1.cell? ⟨w.heap.size, 0, none⟩ = some (.slice A d.sure.length c) := by rw [cell_of_row _ _ _ _ _ _ hp]; rfl
        have p1 : w1.cell? ⟨w.heap.size, 1, none⟩ = some (.slice L d.loose.length e) := by rw [cell_of_row _ _ _ _ _ _ hp]; rfl
        have p2 : w1.cell? ⟨w.heap.size, 2, none⟩ = some (.int .i64 d.steps) := by rw [cell_of_row _ _ _ _ _ _ hp]; rfl
        have p3 : w1.cell? ⟨w.heap.size, 3, none⟩ = some (.slice C F.length f) := by rw [cell_of_row _ _ _ _ _ _ hp]; rfl
        have p4 : w1.cell? ⟨w.heap.size, 4, none⟩ = some (.bool false) := by rw [cell_of_row _ _ _ _ _ _ hp]; rfl
        have pf0 : w1.frozen? ⟨w.heap.size, 0, none⟩ = false := by simp [World.frozen?, hp]
        have pf1 : w1.frozen? ⟨w.heap.size, 1, none⟩ = false := by simp [World.frozen?, hp]
        have pf2 : w1.frozen? ⟨w.heap.size, 2, none⟩ = false := by simp [World.frozen?, hp]
        have pf3 : w1.frozen? ⟨w.heap.size, 3, none⟩ = false := by simp [World.frozen?, hp]
        have pf4 : w1.frozen? ⟨w.heap.size, 4, none⟩ = false := by simp [World.frozen?, hp]
        clear hp hq hr1 hb1 hst1 hd hst h0 hsv
        obtain ⟨W8, HW8⟩ : ∃ W8, Hid ((resW w1 w.heap.size (.slice A1 d.sure.length c1) (.slice L1 d.loose.length e1) (.int .i64 st) (.slice C1 F1.length f1) (.bool false)) = W8) := ⟨_, Lib.hid rfl⟩
        have HR8 := Lib.hid (show RfAt W8 (.agg #[.slice A1 d.sure.length c1, .slice L1 d.loose.length e1, .int .i64 st, .slice C1 F1.length f1, .bool false]) { d with steps := st, off := false } F1 by rw [← HW8.out]; exact HR1.out.res HP1.out (.slice A1 d.sure.length c1) (.slice L1 d.loose.length e1) (.int .i64 st) (.slice C1 F1.length f1) (.bool false))
        have HP8 := Lib.hid (show W8.heap[w.heap.size]? = some (.cells #[.slice A1 d.sure.length c1, .slice L1 d.loose.length e1, .int .i64 st, .slice C1 F1.length f1, .bool false] 31 (0, 0)) by rw [← HW8.out]; exact resW_heap HP1.out (.slice A1 d.sure.length c1) (.slice L1 d.loose.length e1) (.int .i64 st) (.slice C1 F1.length f1) (.bool false))
        have HQ8 := Lib.hid (show W8.heap[w.heap.size + 1]? = some (.cells #[.slice none 0 0, .slice none 0 0, .int .i64 0, .slice none 0 0, .bool false] 31 (0, 0)) by rw [← HW8.out]; exact (resW_other w1 (by omega) (.slice A1 d.sure.length c1) (.slice L1 d.loose.length e1) (.int .i64 st) (.slice C1 F1.length f1) (.bool false)).trans HQ1.out)
        have HB8 := Lib.hid (show Below w.heap.size w W8 by rw [← HW8.out]; exact resW_below HB1.out (Nat.le_refl _) (.slice A1 d.sure.length c1) (.slice L1 d.loose.length e1) (.int .i64 st) (.slice C1 F1.length f1) (.bool false))
        go_wp2_with fail
        go_loopw [9, 10, 11] (fun s9 s10 s11 wr => ∃ (i : Nat) (inb : Bool) (out : List (Nat × Sec)), i ≤ d.loose.length ∧ s10 = .bool inb ∧ s11 = .int .i64 (i : Int) ∧ Hid (out ++ wrL k s inb (d.loose.drop i) = wrL k s false d.loose) ∧ Hid (out.length ≤ 2 * i) ∧ Hid (OL W8 s9 out wr)) (fun _ _ s11 _ => d.loose.length - (intOf s11).toNat)
        case atStart => exact ⟨0, false, [], Nat.zero_le _, rfl, rfl, Lib.hid rfl, Lib.hid (Nat.le_refl _), Lib.hid (by rw [← HW8.out]; have hn := OL.none (resW w1 w.heap.size (.slice A1 d.sure.length c1) (.slice L1 d.loose.length e1) (.int .i64 st) (.slice C1 F1.length f1) (.bool false)); rw [resW_size] at hn; exact hn)⟩
        case round =>
          clear p0 p1 p2 p3 p4 pf0 pf1 pf2 pf3 pf4
          obtain ⟨i, inb, out, hi, rfl, rfl, HST, HOL, HO⟩ := hrel
          have hbw := HO.out.below
          have hp := (hbw.block w.heap.size (heap_lt HP8.out)).trans HP8.out
          have p1 : wr.cell? ⟨w.heap.size, 1, none⟩ = some (.slice L1 d.loose.length e1) := by rw [cell_of_row _ _ _ _ _ _ hp]; rfl
          have HP := Lib.hid hp; have HBW := Lib.hid hbw
          clear hp hbw
          by_cases hlt : i < d.loose.length
          · obtain ⟨-, sL, -⟩ := (HR8.out.on HBW.out).parts
            obtain ⟨L', e', hv, -, hx⟩ := sL.form
            simp only [Value.slice.injEq, true_and] at hv
            obtain ⟨rfl, rfl⟩ := hv
            obtain ⟨g, o, rfl, k0, k1⟩ := hx i d.loose[i] (List.getElem?_eq_getElem hlt)
            have HST1 := HST.out
            have hdr : d.loose.drop i = d.loose[i] :: d.loose.drop (i + 1) := List.drop_eq_getElem_cons hlt
            rw [hdr] at HST1
            have z4 : (i : Int) < (d.loose.length : Int) := by omega
            have HM := Lib.hid (read_meas d.loose.length i hlt)
            generalize d.loose[i] = q at k0 k1 HST1
            obtain ⟨b, t⟩ := q
            simp only at k0 k1
            obtain ⟨T, hT⟩ : ∃ T : ByteArray, ⟨t.toArray⟩ = T := ⟨_, rfl⟩
            rw [hT] at k1
            have HTT := Lib.hid hT
            have hxb := heap_alloc_last wr (.cells #[.int .i64 (b : Int), .string T] 103)
            have y0 : (wr.alloc (.cells #[.int .i64 (b : Int), .string T] 103)).cell? ⟨wr.heap.size, 0, none⟩ = some (.int .i64 (b : Int)) := by rw [cell_of_row _ _ _ _ _ _ hxb]; rfl
            have y1 : (wr.alloc (.cells #[.int .i64 (b : Int), .string T] 103)).cell? ⟨wr.heap.size, 1, none⟩ = some (.string T) := by rw [cell_of_row _ _ _ _ _ _ hxb]; rfl
            have HOX := Lib.hid (HO.out.on ((Below.refl wr.heap.size wr).alloc (Nat.le_refl _) (.cells #[.int .i64 (b : Int), .string T] 103)))
            have HXB := Lib.hid hxb
            have hol := HOL.out
            clear hx hdr sL hxb hT
            simp only [wrL] at HST1
            cases inb
            · by_cases hg : k ≤ b
              · have hge : decide (k ≤ b) = true := by simpa using hg
                have zg : (k : Int) ≤ (b : Int) := by omega
                by_cases hne : b = k
                · have zn : ((b : Int) == (k : Int)) = true := by rw [beq_iff_eq]; omega
                  clear hg
                  have HNX := Lib.hid (show (out ++ [(k, s)]) ++ wrL k s true (d.loose.drop (i + 1)) = wrL k s false d.loose by rw [← HST1]; simp [hne])
                  have HLE := Lib.hid (show (out ++ [(k, s)]).length ≤ 2 * (i + 1) by (try simp only [List.length_append, List.length_cons, List.length_nil]); omega)
                  clear HST1 hne hge
                  obtain ⟨vA, wA, hrA, hoA, hkA⟩ := HOX.out.append (k, s) (by omega) 28
                  rw [World.size_alloc, HSS.out] at hrA
                  have hx2 := (hkA wr.heap.size (by simp) HO.out.lt).trans HXB.out
                  have HOA := Lib.hid hoA
                  clear hoA hkA
                  have u0 : wA.cell? ⟨wr.heap.size, 0, none⟩ = some (.int .i64 (b : Int)) := by rw [cell_of_row _ _ _ _ _ _ hx2]; rfl
                  have u1 : wA.cell? ⟨wr.heap.size, 1, none⟩ = some (.string T) := by rw [cell_of_row _ _ _ _ _ _ hx2]; rfl
                  clear hx2
                  go_wp2_with (first
                    | (at_builtin; refine Lib.wpList_append_run _ rfl _ _ _ _ rfl _ _ rfl rfl _ _ hrA ?_)
                    | fail)
                  go_roundw
                  case rel => exact ⟨i + 1, true, (out ++ [(k, s)]), hlt, rfl, by go_num, HNX, HLE, Lib.hid HOA.out⟩
                  case measure => exact HM.out
                · have zn : ((b : Int) == (k : Int)) = false := by rw [beq_eq_false_iff_ne]; omega
                  clear hg
                  have HNX := Lib.hid (show ((out ++ [(k, s)]) ++ [(b, t)]) ++ wrL k s true (d.loose.drop (i + 1)) = wrL k s false d.loose by rw [← HST1]; simp [hge, hne])
                  have HLE := Lib.hid (show ((out ++ [(k, s)]) ++ [(b, t)]).length ≤ 2 * (i + 1) by (try simp only [List.length_append, List.length_cons, List.length_nil]); omega)
                  clear HST1 hne hge
                  obtain ⟨vA, wA, hrA, hoA, hkA⟩ := HOX.out.append (k, s) (by omega) 28
                  rw [World.size_alloc, HSS.out] at hrA
                  have hx2 := (hkA wr.heap.size (by simp) HO.out.lt).trans HXB.out
                  have HOA := Lib.hid hoA
                  clear hoA hkA
                  have u0 : wA.cell? ⟨wr.heap.size, 0, none⟩ = some (.int .i64 (b : Int)) := by rw [cell_of_row _ _ _ _ _ _ hx2]; rfl
                  have u1 : wA.cell? ⟨wr.heap.size, 1, none⟩ = some (.string T) := by rw [cell_of_row _ _ _ _ _ _ hx2]; rfl
                  obtain ⟨vB, wB, hrB, hoB, -⟩ := HOA.out.append (b, t) (by first | omega | (rw [List.length_append]; simp; omega)) 28
                  rw [HTT.out] at hrB
                  have HOB := Lib.hid hoB
                  clear hoB
                  clear hx2
                  go_wp2_with (first
                    | (at_builtin; refine Lib.wpList_append_run _ rfl _ _ _ _ rfl _ _ rfl rfl _ _ hrA ?_)
                    | (at_builtin; refine Lib.wpList_append_run _ rfl _ _ _ _ rfl _ _ rfl rfl _ _ hrB ?_)
                    | fail)
                  go_roundw
                  case rel => exact ⟨i + 1, true, ((out ++ [(k, s)]) ++ [(b, t)]), hlt, rfl, by go_num, HNX, HLE, Lib.hid HOB.out⟩
                  case measure => exact HM.out
              · have hge : decide (k ≤ b) = false := by simpa using hg
                have zg : ¬ (k : Int) ≤ (b : Int) := by omega
                have hne : ¬ b = k := by omega
                have zn : ((b : Int) == (k : Int)) = false := by rw [beq_eq_false_iff_ne]; omega
                clear hg
                have HNX := Lib.hid (show (out ++ [(b, t)]) ++ wrL k s false (d.loose.drop (i + 1)) = wrL k s false d.loose by rw [← HST1]; simp [hge, hne])
                have HLE := Lib.hid (show (out ++ [(b, t)]).length ≤ 2 * (i + 1) by (try simp only [List.length_append, List.length_cons, List.length_nil]); omega)
                clear HST1 hne hge
                obtain ⟨vB, wB, hrB, hoB, -⟩ := HOX.out.append (b, t) (by first | omega | (rw [List.length_append]; simp; omega)) 28
                rw [World.size_alloc, HTT.out] at hrB
                have HOB := Lib.hid hoB
                clear hoB
                go_wp2_with (first
                  | (at_builtin; refine Lib.wpList_append_run _ rfl _ _ _ _ rfl _ _ rfl rfl _ _ hrB ?_)
                  | fail)
                go_roundw
                case rel => exact ⟨i + 1, false, (out ++ [(b, t)]), hlt, rfl, by go_num, HNX, HLE, Lib.hid HOB.out⟩
                case measure => exact HM.out
            · by_cases hne : b = k
              · have zn : ((b : Int) == (k : Int)) = true := by rw [beq_iff_eq]; omega
                have HNX := Lib.hid (show out ++ wrL k s true (d.loose.drop (i + 1)) = wrL k s false d.loose by rw [← HST1]; simp [hne])
                have HLE := Lib.hid (show out.length ≤ 2 * (i + 1) by (try simp only [List.length_append, List.length_cons, List.length_nil]); omega)
                clear HST1 hne
                go_wp2_with fail
                go_roundw
                case rel => exact ⟨i + 1, true, out, hlt, rfl, by go_num, HNX, HLE, Lib.hid HOX.out⟩
                case measure => exact HM.out
              · have zn : ((b : Int) == (k : Int)) = false := by rw [beq_eq_false_iff_ne]; omega
                have HNX := Lib.hid (show (out ++ [(b, t)]) ++ wrL k s true (d.loose.drop (i + 1)) = wrL k s false d.loose by rw [← HST1]; simp [hne])
                have HLE := Lib.hid (show (out ++ [(b, t)]).length ≤ 2 * (i + 1) by (try simp only [List.length_append, List.length_cons, List.length_nil]); omega)
                clear HST1 hne
                obtain ⟨vB, wB, hrB, hoB, -⟩ := HOX.out.append (b, t) (by first | omega | (rw [List.length_append]; simp; omega)) 28
                rw [World.size_alloc, HTT.out] at hrB
                have HOB := Lib.hid hoB
                clear hoB
                go_wp2_with (first
                  | (at_builtin; refine Lib.wpList_append_run _ rfl _ _ _ _ rfl _ _ rfl rfl _ _ hrB ?_)
                  | fail)
                go_roundw
                case rel => exact ⟨i + 1, true, (out ++ [(b, t)]), hlt, rfl, by go_num, HNX, HLE, Lib.hid HOB.out⟩
                case measure => exact HM.out
          · have hend : i = d.loose.length := by omega
            have hfin : out ++ wrL k s inb [] = wrL k s false d.loose := by have := HST.out; rw [hend, List.drop_length] at this; exact this
            have z4 : ¬ i < d.loose.length := hlt
            have hol := HOL.out
            have pw1 := p1
            clear p1 hend
            cases inb
            · have HFE := Lib.hid hfin
              obtain ⟨vB, wB, hrB, hoB, -⟩ := HO.out.append (k, s) (by omega) 28
              rw [HSS.out] at hrB
              obtain ⟨A9, c9, rfl, -⟩ := hoB.seen.form
              have hbw := hoB.below
              have hp := (hbw.block w.heap.size (heap_lt HP8.out)).trans HP8.out
              have hq := (hbw.block (w.heap.size + 1) (heap_lt HQ8.out)).trans HQ8.out
              have HOE := Lib.hid hoB
              have HPE := Lib.hid hp; have HQE := Lib.hid hq; have HBE := Lib.hid (HB8.out.trans (hbw.mono HB8.out.size)); have HRE := Lib.hid (HR8.out.on hbw)
              obtain ⟨m9, hm9⟩ : ∃ m9, (out ++ [(k, s)]).length = m9 := ⟨_, rfl⟩
              have HM9 := Lib.hid hm9
              have p0 : wB.cell? ⟨w.heap.size, 0, none⟩ = some (.slice A1 d.sure.length c1) := by rw [cell_of_row _ _ _ _ _ _ hp]; rfl
              have p1 : wB.cell? ⟨w.heap.size, 1, none⟩ = some (.slice L1 d.loose.length e1) := by rw [cell_of_row _ _ _ _ _ _ hp]; rfl
              have p2 : wB.cell? ⟨w.heap.size, 2, none⟩ = some (.int .i64 st) := by rw [cell_of_row _ _ _ _ _ _ hp]; rfl
              have p3 : wB.cell? ⟨w.heap.size, 3, none⟩ = some (.slice C1 F1.length f1) := by rw [cell_of_row _ _ _ _ _ _ hp]; rfl
              have p4 : wB.cell? ⟨w.heap.size, 4, none⟩ = some (.bool false) := by rw [cell_of_row _ _ _ _ _ _ hp]; rfl
              have pf0 : wB.frozen? ⟨w.heap.size, 0, none⟩ = false := by simp [World.frozen?, hp]
              have pf1 : wB.frozen? ⟨w.heap.size, 1, none⟩ = false := by simp [World.frozen?, hp]
              have pf2 : wB.frozen? ⟨w.heap.size, 2, none⟩ = false := by simp [World.frozen?, hp]
              have pf3 : wB.frozen? ⟨w.heap.size, 3, none⟩ = false := by simp [World.frozen?, hp]
              have pf4 : wB.frozen? ⟨w.heap.size, 4, none⟩ = false := by simp [World.frozen?, hp]
              have q0 : wB.cell? ⟨w.heap.size + 1, 0, none⟩ = some (.slice none 0 0) := by rw [cell_of_row _ _ _ _ _ _ hq]; rfl
              have q1 : wB.cell? ⟨w.heap.size + 1, 1, none⟩ = some (.slice none 0 0) := by rw [cell_of_row _ _ _ _ _ _ hq]; rfl
              have q2 : wB.cell? ⟨w.heap.size + 1, 2, none⟩ = some (.int .i64 0) := by rw [cell_of_row _ _ _ _ _ _ hq]; rfl
              have q3 : wB.cell? ⟨w.heap.size + 1, 3, none⟩ = some (.slice none 0 0) := by rw [cell_of_row _ _ _ _ _ _ hq]; rfl
              have q4 : wB.cell? ⟨w.heap.size + 1, 4, none⟩ = some (.bool false) := by rw [cell_of_row _ _ _ _ _ _ hq]; rfl
              have qf0 : wB.frozen? ⟨w.heap.size + 1, 0, none⟩ = false := by simp [World.frozen?, hq]
              have qf1 : wB.frozen? ⟨w.heap.size + 1, 1, none⟩ = false := by simp [World.frozen?, hq]
              have qf2 : wB.frozen? ⟨w.heap.size + 1, 2, none⟩ = false := by simp [World.frozen?, hq]
              have qf3 : wB.frozen? ⟨w.heap.size + 1, 3, none⟩ = false := by simp [World.frozen?, hq]
              have qf4 : wB.frozen? ⟨w.heap.size + 1, 4, none⟩ = false := by simp [World.frozen?, hq]
              clear hp hq hbw
              rw [hm9] at hrB
              clear hm9
              go_wp2_with (first
                | (at_builtin; refine Lib.wpList_append_run _ rfl _ _ _ _ rfl _ _ rfl rfl _ _ hrB ?_)
                | fail)
              have hres := resW_heap ((Below.heap_setCell wB ⟨w.heap.size, 1, none⟩ (.slice A9 m9 c9) (w.heap.size + 1) (by simp)).trans HQE.out) (.slice A1 d.sure.length c1) (.slice A9 m9 c9) (.int .i64 st) (.slice C1 F1.length f1) (.bool false)
              have HEND := Lib.hid (resW_below (HBE.out.setCell (p := ⟨w.heap.size, 1, none⟩) (Nat.le_refl _) (.slice A9 m9 c9)) (Nat.le_succ _) (.slice A1 d.sure.length c1) (.slice A9 m9 c9) (.int .i64 st) (.slice C1 F1.length f1) (.bool false))
              have r0 := cell_of_row _ _ 0 _ _ _ hres
              have r1 := cell_of_row _ _ 1 _ _ _ hres
              have r2 := cell_of_row _ _ 2 _ _ _ hres
              have r3 := cell_of_row _ _ 3 _ _ _ hres
              have r4 := cell_of_row _ _ 4 _ _ _ hres
              simp only [List.getElem?_toArray, List.getElem?_cons_zero, List.getElem?_cons_succ] at r0 r1 r2 r3 r4
              change bodyPost _ _ _ _ _ (resW (wB.setCell ⟨w.heap.size, 1, none⟩ (.slice A9 m9 c9)) (w.heap.size + 1) (.slice A1 d.sure.length c1) (.slice A9 m9 c9) (.int .i64 st) (.slice C1 F1.length f1) (.bool false))
              refine bodyPost_ret (v := .tuple #[.agg #[.slice A1 d.sure.length c1, .slice A9 m9 c9, .int .i64 st, .slice C1 F1.length f1, .bool false], .int .i64 0]) (by simp [results, Try.results37, go_sem, r0, r1, r2, r3, r4]) rfl ?_
              have hk0 : RfAt wB (.agg #[.slice A1 d.sure.length c1, .slice A9 m9 c9, .int .i64 st, .slice C1 F1.length f1, .bool false]) { d with loose := (out ++ [(k, s)]), steps := st, off := false } F1 := ⟨_, _, _, rfl, HRE.out.parts.1, HM9.out ▸ HOE.out.seen, HRE.out.parts.2.2⟩
              have hk := (hk0.setb HPE.out 1 (.slice A9 m9 c9)).res ((Below.heap_setCell wB ⟨w.heap.size, 1, none⟩ (.slice A9 m9 c9) (w.heap.size + 1) (by simp)).trans HQE.out) (.slice A1 d.sure.length c1) (.slice A9 m9 c9) (.int .i64 st) (.slice C1 F1.length f1) (.bool false)
              rw [HFLU.out, ← HFE.out]
              exact ⟨_, rfl, hk, HEND.out⟩
            · have HFE := Lib.hid (show out = wrL k s false d.loose by rw [← hfin]; simp [wrL])
              obtain ⟨A9, c9, rfl, -⟩ := HO.out.seen.form
              have hbw := HO.out.below
              have hp := (hbw.block w.heap.size (heap_lt HP8.out)).trans HP8.out
              have hq := (hbw.block (w.heap.size + 1) (heap_lt HQ8.out)).trans HQ8.out
              have HOE := Lib.hid HO.out
              have HPE := Lib.hid hp; have HQE := Lib.hid hq; have HBE := Lib.hid (HB8.out.trans (hbw.mono HB8.out.size)); have HRE := Lib.hid (HR8.out.on hbw)
              obtain ⟨m9, hm9⟩ : ∃ m9, out.length = m9 := ⟨_, rfl⟩
              have HM9 := Lib.hid hm9
              have p0 : wr.cell? ⟨w.heap.size, 0, none⟩ = some (.slice A1 d.sure.length c1) := by rw [cell_of_row _ _ _ _ _ _ hp]; rfl
              have p1 : wr.cell? ⟨w.heap.size, 1, none⟩ = some (.slice L1 d.loose.length e1) := by rw [cell_of_row _ _ _ _ _ _ hp]; rfl
              have p2 : wr.cell? ⟨w.heap.size, 2, none⟩ = some (.int .i64 st) := by rw [cell_of_row _ _ _ _ _ _ hp]; rfl
              have p3 : wr.cell? ⟨w.heap.size, 3, none⟩ = some (.slice C1 F1.length f1) := by rw [cell_of_row _ _ _ _ _ _ hp]; rfl
              have p4 : wr.cell? ⟨w.heap.size, 4, none⟩ = some (.bool false) := by rw [cell_of_row _ _ _ _ _ _ hp]; rfl
              have pf0 : wr.frozen? ⟨w.heap.size, 0, none⟩ = false := by simp [World.frozen?, hp]
              have pf1 : wr.frozen? ⟨w.heap.size, 1, none⟩ = false := by simp [World.frozen?, hp]
              have pf2 : wr.frozen? ⟨w.heap.size, 2, none⟩ = false := by simp [World.frozen?, hp]
              have pf3 : wr.frozen? ⟨w.heap.size, 3, none⟩ = false := by simp [World.frozen?, hp]
              have pf4 : wr.frozen? ⟨w.heap.size, 4, none⟩ = false := by simp [World.frozen?, hp]
              have q0 : wr.cell? ⟨w.heap.size + 1, 0, none⟩ = some (.slice none 0 0) := by rw [cell_of_row _ _ _ _ _ _ hq]; rfl
              have q1 : wr.cell? ⟨w.heap.size + 1, 1, none⟩ = some (.slice none 0 0) := by rw [cell_of_row _ _ _ _ _ _ hq]; rfl
              have q2 : wr.cell? ⟨w.heap.size + 1, 2, none⟩ = some (.int .i64 0) := by rw [cell_of_row _ _ _ _ _ _ hq]; rfl
              have q3 : wr.cell? ⟨w.heap.size + 1, 3, none⟩ = some (.slice none 0 0) := by rw [cell_of_row _ _ _ _ _ _ hq]; rfl
              have q4 : wr.cell? ⟨w.heap.size + 1, 4, none⟩ = some (.bool false) := by rw [cell_of_row _ _ _ _ _ _ hq]; rfl
              have qf0 : wr.frozen? ⟨w.heap.size + 1, 0, none⟩ = false := by simp [World.frozen?, hq]
              have qf1 : wr.frozen? ⟨w.heap.size + 1, 1, none⟩ = false := by simp [World.frozen?, hq]
              have qf2 : wr.frozen? ⟨w.heap.size + 1, 2, none⟩ = false := by simp [World.frozen?, hq]
              have qf3 : wr.frozen? ⟨w.heap.size + 1, 3, none⟩ = false := by simp [World.frozen?, hq]
              have qf4 : wr.frozen? ⟨w.heap.size + 1, 4, none⟩ = false := by simp [World.frozen?, hq]
              clear hp hq hbw
              rw [hm9]
              clear hm9
              go_wp2_with fail
              have hres := resW_heap ((Below.heap_setCell wr ⟨w.heap.size, 1, none⟩ (.slice A9 m9 c9) (w.heap.size + 1) (by simp)).trans HQE.out) (.slice A1 d.sure.length c1) (.slice A9 m9 c9) (.int .i64 st) (.slice C1 F1.length f1) (.bool false)
              have HEND := Lib.hid (resW_below (HBE.out.setCell (p := ⟨w.heap.size, 1, none⟩) (Nat.le_refl _) (.slice A9 m9 c9)) (Nat.le_succ _) (.slice A1 d.sure.length c1) (.slice A9 m9 c9) (.int .i64 st) (.slice C1 F1.length f1) (.bool false))
              have r0 := cell_of_row _ _ 0 _ _ _ hres
              have r1 := cell_of_row _ _ 1 _ _ _ hres
              have r2 := cell_of_row _ _ 2 _ _ _ hres
              have r3 := cell_of_row _ _ 3 _ _ _ hres
              have r4 := cell_of_row _ _ 4 _ _ _ hres
              simp only [List.getElem?_toArray, List.getElem?_cons_zero, List.getElem?_cons_succ] at r0 r1 r2 r3 r4
              change bodyPost _ _ _ _ _ (resW (wr.setCell ⟨w.heap.size, 1, none⟩ (.slice A9 m9 c9)) (w.heap.size + 1) (.slice A1 d.sure.length c1) (.slice A9 m9 c9) (.int .i64 st) (.slice C1 F1.length f1) (.bool false))
              refine bodyPost_ret (v := .tuple #[.agg #[.slice A1 d.sure.length c1, .slice A9 m9 c9, .int .i64 st, .slice C1 F1.length f1, .bool false], .int .i64 0]) (by simp [results, Try.results37, go_sem, r0, r1, r2, r3, r4]) rfl ?_
              have hk0 : RfAt wr (.agg #[.slice A1 d.sure.length c1, .slice A9 m9 c9, .int .i64 st, .slice C1 F1.length f1, .bool false]) { d with loose := out, steps := st, off := false } F1 := ⟨_, _, _, rfl, HRE.out.parts.1, HM9.out ▸ HOE.out.seen, HRE.out.parts.2.2⟩
              have hk := (hk0.setb HPE.out 1 (.slice A9 m9 c9)).res ((Below.heap_setCell wr ⟨w.heap.size, 1, none⟩ (.slice A9 m9 c9) (w.heap.size + 1) (by simp)).trans HQE.out) (.slice A1 d.sure.length c1) (.slice A9 m9 c9) (.int .i64 st) (.slice C1 F1.length f1) (.bool false)
              rw [HFLU.out, ← HFE.out]
              exact ⟨_, rfl, hk, HEND.out⟩
      · have HFLU := Lib.hid (show rwriteX d F k s = (d1, F1, 7) by unfold rwriteX; rw [if_neg (by rw [ho]; simp), if_neg HBAD.out, hst]; rfl)
        rw [hst] at hst1
        go_enter Try.func37, Try.ntmps37
        go_wp2_with fail
        refine hst1.mono ?_
        rintro e0 w1 ⟨v1, rfl, hr1, hb1⟩
        obtain ⟨A1, c1, L1, e1, C1, f1, rfl⟩ := hr1.open_
        have hp := (hb1.block (w.heap.size) (heap_lt HX0.out)).trans HX0.out
        have hq := (hb1.block (w.heap.size + 1) (heap_lt HX1.out)).trans HX1.out
        have HP1 := Lib.hid hp; have HQ1 := Lib.hid hq; have HR1 := Lib.hid hr1; have HB1 := Lib.hid (HB.out.trans (hb1.mono HB.out.size))
        have p0 : w1.cell? ⟨w.heap.size, 0, none⟩ = some (.slice A d.sure.length c) := by rw [cell_of_row _ _ _ _ _ _ hp]; rfl
        have p1 : w1.cell? ⟨w.heap.size, 1, none⟩ = some (.slice L d.loose.length e) := by rw [cell_of_row _ _ _ _ _ _ hp]; rfl
        have p2 : w1.cell? ⟨w.heap.size, 2, none⟩ = some (.int .i64 d.steps) := by rw [cell_of_row _ _ _ _ _ _ hp]; rfl
        have p3 : w1.cell? ⟨w.heap.size, 3, none⟩ = some (.slice C F.length f) := by rw [cell_of_row _ _ _ _ _ _ hp]; rfl
        have p4 : w1.cell? ⟨w.heap.size, 4, none⟩ = some (.bool false) := by rw [cell_of_row _ _ _ _ _ _ hp]; rfl
        have pf0 : w1.frozen? ⟨w.heap.size, 0, none⟩ = false := by simp [World.frozen?, hp]
        have pf1 : w1.frozen? ⟨w.heap.size, 1, none⟩ = false := by simp [World.frozen?, hp]
        have pf2 : w1.frozen? ⟨w.heap.size, 2, none⟩ = false := by simp [World.frozen?, hp]
        have pf3 : w1.frozen? ⟨w.heap.size, 3, none⟩ = false := by simp [World.frozen?, hp]
        have pf4 : w1.frozen? ⟨w.heap.size, 4, none⟩ = false := by simp [World.frozen?, hp]
        have q0 : w1.cell? ⟨w.heap.size + 1, 0, none⟩ = some (.slice none 0 0) := by rw [cell_of_row _ _ _ _ _ _ hq]; rfl
        have q1 : w1.cell? ⟨w.heap.size + 1, 1, none⟩ = some (.slice none 0 0) := by rw [cell_of_row _ _ _ _ _ _ hq]; rfl
        have q2 : w1.cell? ⟨w.heap.size + 1, 2, none⟩ = some (.int .i64 0) := by rw [cell_of_row _ _ _ _ _ _ hq]; rfl
        have q3 : w1.cell? ⟨w.heap.size + 1, 3, none⟩ = some (.slice none 0 0) := by rw [cell_of_row _ _ _ _ _ _ hq]; rfl
        have q4 : w1.cell? ⟨w.heap.size + 1, 4, none⟩ = some (.bool false) := by rw [cell_of_row _ _ _ _ _ _ hq]; rfl
        have qf0 : w1.frozen? ⟨w.heap.size + 1, 0, none⟩ = false := by simp [World.frozen?, hq]
        have qf1 : w1.frozen? ⟨w.heap.size + 1, 1, none⟩ = false := by simp [World.frozen?, hq]
        have qf2 : w1.frozen? ⟨w.heap.size + 1, 2, none⟩ = false := by simp [World.frozen?, hq]
        have qf3 : w1.frozen? ⟨w.heap.size + 1, 3, none⟩ = false := by simp [World.frozen?, hq]
        have qf4 : w1.frozen? ⟨w.heap.size + 1, 4, none⟩ = false := by simp [World.frozen?, hq]
        clear hp hq hr1 hb1 hst1 hst h0
        simp only at HR1 HFLU ⊢
        generalize d1.sure.length = n1 at HR1 ⊢
        generalize d1.loose.length = m1 at HR1 ⊢
        generalize F1.length = k1 at HR1 ⊢
        go_wp2_with fail
        have hres := resW_heap ((resW_other w1 (show w.heap.size + 1 ≠ w.heap.size by omega) (.slice A1 n1 c1) (.slice L1 m1 e1) (.int .i64 d1.steps) (.slice C1 k1 f1) (.bool d1.off)).trans HQ1.out) (.slice A1 n1 c1) (.slice L1 m1 e1) (.int .i64 d1.steps) (.slice C1 k1 f1) (.bool d1.off)
        have HEND := Lib.hid (resW_below (resW_below HB1.out (Nat.le_refl _) (.slice A1 n1 c1) (.slice L1 m1 e1) (.int .i64 d1.steps) (.slice C1 k1 f1) (.bool d1.off)) (Nat.le_succ _) (.slice A1 n1 c1) (.slice L1 m1 e1) (.int .i64 d1.steps) (.slice C1 k1 f1) (.bool d1.off))
        have r0 := cell_of_row _ _ 0 _ _ _ hres
        have r1 := cell_of_row _ _ 1 _ _ _ hres
        have r2 := cell_of_row _ _ 2 _ _ _ hres
        have r3 := cell_of_row _ _ 3 _ _ _ hres
        have r4 := cell_of_row _ _ 4 _ _ _ hres
        simp only [List.getElem?_toArray, List.getElem?_cons_zero, List.getElem?_cons_succ] at r0 r1 r2 r3 r4
        change bodyPost _ _ _ _ _ (resW (resW w1 w.heap.size (.slice A1 n1 c1) (.slice L1 m1 e1) (.int .i64 d1.steps) (.slice C1 k1 f1) (.bool d1.off)) (w.heap.size + 1) (.slice A1 n1 c1) (.slice L1 m1 e1) (.int .i64 d1.steps) (.slice C1 k1 f1) (.bool d1.off))
        refine bodyPost_ret (v := .tuple #[.agg #[.slice A1 n1 c1, .slice L1 m1 e1, .int .i64 d1.steps, .slice C1 k1 f1, .bool d1.off], .int .i64 7]) (by simp [results, Try.results37, go_sem, r0, r1, r2, r3, r4]) rfl ?_
        rw [HFLU.out]
        exact ⟨_, rfl, (HR1.out.res HP1.out (.slice A1 n1 c1) (.slice L1 m1 e1) (.int .i64 d1.steps) (.slice C1 k1 f1) (.bool d1.off)).res ((resW_other w1 (show w.heap.size + 1 ≠ w.heap.size by omega) (.slice A1 n1 c1) (.slice L1 m1 e1) (.int .i64 d1.steps) (.slice C1 k1 f1) (.bool d1.off)).trans HQ1.out) _ _ _ _ _, HEND.out⟩
  · rw [ho] at H
    clear hSz
    clear HB HX0 HX1
    have HB := Lib.hid ((((Below.refl w.heap.size w).alloc (Nat.le_refl _) (.cells #[.slice A d.sure.length c, .slice L d.loose.length e, .int .i64 d.steps, .slice C F.length f, .bool true] 31)).alloc (((Below.refl w.heap.size w).alloc (Nat.le_refl _) (.cells #[.slice A d.sure.length c, .slice L d.loose.length e, .int .i64 d.steps, .slice C F.length f, .bool true] 31)).size) (.cells #[.slice A d.sure.length c, .slice L d.loose.length e, .int .i64 d.steps, .slice C F.length f, .bool true] 31)))
    rw [hS]
    clear hS
    go_enter Try.func37, Try.ntmps37
    go_wp2_with fail
    refine bodyPost_ret (v := .tuple #[.agg #[.slice A d.sure.length c, .slice L d.loose.length e, .int .i64 d.steps, .slice C F.length f, .bool true], .int .i64 7]) (by simp [results, Try.results37, go_sem]) rfl ?_
    rw [show rwriteX d F a s = (d, F, 7) from if_pos ho]
    exact ⟨_, rfl, H.out.on HB.out, HB.out⟩

end Go.Proofs.Ytbdjdeddghdefaa
