/- val.getParts -/
import Derived.Test.YtaonlbmicjoclaaGrow
import Derived.Test.YtaonlbmicjoclaaChk
import Derived.Test.YtaonlbmicjoclaaCopy
import Derived.Deep.RegionWith
namespace Go.Proofs.Ytaonlbmicjoclaa
open Go.ChangeShapes Go.WideShapes Go.ChangeAt Go.RowKit Go.Fl

mutual
/-- a tree, its floats as they are read again -/
def cnT : T → T
  | .mk k b n f s l => .mk k b n (canonN f) s (cnL l)
def cnL : List T → List T
  | [] => []
  | t :: r => cnT t :: cnL r
end

theorem cnL_map (l : List T) : cnL l = l.map cnT := by
  induction l with
  | nil => rfl
  | cons t r ih => rw [cnL, ih]; rfl

/-- the contract of get at a tree's bytes -/
def GetAt (t : T) : Prop := ∀ (d : Nat) (rest : List UInt8) (S : ByteArray) (w : World), chkT t d = 0 → bst (bys t ++ rest) = S → S.size ≤ 140737488351000 →
  Calls Try.prog 30 #[.string S, .int .i64 (d : Nat)] w fun e w' => ∃ v', e = .returned (.tuple #[v', .int .i64 ((bys t).length : Nat), .int .i64 0]) ∧ RdX w' w.heap.size w'.heap.size (cnT t) v' ∧ Below w.heap.size w w'

/-- what Wide says of a list's length, and the list's bytes -/
theorem parts_at {k : UInt8} {m : Nat} {y : List UInt8} {S : ByteArray} (hm : m ≤ 1000) (hS : bst (k :: ((twoS m).data.toList ++ y)) = S) :
    ((S.extract 1 3).size = 2 ∧ wideS (S.extract 1 3) = m) ∧ S.size = 3 + y.length ∧ ∀ o, o ≤ y.length → S.extract (3 + o) S.size = bst (y.drop o) := by
  have h2 := twoL_len m
  have hsz : S.size = 3 + y.length := by rw [← hS, bst_size]; simp only [List.length_cons, List.length_append, h2]; omega
  refine ⟨two_at hS (by omega), hsz, fun o ho => ?_⟩
  rw [← hS, bst_extract, bst_size, List.take_of_length_le (Nat.le_refl _)]
  rw [show 3 + o = (o + 2) + 1 by omega, List.drop_succ_cons, List.drop_append, List.drop_eq_nil_of_le (by omega), List.nil_append, h2, Nat.add_sub_cancel]

theorem bysL_append (a b : List T) : bysL (a ++ b) = bysL a ++ bysL b := by
  induction a with
  | nil => simp [bysL]
  | cons t r ih => rw [List.cons_append, bysL, bysL, ih, List.append_assoc]

theorem bysL_cut {l : List T} {i : Nat} (hi : i < l.length) (rest : List UInt8) : (bysL l ++ rest).drop (bysL (l.take i)).length = bys l[i] ++ (bysL (l.drop (i + 1)) ++ rest) := by
  have e : l = l.take i ++ (l[i] :: l.drop (i + 1)) := by rw [← List.drop_eq_getElem_cons hi, List.take_append_drop]
  have e2 : bysL l = bysL (l.take i) ++ (bys l[i] ++ bysL (l.drop (i + 1))) := by
    conv => lhs; rw [e]
    rw [bysL_append, bysL]
  rw [e2, List.append_assoc, List.drop_append_of_le_length (Nat.le_refl _), List.drop_eq_nil_of_le (Nat.le_refl _), List.nil_append, List.append_assoc]

set_option maxHeartbeats 4000000 in
set_option maxRecDepth 100000 in
theorem getParts_5 (l : List T) (d : Nat) (ih : ∀ i (hi : i < l.length), GetAt l[i]) (hd : d ≤ 13) (hchk : ∀ i (hi : i < l.length), chkT l[i] (d + 1) = 0) (hlen : l.length ≤ 1000) (rest : List UInt8) (S : ByteArray) (w : World) (hS : bst (kby 5 :: ((twoS l.length).data.toList ++ (bysL l ++ rest))) = S) (hl : S.size ≤ 140737488351000) :
    Calls Try.prog 54 #[.string S, .int .i64 (d : Nat)] w fun e w' => ∃ p c, e = .returned (.tuple #[.agg #[.int .i64 5, .bool false, .int .i64 0, .float .f64 0, .string ⟨#[]⟩, .slice p l.length c], .int .i64 (3 + (bysL l).length : Nat), .int .i64 0]) ∧
      (l.length ≤ c ∧ c ≤ 9223372036854775807 ∧ (p = none → c = 0) ∧ RdXL w' w.heap.size w'.heap.size (l.map cnT) p) ∧ Below w.heap.size w w' := by
  obtain ⟨⟨hx1, hx2⟩, hsz, hx3⟩ := parts_at hlen hS
  obtain ⟨g1, e1⟩ := bst_get hS (i := 0) (u := kby 5) rfl
  have t1 : (S[0]'g1).toNat = 5 := by rw [e1]; rfl
  have Hx1 := Lib.hid hx1; have Hx2 := Lib.hid hx2; have Hx3 := Lib.hid hx3
  have hsz1 : 3 ≤ S.size := by omega
  have Hsz := Lib.hid hsz
  have IH := Lib.hid ih; have Hchk := Lib.hid hchk
  clear hx1 hx2 hx3 hsz hS e1 ih hchk
  go_enter Try.func54, Try.ntmps54
  go_upto_region 3 with fail
  go_cut [7, 8, 9] from 20 to 27 (fun a b c wx => a = .pointer (some ⟨w.heap.size + 1, 0, none⟩) ∧ b = .int .i64 3 ∧ c = .int .i64 (l.length : Nat) ∧ wx = ((w.alloc (.cells #[.int .i64 0, .bool false, .int .i64 0, .float .f64 0, .string ⟨#[]⟩, .slice none 0 0] 26)).alloc (.cells #[.int .i64 5, .bool false, .int .i64 0, .float .f64 0, .string ⟨#[]⟩, .slice none 0 0] 26)).drew)
  case first =>
    have hwl : IntKind.i64.wrap (l.length : Int) = (l.length : Int) := IntWalk.i64_in _ (by omega)
    go_region_with ((go_at_call 70; refine (wide_any _ _ (by rw [Hx1.out]; decide)).mono ?_; rw [Hx2.out]; rintro e w1 ⟨rfl, rfl⟩))
    all_goals (go_wp2_with fail; go_meet; exact ⟨rfl, rfl, (by first | rfl | exact congrArg (Value.int .i64) hwl), rfl⟩)
  case rest =>
    obtain ⟨rfl, rfl, rfl, rfl⟩ := hcut
    go_wp2_with fail
    go_loopw [8, 35] (fun sa si wr => ∃ (i o : Nat) (p : Option Addr) (c : Nat), i ≤ l.length ∧ Hid (o = (bysL (l.take i)).length) ∧ o ≤ (bysL l).length ∧ sa = .int .i64 (3 + o : Nat) ∧ si = .int .i64 i ∧ Below w.heap.size w wr ∧ w.heap.size + 2 ≤ wr.heap.size ∧
      Blk wr w.heap.size 26 #[.int .i64 0, .bool false, .int .i64 0, .float .f64 0, .string ⟨#[]⟩, .slice none 0 0] ∧ Blk wr (w.heap.size + 1) 26 #[.int .i64 5, .bool false, .int .i64 0, .float .f64 0, .string ⟨#[]⟩, .slice p i c] ∧ Own (w.heap.size + 2) wr (l.map cnT) i (.slice p i c)) (fun _ si _ => l.length - (intOf si).toNat)
    case atStart => exact ⟨0, 0, none, 0, Nat.zero_le _, Lib.hid (by simp [bysL]), Nat.zero_le _, rfl, rfl, (((Below.refl w.heap.size w).alloc (Nat.le_refl _) _).alloc (by simp) _).drew, by simp, Blk.below (B := w.heap.size + 1) (Blk.new w _ _) (((Below.refl _ _).alloc (by simp) _).drew) (Nat.lt_succ_self _), (by have h := Blk.new (w.alloc (.cells #[.int .i64 0, .bool false, .int .i64 0, .float .f64 0, .string ⟨#[]⟩, .slice none 0 0] 26)) 26 #[.int .i64 5, .bool false, .int .i64 0, .float .f64 0, .string ⟨#[]⟩, .slice none 0 0]; rw [World.size_alloc] at h; exact h), Own.nil _ _ _⟩
    case round =>
      obtain ⟨i, o, p, c, hi, Ho, hol, rfl, rfl, hb, hz, hB0, hB1, hO⟩ := hrel
      by_cases hlt : i < l.length
      · have hsn := bysL_snoc hlt
        have hle := bysL_len (l := l) (i := i + 1) (by omega)
        rw [hsn, List.length_append, ← Ho.out] at hle
        have hSz := Hsz.out
        rw [List.length_append] at hSz
        have hq0 : (0 : Int) ≤ 3 + (o : Int) := by omega
        have hq1 : (3 : Int) + (o : Int) ≤ (S.size : Int) := by omega
        have hq3 : ((3 : Int) + (o : Int)).toNat = 3 + o := by omega
        have hcut := Hx3.out o (by rw [List.length_append]; omega)
        rw [Ho.out, bysL_cut hlt, ← Ho.out] at hcut
        have hcall := IH.out i hlt (d + 1) _ _ wr (Hchk.out i hlt) hcut.symm (by simp only [ByteArray.size_extract]; omega)
        have Hsn := Lib.hid (congrArg List.length hsn)
        obtain ⟨m, Hm⟩ : ∃ m, Hid ((bys l[i]).length = m) := ⟨(bys l[i]).length, Lib.hid rfl⟩
        rw [Hm.out] at hcall hle
        have hml : m ≤ 140737488351000 := by omega
        have Hcall := Lib.hid hcall
        clear hcall hcut hsn hSz
        go_wp2_with fail
        refine Hcall.out.mono ?_
        rintro e w1 ⟨v', rfl, hv', hb1⟩
        obtain ⟨k, b, n, f, s, q, hk⟩ : ∃ k b n f s q, cnT l[i] = .mk k b n f s q := by rcases l[i] with ⟨k, b, n, f, s, q⟩; exact ⟨_, _, _, _, _, _, by rw [cnT]⟩
        have hv2 := hv'
        rw [hk] at hv2
        obtain ⟨D, capj, rfl, -⟩ := hv2.open
        have hs1 := hb1.size
        have hB1' : Blk w1 (w.heap.size + 1) 26 _ := Blk.below hB1 hb1 (by omega)
        have c5 : w1.cell? ⟨w.heap.size + 1, 5, none⟩ = some (.slice p i c) := (hB1'.cell 5).trans rfl
        have c5' : (w1.alloc (.cells #[.int .i64 k, .bool b, .int .i64 n, .float .f64 f, .string s, .slice D q.length capj] 26)).cell? ⟨w.heap.size + 1, 5, none⟩ = some (.slice p i c) := ((Below.refl w1.heap.size w1).alloc (Nat.le_refl _) _).cell (p := ⟨w.heap.size + 1, 5, none⟩) (by simp; omega) |>.trans c5
        have HB0 := Lib.hid hB0; have HB1 := Lib.hid hB1'; have HO := Lib.hid hO; have Hv := Lib.hid hv'; have Hk := Lib.hid hk
        clear hB0 hB1 hB1' hO hv' hv2 hk
        obtain ⟨i0, hi0, hz0, hz1, hz2⟩ := info_parts info_value
        have hbW : Below wr.heap.size wr ((w1.alloc (.cells #[.int .i64 k, .bool b, .int .i64 n, .float .f64 f, .string s, .slice D q.length capj] 26)).alloc (.cells #[.int .i64 k, .bool b, .int .i64 n, .float .f64 f, .string s, .slice D q.length capj] 26)) := (hb1.alloc hs1 _).alloc (by simp; omega) _
        have hltr : ∀ g, (Value.slice p i c).ownBlock = some g → w.heap.size + 2 ≤ g ∧ g < wr.heap.size := by obtain ⟨_, ho, -⟩ := HO.out; exact ho.lt
        obtain ⟨xs, hown, hp⟩ := HO.out.kept hbW.size (fun b _ hb => hbW.block b hb)
        obtain ⟨v', w2, hr, hown', hgr, hA⟩ := run_append_fresh (P := Try.prog) ((w1.alloc (.cells #[.int .i64 k, .bool b, .int .i64 n, .float .f64 f, .string s, .slice D q.length capj] 26)).alloc (.cells #[.int .i64 k, .bool b, .int .i64 n, .float .f64 f, .string s, .slice D q.length capj] 26)) (w.heap.size + 2) 22 22 26 i0 _ 6 72 Try.underlying22 hi0 hz0 hz1 hz2 rfl (by decide) _ i xs hown ⟨w1.heap.size + 1, 0, none⟩ 1 1 [.int .i64 k, .bool b, .int .i64 n, .float .f64 f, .string s, .slice D q.length capj] rfl
          (fun j u hj => by
            have := Blk.new (w1.alloc (.cells #[.int .i64 k, .bool b, .int .i64 n, .float .f64 f, .string s, .slice D q.length capj] 26)) 26 #[.int .i64 k, .bool b, .int .i64 n, .float .f64 f, .string s, .slice D q.length capj]
            have hc := this.cell j
            simp only [World.size_alloc] at hc
            have ha : (⟨w1.heap.size + 1, 0, none⟩ : Addr).add j = ⟨w1.heap.size + 1, j, none⟩ := by unfold Addr.add; split <;> simp_all
            rw [ha, hc]
            simpa using hj)
          (fun u hu => by simp at hu; rcases hu with rfl | rfl | rfl | rfl | rfl | rfl <;> rfl) (by unfold maxLen; omega) (by omega) (by simp; omega) (by decide)
        have hne : some (w.heap.size + 1) ≠ (Value.slice p i c).ownBlock := fun e => by have := (hltr _ e.symm).1; omega
        have hne0 : some w.heap.size ≠ (Value.slice p i c).ownBlock := fun e => by have := (hltr _ e.symm).1; omega
        have hB1w : Blk w2 (w.heap.size + 1) 26 _ := (hgr.block _ (by simp; omega) hne).trans (Blk.below HB1.out (((Below.refl w1.heap.size w1).alloc (Nat.le_refl _) _).alloc (by simp) _) (by omega))
        have hB0w : Blk w2 w.heap.size 26 _ := (hgr.block _ (by simp; omega) hne0).trans ((hbW.block _ (by omega)).trans HB0.out)
        obtain ⟨g, cap, rfl⟩ : ∃ g cap, v' = .slice (some ⟨g, 0, none⟩) (i + 1 : Nat) cap := by
          rcases hown'.2 with ⟨-, h0⟩ | ⟨g, cap, cur, rfl, -⟩
          · omega
          · exact ⟨g, cap, rfl⟩
        have c5w : w2.cell? ⟨w.heap.size + 1, 5, none⟩ = some (.slice p i c) := (hB1w.cell 5).trans rfl
        have z5w : w2.frozen? ⟨w.heap.size + 1, 5, none⟩ = false := hB1w.frozen 5
        have HB0w := Lib.hid hB0w; have HB1w := Lib.hid hB1w; have Hown := Lib.hid hown; have Hp := Lib.hid hp; have Hown' := Lib.hid hown'; have HA := Lib.hid hA; have Hgr := Lib.hid hgr
        have Hlt := Lib.hid hltr
        have Hr := Lib.hid hr
        clear hi0 hz0 hz1 hz2 hown hp hown' hA hgr hne hne0 hB1w hB0w hr hltr
        go_wp2_with (at_builtin; refine Lib.wpList_append_run_sl _ rfl _ _ 22 rfl _ _ rfl rfl Hr.out ?_)
        go_wp2_with fail
        go_roundw
        case rel =>
          have hgz := Hgr.out.size
          simp only [World.size_alloc] at hgz
          refine ⟨i + 1, o + m, some ⟨g, 0, none⟩, cap, by omega, Lib.hid (by rw [Hsn.out, List.length_append, ← Ho.out, Hm.out]), by omega, by go_num, by go_num,
            ((hb.trans (hbW.mono (by omega))).grown Hgr.out (by simp; omega) (fun k hk => by have := (Hlt.out k hk).1; omega)).setCell (p := ⟨w.heap.size + 1, 5, none⟩) (by simp) _, by simp [World.setCell]; omega, HB0w.out.far (by simp) _, HB1w.out.set_ 5 _, ?_⟩
          refine (Own.step (v := .agg #[.int .i64 k, .bool b, .int .i64 n, .float .f64 f, .string s, .slice D q.length capj]) Hown.out Hp.out (by simpa using hlt) (fun j u hu => ?_) ?_ Hown'.out Hgr.out HA.out).kept (by simp [World.setCell]) (fun b' hb' _ => Below.heap_setCell _ _ _ _ (by simp; omega))
          · have hj := (Array.getElem?_eq_some_iff.1 hu).1
            exact ⟨by simpa [Value.cells] using hj, by simpa [Value.cells] using hu⟩
          · rw [List.getElem_map]
            exact Hv.out.keepS (fun p' hp' => by rw [World.cell?_of_block (w := w1)]; rw [heap_alloc_old _ _ (by simp; omega), heap_alloc_old _ _ hp'.2]) (fun b' hb' => ⟨by omega, by simp; omega, fun e => by have := (Hlt.out _ e.symm).2; omega⟩)
        case measure => simp [intOf]; omega
      · obtain rfl : i = l.length := by omega
        have hoe : o = (bysL l).length := by have := Ho.out; rwa [List.take_of_length_le (Nat.le_refl _)] at this
        have Hfin := Lib.hid (set6_load hB0 (by simp) (.int .i64 5) (.bool false) (.int .i64 0) (.float .f64 0) (.string ⟨#[]⟩) (.slice p l.length c))
        have x0 : wr.cell? ⟨w.heap.size + 1, 0, none⟩ = some (.int .i64 5) := (hB1.cell 0).trans rfl
        have x1 : wr.cell? ⟨w.heap.size + 1, 1, none⟩ = some (.bool false) := (hB1.cell 1).trans rfl
        have x2 : wr.cell? ⟨w.heap.size + 1, 2, none⟩ = some (.int .i64 0) := (hB1.cell 2).trans rfl
        have x3 : wr.cell? ⟨w.heap.size + 1, 3, none⟩ = some (.float .f64 0) := (hB1.cell 3).trans rfl
        have x4 : wr.cell? ⟨w.heap.size + 1, 4, none⟩ = some (.string ⟨#[]⟩) := (hB1.cell 4).trans rfl
        have x5 : wr.cell? ⟨w.heap.size + 1, 5, none⟩ = some (.slice p l.length c) := (hB1.cell 5).trans rfl
        have d0 : wr.cell? ⟨w.heap.size, 0, none⟩ = some (.int .i64 0) := (hB0.cell 0).trans rfl
        have d1 : wr.cell? ⟨w.heap.size, 1, none⟩ = some (.bool false) := (hB0.cell 1).trans rfl
        have d2 : wr.cell? ⟨w.heap.size, 2, none⟩ = some (.int .i64 0) := (hB0.cell 2).trans rfl
        have d3 : wr.cell? ⟨w.heap.size, 3, none⟩ = some (.float .f64 0) := (hB0.cell 3).trans rfl
        have d4 : wr.cell? ⟨w.heap.size, 4, none⟩ = some (.string ⟨#[]⟩) := (hB0.cell 4).trans rfl
        have d5 : wr.cell? ⟨w.heap.size, 5, none⟩ = some (.slice none 0 0) := (hB0.cell 5).trans rfl
        have z0 : wr.frozen? ⟨w.heap.size, 0, none⟩ = false := hB0.frozen 0
        have z1 : wr.frozen? ⟨w.heap.size, 1, none⟩ = false := hB0.frozen 1
        have z2 : wr.frozen? ⟨w.heap.size, 2, none⟩ = false := hB0.frozen 2
        have z3 : wr.frozen? ⟨w.heap.size, 3, none⟩ = false := hB0.frozen 3
        have z4 : wr.frozen? ⟨w.heap.size, 4, none⟩ = false := hB0.frozen 4
        have z5 : wr.frozen? ⟨w.heap.size, 5, none⟩ = false := hB0.frozen 5
        have HO := Lib.hid hO
        have Hoe := Lib.hid hoe
        clear hB0 hB1 hO hoe
        go_wp2_with fail
        obtain ⟨f0, f1, f2, f3, f4, f5⟩ := Hfin.out
        obtain ⟨a1, a2, a3, a4⟩ := HO.out.all (by simp)
        exact bodyPost_ret (v := .tuple #[.agg #[.int .i64 5, .bool false, .int .i64 0, .float .f64 0, .string ⟨#[]⟩, .slice p l.length c], .int .i64 (3 + o : Nat), .int .i64 0]) (by simp [results, Try.results54, go_sem, f0, f1, f2, f3, f4, f5]) rfl
          ⟨p, c, by rw [Hoe.out], ⟨by simpa using a1, a2, a3, RdSL.keep (fun q hq _ => World.cell?_of_block (set6_far (.int .i64 5) (.bool false) (.int .i64 0) (.float .f64 0) (.string ⟨#[]⟩) (.slice p l.length c) (by omega))) (by omega) (by simp [World.setCell]) a4⟩, set6_below hb (Nat.le_refl _) (.int .i64 5) (.bool false) (.int .i64 0) (.float .f64 0) (.string ⟨#[]⟩) (.slice p l.length c)⟩

end Go.Proofs.Ytaonlbmicjoclaa
