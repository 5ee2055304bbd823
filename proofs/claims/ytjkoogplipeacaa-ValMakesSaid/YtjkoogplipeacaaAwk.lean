/- the laws' awake -/
import Derived.Test.YtjkoogplipeacaaGetS
import Derived.Test.YtjkoogplipeacaaCopy
import Derived.Test.YtjkoogplipeacaaCmpB
namespace Go.Proofs.Ytjkoogplipeacaa
open Go.ChangeShapes Go.WideShapes Go.ChangeAt Go.RowKit Go.Fl

def aT : T := .mk 2 false 5 0 ⟨#[]⟩ []
def bT : T := .mk 4 false 0 0 ⟨#[97]⟩ []
/-- the list of 5 and 'a' -/
def tA : T := .mk 5 false 0 0 ⟨#[]⟩ [aT, bT]

theorem shp_mk {k : Int} {b : Bool} {n : Int} {f : Nat} {s : ByteArray} {m : Nat} (h : 0 ≤ k ∧ k ≤ 8 ∧ (b = true → k = 1) ∧ (n ≠ 0 → k = 2 ∨ k = 7 ∨ k = 8) ∧ (k = 7 ∨ k = 8 → 1 ≤ n) ∧ (f ≠ 0 → k = 3) ∧ (s.toList ≠ [] → k = 4) ∧ (m ≠ 0 → k = 5 ∨ k = 6)) : shpT k b n f s m = true := by
  unfold shpT; exact decide_eq_true h

theorem chk_mk {k : Int} {b : Bool} {n : Int} {f : Nat} {s : ByteArray} {l : List T} {d : Nat} (hd : d ≤ 13) (hsh : shpT k b n f s l.length = true) (hs : s.size ≤ 500) (hlen : l.length ≤ 1000) (hL : chkL l (d + 1) = 0) (h6 : k = 6 → risesB l = true) : chkT (.mk k b n f s l) d = 0 := by
  rw [chkT, if_neg (by omega), if_neg (by rw [hsh]; decide), if_neg (by omega), hL]
  unfold lex
  rw [if_pos rfl, if_neg]
  rintro ⟨h, hr⟩
  rw [h6 h] at hr
  exact absurd hr (by decide)

theorem empty_list : (⟨#[]⟩ : ByteArray).toList = [] := by rw [Lib.toList_data]

theorem chk_A : chkF tA = 0 := by
  have ha : chkT aT 2 = 0 := chk_mk (by decide) (shp_mk ⟨by decide, by decide, by decide, by decide, by decide, by decide, fun h => absurd empty_list h, by decide⟩) (by decide) (by decide) (by rw [chkL]) (fun h => absurd h (by decide))
  have hb : chkT bT 2 = 0 := chk_mk (by decide) (shp_mk ⟨by decide, by decide, by decide, by decide, by decide, by decide, fun _ => rfl, by decide⟩) (by decide) (by decide) (by rw [chkL]) (fun h => absurd h (by decide))
  have hL : chkL [aT, bT] 2 = 0 := by rw [chkL, chkL, chkL, ha, hb]; rfl
  have ht : chkT tA 1 = 0 := chk_mk (by decide) (shp_mk ⟨by decide, by decide, by decide, by decide, by decide, by decide, fun h => absurd empty_list h, by decide⟩) (by decide) (by decide) hL (fun h => absurd h (by decide))
  have h16 : tot tA = 16 := by
    unfold tA aT bT
    rw [tot, totL, totL, totL, tot, tot, totL]
    decide
  unfold chkF
  rw [h16, ht]
  decide

theorem add0 (g k : Nat) : (⟨g, 0, none⟩ : Addr).add k = ⟨g, k, none⟩ := by unfold Addr.add; split <;> simp_all

/-- a new row of two values -/
theorem pair_list {w : World} {ta tb : T} {a0 a1 a2 a3 a4 a5 b0 b1 b2 b3 b4 b5 : Value} (ha : Rd w w.heap.size ta (.agg #[a0, a1, a2, a3, a4, a5])) (hb : Rd w w.heap.size tb (.agg #[b0, b1, b2, b3, b4, b5])) :
    RdL (w.alloc (.cells #[a0, a1, a2, a3, a4, a5, b0, b1, b2, b3, b4, b5] 25)) (w.alloc (.cells #[a0, a1, a2, a3, a4, a5, b0, b1, b2, b3, b4, b5] 25)).heap.size [ta, tb] (some ⟨w.heap.size, 0, none⟩) := by
  have hB := Blk.new w 25 #[a0, a1, a2, a3, a4, a5, b0, b1, b2, b3, b4, b5]
  have hbel := (Below.refl w.heap.size w).alloc (Nat.le_refl _) (.cells #[a0, a1, a2, a3, a4, a5, b0, b1, b2, b3, b4, b5] 25)
  intro i hi
  have hi2 : i < 2 := hi
  match i, hi2 with
  | 0, _ =>
    refine ⟨_, _, rfl, ⟨Nat.zero_le _, by simp⟩, fun j u hu => ?_, ha.on hbel⟩
    rw [add0, hB.cell]
    have hj : j < 6 := by have := (Array.getElem?_eq_some_iff.1 hu).1; simpa [Value.cells] using this
    match j, hj with
    | 0, _ => simpa [Value.cells] using hu
    | 1, _ => simpa [Value.cells] using hu
    | 2, _ => simpa [Value.cells] using hu
    | 3, _ => simpa [Value.cells] using hu
    | 4, _ => simpa [Value.cells] using hu
    | 5, _ => simpa [Value.cells] using hu
  | 1, _ =>
    refine ⟨_, _, rfl, ⟨Nat.zero_le _, by simp⟩, fun j u hu => ?_, hb.on hbel⟩
    rw [add0, hB.cell]
    have hj : j < 6 := by have := (Array.getElem?_eq_some_iff.1 hu).1; simpa [Value.cells] using this
    match j, hj with
    | 0, _ => simpa [Value.cells] using hu
    | 1, _ => simpa [Value.cells] using hu
    | 2, _ => simpa [Value.cells] using hu
    | 3, _ => simpa [Value.cells] using hu
    | 4, _ => simpa [Value.cells] using hu
    | 5, _ => simpa [Value.cells] using hu

theorem cmp_1 : cmpT (.mk 2 false 1 0 ⟨#[]⟩ []) (.mk 3 false 0 (canonN 4607182418800017408) ⟨#[]⟩ []) < 0 := by
  rw [cmpT]
  decide +kernel

set_option maxHeartbeats 1000000 in
set_option maxRecDepth 100000 in
theorem awake_any (w : World) : Calls Try.prog 12 #[] w fun e w' => e = .returned (.bool true) ∧ Below w.heap.size w w' := by
  obtain ⟨S, hS⟩ : ∃ S, (⟨(bys tA).toArray⟩ : ByteArray) = S := ⟨_, rfl⟩
  have hp : putV tA = .tuple #[.string S, .int .i64 0] := by unfold putV; rw [if_pos chk_A, hS]
  have hS2 : bst (bys tA ++ []) = S := by rw [List.append_nil]; exact hS
  have hsz : S.size = (bys tA).length := by rw [← hS]; exact bst_size _
  have hbt := bys_tot tA
  have ht16 := (chkF_parts chk_A).1
  obtain ⟨m, hm⟩ : ∃ m, (bys tA).length = m := ⟨_, rfl⟩
  have hm6 : S.size ≤ 140737488351000 := by omega
  have hget := fun W (h : ∃ w B v, Rd w B tA v) => vget_any h chk_A [] S W hS2 hm6
  have hcn : cnT tA = .mk 5 false 0 0 ⟨#[]⟩ [aT, bT] := by unfold tA aT bT; rw [cnT, cnL, cnL, cnL, cnT, cnT, cnL, canon0]
  have hsm : S.size = m := by omega
  rw [hm, hcn] at hget
  have hc1 := cmp_1
  obtain ⟨z, hz⟩ : ∃ z, cmpT (.mk 2 false 1 0 ⟨#[]⟩ []) (.mk 3 false 0 (canonN 4607182418800017408) ⟨#[]⟩ []) = z := ⟨_, rfl⟩
  rw [hz] at hc1
  have hd : decide (z < 0) = true := by simpa using hc1
  have Hp := Lib.hid hp; have Hget := Lib.hid hget; have Hz := Lib.hid hz
  obtain rfl : m = S.size := hsm.symm
  clear hS hp hS2 hsz hbt ht16 hm hget hcn hc1 hz hsm
  go_enter Try.func12, Try.ntmps12
  go_wp2_with fail
  refine (vint_any 5 _).mono ?_
  rintro e w1 ⟨rfl, hb1⟩
  go_wp2_with fail
  refine (vtext_any ⟨#[97]⟩ _).mono ?_
  rintro e w2 ⟨rfl, hb2⟩
  unfold valV
  go_wp2_with fail
  refine (vlist_any (l := [aT, bT]) (pair_list (RdX.leaf _ _ _ 2 false 5 0 ⟨#[]⟩ (by decide) (by decide) (by decide) (by decide)) (RdX.leaf _ _ _ 4 false 0 0 ⟨#[97]⟩ (by decide) (by decide) (by decide) (by decide))) (by decide)).mono ?_
  rintro e w3 ⟨v', rfl, hv', hb3⟩
  have hba := hb1.trans (hb2.mono hb1.size)
  have hba3 := (hba.alloc hba.size (.cells #[.int .i64 2, .bool false, .int .i64 5, .float .f64 0, .string ⟨#[]⟩, .slice none 0 0, .int .i64 4, .bool false, .int .i64 0, .float .f64 0, .string ⟨#[97]⟩, .slice none 0 0] 25))
  have hbb := hba3.trans (hb3.mono hba3.size)
  clear hb1 hb2 hb3 hba hba3
  have hv0 := hv'
  obtain ⟨A0, cap0, rfl, -⟩ := hv0.open
  have HV := Lib.hid (show Rd w3 w3.heap.size tA _ from hv'.up (Nat.zero_le _) (Nat.le_refl _))
  clear hv' hv0
  go_wp2_with fail
  refine (vput_any HV.out).mono ?_
  rw [Hp.out]
  rintro e w4 ⟨rfl, hb4⟩
  go_wp2_with fail
  refine (Hget.out _ ⟨_, _, _, HV.out⟩).mono ?_
  rintro e w5 ⟨v5, rfl, hv5, hb5⟩
  have hbc := (hbb.trans (hb4.mono hbb.size))
  have hbd := hbc.trans (hb5.mono hbc.size)
  obtain ⟨A, cap, rfl, -, -, -, -, -, -, -, hl⟩ := hv5.open
  obtain ⟨a, k, b, n, f, s, q, D, capi, rfl, hab, hx, hrd, e0, e1, e2, e3, e4, e5⟩ := hl.item (i := 0) (by decide)
  obtain ⟨rfl, rfl, rfl, rfl, rfl, rfl⟩ : k = 2 ∧ b = false ∧ n = 5 ∧ f = 0 ∧ s = ⟨#[]⟩ ∧ q = [] := by
    have : aT = .mk k b n f s q := hx
    unfold aT at this
    simp only [T.mk.injEq] at this
    exact ⟨this.1.symm, this.2.1.symm, this.2.2.1.symm, this.2.2.2.1.symm, this.2.2.2.2.1.symm, this.2.2.2.2.2.symm⟩
  have ha0 : a.add (0 * 6) = a := by simp [Addr.add]
  rw [ha0] at e2
  have c2 : (w5.alloc (.cells #[.int .i64 5, .bool false, .int .i64 0, .float .f64 0, .string ⟨#[]⟩, .slice (some a) 2 cap] 25)).cell? ⟨a.block, a.off + 2, none⟩ = some (.int .i64 5) :=
    ((Below.refl w5.heap.size w5).alloc (Nat.le_refl _) _).cell (p := ⟨a.block, a.off + 2, none⟩) (World.block_lt_of_cell? w5 _ e2) |>.trans e2
  clear ha0
  clear e0 e1 e2 e3 e4 e5 hx hrd hl hv5 hb4 hb5 hbb hbc
  go_wp2_with fail
  refine (vint_any 1 _).mono ?_
  rintro e w6 ⟨rfl, hb6⟩
  go_wp2_with fail
  refine (vfloat_any 4607182418800017408 _).mono ?_
  rintro e w7 ⟨rfl, hb7⟩
  go_wp2_with fail
  refine (vcmp_any (RdX.leaf _ _ _ 2 false 1 0 ⟨#[]⟩ (by decide) (by decide) (by decide) (by decide)) (RdX.leaf _ _ _ 3 false 0 (canonN 4607182418800017408) ⟨#[]⟩ (by decide) (by decide) (by decide) (by decide))).mono ?_
  rw [Hz.out]
  rintro e w8 ⟨rfl, hb8⟩
  go_wp2_with fail
  go_ret
  have hbe := hbd.alloc hbd.size (.cells #[.int .i64 5, .bool false, .int .i64 0, .float .f64 0, .string ⟨#[]⟩, .slice (some a) 2 cap] 25)
  have hbf := hbe.trans (hb6.mono hbe.size)
  have hbg := hbf.trans (hb7.mono hbf.size)
  exact ⟨rfl, hbg.trans (hb8.mono hbg.size)⟩

end Go.Proofs.Ytjkoogplipeacaa
