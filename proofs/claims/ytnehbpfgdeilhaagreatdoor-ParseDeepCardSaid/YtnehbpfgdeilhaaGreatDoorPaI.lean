/- parse: what may stand next (written by tools/laws12c.py) -/
import Derived.Test.YtnehbpfgdeilhaaGreatDoorPaB
import Derived.Test.YtnehbpfgdeilhaaGreatDoorCmpA
import Derived.Test.YtnehbpfgdeilhaaGreatDoorCopy

namespace Go.Proofs.YtnehbpfgdeilhaaGreatDoor
open Go.ChangeShapes Go.WideShapes Go.ChangeAt Go.RowKit Go.Fl
open Go.Shelf

theorem Gd.kind {ws : List Wd} (hG : Gd ws) {i : Nat} {x : Wd} (hx : ws[i]? = some x) : x.k = 0 ∨ x.k = 1 ∨ x.k = 2 ∨ x.k = 3 ∨ x.k = 4 ∨ x.k = 5 := by
  obtain ⟨h1, h2, -⟩ := hG.ok x (List.mem_of_getElem? hx)
  omega

theorem val_name (s : ByteArray) (m : Int) (f a : Nat) : valA ⟨1, s, m, f, a⟩ = ((s.toList == [116, 114, 117, 101]) || (s.toList == [102, 97, 108, 115, 101]) || (s.toList == [110, 117, 108, 108])) := by
  rw [Lib.toList_data]
  unfold valA isSgn isL txTrue txFalse txNull
  simp

set_option maxHeartbeats 1000000 in
set_option maxRecDepth 100000 in
theorem valueAhead_any {w : World} {pb g cap : Nat} {ws : List Wd} {i d n : Nat} {x : Wd} (h : PB w pb g cap ws i d n) (hG : Gd ws) (hx : ws[i]? = some x) :
    Calls Tryz.prog 58 #[.pointer (some ⟨pb, 0, none⟩)] w fun e w' => e = .returned (.bool (valA x)) ∧ Below w.heap.size w w' := by
  have HW := Lib.hid (word_any h hG hx)
  have HW2 := Lib.hid (fun W (hb : Below w.heap.size w W) => word_any (h.on hb) hG hx)
  have hk := hG.kind hx
  have HS := Lib.hid (fun W => isSign_any x ⟨#[91]⟩ W)
  clear h hG hx
  obtain ⟨k, s, m, f, a⟩ := x
  simp only at hk
  rcases hk with rfl | rfl | rfl | rfl | rfl | rfl
  · go_enter Tryz.func58, Tryz.ntmps58
    go_wp2_with fail
    refine HW.out.mono ?_
    rintro e w1 ⟨rfl, hb1⟩
    have HB := Lib.hid (hb1.alloc hb1.size (.cells #[.int .i64 0, .string s, .int .i64 m, .float .f64 f, .int .i64 (a : Nat)] 56)); clear hb1
    go_wp2_with fail
    refine (HW2.out _ HB.out).mono ?_
    rintro e w2 ⟨rfl, hb2⟩
    have HB2 := Lib.hid (HB.out.trans (hb2.mono HB.out.size)); clear hb2
    go_wp2_with fail
    refine (HS.out _).mono ?_
    rintro e w3 ⟨rfl, hb3⟩
    go_wp2_with fail
    go_ret
    exact ⟨rfl, HB2.out.trans (hb3.mono HB2.out.size)⟩
  · have HV := Lib.hid (val_name s m f a)
    cases h1 : (s.toList == [116, 114, 117, 101]) <;> cases h2 : (s.toList == [102, 97, 108, 115, 101]) <;> cases h3 : (s.toList == [110, 117, 108, 108])
    all_goals
      have HV2 := Lib.hid (HV.out.trans (by rw [h1, h2, h3]))
      clear HV
      go_enter Tryz.func58, Tryz.ntmps58
      go_wp2_with fail
      refine HW.out.mono ?_
      rintro e w1 ⟨rfl, hb1⟩
      have HB := Lib.hid hb1; clear hb1
      go_wp2_with fail
      go_ret
      exact ⟨by rw [HV2.out]; rfl, HB.out.alloc HB.out.size _⟩
  · go_enter Tryz.func58, Tryz.ntmps58
    go_wp2_with fail
    refine HW.out.mono ?_
    rintro e w1 ⟨rfl, hb1⟩
    have HB := Lib.hid hb1; clear hb1
    go_wp2_with fail
    go_ret
    exact ⟨rfl, HB.out.alloc HB.out.size _⟩
  · go_enter Tryz.func58, Tryz.ntmps58
    go_wp2_with fail
    refine HW.out.mono ?_
    rintro e w1 ⟨rfl, hb1⟩
    have HB := Lib.hid hb1; clear hb1
    go_wp2_with fail
    go_ret
    exact ⟨rfl, HB.out.alloc HB.out.size _⟩
  · go_enter Tryz.func58, Tryz.ntmps58
    go_wp2_with fail
    refine HW.out.mono ?_
    rintro e w1 ⟨rfl, hb1⟩
    have HB := Lib.hid hb1; clear hb1
    go_wp2_with fail
    go_ret
    exact ⟨rfl, HB.out.alloc HB.out.size _⟩
  · go_enter Tryz.func58, Tryz.ntmps58
    go_wp2_with fail
    refine HW.out.mono ?_
    rintro e w1 ⟨rfl, hb1⟩
    have HB := Lib.hid (hb1.alloc hb1.size (.cells #[.int .i64 5, .string s, .int .i64 m, .float .f64 f, .int .i64 (a : Nat)] 56)); clear hb1
    go_wp2_with fail
    refine (HW2.out _ HB.out).mono ?_
    rintro e w2 ⟨rfl, hb2⟩
    have HB2 := Lib.hid (HB.out.trans (hb2.mono HB.out.size)); clear hb2
    go_wp2_with fail
    refine (HS.out _).mono ?_
    rintro e w3 ⟨rfl, hb3⟩
    go_wp2_with fail
    go_ret
    exact ⟨rfl, HB2.out.trans (hb3.mono HB2.out.size)⟩

theorem list_of_beq {S : ByteArray} {l : List UInt8} (h : (S.toList == l) = true) : S.data.toList = l := by rw [← Lib.toList_data]; exact beq_iff_eq.1 h

theorem ne_of_beq {S : ByteArray} {l : List UInt8} (h : (S.toList == l) = false) : S.data.toList ≠ l := by rw [← Lib.toList_data]; exact beq_eq_false_iff_ne.1 h

set_option maxHeartbeats 4000000 in
set_option maxRecDepth 100000 in
theorem preds_any (S : ByteArray) (w : World) : Calls Tryz.prog 83 #[.string S] w fun e w' => e = .returned (.tuple #[.int .i64 (mostN S.data.toList), .bool (prdN S.data.toList).isSome]) ∧ w = w' := by
  cases h0 : (S.toList == [101, 113])
  case true =>
    have HP := Lib.hid (show prdN S.data.toList = some (1) by rw [list_of_beq h0]; rfl)
    go_enter Tryz.func83, Tryz.ntmps83
    go_wp2_with fail
    go_ret2
    exact ⟨by unfold mostN; rw [HP.out]; rfl, rfl⟩
  cases h1 : (S.toList == [110, 101, 113])
  case true =>
    have HP := Lib.hid (show prdN S.data.toList = some (1) by rw [list_of_beq h1]; rfl)
    go_enter Tryz.func83, Tryz.ntmps83
    go_wp2_with fail
    go_ret2
    exact ⟨by unfold mostN; rw [HP.out]; rfl, rfl⟩
  cases h2 : (S.toList == [108, 116])
  case true =>
    have HP := Lib.hid (show prdN S.data.toList = some (1) by rw [list_of_beq h2]; rfl)
    go_enter Tryz.func83, Tryz.ntmps83
    go_wp2_with fail
    go_ret2
    exact ⟨by unfold mostN; rw [HP.out]; rfl, rfl⟩
  cases h3 : (S.toList == [108, 116, 101])
  case true =>
    have HP := Lib.hid (show prdN S.data.toList = some (1) by rw [list_of_beq h3]; rfl)
    go_enter Tryz.func83, Tryz.ntmps83
    go_wp2_with fail
    go_ret2
    exact ⟨by unfold mostN; rw [HP.out]; rfl, rfl⟩
  cases h4 : (S.toList == [103, 116])
  case true =>
    have HP := Lib.hid (show prdN S.data.toList = some (1) by rw [list_of_beq h4]; rfl)
    go_enter Tryz.func83, Tryz.ntmps83
    go_wp2_with fail
    go_ret2
    exact ⟨by unfold mostN; rw [HP.out]; rfl, rfl⟩
  cases h5 : (S.toList == [103, 116, 101])
  case true =>
    have HP := Lib.hid (show prdN S.data.toList = some (1) by rw [list_of_beq h5]; rfl)
    go_enter Tryz.func83, Tryz.ntmps83
    go_wp2_with fail
    go_ret2
    exact ⟨by unfold mostN; rw [HP.out]; rfl, rfl⟩
  cases h6 : (S.toList == [115, 116, 97, 114, 116, 105, 110, 103, 87, 105, 116, 104])
  case true =>
    have HP := Lib.hid (show prdN S.data.toList = some (1) by rw [list_of_beq h6]; rfl)
    go_enter Tryz.func83, Tryz.ntmps83
    go_wp2_with fail
    go_ret2
    exact ⟨by unfold mostN; rw [HP.out]; rfl, rfl⟩
  cases h7 : (S.toList == [101, 110, 100, 105, 110, 103, 87, 105, 116, 104])
  case true =>
    have HP := Lib.hid (show prdN S.data.toList = some (1) by rw [list_of_beq h7]; rfl)
    go_enter Tryz.func83, Tryz.ntmps83
    go_wp2_with fail
    go_ret2
    exact ⟨by unfold mostN; rw [HP.out]; rfl, rfl⟩
  cases h8 : (S.toList == [99, 111, 110, 116, 97, 105, 110, 105, 110, 103])
  case true =>
    have HP := Lib.hid (show prdN S.data.toList = some (1) by rw [list_of_beq h8]; rfl)
    go_enter Tryz.func83, Tryz.ntmps83
    go_wp2_with fail
    go_ret2
    exact ⟨by unfold mostN; rw [HP.out]; rfl, rfl⟩
  cases h9 : (S.toList == [98, 101, 116, 119, 101, 101, 110])
  case true =>
    have HP := Lib.hid (show prdN S.data.toList = some (2) by rw [list_of_beq h9]; rfl)
    go_enter Tryz.func83, Tryz.ntmps83
    go_wp2_with fail
    go_ret2
    exact ⟨by unfold mostN; rw [HP.out]; rfl, rfl⟩
  cases h10 : (S.toList == [105, 110, 115, 105, 100, 101])
  case true =>
    have HP := Lib.hid (show prdN S.data.toList = some (2) by rw [list_of_beq h10]; rfl)
    go_enter Tryz.func83, Tryz.ntmps83
    go_wp2_with fail
    go_ret2
    exact ⟨by unfold mostN; rw [HP.out]; rfl, rfl⟩
  cases h11 : (S.toList == [111, 117, 116, 115, 105, 100, 101])
  case true =>
    have HP := Lib.hid (show prdN S.data.toList = some (2) by rw [list_of_beq h11]; rfl)
    go_enter Tryz.func83, Tryz.ntmps83
    go_wp2_with fail
    go_ret2
    exact ⟨by unfold mostN; rw [HP.out]; rfl, rfl⟩
  cases h12 : (S.toList == [119, 105, 116, 104, 105, 110])
  case true =>
    have HP := Lib.hid (show prdN S.data.toList = some (-1) by rw [list_of_beq h12]; rfl)
    go_enter Tryz.func83, Tryz.ntmps83
    go_wp2_with fail
    go_ret2
    exact ⟨by unfold mostN; rw [HP.out]; rfl, rfl⟩
  cases h13 : (S.toList == [119, 105, 116, 104, 111, 117, 116])
  case true =>
    have HP := Lib.hid (show prdN S.data.toList = some (-1) by rw [list_of_beq h13]; rfl)
    go_enter Tryz.func83, Tryz.ntmps83
    go_wp2_with fail
    go_ret2
    exact ⟨by unfold mostN; rw [HP.out]; rfl, rfl⟩
  have HP := Lib.hid (show prdN S.data.toList = none by
    unfold prdN
    simp only [ne_of_beq h0, ne_of_beq h1, ne_of_beq h2, ne_of_beq h3, ne_of_beq h4, ne_of_beq h5, ne_of_beq h6, ne_of_beq h7, ne_of_beq h8, ne_of_beq h9, ne_of_beq h10, ne_of_beq h11, ne_of_beq h12, ne_of_beq h13, or_self, if_false])
  go_enter Tryz.func83, Tryz.ntmps83
  go_wp2_with fail
  go_ret2
  exact ⟨by unfold mostN; rw [HP.out]; rfl, rfl⟩

set_option maxRecDepth 100000 in
theorem predAhead_any {w : World} {pb g cap : Nat} {ws : List Wd} {i d n : Nat} {x : Wd} (h : PB w pb g cap ws i d n) (hG : Gd ws) (hx : ws[i]? = some x) :
    Calls Tryz.prog 60 #[.pointer (some ⟨pb, 0, none⟩)] w fun e w' => e = .returned (.bool (prdA x)) ∧ Below w.heap.size w w' := by
  have HW := Lib.hid (word_any h hG hx)
  have HW2 := Lib.hid (fun W (hb : Below w.heap.size w W) => word_any (h.on hb) hG hx)
  have HP := Lib.hid (fun W => preds_any x.s W)
  clear h hG hx
  have hf1 : ∀ W : World, (Instr.field 56 (.agg #[.int .i64 x.k, .string x.s, .int .i64 x.n, .float .f64 x.f, .int .i64 (x.at_ : Nat)]) 1).run Tryz.prog W = .ok (.string x.s) W := fun _ => by kernel_rfl
  have hf0 : ∀ W : World, (Instr.field 56 (.agg #[.int .i64 x.k, .string x.s, .int .i64 x.n, .float .f64 x.f, .int .i64 (x.at_ : Nat)]) 0).run Tryz.prog W = .ok (.int .i64 x.k) W := fun _ => by kernel_rfl
  cases hp : (prdN x.s.data.toList).isSome
  · have HE := Lib.hid hp
    clear hp
    go_enter Tryz.func60, Tryz.ntmps60
    go_wp2_with fail
    refine HW.out.mono ?_
    rintro e w1 ⟨rfl, hb1⟩
    have HB := Lib.hid hb1; clear hb1
    go_wp2_with fail
    refine (HP.out _).mono ?_
    rintro e w' ⟨rfl, rfl⟩
    rw [HE.out]
    go_wp2_with fail
    go_ret
    exact ⟨by unfold prdA; rw [HE.out]; rfl, HB.out⟩
  · have HE := Lib.hid hp
    clear hp
    by_cases hk : x.k = 1
    all_goals
      first | have d1 : (x.k == 1) = true := by simpa using hk | have d1 : (x.k == 1) = false := by simpa using hk
      have HK := Lib.hid hk
      clear hk
      go_enter Tryz.func60, Tryz.ntmps60
      go_wp2_with fail
      refine HW.out.mono ?_
      rintro e w1 ⟨rfl, hb1⟩
      have HB := Lib.hid hb1; clear hb1
      go_wp2_with fail
      refine (HP.out _).mono ?_
      rintro e w' ⟨rfl, rfl⟩
      rw [HE.out]
      go_wp2_with fail
      refine (HW2.out _ HB.out).mono ?_
      rintro e w2 ⟨rfl, hb2⟩
      go_wp2_with fail
      go_ret
      exact ⟨by unfold prdA; rw [HE.out]; first | rw [decide_eq_true HK.out]; rfl | rw [decide_eq_false HK.out]; rfl, HB.out.trans (hb2.mono HB.out.size)⟩

set_option maxRecDepth 100000 in
theorem argAhead_any {w : World} {pb g cap : Nat} {ws : List Wd} {i d n : Nat} {x : Wd} (h : PB w pb g cap ws i d n) (hG : Gd ws) (hx : ws[i]? = some x) :
    Calls Tryz.prog 46 #[.pointer (some ⟨pb, 0, none⟩)] w fun e w' => e = .returned (.bool (argA x)) ∧ Below w.heap.size w w' := by
  have HW := Lib.hid (word_any h hG hx)
  have HV := Lib.hid (fun W (hb : Below w.heap.size w W) => valueAhead_any (h.on hb) hG hx)
  clear h hG hx
  have hf0 : ∀ W : World, (Instr.field 56 (.agg #[.int .i64 x.k, .string x.s, .int .i64 x.n, .float .f64 x.f, .int .i64 (x.at_ : Nat)]) 0).run Tryz.prog W = .ok (.int .i64 x.k) W := fun _ => by kernel_rfl
  by_cases hk : x.k = 1
  · have d1 : (x.k == 1) = true := by simpa using hk
    have HK := Lib.hid hk
    clear hk
    go_enter Tryz.func46, Tryz.ntmps46
    go_wp2_with fail
    refine HW.out.mono ?_
    rintro e w1 ⟨rfl, hb1⟩
    go_wp2_with fail
    go_ret
    exact ⟨by unfold argA; rw [decide_eq_true HK.out]; rfl, hb1⟩
  · have d1 : (x.k == 1) = false := by simpa using hk
    have HK := Lib.hid hk
    clear hk
    go_enter Tryz.func46, Tryz.ntmps46
    go_wp2_with fail
    refine HW.out.mono ?_
    rintro e w1 ⟨rfl, hb1⟩
    have HB := Lib.hid hb1; clear hb1
    go_wp2_with fail
    refine (HV.out _ HB.out).mono ?_
    rintro e w2 ⟨rfl, hb2⟩
    go_wp2_with fail
    go_ret
    exact ⟨by unfold argA; rw [decide_eq_false HK.out]; rfl, HB.out.trans (hb2.mono HB.out.size)⟩

end Go.Proofs.YtnehbpfgdeilhaaGreatDoor

namespace Go.Proofs.YtnehbpfgdeilhaaGreatDoor
open Go.ChangeShapes Go.WideShapes Go.ChangeAt Go.RowKit Go.Fl
open Go.Shelf

/-- what a call of the parser's comes to: what is taken, or a panic that says where and why -/
def Got {α : Type} (pb g cap : Nat) (ws : List Wd) (d : Nat) (ok : Nat → Prop) (R : World → (Nat → Prop) → α → Value → Prop) (r : Rs α) (w : World) (e : Ending) (w' : World) : Prop :=
  match r with
  | .ok x s => ∃ v, e = .returned v ∧ R w' (fun b => w.heap.size ≤ b ∧ b < w'.heap.size) x v ∧ PB w' pb g cap ws s.i d s.n ∧ Only ok w w'
  | .bad j c => e = .panicked (flt (ws.getD j wdNone).at_ c) ∧ (∃ i' n', PB w' pb g cap ws i' d n') ∧ Only ok w w'

theorem getD_of {ws : List Wd} {i : Nat} {x : Wd} (h : ws[i]? = some x) : ws.getD i wdNone = x := by rw [List.getD_eq_getElem?_getD, h]; rfl

theorem gx_of {ws : List Wd} {i : Nat} {x : Wd} (h : ws[i]? = some x) : gx ws i = { x with at_ := 0 } := by unfold gx; rw [getD_of h]

/-- one more in a row of one's own -/
theorem Row.add {α : Type} {R : World → (Nat → Prop) → α → Value → Prop} (hK : KeepS R) {P : Program} (t e : TypeId) (i : TypeInfo) (z : Value) (sz bytes : Nat) (ht : P.underlying t = some (.slice e)) (hi : P.info? e = some i) (hz : i.zero = some z) (hsize : i.size = sz) (hby : i.bytes = bytes) (hzs : z.cells.size = sz) (hsz : 0 < sz)
    {B : Nat} {w : World} {l : List α} {A : Value} (h : Row R e sz B w l A) (hB : B ≤ w.heap.size) (hn : l.length ≤ 100000) (hbs : bytes ≤ 1000) (x : α) (cs : Array Value) (hcs : cs.size = sz) (h1 : ∀ u ∈ cs.toList, u.oneCell' = true) (v : Value) (hv : v.cells = cs) (a : Addr) (hc : ∀ j u, cs[j]? = some u → w.cell? (a.add j) = some u) (hx : R w (fun b => B ≤ b ∧ b < w.heap.size ∧ some b ≠ A.ownBlock) x v) :
    ∃ A' c' w', (Builtin.append_ #[t, t] t #[A, .slice (some a) 1 1]).run P w = .ok (.slice A' (l.length + 1) c') w' ∧ Row R e sz B w' (l ++ [x]) (.slice A' (l.length + 1) c') ∧ Below B w w' := by
  obtain ⟨xs, hown, hp⟩ := h
  have hnl : cs.toList.length = 1 * sz := by rw [Array.length_toList, hcs, Nat.one_mul]
  have hbb : (l.length + 1) * bytes ≤ 140737488355328 := by
    have := Nat.mul_le_mul (show l.length + 1 ≤ 100001 by omega) hbs
    omega
  obtain ⟨v', w', hr, hown', hg, hA⟩ := run_append_fresh (P := P) w B t t e i z sz bytes ht hi hz hsize hby hzs hsz A l.length xs hown a 1 1 cs.toList hnl (fun j u hu => hc j u (by simpa using hu)) h1 (by unfold maxLen; omega) hbb hB (by decide)
  have hrow := Row.step hK (v := v) (x := x) hown hp (fun k u hu => by
    rw [hv] at hu
    have hk := (Array.getElem?_eq_some_iff.1 hu).1
    exact ⟨by omega, by simpa using hu⟩) hx hown' hg hA
  have hbl : Below B w w' := (Below.refl _ _).grown hg hB (fun k hk => (hown.lt k hk).1)
  rcases hown'.2 with ⟨-, h0⟩ | ⟨g, cap, cur, rfl, -⟩
  · omega
  · exact ⟨some ⟨g, 0, none⟩, cap, w', hr, hrow, hbl⟩

/-- what several come to -/
def SevP {α : Type} (pb g cap : Nat) (ws : List Wd) (d : Nat) (ok : Nat → Prop) (J : Nat → World → Prop) (R : World → (Nat → Prop) → α → Value → Prop) (sz : Nat) (r : Rs (List α)) (w : World) (e : Ending) (w' : World) : Prop :=
  Got pb g cap ws d ok (LstS R sz) r w e w' ∧ ∀ l s, r = .ok l s → J l.length w'

/-- what reading one more comes to -/
def OneP {α : Type} (pb g cap : Nat) (ws : List Wd) (d : Nat) (ok : Nat → Prop) (J : Nat → World → Prop) (R : World → (Nat → Prop) → α → Value → Prop) (c : Nat) (r : Rs α) (w : World) (e : Ending) (w' : World) : Prop :=
  Got pb g cap ws d ok R r w e w' ∧ ∀ v s, r = .ok v s → J (c + 1) w'

theorem SevP.bad {α : Type} {pb g cap : Nat} {ws : List Wd} {d : Nat} {ok : Nat → Prop} {J : Nat → World → Prop} {R : World → (Nat → Prop) → α → Value → Prop} {sz : Nat} {r : Rs (List α)} {w w' : World} {j : Nat} {c : Int} {a : Nat} (hr : r = .bad j c) (ha : (ws.getD j wdNone).at_ = a) {i' n' : Nat} (hp : PB w' pb g cap ws i' d n') (ho : Only ok w w') :
    SevP pb g cap ws d ok J R sz r w (.panicked (flt a c)) w' := by
  subst hr ha
  exact ⟨⟨rfl, ⟨_, _, hp⟩, ho⟩, fun _ _ h => by cases h⟩

theorem FR.ok {pb : Nat} {ok : Nat → Prop} {w w' : World} (h : FR pb w w') (hok : ok pb) : Only ok w w' := h.mono (fun _ _ hb => hb ▸ hok)

theorem Only.far {ok : Nat → Prop} {a w w' : World} {B : Nat} (h : Only ok a w) (hb : Below B w w') (hB : a.heap.size ≤ B) : Only ok a w' :=
  ⟨hb.os.trans h.os, hb.tape.trans h.tape, hb.output.trans h.output, Nat.le_trans h.size hb.size, fun k hk hn => (hb.block k (Nat.lt_of_lt_of_le hk hB)).trans (h.block k hk hn)⟩

theorem PB.under {w w' : World} {pb g cap B : Nat} {ws : List Wd} {i d n : Nat} (h : PB w pb g cap ws i d n) (hb : Below B w w') (h1 : pb < B) (h2 : g < B) : PB w' pb g cap ws i d n :=
  ⟨(hb.block _ h1).trans h.box, fun j k hj hk => (hb.cell (p := ⟨g, j * 5 + k, none⟩) h2).trans (h.wds j k hj hk), h.ne, Nat.lt_of_lt_of_le h.lt hb.size, h.at_⟩

/-- one more, that was just read -/
theorem Row.more {α : Type} {R : World → (Nat → Prop) → α → Value → Prop} (hK : KeepS R) {P : Program} (t e : TypeId) (i : TypeInfo) (z : Value) (sz bytes : Nat) (ht : P.underlying t = some (.slice e)) (hi : P.info? e = some i) (hz : i.zero = some z) (hsize : i.size = sz) (hby : i.bytes = bytes) (hzs : z.cells.size = sz) (hsz : 0 < sz) (hbs : bytes ≤ 1000)
    {ok : Nat → Prop} {B : Nat} {wr w2 w3 : World} {l : List α} {A : Value} {x : α} {v : Value} (hr : Row R e sz B wr l A) (hok : ∀ b, ok b → b < B) (hB : B ≤ wr.heap.size) (h2 : Below wr.heap.size wr w2) (h3 : Only ok w2 w3) (hv : R w3 (fun b => w2.heap.size ≤ b ∧ b < w3.heap.size) x v)
    (cs : Array Value) (hvc : v.cells = cs) (hcs : cs.size = sz) (h1 : ∀ u ∈ cs.toList, u.oneCell' = true) (hn : l.length ≤ 100000) :
    ∃ A' c' w4, (Builtin.append_ #[t, t] t #[A, .slice (some ⟨w3.heap.size, 0, none⟩) 1 1]).run P (w3.alloc (.cells cs e)) = .ok (.slice A' (l.length + 1) c') w4 ∧ Row R e sz B w4 (l ++ [x]) (.slice A' (l.length + 1) c') ∧ Below B w3 w4 := by
  have hs2 := h2.size
  have hs3 := h3.size
  have hba : Below w3.heap.size w3 (w3.alloc (.cells cs e)) := (Below.refl _ _).alloc (Nat.le_refl _) _
  have hlt : ∀ k, A.ownBlock = some k → k < wr.heap.size := by
    obtain ⟨xs, hown, -⟩ := hr
    exact fun k hk => (hown.lt k hk).2
  have hk3 : Row R e sz B (w3.alloc (.cells cs e)) l A := hr.kept hK (by have := hba.size; omega) (fun b hb hbl => ((hba.block b (by omega)).trans (h3.block b (by omega) (fun ho => by have := hok b ho; omega))).trans (h2.block b hbl))
  obtain ⟨A', c', w4, h4, h5, h6⟩ := hk3.add hK t e i z sz bytes ht hi hz hsize hby hzs hsz (by have := hba.size; omega) hn hbs x cs hcs h1 v hvc ⟨w3.heap.size, 0, none⟩ (fun j u hj => by
      rw [adr_add, Nat.zero_add, (Blk.new w3 e cs).cell j]; exact hj)
    (hK _ _ _ _ _ _ (fun p hp => hba.cell hp.2) (fun b hb => ⟨by omega, by have := hba.size; omega, fun he => by have := hlt b he.symm; omega⟩) hv)
  exact ⟨A', c', w4, h4, h5, (hba.mono (by omega)).trans h6⟩

theorem must_yes {pb : Nat} (w : World) : Calls Tryz.prog 15 #[.pointer (some ⟨pb, 0, none⟩), .bool true] w fun e w' => e = .returned (.tuple #[]) ∧ w = w' := by
  go_enter Tryz.func15, Tryz.ntmps15
  go_wp2_with fail
  go_end0
  exact ⟨rfl, rfl⟩

def sliceLen : Value → Nat
  | .slice _ n _ => n
  | _ => 0


set_option maxHeartbeats 4000000 in
set_option maxRecDepth 100000 in
theorem sevV_any {pb g cap : Nat} {ws : List Wd} {d : Nat} (hG : Gd ws) {w : World} (ok : Nat → Prop) (hok : ok pb) (J : Nat → World → Prop) (hJ : ∀ c w1 w2, J c w1 → Only (fun b => b = pb ∨ w.heap.size ≤ b) w1 w2 → J c w2)
    (en : UInt8) (F : FuncId) (fst cp : Array Value) (rd : Nat → Ps → Rs T)
    (hF : ∀ W : World, (callFunc F (fst ++ cp)).run Tryz.prog W = .ok (.enter F (fst ++ cp)) W)
    (hread : ∀ c w i n x, c < 12 → J c w → PB w pb g cap ws i d n → ws[i]? = some x → valA x = true → Calls Tryz.prog F (fst ++ cp) w (OneP pb g cap ws d ok J RdS c (rd c ⟨i, n⟩) w))
    (hokB : ∀ b, ok b → b < w.heap.size) {i n : Nat} (h : PB w pb g cap ws i d n) (hj : J 0 w) :
    Calls Tryz.prog 98 #[.pointer (some ⟨pb, 0, none⟩), .string ⟨#[en]⟩, .func (.func 58) #[.pointer (some ⟨pb, 0, none⟩)] #[], .func (.func F) fst cp] w (SevP pb g cap ws d ok J RdS 6 (sev (gx ws) en valA rd ⟨i, n⟩) w) := by
  obtain ⟨x, hx⟩ := h.get
  have HT := Lib.hid (take_any h hG hx en)
  have hgx := gx_of hx
  have HG := Lib.hid hG
  have HJ := Lib.hid hJ
  have HRd := Lib.hid hread
  have HOB := Lib.hid hokB
  have Hj := Lib.hid hj
  have H := Lib.hid h
  cases hs : isSgn x en
  · have HV : Hid (sev (gx ws) en valA rd ⟨i, n⟩ = sevL (gx ws) en valA rd 13 [] ⟨i, n⟩) := Lib.hid (by unfold sev; rw [hgx]; exact if_neg (by show ¬ isSgn x en = true; rw [hs]; decide))
    have HS := Lib.hid hs
    obtain ⟨i0, hi0, hz0, hz1, hz2⟩ := info_parts info_value
    clear h hG hx hgx hJ hread hokB hj hs
    go_enter Tryz.func98, Tryz.ntmps98
    go_wp2_with fail
    refine HT.out.mono ?_
    rintro e w1 (⟨h1, -⟩ | ⟨-, rfl, hb1⟩)
    · rw [HS.out] at h1; cases h1
    have HB1 := Lib.hid hb1
    clear hb1 HT
    go_wp2_with fail
    go_loopw [9] (fun sl wr => ∃ (l : List T) (A : Option Addr) (c f i1 n1 : Nat), sl = .slice A l.length c ∧ l.length ≤ 12 ∧ Hid (sev (gx ws) en valA rd ⟨i, n⟩ = sevL (gx ws) en valA rd f l ⟨i1, n1⟩ ∧ l.length + f = 13) ∧ Hid (PB wr pb g cap ws i1 d n1 ∧ J l.length wr ∧ Row RdS 49 6 w.heap.size wr l (.slice A l.length c) ∧ Only ok w wr)) (fun sl _ => 13 - sliceLen sl)
    case atStart => exact ⟨[], none, 0, 13, i, n, rfl, Nat.zero_le _, Lib.hid ⟨HV.out, rfl⟩, Lib.hid ⟨H.out.on HB1.out, HJ.out _ _ _ Hj.out (Only.of_below HB1.out), Row.nil, Only.of_below HB1.out⟩⟩
    case round =>
      obtain ⟨l, A, c, f, i1, n1, rfl, hl, Hv, Hw⟩ := hrel
      obtain ⟨f, rfl⟩ : ∃ q, f = q + 1 := ⟨f - 1, by have := Hv.out.2; omega⟩
      obtain ⟨y, hy⟩ := Hw.out.1.get
      have hgy := gx_of hy
      have hat := getD_of hy
      have HA := Lib.hid (fun W (hb : Below wr.heap.size wr W) => valueAhead_any (Hw.out.1.on hb) HG.out hy)
      have HM := Lib.hid (fun W (hb : Below wr.heap.size wr W) b => must_any (Hw.out.1.on hb) HG.out hy b)
      cases hb : valA y
      · have HV2 : Hid (sev (gx ws) en valA rd ⟨i, n⟩ = .bad i1 120) := Lib.hid (Hv.out.1.trans (by rw [sevL, hgy]; exact if_pos hb))
        have HE := Lib.hid hb
        have HAt := Lib.hid (congrArg Wd.at_ hat)
        clear hb hy hgy hat
        go_wp2_with fail
        refine (HA.out _ (Below.refl _ _)).mono ?_
        rintro e w2 ⟨rfl, hb2⟩
        have HB2 := Lib.hid hb2; clear hb2
        rw [HE.out]
        go_wp2_with fail
        refine (HM.out _ HB2.out false).mono ?_
        rintro e w3 (⟨h1, -⟩ | ⟨-, rfl, hb3⟩)
        · cases h1
        have hb := HB2.out.trans (hb3.mono HB2.out.size)
        exact ⟨rfl, SevP.bad HV2.out HAt.out (Hw.out.1.on hb) (Hw.out.2.2.2.trans (Only.of_below hb))⟩
      · have HE := Lib.hid hb
        have HAt := Lib.hid (congrArg Wd.at_ hat)
        have HW1 := Lib.hid (fun W (hb : Below wr.heap.size wr W) => word_any (Hw.out.1.on hb) HG.out hy)
        have HF := Lib.hid (fun W => fail_any y 3 W)
        have hbw := Hw.out.2.2.2.size
        by_cases h12 : l.length = 12
        · have d12 : ((l.length : Int) == 12) = true := by rw [beq_iff_eq]; omega
          have HV2 : Hid (sev (gx ws) en valA rd ⟨i, n⟩ = .bad i1 3) := Lib.hid (Hv.out.1.trans (by rw [sevL, hgy, if_neg (by show ¬ valA y = false; rw [hb]; decide)]; exact if_pos h12))
          clear hb hy hgy hat h12 hbw
          go_wp2_with fail
          refine (HA.out _ (Below.refl _ _)).mono ?_
          rintro e w2 ⟨rfl, hb2⟩
          have HB2 := Lib.hid hb2; clear hb2
          rw [HE.out]
          go_wp2_with fail
          refine (must_yes _).mono ?_
          rintro e w' ⟨rfl, rfl⟩
          go_wp2_with fail
          refine (HW1.out _ HB2.out).mono ?_
          rintro e w3 ⟨rfl, hb3⟩
          have HB3 := Lib.hid (HB2.out.trans (hb3.mono HB2.out.size)); clear hb3
          go_wp2_with fail
          refine (HF.out _).mono ?_
          rintro e w4 ⟨rfl, hb4⟩
          have hb := HB3.out.trans (hb4.mono HB3.out.size)
          exact ⟨rfl, SevP.bad HV2.out HAt.out (Hw.out.1.on hb) (Hw.out.2.2.2.trans (Only.of_below hb))⟩
        · have d12 : ((l.length : Int) == 12) = false := by rw [beq_eq_false_iff_ne]; omega
          have hl12 : l.length < 12 := by omega
          have HVr : Hid (valA (gx ws i1) = true ∧ l.length ≠ 12) := Lib.hid ⟨by rw [hgy]; exact hb, h12⟩
          have HRy := Lib.hid (fun W (hb' : Below wr.heap.size wr W) => HRd.out l.length W i1 n1 y hl12 (HJ.out _ _ _ Hw.out.2.1 (Only.of_below hb')) (Hw.out.1.on hb') hy hb)
          clear hb hy hgy hat h12
          cases hr : rd l.length ⟨i1, n1⟩ with
          | bad j0 c0 =>
            have HV2 : Hid (sev (gx ws) en valA rd ⟨i, n⟩ = .bad j0 c0) := Lib.hid (Hv.out.1.trans (sevL_bad HVr.out.1 HVr.out.2 hr))
            have HR := Lib.hid hr
            clear hr hbw
            go_wp2_with fail
            refine (HA.out _ (Below.refl _ _)).mono ?_
            rintro e w2 ⟨rfl, hb2⟩
            have HB2 := Lib.hid hb2; clear hb2
            rw [HE.out]
            go_wp2_with fail
            refine (must_yes _).mono ?_
            rintro e w' ⟨rfl, rfl⟩
            go_wp2_with fail
            refine (HRy.out _ HB2.out).mono ?_
            rintro e w3 ho
            rw [HR.out] at ho
            obtain ⟨⟨rfl, ⟨i', n', hp3⟩, ho3⟩, -⟩ := ho
            exact ⟨rfl, SevP.bad HV2.out rfl hp3 ((Hw.out.2.2.2.trans (Only.of_below HB2.out)).trans ho3)⟩
          | ok x1 s1 =>
            have HR := Lib.hid hr
            clear hr
            go_wp2_with fail
            refine (HA.out _ (Below.refl _ _)).mono ?_
            rintro e w2 ⟨rfl, hb2⟩
            have HB2 := Lib.hid hb2; clear hb2
            rw [HE.out]
            go_wp2_with fail
            refine (must_yes _).mono ?_
            rintro e w' ⟨rfl, rfl⟩
            go_wp2_with fail
            refine (HRy.out _ HB2.out).mono ?_
            rintro e w3 ho
            rw [HR.out] at ho
            obtain ⟨⟨v1, rfl, hv1, hp3, ho3⟩, hj3⟩ := ho
            have hj3' := hj3 _ _ rfl
            clear hj3
            obtain ⟨xk, xb, xn, xf, xs, xl⟩ := x1
            obtain ⟨xA, xc, rfl, -⟩ := RdS.open hv1
            have hB2 := HB2.out
            have hvx := Hv.out.1
            have hs3 := ho3.size
            have hs2 := hB2.size
            obtain ⟨A', c', w4, hr4, hrow4, hb4⟩ := Hw.out.2.2.1.more keepS_T 43 49 i0 _ 6 72 Tryz.underlying43 hi0 hz0 hz1 hz2 rfl (by decide) (by decide) HOB.out hbw hB2 ho3 hv1 (#[.int .i64 xk, .bool xb, .int .i64 xn, .float .f64 xf, .string xs, .slice xA xl.length xc]) rfl rfl (fun u hu => by simp at hu; rcases hu with rfl | rfl | rfl | rfl | rfl | rfl <;> rfl) (by omega)
            have hs4 := hb4.size
            have hp4 : PB w4 pb g cap ws s1.i d s1.n := hp3.under hb4 H.out.box.lt H.out.lt
            have ho4 : Only ok w w4 := ((Hw.out.2.2.2.trans (Only.of_below hB2)).trans ho3).far hb4 (Nat.le_refl _)
            have hj4 : J (l.length + 1) w4 := HJ.out _ _ _ hj3' ⟨hb4.os, hb4.tape, hb4.output, hb4.size, fun k _ hk => hb4.block k (by
              rcases Nat.lt_or_ge k w.heap.size with h | h
              · exact h
              · exact absurd (.inr h) hk)⟩
            obtain ⟨y2, hy2⟩ := hp4.get
            have hgy2 := gx_of hy2
            have HT4 := Lib.hid (take_any hp4 HG.out hy2 en)
            have HT5 := Lib.hid (fun W (hb : Below w4.heap.size w4 W) => take_any (hp4.on hb) HG.out hy2 44)
            have HM5 := Lib.hid (fun W (hb : Below w4.heap.size w4 W) => must_any (hp4.on hb) HG.out hy2 false)
            have HRun := Lib.hid hr4
            have Hx : Hid (Row RdS 49 6 w.heap.size w4 (l ++ [(T.mk xk xb xn xf xs xl)]) (.slice A' (l.length + 1) c') ∧ PB w4 pb g cap ws s1.i d s1.n ∧ Only ok w w4 ∧ J (l.length + 1) w4 ∧ gx ws s1.i = { y2 with at_ := 0 } ∧ (ws.getD s1.i wdNone).at_ = y2.at_ ∧ w.heap.size ≤ w4.heap.size) := Lib.hid ⟨hrow4, hp4, ho4, hj4, hgy2, congrArg Wd.at_ (getD_of hy2), by omega⟩
            clear hr4 hrow4 hb4 hp4 ho4 hj4 hgy2 hy2 hs2 hs3 hs4 hv1 hp3 ho3 hj3' hB2 hvx hbw
            go_wp2_with (at_builtin; refine Lib.wpList_append_run_sl _ rfl _ _ 43 rfl _ _ rfl rfl HRun.out ?_)
            refine HT4.out.mono ?_
            rintro e w5 (⟨h1, rfl, hp5, ho5⟩ | ⟨h1, rfl, hb5⟩)
            · have HV2 : Hid (sev (gx ws) en valA rd ⟨i, n⟩ = .ok (l ++ [(T.mk xk xb xn xf xs xl)]) ⟨s1.i + 1, s1.n⟩) := Lib.hid (Hv.out.1.trans (sevL_end HVr.out.1 HVr.out.2 HR.out (by rw [Hx.out.2.2.2.2.1]; exact h1)))
              have Hf := Lib.hid (And.intro hp5 ho5)
              clear h1 hp5 ho5
              go_wp2_with fail
              go_ret
              have hk5 := Hx.out.1.kept keepS_T Hf.out.2.size (fun b hb hbl => Hf.out.2.block b hbl (fun e => by have := H.out.box.lt; omega))
              rw [HV2.out]
              exact ⟨⟨_, rfl, hk5.all keepS_T, Hf.out.1, Hx.out.2.2.1.trans (FR.ok Hf.out.2 hok)⟩, fun l' s' hls => by
                cases hls
                rw [List.length_append]
                exact HJ.out _ _ _ Hx.out.2.2.2.1 (Hf.out.2.mono fun _ _ hb => .inl hb)⟩
            · have HB5 := Lib.hid hb5
              have HE5 : Hid (isSgn (gx ws s1.i) en = false) := Lib.hid (by rw [Hx.out.2.2.2.2.1]; exact h1)
              clear h1 hb5
              go_wp2_with fail
              refine (HT5.out _ HB5.out).mono ?_
              rintro e w6 (⟨h1, rfl, hp6, ho6⟩ | ⟨h1, rfl, hb6⟩)
              · have HV2 := Lib.hid (Hv.out.1.trans (sevL_go HVr.out.1 HVr.out.2 HR.out HE5.out (by rw [Hx.out.2.2.2.2.1]; exact h1)))
                have Hf := Lib.hid (And.intro hp6 ((FR.of HB5.out).trans ho6))
                clear h1 hp6 ho6
                go_wp2_with fail
                refine (must_yes _).mono ?_
                rintro e w' ⟨rfl, rfl⟩
                go_wp2_with fail
                have hk6 := Hx.out.1.kept keepS_T Hf.out.2.size (fun b hb hbl => Hf.out.2.block b hbl (fun e => by have := H.out.box.lt; omega))
                go_roundw
                case rel => exact ⟨l ++ [(T.mk xk xb xn xf xs xl)], A', c', f, s1.i + 1, s1.n, by rw [List.length_append]; rfl, by rw [List.length_append]; exact hl12, Lib.hid ⟨HV2.out, by have := Hv.out.2; rw [List.length_append, List.length_singleton]; omega⟩, Lib.hid ⟨Hf.out.1, by rw [List.length_append]; exact HJ.out _ _ _ Hx.out.2.2.2.1 (Hf.out.2.mono fun _ _ hb => .inl hb), by rw [List.length_append]; exact hk6, Hx.out.2.2.1.trans (FR.ok Hf.out.2 hok)⟩⟩
                case measure => simp [sliceLen]; omega
              · have HV2 := Lib.hid (Hv.out.1.trans (sevL_no HVr.out.1 HVr.out.2 HR.out HE5.out (by rw [Hx.out.2.2.2.2.1]; exact h1)))
                have HB6 := Lib.hid (HB5.out.trans (hb6.mono HB5.out.size))
                clear h1 hb6
                go_wp2_with fail
                refine (HM5.out _ HB6.out).mono ?_
                rintro e w7 (⟨h1, -⟩ | ⟨-, rfl, hb7⟩)
                · cases h1
                have hb := HB6.out.trans (hb7.mono HB6.out.size)
                exact ⟨rfl, SevP.bad HV2.out Hx.out.2.2.2.2.2.1 (Hx.out.2.1.on hb) (Hx.out.2.2.1.trans (Only.of_below hb))⟩
  · have HV : Hid (sev (gx ws) en valA rd ⟨i, n⟩ = .ok [] ⟨i + 1, n⟩) := Lib.hid (by unfold sev; rw [hgx]; exact if_pos hs)
    have HS := Lib.hid hs
    clear h hG hx hgx hJ hread hokB hj hs
    go_enter Tryz.func98, Tryz.ntmps98
    go_wp2_with fail
    refine HT.out.mono ?_
    rintro e w1 (⟨-, rfl, hp1, ho1⟩ | ⟨h0, -⟩)
    · have HP1 := Lib.hid hp1
      have HO1 := Lib.hid ho1
      clear hp1 ho1
      go_wp2_with fail
      go_ret
      rw [HV.out]
      exact ⟨⟨_, rfl, .inl ⟨rfl, rfl⟩, HP1.out, HO1.out.ok hok⟩, fun l s hls => by cases hls; exact HJ.out _ _ _ Hj.out (HO1.out.mono fun _ _ hb => .inl hb)⟩
    · rw [HS.out] at h0; cases h0

end Go.Proofs.YtnehbpfgdeilhaaGreatDoor

namespace Go.Proofs.YtnehbpfgdeilhaaGreatDoor
open Go.ChangeShapes Go.WideShapes Go.ChangeAt Go.RowKit Go.Fl
open Go.Shelf

theorem pVal_leaf {G : Nat → Wd} {k : Nat} {s : Ps} (h : (G s.i).k ≠ 5) : pVal G k s = .ok (wdT (G s.i)) ⟨s.i + 1, s.n⟩ := by
  cases k
  · rw [pVal, if_neg h]
  · rw [pVal, if_neg h]

theorem pVal_deep {G : Nat → Wd} {s : Ps} (h : (G s.i).k = 5) : pVal G 0 s = .bad s.i 3 := by rw [pVal, if_pos h]

theorem pVal_bad {G : Nat → Wd} {k : Nat} {s : Ps} (h : (G s.i).k = 5) {j : Nat} {c : Int} (hs : sev G 93 valA (fun _ => pVal G k) ⟨s.i + 1, s.n⟩ = .bad j c) : pVal G (k + 1) s = .bad j c := by rw [pVal, if_pos h, hs]

theorem pVal_ok {G : Nat → Wd} {k : Nat} {s : Ps} (h : (G s.i).k = 5) {l : List T} {s' : Ps} (hs : sev G 93 valA (fun _ => pVal G k) ⟨s.i + 1, s.n⟩ = .ok l s') : pVal G (k + 1) s = .ok (.mk 5 false 0 0 ⟨#[]⟩ l) s' := by rw [pVal, if_pos h, hs]

/-- package parse's value, where k more may stand around it -/
def ValAt (pb g cap : Nat) (ws : List Wd) (k : Nat) : Prop := ∀ (w : World) (i d n : Nat) (x : Wd), PB w pb g cap ws i d n → ws[i]? = some x → valA x = true → d + k = 12 →
  Calls Tryz.prog 59 #[.pointer (some ⟨pb, 0, none⟩)] w (Got pb g cap ws d (fun b => b = pb) RdS (pVal (gx ws) k ⟨i, n⟩) w)

theorem enters_of {F : FuncId} {fn : Func} {c : Code} (hf : Tryz.prog.funcs[F]? = some fn) (hname : (fn.name == "runtime.NumGoroutine") = false) (hb : fn.body = some c) (args : Array Value) (w : World) : (callFunc F args).run Tryz.prog w = .ok (.enter F args) w := by
  have h1 : fn.name ≠ "runtime.NumGoroutine" := by simpa using hname
  simp [callFunc, hf, h1, hb]

theorem Got.bad {α : Type} {pb g cap : Nat} {ws : List Wd} {d : Nat} {ok : Nat → Prop} {R : World → (Nat → Prop) → α → Value → Prop} {r : Rs α} {w w' : World} {j : Nat} {c : Int} {a : Nat} (hr : r = .bad j c) (ha : (ws.getD j wdNone).at_ = a) {i' n' : Nat} (hp : PB w' pb g cap ws i' d n') (ho : Only ok w w') :
    Got pb g cap ws d ok R r w (.panicked (flt a c)) w' := by
  subst hr ha
  exact ⟨rfl, ⟨_, _, hp⟩, ho⟩

theorem Got.ok_ {α : Type} {pb g cap : Nat} {ws : List Wd} {d : Nat} {ok : Nat → Prop} {R : World → (Nat → Prop) → α → Value → Prop} {r : Rs α} {w w' : World} {x : α} {s : Ps} {v : Value} (hr : r = .ok x s) (hv : R w' (fun b => w.heap.size ≤ b ∧ b < w'.heap.size) x v) (hp : PB w' pb g cap ws s.i d s.n) (ho : Only ok w w') :
    Got pb g cap ws d ok R r w (.returned v) w' := by
  subst hr
  exact ⟨_, rfl, hv, hp, ho⟩

theorem sevL_len {G : Nat → Wd} {α : Type} {en : UInt8} {b : Wd → Bool} {rd : Nat → Ps → Rs α} : ∀ (f : Nat) (l : List α) (s : Ps) (l' : List α) (s' : Ps), l.length ≤ 12 → sevL G en b rd f l s = .ok l' s' → l'.length ≤ 12
  | 0, _, _, _, _, _, h => by cases h
  | f + 1, l, s, l', s', hl, h => by
    rw [sevL] at h
    split at h
    · cases h
    · split at h
      · cases h
      · split at h
        · cases h
        · split at h
          · cases h; rw [List.length_append, List.length_singleton]; omega
          · split at h
            · exact sevL_len f _ _ _ _ (by rw [List.length_append, List.length_singleton]; omega) h
            · cases h

theorem sev_len {G : Nat → Wd} {α : Type} {en : UInt8} {b : Wd → Bool} {rd : Nat → Ps → Rs α} {s s' : Ps} {l : List α} (h : sev G en b rd s = .ok l s') : l.length ≤ 12 := by
  unfold sev at h
  split at h
  · cases h; exact Nat.zero_le _
  · exact sevL_len _ _ _ _ _ (Nat.zero_le _) h

/-- the parser's up, laid by as a deferred call -/
def upD (pb : Nat) : Deferred := { target := .fn (.func 86) #[], args := #[.pointer (some ⟨pb, 0, none⟩)] }

theorem door_bad {pb g cap : Nat} {ws : List Wd} {fn : Func} {tmps : Array Value} {R : Ending → World → Prop} {a : Nat} {c : Int} {d i n : Nat} : ∀ (m : Nat) (w : World), d + m ≤ 13 → PB w pb g cap ws i (d + m) n →
    (∀ w', PB w' pb g cap ws i d n → FR pb w w' → R (.panicked (flt a c)) w') → Leaves Tryz.prog fn tmps R (List.replicate m (upD pb)) (.panicking (flt a c)) w
  | 0, w, _, hp, hR => hR w hp (Only.refl _ _)
  | m + 1, w, hm, hp, hR => by
    refine leaves_cons (f := 86) (args := #[.pointer (some ⟨pb, 0, none⟩)]) (by simp) (by simp [go_sem]) ?_
    refine (up_any (d := d + m) hp (by omega) _).mono ?_
    rintro e u' w' ⟨rfl, rfl, hp', ho', -⟩
    exact door_bad m w' (by omega) hp' (fun w2 h1 h2 => hR w2 h1 (ho'.trans h2))

theorem door_ok {pb g cap : Nat} {ws : List Wd} {fn : Func} {tmps : Array Value} {R : Ending → World → Prop} {d i n : Nat} : ∀ (m : Nat) (w : World), d + m ≤ 13 → PB w pb g cap ws i (d + m) n →
    (∀ w', PB w' pb g cap ws i d n → FR pb w w' → w'.heap.size = w.heap.size → ∃ v, (results fn tmps).run Tryz.prog w' = .ok v w' ∧ R (.returned v) w') → Leaves Tryz.prog fn tmps R (List.replicate m (upD pb)) .returning w
  | 0, w, _, hp, hR => hR w hp (Only.refl _ _) rfl
  | m + 1, w, hm, hp, hR => by
    refine leaves_cons (f := 86) (args := #[.pointer (some ⟨pb, 0, none⟩)]) (by simp) (by simp [go_sem]) ?_
    refine (up_any (d := d + m) hp (by omega) _).mono ?_
    rintro e u' w' ⟨rfl, rfl, hp', ho', hs'⟩
    exact door_ok m w' (by omega) hp' (fun w2 h1 h2 h3 => hR w2 h1 (ho'.trans h2) (h3.trans hs'))

set_option maxHeartbeats 2000000 in
set_option maxRecDepth 100000 in
theorem list_any {pb g cap : Nat} {ws : List Wd} (hG : Gd ws) (k : Nat) (ih : ∀ k', k = k' + 1 → ValAt pb g cap ws k') {w : World} {i d n : Nat} {x : Wd} (h : PB w pb g cap ws i d n) (hx : ws[i]? = some x) (hk : x.k = 5) (hd : d + k = 12) :
    Calls Tryz.prog 78 #[.pointer (some ⟨pb, 0, none⟩)] w (Got pb g cap ws d (fun b => b = pb) RdS (pVal (gx ws) k ⟨i, n⟩) w) := by
  have hmf : ∀ (fn : Fn) (first cap : Array Value) (w : World), (Instr.makeFunc fn first cap).run Tryz.prog w = .ok (.func fn first cap) w := fun _ _ _ _ => rfl
  have hgk : (gx ws (Ps.mk i n).i).k = 5 := by show (gx ws i).k = 5; rw [gx_of hx]; exact hk
  have hat := congrArg Wd.at_ (getD_of hx)
  have hba := (Below.refl w.heap.size w).alloc (Nat.le_refl _) (.cells #[.int .i64 0, .bool false, .int .i64 0, .float .f64 0, .string ⟨#[]⟩, .slice none 0 0] 49)
  have HD := Lib.hid (down_any (h.on hba) hG hx (by omega : d ≤ 12))
  have HBA := Lib.hid hba
  have HG := Lib.hid hG
  have H := Lib.hid h
  cases k with
  | zero =>
    have HV := Lib.hid (pVal_deep (s := ⟨i, n⟩) hgk)
    have HAt := Lib.hid hat
    have hd12 : d = 12 := by omega
    clear h hG hx hgk hat hba ih hd
    go_enter_defers Tryz.func78, Tryz.ntmps78
    go_wp2_with fail
    refine HD.out.mono ?_
    rintro e w1 (⟨-, rfl, hb1⟩ | ⟨h1, -⟩)
    · have hb := HBA.out.trans (hb1.mono HBA.out.size)
      exact Got.bad HV.out HAt.out (H.out.on hb) (Only.of_below hb)
    · omega
  | succ k =>
    have hf := hG.few
    have hi := h.at_
    obtain ⟨z, hz⟩ := hG.next hx (by rw [hk]; decide)
    have hn := (List.getElem?_eq_some_iff.1 hz).1
    have HSev : Hid (∀ W, PB W pb g cap ws (i + 1) (d + 1) n → Calls Tryz.prog 98 #[.pointer (some ⟨pb, 0, none⟩), .string ⟨#[93]⟩, .func (.func 58) #[.pointer (some ⟨pb, 0, none⟩)] #[], .func (.func 59) #[.pointer (some ⟨pb, 0, none⟩)] #[]] W
        (SevP pb g cap ws (d + 1) (fun b => b = pb) (fun _ _ => True) RdS 6 (sev (gx ws) 93 valA (fun _ => pVal (gx ws) k) ⟨i + 1, n⟩) W)) :=
      Lib.hid (fun W hW => sevV_any hG (fun b => b = pb) rfl (fun _ _ => True) (fun _ _ _ _ _ => trivial) 93 59 #[.pointer (some ⟨pb, 0, none⟩)] #[] (fun _ => pVal (gx ws) k) (enters_of rfl (by decide) rfl _)
        (fun c w1 i1 n1 x1 _ _ hp hx1 hv1 => (ih k rfl w1 i1 (d + 1) n1 x1 hp hx1 hv1 (by omega)).mono fun e w' hg => ⟨hg, fun _ _ _ => trivial⟩) (fun b hb => by rw [hb]; exact hW.box.lt) hW trivial)
    have HU := Lib.hid (fun W u (i' n' : Nat) (hW : PB W pb g cap ws i' (d + 1) n') => up_any hW (by omega : d ≤ 12) u)
    cases hs : sev (gx ws) 93 valA (fun _ => pVal (gx ws) k) ⟨i + 1, n⟩ with
    | bad j c =>
      have HV := Lib.hid (pVal_bad (s := ⟨i, n⟩) hgk hs)
      have HS := Lib.hid hs
      clear h hG hx hgk hat hba ih hz hs
      go_enter_defers Tryz.func78, Tryz.ntmps78
      go_wp2_with fail
      refine HD.out.mono ?_
      rintro e w1 (⟨h1, -⟩ | ⟨-, rfl, hp1, ho1, -⟩)
      · omega
      have HP1 := Lib.hid hp1
      have HO1 := Lib.hid (((FR.of HBA.out : FR pb w _).trans ho1))
      obtain ⟨-, c1, -, -, z1, -, -, -⟩ := hp1.cells
      clear hp1 ho1
      go_wp2_with fail
      refine (HSev.out _ (HP1.out.next hn)).mono ?_
      rintro e w2 hg
      rw [HS.out] at hg
      obtain ⟨⟨rfl, ⟨i', n', hp2⟩, ho2⟩, -⟩ := hg
      exact door_bad 1 w2 (by omega) hp2 (fun w' h1 h2 => Got.bad HV.out rfl h1 (((fr_put HO1.out 1 _).trans ho2).trans h2))
    | ok l s' =>
      have HV := Lib.hid (pVal_ok (s := ⟨i, n⟩) hgk hs)
      have hll := sev_len hs
      have HS := Lib.hid hs
      clear h hG hx hgk hat ih hz hs
      go_enter_defers Tryz.func78, Tryz.ntmps78
      go_wp2_with fail
      refine HD.out.mono ?_
      rintro e w1 (⟨h1, -⟩ | ⟨-, rfl, hp1, ho1, hs1⟩)
      · omega
      have hbox1 : Blk w1 w.heap.size 49 #[.int .i64 0, .bool false, .int .i64 0, .float .f64 0, .string ⟨#[]⟩, .slice none 0 0] := (ho1.block _ (by simp) (by have := H.out.box.lt; omega)).trans (Blk.new w _ _)
      have HP1 := Lib.hid hp1
      have HO1 := Lib.hid (((FR.of HBA.out : FR pb w _).trans ho1))
      obtain ⟨-, c1, -, -, z1, -, -, -⟩ := hp1.cells
      have hs1' : w1.heap.size = w.heap.size + 1 := by rw [hs1]; simp
      have HBx1 := Lib.hid hbox1
      clear hp1 ho1 hs1 hba hbox1
      go_wp2_with fail
      refine (HSev.out _ (HP1.out.next hn)).mono ?_
      rintro e w2 hg
      rw [HS.out] at hg
      obtain ⟨⟨v2, rfl, hv2, hp2, ho2⟩, -⟩ := hg
      obtain ⟨A2, c2, rfl, hc1, hc2, hc3, hl2⟩ := hv2.vals
      have hs2 := ho2.size
      have hsz1 : (w1.setCell ⟨pb, 1, none⟩ (.int .i64 ((i : Int) + 1))).heap.size = w.heap.size + 1 := by rw [← hs1']; simp [World.setCell]
      rw [hsz1] at hs2
      have hpbl := H.out.box.lt
      have hbox2 : Blk w2 w.heap.size 49 #[.int .i64 0, .bool false, .int .i64 0, .float .f64 0, .string ⟨#[]⟩, .slice none 0 0] := (ho2.block _ (by rw [hsz1]; omega) (by omega)).trans (HBx1.out.far (by show w.heap.size ≠ pb; omega) _)
      have HL := Lib.hid (vlist_any (cap := c2) (RdSL.keepS (S' := fun b => 0 ≤ b ∧ b < w2.heap.size) (fun _ _ => rfl) (fun b hb => ⟨Nat.zero_le _, hb.2⟩) hl2) (by omega))
      have Hw2 := Lib.hid (And.intro hp2 (And.intro ((fr_put HO1.out 1 _).trans ho2) hbox2))
      clear hp2 ho2 hbox2 hv2 hl2
      go_wp2_with fail
      refine HL.out.mono ?_
      rintro e w3 ⟨v3, rfl, hv3, hb3⟩
      obtain ⟨A3, c3, rfl, -, -, -, -, hc3a, hc3b, hc3c, hl3⟩ := hv3.open
      have hbox3 := Blk.below Hw2.out.2.2 hb3 (by omega)
      have d0 : w3.cell? ⟨w.heap.size, 0, none⟩ = some (.int .i64 0) := (hbox3.cell 0).trans rfl
      have d1 : w3.cell? ⟨w.heap.size, 1, none⟩ = some (.bool false) := (hbox3.cell 1).trans rfl
      have d2 : w3.cell? ⟨w.heap.size, 2, none⟩ = some (.int .i64 0) := (hbox3.cell 2).trans rfl
      have d3 : w3.cell? ⟨w.heap.size, 3, none⟩ = some (.float .f64 0) := (hbox3.cell 3).trans rfl
      have d4 : w3.cell? ⟨w.heap.size, 4, none⟩ = some (.string ⟨#[]⟩) := (hbox3.cell 4).trans rfl
      have d5 : w3.cell? ⟨w.heap.size, 5, none⟩ = some (.slice none 0 0) := (hbox3.cell 5).trans rfl
      have z0 : w3.frozen? ⟨w.heap.size, 0, none⟩ = false := hbox3.frozen 0
      have z1 : w3.frozen? ⟨w.heap.size, 1, none⟩ = false := hbox3.frozen 1
      have z2 : w3.frozen? ⟨w.heap.size, 2, none⟩ = false := hbox3.frozen 2
      have z3 : w3.frozen? ⟨w.heap.size, 3, none⟩ = false := hbox3.frozen 3
      have z4 : w3.frozen? ⟨w.heap.size, 4, none⟩ = false := hbox3.frozen 4
      have z5 : w3.frozen? ⟨w.heap.size, 5, none⟩ = false := hbox3.frozen 5
      have Hfin := Lib.hid (And.intro hbox3 (And.intro hb3 hv3))
      clear hbox3 hb3 hv3
      go_wp2_with fail
      have hpl := H.out.box.lt
      have hgl := H.out.lt
      have hb3 := Hfin.out.2.1
      have hs3 := hb3.size
      have hfb : Blk (set6 w3 w.heap.size 0 (.int .i64 5) (.bool false) (.int .i64 0) (.float .f64 0) (.string ⟨#[]⟩) (.slice A3 l.length c3)) w.heap.size 49 #[.int .i64 5, .bool false, .int .i64 0, .float .f64 0, .string ⟨#[]⟩, .slice A3 l.length c3] := set6_blk Hfin.out.1 _ _ _ _ _ _
      have hfs := set6_size w3 w.heap.size 0 (.int .i64 5) (.bool false) (.int .i64 0) (.float .f64 0) (.string ⟨#[]⟩) (.slice A3 l.length c3)
      have hfl : Below w.heap.size w3 (set6 w3 w.heap.size 0 (.int .i64 5) (.bool false) (.int .i64 0) (.float .f64 0) (.string ⟨#[]⟩) (.slice A3 l.length c3)) := set6_below (Below.refl _ _) (Nat.le_refl _) _ _ _ _ _ _
      refine door_ok 1 (set6 w3 w.heap.size 0 (.int .i64 5) (.bool false) (.int .i64 0) (.float .f64 0) (.string ⟨#[]⟩) (.slice A3 l.length c3)) (by omega) ((Hw2.out.1.on hb3).under hfl hpl hgl) (fun w' h1 h2 h3 => ?_)
      have hbx : Blk w' w.heap.size 49 #[.int .i64 5, .bool false, .int .i64 0, .float .f64 0, .string ⟨#[]⟩, .slice A3 l.length c3] := (h2.block _ (by rw [hfs]; omega) (by omega)).trans hfb
      have f0 : w'.cell? ⟨w.heap.size, 0, none⟩ = some (.int .i64 5) := hbx.cell 0
      have f1 : w'.cell? ⟨w.heap.size, 1, none⟩ = some (.bool false) := hbx.cell 1
      have f2 : w'.cell? ⟨w.heap.size, 2, none⟩ = some (.int .i64 0) := hbx.cell 2
      have f3 : w'.cell? ⟨w.heap.size, 3, none⟩ = some (.float .f64 0) := hbx.cell 3
      have f4 : w'.cell? ⟨w.heap.size, 4, none⟩ = some (.string ⟨#[]⟩) := hbx.cell 4
      have f5 : w'.cell? ⟨w.heap.size, 5, none⟩ = some (.slice A3 l.length c3) := hbx.cell 5
      refine ⟨.agg #[.int .i64 5, .bool false, .int .i64 0, .float .f64 0, .string ⟨#[]⟩, .slice A3 l.length c3], by simp [results, Tryz.results78, go_sem, f0, f1, f2, f3, f4, f5], Got.ok_ HV.out ?_ h1 (((Hw2.out.2.1.trans (Only.of_below hb3)).far hfl (Nat.le_refl _)).trans h2)⟩
      refine RdS.of A3 c3 (by decide) (by decide) (by decide) (by decide) hc3a hc3b hc3c (hl3.keepS (fun q hq => World.cell?_of_block ((h2.block _ (by rw [hfs]; exact hq.2) (by omega)).trans (set6_far _ _ _ _ _ _ (by omega)))) (fun b hb => ⟨by omega, by rw [h3, hfs]; exact hb.2⟩))

end Go.Proofs.YtnehbpfgdeilhaaGreatDoor

namespace Go.Proofs.YtnehbpfgdeilhaaGreatDoor
open Go.ChangeShapes Go.WideShapes Go.ChangeAt Go.RowKit Go.Fl
open Go.Shelf

theorem val_kind {x : Wd} (h : valA x = true) : x.k = 1 ∨ x.k = 2 ∨ x.k = 3 ∨ x.k = 4 ∨ x.k = 5 := by
  unfold valA isSgn at h
  simp only [Bool.or_eq_true, Bool.and_eq_true, decide_eq_true_eq] at h
  omega

/-- cells of a value's box, as a walk wants them -/
theorem box6 {w : World} {g : Nat} {t : TypeId} {v0 v1 v2 v3 v4 v5 : Value} (h : Blk w g t #[v0, v1, v2, v3, v4, v5]) :
    (w.cell? ⟨g, 0, none⟩ = some v0 ∧ w.cell? ⟨g, 1, none⟩ = some v1 ∧ w.cell? ⟨g, 2, none⟩ = some v2 ∧ w.cell? ⟨g, 3, none⟩ = some v3 ∧ w.cell? ⟨g, 4, none⟩ = some v4 ∧ w.cell? ⟨g, 5, none⟩ = some v5) ∧
    (w.frozen? ⟨g, 0, none⟩ = false ∧ w.frozen? ⟨g, 1, none⟩ = false ∧ w.frozen? ⟨g, 2, none⟩ = false ∧ w.frozen? ⟨g, 3, none⟩ = false ∧ w.frozen? ⟨g, 4, none⟩ = false ∧ w.frozen? ⟨g, 5, none⟩ = false) :=
  ⟨⟨h.cell 0, h.cell 1, h.cell 2, h.cell 3, h.cell 4, h.cell 5⟩, h.frozen 0, h.frozen 1, h.frozen 2, h.frozen 3, h.frozen 4, h.frozen 5⟩

set_option maxHeartbeats 4000000 in
set_option maxRecDepth 100000 in
theorem val_step {pb g cap : Nat} {ws : List Wd} (hG : Gd ws) (k : Nat) (ih : ∀ k', k = k' + 1 → ValAt pb g cap ws k') : ValAt pb g cap ws k := by
  intro w i d n x h hx hv hd
  have hba := (Below.refl w.heap.size w).alloc (Nat.le_refl _) (.cells #[.int .i64 0, .bool false, .int .i64 0, .float .f64 0, .string ⟨#[]⟩, .slice none 0 0] 49)
  have HBA := Lib.hid hba
  have HW := Lib.hid (word_any (h.on hba) hG hx)
  have H := Lib.hid h
  have hgx := gx_of hx
  have hf := hG.few
  have hi := h.at_
  have hok := hG.ok x (List.mem_of_getElem? hx)
  have hn : i + 1 < ws.length := by
    obtain ⟨z, hz⟩ := hG.next hx (by have := val_kind hv; omega)
    exact (List.getElem?_eq_some_iff.1 hz).1
  have HLi := Lib.hid (fun W (hb : Below w.heap.size w W) (hk : x.k = 5) => list_any hG k ih (h.on hb) hx hk hd)
  have HVL := Lib.hid (fun hk : x.k ≠ 5 => pVal_leaf (G := gx ws) (k := k) (s := ⟨i, n⟩) (by show (gx ws i).k ≠ 5; rw [hgx]; exact hk))
  have hgx' : gx ws (Ps.mk i n).i = { x with at_ := 0 } := hgx
  rw [hgx'] at HVL
  have hvk := val_kind hv
  clear hba h hx hgx hgx' hv hG ih hd
  obtain ⟨kk, s, m, f, a⟩ := x
  simp only at hok hvk
  obtain ⟨-, -, hm64, hf64, hs3, -⟩ := hok
  rcases hvk with rfl | rfl | rfl | rfl | rfl
  · cases hnull : (s.toList == [110, 117, 108, 108])
    · have HV : Hid (pVal (gx ws) k ⟨i, n⟩ = .ok (.mk 1 (s.toList == [116, 114, 117, 101]) 0 0 ⟨#[]⟩ []) ⟨i + 1, n⟩) := Lib.hid ((HVL.out (by simp)).trans (by
        have : wdT ⟨1, s, m, f, 0⟩ = .mk 1 (s.toList == [116, 114, 117, 101]) 0 0 ⟨#[]⟩ [] := by
          rw [Lib.toList_data] at hnull ⊢
          unfold wdT isL txNull txTrue
          rw [hnull]
          rfl
        rw [this]))
      have HC := Lib.hid (fun b W => show Calls Tryz.prog 82 #[.bool b] W fun e w' => e = .returned (.agg #[.int .i64 1, .bool b, .int .i64 0, .float .f64 0, .string ⟨#[]⟩, .slice none 0 0]) ∧ Below W.heap.size W w' from vyes_any b W)
      go_enter Tryz.func59, Tryz.ntmps59
      go_wp2_with fail
      refine HW.out.mono ?_
      rintro e w1 ⟨rfl, hb1⟩
      have hbw := HBA.out.trans (hb1.mono HBA.out.size)
      have hbw2 : Below w.heap.size w (w1.alloc (.cells #[.int .i64 1, .string s, .int .i64 m, .float .f64 f, .int .i64 (a : Nat)] 56)) := hbw.alloc hbw.size _
      have hw1 : w.heap.size < w1.heap.size := by have := hb1.size; simp at this; omega
      have hbx1 : Blk w1 w.heap.size 49 #[.int .i64 0, .bool false, .int .i64 0, .float .f64 0, .string ⟨#[]⟩, .slice none 0 0] := Blk.below (Blk.new w _ _) hb1 (by simp)
      have hbx2 : Blk (w1.alloc (.cells #[.int .i64 1, .string s, .int .i64 m, .float .f64 f, .int .i64 (a : Nat)] 56)) w.heap.size 49 #[.int .i64 0, .bool false, .int .i64 0, .float .f64 0, .string ⟨#[]⟩, .slice none 0 0] := hbx1.below ((Below.refl _ _).alloc (Nat.le_refl _) _) hw1
      have hpw1 : ¬ w1.heap.size = pb := by have := H.out.box.lt; omega
      have hpw2 : ¬ pb = w1.heap.size := by have := H.out.box.lt; omega
      have HX2 := Lib.hid (And.intro hbw2 (And.intro hbx2 hw1))
      have hp2 := H.out.on hbw2
      have HP2 := Lib.hid hp2
      obtain ⟨-, c1, -, -, z1, -, -, -⟩ := hp2.cells
      clear hp2 hb1 hbw hbw2 hbx1 hbx2
      go_wp2_with fail
      refine (HC.out _ _).mono ?_
      rintro e w4 ⟨rfl, hb4⟩
      have hn4 : Below (w1.heap.size + 1) ((w1.alloc (.cells #[.int .i64 1, .string s, .int .i64 m, .float .f64 f, .int .i64 (a : Nat)] 56)).setCell ⟨pb, 1, none⟩ (.int .i64 ((i : Int) + 1))) w4 := by simpa [World.setCell] using hb4
      have hbx4 : Blk w4 w.heap.size 49 #[.int .i64 0, .bool false, .int .i64 0, .float .f64 0, .string ⟨#[]⟩, .slice none 0 0] := (HX2.out.2.1.far (by have := H.out.box.lt; show w.heap.size ≠ pb; omega) _).below hn4 (by have := HX2.out.2.2; omega)
      obtain ⟨⟨d0, d1, d2, d3, d4, d5⟩, y0, y1, y2, y3, y4, y5⟩ := box6 hbx4
      have Hx4 := Lib.hid (And.intro hbx4 hb4)
      clear hbx4 hb4 hn4
      go_wp2_with fail
      obtain ⟨f0, f1, f2, f3, f4, f5⟩ := set6_load Hx4.out.1 (by simp) (.int .i64 1) (.bool (s.toList == [116, 114, 117, 101])) (.int .i64 0) (.float .f64 0) (.string ⟨#[]⟩) (.slice none 0 0)
      have hfl : Below w.heap.size w4 (set6 w4 w.heap.size 0 (.int .i64 1) (.bool (s.toList == [116, 114, 117, 101])) (.int .i64 0) (.float .f64 0) (.string ⟨#[]⟩) (.slice none 0 0)) := set6_below (Below.refl _ _) (Nat.le_refl _) _ _ _ _ _ _
      exact bodyPost_ret (v := .agg #[.int .i64 1, .bool (s.toList == [116, 114, 117, 101]), .int .i64 0, .float .f64 0, .string ⟨#[]⟩, .slice none 0 0]) (by simp [results, Tryz.results59, go_sem, f0, f1, f2, f3, f4, f5]) rfl
        (Got.ok_ HV.out (rdS_leaf (by decide) (by decide) (by decide) (by decide)) (((HP2.out.next hn).on Hx4.out.2).under hfl H.out.box.lt H.out.lt) (((fr_put (FR.of HX2.out.1) 1 _).trans (Only.of_below Hx4.out.2)).far hfl (Nat.le_refl _)))
    · have HV : Hid (pVal (gx ws) k ⟨i, n⟩ = .ok vz ⟨i + 1, n⟩) := Lib.hid ((HVL.out (by simp)).trans (by
        have : wdT ⟨1, s, m, f, 0⟩ = vz := by
          rw [Lib.toList_data] at hnull
          unfold wdT isL txNull txTrue
          rw [hnull]
          rfl
        rw [this]))
      have HC := Lib.hid (fun W => show Calls Tryz.prog 81 #[] W fun e w' => e = .returned (.agg #[.int .i64 0, .bool false, .int .i64 0, .float .f64 0, .string ⟨#[]⟩, .slice none 0 0]) ∧ Below W.heap.size W w' from vnone_any W)
      go_enter Tryz.func59, Tryz.ntmps59
      go_wp2_with fail
      refine HW.out.mono ?_
      rintro e w1 ⟨rfl, hb1⟩
      have hbw := HBA.out.trans (hb1.mono HBA.out.size)
      have hbw2 : Below w.heap.size w (w1.alloc (.cells #[.int .i64 1, .string s, .int .i64 m, .float .f64 f, .int .i64 (a : Nat)] 56)) := hbw.alloc hbw.size _
      have hw1 : w.heap.size < w1.heap.size := by have := hb1.size; simp at this; omega
      have hbx1 : Blk w1 w.heap.size 49 #[.int .i64 0, .bool false, .int .i64 0, .float .f64 0, .string ⟨#[]⟩, .slice none 0 0] := Blk.below (Blk.new w _ _) hb1 (by simp)
      have hbx2 : Blk (w1.alloc (.cells #[.int .i64 1, .string s, .int .i64 m, .float .f64 f, .int .i64 (a : Nat)] 56)) w.heap.size 49 #[.int .i64 0, .bool false, .int .i64 0, .float .f64 0, .string ⟨#[]⟩, .slice none 0 0] := hbx1.below ((Below.refl _ _).alloc (Nat.le_refl _) _) hw1
      have hpw1 : ¬ w1.heap.size = pb := by have := H.out.box.lt; omega
      have hpw2 : ¬ pb = w1.heap.size := by have := H.out.box.lt; omega
      have HX2 := Lib.hid (And.intro hbw2 (And.intro hbx2 hw1))
      have hp2 := H.out.on hbw2
      have HP2 := Lib.hid hp2
      obtain ⟨-, c1, -, -, z1, -, -, -⟩ := hp2.cells
      clear hp2 hb1 hbw hbw2 hbx1 hbx2
      go_wp2_with fail
      refine (HC.out _).mono ?_
      rintro e w4 ⟨rfl, hb4⟩
      have hn4 : Below (w1.heap.size + 1) ((w1.alloc (.cells #[.int .i64 1, .string s, .int .i64 m, .float .f64 f, .int .i64 (a : Nat)] 56)).setCell ⟨pb, 1, none⟩ (.int .i64 ((i : Int) + 1))) w4 := by simpa [World.setCell] using hb4
      have hbx4 : Blk w4 w.heap.size 49 #[.int .i64 0, .bool false, .int .i64 0, .float .f64 0, .string ⟨#[]⟩, .slice none 0 0] := (HX2.out.2.1.far (by have := H.out.box.lt; show w.heap.size ≠ pb; omega) _).below hn4 (by have := HX2.out.2.2; omega)
      obtain ⟨⟨d0, d1, d2, d3, d4, d5⟩, y0, y1, y2, y3, y4, y5⟩ := box6 hbx4
      have Hx4 := Lib.hid (And.intro hbx4 hb4)
      clear hbx4 hb4 hn4
      go_wp2_with fail
      obtain ⟨f0, f1, f2, f3, f4, f5⟩ := set6_load Hx4.out.1 (by simp) (.int .i64 0) (.bool false) (.int .i64 0) (.float .f64 0) (.string ⟨#[]⟩) (.slice none 0 0)
      have hfl : Below w.heap.size w4 (set6 w4 w.heap.size 0 (.int .i64 0) (.bool false) (.int .i64 0) (.float .f64 0) (.string ⟨#[]⟩) (.slice none 0 0)) := set6_below (Below.refl _ _) (Nat.le_refl _) _ _ _ _ _ _
      exact bodyPost_ret (v := .agg #[.int .i64 0, .bool false, .int .i64 0, .float .f64 0, .string ⟨#[]⟩, .slice none 0 0]) (by simp [results, Tryz.results59, go_sem, f0, f1, f2, f3, f4, f5]) rfl
        (Got.ok_ HV.out (rdS_leaf (by decide) (by decide) (by decide) (by decide)) (((HP2.out.next hn).on Hx4.out.2).under hfl H.out.box.lt H.out.lt) (((fr_put (FR.of HX2.out.1) 1 _).trans (Only.of_below Hx4.out.2)).far hfl (Nat.le_refl _)))
  · have HV : Hid (pVal (gx ws) k ⟨i, n⟩ = .ok (.mk 2 false m 0 ⟨#[]⟩ []) ⟨i + 1, n⟩) := Lib.hid ((HVL.out (by simp)).trans rfl)
    have HC := Lib.hid (fun W => show Calls Tryz.prog 79 #[.int .i64 m] W fun e w' => e = .returned (.agg #[.int .i64 2, .bool false, .int .i64 m, .float .f64 0, .string ⟨#[]⟩, .slice none 0 0]) ∧ Below W.heap.size W w' from vint_any m W)
    go_enter Tryz.func59, Tryz.ntmps59
    go_wp2_with fail
    refine HW.out.mono ?_
    rintro e w1 ⟨rfl, hb1⟩
    have hbw := HBA.out.trans (hb1.mono HBA.out.size)
    have hbw2 : Below w.heap.size w (w1.alloc (.cells #[.int .i64 2, .string s, .int .i64 m, .float .f64 f, .int .i64 (a : Nat)] 56)) := hbw.alloc hbw.size _
    have hw1 : w.heap.size < w1.heap.size := by have := hb1.size; simp at this; omega
    have hbx1 : Blk w1 w.heap.size 49 #[.int .i64 0, .bool false, .int .i64 0, .float .f64 0, .string ⟨#[]⟩, .slice none 0 0] := Blk.below (Blk.new w _ _) hb1 (by simp)
    have hbx2 : Blk (w1.alloc (.cells #[.int .i64 2, .string s, .int .i64 m, .float .f64 f, .int .i64 (a : Nat)] 56)) w.heap.size 49 #[.int .i64 0, .bool false, .int .i64 0, .float .f64 0, .string ⟨#[]⟩, .slice none 0 0] := hbx1.below ((Below.refl _ _).alloc (Nat.le_refl _) _) hw1
    have hpw1 : ¬ w1.heap.size = pb := by have := H.out.box.lt; omega
    have hpw2 : ¬ pb = w1.heap.size := by have := H.out.box.lt; omega
    have HX2 := Lib.hid (And.intro hbw2 (And.intro hbx2 hw1))
    have hp2 := H.out.on hbw2
    have HP2 := Lib.hid hp2
    obtain ⟨-, c1, -, -, z1, -, -, -⟩ := hp2.cells
    clear hp2 hb1 hbw hbw2 hbx1 hbx2
    go_wp2_with fail
    refine (HC.out _).mono ?_
    rintro e w4 ⟨rfl, hb4⟩
    have hn4 : Below (w1.heap.size + 1) ((w1.alloc (.cells #[.int .i64 2, .string s, .int .i64 m, .float .f64 f, .int .i64 (a : Nat)] 56)).setCell ⟨pb, 1, none⟩ (.int .i64 ((i : Int) + 1))) w4 := by simpa [World.setCell] using hb4
    have hbx4 : Blk w4 w.heap.size 49 #[.int .i64 0, .bool false, .int .i64 0, .float .f64 0, .string ⟨#[]⟩, .slice none 0 0] := (HX2.out.2.1.far (by have := H.out.box.lt; show w.heap.size ≠ pb; omega) _).below hn4 (by have := HX2.out.2.2; omega)
    obtain ⟨⟨d0, d1, d2, d3, d4, d5⟩, y0, y1, y2, y3, y4, y5⟩ := box6 hbx4
    have Hx4 := Lib.hid (And.intro hbx4 hb4)
    clear hbx4 hb4 hn4
    go_wp2_with fail
    obtain ⟨f0, f1, f2, f3, f4, f5⟩ := set6_load Hx4.out.1 (by simp) (.int .i64 2) (.bool false) (.int .i64 m) (.float .f64 0) (.string ⟨#[]⟩) (.slice none 0 0)
    have hfl : Below w.heap.size w4 (set6 w4 w.heap.size 0 (.int .i64 2) (.bool false) (.int .i64 m) (.float .f64 0) (.string ⟨#[]⟩) (.slice none 0 0)) := set6_below (Below.refl _ _) (Nat.le_refl _) _ _ _ _ _ _
    exact bodyPost_ret (v := .agg #[.int .i64 2, .bool false, .int .i64 m, .float .f64 0, .string ⟨#[]⟩, .slice none 0 0]) (by simp [results, Tryz.results59, go_sem, f0, f1, f2, f3, f4, f5]) rfl
      (Got.ok_ HV.out (rdS_leaf (by decide) hm64 (by decide) (by decide)) (((HP2.out.next hn).on Hx4.out.2).under hfl H.out.box.lt H.out.lt) (((fr_put (FR.of HX2.out.1) 1 _).trans (Only.of_below Hx4.out.2)).far hfl (Nat.le_refl _)))
  · have HV : Hid (pVal (gx ws) k ⟨i, n⟩ = .ok (.mk 3 false 0 (canonN f) ⟨#[]⟩ []) ⟨i + 1, n⟩) := Lib.hid ((HVL.out (by simp)).trans rfl)
    have HC := Lib.hid (fun W => show Calls Tryz.prog 80 #[.float .f64 f] W fun e w' => e = .returned (.agg #[.int .i64 3, .bool false, .int .i64 0, .float .f64 (canonN f), .string ⟨#[]⟩, .slice none 0 0]) ∧ Below W.heap.size W w' from vfloat_any f W)
    go_enter Tryz.func59, Tryz.ntmps59
    go_wp2_with fail
    refine HW.out.mono ?_
    rintro e w1 ⟨rfl, hb1⟩
    have hbw := HBA.out.trans (hb1.mono HBA.out.size)
    have hbw2 : Below w.heap.size w (w1.alloc (.cells #[.int .i64 3, .string s, .int .i64 m, .float .f64 f, .int .i64 (a : Nat)] 56)) := hbw.alloc hbw.size _
    have hw1 : w.heap.size < w1.heap.size := by have := hb1.size; simp at this; omega
    have hbx1 : Blk w1 w.heap.size 49 #[.int .i64 0, .bool false, .int .i64 0, .float .f64 0, .string ⟨#[]⟩, .slice none 0 0] := Blk.below (Blk.new w _ _) hb1 (by simp)
    have hbx2 : Blk (w1.alloc (.cells #[.int .i64 3, .string s, .int .i64 m, .float .f64 f, .int .i64 (a : Nat)] 56)) w.heap.size 49 #[.int .i64 0, .bool false, .int .i64 0, .float .f64 0, .string ⟨#[]⟩, .slice none 0 0] := hbx1.below ((Below.refl _ _).alloc (Nat.le_refl _) _) hw1
    have hpw1 : ¬ w1.heap.size = pb := by have := H.out.box.lt; omega
    have hpw2 : ¬ pb = w1.heap.size := by have := H.out.box.lt; omega
    have HX2 := Lib.hid (And.intro hbw2 (And.intro hbx2 hw1))
    have hp2 := H.out.on hbw2
    have HP2 := Lib.hid hp2
    obtain ⟨-, c1, -, -, z1, -, -, -⟩ := hp2.cells
    clear hp2 hb1 hbw hbw2 hbx1 hbx2
    go_wp2_with fail
    refine (HC.out _).mono ?_
    rintro e w4 ⟨rfl, hb4⟩
    have hn4 : Below (w1.heap.size + 1) ((w1.alloc (.cells #[.int .i64 3, .string s, .int .i64 m, .float .f64 f, .int .i64 (a : Nat)] 56)).setCell ⟨pb, 1, none⟩ (.int .i64 ((i : Int) + 1))) w4 := by simpa [World.setCell] using hb4
    have hbx4 : Blk w4 w.heap.size 49 #[.int .i64 0, .bool false, .int .i64 0, .float .f64 0, .string ⟨#[]⟩, .slice none 0 0] := (HX2.out.2.1.far (by have := H.out.box.lt; show w.heap.size ≠ pb; omega) _).below hn4 (by have := HX2.out.2.2; omega)
    obtain ⟨⟨d0, d1, d2, d3, d4, d5⟩, y0, y1, y2, y3, y4, y5⟩ := box6 hbx4
    have Hx4 := Lib.hid (And.intro hbx4 hb4)
    clear hbx4 hb4 hn4
    go_wp2_with fail
    obtain ⟨f0, f1, f2, f3, f4, f5⟩ := set6_load Hx4.out.1 (by simp) (.int .i64 3) (.bool false) (.int .i64 0) (.float .f64 (canonN f)) (.string ⟨#[]⟩) (.slice none 0 0)
    have hfl : Below w.heap.size w4 (set6 w4 w.heap.size 0 (.int .i64 3) (.bool false) (.int .i64 0) (.float .f64 (canonN f)) (.string ⟨#[]⟩) (.slice none 0 0)) := set6_below (Below.refl _ _) (Nat.le_refl _) _ _ _ _ _ _
    exact bodyPost_ret (v := .agg #[.int .i64 3, .bool false, .int .i64 0, .float .f64 (canonN f), .string ⟨#[]⟩, .slice none 0 0]) (by simp [results, Tryz.results59, go_sem, f0, f1, f2, f3, f4, f5]) rfl
      (Got.ok_ HV.out (rdS_leaf (by decide) (by decide) (canonN_lt f hf64) (by decide)) (((HP2.out.next hn).on Hx4.out.2).under hfl H.out.box.lt H.out.lt) (((fr_put (FR.of HX2.out.1) 1 _).trans (Only.of_below Hx4.out.2)).far hfl (Nat.le_refl _)))
  · have HV : Hid (pVal (gx ws) k ⟨i, n⟩ = .ok (.mk 4 false 0 0 s []) ⟨i + 1, n⟩) := Lib.hid ((HVL.out (by simp)).trans rfl)
    have HC := Lib.hid (fun W => show Calls Tryz.prog 63 #[.string s] W fun e w' => e = .returned (.agg #[.int .i64 4, .bool false, .int .i64 0, .float .f64 0, .string s, .slice none 0 0]) ∧ Below W.heap.size W w' from vtext_any s W)
    go_enter Tryz.func59, Tryz.ntmps59
    go_wp2_with fail
    refine HW.out.mono ?_
    rintro e w1 ⟨rfl, hb1⟩
    have hbw := HBA.out.trans (hb1.mono HBA.out.size)
    have hbw2 : Below w.heap.size w (w1.alloc (.cells #[.int .i64 4, .string s, .int .i64 m, .float .f64 f, .int .i64 (a : Nat)] 56)) := hbw.alloc hbw.size _
    have hw1 : w.heap.size < w1.heap.size := by have := hb1.size; simp at this; omega
    have hbx1 : Blk w1 w.heap.size 49 #[.int .i64 0, .bool false, .int .i64 0, .float .f64 0, .string ⟨#[]⟩, .slice none 0 0] := Blk.below (Blk.new w _ _) hb1 (by simp)
    have hbx2 : Blk (w1.alloc (.cells #[.int .i64 4, .string s, .int .i64 m, .float .f64 f, .int .i64 (a : Nat)] 56)) w.heap.size 49 #[.int .i64 0, .bool false, .int .i64 0, .float .f64 0, .string ⟨#[]⟩, .slice none 0 0] := hbx1.below ((Below.refl _ _).alloc (Nat.le_refl _) _) hw1
    have hpw1 : ¬ w1.heap.size = pb := by have := H.out.box.lt; omega
    have hpw2 : ¬ pb = w1.heap.size := by have := H.out.box.lt; omega
    have HX2 := Lib.hid (And.intro hbw2 (And.intro hbx2 hw1))
    have hp2 := H.out.on hbw2
    have HP2 := Lib.hid hp2
    obtain ⟨-, c1, -, -, z1, -, -, -⟩ := hp2.cells
    clear hp2 hb1 hbw hbw2 hbx1 hbx2
    go_wp2_with fail
    refine (HC.out _).mono ?_
    rintro e w4 ⟨rfl, hb4⟩
    have hn4 : Below (w1.heap.size + 1) ((w1.alloc (.cells #[.int .i64 4, .string s, .int .i64 m, .float .f64 f, .int .i64 (a : Nat)] 56)).setCell ⟨pb, 1, none⟩ (.int .i64 ((i : Int) + 1))) w4 := by simpa [World.setCell] using hb4
    have hbx4 : Blk w4 w.heap.size 49 #[.int .i64 0, .bool false, .int .i64 0, .float .f64 0, .string ⟨#[]⟩, .slice none 0 0] := (HX2.out.2.1.far (by have := H.out.box.lt; show w.heap.size ≠ pb; omega) _).below hn4 (by have := HX2.out.2.2; omega)
    obtain ⟨⟨d0, d1, d2, d3, d4, d5⟩, y0, y1, y2, y3, y4, y5⟩ := box6 hbx4
    have Hx4 := Lib.hid (And.intro hbx4 hb4)
    clear hbx4 hb4 hn4
    go_wp2_with fail
    obtain ⟨f0, f1, f2, f3, f4, f5⟩ := set6_load Hx4.out.1 (by simp) (.int .i64 4) (.bool false) (.int .i64 0) (.float .f64 0) (.string s) (.slice none 0 0)
    have hfl : Below w.heap.size w4 (set6 w4 w.heap.size 0 (.int .i64 4) (.bool false) (.int .i64 0) (.float .f64 0) (.string s) (.slice none 0 0)) := set6_below (Below.refl _ _) (Nat.le_refl _) _ _ _ _ _ _
    exact bodyPost_ret (v := .agg #[.int .i64 4, .bool false, .int .i64 0, .float .f64 0, .string s, .slice none 0 0]) (by simp [results, Tryz.results59, go_sem, f0, f1, f2, f3, f4, f5]) rfl
      (Got.ok_ HV.out (rdS_leaf (by decide) (by decide) (by decide) (by omega)) (((HP2.out.next hn).on Hx4.out.2).under hfl H.out.box.lt H.out.lt) (((fr_put (FR.of HX2.out.1) 1 _).trans (Only.of_below Hx4.out.2)).far hfl (Nat.le_refl _)))
  · cases hr : pVal (gx ws) k ⟨i, n⟩ with
    | bad j c =>
      have HR := Lib.hid hr
      clear hr
      go_enter Tryz.func59, Tryz.ntmps59
      go_wp2_with fail
      refine HW.out.mono ?_
      rintro e w1 ⟨rfl, hb1⟩
      have hbw := HBA.out.trans (hb1.mono HBA.out.size)
      have hbw2 : Below w.heap.size w (w1.alloc (.cells #[.int .i64 5, .string s, .int .i64 m, .float .f64 f, .int .i64 (a : Nat)] 56)) := hbw.alloc hbw.size _
      have hw1 : w.heap.size < w1.heap.size := by have := hb1.size; simp at this; omega
      have hbx1 : Blk w1 w.heap.size 49 #[.int .i64 0, .bool false, .int .i64 0, .float .f64 0, .string ⟨#[]⟩, .slice none 0 0] := Blk.below (Blk.new w _ _) hb1 (by simp)
      have hbx2 : Blk (w1.alloc (.cells #[.int .i64 5, .string s, .int .i64 m, .float .f64 f, .int .i64 (a : Nat)] 56)) w.heap.size 49 #[.int .i64 0, .bool false, .int .i64 0, .float .f64 0, .string ⟨#[]⟩, .slice none 0 0] := hbx1.below ((Below.refl _ _).alloc (Nat.le_refl _) _) hw1
      have hpw1 : ¬ w1.heap.size = pb := by have := H.out.box.lt; omega
      have hpw2 : ¬ pb = w1.heap.size := by have := H.out.box.lt; omega
      have HX2 := Lib.hid (And.intro hbw2 (And.intro hbx2 hw1))
      have hp2 := H.out.on hbw2
      have HP2 := Lib.hid hp2
      clear hp2 hb1 hbw hbw2 hbx1 hbx2
      go_wp2_with fail
      refine (HLi.out _ HX2.out.1 (by first | exact rfl | exact trivial)).mono ?_
      rintro e w4 hg
      rw [HR.out] at hg
      obtain ⟨rfl, ⟨i', n', hp4⟩, ho4⟩ := hg
      exact ⟨rfl, Got.bad rfl rfl hp4 ((FR.of HX2.out.1).trans ho4)⟩
    | ok t s' =>
      have HR := Lib.hid hr
      clear hr
      go_enter Tryz.func59, Tryz.ntmps59
      go_wp2_with fail
      refine HW.out.mono ?_
      rintro e w1 ⟨rfl, hb1⟩
      have hbw := HBA.out.trans (hb1.mono HBA.out.size)
      have hbw2 : Below w.heap.size w (w1.alloc (.cells #[.int .i64 5, .string s, .int .i64 m, .float .f64 f, .int .i64 (a : Nat)] 56)) := hbw.alloc hbw.size _
      have hw1 : w.heap.size < w1.heap.size := by have := hb1.size; simp at this; omega
      have hbx1 : Blk w1 w.heap.size 49 #[.int .i64 0, .bool false, .int .i64 0, .float .f64 0, .string ⟨#[]⟩, .slice none 0 0] := Blk.below (Blk.new w _ _) hb1 (by simp)
      have hbx2 : Blk (w1.alloc (.cells #[.int .i64 5, .string s, .int .i64 m, .float .f64 f, .int .i64 (a : Nat)] 56)) w.heap.size 49 #[.int .i64 0, .bool false, .int .i64 0, .float .f64 0, .string ⟨#[]⟩, .slice none 0 0] := hbx1.below ((Below.refl _ _).alloc (Nat.le_refl _) _) hw1
      have hpw1 : ¬ w1.heap.size = pb := by have := H.out.box.lt; omega
      have hpw2 : ¬ pb = w1.heap.size := by have := H.out.box.lt; omega
      have HX2 := Lib.hid (And.intro hbw2 (And.intro hbx2 hw1))
      have hp2 := H.out.on hbw2
      have HP2 := Lib.hid hp2
      clear hp2 hb1 hbw hbw2 hbx1 hbx2
      go_wp2_with fail
      refine (HLi.out _ HX2.out.1 (by first | exact rfl | exact trivial)).mono ?_
      rintro e w4 hg
      rw [HR.out] at hg
      obtain ⟨v4, rfl, hv4, hp4, ho4⟩ := hg
      obtain ⟨xk, xb, xn, xf, xs, xl⟩ := t
      obtain ⟨xA, xc, rfl, q1, q2, q3, q4, q5, q6, q7, q8⟩ := RdS.open hv4
      have hbx4 : Blk w4 w.heap.size 49 #[.int .i64 0, .bool false, .int .i64 0, .float .f64 0, .string ⟨#[]⟩, .slice none 0 0] := (ho4.block _ (by have := HX2.out.2.2; simp; omega) (by have := H.out.box.lt; show ¬ w.heap.size = pb; omega)).trans HX2.out.2.1
      obtain ⟨⟨d0, d1, d2, d3, d4, d5⟩, y0, y1, y2, y3, y4, y5⟩ := box6 hbx4
      have Hx4 := Lib.hid (And.intro hbx4 (And.intro hp4 (And.intro ho4 (And.intro q1 (And.intro q2 (And.intro q3 (And.intro q4 (And.intro q5 (And.intro q6 (And.intro q7 q8))))))))))
      clear hbx4 hp4 ho4 hv4 q1 q2 q3 q4 q5 q6 q7 q8
      go_wp2_with fail
      obtain ⟨hbx4, hp4, ho4, q1, q2, q3, q4, q5, q6, q7, q8⟩ := Hx4.out
      obtain ⟨f0, f1, f2, f3, f4, f5⟩ := set6_load hbx4 (by simp) (.int .i64 xk) (.bool xb) (.int .i64 xn) (.float .f64 xf) (.string xs) (.slice xA xl.length xc)
      have hfl : Below w.heap.size w4 (set6 w4 w.heap.size 0 (.int .i64 xk) (.bool xb) (.int .i64 xn) (.float .f64 xf) (.string xs) (.slice xA xl.length xc)) := set6_below (Below.refl _ _) (Nat.le_refl _) _ _ _ _ _ _
      have hfs := set6_size w4 w.heap.size 0 (.int .i64 xk) (.bool xb) (.int .i64 xn) (.float .f64 xf) (.string xs) (.slice xA xl.length xc)
      refine bodyPost_ret (v := .agg #[.int .i64 xk, .bool xb, .int .i64 xn, .float .f64 xf, .string xs, .slice xA xl.length xc]) (by simp [results, Tryz.results59, go_sem, f0, f1, f2, f3, f4, f5]) rfl
        (Got.ok_ rfl ?_ (hp4.under hfl H.out.box.lt H.out.lt) (((FR.of HX2.out.1).trans ho4).far hfl (Nat.le_refl _)))
      have hz := HX2.out.2.2
      simp only [World.size_alloc] at q8
      exact RdS.of xA xc q1 q2 q3 q4 q5 q6 q7 (q8.keepS (fun q hq => World.cell?_of_block (set6_far _ _ _ _ _ _ (by omega))) (fun b hb => ⟨by omega, (show b < (set6 w4 w.heap.size 0 (.int .i64 xk) (.bool xb) (.int .i64 xn) (.float .f64 xf) (.string xs) (.slice xA xl.length xc)).heap.size by rw [hfs]; exact hb.2)⟩))

theorem val_at {pb g cap : Nat} {ws : List Wd} (hG : Gd ws) : ∀ k, ValAt pb g cap ws k := by
  intro k
  induction k with
  | zero => exact val_step hG 0 (fun k' h => by omega)
  | succ k ih => exact val_step hG (k + 1) (fun k' h => by obtain rfl : k' = k := by omega
                                                           exact ih)

end Go.Proofs.YtnehbpfgdeilhaaGreatDoor

namespace Go.Proofs.YtnehbpfgdeilhaaGreatDoor
open Go.ChangeShapes Go.WideShapes Go.ChangeAt Go.RowKit Go.Fl
open Go.Shelf

set_option maxHeartbeats 2000000 in
set_option maxRecDepth 100000 in
theorem inner_any {pb g cap : Nat} {ws : List Wd} (hG : Gd ws) (k : Nat) {w : World} {i d n : Nat} {x : Wd} (h : PB w pb g cap ws i d n) (hx : ws[i]? = some x) (hv : valA x = true) (hd : d + k = 12) :
    Calls Tryz.prog 100 #[.pointer (some ⟨pb, 0, none⟩)] w (Got pb g cap ws d (fun b => b = pb) RdS (pInner (gx ws) k ⟨i, n⟩) w) := by
  have hba := (Below.refl w.heap.size w).alloc (Nat.le_refl _) (.cells #[.int .i64 0, .bool false, .int .i64 0, .float .f64 0, .string ⟨#[]⟩, .slice none 0 0] 49)
  have HD := Lib.hid (down_any (h.on hba) hG hx (by omega : d ≤ 12))
  have hat := congrArg Wd.at_ (getD_of hx)
  have HBA := Lib.hid hba
  have H := Lib.hid h
  cases k with
  | zero =>
    have HV : Hid (pInner (gx ws) 0 ⟨i, n⟩ = .bad i 3) := Lib.hid rfl
    have HAt := Lib.hid hat
    have hd12 : d = 12 := by omega
    clear h hG hx hat hba hd hv
    go_enter_defers Tryz.func100, Tryz.ntmps100
    go_wp2_with fail
    refine HD.out.mono ?_
    rintro e w1 (⟨-, rfl, hb1⟩ | ⟨h1, -⟩)
    · have hb := HBA.out.trans (hb1.mono HBA.out.size)
      exact Got.bad (R := RdS) HV.out HAt.out (H.out.on hb) (Only.of_below hb)
    · omega
  | succ k =>
    have HVal := Lib.hid (fun W (hW : PB W pb g cap ws i (d + 1) n) => val_at hG k W i (d + 1) n x hW hx hv (by omega))
    cases hr : pVal (gx ws) k ⟨i, n⟩ with
    | bad j c =>
      have HV : Hid (pInner (gx ws) (k + 1) ⟨i, n⟩ = .bad j c) := Lib.hid hr
      have HR := Lib.hid hr
      clear h hG hx hat hba hv hr
      go_enter_defers Tryz.func100, Tryz.ntmps100
      go_wp2_with fail
      refine HD.out.mono ?_
      rintro e w1 (⟨h1, -⟩ | ⟨-, rfl, hp1, ho1, -⟩)
      · omega
      have HP1 := Lib.hid hp1
      have HO1 := Lib.hid (((FR.of HBA.out : FR pb w _).trans ho1))
      clear hp1 ho1
      go_wp2_with fail
      refine (HVal.out _ HP1.out).mono ?_
      rintro e w2 hg
      rw [HR.out] at hg
      obtain ⟨rfl, ⟨i', n', hp2⟩, ho2⟩ := hg
      exact door_bad 1 w2 (by omega) hp2 (fun w' h1 h2 => Got.bad HV.out rfl h1 ((HO1.out.trans ho2).trans h2))
    | ok t s' =>
      have HV : Hid (pInner (gx ws) (k + 1) ⟨i, n⟩ = .ok t s') := Lib.hid hr
      have HR := Lib.hid hr
      clear h hG hx hat hv hr
      go_enter_defers Tryz.func100, Tryz.ntmps100
      go_wp2_with fail
      refine HD.out.mono ?_
      rintro e w1 (⟨h1, -⟩ | ⟨-, rfl, hp1, ho1, hs1⟩)
      · omega
      have hbox1 : Blk w1 w.heap.size 49 #[.int .i64 0, .bool false, .int .i64 0, .float .f64 0, .string ⟨#[]⟩, .slice none 0 0] := (ho1.block _ (by simp) (by have := H.out.box.lt; omega)).trans (Blk.new w _ _)
      have hs1' : w1.heap.size = w.heap.size + 1 := by rw [hs1]; simp
      have HP1 := Lib.hid hp1
      have HO1 := Lib.hid (And.intro ((FR.of HBA.out : FR pb w _).trans ho1) (And.intro hbox1 hs1'))
      clear hp1 ho1 hba hbox1 hs1 hs1'
      go_wp2_with fail
      refine (HVal.out _ HP1.out).mono ?_
      rintro e w4 hg
      rw [HR.out] at hg
      obtain ⟨v4, rfl, hv4, hp4, ho4⟩ := hg
      obtain ⟨xk, xb, xn, xf, xs, xl⟩ := t
      obtain ⟨xA, xc, rfl, q1, q2, q3, q4, q5, q6, q7, q8⟩ := RdS.open hv4
      have hbx4 : Blk w4 w.heap.size 49 #[.int .i64 0, .bool false, .int .i64 0, .float .f64 0, .string ⟨#[]⟩, .slice none 0 0] := (ho4.block _ (by rw [HO1.out.2.2]; omega) (by have := H.out.box.lt; show ¬ w.heap.size = pb; omega)).trans HO1.out.2.1
      obtain ⟨⟨d0, d1, d2, d3, d4, d5⟩, y0, y1, y2, y3, y4, y5⟩ := box6 hbx4
      have Hx4 := Lib.hid (And.intro hbx4 (And.intro hp4 (And.intro ho4 (And.intro q1 (And.intro q2 (And.intro q3 (And.intro q4 (And.intro q5 (And.intro q6 (And.intro q7 q8))))))))))
      clear hbx4 hp4 ho4 hv4 q1 q2 q3 q4 q5 q6 q7 q8
      go_wp2_with fail
      obtain ⟨hbx4, hp4, ho4, q1, q2, q3, q4, q5, q6, q7, q8⟩ := Hx4.out
      have hfb : Blk (set6 w4 w.heap.size 0 (.int .i64 xk) (.bool xb) (.int .i64 xn) (.float .f64 xf) (.string xs) (.slice xA xl.length xc)) w.heap.size 49 #[.int .i64 xk, .bool xb, .int .i64 xn, .float .f64 xf, .string xs, .slice xA xl.length xc] := set6_blk hbx4 _ _ _ _ _ _
      have hfl : Below w.heap.size w4 (set6 w4 w.heap.size 0 (.int .i64 xk) (.bool xb) (.int .i64 xn) (.float .f64 xf) (.string xs) (.slice xA xl.length xc)) := set6_below (Below.refl _ _) (Nat.le_refl _) _ _ _ _ _ _
      have hfs := set6_size w4 w.heap.size 0 (.int .i64 xk) (.bool xb) (.int .i64 xn) (.float .f64 xf) (.string xs) (.slice xA xl.length xc)
      have hpl := H.out.box.lt
      have hs4 := ho4.size
      have hs1 := HO1.out.2.2
      refine door_ok 1 (set6 w4 w.heap.size 0 (.int .i64 xk) (.bool xb) (.int .i64 xn) (.float .f64 xf) (.string xs) (.slice xA xl.length xc)) (by omega) (hp4.under hfl hpl H.out.lt) (fun w' h1 h2 h3 => ?_)
      have hbx : Blk w' w.heap.size 49 #[.int .i64 xk, .bool xb, .int .i64 xn, .float .f64 xf, .string xs, .slice xA xl.length xc] := (h2.block _ (by rw [hfs]; omega) (by omega)).trans hfb
      obtain ⟨⟨f0, f1, f2, f3, f4, f5⟩, -⟩ := box6 hbx
      refine ⟨.agg #[.int .i64 xk, .bool xb, .int .i64 xn, .float .f64 xf, .string xs, .slice xA xl.length xc], by simp [results, Tryz.results100, go_sem, f0, f1, f2, f3, f4, f5], Got.ok_ HV.out ?_ h1 (((HO1.out.1.trans ho4).far hfl (Nat.le_refl _)).trans h2)⟩
      exact RdS.of xA xc q1 q2 q3 q4 q5 q6 q7 (q8.keepS (fun q hq => World.cell?_of_block ((h2.block _ (by rw [hfs]; exact hq.2) (by omega)).trans (set6_far _ _ _ _ _ _ (by omega)))) (fun b hb => ⟨by omega, by rw [h3, hfs]; exact hb.2⟩))

/-- what a predicate's values stand on: its variables -/
structure PVars (pb pv nb mb nm : Nat) (most : Int) (nx : Wd) (c : Nat) (w : World) : Prop where
  p : Blk w pv 36 #[.pointer (some ⟨pb, 0, none⟩)]
  n : Blk w nb 3 #[.int .i64 (c : Nat)]
  m : Blk w mb 3 #[.int .i64 most]
  x : Blk w nm 56 #[.int .i64 nx.k, .string nx.s, .int .i64 nx.n, .float .f64 nx.f, .int .i64 (nx.at_ : Nat)]

theorem PVars.keep {pb pv nb mb nm c : Nat} {most : Int} {nx : Wd} {w w' : World} (h : PVars pb pv nb mb nm most nx c w) (hk : ∀ b, (b = pv ∨ b = nb ∨ b = mb ∨ b = nm) → w'.heap[b]? = w.heap[b]?) : PVars pb pv nb mb nm most nx c w' :=
  ⟨(hk _ (.inl rfl)).trans h.p, (hk _ (.inr (.inl rfl))).trans h.n, (hk _ (.inr (.inr (.inl rfl)))).trans h.m, (hk _ (.inr (.inr (.inr rfl)))).trans h.x⟩

theorem PVars.only {pb pv nb mb nm c : Nat} {most : Int} {nx : Wd} {w w' : World} (h : PVars pb pv nb mb nm most nx c w) {ok : Nat → Prop} (ho : Only ok w w') (hn : ∀ b, (b = pv ∨ b = nb ∨ b = mb ∨ b = nm) → ¬ ok b) : PVars pb pv nb mb nm most nx c w' :=
  h.keep fun b hb => ho.block b (by rcases hb with rfl | rfl | rfl | rfl; exact h.p.lt; exact h.n.lt; exact h.m.lt; exact h.x.lt) (hn b hb)

theorem PVars.put {pb pv nb mb nm c : Nat} {most : Int} {nx : Wd} {w : World} (h : PVars pb pv nb mb nm most nx c w) (h5 : pv ≠ nb) (h6 : mb ≠ nb) (h7 : nm ≠ nb) : PVars pb pv nb mb nm most nx (c + 1) (w.setCell ⟨nb, 0, none⟩ (.int .i64 ((c : Int) + 1))) :=
  ⟨h.p.far h5 _, h.n.set_ 0 _, h.m.far h6 _, h.x.far h7 _⟩

theorem PB.far {w : World} {pb g cap : Nat} {ws : List Wd} {i d n : Nat} (h : PB w pb g cap ws i d n) {q : Addr} (h1 : pb ≠ q.block) (h2 : g ≠ q.block) (u : Value) : PB (w.setCell q u) pb g cap ws i d n :=
  ⟨h.box.far h1 u, fun j' k hj hk => (World.cell?_of_block (a := ⟨g, j' * 5 + k, none⟩) (Below.heap_setCell w q u g h2)).trans (h.wds j' k hj hk), h.ne, by simpa [World.setCell] using h.lt, h.at_⟩

theorem argV_bad {G : Nat → Wd} {k j c : Nat} {most : Int} {s : Ps} {i : Nat} {e : Int} (h : pInner G k s = .bad i e) : pArgV G k j most c s = .bad i e := by unfold pArgV; rw [h]

theorem argV_much {G : Nat → Wd} {k j c : Nat} {most : Int} {s s' : Ps} {v : T} (h : pInner G k s = .ok v s') (h1 : most < ((c + 1 : Nat) : Int)) (h2 : most ≠ -1) : pArgV G k j most c s = .bad j 120 := by unfold pArgV; rw [h]; exact if_pos ⟨h1, h2⟩

theorem argV_ok {G : Nat → Wd} {k j c : Nat} {most : Int} {s s' : Ps} {v : T} (h : pInner G k s = .ok v s') (h1 : ¬ (most < ((c + 1 : Nat) : Int) ∧ most ≠ -1)) : pArgV G k j most c s = .ok v s' := by unfold pArgV; rw [h]; exact if_neg h1

set_option maxHeartbeats 2000000 in
set_option maxRecDepth 100000 in
theorem one_any {pb g cap : Nat} {ws : List Wd} (hG : Gd ws) (k : Nat) {pv nb mb nm c j : Nat} {most : Int} {nx : Wd} (hc : c < 12) (hj : ws[j]? = some nx) (h1 : pv ≠ pb) (h2 : nb ≠ pb) (h3 : mb ≠ pb) (h4 : nm ≠ pb) (h5 : pv ≠ nb) (h6 : mb ≠ nb) (h7 : nm ≠ nb) (h8 : g ≠ nb) (hmost : most = 1 ∨ most = 2 ∨ most = -1)
    {w : World} {i d n : Nat} {x : Wd} (h : PB w pb g cap ws i d n) (hJ : PVars pb pv nb mb nm most nx c w) (hx : ws[i]? = some x) (hv : valA x = true) (hd : d + k = 12) :
    Calls Tryz.prog 99 #[.pointer (some ⟨pv, 0, none⟩), .pointer (some ⟨nb, 0, none⟩), .pointer (some ⟨mb, 0, none⟩), .pointer (some ⟨nm, 0, none⟩)] w
      (OneP pb g cap ws d (fun b => b = pb ∨ b = nb) (PVars pb pv nb mb nm most nx) RdS c (pArgV (gx ws) k j most c ⟨i, n⟩) w) := by
  have hba := (Below.refl w.heap.size w).alloc (Nat.le_refl _) (.cells #[.int .i64 0, .bool false, .int .i64 0, .float .f64 0, .string ⟨#[]⟩, .slice none 0 0] 49)
  have HI := Lib.hid (inner_any hG k (h.on hba) hx hv hd)
  have hat := congrArg Wd.at_ (getD_of hj)
  have c0 : w.cell? ⟨pv, 0, none⟩ = some (.pointer (some ⟨pb, 0, none⟩)) := hJ.p.cell 0
  have hpl := hJ.p.lt
  have HBA := Lib.hid hba
  have H := Lib.hid h
  have HJ := Lib.hid hJ
  cases hr : pInner (gx ws) k ⟨i, n⟩ with
  | bad j1 c1 =>
    have HV := Lib.hid (argV_bad (j := j) (c := c) (most := most) hr)
    have HR := Lib.hid hr
    clear h hG hx hat hba hv hr hJ hj
    go_enter Tryz.func99, Tryz.ntmps99
    go_wp2_with fail
    refine HI.out.mono ?_
    rintro e w2 hg
    rw [HR.out] at hg
    obtain ⟨rfl, ⟨i', n', hp2⟩, ho2⟩ := hg
    exact ⟨rfl, Got.bad HV.out rfl hp2 (((FR.of HBA.out : FR pb w _).trans ho2).mono fun _ _ hb => .inl hb), fun v s hs => by rw [HV.out] at hs; cases hs⟩
  | ok t s' =>
    have HR := Lib.hid hr
    have hVm := fun h1 h2 => argV_much (j := j) (c := c) (most := most) hr h1 h2
    have hVo := fun h1 => argV_ok (j := j) (c := c) (most := most) hr h1
    clear h hG hx hv hr hJ hj
    by_cases hmuch : most < ((c + 1 : Nat) : Int) ∧ most ≠ -1
    · have HV := Lib.hid (hVm hmuch.1 hmuch.2)
      have e1 : decide (most < (c : Int) + 1) = true := by rw [decide_eq_true_eq]; omega
      have e2 : (most != -1) = true := by rw [bne_iff_ne]; exact hmuch.2
      have HF := Lib.hid (fun W => fail_any nx 120 W)
      clear hVm hVo hmuch
      go_enter Tryz.func99, Tryz.ntmps99
      go_wp2_with fail
      refine HI.out.mono ?_
      rintro e w4 hg
      rw [HR.out] at hg
      obtain ⟨v4, rfl, hv4, hp4, ho4⟩ := hg
      obtain ⟨xk, xb, xn, xf, xs, xl⟩ := t
      obtain ⟨xA, xc, rfl, q1, q2, q3, q4, q5, q6, q7, q8⟩ := RdS.open hv4
      have hpv := HJ.out.p.lt; have hnb := HJ.out.n.lt; have hmb := HJ.out.m.lt; have hnm := HJ.out.x.lt
      have hs4 := ho4.size
      simp only [World.size_alloc] at hs4
      have hJ4 : PVars pb pv nb mb nm most nx c w4 := (HJ.out.only (FR.of HBA.out : FR pb w _) (by rintro b (rfl | rfl | rfl | rfl) <;> assumption)).only ho4 (by rintro b (rfl | rfl | rfl | rfl) <;> assumption)
      have hbx4 : Blk w4 w.heap.size 49 #[.int .i64 0, .bool false, .int .i64 0, .float .f64 0, .string ⟨#[]⟩, .slice none 0 0] := (ho4.block _ (by simp) (by have := H.out.box.lt; show ¬ w.heap.size = pb; omega)).trans (Blk.new w _ _)
      obtain ⟨w5, hw5⟩ : ∃ w5, w4.alloc (.cells #[.int .i64 xk, .bool xb, .int .i64 xn, .float .f64 xf, .string xs, .slice xA xl.length xc] 49) = w5 := ⟨_, rfl⟩
      have hb5 : Below w4.heap.size w4 w5 := by rw [← hw5]; exact (Below.refl _ _).alloc (Nat.le_refl _) _
      have hx5 : Blk w5 w4.heap.size 49 #[.int .i64 xk, .bool xb, .int .i64 xn, .float .f64 xf, .string xs, .slice xA xl.length xc] := by rw [← hw5]; exact Blk.new _ _ _
      have hJ5 : PVars pb pv nb mb nm most nx c w5 := hJ4.only (Only.of_below (ok := fun _ => False) hb5) (fun _ _ h => h)
      have hbx5 := hbx4.below hb5 (by omega)
      have hp5 := hp4.on hb5
      have hs5 := hb5.size
      obtain ⟨⟨d0, d1, d2, d3, d4, d5⟩, y0, y1, y2, y3, y4, y5⟩ := box6 hbx5
      obtain ⟨⟨f0, f1, f2, f3, f4, f5⟩, -⟩ := box6 hx5
      have cn : w5.cell? ⟨nb, 0, none⟩ = some (.int .i64 (c : Nat)) := hJ5.n.cell 0
      have zn : w5.frozen? ⟨nb, 0, none⟩ = false := hJ5.n.frozen 0
      have cm : w5.cell? ⟨mb, 0, none⟩ = some (.int .i64 most) := hJ5.m.cell 0
      have n1 : ¬ nb = w4.heap.size := by omega
      have n2 : ¬ w4.heap.size = nb := by omega
      have n3 : ¬ mb = w4.heap.size := by omega
      have n4 : ¬ w4.heap.size = mb := by omega
      have n5 : ¬ nb = w.heap.size := by omega
      have n6 : ¬ w.heap.size = nb := by omega
      have n7 : ¬ w.heap.size = w4.heap.size := by omega
      have n8 : ¬ w4.heap.size = w.heap.size := by omega
      have x0 : w5.cell? ⟨nm, 0, none⟩ = some (.int .i64 nx.k) := hJ5.x.cell 0
      have x1 : w5.cell? ⟨nm, 1, none⟩ = some (.string nx.s) := hJ5.x.cell 1
      have x2 : w5.cell? ⟨nm, 2, none⟩ = some (.int .i64 nx.n) := hJ5.x.cell 2
      have x3 : w5.cell? ⟨nm, 3, none⟩ = some (.float .f64 nx.f) := hJ5.x.cell 3
      have x4 : w5.cell? ⟨nm, 4, none⟩ = some (.int .i64 (nx.at_ : Nat)) := hJ5.x.cell 4
      have n9 : ¬ nm = nb := h7
      have n10 : ¬ nb = nm := fun e => h7 e.symm
      have hs6 : w4.heap.size ≤ w5.heap.size := hs5
      have Hx := Lib.hid (And.intro hJ5 (And.intro hbx5 (And.intro hp5 (And.intro ho4 (And.intro hb5 (And.intro q1 (And.intro q2 (And.intro q3 (And.intro q4 (And.intro q5 (And.intro q6 (And.intro q7 q8))))))))))))
      clear hJ4 hJ5 hbx4 hbx5 hp4 hp5 ho4 hv4 hb5 hx5 q1 q2 q3 q4 q5 q6 q7 q8
      go_wp2_with fail
      refine (HF.out _).mono ?_
      rintro e w6 ⟨rfl, hb6⟩
      obtain ⟨hJ5, hbx5, hp5, ho4, hb5, -⟩ := Hx.out
      have ho6 : Only (fun b => b = pb ∨ b = nb) w (w5.setCell ⟨nb, 0, none⟩ (.int .i64 ((c : Int) + 1))) := ((((FR.of HBA.out : FR pb w _).trans ho4).mono (fun _ _ hb => .inl hb)).trans (Only.of_below hb5)).setCell (.inl (.inr rfl)) _
      exact ⟨rfl, Got.bad HV.out hat ((hp5.far (by show pb ≠ nb; omega) h8 _).on hb6) (ho6.trans (Only.of_below hb6)), fun v s hs => by rw [HV.out] at hs; cases hs⟩
    · have HV := Lib.hid (hVo hmuch)
      have e0 : (decide (most < (c : Int) + 1) = true ∧ (most != -1) = false) ∨ decide (most < (c : Int) + 1) = false := by
        by_cases hq : most < (c : Int) + 1
        · refine .inl ⟨by rw [decide_eq_true_eq]; exact hq, ?_⟩
          rw [bne_eq_false_iff_eq]
          by_cases hm1 : most = -1
          · exact hm1
          · exact absurd ⟨by omega, hm1⟩ hmuch
        · exact .inr (by rw [decide_eq_false_iff_not]; exact hq)
      clear hVm hVo hmuch
      rcases e0 with ⟨e1, e2⟩ | e1
      all_goals
        go_enter Tryz.func99, Tryz.ntmps99
        go_wp2_with fail
        refine HI.out.mono ?_
        rintro e w4 hg
        rw [HR.out] at hg
        obtain ⟨v4, rfl, hv4, hp4, ho4⟩ := hg
        obtain ⟨xk, xb, xn, xf, xs, xl⟩ := t
        obtain ⟨xA, xc, rfl, q1, q2, q3, q4, q5, q6, q7, q8⟩ := RdS.open hv4
        have hpv := HJ.out.p.lt; have hnb := HJ.out.n.lt; have hmb := HJ.out.m.lt; have hnm := HJ.out.x.lt
        have hs4 := ho4.size
        simp only [World.size_alloc] at hs4
        have hJ4 : PVars pb pv nb mb nm most nx c w4 := (HJ.out.only (FR.of HBA.out : FR pb w _) (by rintro b (rfl | rfl | rfl | rfl) <;> assumption)).only ho4 (by rintro b (rfl | rfl | rfl | rfl) <;> assumption)
        have hbx4 : Blk w4 w.heap.size 49 #[.int .i64 0, .bool false, .int .i64 0, .float .f64 0, .string ⟨#[]⟩, .slice none 0 0] := (ho4.block _ (by simp) (by have := H.out.box.lt; show ¬ w.heap.size = pb; omega)).trans (Blk.new w _ _)
        obtain ⟨w5, hw5⟩ : ∃ w5, w4.alloc (.cells #[.int .i64 xk, .bool xb, .int .i64 xn, .float .f64 xf, .string xs, .slice xA xl.length xc] 49) = w5 := ⟨_, rfl⟩
        have hb5 : Below w4.heap.size w4 w5 := by rw [← hw5]; exact (Below.refl _ _).alloc (Nat.le_refl _) _
        have hx5 : Blk w5 w4.heap.size 49 #[.int .i64 xk, .bool xb, .int .i64 xn, .float .f64 xf, .string xs, .slice xA xl.length xc] := by rw [← hw5]; exact Blk.new _ _ _
        have hJ5 : PVars pb pv nb mb nm most nx c w5 := hJ4.only (Only.of_below (ok := fun _ => False) hb5) (fun _ _ h => h)
        have hbx5 := hbx4.below hb5 (by omega)
        have hp5 := hp4.on hb5
        have hs5 := hb5.size
        obtain ⟨⟨d0, d1, d2, d3, d4, d5⟩, y0, y1, y2, y3, y4, y5⟩ := box6 hbx5
        obtain ⟨⟨f0, f1, f2, f3, f4, f5⟩, -⟩ := box6 hx5
        have cn : w5.cell? ⟨nb, 0, none⟩ = some (.int .i64 (c : Nat)) := hJ5.n.cell 0
        have zn : w5.frozen? ⟨nb, 0, none⟩ = false := hJ5.n.frozen 0
        have cm : w5.cell? ⟨mb, 0, none⟩ = some (.int .i64 most) := hJ5.m.cell 0
        have n1 : ¬ nb = w4.heap.size := by omega
        have n2 : ¬ w4.heap.size = nb := by omega
        have n3 : ¬ mb = w4.heap.size := by omega
        have n4 : ¬ w4.heap.size = mb := by omega
        have n5 : ¬ nb = w.heap.size := by omega
        have n6 : ¬ w.heap.size = nb := by omega
        have n7 : ¬ w.heap.size = w4.heap.size := by omega
        have n8 : ¬ w4.heap.size = w.heap.size := by omega
        have hs6 : w4.heap.size ≤ w5.heap.size := hs5
        have Hx := Lib.hid (And.intro hJ5 (And.intro hbx5 (And.intro hp5 (And.intro ho4 (And.intro hb5 (And.intro q1 (And.intro q2 (And.intro q3 (And.intro q4 (And.intro q5 (And.intro q6 (And.intro q7 q8))))))))))))
        clear hJ4 hJ5 hbx4 hbx5 hp4 hp5 ho4 hv4 hb5 hx5 q1 q2 q3 q4 q5 q6 q7 q8
        go_wp2_with fail
        obtain ⟨hJ5, hbx5, hp5, ho4, hb5, q1, q2, q3, q4, q5, q6, q7, q8⟩ := Hx.out
        have hbx6 : Blk (w5.setCell ⟨nb, 0, none⟩ (.int .i64 ((c : Int) + 1))) w.heap.size 49 #[.int .i64 0, .bool false, .int .i64 0, .float .f64 0, .string ⟨#[]⟩, .slice none 0 0] := hbx5.far (by show w.heap.size ≠ nb; omega) _
        obtain ⟨r0, r1, r2, r3, r4, r5⟩ := set6_load hbx6 (by simp) (.int .i64 xk) (.bool xb) (.int .i64 xn) (.float .f64 xf) (.string xs) (.slice xA xl.length xc)
        have hfl : Below w.heap.size (w5.setCell ⟨nb, 0, none⟩ (.int .i64 ((c : Int) + 1))) (set6 (w5.setCell ⟨nb, 0, none⟩ (.int .i64 ((c : Int) + 1))) w.heap.size 0 (.int .i64 xk) (.bool xb) (.int .i64 xn) (.float .f64 xf) (.string xs) (.slice xA xl.length xc)) := set6_below (Below.refl _ _) (Nat.le_refl _) _ _ _ _ _ _
        have hfs := set6_size (w5.setCell ⟨nb, 0, none⟩ (.int .i64 ((c : Int) + 1))) w.heap.size 0 (.int .i64 xk) (.bool xb) (.int .i64 xn) (.float .f64 xf) (.string xs) (.slice xA xl.length xc)
        have hs5' : (w5.setCell ⟨nb, 0, none⟩ (.int .i64 ((c : Int) + 1))).heap.size = w5.heap.size := by simp [World.setCell]
        have ho6 : Only (fun b => b = pb ∨ b = nb) w (w5.setCell ⟨nb, 0, none⟩ (.int .i64 ((c : Int) + 1))) := ((((FR.of HBA.out : FR pb w _).trans ho4).mono (fun _ _ hb => .inl hb)).trans (Only.of_below hb5)).setCell (.inl (.inr rfl)) _
        refine bodyPost_ret (v := .agg #[.int .i64 xk, .bool xb, .int .i64 xn, .float .f64 xf, .string xs, .slice xA xl.length xc]) (by simp [results, Tryz.results99, go_sem, r0, r1, r2, r3, r4, r5]) rfl
          ⟨Got.ok_ HV.out ?_ ((hp5.far (by show pb ≠ nb; omega) h8 _).under hfl H.out.box.lt H.out.lt) (ho6.far hfl (Nat.le_refl _)), fun v s _ => (hJ5.put h5 h6 h7).keep fun b hb => set6_far _ _ _ _ _ _ (by rcases hb with rfl | rfl | rfl | rfl <;> omega)⟩
        refine RdS.of xA xc q1 q2 q3 q4 q5 q6 q7 (q8.keepS (fun q hq => World.cell?_of_block (((set6_far _ _ _ _ _ _ (by have := hq.1; simp at this; omega)).trans (Below.heap_setCell w5 ⟨nb, 0, none⟩ _ q.block (by have := hq.1; simp at this; show q.block ≠ nb; omega))).trans (hb5.block _ hq.2))) (fun b hb => ⟨by have := hb.1; simp at this; omega, ?_⟩))
        show b < (set6 (w5.setCell ⟨nb, 0, none⟩ (.int .i64 ((c : Int) + 1))) w.heap.size 0 (.int .i64 xk) (.bool xb) (.int .i64 xn) (.float .f64 xf) (.string xs) (.slice xA xl.length xc)).heap.size
        rw [hfs, hs5']
        have := hb.2
        omega

end Go.Proofs.YtnehbpfgdeilhaaGreatDoor
