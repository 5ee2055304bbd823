/- Bld, Eight -/
import Derived.Test.YtgmjhoppjjjilaaDoorQ06
import Derived.Shelf.Strings.Builder1
import Derived.Lib.Builder
import Derived.Test.YtgmjhoppjjjilaaDoorQ04
import Derived.LoopN
import Derived.Laws.BytesArg
import Derived.Laws.Concat

/- a strings.Builder that a call has made itself: its writers, its text -/
namespace Go.Proofs.YtgmjhoppjjjilaaDoor
open Go.ChangeShapes Go.WideShapes Go.ChangeAt Go.RowKit
open Go.Shelf

def sb_lays_ren : Go.Shelf.Ren := ⟨fun | 169 => 37 | n => n, fun | 70 => 76 | 9 => 9 | 0 => 0 | 72 => 78 | 37 => 47 | 127 => 93 | 3 => 3 | 5 => 5 | n => n, fun | n => n⟩

theorem sb_lays : Go.Proofs.Lays.n169 Tryd.prog sb_lays_ren := {
  mixed := by kernel_rfl
  f169 := Tryd.func37.trans (congrArg some (by kernel_rfl))
  t0 := Tryd.underlying0
  a0 := Tryd.isAgg0
  z0 := Tryd.sizeOf0
  v0 := Tryd.zeroValue0
  t3 := Tryd.underlying3
  a3 := Tryd.isAgg3
  z3 := Tryd.sizeOf3
  v3 := Tryd.zeroValue3
  t9 := Tryd.underlying9
  a9 := Tryd.isAgg9
  z9 := Tryd.sizeOf9
  v9 := Tryd.zeroValue9
  t37 := Tryd.underlying47
  a37 := Tryd.isAgg47
  z37 := Tryd.sizeOf47
  v37 := Tryd.zeroValue47
  t70 := Tryd.underlying76
  a70 := Tryd.isAgg76
  z70 := Tryd.sizeOf76
  v70 := Tryd.zeroValue76
  t72 := Tryd.underlying78
  a72 := Tryd.isAgg78
  z72 := Tryd.sizeOf78
  v72 := Tryd.zeroValue78
  t127 := Tryd.underlying93
  a127 := Tryd.isAgg93
  z127 := Tryd.sizeOf93
  v127 := Tryd.zeroValue93 }

theorem sb_extra : Builder.Extra Tryd.prog sb_lays_ren := {
  sizeBuilder := by kernel_rfl
  liesBuilder := by kernel_rfl
  t5 := Tryd.underlying5
  a5 := Tryd.isAgg5
  z5 := Tryd.sizeOf5
  v5 := Tryd.zeroValue5
  infoByte := by kernel_rfl
  cellsByte := by kernel_rfl
  sizeByte := by kernel_rfl
  neB5 := by decide }

theorem sb_String (B b : Nat) (l : List UInt8) (w : World) (h : Lib.IsBuilder 78 5 B b (Lib.byteCells l) w) (h0 : l ≠ []) :
    Calls Tryd.prog 37 #[.pointer (some ⟨b, 0, none⟩)] w fun e w' => e = .returned (.string ⟨l.toArray⟩) ∧ Below B w w' := Any.Builder_String sb_lays sb_extra B b l w h h0

theorem sb_String_empty (B b : Nat) (w : World) (h : Lib.IsBuilder 78 5 B b [] w) (hBw : B ≤ w.heap.size) :
    Calls Tryd.prog 37 #[.pointer (some ⟨b, 0, none⟩)] w fun e w' => e = .returned (.string ⟨#[]⟩) ∧ Below B w w' := Any.Builder_String_empty sb_lays sb_extra B b w h hBw

theorem sb_String_any (B b : Nat) (l : List UInt8) (w : World) (h : Lib.IsBuilder 78 5 B b (Lib.byteCells l) w) (hBw : B ≤ w.heap.size) :
    Calls Tryd.prog 37 #[.pointer (some ⟨b, 0, none⟩)] w fun e w' => e = .returned (.string ⟨l.toArray⟩) ∧ Below B w w' := Any.Builder_String_any sb_lays sb_extra B b l w h hBw

/-- what a builder's writers leave: every block that holds no bytes, but the builder's own -/
def Fr (b : Nat) (w w' : World) : Prop := ∀ g t cs, t ≠ 5 → g ≠ b → Blk w g t cs → Blk w' g t cs

theorem Fr.refl (b : Nat) (w : World) : Fr b w w := fun _ _ _ _ _ h => h

theorem Fr.trans {b : Nat} {w w' w'' : World} (h : Fr b w w') (k : Fr b w' w'') : Fr b w w'' := fun g t cs ht hg hb => k g t cs ht hg (h g t cs ht hg hb)

theorem Fr.alloc (b : Nat) (w : World) (o : Obj) : Fr b w (w.alloc o) := fun _ _ _ _ _ hb => (Below.heap_alloc w o _ hb.lt).trans hb

theorem Fr.set_ (b : Nat) (w : World) (i : Nat) (u : Value) : Fr b w (w.setCell ⟨b, i, none⟩ u) := fun _ _ _ _ hg hb => hb.far (p := ⟨b, i, none⟩) hg u

theorem Fr.of_below {b : Nat} {w w' : World} (h : Below w.heap.size w w') : Fr b w w' := fun _ _ _ _ _ hb => hb.below h hb.lt

theorem Fr.grown {b n : Nat} {w w' : World} {B : Nat} {v : Value} {xs : List Value} (hown : w.ownsRow B 5 1 v n xs) (hg : w.grownBy w' v.ownBlock) : Fr b w w' := fun g t cs ht _ hb => by
  refine (hg.block g hb.lt ?_).trans hb
  intro e
  rcases hown.2 with ⟨rfl, _⟩ | ⟨g', cap, cur, rfl, _, hh, _⟩
  · simp [Value.ownBlock] at e
  · have e2 : g' = g := by simpa [Value.ownBlock] using e.symm
    subst e2
    unfold Blk at hb
    rw [hh] at hb
    injection hb with hb
    injection hb with _ ht'
    exact ht ht'.symm

theorem sb_size : (Tryd.prog.info? 78).map (·.size) = some 2 := by kernel_rfl

theorem sb_lies : liesAt Tryd.prog Tryd.prog.depth 78 (2 / Tryd.prog.cellsOf 78) 0 78 1 = true := by kernel_rfl

theorem byte_info : (Tryd.prog.info? 5).map (fun i => (i.zero, i.size, i.bytes)) = some (some (.int .u8 0), 1, 1) := by kernel_rfl

set_option maxRecDepth 100000 in
theorem check_used (b : Nat) (w : World) (h0 : w.cell? ⟨b, 0, none⟩ = some (.pointer (some ⟨b, 0, none⟩))) :
    Calls Tryd.prog 50 #[.pointer (some ⟨b, 0, none⟩)] w fun e w' => e = .returned (.tuple #[]) ∧ w = w' := by
  obtain ⟨j, hj, _⟩ := Option.map_eq_some_iff.1 sb_size
  go_enter Tryd.func50, Tryd.ntmps50
  go_wp2
  rw [Lib.run_neq_ptr_same w _ Tryd.underlying76 hj]
  go_wp2
  go_end0
  exact ⟨rfl, rfl⟩

set_option maxRecDepth 100000 in
theorem check_fresh (b : Nat) (w : World) (h0 : w.cell? ⟨b, 0, none⟩ = some (.pointer none)) (hsh : w.shape? b = some (78, 2)) (hfz : w.frozen? ⟨b, 0, none⟩ = false) :
    Calls Tryd.prog 50 #[.pointer (some ⟨b, 0, none⟩)] w fun e w' => e = .returned (.tuple #[]) ∧ w' = w.setCell ⟨b, 0, none⟩ (.pointer (some ⟨b, 0, none⟩)) := by
  obtain ⟨j, hj, hjs⟩ := Option.map_eq_some_iff.1 sb_size
  go_enter Tryd.func50, Tryd.ntmps50
  go_wp2
  rw [Lib.run_to_unsafe w ⟨b, 0, none⟩ Tryd.underlying76 Tryd.underlying122 hj (by rw [hjs]; decide) hsh (Nat.zero_lt_succ 1)]
  simp only [Result.andThen]
  rw [Oper.upon_value]
  go_wp2
  rw [run_callFunc_extern (fn := Tryd.f75) (by kernel_rfl) (by kernel_rfl) (by kernel_rfl) (by kernel_rfl) (e := Extern.AbiNoEscape.same) (by kernel_rfl)]
  rw [Lib.run_noEscape]
  simp only [Result.andThen]
  rw [Oper.upon_value]
  go_wp2
  rw [Lib.run_from_unsafe w ⟨b, 0, none⟩ Tryd.underlying122 Tryd.underlying76 hj hsh sb_lies]
  simp only [Result.andThen]
  rw [Oper.upon_value]
  go_wp2
  go_end0
  exact ⟨rfl, rfl⟩

theorem copyCheck_any (B b : Nat) (bs : List Value) (w : World) (h : Lib.IsBuilder 78 5 B b bs w) :
    Calls Tryd.prog 50 #[.pointer (some ⟨b, 0, none⟩)] w fun e w' => e = .returned (.tuple #[]) ∧ (Lib.BuilderAt 78 5 B b (.pointer (some ⟨b, 0, none⟩)) bs w' ∧ Below B w w' ∧ Fr b w w') := by
  rcases h with h | h
  · refine (check_fresh b w h.cell0 h.shape h.frozen0).mono ?_
    rintro e w' ⟨rfl, rfl⟩
    exact ⟨rfl, h.used _, (Below.refl B w).setCell (p := ⟨b, 0, none⟩) h.1 _, Fr.set_ b w 0 _⟩
  · refine (check_used b w h.cell0).mono ?_
    rintro e w' ⟨rfl, rfl⟩
    exact ⟨rfl, h, Below.refl B _, Fr.refl _ _⟩

set_option maxRecDepth 100000 in
theorem wbyte_any (B b : Nat) (bs : List Value) (c : Int) (w : World) (h : Lib.IsBuilder 78 5 B b bs w) (hlen : bs.length + 1 ≤ 140737488355328) (hBw : B ≤ w.heap.size) :
    Calls Tryd.prog 56 #[.pointer (some ⟨b, 0, none⟩), .int .u8 c] w fun e w' => e = .returned .nilIface ∧ (Lib.IsBuilder 78 5 B b (bs ++ [.int .u8 c]) w' ∧ Below B w w' ∧ Fr b w w') := by
  obtain ⟨i0, hi, hz0, hz1, hz2⟩ := info_parts byte_info
  have Hi := Lib.hid hi; have H0 := Lib.hid hz0; have H1 := Lib.hid hz1; have H2 := Lib.hid hz2
  clear hi hz0 hz1 hz2
  go_enter Tryd.func56, Tryd.ntmps56
  go_wp2_with (go_at_call 50; refine (copyCheck_any B b bs _ h).mono ?_)
  rintro e w1 ⟨rfl, h1, hb1, hF1⟩
  have HF1 := Lib.hid hF1; clear hF1
  obtain ⟨hB, v, hbk, hown, hne⟩ := h1
  have c0 : w1.cell? ⟨b, 0, none⟩ = some (.pointer (some ⟨b, 0, none⟩)) := by rw [Lib.cell_of_heap hbk]; rfl
  have c1 : w1.cell? ⟨b, 1, none⟩ = some v := by rw [Lib.cell_of_heap hbk]; rfl
  have Hbk := Lib.hid hbk; clear hbk
  go_wp2_with (at_builtin; refine wpList_append_own _ rfl _ _ 47 rfl B 5 i0 (.int .u8 0) 1 1 Tryd.underlying47 Hi.out H0.out H1.out H2.out rfl (by decide) _ _ _ rfl (hown.alloc _) ⟨w1.heap.size, 0, none⟩ 1 1 [.int .u8 c] rfl rfl ?c1 ?c2 ?c3 ?c4 ?c5 ?_)
  case c1 =>
    intro j u hj
    match j, hj with
    | 0, hj => simp at hj; subst hj; simp [Addr.add]
  case c2 => intro u hu; simp at hu; subst hu; rfl
  case c3 => unfold maxLen; omega
  case c4 => omega
  case c5 => have := hb1.size; simp; omega
  intro v' w2 hown' hgrow _
  have hbk := Hbk.out
  have hlt : b < w1.heap.size := by
    rcases Nat.lt_or_ge b w1.heap.size with h' | h'
    · exact h'
    · simp [Array.getElem?_eq_none h'] at hbk
  have hb2 : w2.heap[b]? = some (.cells #[.pointer (some ⟨b, 0, none⟩), v] 78 (0, 0)) := by
    rw [hgrow.block b (by simp; omega) (fun e => hne e.symm), Lib.alloc_old w1 _ b hlt]
    exact hbk
  have d0 : w2.cell? ⟨b, 0, none⟩ = some (.pointer (some ⟨b, 0, none⟩)) := by rw [Lib.cell_of_heap hb2]; rfl
  have d1 : w2.cell? ⟨b, 1, none⟩ = some v := by rw [Lib.cell_of_heap hb2]; rfl
  have f1 : w2.frozen? ⟨b, 1, none⟩ = false := Lib.frozen_of_heap hb2 1
  obtain ⟨g, cap, rfl⟩ : ∃ g cap, v' = .slice (some ⟨g, 0, none⟩) (bs.length + 1) cap := by
    rcases hown'.2 with ⟨_, h0⟩ | ⟨g, cap, cur, hv, _⟩
    · omega
    · exact ⟨g, cap, hv⟩
  have Hb2 := Lib.hid hb2; clear hb2 hbk
  go_wp2
  go_ret
  refine ⟨rfl, .inr ?_, ?_, ?_⟩
  · exact Lib.BuilderAt.put (T := 78) (e := 5) hB Hb2.out (bs' := bs ++ [.int .u8 c]) (by simpa using hown') (by decide)
  · exact ((hb1.alloc (by have := hb1.size; omega) _).grown hgrow (by have := hb1.size; simp; omega) (fun k hk => (hown.lt k hk).1)).setCell (p := ⟨b, 1, none⟩) hB _
  · exact ((HF1.out.trans (Fr.alloc b w1 _)).trans (Fr.grown (hown.alloc _) hgrow)).trans (Fr.set_ b _ 1 _)

set_option maxRecDepth 100000 in
theorem wstring_any (B b : Nat) (bs : List Value) (s : ByteArray) (w : World) (h : Lib.IsBuilder 78 5 B b bs w) (hlen : bs.length + s.size ≤ 140737488355328) (hBw : B ≤ w.heap.size) :
    Calls Tryd.prog 38 #[.pointer (some ⟨b, 0, none⟩), .string s] w fun e w' => e = .returned (.tuple #[.int .i64 s.size, .nilIface]) ∧ (Lib.IsBuilder 78 5 B b (bs ++ Lib.strCells s) w' ∧ Below B w w' ∧ Fr b w w') := by
  obtain ⟨i0, hi, hz0, hz1, hz2⟩ := info_parts byte_info
  have Hi := Lib.hid hi; have H0 := Lib.hid hz0; have H1 := Lib.hid hz1; have H2 := Lib.hid hz2
  clear hi hz0 hz1 hz2
  go_enter Tryd.func38, Tryd.ntmps38
  go_wp2_with (go_at_call 50; refine (copyCheck_any B b bs _ h).mono ?_)
  rintro e w1 ⟨rfl, h1, hb1, hF1⟩
  have HF1 := Lib.hid hF1; clear hF1
  obtain ⟨hB, v, hbk, hown, hne⟩ := h1
  have c0 : w1.cell? ⟨b, 0, none⟩ = some (.pointer (some ⟨b, 0, none⟩)) := by rw [Lib.cell_of_heap hbk]; rfl
  have c1 : w1.cell? ⟨b, 1, none⟩ = some v := by rw [Lib.cell_of_heap hbk]; rfl
  have Hbk := Lib.hid hbk; clear hbk
  go_wp2_with (at_builtin; refine Lib.wpList_append_own_string _ rfl _ _ 47 9 rfl B 5 i0 Tryd.underlying47 Tryd.underlying9 Hi.out H0.out H1.out H2.out _ _ _ rfl hown s rfl ?c3 ?c4 ?c5 ?_)
  case c3 => unfold maxLen; omega
  case c4 => omega
  case c5 => have := hb1.size; omega
  intro v' w2 hown' hgrow _
  have hbk := Hbk.out
  have hlt : b < w1.heap.size := by
    rcases Nat.lt_or_ge b w1.heap.size with h' | h'
    · exact h'
    · simp [Array.getElem?_eq_none h'] at hbk
  have hb2 : w2.heap[b]? = some (.cells #[.pointer (some ⟨b, 0, none⟩), v] 78 (0, 0)) := by
    rw [hgrow.block b hlt (fun e => hne e.symm)]
    exact hbk
  have d0 : w2.cell? ⟨b, 0, none⟩ = some (.pointer (some ⟨b, 0, none⟩)) := by rw [Lib.cell_of_heap hb2]; rfl
  have d1 : w2.cell? ⟨b, 1, none⟩ = some v := by rw [Lib.cell_of_heap hb2]; rfl
  have f1 : w2.frozen? ⟨b, 1, none⟩ = false := Lib.frozen_of_heap hb2 1
  obtain ⟨ao, n', cap, rfl⟩ : ∃ ao n' cap, v' = .slice ao n' cap := by
    rcases hown'.2 with ⟨hv, _⟩ | ⟨g, cap, cur, hv, _⟩
    · exact ⟨_, _, _, hv⟩
    · exact ⟨_, _, _, hv⟩
  have Hb2 := Lib.hid hb2; clear hb2 hbk
  go_wp2
  go_ret2
  refine ⟨rfl, .inr ?_, ?_, ?_⟩
  · exact Lib.BuilderAt.put (T := 78) (e := 5) hB Hb2.out (bs' := bs ++ Lib.strCells s) (by simpa [Lib.strCells_length] using hown') (by decide)
  · exact (hb1.grown hgrow (by have := hb1.size; omega) (fun k hk => (hown.lt k hk).1)).setCell (p := ⟨b, 1, none⟩) hB _
  · exact (HF1.out.trans (Fr.grown hown hgrow)).trans (Fr.set_ b _ 1 _)

/-- the builder at b, made from block B on, holds just these bytes -/
def Holds (B b : Nat) (l : List UInt8) (w : World) : Prop := Lib.IsBuilder 78 5 B b (Lib.byteCells l) w

theorem wb_any {B b : Nat} {l : List UInt8} {w : World} (c : Int) (x : UInt8) (h : Holds B b l w) (hc : c = x.toNat) (hlen : l.length + 1 ≤ 140737488355328) (hBw : B ≤ w.heap.size) :
    Calls Tryd.prog 56 #[.pointer (some ⟨b, 0, none⟩), .int .u8 c] w fun e w' => e = .returned .nilIface ∧ (Holds B b (l ++ [x]) w' ∧ Below B w w' ∧ Fr b w w') := by
  subst hc
  refine (wbyte_any B b _ _ w h (by simpa [Lib.byteCells] using hlen) hBw).mono ?_
  rintro e w' ⟨he, h1, h2⟩
  refine ⟨he, ?_, h2⟩
  unfold Holds
  simpa [Lib.byteCells] using h1

theorem ws_any {B b : Nat} {l : List UInt8} {w : World} (s : ByteArray) (h : Holds B b l w) (hlen : l.length + s.size ≤ 140737488355328) (hBw : B ≤ w.heap.size) :
    Calls Tryd.prog 38 #[.pointer (some ⟨b, 0, none⟩), .string s] w fun e w' => e = .returned (.tuple #[.int .i64 s.size, .nilIface]) ∧ (Holds B b (l ++ s.data.toList) w' ∧ Below B w w' ∧ Fr b w w') := by
  refine (wstring_any B b _ s w h (by simpa [Lib.byteCells] using hlen) hBw).mono ?_
  rintro e w' ⟨he, h1, h2⟩
  refine ⟨he, ?_, h2⟩
  unfold Holds
  simpa [Lib.byteCells, Lib.strCells] using h1

theorem bstring_any {B b : Nat} {l : List UInt8} {w : World} (h : Holds B b l w) (hBw : B ≤ w.heap.size) :
    Calls Tryd.prog 37 #[.pointer (some ⟨b, 0, none⟩)] w fun e w' => e = .returned (.string ⟨l.toArray⟩) ∧ Below B w w' := sb_String_any B b l w h hBw

end Go.Proofs.YtgmjhoppjjjilaaDoor

/- numbers as bytes: Eight, Two, Wide, and their reference -/
namespace Go.Proofs.YtgmjhoppjjjilaaDoor
open Go.ChangeShapes Go.WideShapes Go.ChangeAt Go.RowKit

/-- a number's eight bytes -/
def eightS (n : Nat) : ByteArray := strOfNums [(n : Int) / 72057594037927936 % 256, (n : Int) / 281474976710656 % 256, (n : Int) / 1099511627776 % 256, (n : Int) / 4294967296 % 256, (n : Int) / 16777216 % 256, (n : Int) / 65536 % 256, (n : Int) / 256 % 256, (n : Int) % 256]

theorem conv_cells {P : Program} (src e dst : TypeId) (hs : P.underlying src = some (.slice e)) (he : P.underlying e = some (.int .u8)) (hd : P.underlying dst = some .string) (W : World) (t : TypeId) (xs : List Int) (cap : Nat) :
    (convert src dst (.slice (some ⟨W.heap.size, 0, none⟩) xs.length cap)).run P (W.alloc (.cells (xs.map (Value.int .u8)).toArray t)) = .ok (.string (strOfNums xs)) (W.alloc (.cells (xs.map (Value.int .u8)).toArray t)) := by
  refine run_convert_bytes_arg _ src e hs he W.heap.size 0 xs.length cap xs rfl (fun i hi => ?_) dst hd
  rw [Nat.zero_add, cell_of_row _ _ _ _ _ _ (heap_alloc_new W _)]
  simp [List.getElem?_eq_getElem hi]

set_option maxRecDepth 100000 in
theorem rtwo_any (n : Int) (w : World) (h0 : 0 ≤ n) (h1 : n ≤ 9223372036854775807) :
    Calls Tryd.prog 18 #[.int .i64 n] w fun e w' => e = .returned (.string (strOfNums [n / 256 % 256, n % 256])) ∧ Below w.heap.size w w' := by
  have hq : wrap64 (n.tdiv 256) = n / 256 := by rw [Int.tdiv_eq_ediv_of_nonneg h0]; exact wrap64_id (is64_iff.2 (by omega))
  have hr : (n / 256).tmod 256 = n / 256 % 256 := Int.tmod_eq_emod_of_nonneg (by omega)
  have hr2 : n.tmod 256 = n % 256 := Int.tmod_eq_emod_of_nonneg h0
  have hw3 : wrap64 (n / 256) = n / 256 := wrap64_id (is64_iff.2 (by omega))
  have hw4 : n / 256 % 256 % 256 = n / 256 % 256 := by omega
  have hw5 : n % 256 % 256 = n % 256 := by omega
  clear h0 h1
  have hc := conv_cells (P := Tryd.prog) 47 5 9 Tryd.underlying47 Tryd.underlying5 Tryd.underlying9 w 5 [n / 256 % 256, n % 256] 2
  simp only [List.length_cons, List.length_nil, List.map_cons, List.map_nil, Nat.zero_add, Nat.reduceAdd] at hc
  go_enter Tryd.func18, Tryd.ntmps18
  go_wp2_with fail
  go_ret
  exact ⟨rfl, (Below.refl _ _).alloc (Nat.le_refl _) _⟩

theorem nums_size (l : List Int) : (strOfNums l).size = l.length := by simp [strOfNums, ByteArray.size]

/-- its last i bytes -/
def tailS (n : Nat) : Nat → ByteArray
  | 0 => ⟨#[]⟩
  | i + 1 => strOfNums [((n / 256 ^ i : Nat) : Int) % 256] ++ tailS n i

theorem tail_size (n : Nat) : ∀ i, (tailS n i).size = i
  | 0 => rfl
  | i + 1 => by rw [tailS, ByteArray.size_append, nums_size, tail_size n i]; simp; omega

theorem tail_all (n : Nat) : tailS n 8 = eightS n := by
  simp only [tailS, eightS, strOfNums]
  have e : ∀ k : Nat, ((n / 256 ^ k : Nat) : Int) = (n : Int) / ((256 ^ k : Nat) : Int) := fun k => by simp
  simp only [e]
  apply ByteArray.ext
  simp

set_option maxRecDepth 100000 in
theorem reight_any (n : Nat) (w : World) (hn : n < 18446744073709551616) :
    Calls Tryd.prog 16 #[.int .u64 n] w fun e w' => e = .returned (.string (eightS n)) ∧ Below w.heap.size w w' := by
  have Hn := Lib.hid hn; clear hn
  have HT := Lib.hid (tail_all n)
  go_enter Tryd.func16, Tryd.ntmps16
  go_wp2_with fail
  go_loopw [0, 3, 4] (fun sn ss si wr => ∃ (i m : Nat) (s : ByteArray), i ≤ 8 ∧ sn = .int .u64 m ∧ ss = .string s ∧ si = .int .i64 i ∧ Hid (m = n / 256 ^ i) ∧ Hid (s = tailS n i) ∧ Below w.heap.size w wr) (fun _ _ si _ => 8 - (intOf si).toNat)
  case atStart => exact ⟨0, n, ⟨#[]⟩, by omega, rfl, rfl, rfl, (by show n = n / 256 ^ 0; simp), rfl, Below.refl _ _⟩
  case round =>
    obtain ⟨i, m, s, hi, rfl, rfl, rfl, HM, HS, hb⟩ := hrel
    have hz := hb.size
    by_cases hlt : i < 8
    · have hc := conv_cells (P := Tryd.prog) 47 5 9 Tryd.underlying47 Tryd.underlying5 Tryd.underlying9 wr 5 [(m : Int) % 256] 1
      simp only [List.length_cons, List.length_nil, List.map_cons, List.map_nil, Nat.zero_add] at hc
      have hadd : ∀ W, (Op.stringOp .add (strOfNums [(m : Int) % 256]) s).run Tryd.prog W = .ok (.string (strOfNums [(m : Int) % 256] ++ s)) W := fun W =>
        run_string_add_sum W _ _ (by rw [nums_size, HS.out, tail_size]; simp; omega)
      have HS' : Hid (strOfNums [(m : Int) % 256] ++ s = tailS n (i + 1)) := by
        show _ = strOfNums [((n / 256 ^ i : Nat) : Int) % 256] ++ tailS n i
        rw [HM.out, HS.out]
      have hq : (m : Int) / 256 = ((m / 256 : Nat) : Int) := by simp
      have hwr : IntKind.u64.wrap ((m / 256 : Nat) : Int) = ((m / 256 : Nat) : Int) := by rw [IntWalk.u64_in _ (by have h1 := HM.out; have h2 := Hn.out; have h3 := Nat.div_le_self n (256 ^ i); omega)]
      have HM' : Hid (m / 256 = n / 256 ^ (i + 1)) := by show m / 256 = n / 256 ^ (i + 1); rw [HM.out, Nat.div_div_eq_div_mul, Nat.pow_succ]
      generalize strOfNums [(m : Int) % 256] = u at *
      generalize u ++ s = s' at *
      generalize m / 256 = m' at *
      go_wp2_with fail
      go_roundw
      case rel => exact ⟨i + 1, m', s', by omega, rfl, rfl, by go_num, HM', HS', hb.alloc hz _⟩
      case measure => simp [intOf]; omega
    · have HS8 : Hid (s = eightS n) := by
        have : i = 8 := by omega
        subst this
        exact HS.out.trans HT.out
      go_wp2_with fail
      go_ret
      exact ⟨by rw [HS8.out]; rfl, hb⟩

/-- the number of some bytes, the highest first -/
def wd (l : List UInt8) : Nat := l.foldl (fun a b => a * 256 + b.toNat) 0

theorem wd_snoc (l : List UInt8) (b : UInt8) : wd (l ++ [b]) = wd l * 256 + b.toNat := by unfold wd; rw [List.foldl_append]; rfl

theorem wd_fold (l : List UInt8) : ∀ a, l.foldl (fun a b => a * 256 + b.toNat) a < (a + 1) * 256 ^ l.length := by
  induction l with
  | nil => intro a; simp
  | cons b l ih =>
    intro a
    rw [List.foldl_cons, List.length_cons, Nat.pow_succ]
    refine Nat.lt_of_lt_of_le (ih _) ?_
    rw [Nat.mul_comm (256 ^ l.length) 256, ← Nat.mul_assoc]
    refine Nat.mul_le_mul_right _ ?_
    have := b.toNat_lt
    omega

theorem wd_lt (l : List UInt8) : wd l < 256 ^ l.length := by have := wd_fold l 0; simpa [wd] using this

theorem wd_le8 (l : List UInt8) {k : Nat} (h : l.length ≤ k) (hk : k ≤ 8) : wd l < 18446744073709551616 := by
  refine Nat.lt_of_lt_of_le (wd_lt l) ?_
  refine Nat.le_trans (Nat.pow_le_pow_right (by decide) (Nat.le_trans h hk)) (by decide)

theorem take_snoc (s : ByteArray) (k : Nat) (h : k < s.size) : s.data.toList.take (k + 1) = s.data.toList.take k ++ [s[k]] := by
  rw [List.take_succ_eq_append_getElem (by simpa using h)]; rfl

/-- what Wide answers -/
def wideS (s : ByteArray) : Nat := wd (s.data.toList.take 8)

set_option maxRecDepth 100000 in
theorem or_step {a b : Nat} (h : a * 256 + b < 18446744073709551616) (hb : b < 256) :
    bits .or .u64 (IntKind.u64.wrap ((a : Int) * 256)) (IntKind.u64.wrap (b : Int)) = ((a * 256 + b : Nat) : Int) := by
  rw [IntWalk.u64_in _ (by omega), IntWalk.u64_in _ (by omega)]
  have e : (a : Int) * 256 = ((a * 256 : Nat) : Int) := by simp
  rw [e, u64_or_nat _ _ (by omega) (by omega)]
  have := nat_join 8 (a * 256) b (by omega) (by simpa using hb)
  rw [this]

set_option maxRecDepth 100000 in
theorem wide_facts (s : ByteArray) {i : Nat} (h1 : i < 8) (h2 : i < s.size) : wd (s.data.toList.take i) * 256 + s[i].toNat < 18446744073709551616 ∧ wd (s.data.toList.take (i + 1)) = wd (s.data.toList.take i) * 256 + s[i].toNat := by
  have e : wd (s.data.toList.take (i + 1)) = wd (s.data.toList.take i) * 256 + s[i].toNat := by rw [take_snoc s i h2, wd_snoc]
  refine ⟨?_, e⟩
  rw [← e]
  exact wd_le8 _ (k := i + 1) (List.length_take_le _ _) (by omega)

theorem wide_end (s : ByteArray) {i : Nat} (h1 : i ≤ 8) (h2 : i ≤ s.size) (h : ¬ (i < 8 ∧ i < s.size)) : wd (s.data.toList.take i) = wideS s := by
  unfold wideS
  by_cases h8 : i = 8
  · rw [h8]
  · have : i = s.size := by omega
    rw [List.take_of_length_le (by simp; omega), List.take_of_length_le (by simp; omega)]

end Go.Proofs.YtgmjhoppjjjilaaDoor
