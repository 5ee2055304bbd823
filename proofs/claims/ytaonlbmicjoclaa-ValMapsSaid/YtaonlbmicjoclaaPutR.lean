/- val.Put; the reference's Put -/
import Derived.Test.YtaonlbmicjoclaaPut
import Derived.Test.YtaonlbmicjoclaaRefB
import Derived.StillTailTactics
import Derived.Deep.RegionWith
namespace Go.Proofs.Ytaonlbmicjoclaa
open Go.ChangeShapes Go.WideShapes Go.ChangeAt Go.RowKit Go.Fl

/-- what Put answers -/
def putV (t : T) : Value := if chkF t = 0 then .tuple #[.string ⟨(bys t).toArray⟩, .int .i64 0] else .tuple #[.string ⟨#[]⟩, .int .i64 (chkF t)]

theorem chk_tot {t : T} (h : chkF t = 0) : tot t ≤ 60000 := by
  unfold chkF at h
  by_cases h6 : 60000 < tot t
  · rw [if_pos h6] at h; exact absurd h (by decide)
  · omega

theorem vput_any {t : T} {v : Value} {w : World} (h : Rd w w.heap.size t v) :
    Calls Try.prog 10 #[v] w fun e w' => e = .returned (putV t) ∧ Below w.heap.size w w' := by
  have HC := Lib.hid (fun W (hW : Rd W W.heap.size t v) => vcheck_any hW)
  have HP := Lib.hid (put_at t)
  have H := Lib.hid h
  have hlt := chk_tot (t := t)
  have hbt := bys_tot t
  obtain ⟨k, b, z, f, s, l⟩ := t
  obtain ⟨A, cap, rfl, -⟩ := h.open
  have hbox := (Below.refl w.heap.size w).alloc (Nat.le_refl _) (.cells #[.int .i64 k, .bool b, .int .i64 z, .float .f64 f, .string s, .slice A l.length cap] 26)
  clear h
  generalize T.mk k b z f s l = t at *
  unfold putV
  by_cases hc : chkF t = 0
  · rw [if_pos hc]
    have hlen := hlt hc
    have Hc := Lib.hid hc
    clear hc hlt
    go_enter Try.func10, Try.ntmps10
    go_wp2_with fail
    refine (HC.out _ (H.out.on hbox)).mono ?_
    rw [Hc.out]
    rintro e w1 ⟨rfl, hb1⟩
    have hb2 := hbox.trans (hb1.mono hbox.size)
    have hs1 := hb1.size
    simp only [World.size_alloc] at hs1
    have hb1' : Below (w.heap.size + 1) (w.alloc (.cells #[.int .i64 k, .bool b, .int .i64 z, .float .f64 f, .string s, .slice A l.length cap] 26)) w1 := by simpa using hb1
    have X1 : Blk w1 w.heap.size 26 #[.int .i64 k, .bool b, .int .i64 z, .float .f64 f, .string s, .slice A l.length cap] := Blk.below (Blk.new w _ _) hb1' (by simp)
    have X2 : Blk (w1.alloc (.cells #[.pointer none, .slice none 0 0] 57)) w.heap.size 26 #[.int .i64 k, .bool b, .int .i64 z, .float .f64 f, .string s, .slice A l.length cap] := Fr.alloc (w.heap.size + 1) w1 _ _ _ _ (by decide) (by omega) X1
    have hc0 : (w1.alloc (.cells #[.pointer none, .slice none 0 0] 57)).cell? ⟨w.heap.size, 0, none⟩ = some (.int .i64 k) := (X2.cell 0).trans rfl
    have hc1 : (w1.alloc (.cells #[.pointer none, .slice none 0 0] 57)).cell? ⟨w.heap.size, 1, none⟩ = some (.bool b) := (X2.cell 1).trans rfl
    have hc2 : (w1.alloc (.cells #[.pointer none, .slice none 0 0] 57)).cell? ⟨w.heap.size, 2, none⟩ = some (.int .i64 z) := (X2.cell 2).trans rfl
    have hc3 : (w1.alloc (.cells #[.pointer none, .slice none 0 0] 57)).cell? ⟨w.heap.size, 3, none⟩ = some (.float .f64 f) := (X2.cell 3).trans rfl
    have hc4 : (w1.alloc (.cells #[.pointer none, .slice none 0 0] 57)).cell? ⟨w.heap.size, 4, none⟩ = some (.string s) := (X2.cell 4).trans rfl
    have hc5 : (w1.alloc (.cells #[.pointer none, .slice none 0 0] 57)).cell? ⟨w.heap.size, 5, none⟩ = some (.slice A l.length cap) := (X2.cell 5).trans rfl
    clear hb1 hb1' X1 X2
    have hba := (Below.refl w1.heap.size w1).alloc (Nat.le_refl _) (.cells #[.pointer none, .slice none 0 0] 57)
    have HI := Lib.hid (Lib.fresh_isBuilder 57 5 w1)
    go_wp2_with fail
    refine (HP.out _ w1.heap.size w1.heap.size [] _ ((H.out.on hb2).under hba (Nat.le_refl _) (Nat.le_refl _)) (by simp) (by unfold Holds; simpa [Lib.byteCells] using HI.out) (by simp; omega)).mono ?_
    rintro e w2 ⟨rfl, hH2, hbl2, hF2⟩
    have HH2 := Lib.hid hH2; have HB2 := Lib.hid (hba.trans hbl2)
    have hs2 := hbl2.size
    simp only [World.size_alloc] at hs2
    clear hH2 hbl2 hF2
    go_wp2_with fail
    refine (bstring_any (B := w1.heap.size) (by have := HH2.out; simpa using this) (by omega)).mono ?_
    rintro e w3 ⟨rfl, hb3⟩
    go_wp2_with fail
    go_ret2
    exact ⟨rfl, hb2.trans ((HB2.out.trans hb3).mono hb2.size)⟩
  · rw [if_neg hc]
    have d1 : (chkF t != 0) = true := by simpa using hc
    have d2 : (chkF t == 0) = false := by simpa using hc
    clear hc hlt
    go_enter Try.func10, Try.ntmps10
    go_wp2_with fail
    refine (HC.out _ (H.out.on hbox)).mono ?_
    rintro e w1 ⟨rfl, hb1⟩
    have hb2 := hbox.trans (hb1.mono hbox.size)
    go_wp2_with fail
    go_ret2
    exact ⟨rfl, hb2⟩

/-- bytes as a text -/
def bstr (l : List UInt8) : ByteArray := ⟨l.toArray⟩

theorem bstr_add (x y : List UInt8) : bstr x ++ bstr y = bstr (x ++ y) := by unfold bstr; apply ByteArray.ext; simp

theorem bstr_of (s : ByteArray) : bstr s.data.toList = s := rfl

theorem bstr_size (x : List UInt8) : (bstr x).size = x.length := by unfold bstr; simp [ByteArray.size]

theorem bstr_kind (k : Int) : strOfNums [k % 256] = bstr [kby k] := by
  unfold strOfNums bstr kby; simp

theorem add_run {P : Program} (x y : List UInt8) (h : x.length + y.length ≤ 9223372036854775807) (W : World) : (Op.stringOp .add (bstr x) (bstr y)).run P W = .ok (.string (bstr (x ++ y))) W := by
  rw [run_string_add_sum W _ _ (by rw [bstr_size, bstr_size]; exact h), bstr_add]

end Go.Proofs.Ytaonlbmicjoclaa
