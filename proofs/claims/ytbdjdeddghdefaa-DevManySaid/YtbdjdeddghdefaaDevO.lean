/- what the laws of the device are handed, opened: falls -/
import Derived.Test.YtbdjdeddghdefaaInts
import Derived.Deep.Fields
import Derived.ChangeOld
namespace Go.Proofs.Ytbdjdeddghdefaa
open Go.ChangeShapes Go.WideShapes Go.ChangeAt Go.RowKit Go.Deep

theorem cells_int : Try.prog.cellsOf 3 = 1 := by kernel_rfl
theorem cells_uint64 : Try.prog.cellsOf 38 = 1 := by kernel_rfl
theorem cells_fall : Try.prog.cellsOf 40 = 3 := by kernel_rfl

theorem u64_nat {a : Int} (h : (Lit.int .u64 a).wf = true) : ∃ n : Nat, a = n ∧ n < 18446744073709551616 := by
  have e1 : IntKind.u64.min = 0 := by decide
  have e2 : IntKind.u64.max = 18446744073709551615 := by decide
  have h' : 0 ≤ a ∧ a ≤ 18446744073709551615 := by simpa [Lit.wf, e1, e2] using h
  exact ⟨a.toNat, by omega, by omega⟩

theorem u8_byte {a : Int} (h : (Lit.int .u8 a).wf = true) : ∃ c : UInt8, a = (c.toNat : Int) := by
  have e1 : IntKind.u8.min = 0 := by decide
  have e2 : IntKind.u8.max = 255 := by decide
  have h' : 0 ≤ a ∧ a ≤ 255 := by simpa [Lit.wf, e1, e2] using h
  refine ⟨UInt8.ofNat a.toNat, ?_⟩
  rw [UInt8.toNat_ofNat_of_lt' (by show a.toNat < 256; omega)]
  omega

section
variable {H : Type} {enc : TypeId × Value → H} {w : World} {spare : Nat → Bool} {held : Bool}

set_option maxRecDepth 100000 in
theorem trod_fall {n : Nat} {cs : List Value} {d : DataW H} {p : List MemPlace} (h : DataW.trod enc Try.prog w 0 spare held n 40 cs = some (d, p)) :
    ∃ (a t : Int) (k : Nat), cs = [.int .i64 a, .int .u64 (k : Int), .int .i64 t] ∧ is64 a = true ∧ is64 t = true ∧ k < 18446744073709551616 := by
  obtain ⟨xs, n', rfl, hx, hcl, hxl, hg⟩ := DataW.trod_struct Try.underlying40 h
  rw [cells_fall] at hcl
  match cs, hcl with
  | [c0, c1, c2], _ =>
  match xs, hxl with
  | [x0, x1, x2], _ =>
  have g0 : DataW.trod enc Try.prog w 0 spare held n' 3 [c0] = some x0 := by simpa [cells_int] using hg 0 _ rfl
  have g1 : DataW.trod enc Try.prog w 0 spare held n' 38 [c1] = some x1 := by simpa [cells_uint64] using hg 1 _ rfl
  have g2 : DataW.trod enc Try.prog w 0 spare held n' 3 [c2] = some x2 := by simpa [cells_int] using hg 2 _ rfl
  obtain ⟨a, e0, rfl, wa⟩ := DataW.trod_int Try.underlying3 g0
  obtain ⟨k, e1, rfl, wk⟩ := DataW.trod_int Try.underlying38 g1
  obtain ⟨t, e2, rfl, wt⟩ := DataW.trod_int Try.underlying3 g2
  simp only [List.cons.injEq, and_true] at e0 e1 e2
  subst e0 e1 e2
  obtain ⟨k', rfl, hk⟩ := u64_nat wk
  exact ⟨a, t, k', rfl, is64_wf wa, is64_wf wt, hk⟩

set_option maxRecDepth 100000 in
theorem open_fall {v : Value} {b0 : Nat} {d : DataW H} {p : List MemPlace} (hv : Value.okWide Try.prog w .any b0 40 v) (h : DataW.Trod enc Try.prog w 0 spare held 40 v d p) :
    ∃ (a t : Int) (k : Nat), v = .agg #[.int .i64 a, .int .u64 (k : Int), .int .i64 t] ∧ is64 a = true ∧ is64 t = true ∧ k < 18446744073709551616 := by
  obtain ⟨cs, rfl, hsz⟩ := okWide_struct Try.underlying40 hv
  obtain ⟨n, hn⟩ := h
  obtain ⟨a, t, k, h1, h2, h3, h4⟩ := trod_fall hn
  refine ⟨a, t, k, ?_, h2, h3, h4⟩
  have := congrArg List.toArray h1
  rw [show cs = #[.int .i64 a, .int .u64 (k : Int), .int .i64 t] from by simpa [Value.cells] using this]

end

end Go.Proofs.Ytbdjdeddghdefaa
