/- what the rows of layer 12 list, as the walks take it -/
import Derived.Test.YtnehbpfgdeilhaaGreatDoorLxX
import Derived.Test.YtnehbpfgdeilhaaGreatDoorLaid
import Derived.Test.YtnehbpfgdeilhaaGreatDoorTie
namespace Go.Proofs.YtnehbpfgdeilhaaGreatDoor
open Go.ChangeShapes Go.WideShapes Go.ChangeAt Go.RowKit Go.Fl
open Go.Shelf

theorem error_star : "*" ++ "errors.errorString" = "*errors.errorString" := by decide

theorem error_row (u : TypeId) (h : Tryz.prog.typeName? 3 u = some "*errors.errorString") : u = 135 :=
  typeName_ptr_named (nm := "errors.errorString") (by rw [error_star]; kernel_rfl) (by kernel_rfl) (by decide) u (by rw [error_star]; exact h)

theorem env_of_laid {w : World} (h : laidMetH Tryz.prog Rows.parseSameRow.laid w) : Env w := by
  rw [MakeChecks.laidMetH_plain _ _ _ (by kernel_rfl)] at h
  have h0 : laidMet Tryz.prog [("math/bits.deBruijn32tab", Rows.laid_math_bits_deBruijn32tab), ("math/bits.deBruijn64tab", Rows.laid_math_bits_deBruijn64tab), ("internal/strconv.uint64pow10", Rows.laid_internal_strconv_uint64pow10), ("strconv.ErrRange", Rows.laid_strconv_ErrRange), ("strconv.ErrSyntax", Rows.laid_strconv_ErrSyntax)] w := h
  have h1 := h0.tail
  have h2 := h1.tail
  have h3 := h2.tail
  have h4 := h3.tail
  refine ⟨?_, ?_, ?_, ?_⟩
  · exact Lib.tabIs_of_head (g := 4) (t := 140) (e := 62) (n := 20) (by kernel_rfl) (by kernel_rfl) (by kernel_rfl) (by kernel_rfl) (by kernel_rfl) (by kernel_rfl) h2
  · exact Lib.tabIs_of_head (g := 6) (t := 149) (e := 5) (n := 64) (by kernel_rfl) (by kernel_rfl) (by kernel_rfl) (by kernel_rfl) (by kernel_rfl) (by kernel_rfl) h1
  · obtain ⟨a, _, hv, -⟩ := laid_sentinel h4 (g := 2) (ti := 71) (by kernel_rfl) (by kernel_rfl) Tryz.underlying71 error_row Tryz.underlying135 Tryz.underlying137 rfl rfl Tryz.underlying9 (by kernel_rfl) (by kernel_rfl)
    exact ⟨_, _, hv⟩
  · obtain ⟨a, _, hv, -⟩ := laid_sentinel h3 (g := 3) (ti := 71) (by kernel_rfl) (by kernel_rfl) Tryz.underlying71 error_row Tryz.underlying135 Tryz.underlying137 rfl rfl Tryz.underlying9 (by kernel_rfl) (by kernel_rfl)
    exact ⟨_, _, hv⟩

end Go.Proofs.YtnehbpfgdeilhaaGreatDoor
