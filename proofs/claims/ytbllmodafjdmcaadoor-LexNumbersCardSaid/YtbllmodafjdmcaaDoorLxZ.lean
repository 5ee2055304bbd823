/- what the rows of layer 11 list, as the walks take it -/
import Derived.Test.YtbllmodafjdmcaaDoorLxX
import Derived.Test.YtbllmodafjdmcaaDoorLaid
import Derived.Test.YtbllmodafjdmcaaDoorTie
namespace Go.Proofs.YtbllmodafjdmcaaDoor
open Go.ChangeShapes Go.WideShapes Go.ChangeAt Go.RowKit Go.Fl
open Go.Shelf

theorem error_star : "*" ++ "errors.errorString" = "*errors.errorString" := by decide

theorem error_row (u : TypeId) (h : Tryd.prog.typeName? 3 u = some "*errors.errorString") : u = 110 :=
  typeName_ptr_named (nm := "errors.errorString") (by rw [error_star]; kernel_rfl) (by kernel_rfl) (by decide) u (by rw [error_star]; exact h)

theorem env_of_laid {w : World} (h : laidMetH Tryd.prog Rows.lexPlacesRow.laid w) : Env w := by
  rw [MakeChecks.laidMetH_plain _ _ _ (by kernel_rfl)] at h
  have h0 : laidMet Tryd.prog [("math/bits.deBruijn32tab", Rows.laid_math_bits_deBruijn32tab), ("math/bits.deBruijn64tab", Rows.laid_math_bits_deBruijn64tab), ("internal/strconv.uint64pow10", Rows.laid_internal_strconv_uint64pow10), ("strconv.ErrRange", Rows.laid_strconv_ErrRange), ("strconv.ErrSyntax", Rows.laid_strconv_ErrSyntax)] w := h
  have h1 := h0.tail
  have h2 := h1.tail
  have h3 := h2.tail
  have h4 := h3.tail
  refine ⟨?_, ?_, ?_, ?_⟩
  · exact Lib.tabIs_of_head (g := 1) (t := 94) (e := 38) (n := 20) (by kernel_rfl) (by kernel_rfl) (by kernel_rfl) (by kernel_rfl) (by kernel_rfl) (by kernel_rfl) h2
  · exact Lib.tabIs_of_head (g := 6) (t := 109) (e := 5) (n := 64) (by kernel_rfl) (by kernel_rfl) (by kernel_rfl) (by kernel_rfl) (by kernel_rfl) (by kernel_rfl) h1
  · obtain ⟨a, _, hv, -⟩ := laid_sentinel h4 (g := 3) (ti := 46) (by kernel_rfl) (by kernel_rfl) Tryd.underlying46 error_row Tryd.underlying110 Tryd.underlying112 rfl rfl Tryd.underlying9 (by kernel_rfl) (by kernel_rfl)
    exact ⟨_, _, hv⟩
  · obtain ⟨a, _, hv, -⟩ := laid_sentinel h3 (g := 4) (ti := 46) (by kernel_rfl) (by kernel_rfl) Tryd.underlying46 error_row Tryd.underlying110 Tryd.underlying112 rfl rfl Tryd.underlying9 (by kernel_rfl) (by kernel_rfl)
    exact ⟨_, _, hv⟩

end Go.Proofs.YtbllmodafjdmcaaDoor
