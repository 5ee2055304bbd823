/- val.Cmp and its reference -/
import Derived.Test.YtigepnhnccfpiaaDoorOrd
namespace Go.Proofs.YtigepnhnccfpiaaDoor
open Go.ChangeShapes Go.WideShapes Go.ChangeAt Go.RowKit Go.Fl

theorem mix_cases (n : Int) (b : Nat) : -1 ≤ mixN n b ∧ mixN n b ≤ 1 := by
  have := cmp_cases (fw (flo n)) b
  unfold mixN; split
  · split <;> omega
  · exact this

end Go.Proofs.YtigepnhnccfpiaaDoor
