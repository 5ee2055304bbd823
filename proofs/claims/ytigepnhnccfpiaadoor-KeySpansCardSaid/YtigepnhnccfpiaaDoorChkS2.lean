/- val.Check: shaped, kinds 6 to 8 -/
import Derived.Test.YtigepnhnccfpiaaDoorChkA
namespace Go.Proofs.YtigepnhnccfpiaaDoor
open Go.ChangeShapes Go.WideShapes Go.ChangeAt Go.RowKit Go.Fl

end Go.Proofs.YtigepnhnccfpiaaDoor
