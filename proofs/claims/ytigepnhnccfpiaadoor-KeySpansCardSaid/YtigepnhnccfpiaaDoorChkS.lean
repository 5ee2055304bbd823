/- val.Check: shaped -/
import Derived.Test.YtigepnhnccfpiaaDoorChkS0
import Derived.Test.YtigepnhnccfpiaaDoorChkS1
import Derived.Test.YtigepnhnccfpiaaDoorChkS2
namespace Go.Proofs.YtigepnhnccfpiaaDoor
open Go.ChangeShapes Go.WideShapes Go.ChangeAt Go.RowKit Go.Fl

end Go.Proofs.YtigepnhnccfpiaaDoor
