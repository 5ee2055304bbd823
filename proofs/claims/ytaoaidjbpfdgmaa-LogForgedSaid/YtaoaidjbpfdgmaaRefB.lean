/- contracts of the reference of layer 1: Canon, Key, Less, Cmp -/
import Derived.Test.YtaoaidjbpfdgmaaNumB
namespace Go.Proofs.Ytaoaidjbpfdgmaa
open Go.ChangeShapes Go.WideShapes Go.ChangeAt Go.RowKit Go.Fl

end Go.Proofs.Ytaoaidjbpfdgmaa
