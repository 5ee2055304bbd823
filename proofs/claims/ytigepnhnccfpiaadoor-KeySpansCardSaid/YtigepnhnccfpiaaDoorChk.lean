/- val.check, val.Check -/
import Derived.Test.YtigepnhnccfpiaaDoorRis
import Derived.Test.YtigepnhnccfpiaaDoorChkL
namespace Go.Proofs.YtigepnhnccfpiaaDoor
open Go.ChangeShapes Go.WideShapes Go.ChangeAt Go.RowKit Go.Fl

mutual
/-- why a value that stands so deep may not be -/
def chkT : T → Nat → Int
  | .mk k b n f s l, d => if 13 < d then 3 else if shpT k b n f s l.length = false then 6 else if 500 < s.size ∨ 1000 < l.length then 3 else lex (chkL l (d + 1)) (if k = 6 ∧ risesB l = false then 6 else 0)
def chkL : List T → Nat → Int
  | [], _ => 0
  | t :: r, d => lex (chkT t d) (chkL r d)
end

theorem chkL_step {l : List T} {i : Nat} (hi : i < l.length) (d : Nat) : chkL (l.drop i) d = lex (chkT l[i] d) (chkL (l.drop (i + 1)) d) := by
  rw [List.drop_eq_getElem_cons hi, chkL]

theorem chkL_end {l : List T} {i : Nat} (hi : l.length ≤ i) (d : Nat) : chkL (l.drop i) d = 0 := by
  rw [List.drop_eq_nil_of_le hi, chkL]

end Go.Proofs.YtigepnhnccfpiaaDoor
