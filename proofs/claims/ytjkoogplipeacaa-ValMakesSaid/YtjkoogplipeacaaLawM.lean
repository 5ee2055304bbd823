/- the walk of ValMakes -/
import Derived.Test.YtjkoogplipeacaaLawMb
import Derived.Test.YtjkoogplipeacaaLawMc
namespace Go.Proofs.Ytjkoogplipeacaa
open Go.ChangeShapes Go.WideShapes Go.ChangeAt Go.RowKit Go.Fl

theorem makes_any (n : Int) (f : Nat) (s0 : ByteArray) (w : World) (hn : is64 n = true) (hf : f < 18446744073709551616) (hs0 : s0.size ≤ 9223372036854775807) :
    Calls Try.prog 7 #[.int .i64 n, .float .f64 f, .string s0] w fun e w' => e = .returned (.bool true) ∧ Below w.heap.size w w' := by
  by_cases h : 600 < s0.size
  · exact makes_long n f s0 w hn hf hs0 h
  · exact makes_short n f s0 w hn hf hs0 h

end Go.Proofs.Ytjkoogplipeacaa
