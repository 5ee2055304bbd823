/- Plain facts on floats' words (no program). -/
import GoSem.Core.Float
namespace Go.Fl
def nanB (b : Nat) : Bool := FloatKind.f64.format.order b b != some .eq
def canonN (b : Nat) : Nat := if nanB b then 9221120237041090561 else b
def keyN (b : Nat) : Nat := if 9223372036854775808 ≤ canonN b then 18446744073709551615 - canonN b else canonN b + 9223372036854775808
end Go.Fl
