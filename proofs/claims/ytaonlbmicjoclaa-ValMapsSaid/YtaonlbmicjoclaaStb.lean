/- slices.SortStableFunc of a short row of pairs -/
import Derived.Test.YtaonlbmicjoclaaIns
namespace Go.Proofs.Ytaonlbmicjoclaa
open Go.ChangeShapes Go.WideShapes Go.ChangeAt Go.RowKit Go.Fl

/-- what it leaves -/
def Sorted (w : World) (B g : Nat) (l : List (T × T)) (e : Ending) (w' : World) : Prop := e = .returned (.tuple #[]) ∧ RowP w B w' g (srt l) ∧ Beside g w w'

theorem stable_any (l : List (T × T)) (g B cap : Nat) (w : World) (hrow : RowP w B w g l) (hB : B ≤ g) (hl : l.length ≤ 6) :
    Calls Try.prog 40 #[.slice (some ⟨g, 0, none⟩) l.length cap, .int .i64 l.length, .func (.func 18) #[] #[]] w (Sorted w B g l) := by
  have H := Lib.hid (isort_any l g B cap w hrow hB (by omega))
  have h1 : ¬ (20 : Int) ≤ (l.length : Int) := by omega
  have h2 : ¬ (20 : Int) < (l.length : Int) := by omega
  clear hrow
  go_enter Try.func40, Try.ntmps40
  go_wp2_with fail
  go_loopg [7, 8] 0 (fun _ va vb wr => va = .int .i64 0 ∧ vb = .int .i64 20 ∧ wr = w)
  case atStart => exact ⟨rfl, rfl, rfl⟩
  case round =>
    obtain ⟨rfl, rfl, rfl⟩ := hrel
    go_wp2_with fail
    refine H.out.mono ?_
    rintro e w1 ⟨rfl, h3, h4⟩
    have H3 := Lib.hid h3; have H4 := Lib.hid h4
    clear h3 h4
    go_wp2_with fail
    go_loopg [6] 0 (fun _ va wr => va = .int .i64 20 ∧ wr = w1)
    case atStart => exact ⟨rfl, rfl⟩
    case round =>
      obtain ⟨rfl, rfl⟩ := hrel
      go_wp2_with fail
      go_end0
      exact ⟨rfl, H3.out, H4.out⟩

theorem sort_any (l : List (T × T)) (g B cap : Nat) (w : World) (hrow : RowP w B w g l) (hB : B ≤ g) (hl : l.length ≤ 6) :
    Calls Try.prog 17 #[.slice (some ⟨g, 0, none⟩) l.length cap, .func (.func 18) #[] #[]] w (Sorted w B g l) := by
  have H := Lib.hid (stable_any l g B cap w hrow hB hl)
  clear hrow
  go_enter Try.func17, Try.ntmps17
  go_wp2_with fail
  refine H.out.mono ?_
  rintro e w1 ⟨rfl, h3, h4⟩
  have H3 := Lib.hid h3; have H4 := Lib.hid h4
  clear h3 h4
  go_wp2_with fail
  go_end0
  exact ⟨rfl, H3.out, H4.out⟩

end Go.Proofs.Ytaonlbmicjoclaa
