/-
  DERIVED. GIVEN WITH THE SEED: THE CARDS: each row of YtgmjhoppjjjilaaDoorRows.lean that lists a variable, with what it lists TIED to the program's text (the seventh form; the later family's looks); each row that meets fmt, with fmt's text TOLD by the authors' own Lean function (tested against real Go, not proved from fmt's source: count such statements apart). THE CARD IS WHAT COUNTS. Prove the row's statement (the work); the ties are given (YtgmjhoppjjjilaaDoorTie.lean); close each card by the builder's one call (the guide's Derived/Test/ToyasCard.lean, 'card_holds'). Laid BY PROGRAM, IN A SANDBOX (cutbox-door.mjs). By AI agents, Wed Nov 11 2026. No macro, syntax, notation, axiom, sorry.
-/
import Derived.Test.YtgmjhoppjjjilaaDoorRows
import GoSem.ClaimSeven
namespace Go.Proofs.YtgmjhoppjjjilaaDoor
namespace Rows

/-- THE TIED CARD OF 'offshootlaw13.ShowValues'. -/
def showValuesCard : Claim7 := { stood := { row := showValuesRow, standIns := [], harness := (true, "08e63e8561a1c6c09ff07915aa00e25f601eef59d3dd1c1fc6a3846fec10f20a"), looks := false }, kinds := [], alts := [], laidByText := true, laidKinds := [.data, .data, .data], laidTests := true, laidLooks := .later }
def ShowValuesCardSaid : Prop := Claim7.holds Tryd.pinned (.plain (OpenSpec.ofChange showValuesSpec)) showValuesCard

/-- THE TIED CARD OF 'offshootlaw13.ShowPreds'. -/
def showPredsCard : Claim7 := { stood := { row := showPredsRow, standIns := [], harness := (true, "08e63e8561a1c6c09ff07915aa00e25f601eef59d3dd1c1fc6a3846fec10f20a"), looks := false }, kinds := [], alts := [], laidByText := true, laidKinds := [.data, .data, .data], laidTests := true, laidLooks := .later }
def ShowPredsCardSaid : Prop := Claim7.holds Tryd.pinned (.plain (OpenSpec.ofChange showPredsSpec)) showPredsCard

/-- THE SECOND FORM's CARD OF 'offshootlaw13.ShowValues'. -/
def showValuesUptoCard : Claim7 := { stood := { row := showValuesUptoRow, standIns := [], harness := (true, "08e63e8561a1c6c09ff07915aa00e25f601eef59d3dd1c1fc6a3846fec10f20a"), looks := false }, kinds := [], alts := [], laidByText := true, laidKinds := [.data, .data, .data], laidTests := true, laidLooks := .later }
def ShowValuesUptoCardSaid : Prop := Claim7.holds Tryd.pinned (.plain (OpenSpec.upto showValuesSpec)) showValuesUptoCard

/-- THE SECOND FORM's CARD OF 'offshootlaw13.ShowPreds'. -/
def showPredsUptoCard : Claim7 := { stood := { row := showPredsUptoRow, standIns := [], harness := (true, "08e63e8561a1c6c09ff07915aa00e25f601eef59d3dd1c1fc6a3846fec10f20a"), looks := false }, kinds := [], alts := [], laidByText := true, laidKinds := [.data, .data, .data], laidTests := true, laidLooks := .later }
def ShowPredsUptoCardSaid : Prop := Claim7.holds Tryd.pinned (.plain (OpenSpec.upto showPredsSpec)) showPredsUptoCard
end Rows
end Go.Proofs.YtgmjhoppjjjilaaDoor
