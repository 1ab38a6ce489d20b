/-
  DERIVED. GIVEN WITH THE SEED: THE CARDS: each row of YtbocpikgochioaaGreatDoorRows.lean that lists a variable, with what it lists TIED to the program's text (the seventh form; the later family's looks); each row that meets fmt, with fmt's text TOLD by the authors' own Lean function (tested against real Go, not proved from fmt's source: count such statements apart). THE CARD IS WHAT COUNTS. Prove the row's statement (the work); the ties are given (YtbocpikgochioaaGreatDoorTie.lean); close each card by the builder's one call (the guide's Derived/Test/ToyasCard.lean, 'card_holds'). Laid BY PROGRAM, IN A SANDBOX (cutbox-door.mjs). By AI agents, Wed Nov 11 2026. No macro, syntax, notation, axiom, sorry.
-/
import Derived.Test.YtbocpikgochioaaGreatDoorRows
import GoSem.ClaimSeven
namespace Go.Proofs.YtbocpikgochioaaGreatDoor
namespace Rows

/-- THE TIED CARD OF 'nacellelaw03.RotorInflows'. -/
def rotorInflowsCard : Claim7 := { stood := { row := rotorInflowsRow, standIns := [], harness := (true, "568663376990354325df69c026501344cdfbf7742854001b2341a36c20769869"), looks := false }, kinds := [], alts := [], laidByText := true, laidKinds := [.data, .data, .data, .data], laidTests := true, laidLooks := .later }
def RotorInflowsCardSaid : Prop := Claim7.holds Tryz.pinned (.plain (OpenSpec.ofChange rotorInflowsSpec)) rotorInflowsCard

/-- THE TIED CARD OF 'nacellelaw03.RotorBrackets'. -/
def rotorBracketsCard : Claim7 := { stood := { row := rotorBracketsRow, standIns := [], harness := (true, "568663376990354325df69c026501344cdfbf7742854001b2341a36c20769869"), looks := false }, kinds := [], alts := [], laidByText := true, laidKinds := [.data, .data, .data, .data], laidTests := true, laidLooks := .later }
def RotorBracketsCardSaid : Prop := Claim7.holds Tryz.pinned (.plain (OpenSpec.ofChange rotorBracketsSpec)) rotorBracketsCard

/-- THE TIED CARD OF 'nacellelaw03.RotorForces'. -/
def rotorForcesCard : Claim7 := { stood := { row := rotorForcesRow, standIns := [], harness := (true, "568663376990354325df69c026501344cdfbf7742854001b2341a36c20769869"), looks := false }, kinds := [], alts := [], laidByText := true, laidKinds := [.data, .data, .data, .data], laidTests := true, laidLooks := .later }
def RotorForcesCardSaid : Prop := Claim7.holds Tryz.pinned (.plain (OpenSpec.ofChange rotorForcesSpec)) rotorForcesCard

/-- THE TIED CARD OF 'nacellelaw03.RotorPitches'. -/
def rotorPitchesCard : Claim7 := { stood := { row := rotorPitchesRow, standIns := [], harness := (true, "568663376990354325df69c026501344cdfbf7742854001b2341a36c20769869"), looks := false }, kinds := [], alts := [], laidByText := true, laidKinds := [.data, .data, .data, .data], laidTests := true, laidLooks := .later }
def RotorPitchesCardSaid : Prop := Claim7.holds Tryz.pinned (.plain (OpenSpec.ofChange rotorPitchesSpec)) rotorPitchesCard

/-- THE TIED CARD OF 'nacellelaw03.RotorLoads'. -/
def rotorLoadsCard : Claim7 := { stood := { row := rotorLoadsRow, standIns := [], harness := (true, "568663376990354325df69c026501344cdfbf7742854001b2341a36c20769869"), looks := false }, kinds := [], alts := [], laidByText := true, laidKinds := [.data, .data, .data, .data], laidTests := true, laidLooks := .later }
def RotorLoadsCardSaid : Prop := Claim7.holds Tryz.pinned (.plain (OpenSpec.ofChange rotorLoadsSpec)) rotorLoadsCard

/-- THE TIED CARD OF 'nacellelaw03.RotorChosen'. -/
def rotorChosenCard : Claim7 := { stood := { row := rotorChosenRow, standIns := [], harness := (true, "568663376990354325df69c026501344cdfbf7742854001b2341a36c20769869"), looks := false }, kinds := [], alts := [], laidByText := true, laidKinds := [.data, .data, .data, .data], laidTests := true, laidLooks := .later }
def RotorChosenCardSaid : Prop := Claim7.holds Tryz.pinned (.plain (OpenSpec.ofChange rotorChosenSpec)) rotorChosenCard

/-- THE SECOND FORM's CARD OF 'nacellelaw03.RotorInflows'. -/
def rotorInflowsUptoCard : Claim7 := { stood := { row := rotorInflowsUptoRow, standIns := [], harness := (true, "568663376990354325df69c026501344cdfbf7742854001b2341a36c20769869"), looks := false }, kinds := [], alts := [], laidByText := true, laidKinds := [.data, .data, .data, .data], laidTests := true, laidLooks := .later }
def RotorInflowsUptoCardSaid : Prop := Claim7.holds Tryz.pinned (.plain (OpenSpec.upto rotorInflowsSpec)) rotorInflowsUptoCard

/-- THE SECOND FORM's CARD OF 'nacellelaw03.RotorBrackets'. -/
def rotorBracketsUptoCard : Claim7 := { stood := { row := rotorBracketsUptoRow, standIns := [], harness := (true, "568663376990354325df69c026501344cdfbf7742854001b2341a36c20769869"), looks := false }, kinds := [], alts := [], laidByText := true, laidKinds := [.data, .data, .data, .data], laidTests := true, laidLooks := .later }
def RotorBracketsUptoCardSaid : Prop := Claim7.holds Tryz.pinned (.plain (OpenSpec.upto rotorBracketsSpec)) rotorBracketsUptoCard

/-- THE SECOND FORM's CARD OF 'nacellelaw03.RotorForces'. -/
def rotorForcesUptoCard : Claim7 := { stood := { row := rotorForcesUptoRow, standIns := [], harness := (true, "568663376990354325df69c026501344cdfbf7742854001b2341a36c20769869"), looks := false }, kinds := [], alts := [], laidByText := true, laidKinds := [.data, .data, .data, .data], laidTests := true, laidLooks := .later }
def RotorForcesUptoCardSaid : Prop := Claim7.holds Tryz.pinned (.plain (OpenSpec.upto rotorForcesSpec)) rotorForcesUptoCard

/-- THE SECOND FORM's CARD OF 'nacellelaw03.RotorPitches'. -/
def rotorPitchesUptoCard : Claim7 := { stood := { row := rotorPitchesUptoRow, standIns := [], harness := (true, "568663376990354325df69c026501344cdfbf7742854001b2341a36c20769869"), looks := false }, kinds := [], alts := [], laidByText := true, laidKinds := [.data, .data, .data, .data], laidTests := true, laidLooks := .later }
def RotorPitchesUptoCardSaid : Prop := Claim7.holds Tryz.pinned (.plain (OpenSpec.upto rotorPitchesSpec)) rotorPitchesUptoCard

/-- THE SECOND FORM's CARD OF 'nacellelaw03.RotorLoads'. -/
def rotorLoadsUptoCard : Claim7 := { stood := { row := rotorLoadsUptoRow, standIns := [], harness := (true, "568663376990354325df69c026501344cdfbf7742854001b2341a36c20769869"), looks := false }, kinds := [], alts := [], laidByText := true, laidKinds := [.data, .data, .data, .data], laidTests := true, laidLooks := .later }
def RotorLoadsUptoCardSaid : Prop := Claim7.holds Tryz.pinned (.plain (OpenSpec.upto rotorLoadsSpec)) rotorLoadsUptoCard

/-- THE SECOND FORM's CARD OF 'nacellelaw03.RotorChosen'. -/
def rotorChosenUptoCard : Claim7 := { stood := { row := rotorChosenUptoRow, standIns := [], harness := (true, "568663376990354325df69c026501344cdfbf7742854001b2341a36c20769869"), looks := false }, kinds := [], alts := [], laidByText := true, laidKinds := [.data, .data, .data, .data], laidTests := true, laidLooks := .later }
def RotorChosenUptoCardSaid : Prop := Claim7.holds Tryz.pinned (.plain (OpenSpec.upto rotorChosenSpec)) rotorChosenUptoCard
end Rows
end Go.Proofs.YtbocpikgochioaaGreatDoor
