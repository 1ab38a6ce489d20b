/-
  DERIVED. GIVEN WITH THE SEED: THE CARDS: each row of YthfmffbcbopanaaDoorRows.lean that lists a variable, with what it lists TIED to the program's text (the seventh form; the later family's looks); each row that meets fmt, with fmt's text TOLD by the authors' own Lean function (tested against real Go, not proved from fmt's source: count such statements apart). THE CARD IS WHAT COUNTS. Prove the row's statement (the work); the ties are given (YthfmffbcbopanaaDoorTie.lean); close each card by the builder's one call (the guide's Derived/Test/ToyasCard.lean, 'card_holds'). Laid BY PROGRAM, IN A SANDBOX (cutbox-door.mjs). By AI agents, Wed Nov 11 2026. No macro, syntax, notation, axiom, sorry.
-/
import Derived.Test.YthfmffbcbopanaaDoorRows
import GoSem.ClaimSeven
namespace Go.Proofs.YthfmffbcbopanaaDoor
namespace Rows

/-- THE TIED CARD OF 'nacellelaw03.RotorPairs'. -/
def rotorPairsCard : Claim7 := { stood := { row := rotorPairsRow, standIns := [], harness := (true, "7e4f7dda8e173cdc73e199b393402d2d3d06e5746dcb09a375b3146499ab25da"), looks := false }, kinds := [], alts := [], laidByText := true, laidKinds := [.data, .data, .data, .data], laidTests := true, laidLooks := .later }
def RotorPairsCardSaid : Prop := Claim7.holds Tryd.pinned (.plain (OpenSpec.ofChange rotorPairsSpec)) rotorPairsCard

/-- THE TIED CARD OF 'nacellelaw03.RotorThirds'. -/
def rotorThirdsCard : Claim7 := { stood := { row := rotorThirdsRow, standIns := [], harness := (true, "7e4f7dda8e173cdc73e199b393402d2d3d06e5746dcb09a375b3146499ab25da"), looks := false }, kinds := [], alts := [], laidByText := true, laidKinds := [.data, .data, .data, .data], laidTests := true, laidLooks := .later }
def RotorThirdsCardSaid : Prop := Claim7.holds Tryd.pinned (.plain (OpenSpec.ofChange rotorThirdsSpec)) rotorThirdsCard

/-- THE SECOND FORM's CARD OF 'nacellelaw03.RotorPairs'. -/
def rotorPairsUptoCard : Claim7 := { stood := { row := rotorPairsUptoRow, standIns := [], harness := (true, "7e4f7dda8e173cdc73e199b393402d2d3d06e5746dcb09a375b3146499ab25da"), looks := false }, kinds := [], alts := [], laidByText := true, laidKinds := [.data, .data, .data, .data], laidTests := true, laidLooks := .later }
def RotorPairsUptoCardSaid : Prop := Claim7.holds Tryd.pinned (.plain (OpenSpec.upto rotorPairsSpec)) rotorPairsUptoCard

/-- THE SECOND FORM's CARD OF 'nacellelaw03.RotorThirds'. -/
def rotorThirdsUptoCard : Claim7 := { stood := { row := rotorThirdsUptoRow, standIns := [], harness := (true, "7e4f7dda8e173cdc73e199b393402d2d3d06e5746dcb09a375b3146499ab25da"), looks := false }, kinds := [], alts := [], laidByText := true, laidKinds := [.data, .data, .data, .data], laidTests := true, laidLooks := .later }
def RotorThirdsUptoCardSaid : Prop := Claim7.holds Tryd.pinned (.plain (OpenSpec.upto rotorThirdsSpec)) rotorThirdsUptoCard
end Rows
end Go.Proofs.YthfmffbcbopanaaDoor
