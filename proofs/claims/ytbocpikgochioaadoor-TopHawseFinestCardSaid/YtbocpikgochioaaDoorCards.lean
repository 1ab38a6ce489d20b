/-
  DERIVED. GIVEN WITH THE SEED: THE CARDS: each row of YtbocpikgochioaaDoorRows.lean that lists a variable, with what it lists TIED to the program's text (the seventh form; the later family's looks); each row that meets fmt, with fmt's text TOLD by the authors' own Lean function (tested against real Go, not proved from fmt's source: count such statements apart). THE CARD IS WHAT COUNTS. Prove the row's statement (the work); the ties are given (YtbocpikgochioaaDoorTie.lean); close each card by the builder's one call (the guide's Derived/Test/ToyasCard.lean, 'card_holds'). Laid BY PROGRAM, IN A SANDBOX (cutbox-door.mjs). By AI agents, Wed Nov 11 2026. No macro, syntax, notation, axiom, sorry.
-/
import Derived.Test.YtbocpikgochioaaDoorRows
import GoSem.ClaimSeven
namespace Go.Proofs.YtbocpikgochioaaDoor
namespace Rows

/-- THE TIED CARD OF 'nacellelaw03.RotorBlades'. -/
def rotorBladesCard : Claim7 := { stood := { row := rotorBladesRow, standIns := [], harness := (true, "f8d585a3a1815419f255a442849611292f6d13d3428ab787187669577c3b8e9d"), looks := false }, kinds := [], alts := [], laidByText := true, laidKinds := [.data, .data, .data, .data], laidTests := true, laidLooks := .later }
def RotorBladesCardSaid : Prop := Claim7.holds Tryd.pinned (.plain (OpenSpec.ofChange rotorBladesSpec)) rotorBladesCard

/-- THE TIED CARD OF 'nacellelaw03.RotorMonotone'. -/
def rotorMonotoneCard : Claim7 := { stood := { row := rotorMonotoneRow, standIns := [], harness := (true, "f8d585a3a1815419f255a442849611292f6d13d3428ab787187669577c3b8e9d"), looks := false }, kinds := [], alts := [], laidByText := true, laidKinds := [.data, .data, .data, .data], laidTests := true, laidLooks := .later }
def RotorMonotoneCardSaid : Prop := Claim7.holds Tryd.pinned (.plain (OpenSpec.ofChange rotorMonotoneSpec)) rotorMonotoneCard

/-- THE TIED CARD OF 'nacellelaw03.RotorNested'. -/
def rotorNestedCard : Claim7 := { stood := { row := rotorNestedRow, standIns := [], harness := (true, "f8d585a3a1815419f255a442849611292f6d13d3428ab787187669577c3b8e9d"), looks := false }, kinds := [], alts := [], laidByText := true, laidKinds := [.data, .data, .data, .data], laidTests := true, laidLooks := .later }
def RotorNestedCardSaid : Prop := Claim7.holds Tryd.pinned (.plain (OpenSpec.ofChange rotorNestedSpec)) rotorNestedCard

/-- THE TIED CARD OF 'nacelletop.TopHawseFinest'. -/
def topHawseFinestCard : Claim7 := { stood := { row := topHawseFinestRow, standIns := [], harness := (true, "f8d585a3a1815419f255a442849611292f6d13d3428ab787187669577c3b8e9d"), looks := false }, kinds := [], alts := [], laidByText := true, laidKinds := [.data], laidTests := true, laidLooks := .later }
def TopHawseFinestCardSaid : Prop := Claim7.holds Tryd.pinned (.plain (OpenSpec.ofChange topHawseFinestSpec)) topHawseFinestCard

/-- THE TIED CARD OF 'nacelletop.TopHawseUneven'. -/
def topHawseUnevenCard : Claim7 := { stood := { row := topHawseUnevenRow, standIns := [], harness := (true, "f8d585a3a1815419f255a442849611292f6d13d3428ab787187669577c3b8e9d"), looks := false }, kinds := [], alts := [], laidByText := true, laidKinds := [.data], laidTests := true, laidLooks := .later }
def TopHawseUnevenCardSaid : Prop := Claim7.holds Tryd.pinned (.plain (OpenSpec.ofChange topHawseUnevenSpec)) topHawseUnevenCard

/-- THE SECOND FORM's CARD OF 'nacellelaw03.RotorBlades'. -/
def rotorBladesUptoCard : Claim7 := { stood := { row := rotorBladesUptoRow, standIns := [], harness := (true, "f8d585a3a1815419f255a442849611292f6d13d3428ab787187669577c3b8e9d"), looks := false }, kinds := [], alts := [], laidByText := true, laidKinds := [.data, .data, .data, .data], laidTests := true, laidLooks := .later }
def RotorBladesUptoCardSaid : Prop := Claim7.holds Tryd.pinned (.plain (OpenSpec.upto rotorBladesSpec)) rotorBladesUptoCard

/-- THE SECOND FORM's CARD OF 'nacellelaw03.RotorMonotone'. -/
def rotorMonotoneUptoCard : Claim7 := { stood := { row := rotorMonotoneUptoRow, standIns := [], harness := (true, "f8d585a3a1815419f255a442849611292f6d13d3428ab787187669577c3b8e9d"), looks := false }, kinds := [], alts := [], laidByText := true, laidKinds := [.data, .data, .data, .data], laidTests := true, laidLooks := .later }
def RotorMonotoneUptoCardSaid : Prop := Claim7.holds Tryd.pinned (.plain (OpenSpec.upto rotorMonotoneSpec)) rotorMonotoneUptoCard

/-- THE SECOND FORM's CARD OF 'nacellelaw03.RotorNested'. -/
def rotorNestedUptoCard : Claim7 := { stood := { row := rotorNestedUptoRow, standIns := [], harness := (true, "f8d585a3a1815419f255a442849611292f6d13d3428ab787187669577c3b8e9d"), looks := false }, kinds := [], alts := [], laidByText := true, laidKinds := [.data, .data, .data, .data], laidTests := true, laidLooks := .later }
def RotorNestedUptoCardSaid : Prop := Claim7.holds Tryd.pinned (.plain (OpenSpec.upto rotorNestedSpec)) rotorNestedUptoCard

/-- THE SECOND FORM's CARD OF 'nacelletop.TopHawseFinest'. -/
def topHawseFinestUptoCard : Claim7 := { stood := { row := topHawseFinestUptoRow, standIns := [], harness := (true, "f8d585a3a1815419f255a442849611292f6d13d3428ab787187669577c3b8e9d"), looks := false }, kinds := [], alts := [], laidByText := true, laidKinds := [.data], laidTests := true, laidLooks := .later }
def TopHawseFinestUptoCardSaid : Prop := Claim7.holds Tryd.pinned (.plain (OpenSpec.upto topHawseFinestSpec)) topHawseFinestUptoCard

/-- THE SECOND FORM's CARD OF 'nacelletop.TopHawseUneven'. -/
def topHawseUnevenUptoCard : Claim7 := { stood := { row := topHawseUnevenUptoRow, standIns := [], harness := (true, "f8d585a3a1815419f255a442849611292f6d13d3428ab787187669577c3b8e9d"), looks := false }, kinds := [], alts := [], laidByText := true, laidKinds := [.data], laidTests := true, laidLooks := .later }
def TopHawseUnevenUptoCardSaid : Prop := Claim7.holds Tryd.pinned (.plain (OpenSpec.upto topHawseUnevenSpec)) topHawseUnevenUptoCard
end Rows
end Go.Proofs.YtbocpikgochioaaDoor
