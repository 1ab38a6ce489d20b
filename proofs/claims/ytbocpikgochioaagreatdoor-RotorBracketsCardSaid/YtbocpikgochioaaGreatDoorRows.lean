/-
  NARROWER THAN 'FOR EVERY INPUT', by the rows' own cells (each row's printed sentence says how): RotorInflows: laid · RotorBrackets: laid · RotorForces: laid · RotorPitches: laid · RotorLoads: laid · RotorChosen: laid.
  DERIVED. THE GIVEN ROWS OF THIS SEAT. 6 by the template 'for every input the law returns true; each argument reads behind the call as it read before'; 0 by the template 'total and deterministic' (their statements: YtbocpikgochioaaGreatDoorTotals.lean).
  GIVEN WITH THE SEED: the statements are not yours to turn. If you find one false, say at which input.
  Laid BY PROGRAM, IN A SANDBOX (cutbox-rows.mjs): the forced cells as the released guide's own fill.sh prints them over the translation 312bde6bc47495db… (all of the seat's roots in one cut). By AI agents, Wed Nov 11 2026. No macro, syntax, notation, axiom, sorry.
-/
import Derived.Test.YtbocpikgochioaaGreatDoorChecked
import GoSem.Claim
import GoSem.ClaimJoined
import GoSem.ClaimMapViews
import Derived.JoinedTies
import Derived.KernelRfl
namespace Go.Proofs.YtbocpikgochioaaGreatDoor
/- THE CELL 'sum', in the pinned program and in every row, IS THE sha256 OF THE DUMP (.gsa) THAT YtbocpikgochioaaGreatDoorProg.lean LOADS. Nothing in Lean hashes anything: it is a label: what it is worth is what the hold of that sum in a sandbox is worth. -/
noncomputable def Tryz.pinned : Pinned := { name := "ytbocpikgochioaagreatdoor", sum := "312bde6bc47495dbdb41ba73bf7643380653674675b4a0056645f377c99ec224", checked := Tryz.checked }
namespace Rows
def none {H : Type} : Left H := { results := [], args := [] }

/- WHAT THE LISTED PACKAGE-LEVEL VARIABLES READ AS WHEN THE CALL BEGINS. Each datum BY PROGRAM (the guide's laid-datum.mjs) off the statement by which the dump's own 'gosem.cut.vars' lays the variable. In a bare row this is a premise. The card (YtbocpikgochioaaGreatDoorCards.lean) ties it to the program's text. -/
def laid_math_bits_deBruijn32tab {H : Type} : DataW H := .agg [.lit (.int .u8 0), .lit (.int .u8 1), .lit (.int .u8 28), .lit (.int .u8 2), .lit (.int .u8 29), .lit (.int .u8 14), .lit (.int .u8 24), .lit (.int .u8 3), .lit (.int .u8 30), .lit (.int .u8 22), .lit (.int .u8 20), .lit (.int .u8 15), .lit (.int .u8 25), .lit (.int .u8 17), .lit (.int .u8 4), .lit (.int .u8 8), .lit (.int .u8 31), .lit (.int .u8 27), .lit (.int .u8 13), .lit (.int .u8 23), .lit (.int .u8 21), .lit (.int .u8 19), .lit (.int .u8 16), .lit (.int .u8 7), .lit (.int .u8 26), .lit (.int .u8 12), .lit (.int .u8 18), .lit (.int .u8 6), .lit (.int .u8 11), .lit (.int .u8 5), .lit (.int .u8 10), .lit (.int .u8 9)]
def laid_math_bits_deBruijn64tab {H : Type} : DataW H := .agg [.lit (.int .u8 0), .lit (.int .u8 1), .lit (.int .u8 56), .lit (.int .u8 2), .lit (.int .u8 57), .lit (.int .u8 49), .lit (.int .u8 28), .lit (.int .u8 3), .lit (.int .u8 61), .lit (.int .u8 58), .lit (.int .u8 42), .lit (.int .u8 50), .lit (.int .u8 38), .lit (.int .u8 29), .lit (.int .u8 17), .lit (.int .u8 4), .lit (.int .u8 62), .lit (.int .u8 47), .lit (.int .u8 59), .lit (.int .u8 36), .lit (.int .u8 45), .lit (.int .u8 43), .lit (.int .u8 51), .lit (.int .u8 22), .lit (.int .u8 53), .lit (.int .u8 39), .lit (.int .u8 33), .lit (.int .u8 30), .lit (.int .u8 24), .lit (.int .u8 18), .lit (.int .u8 12), .lit (.int .u8 5), .lit (.int .u8 63), .lit (.int .u8 55), .lit (.int .u8 48), .lit (.int .u8 27), .lit (.int .u8 60), .lit (.int .u8 41), .lit (.int .u8 37), .lit (.int .u8 16), .lit (.int .u8 46), .lit (.int .u8 35), .lit (.int .u8 44), .lit (.int .u8 21), .lit (.int .u8 52), .lit (.int .u8 32), .lit (.int .u8 23), .lit (.int .u8 11), .lit (.int .u8 54), .lit (.int .u8 26), .lit (.int .u8 40), .lit (.int .u8 15), .lit (.int .u8 34), .lit (.int .u8 20), .lit (.int .u8 31), .lit (.int .u8 10), .lit (.int .u8 25), .lit (.int .u8 14), .lit (.int .u8 19), .lit (.int .u8 9), .lit (.int .u8 13), .lit (.int .u8 8), .lit (.int .u8 7), .lit (.int .u8 6)]
def laid_internal_strconv_uint64pow10 {H : Type} : DataW H := .agg [.lit (.int .u64 1), .lit (.int .u64 10), .lit (.int .u64 100), .lit (.int .u64 1000), .lit (.int .u64 10000), .lit (.int .u64 100000), .lit (.int .u64 1000000), .lit (.int .u64 10000000), .lit (.int .u64 100000000), .lit (.int .u64 1000000000), .lit (.int .u64 10000000000), .lit (.int .u64 100000000000), .lit (.int .u64 1000000000000), .lit (.int .u64 10000000000000), .lit (.int .u64 100000000000000), .lit (.int .u64 1000000000000000), .lit (.int .u64 10000000000000000), .lit (.int .u64 100000000000000000), .lit (.int .u64 1000000000000000000), .lit (.int .u64 10000000000000000000)]
def laid_nacelle_rotor_powers {H : Type} : DataW H := .agg [.agg [.lit (.int .i64 1), .lit (.int .i64 0)], .agg [.lit (.int .i64 0), .lit (.int .i64 1)], .agg [.lit (.int .i64 (-1)), .lit (.int .i64 (-1))]]

/-- 'nacellelaw03.RotorInflows': WHATEVER THE INPUT: true; the input reads as it did. -/
def rotorInflowsSpec : ChangeSpec := { name := "rotorInflows", fn := fun _ => fun
  | [d1, d2, d3] => { results := [.lit (.bool true)], args := [d1, d2, d3] }
  | _ => none }
def rotorInflowsRow : OpenClaim := { program := "ytbocpikgochioaagreatdoor", sum := "312bde6bc47495dbdb41ba73bf7643380653674675b4a0056645f377c99ec224", func := "nacelle/nacellelaw03.RotorInflows", spec := "rotorInflows", inPlace := ["internal/abi.NoEscape"], unfollowed := true, recurses := true, named := ["nacelle/rotor.powers", "internal/strconv.uint64pow10", "math/bits.deBruijn32tab", "math/bits.deBruijn64tab"], apart := false, laid := [("math/bits.deBruijn32tab", laid_math_bits_deBruijn32tab), ("math/bits.deBruijn64tab", laid_math_bits_deBruijn64tab), ("internal/strconv.uint64pow10", laid_internal_strconv_uint64pow10), ("nacelle/rotor.powers", laid_nacelle_rotor_powers)] }
def RotorInflowsSaid : Prop := rotorInflowsRow.holds Tryz.pinned (OpenSpec.ofChange rotorInflowsSpec)

/-- ITS FALSE NEIGHBOUR: 'it returns false'. Refute it at one input. -/
def rotorInflowsWrong : ChangeSpec := { name := "rotorInflows", fn := fun _ => fun
  | [d1, d2, d3] => { results := [.lit (.bool false)], args := [d1, d2, d3] }
  | _ => none }
def RotorInflowsWrongFalsely : Prop := rotorInflowsRow.holds Tryz.pinned (OpenSpec.ofChange rotorInflowsWrong)

/-- 'nacellelaw03.RotorBrackets': WHATEVER THE INPUT: true; the input reads as it did. -/
def rotorBracketsSpec : ChangeSpec := { name := "rotorBrackets", fn := fun _ => fun
  | [d1, d2, d3] => { results := [.lit (.bool true)], args := [d1, d2, d3] }
  | _ => none }
def rotorBracketsRow : OpenClaim := { program := "ytbocpikgochioaagreatdoor", sum := "312bde6bc47495dbdb41ba73bf7643380653674675b4a0056645f377c99ec224", func := "nacelle/nacellelaw03.RotorBrackets", spec := "rotorBrackets", inPlace := ["internal/abi.NoEscape"], unfollowed := true, recurses := true, named := ["nacelle/rotor.powers", "internal/strconv.uint64pow10", "math/bits.deBruijn32tab", "math/bits.deBruijn64tab"], apart := false, laid := [("math/bits.deBruijn32tab", laid_math_bits_deBruijn32tab), ("math/bits.deBruijn64tab", laid_math_bits_deBruijn64tab), ("internal/strconv.uint64pow10", laid_internal_strconv_uint64pow10), ("nacelle/rotor.powers", laid_nacelle_rotor_powers)] }
def RotorBracketsSaid : Prop := rotorBracketsRow.holds Tryz.pinned (OpenSpec.ofChange rotorBracketsSpec)

/-- ITS FALSE NEIGHBOUR: 'it returns false'. Refute it at one input. -/
def rotorBracketsWrong : ChangeSpec := { name := "rotorBrackets", fn := fun _ => fun
  | [d1, d2, d3] => { results := [.lit (.bool false)], args := [d1, d2, d3] }
  | _ => none }
def RotorBracketsWrongFalsely : Prop := rotorBracketsRow.holds Tryz.pinned (OpenSpec.ofChange rotorBracketsWrong)

/-- 'nacellelaw03.RotorForces': WHATEVER THE INPUT: true; the input reads as it did. -/
def rotorForcesSpec : ChangeSpec := { name := "rotorForces", fn := fun _ => fun
  | [d1, d2, d3] => { results := [.lit (.bool true)], args := [d1, d2, d3] }
  | _ => none }
def rotorForcesRow : OpenClaim := { program := "ytbocpikgochioaagreatdoor", sum := "312bde6bc47495dbdb41ba73bf7643380653674675b4a0056645f377c99ec224", func := "nacelle/nacellelaw03.RotorForces", spec := "rotorForces", inPlace := ["internal/abi.NoEscape"], unfollowed := true, recurses := true, named := ["nacelle/rotor.powers", "internal/strconv.uint64pow10", "math/bits.deBruijn32tab", "math/bits.deBruijn64tab"], apart := false, laid := [("math/bits.deBruijn32tab", laid_math_bits_deBruijn32tab), ("math/bits.deBruijn64tab", laid_math_bits_deBruijn64tab), ("internal/strconv.uint64pow10", laid_internal_strconv_uint64pow10), ("nacelle/rotor.powers", laid_nacelle_rotor_powers)] }
def RotorForcesSaid : Prop := rotorForcesRow.holds Tryz.pinned (OpenSpec.ofChange rotorForcesSpec)

/-- ITS FALSE NEIGHBOUR: 'it returns false'. Refute it at one input. -/
def rotorForcesWrong : ChangeSpec := { name := "rotorForces", fn := fun _ => fun
  | [d1, d2, d3] => { results := [.lit (.bool false)], args := [d1, d2, d3] }
  | _ => none }
def RotorForcesWrongFalsely : Prop := rotorForcesRow.holds Tryz.pinned (OpenSpec.ofChange rotorForcesWrong)

/-- 'nacellelaw03.RotorPitches': WHATEVER THE INPUT: true; the input reads as it did. -/
def rotorPitchesSpec : ChangeSpec := { name := "rotorPitches", fn := fun _ => fun
  | [d1, d2, d3] => { results := [.lit (.bool true)], args := [d1, d2, d3] }
  | _ => none }
def rotorPitchesRow : OpenClaim := { program := "ytbocpikgochioaagreatdoor", sum := "312bde6bc47495dbdb41ba73bf7643380653674675b4a0056645f377c99ec224", func := "nacelle/nacellelaw03.RotorPitches", spec := "rotorPitches", inPlace := ["internal/abi.NoEscape"], unfollowed := true, recurses := true, named := ["nacelle/rotor.powers", "internal/strconv.uint64pow10", "math/bits.deBruijn32tab", "math/bits.deBruijn64tab"], apart := false, laid := [("math/bits.deBruijn32tab", laid_math_bits_deBruijn32tab), ("math/bits.deBruijn64tab", laid_math_bits_deBruijn64tab), ("internal/strconv.uint64pow10", laid_internal_strconv_uint64pow10), ("nacelle/rotor.powers", laid_nacelle_rotor_powers)] }
def RotorPitchesSaid : Prop := rotorPitchesRow.holds Tryz.pinned (OpenSpec.ofChange rotorPitchesSpec)

/-- ITS FALSE NEIGHBOUR: 'it returns false'. Refute it at one input. -/
def rotorPitchesWrong : ChangeSpec := { name := "rotorPitches", fn := fun _ => fun
  | [d1, d2, d3] => { results := [.lit (.bool false)], args := [d1, d2, d3] }
  | _ => none }
def RotorPitchesWrongFalsely : Prop := rotorPitchesRow.holds Tryz.pinned (OpenSpec.ofChange rotorPitchesWrong)

/-- 'nacellelaw03.RotorLoads': WHATEVER THE INPUT: true; the input reads as it did. -/
def rotorLoadsSpec : ChangeSpec := { name := "rotorLoads", fn := fun _ => fun
  | [d1, d2] => { results := [.lit (.bool true)], args := [d1, d2] }
  | _ => none }
def rotorLoadsRow : OpenClaim := { program := "ytbocpikgochioaagreatdoor", sum := "312bde6bc47495dbdb41ba73bf7643380653674675b4a0056645f377c99ec224", func := "nacelle/nacellelaw03.RotorLoads", spec := "rotorLoads", inPlace := ["internal/abi.NoEscape"], unfollowed := true, recurses := true, named := ["nacelle/rotor.powers", "internal/strconv.uint64pow10", "math/bits.deBruijn32tab", "math/bits.deBruijn64tab"], apart := false, laid := [("math/bits.deBruijn32tab", laid_math_bits_deBruijn32tab), ("math/bits.deBruijn64tab", laid_math_bits_deBruijn64tab), ("internal/strconv.uint64pow10", laid_internal_strconv_uint64pow10), ("nacelle/rotor.powers", laid_nacelle_rotor_powers)] }
def RotorLoadsSaid : Prop := rotorLoadsRow.holds Tryz.pinned (OpenSpec.ofChange rotorLoadsSpec)

/-- ITS FALSE NEIGHBOUR: 'it returns false'. Refute it at one input. -/
def rotorLoadsWrong : ChangeSpec := { name := "rotorLoads", fn := fun _ => fun
  | [d1, d2] => { results := [.lit (.bool false)], args := [d1, d2] }
  | _ => none }
def RotorLoadsWrongFalsely : Prop := rotorLoadsRow.holds Tryz.pinned (OpenSpec.ofChange rotorLoadsWrong)

/-- 'nacellelaw03.RotorChosen': WHATEVER THE INPUT: true; the input reads as it did. -/
def rotorChosenSpec : ChangeSpec := { name := "rotorChosen", fn := fun _ => fun
  | [d1, d2, d3] => { results := [.lit (.bool true)], args := [d1, d2, d3] }
  | _ => none }
def rotorChosenRow : OpenClaim := { program := "ytbocpikgochioaagreatdoor", sum := "312bde6bc47495dbdb41ba73bf7643380653674675b4a0056645f377c99ec224", func := "nacelle/nacellelaw03.RotorChosen", spec := "rotorChosen", inPlace := ["internal/abi.NoEscape"], unfollowed := true, recurses := true, named := ["nacelle/rotor.powers", "internal/strconv.uint64pow10", "math/bits.deBruijn32tab", "math/bits.deBruijn64tab"], apart := false, laid := [("math/bits.deBruijn32tab", laid_math_bits_deBruijn32tab), ("math/bits.deBruijn64tab", laid_math_bits_deBruijn64tab), ("internal/strconv.uint64pow10", laid_internal_strconv_uint64pow10), ("nacelle/rotor.powers", laid_nacelle_rotor_powers)] }
def RotorChosenSaid : Prop := rotorChosenRow.holds Tryz.pinned (OpenSpec.ofChange rotorChosenSpec)

/-- ITS FALSE NEIGHBOUR: 'it returns false'. Refute it at one input. -/
def rotorChosenWrong : ChangeSpec := { name := "rotorChosen", fn := fun _ => fun
  | [d1, d2, d3] => { results := [.lit (.bool false)], args := [d1, d2, d3] }
  | _ => none }
def RotorChosenWrongFalsely : Prop := rotorChosenRow.holds Tryz.pinned (OpenSpec.ofChange rotorChosenWrong)

/- THE SECOND FORM. 'bulk': how many values and letters a reading holds, each counted each time it is reached (what is shared counts as often as it is met; a slice's spare places count too). A statement '..UptoSaid' is the law's where the arguments, and the package variables that the reading takes, are together of bulk at most 1048576: NARROWER than '..Said'. Prove '..Said' where nothing that the law and all that it calls make is longer than what came in: it says more and counts as full. Else prove '..UptoSaid'. A law counts once. -/
mutual
def uptoBulk {H : Type} : DataW H → Nat
  | .lit (.string bytes) => bytes.length + 1
  | .lit _ => 1
  | .nil => 1
  | .ptr d => uptoBulk d + 1
  | .slice elems spare => uptoBulkAll elems + uptoBulkAll spare + 1
  | .agg parts => uptoBulkAll parts + 1
  | .iface _ d => uptoBulk d + 1
  | .map entries => uptoBulkEntries entries + 1
  | .held _ => 1
def uptoBulkAll {H : Type} : List (DataW H) → Nat
  | [] => 0
  | d :: r => uptoBulk d + uptoBulkAll r
def uptoBulkEntries {H : Type} : List (Lit × DataW H) → Nat
  | [] => 0
  | x :: r => uptoBulkEntry x + uptoBulkEntries r
def uptoBulkEntry {H : Type} : Lit × DataW H → Nat
  | (.string bytes, d) => bytes.length + uptoBulk d + 1
  | (_, d) => uptoBulk d + 1
 end
def uptoSmall : (H : Type) → List (DataW H) → Bool := fun _ ds => decide (uptoBulkAll ds ≤ 1048576)
def OpenSpec.upto (s : _root_.Go.ChangeSpec) : _root_.Go.OpenSpec := { _root_.Go.OpenSpec.ofChange s with cond := some uptoSmall }

/-- 'nacellelaw03.RotorInflows', WHERE WHAT IT READS IS OF BULK AT MOST 1048576: true; the input reads as it did. -/
def rotorInflowsUptoRow : OpenClaim := { program := "ytbocpikgochioaagreatdoor", sum := "312bde6bc47495dbdb41ba73bf7643380653674675b4a0056645f377c99ec224", func := "nacelle/nacellelaw03.RotorInflows", spec := "rotorInflows", inPlace := ["internal/abi.NoEscape"], unfollowed := true, recurses := true, named := ["nacelle/rotor.powers", "internal/strconv.uint64pow10", "math/bits.deBruijn32tab", "math/bits.deBruijn64tab"], apart := false, laid := [("math/bits.deBruijn32tab", laid_math_bits_deBruijn32tab), ("math/bits.deBruijn64tab", laid_math_bits_deBruijn64tab), ("internal/strconv.uint64pow10", laid_internal_strconv_uint64pow10), ("nacelle/rotor.powers", laid_nacelle_rotor_powers)], narrowed := true }
def RotorInflowsUptoSaid : Prop := rotorInflowsUptoRow.holds Tryz.pinned (OpenSpec.upto rotorInflowsSpec)

/-- 'nacellelaw03.RotorBrackets', WHERE WHAT IT READS IS OF BULK AT MOST 1048576: true; the input reads as it did. -/
def rotorBracketsUptoRow : OpenClaim := { program := "ytbocpikgochioaagreatdoor", sum := "312bde6bc47495dbdb41ba73bf7643380653674675b4a0056645f377c99ec224", func := "nacelle/nacellelaw03.RotorBrackets", spec := "rotorBrackets", inPlace := ["internal/abi.NoEscape"], unfollowed := true, recurses := true, named := ["nacelle/rotor.powers", "internal/strconv.uint64pow10", "math/bits.deBruijn32tab", "math/bits.deBruijn64tab"], apart := false, laid := [("math/bits.deBruijn32tab", laid_math_bits_deBruijn32tab), ("math/bits.deBruijn64tab", laid_math_bits_deBruijn64tab), ("internal/strconv.uint64pow10", laid_internal_strconv_uint64pow10), ("nacelle/rotor.powers", laid_nacelle_rotor_powers)], narrowed := true }
def RotorBracketsUptoSaid : Prop := rotorBracketsUptoRow.holds Tryz.pinned (OpenSpec.upto rotorBracketsSpec)

/-- 'nacellelaw03.RotorForces', WHERE WHAT IT READS IS OF BULK AT MOST 1048576: true; the input reads as it did. -/
def rotorForcesUptoRow : OpenClaim := { program := "ytbocpikgochioaagreatdoor", sum := "312bde6bc47495dbdb41ba73bf7643380653674675b4a0056645f377c99ec224", func := "nacelle/nacellelaw03.RotorForces", spec := "rotorForces", inPlace := ["internal/abi.NoEscape"], unfollowed := true, recurses := true, named := ["nacelle/rotor.powers", "internal/strconv.uint64pow10", "math/bits.deBruijn32tab", "math/bits.deBruijn64tab"], apart := false, laid := [("math/bits.deBruijn32tab", laid_math_bits_deBruijn32tab), ("math/bits.deBruijn64tab", laid_math_bits_deBruijn64tab), ("internal/strconv.uint64pow10", laid_internal_strconv_uint64pow10), ("nacelle/rotor.powers", laid_nacelle_rotor_powers)], narrowed := true }
def RotorForcesUptoSaid : Prop := rotorForcesUptoRow.holds Tryz.pinned (OpenSpec.upto rotorForcesSpec)

/-- 'nacellelaw03.RotorPitches', WHERE WHAT IT READS IS OF BULK AT MOST 1048576: true; the input reads as it did. -/
def rotorPitchesUptoRow : OpenClaim := { program := "ytbocpikgochioaagreatdoor", sum := "312bde6bc47495dbdb41ba73bf7643380653674675b4a0056645f377c99ec224", func := "nacelle/nacellelaw03.RotorPitches", spec := "rotorPitches", inPlace := ["internal/abi.NoEscape"], unfollowed := true, recurses := true, named := ["nacelle/rotor.powers", "internal/strconv.uint64pow10", "math/bits.deBruijn32tab", "math/bits.deBruijn64tab"], apart := false, laid := [("math/bits.deBruijn32tab", laid_math_bits_deBruijn32tab), ("math/bits.deBruijn64tab", laid_math_bits_deBruijn64tab), ("internal/strconv.uint64pow10", laid_internal_strconv_uint64pow10), ("nacelle/rotor.powers", laid_nacelle_rotor_powers)], narrowed := true }
def RotorPitchesUptoSaid : Prop := rotorPitchesUptoRow.holds Tryz.pinned (OpenSpec.upto rotorPitchesSpec)

/-- 'nacellelaw03.RotorLoads', WHERE WHAT IT READS IS OF BULK AT MOST 1048576: true; the input reads as it did. -/
def rotorLoadsUptoRow : OpenClaim := { program := "ytbocpikgochioaagreatdoor", sum := "312bde6bc47495dbdb41ba73bf7643380653674675b4a0056645f377c99ec224", func := "nacelle/nacellelaw03.RotorLoads", spec := "rotorLoads", inPlace := ["internal/abi.NoEscape"], unfollowed := true, recurses := true, named := ["nacelle/rotor.powers", "internal/strconv.uint64pow10", "math/bits.deBruijn32tab", "math/bits.deBruijn64tab"], apart := false, laid := [("math/bits.deBruijn32tab", laid_math_bits_deBruijn32tab), ("math/bits.deBruijn64tab", laid_math_bits_deBruijn64tab), ("internal/strconv.uint64pow10", laid_internal_strconv_uint64pow10), ("nacelle/rotor.powers", laid_nacelle_rotor_powers)], narrowed := true }
def RotorLoadsUptoSaid : Prop := rotorLoadsUptoRow.holds Tryz.pinned (OpenSpec.upto rotorLoadsSpec)

/-- 'nacellelaw03.RotorChosen', WHERE WHAT IT READS IS OF BULK AT MOST 1048576: true; the input reads as it did. -/
def rotorChosenUptoRow : OpenClaim := { program := "ytbocpikgochioaagreatdoor", sum := "312bde6bc47495dbdb41ba73bf7643380653674675b4a0056645f377c99ec224", func := "nacelle/nacellelaw03.RotorChosen", spec := "rotorChosen", inPlace := ["internal/abi.NoEscape"], unfollowed := true, recurses := true, named := ["nacelle/rotor.powers", "internal/strconv.uint64pow10", "math/bits.deBruijn32tab", "math/bits.deBruijn64tab"], apart := false, laid := [("math/bits.deBruijn32tab", laid_math_bits_deBruijn32tab), ("math/bits.deBruijn64tab", laid_math_bits_deBruijn64tab), ("internal/strconv.uint64pow10", laid_internal_strconv_uint64pow10), ("nacelle/rotor.powers", laid_nacelle_rotor_powers)], narrowed := true }
def RotorChosenUptoSaid : Prop := rotorChosenUptoRow.holds Tryz.pinned (OpenSpec.upto rotorChosenSpec)

end Rows
end Go.Proofs.YtbocpikgochioaaGreatDoor
