/-
  No cell of these rows narrows 'for every input' (looked for: loops, veiled, ifaces, maps, wideKeys, modest, calm, conditions, laid).
  DERIVED. THE GIVEN ROWS OF THIS SEAT. 3 by the template 'for every input the law returns true; each argument reads behind the call as it read before'; 0 by the template 'total and deterministic' (their statements: YtdnogbdfiahcaaaGreatTotals.lean).
  GIVEN WITH THE SEED: the statements are not yours to turn. If you find one false, say at which input.
  Laid BY PROGRAM, IN A SANDBOX (cutbox-rows.mjs): the forced cells as the released guide's own fill.sh prints them over the translation 080341d88bfcb7f4… (all of the seat's roots in one cut). By AI agents, Wed Nov 11 2026. No macro, syntax, notation, axiom, sorry.
-/
import Derived.Test.YtdnogbdfiahcaaaGreatChecked
import GoSem.Claim
import GoSem.ClaimJoined
import GoSem.ClaimMapViews
import Derived.JoinedTies
import Derived.KernelRfl
namespace Go.Proofs.YtdnogbdfiahcaaaGreat
/- THE CELL 'sum', in the pinned program and in every row, IS THE sha256 OF THE DUMP (.gsa) THAT YtdnogbdfiahcaaaGreatProg.lean LOADS. Nothing in Lean hashes anything: it is a label: what it is worth is what the hold of that sum in a sandbox is worth. -/
noncomputable def Tryz.pinned : Pinned := { name := "ytdnogbdfiahcaaagreat", sum := "080341d88bfcb7f4547c9c3023a1a79f55307e64e4ab5efe5312b85ff4a5a7cb", checked := Tryz.checked }
namespace Rows
def none {H : Type} : Left H := { results := [], args := [] }

/-- 'nacellelaw04.VibrationCrossings': WHATEVER THE INPUT: true; the input reads as it did. -/
def vibrationCrossingsSpec : ChangeSpec := { name := "vibrationCrossings", fn := fun _ => fun
  | [d1, d2, d3] => { results := [.lit (.bool true)], args := [d1, d2, d3] }
  | _ => none }
def vibrationCrossingsRow : OpenClaim := { program := "ytdnogbdfiahcaaagreat", sum := "080341d88bfcb7f4547c9c3023a1a79f55307e64e4ab5efe5312b85ff4a5a7cb", func := "nacelle/nacellelaw04.VibrationCrossings", spec := "vibrationCrossings", inPlace := ["math.Float64bits", "math.Float64frombits", "math.archTrunc"], unfollowed := true, recurses := true, apart := false }
def VibrationCrossingsSaid : Prop := vibrationCrossingsRow.holds Tryz.pinned (OpenSpec.ofChange vibrationCrossingsSpec)

/-- ITS FALSE NEIGHBOUR: 'it returns false'. Refute it at one input. -/
def vibrationCrossingsWrong : ChangeSpec := { name := "vibrationCrossings", fn := fun _ => fun
  | [d1, d2, d3] => { results := [.lit (.bool false)], args := [d1, d2, d3] }
  | _ => none }
def VibrationCrossingsWrongFalsely : Prop := vibrationCrossingsRow.holds Tryz.pinned (OpenSpec.ofChange vibrationCrossingsWrong)

/-- 'nacellelaw04.VibrationAlarms': WHATEVER THE INPUT: true; the input reads as it did. -/
def vibrationAlarmsSpec : ChangeSpec := { name := "vibrationAlarms", fn := fun _ => fun
  | [d1, d2, d3] => { results := [.lit (.bool true)], args := [d1, d2, d3] }
  | _ => none }
def vibrationAlarmsRow : OpenClaim := { program := "ytdnogbdfiahcaaagreat", sum := "080341d88bfcb7f4547c9c3023a1a79f55307e64e4ab5efe5312b85ff4a5a7cb", func := "nacelle/nacellelaw04.VibrationAlarms", spec := "vibrationAlarms", inPlace := ["math.Float64bits", "math.Float64frombits", "math.archTrunc"], unfollowed := true, recurses := true, apart := false }
def VibrationAlarmsSaid : Prop := vibrationAlarmsRow.holds Tryz.pinned (OpenSpec.ofChange vibrationAlarmsSpec)

/-- ITS FALSE NEIGHBOUR: 'it returns false'. Refute it at one input. -/
def vibrationAlarmsWrong : ChangeSpec := { name := "vibrationAlarms", fn := fun _ => fun
  | [d1, d2, d3] => { results := [.lit (.bool false)], args := [d1, d2, d3] }
  | _ => none }
def VibrationAlarmsWrongFalsely : Prop := vibrationAlarmsRow.holds Tryz.pinned (OpenSpec.ofChange vibrationAlarmsWrong)

/-- 'nacellelaw04.VibrationVotes': WHATEVER THE INPUT: true; the input reads as it did. -/
def vibrationVotesSpec : ChangeSpec := { name := "vibrationVotes", fn := fun _ => fun
  | [d1, d2, d3] => { results := [.lit (.bool true)], args := [d1, d2, d3] }
  | _ => none }
def vibrationVotesRow : OpenClaim := { program := "ytdnogbdfiahcaaagreat", sum := "080341d88bfcb7f4547c9c3023a1a79f55307e64e4ab5efe5312b85ff4a5a7cb", func := "nacelle/nacellelaw04.VibrationVotes", spec := "vibrationVotes", inPlace := ["math.Float64bits", "math.Float64frombits", "math.archTrunc"], unfollowed := true, recurses := true, apart := false }
def VibrationVotesSaid : Prop := vibrationVotesRow.holds Tryz.pinned (OpenSpec.ofChange vibrationVotesSpec)

/-- ITS FALSE NEIGHBOUR: 'it returns false'. Refute it at one input. -/
def vibrationVotesWrong : ChangeSpec := { name := "vibrationVotes", fn := fun _ => fun
  | [d1, d2, d3] => { results := [.lit (.bool false)], args := [d1, d2, d3] }
  | _ => none }
def VibrationVotesWrongFalsely : Prop := vibrationVotesRow.holds Tryz.pinned (OpenSpec.ofChange vibrationVotesWrong)

/- THE SECOND FORM. 'bulk': how many values and letters a reading holds, each counted each time it is reached (what is shared counts as often as it is met; a slice's spare places count too). A statement '..UptoSaid' is the law's where the arguments, and the package variables that the reading takes, are together of bulk at most 1048576: NARROWER than '..Said'. Prove '..Said' where nothing that the law and all that it calls make is longer than what came in: it says more and counts as full. Else prove '..UptoSaid'. A law counts once. -/
mutual
def uptoBulk {H : Type} : DataW H → Nat
  | .lit (.string bytes) => bytes.length + 1
  | .lit _ => 1
  | .nil => 1
  | .ptr d => uptoBulk d + 1
  | .slice elems spare => uptoBulkAll elems + uptoBulkAll spare + 1
  | .agg parts => uptoBulkAll parts + 1
  | .iface _ d => uptoBulk d + 1
  | .map entries => uptoBulkEntries entries + 1
  | .held _ => 1
def uptoBulkAll {H : Type} : List (DataW H) → Nat
  | [] => 0
  | d :: r => uptoBulk d + uptoBulkAll r
def uptoBulkEntries {H : Type} : List (Lit × DataW H) → Nat
  | [] => 0
  | x :: r => uptoBulkEntry x + uptoBulkEntries r
def uptoBulkEntry {H : Type} : Lit × DataW H → Nat
  | (.string bytes, d) => bytes.length + uptoBulk d + 1
  | (_, d) => uptoBulk d + 1
 end
def uptoSmall : (H : Type) → List (DataW H) → Bool := fun _ ds => decide (uptoBulkAll ds ≤ 1048576)
def OpenSpec.upto (s : _root_.Go.ChangeSpec) : _root_.Go.OpenSpec := { _root_.Go.OpenSpec.ofChange s with cond := some uptoSmall }

/-- 'nacellelaw04.VibrationCrossings', WHERE WHAT IT READS IS OF BULK AT MOST 1048576: true; the input reads as it did. -/
def vibrationCrossingsUptoRow : OpenClaim := { program := "ytdnogbdfiahcaaagreat", sum := "080341d88bfcb7f4547c9c3023a1a79f55307e64e4ab5efe5312b85ff4a5a7cb", func := "nacelle/nacellelaw04.VibrationCrossings", spec := "vibrationCrossings", inPlace := ["math.Float64bits", "math.Float64frombits", "math.archTrunc"], unfollowed := true, recurses := true, apart := false, narrowed := true }
def VibrationCrossingsUptoSaid : Prop := vibrationCrossingsUptoRow.holds Tryz.pinned (OpenSpec.upto vibrationCrossingsSpec)

/-- 'nacellelaw04.VibrationAlarms', WHERE WHAT IT READS IS OF BULK AT MOST 1048576: true; the input reads as it did. -/
def vibrationAlarmsUptoRow : OpenClaim := { program := "ytdnogbdfiahcaaagreat", sum := "080341d88bfcb7f4547c9c3023a1a79f55307e64e4ab5efe5312b85ff4a5a7cb", func := "nacelle/nacellelaw04.VibrationAlarms", spec := "vibrationAlarms", inPlace := ["math.Float64bits", "math.Float64frombits", "math.archTrunc"], unfollowed := true, recurses := true, apart := false, narrowed := true }
def VibrationAlarmsUptoSaid : Prop := vibrationAlarmsUptoRow.holds Tryz.pinned (OpenSpec.upto vibrationAlarmsSpec)

/-- 'nacellelaw04.VibrationVotes', WHERE WHAT IT READS IS OF BULK AT MOST 1048576: true; the input reads as it did. -/
def vibrationVotesUptoRow : OpenClaim := { program := "ytdnogbdfiahcaaagreat", sum := "080341d88bfcb7f4547c9c3023a1a79f55307e64e4ab5efe5312b85ff4a5a7cb", func := "nacelle/nacellelaw04.VibrationVotes", spec := "vibrationVotes", inPlace := ["math.Float64bits", "math.Float64frombits", "math.archTrunc"], unfollowed := true, recurses := true, apart := false, narrowed := true }
def VibrationVotesUptoSaid : Prop := vibrationVotesUptoRow.holds Tryz.pinned (OpenSpec.upto vibrationVotesSpec)

end Rows
end Go.Proofs.YtdnogbdfiahcaaaGreat
