/-
  No cell of these rows narrows 'for every input' (looked for: loops, veiled, ifaces, maps, wideKeys, modest, calm, conditions, laid).
  DERIVED. THE GIVEN ROWS OF THIS SEAT. 3 by the template 'for every input the law returns true; each argument reads behind the call as it read before'; 0 by the template 'total and deterministic' (their statements: YteemponkignnhaaGreatTotals.lean).
  GIVEN WITH THE SEED: the statements are not yours to turn. If you find one false, say at which input.
  Laid BY PROGRAM, IN A SANDBOX (cutbox-rows.mjs): the forced cells as the released guide's own fill.sh prints them over the translation 654a6ef014c53e1b… (all of the seat's roots in one cut). By AI agents, Wed Nov 11 2026. No macro, syntax, notation, axiom, sorry.
-/
import Derived.Test.YteemponkignnhaaGreatChecked
import GoSem.Claim
import GoSem.ClaimJoined
import GoSem.ClaimMapViews
import Derived.JoinedTies
import Derived.KernelRfl
namespace Go.Proofs.YteemponkignnhaaGreat
/- THE CELL 'sum', in the pinned program and in every row, IS THE sha256 OF THE DUMP (.gsa) THAT YteemponkignnhaaGreatProg.lean LOADS. Nothing in Lean hashes anything: it is a label: what it is worth is what the hold of that sum in a sandbox is worth. -/
noncomputable def Tryz.pinned : Pinned := { name := "yteemponkignnhaagreat", sum := "654a6ef014c53e1b8396ad3b089bb39a4a4218b83e9784ac9e12c7974ea8cd4a", checked := Tryz.checked }
namespace Rows
def none {H : Type} : Left H := { results := [], args := [] }

/-- 'nacellelaw07.LoadClasses': WHATEVER THE INPUT: true; the input reads as it did. -/
def loadClassesSpec : ChangeSpec := { name := "loadClasses", fn := fun _ => fun
  | [d1, d2, d3] => { results := [.lit (.bool true)], args := [d1, d2, d3] }
  | _ => none }
def loadClassesRow : OpenClaim := { program := "yteemponkignnhaagreat", sum := "654a6ef014c53e1b8396ad3b089bb39a4a4218b83e9784ac9e12c7974ea8cd4a", func := "nacelle/nacellelaw07.LoadClasses", spec := "loadClasses", unfollowed := true, recurses := true, apart := false }
def LoadClassesSaid : Prop := loadClassesRow.holds Tryz.pinned (OpenSpec.ofChange loadClassesSpec)

/-- ITS FALSE NEIGHBOUR: 'it returns false'. Refute it at one input. -/
def loadClassesWrong : ChangeSpec := { name := "loadClasses", fn := fun _ => fun
  | [d1, d2, d3] => { results := [.lit (.bool false)], args := [d1, d2, d3] }
  | _ => none }
def LoadClassesWrongFalsely : Prop := loadClassesRow.holds Tryz.pinned (OpenSpec.ofChange loadClassesWrong)

/-- 'nacellelaw07.LoadDamages': WHATEVER THE INPUT: true; the input reads as it did. -/
def loadDamagesSpec : ChangeSpec := { name := "loadDamages", fn := fun _ => fun
  | [d] => { results := [.lit (.bool true)], args := [d] }
  | _ => none }
def loadDamagesRow : OpenClaim := { program := "yteemponkignnhaagreat", sum := "654a6ef014c53e1b8396ad3b089bb39a4a4218b83e9784ac9e12c7974ea8cd4a", func := "nacelle/nacellelaw07.LoadDamages", spec := "loadDamages", unfollowed := true, recurses := true, apart := false }
def LoadDamagesSaid : Prop := loadDamagesRow.holds Tryz.pinned (OpenSpec.ofChange loadDamagesSpec)

/-- ITS FALSE NEIGHBOUR: 'it returns false'. Refute it at one input. -/
def loadDamagesWrong : ChangeSpec := { name := "loadDamages", fn := fun _ => fun
  | [d] => { results := [.lit (.bool false)], args := [d] }
  | _ => none }
def LoadDamagesWrongFalsely : Prop := loadDamagesRow.holds Tryz.pinned (OpenSpec.ofChange loadDamagesWrong)

/-- 'nacellelaw07.LoadLives': WHATEVER THE INPUT: true; the input reads as it did. -/
def loadLivesSpec : ChangeSpec := { name := "loadLives", fn := fun _ => fun
  | [d1, d2, d3] => { results := [.lit (.bool true)], args := [d1, d2, d3] }
  | _ => none }
def loadLivesRow : OpenClaim := { program := "yteemponkignnhaagreat", sum := "654a6ef014c53e1b8396ad3b089bb39a4a4218b83e9784ac9e12c7974ea8cd4a", func := "nacelle/nacellelaw07.LoadLives", spec := "loadLives", unfollowed := true, recurses := true, apart := false }
def LoadLivesSaid : Prop := loadLivesRow.holds Tryz.pinned (OpenSpec.ofChange loadLivesSpec)

/-- ITS FALSE NEIGHBOUR: 'it returns false'. Refute it at one input. -/
def loadLivesWrong : ChangeSpec := { name := "loadLives", fn := fun _ => fun
  | [d1, d2, d3] => { results := [.lit (.bool false)], args := [d1, d2, d3] }
  | _ => none }
def LoadLivesWrongFalsely : Prop := loadLivesRow.holds Tryz.pinned (OpenSpec.ofChange loadLivesWrong)

/- THE SECOND FORM. 'bulk': how many values and letters a reading holds, each counted each time it is reached (what is shared counts as often as it is met; a slice's spare places count too). A statement '..UptoSaid' is the law's where the arguments, and the package variables that the reading takes, are together of bulk at most 1048576: NARROWER than '..Said'. Prove '..Said' where nothing that the law and all that it calls make is longer than what came in: it says more and counts as full. Else prove '..UptoSaid'. A law counts once. -/
mutual
def uptoBulk {H : Type} : DataW H → Nat
  | .lit (.string bytes) => bytes.length + 1
  | .lit _ => 1
  | .nil => 1
  | .ptr d => uptoBulk d + 1
  | .slice elems spare => uptoBulkAll elems + uptoBulkAll spare + 1
  | .agg parts => uptoBulkAll parts + 1
  | .iface _ d => uptoBulk d + 1
  | .map entries => uptoBulkEntries entries + 1
  | .held _ => 1
def uptoBulkAll {H : Type} : List (DataW H) → Nat
  | [] => 0
  | d :: r => uptoBulk d + uptoBulkAll r
def uptoBulkEntries {H : Type} : List (Lit × DataW H) → Nat
  | [] => 0
  | x :: r => uptoBulkEntry x + uptoBulkEntries r
def uptoBulkEntry {H : Type} : Lit × DataW H → Nat
  | (.string bytes, d) => bytes.length + uptoBulk d + 1
  | (_, d) => uptoBulk d + 1
 end
def uptoSmall : (H : Type) → List (DataW H) → Bool := fun _ ds => decide (uptoBulkAll ds ≤ 1048576)
def OpenSpec.upto (s : _root_.Go.ChangeSpec) : _root_.Go.OpenSpec := { _root_.Go.OpenSpec.ofChange s with cond := some uptoSmall }

/-- 'nacellelaw07.LoadClasses', WHERE WHAT IT READS IS OF BULK AT MOST 1048576: true; the input reads as it did. -/
def loadClassesUptoRow : OpenClaim := { program := "yteemponkignnhaagreat", sum := "654a6ef014c53e1b8396ad3b089bb39a4a4218b83e9784ac9e12c7974ea8cd4a", func := "nacelle/nacellelaw07.LoadClasses", spec := "loadClasses", unfollowed := true, recurses := true, apart := false, narrowed := true }
def LoadClassesUptoSaid : Prop := loadClassesUptoRow.holds Tryz.pinned (OpenSpec.upto loadClassesSpec)

/-- 'nacellelaw07.LoadDamages', WHERE WHAT IT READS IS OF BULK AT MOST 1048576: true; the input reads as it did. -/
def loadDamagesUptoRow : OpenClaim := { program := "yteemponkignnhaagreat", sum := "654a6ef014c53e1b8396ad3b089bb39a4a4218b83e9784ac9e12c7974ea8cd4a", func := "nacelle/nacellelaw07.LoadDamages", spec := "loadDamages", unfollowed := true, recurses := true, apart := false, narrowed := true }
def LoadDamagesUptoSaid : Prop := loadDamagesUptoRow.holds Tryz.pinned (OpenSpec.upto loadDamagesSpec)

/-- 'nacellelaw07.LoadLives', WHERE WHAT IT READS IS OF BULK AT MOST 1048576: true; the input reads as it did. -/
def loadLivesUptoRow : OpenClaim := { program := "yteemponkignnhaagreat", sum := "654a6ef014c53e1b8396ad3b089bb39a4a4218b83e9784ac9e12c7974ea8cd4a", func := "nacelle/nacellelaw07.LoadLives", spec := "loadLives", unfollowed := true, recurses := true, apart := false, narrowed := true }
def LoadLivesUptoSaid : Prop := loadLivesUptoRow.holds Tryz.pinned (OpenSpec.upto loadLivesSpec)

end Rows
end Go.Proofs.YteemponkignnhaaGreat
