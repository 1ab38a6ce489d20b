import Derived.Test.YtafpmehhdcmllaaGreatDoorEngCard
import Derived.Test.YtafpmehhdcmllaaGreatDoorEngArg
import Derived.Test.YtafpmehhdcmllaaGreatDoorCards
import Derived.Test.YtafpmehhdcmllaaGreatDoorTie
namespace Go.Proofs.YtafpmehhdcmllaaGreatDoor.Shares
open Go Go.Ex Go.ChangeShapes Go.WideShapes Go.ChangeAt Go.RowKit
/-! the row's closed facts, in parts: at one go they are more than a process may hold -/
theorem and_t {a b : Bool} (h1 : a = true) (h2 : b = true) : (a && b) = true := by rw [h1, h2]; rfl

theorem q2 : (Rows.marketSharesRow.inPlace == Tryz.prog.inPlace 11) = true := by kernel_rfl
theorem q3 : (Rows.marketSharesRow.unfollowed == Tryz.prog.unfollowed 11) = true := by kernel_rfl
theorem q4 : (Rows.marketSharesRow.recurses == Tryz.prog.recurses 11) = true := by kernel_rfl
theorem q5 : (Rows.marketSharesRow.named == Tryz.prog.varsNamed 11) = true := by kernel_rfl
theorem q6 : (Rows.marketSharesRow.plainKeys == Tryz.prog.plainKeys) = true := by kernel_rfl
theorem q7 : Tryz.prog.stopsHeard = true := by kernel_rfl
theorem q8 : Tryz.prog.mayEnter = true := by kernel_rfl
theorem q9 : (Rows.marketSharesRow.lifted == Tryz.prog.liftsFinal) = true := by kernel_rfl
theorem q10 : (Tryz.prog.make == some Rows.marketSharesRow.make) = true := by kernel_rfl
theorem facts : joinedFacts Tryz.prog 11 Tryz.f11 (OpenSpec.ofChange Rows.marketSharesSpec).bare Rows.marketSharesRow = true := by
  unfold joinedFacts
  repeat' (with_reducible refine and_t ?_ ?_)
  all_goals with_reducible first
    | exact q2 | exact q3 | exact q4 | exact q5 | exact q6 | exact q7 | exact q8 | exact q9 | exact q10 | skip
  all_goals kernel_rfl
end Go.Proofs.YtafpmehhdcmllaaGreatDoor.Shares
