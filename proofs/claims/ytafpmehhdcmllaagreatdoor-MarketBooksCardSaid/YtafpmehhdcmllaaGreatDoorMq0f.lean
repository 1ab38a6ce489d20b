import Derived.Test.YtafpmehhdcmllaaGreatDoorEngCard
import Derived.Test.YtafpmehhdcmllaaGreatDoorEngArg
import Derived.Test.YtafpmehhdcmllaaGreatDoorCards
import Derived.Test.YtafpmehhdcmllaaGreatDoorTie
namespace Go.Proofs.YtafpmehhdcmllaaGreatDoor.Books
open Go Go.Ex Go.ChangeShapes Go.WideShapes Go.ChangeAt Go.RowKit
/-! the row's closed facts, in parts: at one go they are more than a process may hold -/
theorem and_t {a b : Bool} (h1 : a = true) (h2 : b = true) : (a && b) = true := by rw [h1, h2]; rfl

theorem q2 : (Rows.marketBooksRow.inPlace == Tryz.prog.inPlace 12) = true := by kernel_rfl
theorem q3 : (Rows.marketBooksRow.unfollowed == Tryz.prog.unfollowed 12) = true := by kernel_rfl
theorem q4 : (Rows.marketBooksRow.recurses == Tryz.prog.recurses 12) = true := by kernel_rfl
theorem q5 : (Rows.marketBooksRow.named == Tryz.prog.varsNamed 12) = true := by kernel_rfl
theorem q6 : (Rows.marketBooksRow.plainKeys == Tryz.prog.plainKeys) = true := by kernel_rfl
theorem q7 : Tryz.prog.stopsHeard = true := by kernel_rfl
theorem q8 : Tryz.prog.mayEnter = true := by kernel_rfl
theorem q9 : (Rows.marketBooksRow.lifted == Tryz.prog.liftsFinal) = true := by kernel_rfl
theorem q10 : (Tryz.prog.make == some Rows.marketBooksRow.make) = true := by kernel_rfl
theorem facts : joinedFacts Tryz.prog 12 Tryz.f12 (OpenSpec.ofChange Rows.marketBooksSpec).bare Rows.marketBooksRow = true := by
  unfold joinedFacts
  repeat' (with_reducible refine and_t ?_ ?_)
  all_goals with_reducible first
    | exact q2 | exact q3 | exact q4 | exact q5 | exact q6 | exact q7 | exact q8 | exact q9 | exact q10 | skip
  all_goals kernel_rfl
end Go.Proofs.YtafpmehhdcmllaaGreatDoor.Books
