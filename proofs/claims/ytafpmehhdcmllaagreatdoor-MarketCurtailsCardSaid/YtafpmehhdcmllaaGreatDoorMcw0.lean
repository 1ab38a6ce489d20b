import Derived.Test.YtafpmehhdcmllaaGreatDoorEngCard
import Derived.Test.YtafpmehhdcmllaaGreatDoorEngArg
import Derived.Test.YtafpmehhdcmllaaGreatDoorCards
import Derived.Test.YtafpmehhdcmllaaGreatDoorTie
namespace Go.Proofs.YtafpmehhdcmllaaGreatDoor.Curtails
open Go Go.Ex Go.ChangeShapes Go.WideShapes Go.ChangeAt Go.RowKit
/-! the row's closed facts, in parts: at one go they are more than a process may hold -/
theorem and_t {a b : Bool} (h1 : a = true) (h2 : b = true) : (a && b) = true := by rw [h1, h2]; rfl

theorem q2 : (Rows.marketCurtailsRow.inPlace == Tryz.prog.inPlace 6) = true := by kernel_rfl
theorem q3 : (Rows.marketCurtailsRow.unfollowed == Tryz.prog.unfollowed 6) = true := by kernel_rfl
theorem q4 : (Rows.marketCurtailsRow.recurses == Tryz.prog.recurses 6) = true := by kernel_rfl
theorem q5 : (Rows.marketCurtailsRow.named == Tryz.prog.varsNamed 6) = true := by kernel_rfl
theorem q6 : (Rows.marketCurtailsRow.plainKeys == Tryz.prog.plainKeys) = true := by kernel_rfl
theorem q7 : Tryz.prog.stopsHeard = true := by kernel_rfl
theorem q8 : Tryz.prog.mayEnter = true := by kernel_rfl
theorem q9 : (Rows.marketCurtailsRow.lifted == Tryz.prog.liftsFinal) = true := by kernel_rfl
theorem q10 : (Tryz.prog.make == some Rows.marketCurtailsRow.make) = true := by kernel_rfl
theorem facts : joinedFacts Tryz.prog 6 Tryz.f6 (OpenSpec.ofChange Rows.marketCurtailsSpec).bare Rows.marketCurtailsRow = true := by
  unfold joinedFacts
  repeat' (with_reducible refine and_t ?_ ?_)
  all_goals with_reducible first
    | exact q2 | exact q3 | exact q4 | exact q5 | exact q6 | exact q7 | exact q8 | exact q9 | exact q10 | skip
  all_goals kernel_rfl
end Go.Proofs.YtafpmehhdcmllaaGreatDoor.Curtails
