/- Part of the proof. -/
import Derived.Test.YteemponkignnhaaGreatEngDrw
noncomputable section
namespace Go.Ex
open Go.RowKit
noncomputable def execS (P : Program) (G : Nat) (n : Nat) : Task → Option Res :=
  Nat.rec (motive := fun _ => Task → Option Res) (fun _ => none) (fun _ f => step f P G (drawX f P G)) n
theorem execS_sound (P : Program) (G : Nat) : ∀ n, SelfSound P G (execS P G n)
  | 0 => fun t r h => by cases h
  | n + 1 => fun t r h => step_sound (execS_sound P G n) (drawX_sound (execS_sound P G n)) t r h
end Go.Ex
