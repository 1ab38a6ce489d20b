/- Engine, part 18: the executor. -/
import Derived.Test.YtbbkjmoomflecaaEngDrw
noncomputable section
namespace Go.Ex
open Go.RowKit
noncomputable def execS (P : Program) (G : Nat) (n : Nat) : Task → Option Res :=
  Nat.rec (motive := fun _ => Task → Option Res) (fun _ => none) (fun _ f => step f P G (drawX f P G)) n
theorem execS_sound (P : Program) (G : Nat) : ∀ n, SelfSound P G (execS P G n)
  | 0 => fun t r h => by cases h
  | n + 1 => fun t r h => step_sound (execS_sound P G n) (drawX_sound (execS_sound P G n)) t r h
/-- for a look from outside -/
def execN (P : Program) (G : Nat) : Nat → Task → Option Res
  | 0 => fun _ => none
  | n + 1 => fun t => step (execN P G n) P G (drawX (execN P G n) P G) t

theorem exec_calls {P : Program} {G n : Nat} {f : FuncId} {args args' : Array Value} {H H' : CH} {v : Value} (h : execS P G n (.call f args H) = some (.val v H')) {w0 : World} {E : Env} {w : World} (hw : WR w0 G E H w) (ha : VRs E args args')
    {R : Ending → World → Prop} (hR : ∀ F v' w', WR w0 G (E ++ F) H' w' → VR (E ++ F) v v' → R (.returned v') w') : Calls P f args' w R :=
  CallsIn.calls (execS_sound P G n _ _ h w0 E args' w none 0 R hw ha hR) (fun _ _ h => by cases h)
def isSome' {α} : Option α → Bool | some _ => true | none => false
end Go.Ex
