import Derived.Test.YtphadgdlknhbnaaLc2
import Derived.Test.YtphadgdlknhbnaaEngOrd5
set_option maxRecDepth 10000
noncomputable section
namespace Go.Proofs.Ytphadgdlknhbnaa.Ways
open Go Go.Ex Go.RowKit Go.Turn
section
variable (st : List Value) (t s l c : Nat) (ex : Bool)
end
def regC (id : Nat) : Nat → Code → Array Oper
  | 0, _ => #[]
  | k + 1, c => match c with
    | .region j o _ => cond (Nat.beq j id) o #[]
    | .seq a b => cond (Nat.beq (regC id k a).size 0) (regC id k b) (regC id k a)
    | .cond _ a b => cond (Nat.beq (regC id k a).size 0) (regC id k b) (regC id k a)
    | .block _ a => regC id k a
    | .loop a => regC id k a
    | .scope a => regC id k a
    | _ => #[]
theorem mixU : Try.prog.follows .mixedOrders = true := by kernel_rfl
def w3 (l : Nat) : Int := wrapF .i64 ((l : Int) - 3)
def w2 (l : Nat) : Int := wrapF .i64 ((l : Int) - 2)
def w1 (l : Nat) : Int := wrapF .i64 ((l : Int) - 1)
def slN (w : Int) (l : Nat) : Bool := leF 0 0 && (leF 0 w && leF w l)
end Go.Proofs.Ytphadgdlknhbnaa.Ways
set_option maxRecDepth 10000
noncomputable section
namespace Go.Proofs.Ytphadgdlknhbnaa.Ways
open Go Go.Ex Go.RowKit Go.Turn
section
end
section
end
section
variable {cs st : List Value} {n c l : Nat} {j : Int} {t s : Nat} {ex : Bool}
end
section
variable {cs st : List Value} {n c l : Nat} {j : Int} {t s : Nat} {ex : Bool}
end
section
variable {cs st : List Value} {n c l : Nat} {j : Int} {t s : Nat} {ex : Bool}
end
end Go.Proofs.Ytphadgdlknhbnaa.Ways
set_option maxRecDepth 10000
noncomputable section
namespace Go.Proofs.Ytphadgdlknhbnaa.Ways
open Go Go.Ex Go.RowKit Go.Turn
section
end
section
end
section
variable {cs st cy : List Value} {n c l lc : Nat} {j : Int} {t s : Nat} {ex : Bool}
end
section
variable {cs st cy : List Value} {n c l lc : Nat} {j : Int} {t s : Nat} {ex : Bool}
end
section
variable {cs st cy : List Value} {n c l lc : Nat} {j : Int} {t s : Nat} {ex : Bool}
end
end Go.Proofs.Ytphadgdlknhbnaa.Ways
set_option maxRecDepth 10000
noncomputable section
namespace Go.Proofs.Ytphadgdlknhbnaa.Ways
open Go Go.Ex Go.RowKit Go.Turn
section
end
section
end
section
variable {cs : List Value} {n c : Nat} {t s : Nat} {ex : Bool}
end
section
variable {cs : List Value} {n c : Nat} {t s : Nat} {ex : Bool}
end
section
variable {cs : List Value} {n c : Nat} {t s : Nat} {ex : Bool}
end
end Go.Proofs.Ytphadgdlknhbnaa.Ways
set_option maxRecDepth 10000
noncomputable section
namespace Go.Proofs.Ytphadgdlknhbnaa.Ways
open Go Go.Ex Go.RowKit Go.Turn
section
end
section
end
section
variable {cs st : List Value} {n c l : Nat} {j : Int} {t s : Nat} {ex : Bool}
end
section
variable {cs st : List Value} {n c l : Nat} {j : Int} {t s : Nat} {ex : Bool}
end
section
variable {cs st : List Value} {n c l : Nat} {j : Int} {t s : Nat} {ex : Bool}
end
end Go.Proofs.Ytphadgdlknhbnaa.Ways
set_option maxRecDepth 10000
noncomputable section
namespace Go.Proofs.Ytphadgdlknhbnaa.Ways
open Go Go.Ex Go.RowKit Go.Turn
section
end
section
end
section
variable {cs st cy : List Value} {n c l lc : Nat} {j : Int} {t s : Nat} {ex : Bool}
end
section
variable {cs st cy : List Value} {n c l lc : Nat} {j : Int} {t s : Nat} {ex : Bool}
end
section
variable {cs st cy : List Value} {n c l lc : Nat} {j : Int} {t s : Nat} {ex : Bool}
end
end Go.Proofs.Ytphadgdlknhbnaa.Ways
set_option maxRecDepth 10000
noncomputable section
namespace Go.Proofs.Ytphadgdlknhbnaa.Ways
open Go Go.Ex Go.RowKit Go.Turn
section
end
section
end
section
variable {cs st cy : List Value} {n c l lc : Nat} {j : Int} {t s : Nat} {ex : Bool}
end
section
variable {cs st cy : List Value} {n c l lc : Nat} {j : Int} {t s : Nat} {ex : Bool}
end
section
variable {cs st cy : List Value} {n c l lc : Nat} {j : Int} {t s : Nat} {ex : Bool}
end
end Go.Proofs.Ytphadgdlknhbnaa.Ways
set_option maxRecDepth 10000
noncomputable section
namespace Go.Proofs.Ytphadgdlknhbnaa.Ways
open Go Go.Ex Go.RowKit Go.Turn
section
end
section
end
section
variable {cs st cy : List Value} {n c l lc : Nat} {j : Int} {t s : Nat} {ex : Bool}
end
section
variable {cs st cy : List Value} {n c l lc : Nat} {j : Int} {t s : Nat} {ex : Bool}
end
section
variable {cs st cy : List Value} {n c l lc : Nat} {j : Int} {t s : Nat} {ex : Bool}
end
end Go.Proofs.Ytphadgdlknhbnaa.Ways
set_option maxRecDepth 10000
noncomputable section
namespace Go.Proofs.Ytphadgdlknhbnaa.Ways
open Go Go.Ex Go.RowKit Go.Turn
section
end
section
end
section
variable {cs st cy : List Value} {n c l lc : Nat} {j : Int} {t s : Nat} {ex : Bool}
end
section
variable {cs st cy : List Value} {n c l lc : Nat} {j : Int} {t s : Nat} {ex : Bool}
end
section
variable {cs st cy : List Value} {n c l lc : Nat} {j : Int} {t s : Nat} {ex : Bool}
end
end Go.Proofs.Ytphadgdlknhbnaa.Ways
