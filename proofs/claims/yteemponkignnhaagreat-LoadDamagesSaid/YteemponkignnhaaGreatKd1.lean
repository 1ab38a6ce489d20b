import Derived.Test.YteemponkignnhaaGreatZz1
set_option maxRecDepth 10000
noncomputable section
namespace Go.Proofs.YteemponkignnhaaGreat.Ways
open Go Go.Ex Go.RowKit Go.Turn
section
variable (cs : List Value) (n : Nat) (t s : Nat) (ex : Bool)
end
end Go.Proofs.YteemponkignnhaaGreat.Ways
set_option maxRecDepth 10000
noncomputable section
namespace Go.Proofs.YteemponkignnhaaGreat.Ways
open Go Go.Ex Go.RowKit Go.Turn
end Go.Proofs.YteemponkignnhaaGreat.Ways
set_option maxRecDepth 10000
noncomputable section
namespace Go.Proofs.YteemponkignnhaaGreat.Ways
open Go Go.Ex Go.RowKit Go.Turn
section
variable (cs out : List Value) (n c l t s : Nat) (ex : Bool) (j lo hi : Int)
end
section
variable {cs out : List Value} {n c l t s : Nat} {ex : Bool} {j lo hi : Int}
end
end Go.Proofs.YteemponkignnhaaGreat.Ways
set_option maxRecDepth 10000
noncomputable section
namespace Go.Proofs.YteemponkignnhaaGreat.Ways
open Go Go.Ex Go.RowKit Go.Turn
section
end
section
end
section
variable {cs : List Value} {n c : Nat} {t s : Nat} {ex : Bool}
end
section
variable {cs : List Value} {n c : Nat} {t s : Nat} {ex : Bool}
end
section
variable {cs : List Value} {n c : Nat} {t s : Nat} {ex : Bool}
end
end Go.Proofs.YteemponkignnhaaGreat.Ways
set_option maxRecDepth 10000
noncomputable section
namespace Go.Proofs.YteemponkignnhaaGreat.Ways
open Go Go.Ex Go.RowKit Go.Turn
section
end
section
end
section
variable {cs st : List Value} {n c l : Nat} {j : Int} {t s : Nat} {ex : Bool}
end
section
variable {cs st : List Value} {n c l : Nat} {j : Int} {t s : Nat} {ex : Bool}
end
section
variable {cs st : List Value} {n c l : Nat} {j : Int} {t s : Nat} {ex : Bool}
end
end Go.Proofs.YteemponkignnhaaGreat.Ways
set_option maxRecDepth 10000
noncomputable section
namespace Go.Proofs.YteemponkignnhaaGreat.Ways
open Go Go.Ex Go.RowKit Go.Turn
section
end
section
end
section
variable {cs : List Value} {n c : Nat} {j lo hi : Int} {t s : Nat} {ex : Bool}
end
section
variable {cs : List Value} {n c : Nat} {j lo hi : Int} {t s : Nat} {ex : Bool}
end
section
variable {cs : List Value} {n c : Nat} {j lo hi : Int} {t s : Nat} {ex : Bool}
end
end Go.Proofs.YteemponkignnhaaGreat.Ways
set_option maxRecDepth 10000
noncomputable section
namespace Go.Proofs.YteemponkignnhaaGreat.Ways
open Go Go.Ex Go.RowKit Go.Turn
section
end
section
end
section
variable {cs st : List Value} {n c l : Nat} {j lo hi : Int} {t s : Nat} {ex : Bool}
end
section
variable {cs st : List Value} {n c l : Nat} {j lo hi : Int} {t s : Nat} {ex : Bool}
end
section
variable {cs st : List Value} {n c l : Nat} {j lo hi : Int} {t s : Nat} {ex : Bool}
end
end Go.Proofs.YteemponkignnhaaGreat.Ways
set_option maxRecDepth 10000
noncomputable section
namespace Go.Proofs.YteemponkignnhaaGreat.Ways
open Go Go.Ex Go.RowKit Go.Turn
section
end
section
end
section
variable {cs st : List Value} {n c l u : Nat} {j lo hi : Int} {t s : Nat} {ex : Bool}
end
section
variable {cs st : List Value} {n c l u : Nat} {j lo hi : Int} {t s : Nat} {ex : Bool}
end
section
variable {cs st : List Value} {n c l u : Nat} {j lo hi : Int} {t s : Nat} {ex : Bool}
end
end Go.Proofs.YteemponkignnhaaGreat.Ways
set_option maxRecDepth 10000
noncomputable section
namespace Go.Proofs.YteemponkignnhaaGreat.Ways
open Go Go.Ex Go.RowKit Go.Turn
section
end
section
end
section
variable {cs st : List Value} {n c l : Nat} {j lo hi : Int} {t s : Nat} {ex : Bool}
end
section
variable {cs st : List Value} {n c l : Nat} {j lo hi : Int} {t s : Nat} {ex : Bool}
end
section
variable {cs st : List Value} {n c l : Nat} {j lo hi : Int} {t s : Nat} {ex : Bool}
end
end Go.Proofs.YteemponkignnhaaGreat.Ways
