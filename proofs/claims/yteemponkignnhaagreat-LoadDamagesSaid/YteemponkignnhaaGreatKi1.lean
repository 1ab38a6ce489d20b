import Derived.Test.YteemponkignnhaaGreatKd1
import Derived.Test.YteemponkignnhaaGreatKa1
set_option maxRecDepth 10000
noncomputable section
namespace Go.Proofs.YteemponkignnhaaGreat.Ways
open Go Go.Ex Go.RowKit Go.Turn Go.Ex.Ins
end Go.Proofs.YteemponkignnhaaGreat.Ways
set_option maxRecDepth 10000
noncomputable section
namespace Go.Proofs.YteemponkignnhaaGreat.Ways
open Go Go.Ex Go.RowKit Go.Turn Go.Ex.Ins
inductive PLc where
  | f
  | m (u : Nat)
  | e
inductive KV where
  | z
  | m (j : Int) (l : Nat) (st : List Value) (p : PLc)
def lo_ (cs : List Value) (j : Int) : Int := f_ cs j.toNat 2
def hi_ (cs : List Value) (j : Int) : Int := f_ cs j.toNat 3
section
variable (cs : List Value) (n c : Nat) (t s : Nat) (ex : Bool)
end
section
variable {cs : List Value} {n c : Nat} {t s : Nat} {ex : Bool}
end
end Go.Proofs.YteemponkignnhaaGreat.Ways
set_option maxRecDepth 10000
noncomputable section
namespace Go.Proofs.YteemponkignnhaaGreat.Ways
open Go Go.Ex Go.RowKit Go.Turn Go.Ex.Ins
def prV (cs : List Value) (j : Nat) : Pt := (lo_ cs (j : Int), hi_ cs (j : Int))
def prsV (cs : List Value) : Nat → List Pt
  | 0 => []
  | j + 1 => prsV cs j ++ [prV cs j]
def soV (cs : List Value) (j : Nat) : List Pt := Ins.sort (prsV cs j)
theorem so_succ (cs : List Value) (j : Nat) : soV cs (j + 1) = ins (prV cs j) (soV cs j) := by
  show (prsV cs j ++ [prV cs j]).foldl _ [] = _
  rw [List.foldl_append]; rfl
theorem so_len (cs : List Value) : ∀ j, (soV cs j).length = j
  | 0 => rfl
  | j + 1 => by rw [so_succ, ins_len, so_len cs j]
section
variable {P : List Pt} {lo hi : Int}
end
end Go.Proofs.YteemponkignnhaaGreat.Ways
set_option maxRecDepth 10000
noncomputable section
namespace Go.Proofs.YteemponkignnhaaGreat.Ways
open Go Go.Ex Go.RowKit Go.Turn Go.Ex.Ins
section
variable {cs : List Value} {n c : Nat}
end
section
variable (cs : List Value) (t s n c : Nat) (ex : Bool)
end
end Go.Proofs.YteemponkignnhaaGreat.Ways
