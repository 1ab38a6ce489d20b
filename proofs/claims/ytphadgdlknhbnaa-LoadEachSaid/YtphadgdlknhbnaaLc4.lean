import Derived.Test.YtphadgdlknhbnaaLc3
set_option maxRecDepth 10000
noncomputable section
namespace Go.Proofs.Ytphadgdlknhbnaa.Ways
open Go Go.Ex Go.RowKit Go.Turn
inductive RI where
  | e (l : Nat) (st : List Value)
  | o (l : Nat) (st : List Value) (lc : Nat) (cy : List Value)
  | f (l : Nat) (st : List Value) (lc : Nat) (cy : List Value)
section
variable (cs : List Value) (n c : Nat) (j : Int) (t s : Nat) (ex : Bool)
end
section
variable {cs : List Value} {n c : Nat} {j : Int} {t s : Nat} {ex b : Bool}
end
end Go.Proofs.Ytphadgdlknhbnaa.Ways
set_option maxRecDepth 10000
noncomputable section
namespace Go.Proofs.Ytphadgdlknhbnaa.Ways
open Go Go.Ex Go.RowKit Go.Turn
inductive RO where
  | z
  | s (j : Int) (l : Nat) (st : List Value)
  | b (j : Int) (l : Nat) (st : List Value) (lc : Nat) (cy : List Value)
section
variable (cs : List Value) (n c : Nat) (t s : Nat) (ex : Bool)
end
section
variable {cs : List Value} {n c : Nat} {t s : Nat} {ex : Bool}
end
end Go.Proofs.Ytphadgdlknhbnaa.Ways
set_option maxRecDepth 10000
noncomputable section
namespace Go.Proofs.Ytphadgdlknhbnaa.Ways
open Go Go.Ex Go.RowKit Go.Turn
section
variable {a b x d : Pt} {T : List Pt}
end
section
variable {cs : List Value} {n c : Nat}
theorem cnt_ne (cs : List Value) {j : Nat} (h : 1 ≤ j) : (cnt cs j).1 ≠ [] := by
  obtain ⟨k, rfl⟩ : ∃ k, j = k + 1 := ⟨j - 1, by omega⟩
  exact List.cons_ne_nil _ _
end
section
variable (cs : List Value) (t s n c : Nat) (ex : Bool)
end
end Go.Proofs.Ytphadgdlknhbnaa.Ways
