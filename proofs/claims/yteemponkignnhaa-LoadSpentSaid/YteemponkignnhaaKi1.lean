import Derived.Test.YteemponkignnhaaKd1
import Derived.Test.YteemponkignnhaaKa1
set_option maxRecDepth 10000
noncomputable section
namespace Go.Proofs.Yteemponkignnhaa.Ways
open Go Go.Ex Go.RowKit Go.Turn Go.Ex.Ins
end Go.Proofs.Yteemponkignnhaa.Ways
set_option maxRecDepth 10000
noncomputable section
namespace Go.Proofs.Yteemponkignnhaa.Ways
open Go Go.Ex Go.RowKit Go.Turn Go.Ex.Ins
inductive PLc where
  | f
  | m (u : Nat)
  | e
inductive KV where
  | z
  | m (j : Int) (l : Nat) (st : List Value) (p : PLc)
def lo_ (cs : List Value) (j : Int) : Int := f_ cs j.toNat 2
def hi_ (cs : List Value) (j : Int) : Int := f_ cs j.toNat 3
section
variable (cs : List Value) (n c : Nat) (t s : Nat) (ex : Bool)
def tdVv : KV → Go.Ex.Told
  | .z => ⟨[(0, sl 1 0 n c), (3, .slice none 0 0), (4, i 0)], [ddQ, (.cells cs t s ex, true)]⟩
  | .m j l st _ => ⟨[(0, sl 1 0 n c), (3, sl 2 0 l l), (4, i j)], [ddQ, (.cells cs t s ex, true), (.cells st 126 2 false, true)]⟩
def fdVv : KV → Go.Ex.Told
  | .z => ⟨[(3, .slice none 0 0)], [ddQ, (.cells cs t s ex, true)]⟩
  | .m _ l st _ => ⟨[(3, sl 2 0 l l)], [ddQ, (.cells cs t s ex, true), (.cells st 126 2 false, true)]⟩
def ShKO : Shape KV := ⟨76, tdVv cs n c t s ex, fun _ q => (.exit 0, fdVv cs t s ex q)⟩
end
section
variable {cs : List Value} {n c : Nat} {t s : Nat} {ex : Bool}
end
end Go.Proofs.Yteemponkignnhaa.Ways
set_option maxRecDepth 10000
noncomputable section
namespace Go.Proofs.Yteemponkignnhaa.Ways
open Go Go.Ex Go.RowKit Go.Turn Go.Ex.Ins
def prV (cs : List Value) (j : Nat) : Pt := (lo_ cs (j : Int), hi_ cs (j : Int))
def prsV (cs : List Value) : Nat → List Pt
  | 0 => []
  | j + 1 => prsV cs j ++ [prV cs j]
def soV (cs : List Value) (j : Nat) : List Pt := Ins.sort (prsV cs j)
theorem so_succ (cs : List Value) (j : Nat) : soV cs (j + 1) = ins (prV cs j) (soV cs j) := by
  show (prsV cs j ++ [prV cs j]).foldl _ [] = _
  rw [List.foldl_append]; rfl
theorem so_len (cs : List Value) : ∀ j, (soV cs j).length = j
  | 0 => rfl
  | j + 1 => by rw [so_succ, ins_len, so_len cs j]
section
variable {P : List Pt} {lo hi : Int}
end
end Go.Proofs.Yteemponkignnhaa.Ways
set_option maxRecDepth 10000
noncomputable section
namespace Go.Proofs.Yteemponkignnhaa.Ways
open Go Go.Ex Go.RowKit Go.Turn Go.Ex.Ins
section
variable {cs : List Value} {n c : Nat}
end
section
variable (cs : List Value) (t s n c : Nat) (ex : Bool)
noncomputable def K40 (q : KV) : Cfg := ⟨noT, no_, off_, loopE noL 42 3 76 2 BkO ((ShKO cs n c t s ex).st .z).live ((ShKO cs n c t s ex).st .z).hp (finO (ShKO cs n c t s ex) (0, q) [0])⟩
noncomputable def o40 (q : KV) : Out QRes := execO Try.prog 2 (K40 cs t s n c ex q) 60 (.call 42 ⟨[sl 1 0 n c]⟩ (heapL (deads ++ [.cells cs t s ex])))
theorem v40 (j : Int) (l : Nat) (st : List Value) (p : PLc) : (o40 cs t s n c ex (.m j l st p)).news = .br true (.leaf 2 (.sl l l st 126 2 false)) .fail := by kernel_rfl
end
def V40 (cs : List Value) (n c : Nat) : Prop := okF cs n c ∧ 1 ≤ n ∧ n < 999990
end Go.Proofs.Yteemponkignnhaa.Ways
