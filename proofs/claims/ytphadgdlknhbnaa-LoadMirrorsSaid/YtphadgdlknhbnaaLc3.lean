import Derived.Test.YtphadgdlknhbnaaLc2
import Derived.Test.YtphadgdlknhbnaaEngOrdA
set_option maxRecDepth 10000
noncomputable section
namespace Go.Proofs.Ytphadgdlknhbnaa.Ways
open Go Go.Ex Go.RowKit Go.Turn
def ltU : VT := .leaf (b_ true)
def lfU : VT := .leaf (b_ false)
section
variable (st : List Value) (t s l c : Nat) (ex : Bool)
end
def regC (id : Nat) : Nat → Code → Array Oper
  | 0, _ => #[]
  | k + 1, c => match c with
    | .region j o _ => cond (Nat.beq j id) o #[]
    | .seq a b => cond (Nat.beq (regC id k a).size 0) (regC id k b) (regC id k a)
    | .cond _ a b => cond (Nat.beq (regC id k a).size 0) (regC id k b) (regC id k a)
    | .block _ a => regC id k a
    | .loop a => regC id k a
    | .scope a => regC id k a
    | _ => #[]
theorem mixU : Try.prog.follows .mixedOrders = true := by kernel_rfl
def w3 (l : Nat) : Int := wrapF .i64 ((l : Int) - 3)
def w2 (l : Nat) : Int := wrapF .i64 ((l : Int) - 2)
def w1 (l : Nat) : Int := wrapF .i64 ((l : Int) - 1)
def X6 (st : List Value) (k : Nat) : List Value := (st.drop 0).take (k * 2)
theorem x6_flat {st : List Value} {k : Nat} (h : st.all Ex.flat = true) : (X6 st k).all Ex.flat = true :=
  List.all_eq_true.2 fun x hx => List.all_eq_true.1 h x (List.mem_of_mem_drop (List.mem_of_mem_take hx))
def apN (k l : Nat) (st : List Value) : Bool := !decide (k = 0) && (decide (k ≤ l) && (decide (k ≤ 1048576) && decide (0 + k * 2 ≤ st.length)))
def slN (w : Int) (l : Nat) : Bool := leF 0 0 && (leF 0 w && leF w l)
end Go.Proofs.Ytphadgdlknhbnaa.Ways
set_option maxRecDepth 10000
noncomputable section
namespace Go.Proofs.Ytphadgdlknhbnaa.Ways
open Go Go.Ex Go.RowKit Go.Turn
section
end
section
end
section
variable {cs st : List Value} {n c l : Nat} {j : Int} {t s : Nat} {ex : Bool}
end
section
variable {cs st : List Value} {n c l : Nat} {j : Int} {t s : Nat} {ex : Bool}
end
section
variable {cs st : List Value} {n c l : Nat} {j : Int} {t s : Nat} {ex : Bool}
end
end Go.Proofs.Ytphadgdlknhbnaa.Ways
set_option maxRecDepth 10000
noncomputable section
namespace Go.Proofs.Ytphadgdlknhbnaa.Ways
open Go Go.Ex Go.RowKit Go.Turn
section
end
section
end
section
variable {cs st cy : List Value} {n c l lc : Nat} {j : Int} {t s : Nat} {ex : Bool}
end
section
variable {cs st cy : List Value} {n c l lc : Nat} {j : Int} {t s : Nat} {ex : Bool}
end
section
variable {cs st cy : List Value} {n c l lc : Nat} {j : Int} {t s : Nat} {ex : Bool}
end
end Go.Proofs.Ytphadgdlknhbnaa.Ways
set_option maxRecDepth 10000
noncomputable section
namespace Go.Proofs.Ytphadgdlknhbnaa.Ways
open Go Go.Ex Go.RowKit Go.Turn
section
end
section
end
section
variable {cs : List Value} {n c : Nat} {t s : Nat} {ex : Bool}
end
section
variable {cs : List Value} {n c : Nat} {t s : Nat} {ex : Bool}
end
section
variable {cs : List Value} {n c : Nat} {t s : Nat} {ex : Bool}
end
end Go.Proofs.Ytphadgdlknhbnaa.Ways
set_option maxRecDepth 10000
noncomputable section
namespace Go.Proofs.Ytphadgdlknhbnaa.Ways
open Go Go.Ex Go.RowKit Go.Turn
section
end
section
end
section
variable {cs st : List Value} {n c l : Nat} {j : Int} {t s : Nat} {ex : Bool}
end
section
variable {cs st : List Value} {n c l : Nat} {j : Int} {t s : Nat} {ex : Bool}
end
section
variable {cs st : List Value} {n c l : Nat} {j : Int} {t s : Nat} {ex : Bool}
end
end Go.Proofs.Ytphadgdlknhbnaa.Ways
set_option maxRecDepth 10000
noncomputable section
namespace Go.Proofs.Ytphadgdlknhbnaa.Ways
open Go Go.Ex Go.RowKit Go.Turn
section
end
section
end
section
variable {cs st cy : List Value} {n c l lc : Nat} {j : Int} {t s : Nat} {ex : Bool}
end
section
variable {cs st cy : List Value} {n c l lc : Nat} {j : Int} {t s : Nat} {ex : Bool}
end
section
variable {cs st cy : List Value} {n c l lc : Nat} {j : Int} {t s : Nat} {ex : Bool}
end
end Go.Proofs.Ytphadgdlknhbnaa.Ways
set_option maxRecDepth 10000
noncomputable section
namespace Go.Proofs.Ytphadgdlknhbnaa.Ways
open Go Go.Ex Go.RowKit Go.Turn
section
end
section
end
section
variable {cs st cy : List Value} {n c l lc : Nat} {j : Int} {t s : Nat} {ex : Bool}
end
section
variable {cs st cy : List Value} {n c l lc : Nat} {j : Int} {t s : Nat} {ex : Bool}
end
section
variable {cs st cy : List Value} {n c l lc : Nat} {j : Int} {t s : Nat} {ex : Bool}
end
end Go.Proofs.Ytphadgdlknhbnaa.Ways
set_option maxRecDepth 10000
noncomputable section
namespace Go.Proofs.Ytphadgdlknhbnaa.Ways
open Go Go.Ex Go.RowKit Go.Turn
section
end
section
end
section
variable {cs st cy : List Value} {n c l lc : Nat} {j : Int} {t s : Nat} {ex : Bool}
end
section
variable {cs st cy : List Value} {n c l lc : Nat} {j : Int} {t s : Nat} {ex : Bool}
end
section
variable {cs st cy : List Value} {n c l lc : Nat} {j : Int} {t s : Nat} {ex : Bool}
end
end Go.Proofs.Ytphadgdlknhbnaa.Ways
set_option maxRecDepth 10000
noncomputable section
namespace Go.Proofs.Ytphadgdlknhbnaa.Ways
open Go Go.Ex Go.RowKit Go.Turn
section
end
section
end
section
variable {cs st cy : List Value} {n c l lc : Nat} {j : Int} {t s : Nat} {ex : Bool}
end
section
variable {cs st cy : List Value} {n c l lc : Nat} {j : Int} {t s : Nat} {ex : Bool}
end
section
variable {cs st cy : List Value} {n c l lc : Nat} {j : Int} {t s : Nat} {ex : Bool}
end
end Go.Proofs.Ytphadgdlknhbnaa.Ways
set_option maxRecDepth 10000
noncomputable section
namespace Go.Proofs.Ytphadgdlknhbnaa.Ways
open Go Go.Ex Go.RowKit Go.Turn
inductive RI where
  | e (l : Nat) (st : List Value)
  | o (l : Nat) (st : List Value) (lc : Nat) (cy : List Value)
  | f (l : Nat) (st : List Value) (lc : Nat) (cy : List Value)
section
variable (cs : List Value) (n c : Nat) (j : Int) (t s : Nat) (ex : Bool)
end
section
variable {cs : List Value} {n c : Nat} {j : Int} {t s : Nat} {ex b : Bool}
end
end Go.Proofs.Ytphadgdlknhbnaa.Ways
set_option maxRecDepth 10000
noncomputable section
namespace Go.Proofs.Ytphadgdlknhbnaa.Ways
open Go Go.Ex Go.RowKit Go.Turn
inductive RO where
  | z
  | s (j : Int) (l : Nat) (st : List Value)
  | b (j : Int) (l : Nat) (st : List Value) (lc : Nat) (cy : List Value)
section
variable (cs : List Value) (n c : Nat) (t s : Nat) (ex : Bool)
end
section
variable {cs : List Value} {n c : Nat} {t s : Nat} {ex : Bool}
end
end Go.Proofs.Ytphadgdlknhbnaa.Ways
set_option maxRecDepth 10000
noncomputable section
namespace Go.Proofs.Ytphadgdlknhbnaa.Ways
open Go Go.Ex Go.RowKit Go.Turn
theorem X6_app (P Q : List Pt) : X6 (flatP (P ++ Q)) P.length = flatP P := by
  unfold X6
  rw [List.drop_zero, flatP_app, ← flatP_len, List.take_left]
theorem apN_t {P : List Pt} {k : Nat} (h : k ≠ 0) (h2 : k ≤ P.length) (h3 : P.length < 1000000) : apN k P.length (flatP P) = true := by
  unfold apN
  rw [decide_eq_false h, decide_eq_true h2, decide_eq_true (by omega), flatP_len, decide_eq_true (by omega)]; rfl
section
variable {a b x d : Pt} {T : List Pt}
end
section
variable {cs : List Value} {n c : Nat}
theorem cnt_ne (cs : List Value) {j : Nat} (h : 1 ≤ j) : (cnt cs j).1 ≠ [] := by
  obtain ⟨k, rfl⟩ : ∃ k, j = k + 1 := ⟨j - 1, by omega⟩
  exact List.cons_ne_nil _ _
end
section
variable (cs : List Value) (t s n c : Nat) (ex : Bool)
end
def R24 (f : Bool) (cs : List Value) (n : Nat) : List NC := cond f
  [.s (cnt cs n).2.length (cnt cs n).2.length (flatC (cnt cs n).2) 69 4 false, .s (cnt cs n).1.length (cnt cs n).1.length (flatP (cnt cs n).1.reverse) 70 2 false]
  [.v (.slice none 0 0), .s (cnt cs n).1.length (cnt cs n).1.length (flatP (cnt cs n).1.reverse) 70 2 false]
end Go.Proofs.Ytphadgdlknhbnaa.Ways
