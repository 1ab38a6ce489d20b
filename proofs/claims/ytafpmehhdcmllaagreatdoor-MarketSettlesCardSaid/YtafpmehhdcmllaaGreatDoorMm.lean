import Derived.Test.YtafpmehhdcmllaaGreatDoorMr6
noncomputable section
namespace Go.Proofs.YtafpmehhdcmllaaGreatDoor.Ways
open Go Go.Ex Go.RowKit
/-! ### MarketSettles: the trees where a list is empty -/
noncomputable def spA : Nat → Nat → Split := at_ [(7, 21), (7, 25), (7, 30), (7, 34), (7, 40), (7, 76), (7, 92), (7, 96), (7, 101), (7, 112), (7, 117), (7, 122)] .bool no_
noncomputable def CA : Cfg := ⟨TB true true true, spA, syT, noL⟩
noncomputable def oA7 (t s t2 s2 : Nat) (ex e2 : Bool) (a b c d e : Int) : Out QRes := execO Tryz.prog 6 CA 80 (.call 7 ⟨[ag [i a, i b, i c, i d, i e], sl 4 0 0 0, sl 5 0 0 0]⟩ (heapL (hA ++ [.cells [] t s ex, .cells [] t2 s2 e2])))
def m0 : Int := fst2 (mnE 0 96) 0
section
variable (cs ps : List Value) (n m : Nat) (a b c d e : Int)
noncomputable def endG (aa : VT → VT) (e2 bad : Int) (tq : Bool) (x y z r : Int) : VT :=
  .br (eqF (qcE a b c d e) (qcE a b c d e)) (.br (eqF (amP (qcE a b c d e) (pcE x y z) (rvP x y z a (enE c e))) r) (.br (eqF (fst2 (qcE a b c d e) (pcE x y z)) (fst2 (qcE a b c d e) (pcE x y z)))
    (aa (.br (eqF e2 bad) (.br tq (.br (eqF e2 bad) lt lf) lf) lf)) lf) lf) lf
noncomputable def refA (x y z r : Int) : VT := aV (tru (PdE [] [] 0 0 0 0 ∧ 0 = 0)) <| aV (tru (PdE [] [] 0 0 0 0)) <| endG a b c d e (aV (tru (CzE k2 2 [] 0 0))) 0 0 (eqT zQ zQ) x y z r
noncomputable def setA (t : VT) : VT := aV (tru (P47 [] 0 true)) <| aV (tru (P48 [] 0 true)) <| aV (tru (okI [i (mnE 0 96), i 0] 2 2)) <| aV (tru (okI [i (mnE 0 96), i 0] 2 2)) <| aV (tru (okI [i m0, i m0, i (shE 0 0)] 3 3)) t
noncomputable def mainA (x y z : Int) : VT :=
  setA <| setA <| aV (tru (okI [i (qcE a b c d e), i (pcE x y z)] 2 2)) <| aV (tru (P51 [] [] 0 0 true)) <| .br (eqF (fst2 (qcE a b c d e) (pcE x y z)) 0) (refA a b c d e x y z (rvR x y z a (enE c e))) (refA a b c d e x y z 0)
noncomputable def oneA : VT := .br (ltF 0 (0 : Nat)) (aV (bnd_ 0 0 0) (aV (cR k3 3 [] 0) (mainA a b c d e (ce 3 0 [] 0) (ce 3 1 [] 0) (ce 3 2 [] 0)))) (mainA a b c d e 0 0 0)
/-! no quarter, some prices -/
def xB : Int := fst3 m0 (cpE ps m) (shE 0 m)
noncomputable def setB (t : VT) : VT := aV (tru (P47 [] 0 true)) <| aV (tru (P48 ps m false)) <| aV (tru (okI [i (mnE 0 96), i 0] 2 2)) <| aV (tru (okR k3 3 ps m m)) <| aV (tru (okI [i m0, i (cpE ps m), i (shE 0 m)] 3 3)) <| .br (!eqF (xB ps m) 0) t .fail
noncomputable def refB (x y z r : Int) : VT := .br (eqF (csE [] ps 0 m) 0) .fail (endG a b c d e (fun t => t) (xB ps m) (csE [] ps 0 m) (eqT zQ zQ) x y z r)
noncomputable def mainB (x y z : Int) : VT :=
  setB ps m <| setB ps m <| aV (tru (okI [i (qcE a b c d e), i (pcE x y z)] 2 2)) <| aV (tru (P51 [] ps 0 m false)) <| .br (eqF (fst2 (qcE a b c d e) (pcE x y z)) 0) (refB ps m a b c d e x y z (rvR x y z a (enE c e))) (refB ps m a b c d e x y z 0)
noncomputable def oneB : VT := .br (ltF 0 m) (aV (bnd_ 0 m m) (aV (cR k3 3 ps 0) (mainB ps m a b c d e (ce 3 0 ps 0) (ce 3 1 ps 0) (ce 3 2 ps 0)))) (mainB ps m a b c d e 0 0 0)
/-! some quarters, no prices -/
def xC : Int := fst3 (cqE cs n) m0 (shE n 0)
noncomputable def setC (t : VT) : VT := aV (tru (P47 cs n false)) <| aV (tru (P48 [] 0 true)) <| aV (tru (okR k5 5 cs n n)) <| aV (tru (okI [i (mnE 0 96), i 0] 2 2)) <| aV (tru (okI [i (cqE cs n), i m0, i (shE n 0)] 3 3)) <| .br (!eqF (xC cs n) 0) t .fail
noncomputable def refC (x y z r : Int) : VT := .br (eqF (csE cs [] n 0) 0) .fail (endG a b c d e (fun t => t) (xC cs n) (csE cs [] n 0) (eqT zQ zQ) x y z r)
noncomputable def mainC (x y z : Int) : VT :=
  setC cs n <| setC cs n <| aV (tru (okI [i (qcE a b c d e), i (pcE x y z)] 2 2)) <| aV (tru (P51 cs [] n 0 false)) <| .br (eqF (fst2 (qcE a b c d e) (pcE x y z)) 0) (refC cs n a b c d e x y z (rvR x y z a (enE c e))) (refC cs n a b c d e x y z 0)
noncomputable def oneC : VT := .br (ltF 0 (0 : Nat)) (aV (bnd_ 0 0 0) (aV (cR k3 3 [] 0) (mainC cs n a b c d e (ce 3 0 [] 0) (ce 3 1 [] 0) (ce 3 2 [] 0)))) (mainC cs n a b c d e 0 0 0)
variable (t s t2 s2 : Nat) (ex e2 : Bool)
theorem wA : (oA7 t s t2 s2 ex e2 a b c d e).vals = lawT 0 0 (oneA a b c d e) := by kernel_rfl
theorem yA : oA7 t s t2 s2 ex e2 a b c d e = (oA7 t s t2 s2 ex e2 a b c d e).fix := by kernel_rfl
theorem wB : (o7 false true false [] ps t s 0 t2 s2 m ex e2 a b c d e).vals = lawT 0 m (oneB ps m a b c d e) := by kernel_rfl
theorem yB : o7 false true false [] ps t s 0 t2 s2 m ex e2 a b c d e = (o7 false true false [] ps t s 0 t2 s2 m ex e2 a b c d e).fix := by kernel_rfl
theorem wC : (o7 false false true cs [] t s n t2 s2 0 ex e2 a b c d e).vals = lawT n 0 (oneC cs n a b c d e) := by kernel_rfl
theorem yC : o7 false false true cs [] t s n t2 s2 0 ex e2 a b c d e = (o7 false false true cs [] t s n t2 s2 0 ex e2 a b c d e).fix := by kernel_rfl
theorem y7t : o7 true false false cs ps t s n t2 s2 m ex e2 a b c d e = (o7 true false false cs ps t s n t2 s2 m ex e2 a b c d e).fix := by kernel_rfl
theorem y7f : o7 false false false cs ps t s n t2 s2 m ex e2 a b c d e = (o7 false false false cs ps t s n t2 s2 m ex e2 a b c d e).fix := by kernel_rfl
end
end Go.Proofs.YtafpmehhdcmllaaGreatDoor.Ways
