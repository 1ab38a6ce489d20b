import Derived.Test.YtafpmehhdcmllaaGreatDoorMq3
import Derived.Test.YtafpmehhdcmllaaGreatDoorMq2
noncomputable section
namespace Go.Proofs.YtafpmehhdcmllaaGreatDoor.Ways
open Go Go.Ex Go.RowKit
/-! ### MarketBooks: the law's table and its run -/
noncomputable def T12 : Tb := ext (ext (ext (ext T10 47 (newE (spC k5 5 77 false) [] (heapL deads))) 48 (newE (spC k3 3 31 false) [] (heapL deads))) 49 (autoE (sp49 true) [] (heapL deads))) 16 (pureE s16 [1, 2, 3] Ha)
theorem ts12 {G : Nat} : TSound Tryz.prog G T12 := by
  refine TSound.pure ha_vars (((ts10.new (f' := 47) (c47 false)).new (f' := 48) (c48 false)).auto (c49 true)) fun args v h => ?_
  unfold s16 at h
  split at h
  · cases h; exact p16
  · cases h
noncomputable def spL : Nat → Nat → Split := at_ [(12, 29), (12, 34), (12, 90), (12, 96), (12, 126), (12, 222), (12, 233), (12, 245)] .bool no_
def syL : Nat → Nat → Bool := on_ [(12, 42)]
section
variable (cs ps : List Value) (N M : Nat) (at8 : Int) (q : QL) (t s t2 s2 : Nat) (ex e2 : Bool)
/-- what is settled; the whole's totals -/
def rsS (cs ps : List Value) (N : Nat) : List Value := rwL (fP cs ps) N
noncomputable def Lw (L : LTab) : LTab := loopE L 12 12 250 18 B12 ((S12a cs ps (rsS cs ps N) N M (bkP cs ps N) t s t2 s2 ex e2).st (0, 0, 0, 0)).live ((S12a cs ps (rsS cs ps N) N M (bkP cs ps N) t s t2 s2 ex e2).st (0, 0, 0, 0)).hp (finO (S12a cs ps (rsS cs ps N) N M (bkP cs ps N) t s t2 s2 ex e2) (0, q) [0])
noncomputable def Lw' (L : LTab) : LTab := loopE L 12 12 250 16 B12 ((S12b cs ps (rsS cs ps N) N M (bkP cs ps N) t s t2 s2 ex e2).st (0, 0, 0, 0)).live ((S12b cs ps (rsS cs ps N) N M (bkP cs ps N) t s t2 s2 ex e2).st (0, 0, 0, 0)).hp (finO (S12b cs ps (rsS cs ps N) N M (bkP cs ps N) t s t2 s2 ex e2) (0, q) [0])
/-- where the law parts the list -/
def XE (at8 : Int) (N : Nat) : Int := (IntKind.i64.wrap at8).tmod (wrapF .i64 ((N : Int) + 1))
def lt12 : VT := .leaf (b_ true)
def lf12 : VT := .leaf (b_ false)
def sm6 (a b : Q6) : Q6 := (0, wrapF .i64 (a.2.1 + b.2.1), wrapF .i64 (a.2.2.1 + b.2.2.1), wrapF .i64 (a.2.2.2.1 + b.2.2.2.1), wrapF .i64 (a.2.2.2.2.1 + b.2.2.2.2.1), wrapF .i64 (a.2.2.2.2.2 + b.2.2.2.2.2))
def eq6 (p q : Q6) : Bool := p.2.1 == q.2.1 && (p.2.2.1 == q.2.2.1 && (p.2.2.2.1 == q.2.2.2.1 && (p.2.2.2.2.1 == q.2.2.2.2.1 && (p.2.2.2.2.2 == q.2.2.2.2.2 && true))))
noncomputable def endB (tq : Q6) : VT := .br (eqF q.2.1 tq.2.2.2.2.2) (.br (eqF q.2.2.1 (wrapF .i64 (wrapF .i64 (tq.2.2.1 + tq.2.2.2.1) - tq.2.1))) (.br (eqF q.2.2.2 (wrapF .i64 (wrapF .i64 (tq.2.2.1 + tq.2.2.2.1) + tq.2.2.2.2.1))) lt12 lf12) lf12) lf12
noncomputable def mainB12 (p1 p2 : Q6) : VT := aV (tru (CmE k5 5 cs N N)) <| aV (tru (CmE k3 3 ps M M)) <| aV (tru (GoE cs ps N N M M)) <| aV (tru (CmE k5 5 cs N N)) <| aV (tru (CmE k3 3 ps M M)) <| aV (tru (GoE cs ps N N M M)) <|
  .br (!eqF (wrapF .i64 (wrapF .i64 (wrapF .i64 (0 + 0) + 0) + 0)) 0) lf12 <| .br (!eqF N N) lf12 <| .br (!eq6 (bkP cs ps N) (sm6 p1 p2)) lf12 <| aV true <| endB q (bkP cs ps N)
noncomputable def lawB12 (T : VT) : VT := .br (ltF 8 N) lt12 <| aV (tru (ok2 cs ps N N M M)) <| .br (!eqF (csE cs ps N M) 0) lt12 <| aV (!eqF (wrapF .i64 ((N : Int) + 1)) 0) T
def q1 (cs ps : List Value) (X : Int) : Q6 := bkP (ptO 5 cs 0 X.toNat) (ptO 3 ps 0 X.toNat) X.toNat
def q2 (cs ps : List Value) (N M : Nat) (X : Int) : Q6 := bkP (ptO 5 cs (0 + X.toNat * 5) (N - X.toNat)) (ptO 3 ps (0 + X.toNat * 3) (M - X.toNat)) (N - X.toNat)
noncomputable def La : LTab := Lw cs ps N M q t s t2 s2 ex e2 (L6a cs ps N M (XE at8 N) t s t2 s2 ex e2 (L5 cs ps N M (XE at8 N) t s t2 s2 ex e2 noL))
noncomputable def oLa : Out QRes := execO Tryz.prog 6 ⟨T12, spL, syL, La cs ps N M at8 q t s t2 s2 ex e2⟩ 80 (.call 12 ⟨[sl 4 0 N N, sl 5 0 M M, .int .u8 at8]⟩ (heapL (hA ++ [.cells cs t s ex, .cells ps t2 s2 e2])))
theorem wLa : (oLa cs ps N M at8 q t s t2 s2 ex e2).vals = lawB12 cs ps N M (mainB12 cs ps N M q (q1 cs ps (XE at8 N)) (q2 cs ps N M (XE at8 N))) := by kernel_rfl
theorem yLa : oLa cs ps N M at8 q t s t2 s2 ex e2 = (oLa cs ps N M at8 q t s t2 s2 ex e2).fix := by kernel_rfl
noncomputable def Lb : LTab := Lw' cs ps N M q t s t2 s2 ex e2 (L6b cs ps N M (XE at8 N) t s t2 s2 ex e2 (L5z cs ps N M (XE at8 N) t s t2 s2 ex e2 noL))
noncomputable def oLb : Out QRes := execO Tryz.prog 6 ⟨T12, spL, syL, Lb cs ps N M at8 q t s t2 s2 ex e2⟩ 80 (.call 12 ⟨[sl 4 0 N N, sl 5 0 M M, .int .u8 at8]⟩ (heapL (hA ++ [.cells cs t s ex, .cells ps t2 s2 e2])))
theorem wLb : (oLb cs ps N M at8 q t s t2 s2 ex e2).vals = lawB12 cs ps N M (mainB12 cs ps N M q zQ6 (q2 cs ps N M (XE at8 N))) := by kernel_rfl
theorem yLb : oLb cs ps N M at8 q t s t2 s2 ex e2 = (oLb cs ps N M at8 q t s t2 s2 ex e2).fix := by kernel_rfl
noncomputable def Lc : LTab := Lw' cs ps N M q t s t2 s2 ex e2 (L6z cs ps N M (XE at8 N) t s t2 s2 ex e2 (L5 cs ps N M (XE at8 N) t s t2 s2 ex e2 noL))
noncomputable def oLc : Out QRes := execO Tryz.prog 6 ⟨T12, spL, syL, Lc cs ps N M at8 q t s t2 s2 ex e2⟩ 80 (.call 12 ⟨[sl 4 0 N N, sl 5 0 M M, .int .u8 at8]⟩ (heapL (hA ++ [.cells cs t s ex, .cells ps t2 s2 e2])))
theorem wLc : (oLc cs ps N M at8 q t s t2 s2 ex e2).vals = lawB12 cs ps N M (mainB12 cs ps N M q (q1 cs ps (XE at8 N)) zQ6) := by kernel_rfl
theorem yLc : oLc cs ps N M at8 q t s t2 s2 ex e2 = (oLc cs ps N M at8 q t s t2 s2 ex e2).fix := by kernel_rfl
end
end Go.Proofs.YtafpmehhdcmllaaGreatDoor.Ways
noncomputable section
namespace Go.Proofs.YtafpmehhdcmllaaGreatDoor.Ways
open Go Go.Ex Go.RowKit
/-! ### MarketBooks: lists that are refused; no rows -/
noncomputable def spN : Nat → Nat → Split := at_ [(12, 29), (12, 34)] .bool (at_ [(12, 42)] (.ints []) no_)
section
variable (cs ps : List Value) (N M : Nat) (at8 : Int) (t s t2 s2 : Nat) (ex e2 : Bool)
noncomputable def oLn : Out QRes := execO Tryz.prog 6 ⟨T12, spN, syL, noL⟩ 80 (.call 12 ⟨[sl 4 0 N N, sl 5 0 M M, .int .u8 at8]⟩ (heapL (hA ++ [.cells cs t s ex, .cells ps t2 s2 e2])))
theorem wLn : (oLn cs ps N M at8 t s t2 s2 ex e2).vals = lawB12 cs ps N M .fail := by kernel_rfl
theorem yLn : oLn cs ps N M at8 t s t2 s2 ex e2 = (oLn cs ps N M at8 t s t2 s2 ex e2).fix := by kernel_rfl
end
noncomputable def T0n : Tb := ext (ext (ext (ext T10 47 (newE (spC k5 5 77 true) [] (heapL deads))) 48 (newE (spC k3 3 31 true) [] (heapL deads))) 49 (pureE s49z [] Hd)) 16 (pureE s16 [1, 2, 3] Ha)
theorem ts0n {G : Nat} : TSound Tryz.prog G T0n := by
  refine TSound.pure ha_vars (TSound.pure hd_vars ((ts10.new (f' := 47) (c47 true)).new (f' := 48) (c48 true)) fun args v h => ?_) fun args v h => ?_
  · unfold s49z at h
    split at h
    · cases h; exact p49z
    · cases h
  · unfold s16 at h
    split at h
    · cases h; exact p16
    · cases h
noncomputable def sp0n : Nat → Nat → Split := no_
section
variable (at8 : Int) (t s t2 s2 : Nat) (ex e2 : Bool)
noncomputable def oL0 : Out QRes := execO Tryz.prog 6 ⟨T0n, sp0n, syL, L6y [] [] 0 0 (XE at8 0) t s t2 s2 ex e2 (L5y [] [] 0 0 (XE at8 0) t s t2 s2 ex e2 noL)⟩ 80 (.call 12 ⟨[sl 4 0 0 0, sl 5 0 0 0, .int .u8 at8]⟩ (heapL (hA ++ [.cells [] t s ex, .cells [] t2 s2 e2])))
noncomputable def lawZ : VT := aV (tru (ok2 [] [] 0 0 0 0)) <| aV (!eqF (wrapF .i64 (((0 : Nat) : Int) + 1)) 0) <| aV (tru (CzE k5 5 [] 0 0)) <| aV (tru (CzE k3 3 [] 0 0)) <| aV (tru (CzE k5 5 [] 0 0)) <| aV (tru (CzE k3 3 [] 0 0)) <| aV (tru (okI [i (mnE 0 96), i 0] 2 2)) <| aV (tru (okI [i (mnE 0 96), i 0] 2 2)) <| aV (tru (okI [i mZ, i mZ, i (shE 0 0)] 3 3)) lt12
theorem wL0 : (oL0 at8 t s t2 s2 ex e2).vals = lawZ := by kernel_rfl
theorem yL0 : oL0 at8 t s t2 s2 ex e2 = (oL0 at8 t s t2 s2 ex e2).fix := by kernel_rfl
end
end Go.Proofs.YtafpmehhdcmllaaGreatDoor.Ways
