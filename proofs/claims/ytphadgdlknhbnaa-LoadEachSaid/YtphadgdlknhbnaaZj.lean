import Derived.Test.YtphadgdlknhbnaaZg
set_option maxRecDepth 10000
noncomputable section
namespace Go.Proofs.Ytphadgdlknhbnaa.Ways
open Go Go.Ex Go.RowKit Go.Turn
section
variable (cs : List Value) (n : Nat)
def RN_ : Nat := (rvI cs n).length
def RS_ : List Value := flatP (rvI cs n)
def CC_ : List Cy := (cnt (RS_ cs n) (RN_ cs n)).2
def LD_ : Nat := (cnt (RS_ cs n) (RN_ cs n)).1.length
noncomputable def ST_ : List Value := cellO (eO (RS_ cs n) (RN_ cs n) (RN_ cs n))
noncomputable def CP_ : Nat := capO (eO (RS_ cs n) (RN_ cs n) (RN_ cs n))
noncomputable def DS_ : List Value := flatP (pts (ST_ cs n) (LD_ cs n))
def RT_ : List Value := ((RS_ cs n).drop 0).take (RN_ cs n * 2)
end
def apE (cs : List Value) (n : Nat) : Bool := !decide (n = 0) && (decide (n ≤ n) && (decide (n ≤ 1048576) && decide (0 + n * 2 ≤ cs.length)))
noncomputable def LEA (rs cy ds : List Value) (n lc ld : Nat) (x : Int) (nn kk mm : Int) (r1 r2 r3 r4 : ES) (r5 : Int × Int) (r6 r7 r8 : Int) : LTab := (loopE (loopE (loopE (loopE (loopE (loopE (loopE (loopE noL 6 10 340 15 (BE6 10) ((ShA rs cy ds n lc ld x [(94, sl 3 0 n n), (95, i n)] 96 0).st (0, ([], 0), ([], 0))).live ((ShA rs cy ds n lc ld x [(94, sl 3 0 n n), (95, i n)] 96 0).st (0, ([], 0), ([], 0))).hp (finO (ShA rs cy ds n lc ld x [(94, sl 3 0 n n), (95, i n)] 96 0) (0, r1) [0])) 6 15 340 15 (BE6 15) ((ShA rs cy ds n lc ld x [(106, sl 8 0 lc lc), (107, i lc)] 108 2).st (0, r1.2)).live ((ShA rs cy ds n lc ld x [(106, sl 8 0 lc lc), (107, i lc)] 108 2).st (0, r1.2)).hp (finO (ShA rs cy ds n lc ld x [(106, sl 8 0 lc lc), (107, i lc)] 108 2) (0, r2) [0])) 6 23 340 15 (BE6 23) ((ShA rs cy ds n lc ld x [(149, sl 9 0 ld ld), (150, i ld)] 151 4).st (0, r2.2)).live ((ShA rs cy ds n lc ld x [(149, sl 9 0 ld ld), (150, i ld)] 151 4).st (0, r2.2)).hp (finO (ShA rs cy ds n lc ld x [(149, sl 9 0 ld ld), (150, i ld)] 151 4) (0, r3) [0])) 6 30 340 15 (BE6 30) ((ShA rs cy ds n lc ld x [(168, sl 3 0 n n), (169, i n)] 170 6).st (0, r3.2)).live ((ShA rs cy ds n lc ld x [(168, sl 3 0 n n), (169, i n)] 170 6).st (0, r3.2)).hp (finO (ShA rs cy ds n lc ld x [(168, sl 3 0 n n), (169, i n)] 170 6) (0, r4) [0])) 6 40 340 18 (BE6 40) ((SE40 rs cy ds n lc ld x 18 8 9 nn).st (0, kk)).live ((SE40 rs cy ds n lc ld x 18 8 9 nn).st (0, kk)).hp (finO (SE40 rs cy ds n lc ld x 18 8 9 nn) (0, r5) [0])) 6 52 340 20 (BE6 52) ((SE52 rs cy ds n lc ld 20 8 9 mm).st (0 : Int)).live ((SE52 rs cy ds n lc ld 20 8 9 mm).st (0 : Int)).hp (finO (SE52 rs cy ds n lc ld 20 8 9 mm) (0, r6) [0])) 6 58 340 18 (BE6 58) ((SE58 rs cy ds ld 18 8 9).st (3 : Int)).live ((SE58 rs cy ds ld 18 8 9).st (3 : Int)).hp (finO (SE58 rs cy ds ld 18 8 9) (0, r7) [0])) 6 58 340 20 (BE6 58) ((SE58 rs cy ds ld 20 8 9).st (3 : Int)).live ((SE58 rs cy ds ld 20 8 9).st (3 : Int)).hp (finO (SE58 rs cy ds ld 20 8 9) (0, r8) [0]))
section
variable (cs : List Value) (n : Nat) (x : Int) (t s : Nat) (ex : Bool) (r1 r2 r3 r4 : ES) (r5 : Int × Int) (r6 r7 r8 : Int)
noncomputable def CLA : Cfg := ⟨TE true true, at_ [(6, 42), (6, 47), (6, 37), (36, 37), (36, 44), (6, 79), (6, 90), (6, 222), (6, 225)] .bool no_, on_ [(6, 183), (6, 200183), (6, 229), (6, 200229)], LEA (RS_ cs n) (flatC (CC_ cs n)) (DS_ cs n) (RN_ cs n) (CC_ cs n).length (LD_ cs n) x (crs (RT_ cs n) x (RN_ cs n)) (crs (DS_ cs n) x (LD_ cs n)) (grE (RT_ cs n) (RN_ cs n)) r1 r2 r3 r4 r5 r6 r7 r8⟩
noncomputable def o6A : Out QRes := execO Try.prog 2 (CLA cs n x r1 r2 r3 r4 r5 r6 r7 r8) 120 (.call 6 ⟨[sl 1 0 n n, i x]⟩ (heapL (deads ++ [.cells cs t s ex])))
noncomputable def t6A : VT := .br (ltF 24 n) (.leaf (b_ true)) <| aV (tru (LokE cs n n)) <| .br (!eqF 0 0) (.leaf (b_ true)) <| .br (!eqF (rgE x (-32768) 32768) 0) (.leaf (b_ true)) <|
  aV (tru (okC cs n n)) <| aV (tru (RmE cs n n)) <| aV (tru (okC cs n n)) <| aV (tru (RmE cs n n)) <| aV (tru (BokE (RS_ cs n) (RN_ cs n) (RN_ cs n) ∧ crE (RS_ cs n) (RN_ cs n) = 0)) <| aV (tru (P59 true (RS_ cs n) (RN_ cs n) (RN_ cs n))) <|
  aV (tru (CfE (flatC (CC_ cs n)) (CC_ cs n).length (CC_ cs n).length)) <|
  aV (tru (TokE (ST_ cs n) (LD_ cs n) (CP_ cs n))) <| .br (leF (CC_ cs n).length n) (.br (leF (LD_ cs n) n) (
  aV (tru (CfE (flatC (CC_ cs n)) (CC_ cs n).length (CC_ cs n).length)) <| aV (tru (GcE (flatC (CC_ cs n)) (CC_ cs n).length (CC_ cs n).length)) <|
  aV (tru (TokE (ST_ cs n) (LD_ cs n) (CP_ cs n))) <| aV (tru (BokE (DS_ cs n) (LD_ cs n) (LD_ cs n) ∧ crE (DS_ cs n) (LD_ cs n) = 0)) <|
  aV (tru (TokE (RS_ cs n) (RN_ cs n) (RN_ cs n))) <| aV (tru (BokE (flatP (pts (RS_ cs n) (RN_ cs n))) (RN_ cs n) (RN_ cs n) ∧ crE (flatP (pts (RS_ cs n) (RN_ cs n))) (RN_ cs n) = 0)) <|
  .br (ltF n (RN_ cs n)) (.leaf (b_ false)) <| .br (!eqF (wrapF .i64 (wrapF .i64 (2 * (CC_ cs n).length) + (LD_ cs n))) (RN_ cs n)) (.leaf (b_ false)) <| aV true <| aV true <| aV true <| aV true <| aV (apE (RS_ cs n) (RN_ cs n)) <|
  aV (tru (1 ≤ RN_ cs n ∧ BokE (RT_ cs n) (RN_ cs n) (RN_ cs n) ∧ crE (RT_ cs n) (RN_ cs n) = 0 ∧ ckE x = 0)) <| aV (tru (CmE (DS_ cs n) (LD_ cs n) (LD_ cs n))) <| aV (tru (1 ≤ LD_ cs n ∧ BokE (DS_ cs n) (LD_ cs n) (LD_ cs n) ∧ crE (DS_ cs n) (LD_ cs n) = 0 ∧ ckE x = 0)) <|
  aV true <| .br (!eqF (crs (RT_ cs n) x (RN_ cs n)) (r5.2)) (.leaf (b_ false)) <| .br (ltF 1 (RN_ cs n)) (aV (apE (RS_ cs n) (RN_ cs n)) <| aV (tru (BokE (RT_ cs n) (RN_ cs n) (RN_ cs n) ∧ crE (RT_ cs n) (RN_ cs n) = 0 ∧ 2 ≤ RN_ cs n)) <| aV true <| aV true <| .leaf (b_ true)) (aV true <| .leaf (b_ true))) (.leaf (b_ false))) (.leaf (b_ false))
theorem v6A : (o6A cs n x t s ex r1 r2 r3 r4 r5 r6 r7 r8).vals = t6A cs n x r5 := by kernel_rfl
theorem x6A : o6A cs n x t s ex r1 r2 r3 r4 r5 r6 r7 r8 = (o6A cs n x t s ex r1 r2 r3 r4 r5 r6 r7 r8).fix := by kernel_rfl
end
noncomputable def LEN (rs cy ds : List Value) (n lc ld : Nat) (x : Int)  (r1 r3 r4 : ES) (r7 r8 : Int) : LTab := (loopE (loopE (loopE (loopE (loopE noL 6 10 340 12 (BE6 10) ((ShN rs cy ds n lc ld x [(94, sl 3 0 n n), (95, i n)] 96 0).st (0, ([], 0), ([], 0))).live ((ShN rs cy ds n lc ld x [(94, sl 3 0 n n), (95, i n)] 96 0).st (0, ([], 0), ([], 0))).hp (finO (ShN rs cy ds n lc ld x [(94, sl 3 0 n n), (95, i n)] 96 0) (0, r1) [0])) 6 23 340 12 (BE6 23) ((ShN rs cy ds n lc ld x [(149, sl 7 0 ld ld), (150, i ld)] 151 4).st (0, r1.2)).live ((ShN rs cy ds n lc ld x [(149, sl 7 0 ld ld), (150, i ld)] 151 4).st (0, r1.2)).hp (finO (ShN rs cy ds n lc ld x [(149, sl 7 0 ld ld), (150, i ld)] 151 4) (0, r3) [0])) 6 30 340 12 (BE6 30) ((ShN rs cy ds n lc ld x [(168, sl 3 0 n n), (169, i n)] 170 6).st (0, r3.2)).live ((ShN rs cy ds n lc ld x [(168, sl 3 0 n n), (169, i n)] 170 6).st (0, r3.2)).hp (finO (ShN rs cy ds n lc ld x [(168, sl 3 0 n n), (169, i n)] 170 6) (0, r4) [0])) 6 58 340 15 (BE6 58) ((SE58 rs cy ds ld 15 0 7).st (3 : Int)).live ((SE58 rs cy ds ld 15 0 7).st (3 : Int)).hp (finO (SE58 rs cy ds ld 15 0 7) (0, r7) [0])) 6 58 340 17 (BE6 58) ((SE58 rs cy ds ld 17 0 7).st (3 : Int)).live ((SE58 rs cy ds ld 17 0 7).st (3 : Int)).hp (finO (SE58 rs cy ds ld 17 0 7) (0, r8) [0]))
section
variable (cs : List Value) (n : Nat) (x : Int) (t s : Nat) (ex : Bool) (r1 r3 r4 : ES) (r7 r8 : Int)
noncomputable def CLN : Cfg := ⟨TE true false, at_ [(6, 42), (6, 47), (6, 37), (36, 37), (36, 44), (6, 79), (6, 90), (6, 222), (6, 225)] .bool no_, on_ [(6, 183), (6, 200183), (6, 229), (6, 200229)], LEN (RS_ cs n) [] (DS_ cs n) (RN_ cs n) 0 (LD_ cs n) x  r1 r3 r4 r7 r8⟩
noncomputable def o6N : Out QRes := execO Try.prog 2 (CLN cs n x r1 r3 r4 r7 r8) 120 (.call 6 ⟨[sl 1 0 n n, i x]⟩ (heapL (deads ++ [.cells cs t s ex])))
noncomputable def t6N : VT := .br (ltF 24 n) (.leaf (b_ true)) <| aV (tru (LokE cs n n)) <| .br (!eqF 0 0) (.leaf (b_ true)) <| .br (!eqF (rgE x (-32768) 32768) 0) (.leaf (b_ true)) <|
  aV (tru (okC cs n n)) <| aV (tru (RmE cs n n)) <| aV (tru (okC cs n n)) <| aV (tru (RmE cs n n)) <| aV (tru (BokE (RS_ cs n) (RN_ cs n) (RN_ cs n) ∧ crE (RS_ cs n) (RN_ cs n) = 0)) <| aV (tru (P59 false (RS_ cs n) (RN_ cs n) (RN_ cs n))) <|
  aV (tru (TokE (ST_ cs n) (LD_ cs n) (CP_ cs n))) <| .br (leF 0 n) (.br (leF (LD_ cs n) n) (
  aV (tru (TokE (ST_ cs n) (LD_ cs n) (CP_ cs n))) <| aV (tru (BokE (DS_ cs n) (LD_ cs n) (LD_ cs n) ∧ crE (DS_ cs n) (LD_ cs n) = 0)) <|
  aV (tru (TokE (RS_ cs n) (RN_ cs n) (RN_ cs n))) <| aV (tru (BokE (flatP (pts (RS_ cs n) (RN_ cs n))) (RN_ cs n) (RN_ cs n) ∧ crE (flatP (pts (RS_ cs n) (RN_ cs n))) (RN_ cs n) = 0)) <|
  .br (ltF n (RN_ cs n)) (.leaf (b_ false)) <| .br (!eqF (wrapF .i64 (0 + (LD_ cs n))) (RN_ cs n)) (.leaf (b_ false)) <| aV true <| aV true <| aV true <| aV (apE (RS_ cs n) (RN_ cs n)) <|
  aV (tru (1 ≤ RN_ cs n ∧ BokE (RT_ cs n) (RN_ cs n) (RN_ cs n) ∧ crE (RT_ cs n) (RN_ cs n) = 0 ∧ ckE x = 0)) <| aV (tru (CmE (DS_ cs n) (LD_ cs n) (LD_ cs n))) <| aV (tru (1 ≤ LD_ cs n ∧ BokE (DS_ cs n) (LD_ cs n) (LD_ cs n) ∧ crE (DS_ cs n) (LD_ cs n) = 0 ∧ ckE x = 0)) <|
  .br (!eqF (crs (RT_ cs n) x (RN_ cs n)) (crs (DS_ cs n) x (LD_ cs n))) (.leaf (b_ false)) <| .br (ltF 1 (RN_ cs n)) (aV (apE (RS_ cs n) (RN_ cs n)) <| aV (tru (BokE (RT_ cs n) (RN_ cs n) (RN_ cs n) ∧ crE (RT_ cs n) (RN_ cs n) = 0 ∧ 2 ≤ RN_ cs n)) <| aV true <| .leaf (b_ true)) (aV true <| .leaf (b_ true))) (.leaf (b_ false))) (.leaf (b_ false))
theorem v6N : (o6N cs n x t s ex r1 r3 r4 r7 r8).vals = t6N cs n x  := by kernel_rfl
theorem x6N : o6N cs n x t s ex r1 r3 r4 r7 r8 = (o6N cs n x t s ex r1 r3 r4 r7 r8).fix := by kernel_rfl
end
end Go.Proofs.Ytphadgdlknhbnaa.Ways
