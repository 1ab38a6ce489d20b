import Derived.Test.YthfmffbcbopanaaDoorRt6
import Derived.Test.YthfmffbcbopanaaDoorRt7
namespace Go.Proofs.YthfmffbcbopanaaDoor.Ways
open Go Go.Ex
def mxI (u v : Int) : Int := if v > u then v else u
def mnI (u v : Int) : Int := if v < u then v else u
def ngI (a : Int) : Int := IntKind.i64.wrap (0 - a)
def max8 (a b c d : Int) : Int := mxI (mxI (mxI (mxI (mxI (mxI (mxI a (ngI a)) b) (ngI b)) c) (ngI c)) d) (ngI d)
def max4 (a b : Int) : Int := mxI (mxI (mxI a (ngI a)) b) (ngI b)
def min4 (a b c d : Int) : Int := mnI (mnI (mnI a b) c) d
def neg (b : Bool) (k : VT) : VT := .br b (lf false) k
def pos (b : Bool) (k : VT) : VT := .br b k (lf false)
section
variable (x y z a b c d : Int)
def S0 : Int := okE (inE x y z) (sE x y z)
def A0 : Int := okE (inE x y z) (aE x y z)
def B0 : Int := okE (inE x y z) (bE x y z)
def P0 : Int := okE (twoE a b c d) (tAE a b c d)
def P1 : Int := okE (twoE a b c d) (tBE a b c d)
def U0 : Int := okE (pnE a b 1) (turnAE a b 1)
def U1 : Int := okE (pnE a b 1) (turnBE a b 1)
def X0 : Int := okE (pairE a b) (cAE a b)
def X1 : Int := okE (pairE a b) (cBE b)
def N0 : Int := okE (pairE a b) (nE a b)
def lawR : VT :=
  neg (!eqF (twoE a b c d) 0) (neg (!eqF (pairE a b) 0) (neg (!eqF (pairE c d) 0) (neg (ltF 999999999 (max4 (P0 a b c d) (P1 a b c d))) (neg (ltF (N0 a b) 0) (neg (ltF 1000000000 (N0 a b)) (neg (ltF (N0 c d) 0) (neg (ltF 1000000000 (N0 c d))
    (neg (!eqF (pairE (P0 a b c d) (P1 a b c d)) 0) (neg (!eqF (pnE a b 1) 0) (neg (!eqF (pairE (U0 a b) (U1 a b)) 0) (neg (!eqF (pnE (U0 a b) (U1 a b) 2) 0) (neg (!eqF (pairE a b) 0) (neg (!eqF (twoE a b (X0 a b) (X1 a b)) 0)
    (neg (!eqF (okE (pairE (P0 a b c d) (P1 a b c d)) (nE (P0 a b c d) (P1 a b c d))) (wrapF .i64 (N0 a b * N0 c d))) (neg (!eqF (okE (pairE (U0 a b) (U1 a b)) (nE (U0 a b) (U1 a b))) (N0 a b))
    (neg (!(okE (pnE (U0 a b) (U1 a b) 2) (turnAE (U0 a b) (U1 a b) 2) == a && (okE (pnE (U0 a b) (U1 a b) 2) (turnBE (U0 a b) (U1 a b) 2) == b && true)))
    (neg (!(okE (twoE a b (X0 a b) (X1 a b)) (tAE a b (X0 a b) (X1 a b)) == N0 a b && (okE (twoE a b (X0 a b) (X1 a b)) (tBE a b (X0 a b) (X1 a b)) == 0 && true)))
    (pos (eqF (e3E x y z y z x z x y) 0) (pos (eqF (e3E x y z y z x z x y) 0) (pos (eqF (e3E x y z x y z x y z) 0) (pos (eqF (e3E x y z x y z x y z) 0)
    (pos (okE (e3E x y z y z x z x y) (rotA x y z y z x z x y) == 0 && (okE (e3E x y z y z x z x y) (rotB x y z y z x z x y) == 0 && true))
    (pos (okE (e3E x y z y z x z x y) (fixA x y z y z x z x y) == wrapF .i64 (3 * A0 x y z) && (okE (e3E x y z y z x z x y) (fixB x y z y z x z x y) == wrapF .i64 (3 * B0 x y z) && true))
    (pos (okE (e3E x y z x y z x y z) (rotA x y z x y z x y z) == wrapF .i64 (3 * A0 x y z) && (okE (e3E x y z x y z x y z) (rotB x y z x y z x y z) == wrapF .i64 (3 * B0 x y z) && true))
    (pos (okE (e3E x y z x y z x y z) (fixA x y z x y z x y z) == 0 && (okE (e3E x y z x y z x y z) (fixB x y z x y z x y z) == 0 && true)) (lf true))))))))))))))))))))))))))
def law4 : VT :=
  .br (!eqF (inE x y z) 0) (lf true) (.br (ltF 10000 (max8 a b c d)) (lf true) (.br (ltF (min4 a b c d) (-10000)) (lf true)
    (neg (!eqF (inE x y z) 0) (neg (!eqF (inE z x y) 0) (neg (!eqF (mErrE (S0 x y z) (A0 x y z) (B0 x y z)) 0) (neg (!eqF (pnE (A0 x y z) (B0 x y z) 1) 0) (neg (!eqF (okE (inE z x y) (sE z x y)) (S0 x y z))
    (neg (!eqF (S0 x y z) (wrapF .i64 (wrapF .i64 (x + y) + z)))
    (neg (!(okE (mErrE (S0 x y z) (A0 x y z) (B0 x y z)) (mXE (S0 x y z) (A0 x y z) (B0 x y z)) == x && (okE (mErrE (S0 x y z) (A0 x y z) (B0 x y z)) (mYE (S0 x y z) (A0 x y z) (B0 x y z)) == y && (okE (mErrE (S0 x y z) (A0 x y z) (B0 x y z)) (thE (S0 x y z) (A0 x y z) (B0 x y z)) == z && true))))
    (neg (!(okE (inE z x y) (aE z x y) == okE (pnE (A0 x y z) (B0 x y z) 1) (turnAE (A0 x y z) (B0 x y z) 1) && (okE (inE z x y) (bE z x y) == okE (pnE (A0 x y z) (B0 x y z) 1) (turnBE (A0 x y z) (B0 x y z) 1) && true)))
    (.br (A0 x y z == 0 && (B0 x y z == 0 && true)) (pos (eqF x y) (pos (eqF y z) (lawR x y z a b c d))) (.br (eqF x y) (neg (eqF y z) (lawR x y z a b c d)) (lawR x y z a b c d)))))))))))))
end
theorem law4_run (x y z a b c d : Int) : (execO Tryd.prog 4 C10 60 (.call 4 ⟨[ar x y z, ag [i a, i b], ag [i c, i d]]⟩ Ha)).vals = law4 x y z a b c d := by kernel_rfl
end Go.Proofs.YthfmffbcbopanaaDoor.Ways
