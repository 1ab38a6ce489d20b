import Derived.Test.YtbocpikgochioaaDoorMr4
namespace Go.Proofs.YtbocpikgochioaaDoor.Ways
open Go Go.Ex
noncomputable def BM : Code := bodyL Tryd.f4 8
noncomputable def spM : Nat → Nat → Split := at_ [(Fn.law03_RotorMonotone, 26), (Fn.law03_RotorMonotone, 32), (Fn.law03_RotorMonotone, 37), (Fn.law03_RotorMonotone, 42), (Fn.law03_RotorMonotone, 47), (Fn.law03_RotorMonotone, 80), (Fn.law03_RotorMonotone, 106), (Fn.law03_RotorMonotone, 109), (Fn.law03_RotorMonotone, 113), (Fn.law03_RotorMonotone, 117), (Fn.law03_RotorMonotone, 121), (Fn.law03_RotorMonotone, 127), (Fn.law03_RotorMonotone, 137), (Fn.law03_RotorMonotone, 141), (Fn.law03_RotorMonotone, 145), (Fn.law03_RotorMonotone, 148), (Fn.law03_RotorMonotone, 150), (Fn.law03_RotorMonotone, 153), (Fn.law03_RotorMonotone, 157), (Fn.law03_RotorMonotone, 169), (Fn.law03_RotorMonotone, 172), (Fn.law03_RotorMonotone, 176), (Fn.law03_RotorMonotone, 184), (Fn.law03_RotorMonotone, 192), (Fn.law03_RotorMonotone, 200)] .bool no_
noncomputable def CM : Cfg := ⟨TXf, spM, off_, noL⟩
def stM (ring half E A L M j : Int) : List (Nat × Value) := [(3, pt 7 0), (4, pt 8 0), (5, pt 9 0), (7, i ring), (8, i half), (9, pt 13 0), (10, i E), (11, i A), (12, i L), (13, i M), (14, i j)]
def eJ (a : ArA) (css : List (List Value)) : Int := firstE (sE_ a css) (indE a.x a.d)
def bJ (a : ArA) (css : List (List Value)) : Int := okE (eJ a css) (balF a css)
def iJ (a : ArA) (css : List (List Value)) : Int := okE (eJ a css) (infE (rhoC css (4 * a.ring.toNat)) a.w a.s a.x a.d)
theorem roundOA {cs1 cs2 cs3 : List Value} {t1 s1 t2 s2 t3 s3 n1 n2 k : Nat} {w s q R a d x D ring half A L M : Int} (f1 : cs1.all Ex.flat = true) (f2 : cs2.all Ex.flat = true) (f3 : cs3.all Ex.flat = true) (j : Nat) (ro : Option Nat) (hj : (j : Int) ≤ half) (h1 : okCp (argA n1 n2 (k + 1)) cs1 cs2 cs3) (h2 : okP (AR n1 n2 k w s q ring (j : Int) D) (cpS cs1 cs2 cs3 (k + 1))) (he : (eJ (AR n1 n2 k w s q ring (j : Int) D) (cpS cs1 cs2 cs3 (k + 1))) = 0) (hi : 0 ≤ (iJ (AR n1 n2 k w s q ring (j : Int) D) (cpS cs1 cs2 cs3 (k + 1)))) (hp : j = 0) (hc : (checkR (AR n1 n2 k w s q ring (j : Int) D) (cpS cs1 cs2 cs3 (k + 1))) = 0) (hE : (fZ (AF n1 n2 k w s q ring D) (cpS cs1 cs2 cs3 (k + 1))) = 0) (hX : (j : Int) = fX (AF n1 n2 k w s q ring D) (cpS cs1 cs2 cs3 (k + 1))) (hY : D = fY (AF n1 n2 k w s q ring D) (cpS cs1 cs2 cs3 (k + 1))) :
    ∃ tm1 H1, Sound Tryd.prog 7 (.code BM ro (absT (tmL 203 (stM ring half (fZ (AF n1 n2 k w s q ring D) (cpS cs1 cs2 cs3 (k + 1))) A L M (j : Int)))) (heapL ((baseMB cs1 cs2 cs3 t1 s1 t2 s2 t3 s3 n1 n2 k w s q R a d x D ring half 0 0).map (·.1))) []) (.ex .normal tm1 H1 []) ∧ Restate 14 tm1 H1 (absT (tmL 203 [(3, pt 7 0), (4, pt 8 0), (5, pt 9 0), (7, i ring), (8, i half), (9, pt 13 0), (10, i (fZ (AF n1 n2 k w s q ring D) (cpS cs1 cs2 cs3 (k + 1)))), (11, i (wrapF .i64 (A + 1))), (12, i (bJ (AR n1 n2 k w s q ring (j : Int) D) (cpS cs1 cs2 cs3 (k + 1)))), (13, i (iJ (AR n1 n2 k w s q ring (j : Int) D) (cpS cs1 cs2 cs3 (k + 1)))), (14, i (wrapF .i64 ((j : Int) + 1)))])) (heapL ((baseMB cs1 cs2 cs3 t1 s1 t2 s2 t3 s3 n1 n2 k w s q R a d x D ring half 0 0).map (·.1))) := by
  have hq : [leF j half, tru (okCp (argA n1 n2 (k + 1)) cs1 cs2 cs3), tru (okP (AR n1 n2 k w s q ring (j : Int) D) (cpS cs1 cs2 cs3 (k + 1))), tru (okCp (argA n1 n2 (k + 1)) cs1 cs2 cs3), tru (okP (AR n1 n2 k w s q ring (j : Int) D) (cpS cs1 cs2 cs3 (k + 1))), !eqF (eJ (AR n1 n2 k w s q ring (j : Int) D) (cpS cs1 cs2 cs3 (k + 1))) 0, !eqF (eJ (AR n1 n2 k w s q ring (j : Int) D) (cpS cs1 cs2 cs3 (k + 1))) 0, ltF 0 j, ltF (iJ (AR n1 n2 k w s q ring (j : Int) D) (cpS cs1 cs2 cs3 (k + 1))) 0, tru (okCp (argA n1 n2 (k + 1)) cs1 cs2 cs3), tru (okP (AR n1 n2 k w s q ring (j : Int) D) (cpS cs1 cs2 cs3 (k + 1))), eqF (checkR (AR n1 n2 k w s q ring (j : Int) D) (cpS cs1 cs2 cs3 (k + 1))) 0, !eqF (fZ (AF n1 n2 k w s q ring D) (cpS cs1 cs2 cs3 (k + 1))) 0, !((j : Int) == fX (AF n1 n2 k w s q ring D) (cpS cs1 cs2 cs3 (k + 1)) && (D == fY (AF n1 n2 k w s q ring D) (cpS cs1 cs2 cs3 (k + 1)) && true))] = List.take [leF j half, tru (okCp (argA n1 n2 (k + 1)) cs1 cs2 cs3), tru (okP (AR n1 n2 k w s q ring (j : Int) D) (cpS cs1 cs2 cs3 (k + 1))), tru (okCp (argA n1 n2 (k + 1)) cs1 cs2 cs3), tru (okP (AR n1 n2 k w s q ring (j : Int) D) (cpS cs1 cs2 cs3 (k + 1))), !eqF (eJ (AR n1 n2 k w s q ring (j : Int) D) (cpS cs1 cs2 cs3 (k + 1))) 0, !eqF (eJ (AR n1 n2 k w s q ring (j : Int) D) (cpS cs1 cs2 cs3 (k + 1))) 0, ltF 0 j, ltF (iJ (AR n1 n2 k w s q ring (j : Int) D) (cpS cs1 cs2 cs3 (k + 1))) 0, tru (okCp (argA n1 n2 (k + 1)) cs1 cs2 cs3), tru (okP (AR n1 n2 k w s q ring (j : Int) D) (cpS cs1 cs2 cs3 (k + 1))), eqF (checkR (AR n1 n2 k w s q ring (j : Int) D) (cpS cs1 cs2 cs3 (k + 1))) 0, !eqF (fZ (AF n1 n2 k w s q ring D) (cpS cs1 cs2 cs3 (k + 1))) 0, !((j : Int) == fX (AF n1 n2 k w s q ring D) (cpS cs1 cs2 cs3 (k + 1)) && (D == fY (AF n1 n2 k w s q ring D) (cpS cs1 cs2 cs3 (k + 1)) && true))].length [true, true, true, true, true, false, false, false, false, true, true, true, false, false] := by
    have g1 : leF (j : Int) half = true := by rw [leF_eq]; exact decide_eq_true hj
    have g2 : (!eqF (eJ (AR n1 n2 k w s q ring (j : Int) D) (cpS cs1 cs2 cs3 (k + 1))) 0) = false := by rw [he]; rfl
    have g3 : ltF (iJ (AR n1 n2 k w s q ring (j : Int) D) (cpS cs1 cs2 cs3 (k + 1))) 0 = false := by rw [ltF_eq]; exact decide_eq_false (by omega)
    have g4 : ltF 0 (j : Int) = false := by rw [ltF_eq]; exact decide_eq_false (by omega)
    have g7 : eqF (checkR (AR n1 n2 k w s q ring (j : Int) D) (cpS cs1 cs2 cs3 (k + 1))) 0 = true := by rw [hc]; rfl
    have g8 : (!eqF (fZ (AF n1 n2 k w s q ring D) (cpS cs1 cs2 cs3 (k + 1))) 0) = false := by rw [hE]; rfl
    have g9 : (!((j : Int) == fX (AF n1 n2 k w s q ring D) (cpS cs1 cs2 cs3 (k + 1)) && (D == fY (AF n1 n2 k w s q ring D) (cpS cs1 cs2 cs3 (k + 1)) && true))) = false := by rw [← hX, ← hY]; simp
    rw [g1, tru_iff.2 h1, tru_iff.2 h2, g2, g3, g4, g7, g8, g9]; rfl
  exact round_of (P := Tryd.prog) (G := 7) (C := CM) (n := 60) (f := Fn.law03_RotorMonotone) (b := BM) (ro := ro) (tm := tmL 203 (stM ring half (fZ (AF n1 n2 k w s q ring D) (cpS cs1 cs2 cs3 (k + 1))) A L M (j : Int))) (H := heapL ((baseMB cs1 cs2 cs3 t1 s1 t2 s2 t3 s3 n1 n2 k w s q R a d x D ring half 0 0).map (·.1))) (df := []) (df1 := []) (k := 14) (N := 203) (len := 24) (x := .normal) (List.range 14) [(3, pt 7 0), (4, pt 8 0), (5, pt 9 0), (7, i ring), (8, i half), (9, pt 13 0), (10, i (fZ (AF n1 n2 k w s q ring D) (cpS cs1 cs2 cs3 (k + 1)))), (11, i (wrapF .i64 (A + 1))), (12, i (bJ (AR n1 n2 k w s q ring (j : Int) D) (cpS cs1 cs2 cs3 (k + 1)))), (13, i (iJ (AR n1 n2 k w s q ring (j : Int) D) (cpS cs1 cs2 cs3 (k + 1)))), (14, i (wrapF .i64 ((j : Int) + 1)))] (baseMB cs1 cs2 cs3 t1 s1 t2 s2 t3 s3 n1 n2 k w s q R a d x D ring half 0 0) [true, true, true, true, true, false, false, false, false, true, true, true, false, false] [leF j half, tru (okCp (argA n1 n2 (k + 1)) cs1 cs2 cs3), tru (okP (AR n1 n2 k w s q ring (j : Int) D) (cpS cs1 cs2 cs3 (k + 1))), tru (okCp (argA n1 n2 (k + 1)) cs1 cs2 cs3), tru (okP (AR n1 n2 k w s q ring (j : Int) D) (cpS cs1 cs2 cs3 (k + 1))), !eqF (eJ (AR n1 n2 k w s q ring (j : Int) D) (cpS cs1 cs2 cs3 (k + 1))) 0, !eqF (eJ (AR n1 n2 k w s q ring (j : Int) D) (cpS cs1 cs2 cs3 (k + 1))) 0, ltF 0 j, ltF (iJ (AR n1 n2 k w s q ring (j : Int) D) (cpS cs1 cs2 cs3 (k + 1))) 0, tru (okCp (argA n1 n2 (k + 1)) cs1 cs2 cs3), tru (okP (AR n1 n2 k w s q ring (j : Int) D) (cpS cs1 cs2 cs3 (k + 1))), eqF (checkR (AR n1 n2 k w s q ring (j : Int) D) (cpS cs1 cs2 cs3 (k + 1))) 0, !eqF (fZ (AF n1 n2 k w s q ring D) (cpS cs1 cs2 cs3 (k + 1))) 0, !((j : Int) == fX (AF n1 n2 k w s q ring D) (cpS cs1 cs2 cs3 (k + 1)) && (D == fY (AF n1 n2 k w s q ring D) (cpS cs1 cs2 cs3 (k + 1)) && true))] tsXf .none (by kernel_rfl) (by kernel_rfl) hq (by kernel_rfl) (fbMB (t1 := t1) (s1 := s1) (t2 := t2) (s2 := s2) (t3 := t3) (s3 := s3) (n1 := n1) (n2 := n2) (k := k) (w := w) (s := s) (q := q) (R := R) (a := a) (d := d) (x := x) (D := D) (ring := ring) (half := half) (A := 0) (L := 0) f1 f2 f3)
theorem roundON {cs1 cs2 cs3 : List Value} {t1 s1 t2 s2 t3 s3 n1 n2 k : Nat} {w s q R a d x D ring half A L M : Int} (f1 : cs1.all Ex.flat = true) (f2 : cs2.all Ex.flat = true) (f3 : cs3.all Ex.flat = true) (j : Nat) (ro : Option Nat) (hj : (j : Int) ≤ half) (h1 : okCp (argA n1 n2 (k + 1)) cs1 cs2 cs3) (h2 : okP (AR n1 n2 k w s q ring (j : Int) D) (cpS cs1 cs2 cs3 (k + 1))) (he : (eJ (AR n1 n2 k w s q ring (j : Int) D) (cpS cs1 cs2 cs3 (k + 1))) = 0) (hi : 0 ≤ (iJ (AR n1 n2 k w s q ring (j : Int) D) (cpS cs1 cs2 cs3 (k + 1)))) (hp : j = 0) (hc : (checkR (AR n1 n2 k w s q ring (j : Int) D) (cpS cs1 cs2 cs3 (k + 1))) ≠ 0) :
    ∃ tm1 H1, Sound Tryd.prog 7 (.code BM ro (absT (tmL 203 (stM ring half (fZ (AF n1 n2 k w s q ring D) (cpS cs1 cs2 cs3 (k + 1))) A L M (j : Int)))) (heapL ((baseMB cs1 cs2 cs3 t1 s1 t2 s2 t3 s3 n1 n2 k w s q R a d x D ring half 0 0).map (·.1))) []) (.ex .normal tm1 H1 []) ∧ Restate 14 tm1 H1 (absT (tmL 203 [(3, pt 7 0), (4, pt 8 0), (5, pt 9 0), (7, i ring), (8, i half), (9, pt 13 0), (10, i (fZ (AF n1 n2 k w s q ring D) (cpS cs1 cs2 cs3 (k + 1)))), (11, i A), (12, i (bJ (AR n1 n2 k w s q ring (j : Int) D) (cpS cs1 cs2 cs3 (k + 1)))), (13, i (iJ (AR n1 n2 k w s q ring (j : Int) D) (cpS cs1 cs2 cs3 (k + 1)))), (14, i (wrapF .i64 ((j : Int) + 1)))])) (heapL ((baseMB cs1 cs2 cs3 t1 s1 t2 s2 t3 s3 n1 n2 k w s q R a d x D ring half 0 0).map (·.1))) := by
  have hq : [leF j half, tru (okCp (argA n1 n2 (k + 1)) cs1 cs2 cs3), tru (okP (AR n1 n2 k w s q ring (j : Int) D) (cpS cs1 cs2 cs3 (k + 1))), tru (okCp (argA n1 n2 (k + 1)) cs1 cs2 cs3), tru (okP (AR n1 n2 k w s q ring (j : Int) D) (cpS cs1 cs2 cs3 (k + 1))), !eqF (eJ (AR n1 n2 k w s q ring (j : Int) D) (cpS cs1 cs2 cs3 (k + 1))) 0, !eqF (eJ (AR n1 n2 k w s q ring (j : Int) D) (cpS cs1 cs2 cs3 (k + 1))) 0, ltF 0 j, ltF (iJ (AR n1 n2 k w s q ring (j : Int) D) (cpS cs1 cs2 cs3 (k + 1))) 0, tru (okCp (argA n1 n2 (k + 1)) cs1 cs2 cs3), tru (okP (AR n1 n2 k w s q ring (j : Int) D) (cpS cs1 cs2 cs3 (k + 1))), eqF (checkR (AR n1 n2 k w s q ring (j : Int) D) (cpS cs1 cs2 cs3 (k + 1))) 0] = List.take [leF j half, tru (okCp (argA n1 n2 (k + 1)) cs1 cs2 cs3), tru (okP (AR n1 n2 k w s q ring (j : Int) D) (cpS cs1 cs2 cs3 (k + 1))), tru (okCp (argA n1 n2 (k + 1)) cs1 cs2 cs3), tru (okP (AR n1 n2 k w s q ring (j : Int) D) (cpS cs1 cs2 cs3 (k + 1))), !eqF (eJ (AR n1 n2 k w s q ring (j : Int) D) (cpS cs1 cs2 cs3 (k + 1))) 0, !eqF (eJ (AR n1 n2 k w s q ring (j : Int) D) (cpS cs1 cs2 cs3 (k + 1))) 0, ltF 0 j, ltF (iJ (AR n1 n2 k w s q ring (j : Int) D) (cpS cs1 cs2 cs3 (k + 1))) 0, tru (okCp (argA n1 n2 (k + 1)) cs1 cs2 cs3), tru (okP (AR n1 n2 k w s q ring (j : Int) D) (cpS cs1 cs2 cs3 (k + 1))), eqF (checkR (AR n1 n2 k w s q ring (j : Int) D) (cpS cs1 cs2 cs3 (k + 1))) 0].length [true, true, true, true, true, false, false, false, false, true, true, false] := by
    have g1 : leF (j : Int) half = true := by rw [leF_eq]; exact decide_eq_true hj
    have g2 : (!eqF (eJ (AR n1 n2 k w s q ring (j : Int) D) (cpS cs1 cs2 cs3 (k + 1))) 0) = false := by rw [he]; rfl
    have g3 : ltF (iJ (AR n1 n2 k w s q ring (j : Int) D) (cpS cs1 cs2 cs3 (k + 1))) 0 = false := by rw [ltF_eq]; exact decide_eq_false (by omega)
    have g4 : ltF 0 (j : Int) = false := by rw [ltF_eq]; exact decide_eq_false (by omega)
    have g7 : eqF (checkR (AR n1 n2 k w s q ring (j : Int) D) (cpS cs1 cs2 cs3 (k + 1))) 0 = false := by rw [eqF_d]; exact decide_eq_false hc
    rw [g1, tru_iff.2 h1, tru_iff.2 h2, g2, g3, g4, g7]; rfl
  exact round_of (P := Tryd.prog) (G := 7) (C := CM) (n := 60) (f := Fn.law03_RotorMonotone) (b := BM) (ro := ro) (tm := tmL 203 (stM ring half (fZ (AF n1 n2 k w s q ring D) (cpS cs1 cs2 cs3 (k + 1))) A L M (j : Int))) (H := heapL ((baseMB cs1 cs2 cs3 t1 s1 t2 s2 t3 s3 n1 n2 k w s q R a d x D ring half 0 0).map (·.1))) (df := []) (df1 := []) (k := 14) (N := 203) (len := 24) (x := .normal) (List.range 14) [(3, pt 7 0), (4, pt 8 0), (5, pt 9 0), (7, i ring), (8, i half), (9, pt 13 0), (10, i (fZ (AF n1 n2 k w s q ring D) (cpS cs1 cs2 cs3 (k + 1)))), (11, i A), (12, i (bJ (AR n1 n2 k w s q ring (j : Int) D) (cpS cs1 cs2 cs3 (k + 1)))), (13, i (iJ (AR n1 n2 k w s q ring (j : Int) D) (cpS cs1 cs2 cs3 (k + 1)))), (14, i (wrapF .i64 ((j : Int) + 1)))] (baseMB cs1 cs2 cs3 t1 s1 t2 s2 t3 s3 n1 n2 k w s q R a d x D ring half 0 0) [true, true, true, true, true, false, false, false, false, true, true, false] [leF j half, tru (okCp (argA n1 n2 (k + 1)) cs1 cs2 cs3), tru (okP (AR n1 n2 k w s q ring (j : Int) D) (cpS cs1 cs2 cs3 (k + 1))), tru (okCp (argA n1 n2 (k + 1)) cs1 cs2 cs3), tru (okP (AR n1 n2 k w s q ring (j : Int) D) (cpS cs1 cs2 cs3 (k + 1))), !eqF (eJ (AR n1 n2 k w s q ring (j : Int) D) (cpS cs1 cs2 cs3 (k + 1))) 0, !eqF (eJ (AR n1 n2 k w s q ring (j : Int) D) (cpS cs1 cs2 cs3 (k + 1))) 0, ltF 0 j, ltF (iJ (AR n1 n2 k w s q ring (j : Int) D) (cpS cs1 cs2 cs3 (k + 1))) 0, tru (okCp (argA n1 n2 (k + 1)) cs1 cs2 cs3), tru (okP (AR n1 n2 k w s q ring (j : Int) D) (cpS cs1 cs2 cs3 (k + 1))), eqF (checkR (AR n1 n2 k w s q ring (j : Int) D) (cpS cs1 cs2 cs3 (k + 1))) 0] tsXf .none (by kernel_rfl) (by kernel_rfl) hq (by kernel_rfl) (fbMB (t1 := t1) (s1 := s1) (t2 := t2) (s2 := s2) (t3 := t3) (s3 := s3) (n1 := n1) (n2 := n2) (k := k) (w := w) (s := s) (q := q) (R := R) (a := a) (d := d) (x := x) (D := D) (ring := ring) (half := half) (A := 0) (L := 0) f1 f2 f3)
theorem roundPA {cs1 cs2 cs3 : List Value} {t1 s1 t2 s2 t3 s3 n1 n2 k : Nat} {w s q R a d x D ring half A L M : Int} (f1 : cs1.all Ex.flat = true) (f2 : cs2.all Ex.flat = true) (f3 : cs3.all Ex.flat = true) (j : Nat) (ro : Option Nat) (hj : (j : Int) ≤ half) (h1 : okCp (argA n1 n2 (k + 1)) cs1 cs2 cs3) (h2 : okP (AR n1 n2 k w s q ring (j : Int) D) (cpS cs1 cs2 cs3 (k + 1))) (he : (eJ (AR n1 n2 k w s q ring (j : Int) D) (cpS cs1 cs2 cs3 (k + 1))) = 0) (hi : 0 ≤ (iJ (AR n1 n2 k w s q ring (j : Int) D) (cpS cs1 cs2 cs3 (k + 1)))) (hp : 0 < j) (hb : L ≤ (bJ (AR n1 n2 k w s q ring (j : Int) D) (cpS cs1 cs2 cs3 (k + 1)))) (hm : (iJ (AR n1 n2 k w s q ring (j : Int) D) (cpS cs1 cs2 cs3 (k + 1))) ≤ M) (hc : (checkR (AR n1 n2 k w s q ring (j : Int) D) (cpS cs1 cs2 cs3 (k + 1))) = 0) (hE : (fZ (AF n1 n2 k w s q ring D) (cpS cs1 cs2 cs3 (k + 1))) = 0) (hX : (j : Int) = fX (AF n1 n2 k w s q ring D) (cpS cs1 cs2 cs3 (k + 1))) (hY : D = fY (AF n1 n2 k w s q ring D) (cpS cs1 cs2 cs3 (k + 1))) :
    ∃ tm1 H1, Sound Tryd.prog 7 (.code BM ro (absT (tmL 203 (stM ring half (fZ (AF n1 n2 k w s q ring D) (cpS cs1 cs2 cs3 (k + 1))) A L M (j : Int)))) (heapL ((baseMB cs1 cs2 cs3 t1 s1 t2 s2 t3 s3 n1 n2 k w s q R a d x D ring half 0 0).map (·.1))) []) (.ex .normal tm1 H1 []) ∧ Restate 14 tm1 H1 (absT (tmL 203 [(3, pt 7 0), (4, pt 8 0), (5, pt 9 0), (7, i ring), (8, i half), (9, pt 13 0), (10, i (fZ (AF n1 n2 k w s q ring D) (cpS cs1 cs2 cs3 (k + 1)))), (11, i (wrapF .i64 (A + 1))), (12, i (bJ (AR n1 n2 k w s q ring (j : Int) D) (cpS cs1 cs2 cs3 (k + 1)))), (13, i (iJ (AR n1 n2 k w s q ring (j : Int) D) (cpS cs1 cs2 cs3 (k + 1)))), (14, i (wrapF .i64 ((j : Int) + 1)))])) (heapL ((baseMB cs1 cs2 cs3 t1 s1 t2 s2 t3 s3 n1 n2 k w s q R a d x D ring half 0 0).map (·.1))) := by
  have hq : [leF j half, tru (okCp (argA n1 n2 (k + 1)) cs1 cs2 cs3), tru (okP (AR n1 n2 k w s q ring (j : Int) D) (cpS cs1 cs2 cs3 (k + 1))), tru (okCp (argA n1 n2 (k + 1)) cs1 cs2 cs3), tru (okP (AR n1 n2 k w s q ring (j : Int) D) (cpS cs1 cs2 cs3 (k + 1))), !eqF (eJ (AR n1 n2 k w s q ring (j : Int) D) (cpS cs1 cs2 cs3 (k + 1))) 0, !eqF (eJ (AR n1 n2 k w s q ring (j : Int) D) (cpS cs1 cs2 cs3 (k + 1))) 0, ltF 0 j, ltF (bJ (AR n1 n2 k w s q ring (j : Int) D) (cpS cs1 cs2 cs3 (k + 1))) L, ltF M (iJ (AR n1 n2 k w s q ring (j : Int) D) (cpS cs1 cs2 cs3 (k + 1))), ltF (iJ (AR n1 n2 k w s q ring (j : Int) D) (cpS cs1 cs2 cs3 (k + 1))) 0, tru (okCp (argA n1 n2 (k + 1)) cs1 cs2 cs3), tru (okP (AR n1 n2 k w s q ring (j : Int) D) (cpS cs1 cs2 cs3 (k + 1))), eqF (checkR (AR n1 n2 k w s q ring (j : Int) D) (cpS cs1 cs2 cs3 (k + 1))) 0, !eqF (fZ (AF n1 n2 k w s q ring D) (cpS cs1 cs2 cs3 (k + 1))) 0, !((j : Int) == fX (AF n1 n2 k w s q ring D) (cpS cs1 cs2 cs3 (k + 1)) && (D == fY (AF n1 n2 k w s q ring D) (cpS cs1 cs2 cs3 (k + 1)) && true))] = List.take [leF j half, tru (okCp (argA n1 n2 (k + 1)) cs1 cs2 cs3), tru (okP (AR n1 n2 k w s q ring (j : Int) D) (cpS cs1 cs2 cs3 (k + 1))), tru (okCp (argA n1 n2 (k + 1)) cs1 cs2 cs3), tru (okP (AR n1 n2 k w s q ring (j : Int) D) (cpS cs1 cs2 cs3 (k + 1))), !eqF (eJ (AR n1 n2 k w s q ring (j : Int) D) (cpS cs1 cs2 cs3 (k + 1))) 0, !eqF (eJ (AR n1 n2 k w s q ring (j : Int) D) (cpS cs1 cs2 cs3 (k + 1))) 0, ltF 0 j, ltF (bJ (AR n1 n2 k w s q ring (j : Int) D) (cpS cs1 cs2 cs3 (k + 1))) L, ltF M (iJ (AR n1 n2 k w s q ring (j : Int) D) (cpS cs1 cs2 cs3 (k + 1))), ltF (iJ (AR n1 n2 k w s q ring (j : Int) D) (cpS cs1 cs2 cs3 (k + 1))) 0, tru (okCp (argA n1 n2 (k + 1)) cs1 cs2 cs3), tru (okP (AR n1 n2 k w s q ring (j : Int) D) (cpS cs1 cs2 cs3 (k + 1))), eqF (checkR (AR n1 n2 k w s q ring (j : Int) D) (cpS cs1 cs2 cs3 (k + 1))) 0, !eqF (fZ (AF n1 n2 k w s q ring D) (cpS cs1 cs2 cs3 (k + 1))) 0, !((j : Int) == fX (AF n1 n2 k w s q ring D) (cpS cs1 cs2 cs3 (k + 1)) && (D == fY (AF n1 n2 k w s q ring D) (cpS cs1 cs2 cs3 (k + 1)) && true))].length [true, true, true, true, true, false, false, true, false, false, false, true, true, true, false, false] := by
    have g1 : leF (j : Int) half = true := by rw [leF_eq]; exact decide_eq_true hj
    have g2 : (!eqF (eJ (AR n1 n2 k w s q ring (j : Int) D) (cpS cs1 cs2 cs3 (k + 1))) 0) = false := by rw [he]; rfl
    have g3 : ltF (iJ (AR n1 n2 k w s q ring (j : Int) D) (cpS cs1 cs2 cs3 (k + 1))) 0 = false := by rw [ltF_eq]; exact decide_eq_false (by omega)
    have g4 : ltF 0 (j : Int) = true := by rw [ltF_eq]; exact decide_eq_true (by omega)
    have g5 : ltF (bJ (AR n1 n2 k w s q ring (j : Int) D) (cpS cs1 cs2 cs3 (k + 1))) L = false := by rw [ltF_eq]; exact decide_eq_false (by omega)
    have g6 : ltF M (iJ (AR n1 n2 k w s q ring (j : Int) D) (cpS cs1 cs2 cs3 (k + 1))) = false := by rw [ltF_eq]; exact decide_eq_false (by omega)
    have g7 : eqF (checkR (AR n1 n2 k w s q ring (j : Int) D) (cpS cs1 cs2 cs3 (k + 1))) 0 = true := by rw [hc]; rfl
    have g8 : (!eqF (fZ (AF n1 n2 k w s q ring D) (cpS cs1 cs2 cs3 (k + 1))) 0) = false := by rw [hE]; rfl
    have g9 : (!((j : Int) == fX (AF n1 n2 k w s q ring D) (cpS cs1 cs2 cs3 (k + 1)) && (D == fY (AF n1 n2 k w s q ring D) (cpS cs1 cs2 cs3 (k + 1)) && true))) = false := by rw [← hX, ← hY]; simp
    rw [g1, tru_iff.2 h1, tru_iff.2 h2, g2, g3, g4, g5, g6, g7, g8, g9]; rfl
  exact round_of (P := Tryd.prog) (G := 7) (C := CM) (n := 60) (f := Fn.law03_RotorMonotone) (b := BM) (ro := ro) (tm := tmL 203 (stM ring half (fZ (AF n1 n2 k w s q ring D) (cpS cs1 cs2 cs3 (k + 1))) A L M (j : Int))) (H := heapL ((baseMB cs1 cs2 cs3 t1 s1 t2 s2 t3 s3 n1 n2 k w s q R a d x D ring half 0 0).map (·.1))) (df := []) (df1 := []) (k := 14) (N := 203) (len := 24) (x := .normal) (List.range 14) [(3, pt 7 0), (4, pt 8 0), (5, pt 9 0), (7, i ring), (8, i half), (9, pt 13 0), (10, i (fZ (AF n1 n2 k w s q ring D) (cpS cs1 cs2 cs3 (k + 1)))), (11, i (wrapF .i64 (A + 1))), (12, i (bJ (AR n1 n2 k w s q ring (j : Int) D) (cpS cs1 cs2 cs3 (k + 1)))), (13, i (iJ (AR n1 n2 k w s q ring (j : Int) D) (cpS cs1 cs2 cs3 (k + 1)))), (14, i (wrapF .i64 ((j : Int) + 1)))] (baseMB cs1 cs2 cs3 t1 s1 t2 s2 t3 s3 n1 n2 k w s q R a d x D ring half 0 0) [true, true, true, true, true, false, false, true, false, false, false, true, true, true, false, false] [leF j half, tru (okCp (argA n1 n2 (k + 1)) cs1 cs2 cs3), tru (okP (AR n1 n2 k w s q ring (j : Int) D) (cpS cs1 cs2 cs3 (k + 1))), tru (okCp (argA n1 n2 (k + 1)) cs1 cs2 cs3), tru (okP (AR n1 n2 k w s q ring (j : Int) D) (cpS cs1 cs2 cs3 (k + 1))), !eqF (eJ (AR n1 n2 k w s q ring (j : Int) D) (cpS cs1 cs2 cs3 (k + 1))) 0, !eqF (eJ (AR n1 n2 k w s q ring (j : Int) D) (cpS cs1 cs2 cs3 (k + 1))) 0, ltF 0 j, ltF (bJ (AR n1 n2 k w s q ring (j : Int) D) (cpS cs1 cs2 cs3 (k + 1))) L, ltF M (iJ (AR n1 n2 k w s q ring (j : Int) D) (cpS cs1 cs2 cs3 (k + 1))), ltF (iJ (AR n1 n2 k w s q ring (j : Int) D) (cpS cs1 cs2 cs3 (k + 1))) 0, tru (okCp (argA n1 n2 (k + 1)) cs1 cs2 cs3), tru (okP (AR n1 n2 k w s q ring (j : Int) D) (cpS cs1 cs2 cs3 (k + 1))), eqF (checkR (AR n1 n2 k w s q ring (j : Int) D) (cpS cs1 cs2 cs3 (k + 1))) 0, !eqF (fZ (AF n1 n2 k w s q ring D) (cpS cs1 cs2 cs3 (k + 1))) 0, !((j : Int) == fX (AF n1 n2 k w s q ring D) (cpS cs1 cs2 cs3 (k + 1)) && (D == fY (AF n1 n2 k w s q ring D) (cpS cs1 cs2 cs3 (k + 1)) && true))] tsXf .none (by kernel_rfl) (by kernel_rfl) hq (by kernel_rfl) (fbMB (t1 := t1) (s1 := s1) (t2 := t2) (s2 := s2) (t3 := t3) (s3 := s3) (n1 := n1) (n2 := n2) (k := k) (w := w) (s := s) (q := q) (R := R) (a := a) (d := d) (x := x) (D := D) (ring := ring) (half := half) (A := 0) (L := 0) f1 f2 f3)
theorem roundPN {cs1 cs2 cs3 : List Value} {t1 s1 t2 s2 t3 s3 n1 n2 k : Nat} {w s q R a d x D ring half A L M : Int} (f1 : cs1.all Ex.flat = true) (f2 : cs2.all Ex.flat = true) (f3 : cs3.all Ex.flat = true) (j : Nat) (ro : Option Nat) (hj : (j : Int) ≤ half) (h1 : okCp (argA n1 n2 (k + 1)) cs1 cs2 cs3) (h2 : okP (AR n1 n2 k w s q ring (j : Int) D) (cpS cs1 cs2 cs3 (k + 1))) (he : (eJ (AR n1 n2 k w s q ring (j : Int) D) (cpS cs1 cs2 cs3 (k + 1))) = 0) (hi : 0 ≤ (iJ (AR n1 n2 k w s q ring (j : Int) D) (cpS cs1 cs2 cs3 (k + 1)))) (hp : 0 < j) (hb : L ≤ (bJ (AR n1 n2 k w s q ring (j : Int) D) (cpS cs1 cs2 cs3 (k + 1)))) (hm : (iJ (AR n1 n2 k w s q ring (j : Int) D) (cpS cs1 cs2 cs3 (k + 1))) ≤ M) (hc : (checkR (AR n1 n2 k w s q ring (j : Int) D) (cpS cs1 cs2 cs3 (k + 1))) ≠ 0) :
    ∃ tm1 H1, Sound Tryd.prog 7 (.code BM ro (absT (tmL 203 (stM ring half (fZ (AF n1 n2 k w s q ring D) (cpS cs1 cs2 cs3 (k + 1))) A L M (j : Int)))) (heapL ((baseMB cs1 cs2 cs3 t1 s1 t2 s2 t3 s3 n1 n2 k w s q R a d x D ring half 0 0).map (·.1))) []) (.ex .normal tm1 H1 []) ∧ Restate 14 tm1 H1 (absT (tmL 203 [(3, pt 7 0), (4, pt 8 0), (5, pt 9 0), (7, i ring), (8, i half), (9, pt 13 0), (10, i (fZ (AF n1 n2 k w s q ring D) (cpS cs1 cs2 cs3 (k + 1)))), (11, i A), (12, i (bJ (AR n1 n2 k w s q ring (j : Int) D) (cpS cs1 cs2 cs3 (k + 1)))), (13, i (iJ (AR n1 n2 k w s q ring (j : Int) D) (cpS cs1 cs2 cs3 (k + 1)))), (14, i (wrapF .i64 ((j : Int) + 1)))])) (heapL ((baseMB cs1 cs2 cs3 t1 s1 t2 s2 t3 s3 n1 n2 k w s q R a d x D ring half 0 0).map (·.1))) := by
  have hq : [leF j half, tru (okCp (argA n1 n2 (k + 1)) cs1 cs2 cs3), tru (okP (AR n1 n2 k w s q ring (j : Int) D) (cpS cs1 cs2 cs3 (k + 1))), tru (okCp (argA n1 n2 (k + 1)) cs1 cs2 cs3), tru (okP (AR n1 n2 k w s q ring (j : Int) D) (cpS cs1 cs2 cs3 (k + 1))), !eqF (eJ (AR n1 n2 k w s q ring (j : Int) D) (cpS cs1 cs2 cs3 (k + 1))) 0, !eqF (eJ (AR n1 n2 k w s q ring (j : Int) D) (cpS cs1 cs2 cs3 (k + 1))) 0, ltF 0 j, ltF (bJ (AR n1 n2 k w s q ring (j : Int) D) (cpS cs1 cs2 cs3 (k + 1))) L, ltF M (iJ (AR n1 n2 k w s q ring (j : Int) D) (cpS cs1 cs2 cs3 (k + 1))), ltF (iJ (AR n1 n2 k w s q ring (j : Int) D) (cpS cs1 cs2 cs3 (k + 1))) 0, tru (okCp (argA n1 n2 (k + 1)) cs1 cs2 cs3), tru (okP (AR n1 n2 k w s q ring (j : Int) D) (cpS cs1 cs2 cs3 (k + 1))), eqF (checkR (AR n1 n2 k w s q ring (j : Int) D) (cpS cs1 cs2 cs3 (k + 1))) 0] = List.take [leF j half, tru (okCp (argA n1 n2 (k + 1)) cs1 cs2 cs3), tru (okP (AR n1 n2 k w s q ring (j : Int) D) (cpS cs1 cs2 cs3 (k + 1))), tru (okCp (argA n1 n2 (k + 1)) cs1 cs2 cs3), tru (okP (AR n1 n2 k w s q ring (j : Int) D) (cpS cs1 cs2 cs3 (k + 1))), !eqF (eJ (AR n1 n2 k w s q ring (j : Int) D) (cpS cs1 cs2 cs3 (k + 1))) 0, !eqF (eJ (AR n1 n2 k w s q ring (j : Int) D) (cpS cs1 cs2 cs3 (k + 1))) 0, ltF 0 j, ltF (bJ (AR n1 n2 k w s q ring (j : Int) D) (cpS cs1 cs2 cs3 (k + 1))) L, ltF M (iJ (AR n1 n2 k w s q ring (j : Int) D) (cpS cs1 cs2 cs3 (k + 1))), ltF (iJ (AR n1 n2 k w s q ring (j : Int) D) (cpS cs1 cs2 cs3 (k + 1))) 0, tru (okCp (argA n1 n2 (k + 1)) cs1 cs2 cs3), tru (okP (AR n1 n2 k w s q ring (j : Int) D) (cpS cs1 cs2 cs3 (k + 1))), eqF (checkR (AR n1 n2 k w s q ring (j : Int) D) (cpS cs1 cs2 cs3 (k + 1))) 0].length [true, true, true, true, true, false, false, true, false, false, false, true, true, false] := by
    have g1 : leF (j : Int) half = true := by rw [leF_eq]; exact decide_eq_true hj
    have g2 : (!eqF (eJ (AR n1 n2 k w s q ring (j : Int) D) (cpS cs1 cs2 cs3 (k + 1))) 0) = false := by rw [he]; rfl
    have g3 : ltF (iJ (AR n1 n2 k w s q ring (j : Int) D) (cpS cs1 cs2 cs3 (k + 1))) 0 = false := by rw [ltF_eq]; exact decide_eq_false (by omega)
    have g4 : ltF 0 (j : Int) = true := by rw [ltF_eq]; exact decide_eq_true (by omega)
    have g5 : ltF (bJ (AR n1 n2 k w s q ring (j : Int) D) (cpS cs1 cs2 cs3 (k + 1))) L = false := by rw [ltF_eq]; exact decide_eq_false (by omega)
    have g6 : ltF M (iJ (AR n1 n2 k w s q ring (j : Int) D) (cpS cs1 cs2 cs3 (k + 1))) = false := by rw [ltF_eq]; exact decide_eq_false (by omega)
    have g7 : eqF (checkR (AR n1 n2 k w s q ring (j : Int) D) (cpS cs1 cs2 cs3 (k + 1))) 0 = false := by rw [eqF_d]; exact decide_eq_false hc
    rw [g1, tru_iff.2 h1, tru_iff.2 h2, g2, g3, g4, g5, g6, g7]; rfl
  exact round_of (P := Tryd.prog) (G := 7) (C := CM) (n := 60) (f := Fn.law03_RotorMonotone) (b := BM) (ro := ro) (tm := tmL 203 (stM ring half (fZ (AF n1 n2 k w s q ring D) (cpS cs1 cs2 cs3 (k + 1))) A L M (j : Int))) (H := heapL ((baseMB cs1 cs2 cs3 t1 s1 t2 s2 t3 s3 n1 n2 k w s q R a d x D ring half 0 0).map (·.1))) (df := []) (df1 := []) (k := 14) (N := 203) (len := 24) (x := .normal) (List.range 14) [(3, pt 7 0), (4, pt 8 0), (5, pt 9 0), (7, i ring), (8, i half), (9, pt 13 0), (10, i (fZ (AF n1 n2 k w s q ring D) (cpS cs1 cs2 cs3 (k + 1)))), (11, i A), (12, i (bJ (AR n1 n2 k w s q ring (j : Int) D) (cpS cs1 cs2 cs3 (k + 1)))), (13, i (iJ (AR n1 n2 k w s q ring (j : Int) D) (cpS cs1 cs2 cs3 (k + 1)))), (14, i (wrapF .i64 ((j : Int) + 1)))] (baseMB cs1 cs2 cs3 t1 s1 t2 s2 t3 s3 n1 n2 k w s q R a d x D ring half 0 0) [true, true, true, true, true, false, false, true, false, false, false, true, true, false] [leF j half, tru (okCp (argA n1 n2 (k + 1)) cs1 cs2 cs3), tru (okP (AR n1 n2 k w s q ring (j : Int) D) (cpS cs1 cs2 cs3 (k + 1))), tru (okCp (argA n1 n2 (k + 1)) cs1 cs2 cs3), tru (okP (AR n1 n2 k w s q ring (j : Int) D) (cpS cs1 cs2 cs3 (k + 1))), !eqF (eJ (AR n1 n2 k w s q ring (j : Int) D) (cpS cs1 cs2 cs3 (k + 1))) 0, !eqF (eJ (AR n1 n2 k w s q ring (j : Int) D) (cpS cs1 cs2 cs3 (k + 1))) 0, ltF 0 j, ltF (bJ (AR n1 n2 k w s q ring (j : Int) D) (cpS cs1 cs2 cs3 (k + 1))) L, ltF M (iJ (AR n1 n2 k w s q ring (j : Int) D) (cpS cs1 cs2 cs3 (k + 1))), ltF (iJ (AR n1 n2 k w s q ring (j : Int) D) (cpS cs1 cs2 cs3 (k + 1))) 0, tru (okCp (argA n1 n2 (k + 1)) cs1 cs2 cs3), tru (okP (AR n1 n2 k w s q ring (j : Int) D) (cpS cs1 cs2 cs3 (k + 1))), eqF (checkR (AR n1 n2 k w s q ring (j : Int) D) (cpS cs1 cs2 cs3 (k + 1))) 0] tsXf .none (by kernel_rfl) (by kernel_rfl) hq (by kernel_rfl) (fbMB (t1 := t1) (s1 := s1) (t2 := t2) (s2 := s2) (t3 := t3) (s3 := s3) (n1 := n1) (n2 := n2) (k := k) (w := w) (s := s) (q := q) (R := R) (a := a) (d := d) (x := x) (D := D) (ring := ring) (half := half) (A := 0) (L := 0) f1 f2 f3)
theorem roundEnd {cs1 cs2 cs3 : List Value} {t1 s1 t2 s2 t3 s3 n1 n2 k : Nat} {w s q R a d x D ring half A L M : Int} (f1 : cs1.all Ex.flat = true) (f2 : cs2.all Ex.flat = true) (f3 : cs3.all Ex.flat = true) (ro : Option Nat) (j E : Int) (hj : half < j) :
    ∃ tm1 H1, Sound Tryd.prog 7 (.code BM ro (absT (tmL 203 (stM ring half E A L M j))) (heapL ((baseMB cs1 cs2 cs3 t1 s1 t2 s2 t3 s3 n1 n2 k w s q R a d x D ring half 0 0).map (·.1))) []) (.ex (.exit 0) tm1 H1 []) ∧ Restate 14 tm1 H1 (absT (tmL 203 [(3, pt 7 0), (4, pt 8 0), (5, pt 9 0), (7, i ring), (8, i half), (9, pt 13 0), (10, i E), (11, i A), (12, i L)])) (heapL ((baseMB cs1 cs2 cs3 t1 s1 t2 s2 t3 s3 n1 n2 k w s q R a d x D ring half 0 0).map (·.1))) := by
  have hq : [leF j half] = List.take [leF j half].length [false] := by
    have g1 : leF j half = false := by rw [leF_eq]; exact decide_eq_false (by omega)
    rw [g1]; rfl
  have hk := round_of (P := Tryd.prog) (G := 7) (C := CM) (n := 60) (f := Fn.law03_RotorMonotone) (b := BM) (ro := ro) (tm := tmL 203 (stM ring half E A L M j)) (H := heapL ((baseMB cs1 cs2 cs3 t1 s1 t2 s2 t3 s3 n1 n2 k w s q R a d x D ring half 0 0).map (·.1))) (df := []) (df1 := []) (k := 14) (N := 203) (len := 14) (x := .exit 0) (List.range 14) [(3, pt 7 0), (4, pt 8 0), (5, pt 9 0), (7, i ring), (8, i half), (9, pt 13 0), (10, i E), (11, i A), (12, i L)] (baseMB cs1 cs2 cs3 t1 s1 t2 s2 t3 s3 n1 n2 k w s q R a d x D ring half 0 0) [false] [leF j half] tsXf .none (by kernel_rfl) (by kernel_rfl) hq (by kernel_rfl) (fbMB (t1 := t1) (s1 := s1) (t2 := t2) (s2 := s2) (t3 := t3) (s3 := s3) (n1 := n1) (n2 := n2) (k := k) (w := w) (s := s) (q := q) (R := R) (a := a) (d := d) (x := x) (D := D) (ring := ring) (half := half) (A := 0) (L := 0) f1 f2 f3)
  exact hk
end Go.Proofs.YtbocpikgochioaaDoor.Ways
namespace Go.Proofs.YtbocpikgochioaaDoor.Ways
open Go Go.Ex
section
variable (cs1 cs2 cs3 : List Value) (n1 n2 k : Nat) (w s q ring D : Int)
def eM (j : Nat) : Int := eJ (AR n1 n2 k w s q ring (j : Int) D) (cpS cs1 cs2 cs3 (k + 1))
def bM (j : Nat) : Int := bJ (AR n1 n2 k w s q ring (j : Int) D) (cpS cs1 cs2 cs3 (k + 1))
def iM (j : Nat) : Int := iJ (AR n1 n2 k w s q ring (j : Int) D) (cpS cs1 cs2 cs3 (k + 1))
def cM (j : Nat) : Int := checkR (AR n1 n2 k w s q ring (j : Int) D) (cpS cs1 cs2 cs3 (k + 1))
def EM : Int := fZ (AF n1 n2 k w s q ring D) (cpS cs1 cs2 cs3 (k + 1))
def XM : Int := fX (AF n1 n2 k w s q ring D) (cpS cs1 cs2 cs3 (k + 1))
def YM : Int := fY (AF n1 n2 k w s q ring D) (cpS cs1 cs2 cs3 (k + 1))
def accM : Nat → Int
  | 0 => 0
  | j + 1 => cond (decide (EM cs1 cs2 cs3 n1 n2 k w s q ring D = 0 ∧ XM cs1 cs2 cs3 n1 n2 k w s q ring D ≤ (j : Int))) 1 0
def lasM : Nat → Int
  | 0 => 0
  | j + 1 => bM cs1 cs2 cs3 n1 n2 k w s q ring D j
def mosM : Nat → Int
  | 0 => 0
  | j + 1 => iM cs1 cs2 cs3 n1 n2 k w s q ring D j
structure MonoIn (H : Nat) : Prop where
  f1 : cs1.all Ex.flat = true
  f2 : cs2.all Ex.flat = true
  f3 : cs3.all Ex.flat = true
  cp : okCp (argA n1 n2 (k + 1)) cs1 cs2 cs3
  ok : ∀ x d : Int, okP (AR n1 n2 k w s q ring x d) (cpS cs1 cs2 cs3 (k + 1))
  e : ∀ j, j ≤ H → eM cs1 cs2 cs3 n1 n2 k w s q ring D j = 0
  c : ∀ j, j ≤ H → (cM cs1 cs2 cs3 n1 n2 k w s q ring D j = 0 ↔ EM cs1 cs2 cs3 n1 n2 k w s q ring D = 0 ∧ XM cs1 cs2 cs3 n1 n2 k w s q ring D = (j : Int))
  y : EM cs1 cs2 cs3 n1 n2 k w s q ring D = 0 → YM cs1 cs2 cs3 n1 n2 k w s q ring D = D
  x : EM cs1 cs2 cs3 n1 n2 k w s q ring D = 0 → 0 ≤ XM cs1 cs2 cs3 n1 n2 k w s q ring D ∧ XM cs1 cs2 cs3 n1 n2 k w s q ring D < (H : Int)
  bm : ∀ j, j + 1 ≤ H → bM cs1 cs2 cs3 n1 n2 k w s q ring D j ≤ bM cs1 cs2 cs3 n1 n2 k w s q ring D (j + 1)
  im : ∀ j, j + 1 ≤ H → iM cs1 cs2 cs3 n1 n2 k w s q ring D (j + 1) ≤ iM cs1 cs2 cs3 n1 n2 k w s q ring D j
  i0 : ∀ j, j ≤ H → 0 ≤ iM cs1 cs2 cs3 n1 n2 k w s q ring D j
  hb : H ≤ 64
end
section
variable {cs1 cs2 cs3 : List Value} {t1 s1 t2 s2 t3 s3 n1 n2 k H : Nat} {w s q R a d x ring D : Int}
theorem accM_step (h : MonoIn cs1 cs2 cs3 n1 n2 k w s q ring D H) (j : Nat) (hj : j ≤ H) : (cM cs1 cs2 cs3 n1 n2 k w s q ring D j = 0 → wrapF .i64 (accM cs1 cs2 cs3 n1 n2 k w s q ring D j + 1) = accM cs1 cs2 cs3 n1 n2 k w s q ring D (j + 1)) ∧
    (cM cs1 cs2 cs3 n1 n2 k w s q ring D j ≠ 0 → accM cs1 cs2 cs3 n1 n2 k w s q ring D j = accM cs1 cs2 cs3 n1 n2 k w s q ring D (j + 1)) := by
  have hc := h.c j hj
  have hx := h.x
  revert hc hx
  generalize cM cs1 cs2 cs3 n1 n2 k w s q ring D j = c
  intro hc hx
  have h0 : accM cs1 cs2 cs3 n1 n2 k w s q ring D (j + 1) = cond (decide (EM cs1 cs2 cs3 n1 n2 k w s q ring D = 0 ∧ XM cs1 cs2 cs3 n1 n2 k w s q ring D ≤ (j : Int))) 1 0 := rfl
  have h1 : accM cs1 cs2 cs3 n1 n2 k w s q ring D j = cond (decide (EM cs1 cs2 cs3 n1 n2 k w s q ring D = 0 ∧ XM cs1 cs2 cs3 n1 n2 k w s q ring D < (j : Int))) 1 0 := by
    cases j with
    | zero =>
      rw [decide_eq_false (fun h' => by have := hx h'.1; have h2 := h'.2; simp at h2; omega)]; rfl
    | succ m =>
      show cond (decide (_ ∧ _ ≤ (m : Int))) 1 0 = _
      congr 2
      apply propext
      constructor
      · intro ⟨g1, g2⟩; exact ⟨g1, by omega⟩
      · intro ⟨g1, g2⟩; exact ⟨g1, by omega⟩
  rw [h0, h1]
  generalize EM cs1 cs2 cs3 n1 n2 k w s q ring D = E at *
  generalize XM cs1 cs2 cs3 n1 n2 k w s q ring D = X at *
  constructor
  · intro hz
    obtain ⟨g1, g2⟩ := hc.1 hz
    rw [decide_eq_true (show E = 0 ∧ X ≤ (j : Int) from ⟨g1, by omega⟩), decide_eq_false (fun h' => by omega)]
    rfl
  · intro hz
    have hn : ¬ (E = 0 ∧ X = (j : Int)) := fun h' => hz (hc.2 h')
    congr 2
    apply propext
    constructor
    · intro ⟨g1, g2⟩; exact ⟨g1, by omega⟩
    · intro ⟨g1, g2⟩
      refine ⟨g1, ?_⟩
      have : X ≠ (j : Int) := fun h' => hn ⟨g1, h'⟩
      omega
noncomputable def hpL (cs1 cs2 cs3 : List Value) (t1 s1 t2 s2 t3 s3 n1 n2 k : Nat) (w s q R a d x D ring half : Int) : List (CO × Bool) := baseMB cs1 cs2 cs3 t1 s1 t2 s2 t3 s3 n1 n2 k w s q R a d x D ring half 0 0
noncomputable def stJ (cs1 cs2 cs3 : List Value) (n1 n2 k H : Nat) (w s q ring D : Int) (j : Nat) : List (Nat × Value) :=
  stM ring (H : Int) (EM cs1 cs2 cs3 n1 n2 k w s q ring D) (accM cs1 cs2 cs3 n1 n2 k w s q ring D j) (lasM cs1 cs2 cs3 n1 n2 k w s q ring D j) (mosM cs1 cs2 cs3 n1 n2 k w s q ring D j) (j : Int)
theorem mono_round (h : MonoIn cs1 cs2 cs3 n1 n2 k w s q ring D H) (j : Nat) (ro : Option Nat) (hj : j < H + 1) :
    ∃ tm1 H1, Sound Tryd.prog 7 (.code BM ro (absT (tmL 203 (stJ cs1 cs2 cs3 n1 n2 k H w s q ring D j))) (heapL ((hpL cs1 cs2 cs3 t1 s1 t2 s2 t3 s3 n1 n2 k w s q R a d x D ring (H : Int)).map (·.1))) []) (.ex .normal tm1 H1 []) ∧ Restate 14 tm1 H1 (absT (tmL 203 (stJ cs1 cs2 cs3 n1 n2 k H w s q ring D (j + 1)))) (heapL ((hpL cs1 cs2 cs3 t1 s1 t2 s2 t3 s3 n1 n2 k w s q R a d x D ring (H : Int)).map (·.1))) := by
  obtain ⟨g1, g2⟩ := accM_step h j (by omega)
  have he := h.e j (by omega)
  have hi := h.i0 j (by omega)
  have hn : i (wrapF .i64 ((j : Int) + 1)) = i (((j + 1 : Nat) : Int)) := next_i hj (by have := h.hb; omega)
  by_cases hc : cM cs1 cs2 cs3 n1 n2 k w s q ring D j = 0
  · obtain ⟨c1, c2⟩ := (h.c j (by omega)).1 hc
    have cy := (h.y c1).symm
    have ga := g1 hc
    rcases Nat.eq_zero_or_pos j with h0 | h0
    · have r := roundOA (t1 := t1) (s1 := s1) (t2 := t2) (s2 := s2) (t3 := t3) (s3 := s3) (R := R) (a := a) (d := d) (x := x) (half := (H : Int)) (A := accM cs1 cs2 cs3 n1 n2 k w s q ring D j) (L := lasM cs1 cs2 cs3 n1 n2 k w s q ring D j) (M := mosM cs1 cs2 cs3 n1 n2 k w s q ring D j) h.f1 h.f2 h.f3 j ro (by omega) h.cp (h.ok _ _) he hi h0 hc c1 c2.symm cy
      rw [ga, hn] at r
      exact r
    · obtain ⟨m, rfl⟩ : ∃ m, j = m + 1 := ⟨j - 1, by omega⟩
      have r := roundPA (t1 := t1) (s1 := s1) (t2 := t2) (s2 := s2) (t3 := t3) (s3 := s3) (R := R) (a := a) (d := d) (x := x) (half := (H : Int)) (A := accM cs1 cs2 cs3 n1 n2 k w s q ring D (m + 1)) (L := lasM cs1 cs2 cs3 n1 n2 k w s q ring D (m + 1)) (M := mosM cs1 cs2 cs3 n1 n2 k w s q ring D (m + 1)) h.f1 h.f2 h.f3 (m + 1) ro (by omega) h.cp (h.ok _ _) he hi h0 (h.bm m (by omega)) (h.im m (by omega)) hc c1 c2.symm cy
      rw [ga, hn] at r
      exact r
  · have ga := g2 hc
    rcases Nat.eq_zero_or_pos j with h0 | h0
    · have r := roundON (t1 := t1) (s1 := s1) (t2 := t2) (s2 := s2) (t3 := t3) (s3 := s3) (R := R) (a := a) (d := d) (x := x) (half := (H : Int)) (A := accM cs1 cs2 cs3 n1 n2 k w s q ring D j) (L := lasM cs1 cs2 cs3 n1 n2 k w s q ring D j) (M := mosM cs1 cs2 cs3 n1 n2 k w s q ring D j) h.f1 h.f2 h.f3 j ro (by omega) h.cp (h.ok _ _) he hi h0 hc
      rw [hn] at r
      have gb : (11, i (accM cs1 cs2 cs3 n1 n2 k w s q ring D j)) = (11, i (accM cs1 cs2 cs3 n1 n2 k w s q ring D (j + 1))) := by rw [ga]
      rw [gb] at r
      exact r
    · obtain ⟨m, rfl⟩ : ∃ m, j = m + 1 := ⟨j - 1, by omega⟩
      have r := roundPN (t1 := t1) (s1 := s1) (t2 := t2) (s2 := s2) (t3 := t3) (s3 := s3) (R := R) (a := a) (d := d) (x := x) (half := (H : Int)) (A := accM cs1 cs2 cs3 n1 n2 k w s q ring D (m + 1)) (L := lasM cs1 cs2 cs3 n1 n2 k w s q ring D (m + 1)) (M := mosM cs1 cs2 cs3 n1 n2 k w s q ring D (m + 1)) h.f1 h.f2 h.f3 (m + 1) ro (by omega) h.cp (h.ok _ _) he hi h0 (h.bm m (by omega)) (h.im m (by omega)) hc
      rw [hn] at r
      have gb : (11, i (accM cs1 cs2 cs3 n1 n2 k w s q ring D (m + 1))) = (11, i (accM cs1 cs2 cs3 n1 n2 k w s q ring D (m + 1 + 1))) := by rw [ga]
      rw [gb] at r
      exact r
noncomputable def lfJ (cs1 cs2 cs3 : List Value) (n1 n2 k H : Nat) (w s q ring D : Int) : List (Nat × Value) :=
  [(3, pt 7 0), (4, pt 8 0), (5, pt 9 0), (7, i ring), (8, i (H : Int)), (9, pt 13 0), (10, i (EM cs1 cs2 cs3 n1 n2 k w s q ring D)), (11, i (accM cs1 cs2 cs3 n1 n2 k w s q ring D (H + 1))), (12, i (lasM cs1 cs2 cs3 n1 n2 k w s q ring D (H + 1)))]
theorem mono_loop (h : MonoIn cs1 cs2 cs3 n1 n2 k w s q ring D H) (ro : Option Nat) {tm0 : Array Value} {H0 : CH} (hk : H0.length = 14)
    (hst : Restate 14 tm0 H0 (absT (tmL 203 (stJ cs1 cs2 cs3 n1 n2 k H w s q ring D 0))) (heapL ((hpL cs1 cs2 cs3 t1 s1 t2 s2 t3 s3 n1 n2 k w s q R a d x D ring (H : Int)).map (·.1)))) :
    Sound Tryd.prog 7 (.code (.loop BM) ro tm0 H0 []) (.ex (.exit 0) (absT (tmL 203 (lfJ cs1 cs2 cs3 n1 n2 k H w s q ring D))) (heapL ((hpL cs1 cs2 cs3 t1 s1 t2 s2 t3 s3 n1 n2 k w s q R a d x D ring (H : Int)).map (·.1))) []) :=
  count_loop (P := Tryd.prog) (G := 7) (b := BM) (N := 203) (k := 14) (st := stJ cs1 cs2 cs3 n1 n2 k H w s q ring D) (hp := fun _ => hpL cs1 cs2 cs3 t1 s1 t2 s2 t3 s3 n1 n2 k w s q R a d x D ring (H : Int)) (lF := lfJ cs1 cs2 cs3 n1 n2 k H w s q ring D) (x := .exit 0) (H + 1) (fun h => by cases h)
    (fun j ro hj => mono_round h j ro hj) (fun ro => roundEnd (A := accM cs1 cs2 cs3 n1 n2 k w s q ring D (H + 1)) (L := lasM cs1 cs2 cs3 n1 n2 k w s q ring D (H + 1)) (M := mosM cs1 cs2 cs3 n1 n2 k w s q ring D (H + 1)) h.f1 h.f2 h.f3 ro (((H + 1 : Nat) : Int)) _ (by omega)) ro hk (by omega) hst
end
end Go.Proofs.YtbocpikgochioaaDoor.Ways
namespace Go.Proofs.YtbocpikgochioaaDoor.Ways
open Go Go.Ex
noncomputable def LMa (cs1 cs2 cs3 : List Value) (t1 s1 t2 s2 t3 s3 n1 n2 k H : Nat) (w s q R a d x ring D : Int) : LTab := regE noL Fn.law03_RotorMonotone 5 203 10 O5a (liveMA cs1 cs2 cs3 t1 s1 t2 s2 t3 s3 n1 n2 k w s q R a d x D ring (H : Int) 0 0 0) (baseMA cs1 cs2 cs3 t1 s1 t2 s2 t3 s3 n1 n2 k w s q R a d x D ring (H : Int) 0 0) (.leaf (.ex .normal (tmL 203 (liveMA cs1 cs2 cs3 t1 s1 t2 s2 t3 s3 n1 n2 k w s q R a d x D ring (H : Int) 0 0 8191)) (heapL ((hpMA cs1 cs2 cs3 t1 s1 t2 s2 t3 s3 n1 n2 k w s q R a d x D ring (H : Int) 0 0 8191).map (·.1))) []))
noncomputable def LMb (cs1 cs2 cs3 : List Value) (t1 s1 t2 s2 t3 s3 n1 n2 k H : Nat) (w s q R a d x ring D : Int) : LTab := regE (LMa cs1 cs2 cs3 t1 s1 t2 s2 t3 s3 n1 n2 k H w s q R a d x ring D) Fn.law03_RotorMonotone 22 203 14 O5b (liveMB cs1 cs2 cs3 t1 s1 t2 s2 t3 s3 n1 n2 k w s q R a d x D ring (H : Int) (accM cs1 cs2 cs3 n1 n2 k w s q ring D (H + 1)) (lasM cs1 cs2 cs3 n1 n2 k w s q ring D (H + 1)) 0) (baseMB cs1 cs2 cs3 t1 s1 t2 s2 t3 s3 n1 n2 k w s q R a d x D ring (H : Int) (accM cs1 cs2 cs3 n1 n2 k w s q ring D (H + 1)) (lasM cs1 cs2 cs3 n1 n2 k w s q ring D (H + 1))) (.leaf (.ex .normal (tmL 203 (liveMB cs1 cs2 cs3 t1 s1 t2 s2 t3 s3 n1 n2 k w s q R a d x D ring (H : Int) (accM cs1 cs2 cs3 n1 n2 k w s q ring D (H + 1)) (lasM cs1 cs2 cs3 n1 n2 k w s q ring D (H + 1)) 4095)) (heapL ((hpMB cs1 cs2 cs3 t1 s1 t2 s2 t3 s3 n1 n2 k w s q R a d x D ring (H : Int) (accM cs1 cs2 cs3 n1 n2 k w s q ring D (H + 1)) (lasM cs1 cs2 cs3 n1 n2 k w s q ring D (H + 1)) 4095).map (·.1))) []))
noncomputable def LMc (cs1 cs2 cs3 : List Value) (t1 s1 t2 s2 t3 s3 n1 n2 k H : Nat) (w s q R a d x ring D : Int) : LTab := loopE (LMb cs1 cs2 cs3 t1 s1 t2 s2 t3 s3 n1 n2 k H w s q R a d x ring D) Fn.law03_RotorMonotone 8 203 14 BM (stJ cs1 cs2 cs3 n1 n2 k H w s q ring D 0) (hpL cs1 cs2 cs3 t1 s1 t2 s2 t3 s3 n1 n2 k w s q R a d x D ring (H : Int)) (.leaf (.ex (.exit 0) (tmL 203 (lfJ cs1 cs2 cs3 n1 n2 k H w s q ring D)) (heapL ((hpL cs1 cs2 cs3 t1 s1 t2 s2 t3 s3 n1 n2 k w s q R a d x D ring (H : Int)).map (·.1))) []))
theorem gMa (cs1 cs2 cs3 : List Value) (t1 s1 t2 s2 t3 s3 n1 n2 k H : Nat) (w s q R a d x ring D : Int) : goodR 10 10 (liveMA cs1 cs2 cs3 t1 s1 t2 s2 t3 s3 n1 n2 k w s q R a d x D ring (H : Int) 0 0 0) (baseMA cs1 cs2 cs3 t1 s1 t2 s2 t3 s3 n1 n2 k w s q R a d x D ring (H : Int) 0 0) (List.range 10) = true := by kernel_rfl
theorem gMb (cs1 cs2 cs3 : List Value) (t1 s1 t2 s2 t3 s3 n1 n2 k H : Nat) (w s q R a d x ring D : Int) : goodR 14 14 (liveMB cs1 cs2 cs3 t1 s1 t2 s2 t3 s3 n1 n2 k w s q R a d x D ring (H : Int) (accM cs1 cs2 cs3 n1 n2 k w s q ring D (H + 1)) (lasM cs1 cs2 cs3 n1 n2 k w s q ring D (H + 1)) 0) (baseMB cs1 cs2 cs3 t1 s1 t2 s2 t3 s3 n1 n2 k w s q R a d x D ring (H : Int) (accM cs1 cs2 cs3 n1 n2 k w s q ring D (H + 1)) (lasM cs1 cs2 cs3 n1 n2 k w s q ring D (H + 1))) (List.range 14) = true := by kernel_rfl
theorem gMc (cs1 cs2 cs3 : List Value) (t1 s1 t2 s2 t3 s3 n1 n2 k H : Nat) (w s q R a d x ring D : Int) : goodR 14 14 (stJ cs1 cs2 cs3 n1 n2 k H w s q ring D 0) (hpL cs1 cs2 cs3 t1 s1 t2 s2 t3 s3 n1 n2 k w s q R a d x D ring (H : Int)) (List.range 14) = true := by kernel_rfl
theorem lsM {cs1 cs2 cs3 : List Value} {t1 s1 t2 s2 t3 s3 n1 n2 k H : Nat} {w s q R a d x ring D : Int} (h : MonoIn cs1 cs2 cs3 n1 n2 k w s q ring D H) (h2 : okP (AF n1 n2 k w s q ring D) (cpS cs1 cs2 cs3 (k + 1))) : LSound Tryd.prog 7 (LMc cs1 cs2 cs3 t1 s1 t2 s2 t3 s3 n1 n2 k H w s q R a d x ring D) := by
  have a1 : LSound Tryd.prog 7 (LMa cs1 cs2 cs3 t1 s1 t2 s2 t3 s3 n1 n2 k H w s q R a d x ring D) := by
    refine LSound.region .none (gMa cs1 cs2 cs3 t1 s1 t2 s2 t3 s3 n1 n2 k H w s q R a d x ring D) (fbMA h.f1 h.f2 h.f3) fun r hr ro tm0 H0 hk hst => ?_
    cases hr
    exact sndMA h.f1 h.f2 h.f3 h.cp h2 ro hk hst
  have a2 : LSound Tryd.prog 7 (LMb cs1 cs2 cs3 t1 s1 t2 s2 t3 s3 n1 n2 k H w s q R a d x ring D) := by
    refine LSound.region a1 (gMb cs1 cs2 cs3 t1 s1 t2 s2 t3 s3 n1 n2 k H w s q R a d x ring D) (fbMB h.f1 h.f2 h.f3) fun r hr ro tm0 H0 hk hst => ?_
    cases hr
    exact sndMB h.f1 h.f2 h.f3 h.cp (h.ok _ _) ro hk hst
  refine LSound.loop a2 (gMc cs1 cs2 cs3 t1 s1 t2 s2 t3 s3 n1 n2 k H w s q R a d x ring D) (fbMB h.f1 h.f2 h.f3) fun r hr ro tm0 H0 hk hst => ?_
  cases hr
  exact mono_loop h ro hk hst
noncomputable def CMl (cs1 cs2 cs3 : List Value) (t1 s1 t2 s2 t3 s3 n1 n2 k H : Nat) (w s q R a d x ring D : Int) : Cfg := ⟨TXf, spM, off_, LMc cs1 cs2 cs3 t1 s1 t2 s2 t3 s3 n1 n2 k H w s q R a d x ring D⟩
def ringE (R : Int) (n : Nat) : Int := (wrapF .i64 (R.tmod (n : Int) + (n : Int))).tmod (n : Int)
def GXm (cs1 cs2 cs3 : List Value) (n1 n2 k : Nat) (w s q ring D : Int) : Int := gX (AR n1 n2 k w s q ring (XM cs1 cs2 cs3 n1 n2 k w s q ring D) (YM cs1 cs2 cs3 n1 n2 k w s q ring D)) (cpS cs1 cs2 cs3 (k + 1))
def GYm (cs1 cs2 cs3 : List Value) (n1 n2 k : Nat) (w s q ring D : Int) : Int := gY (AR n1 n2 k w s q ring (XM cs1 cs2 cs3 n1 n2 k w s q ring D) (YM cs1 cs2 cs3 n1 n2 k w s q ring D)) (cpS cs1 cs2 cs3 (k + 1))
def GZm (cs1 cs2 cs3 : List Value) (n1 n2 k : Nat) (w s q ring D : Int) : Int := gZ (AR n1 n2 k w s q ring (XM cs1 cs2 cs3 n1 n2 k w s q ring D) (YM cs1 cs2 cs3 n1 n2 k w s q ring D)) (cpS cs1 cs2 cs3 (k + 1))
def negF (b : Bool) (y n : VT) : VT := .br b y n
noncomputable def goodT (cs1 cs2 cs3 : List Value) (n1 n2 k H : Nat) (w s q ring D : Int) : VT :=
  .br (!eqF (EM cs1 cs2 cs3 n1 n2 k w s q ring D) 0) (posF (eqF (EM cs1 cs2 cs3 n1 n2 k w s q ring D) 7) (posF (eqF (accM cs1 cs2 cs3 n1 n2 k w s q ring D (H + 1)) 0) (posF (leF (lasM cs1 cs2 cs3 n1 n2 k w s q ring D (H + 1)) 0) (lf true))))
    (posF (eqF (accM cs1 cs2 cs3 n1 n2 k w s q ring D (H + 1)) 1) (posF (ltF 0 (lasM cs1 cs2 cs3 n1 n2 k w s q ring D (H + 1))) (posF (eqF (GZm cs1 cs2 cs3 n1 n2 k w s q ring D) 0) (posF (eqF (GYm cs1 cs2 cs3 n1 n2 k w s q ring D) (wrapF .i64 (D + 1))) (.br (eqF (GXm cs1 cs2 cs3 n1 n2 k w s q ring D) (wrapF .i64 (2 * XM cs1 cs2 cs3 n1 n2 k w s q ring D))) (lf true) (posF (eqF (GXm cs1 cs2 cs3 n1 n2 k w s q ring D) (wrapF .i64 (wrapF .i64 (2 * XM cs1 cs2 cs3 n1 n2 k w s q ring D) + 1))) (lf true)))))))
noncomputable def validT (cs1 cs2 cs3 : List Value) (n1 n2 n : Nat) (w s q D : Int) (t : VT) : VT :=
  askB (tru ((argA n1 n2 n).nil = false ∧ fl3 [cs1, cs2, cs3])) (.br (shE n1 n2 n) (askB (tru (okB3 (argA n1 n2 n) [cs1, cs2, cs3])) (.br (!eqF (errB (argA n1 n2 n) [cs1, cs2, cs3]) 0) (lf true) (.br (!eqF (flowE w s q) 0) (lf true) (.br (ltF D 1) (lf true) (.br (ltF 7 D) (lf true) t))))) (lf true))
end Go.Proofs.YtbocpikgochioaaDoor.Ways
namespace Go.Proofs.YtbocpikgochioaaDoor.Ways
open Go Go.Ex
theorem mrun1_1 (cs1 cs2 cs3 : List Value) (t1 s1 t2 s2 t3 s3 n1 n2 : Nat) (w s q R a d x : Int) : (execO Tryd.prog 7 (CMl cs1 cs2 cs3 t1 s1 t2 s2 t3 s3 n1 n2 0 1 w s q R a d x (ringE R 1) 1) 60 (.call Fn.law03_RotorMonotone ⟨[blV n1 n1 n2 n2 (sl 6 0 1 1), flV w s q, spV R a d x 1]⟩ (heapL (hpN cs1 t1 s1 cs2 t2 s2 cs3 t3 s3)))).vals = validT cs1 cs2 cs3 n1 n2 1 w s q 1 (goodT cs1 cs2 cs3 n1 n2 0 1 w s q (ringE R 1) 1) := by kernel_rfl
theorem mfix1_1 (cs1 cs2 cs3 : List Value) (t1 s1 t2 s2 t3 s3 n1 n2 : Nat) (w s q R a d x : Int) : execO Tryd.prog 7 (CMl cs1 cs2 cs3 t1 s1 t2 s2 t3 s3 n1 n2 0 1 w s q R a d x (ringE R 1) 1) 60 (.call Fn.law03_RotorMonotone ⟨[blV n1 n1 n2 n2 (sl 6 0 1 1), flV w s q, spV R a d x 1]⟩ (heapL (hpN cs1 t1 s1 cs2 t2 s2 cs3 t3 s3))) = (execO Tryd.prog 7 (CMl cs1 cs2 cs3 t1 s1 t2 s2 t3 s3 n1 n2 0 1 w s q R a d x (ringE R 1) 1) 60 (.call Fn.law03_RotorMonotone ⟨[blV n1 n1 n2 n2 (sl 6 0 1 1), flV w s q, spV R a d x 1]⟩ (heapL (hpN cs1 t1 s1 cs2 t2 s2 cs3 t3 s3)))).fix := by kernel_rfl
theorem mrun1_2 (cs1 cs2 cs3 : List Value) (t1 s1 t2 s2 t3 s3 n1 n2 : Nat) (w s q R a d x : Int) : (execO Tryd.prog 7 (CMl cs1 cs2 cs3 t1 s1 t2 s2 t3 s3 n1 n2 0 2 w s q R a d x (ringE R 1) 2) 60 (.call Fn.law03_RotorMonotone ⟨[blV n1 n1 n2 n2 (sl 6 0 1 1), flV w s q, spV R a d x 2]⟩ (heapL (hpN cs1 t1 s1 cs2 t2 s2 cs3 t3 s3)))).vals = validT cs1 cs2 cs3 n1 n2 1 w s q 2 (goodT cs1 cs2 cs3 n1 n2 0 2 w s q (ringE R 1) 2) := by kernel_rfl
theorem mfix1_2 (cs1 cs2 cs3 : List Value) (t1 s1 t2 s2 t3 s3 n1 n2 : Nat) (w s q R a d x : Int) : execO Tryd.prog 7 (CMl cs1 cs2 cs3 t1 s1 t2 s2 t3 s3 n1 n2 0 2 w s q R a d x (ringE R 1) 2) 60 (.call Fn.law03_RotorMonotone ⟨[blV n1 n1 n2 n2 (sl 6 0 1 1), flV w s q, spV R a d x 2]⟩ (heapL (hpN cs1 t1 s1 cs2 t2 s2 cs3 t3 s3))) = (execO Tryd.prog 7 (CMl cs1 cs2 cs3 t1 s1 t2 s2 t3 s3 n1 n2 0 2 w s q R a d x (ringE R 1) 2) 60 (.call Fn.law03_RotorMonotone ⟨[blV n1 n1 n2 n2 (sl 6 0 1 1), flV w s q, spV R a d x 2]⟩ (heapL (hpN cs1 t1 s1 cs2 t2 s2 cs3 t3 s3)))).fix := by kernel_rfl
theorem mrun1_3 (cs1 cs2 cs3 : List Value) (t1 s1 t2 s2 t3 s3 n1 n2 : Nat) (w s q R a d x : Int) : (execO Tryd.prog 7 (CMl cs1 cs2 cs3 t1 s1 t2 s2 t3 s3 n1 n2 0 4 w s q R a d x (ringE R 1) 3) 60 (.call Fn.law03_RotorMonotone ⟨[blV n1 n1 n2 n2 (sl 6 0 1 1), flV w s q, spV R a d x 3]⟩ (heapL (hpN cs1 t1 s1 cs2 t2 s2 cs3 t3 s3)))).vals = validT cs1 cs2 cs3 n1 n2 1 w s q 3 (goodT cs1 cs2 cs3 n1 n2 0 4 w s q (ringE R 1) 3) := by kernel_rfl
theorem mfix1_3 (cs1 cs2 cs3 : List Value) (t1 s1 t2 s2 t3 s3 n1 n2 : Nat) (w s q R a d x : Int) : execO Tryd.prog 7 (CMl cs1 cs2 cs3 t1 s1 t2 s2 t3 s3 n1 n2 0 4 w s q R a d x (ringE R 1) 3) 60 (.call Fn.law03_RotorMonotone ⟨[blV n1 n1 n2 n2 (sl 6 0 1 1), flV w s q, spV R a d x 3]⟩ (heapL (hpN cs1 t1 s1 cs2 t2 s2 cs3 t3 s3))) = (execO Tryd.prog 7 (CMl cs1 cs2 cs3 t1 s1 t2 s2 t3 s3 n1 n2 0 4 w s q R a d x (ringE R 1) 3) 60 (.call Fn.law03_RotorMonotone ⟨[blV n1 n1 n2 n2 (sl 6 0 1 1), flV w s q, spV R a d x 3]⟩ (heapL (hpN cs1 t1 s1 cs2 t2 s2 cs3 t3 s3)))).fix := by kernel_rfl
theorem mrun1_4 (cs1 cs2 cs3 : List Value) (t1 s1 t2 s2 t3 s3 n1 n2 : Nat) (w s q R a d x : Int) : (execO Tryd.prog 7 (CMl cs1 cs2 cs3 t1 s1 t2 s2 t3 s3 n1 n2 0 8 w s q R a d x (ringE R 1) 4) 60 (.call Fn.law03_RotorMonotone ⟨[blV n1 n1 n2 n2 (sl 6 0 1 1), flV w s q, spV R a d x 4]⟩ (heapL (hpN cs1 t1 s1 cs2 t2 s2 cs3 t3 s3)))).vals = validT cs1 cs2 cs3 n1 n2 1 w s q 4 (goodT cs1 cs2 cs3 n1 n2 0 8 w s q (ringE R 1) 4) := by kernel_rfl
theorem mfix1_4 (cs1 cs2 cs3 : List Value) (t1 s1 t2 s2 t3 s3 n1 n2 : Nat) (w s q R a d x : Int) : execO Tryd.prog 7 (CMl cs1 cs2 cs3 t1 s1 t2 s2 t3 s3 n1 n2 0 8 w s q R a d x (ringE R 1) 4) 60 (.call Fn.law03_RotorMonotone ⟨[blV n1 n1 n2 n2 (sl 6 0 1 1), flV w s q, spV R a d x 4]⟩ (heapL (hpN cs1 t1 s1 cs2 t2 s2 cs3 t3 s3))) = (execO Tryd.prog 7 (CMl cs1 cs2 cs3 t1 s1 t2 s2 t3 s3 n1 n2 0 8 w s q R a d x (ringE R 1) 4) 60 (.call Fn.law03_RotorMonotone ⟨[blV n1 n1 n2 n2 (sl 6 0 1 1), flV w s q, spV R a d x 4]⟩ (heapL (hpN cs1 t1 s1 cs2 t2 s2 cs3 t3 s3)))).fix := by kernel_rfl
theorem mrun1_5 (cs1 cs2 cs3 : List Value) (t1 s1 t2 s2 t3 s3 n1 n2 : Nat) (w s q R a d x : Int) : (execO Tryd.prog 7 (CMl cs1 cs2 cs3 t1 s1 t2 s2 t3 s3 n1 n2 0 16 w s q R a d x (ringE R 1) 5) 60 (.call Fn.law03_RotorMonotone ⟨[blV n1 n1 n2 n2 (sl 6 0 1 1), flV w s q, spV R a d x 5]⟩ (heapL (hpN cs1 t1 s1 cs2 t2 s2 cs3 t3 s3)))).vals = validT cs1 cs2 cs3 n1 n2 1 w s q 5 (goodT cs1 cs2 cs3 n1 n2 0 16 w s q (ringE R 1) 5) := by kernel_rfl
theorem mfix1_5 (cs1 cs2 cs3 : List Value) (t1 s1 t2 s2 t3 s3 n1 n2 : Nat) (w s q R a d x : Int) : execO Tryd.prog 7 (CMl cs1 cs2 cs3 t1 s1 t2 s2 t3 s3 n1 n2 0 16 w s q R a d x (ringE R 1) 5) 60 (.call Fn.law03_RotorMonotone ⟨[blV n1 n1 n2 n2 (sl 6 0 1 1), flV w s q, spV R a d x 5]⟩ (heapL (hpN cs1 t1 s1 cs2 t2 s2 cs3 t3 s3))) = (execO Tryd.prog 7 (CMl cs1 cs2 cs3 t1 s1 t2 s2 t3 s3 n1 n2 0 16 w s q R a d x (ringE R 1) 5) 60 (.call Fn.law03_RotorMonotone ⟨[blV n1 n1 n2 n2 (sl 6 0 1 1), flV w s q, spV R a d x 5]⟩ (heapL (hpN cs1 t1 s1 cs2 t2 s2 cs3 t3 s3)))).fix := by kernel_rfl
theorem mrun1_6 (cs1 cs2 cs3 : List Value) (t1 s1 t2 s2 t3 s3 n1 n2 : Nat) (w s q R a d x : Int) : (execO Tryd.prog 7 (CMl cs1 cs2 cs3 t1 s1 t2 s2 t3 s3 n1 n2 0 32 w s q R a d x (ringE R 1) 6) 60 (.call Fn.law03_RotorMonotone ⟨[blV n1 n1 n2 n2 (sl 6 0 1 1), flV w s q, spV R a d x 6]⟩ (heapL (hpN cs1 t1 s1 cs2 t2 s2 cs3 t3 s3)))).vals = validT cs1 cs2 cs3 n1 n2 1 w s q 6 (goodT cs1 cs2 cs3 n1 n2 0 32 w s q (ringE R 1) 6) := by kernel_rfl
theorem mfix1_6 (cs1 cs2 cs3 : List Value) (t1 s1 t2 s2 t3 s3 n1 n2 : Nat) (w s q R a d x : Int) : execO Tryd.prog 7 (CMl cs1 cs2 cs3 t1 s1 t2 s2 t3 s3 n1 n2 0 32 w s q R a d x (ringE R 1) 6) 60 (.call Fn.law03_RotorMonotone ⟨[blV n1 n1 n2 n2 (sl 6 0 1 1), flV w s q, spV R a d x 6]⟩ (heapL (hpN cs1 t1 s1 cs2 t2 s2 cs3 t3 s3))) = (execO Tryd.prog 7 (CMl cs1 cs2 cs3 t1 s1 t2 s2 t3 s3 n1 n2 0 32 w s q R a d x (ringE R 1) 6) 60 (.call Fn.law03_RotorMonotone ⟨[blV n1 n1 n2 n2 (sl 6 0 1 1), flV w s q, spV R a d x 6]⟩ (heapL (hpN cs1 t1 s1 cs2 t2 s2 cs3 t3 s3)))).fix := by kernel_rfl
theorem mrun1_7 (cs1 cs2 cs3 : List Value) (t1 s1 t2 s2 t3 s3 n1 n2 : Nat) (w s q R a d x : Int) : (execO Tryd.prog 7 (CMl cs1 cs2 cs3 t1 s1 t2 s2 t3 s3 n1 n2 0 64 w s q R a d x (ringE R 1) 7) 60 (.call Fn.law03_RotorMonotone ⟨[blV n1 n1 n2 n2 (sl 6 0 1 1), flV w s q, spV R a d x 7]⟩ (heapL (hpN cs1 t1 s1 cs2 t2 s2 cs3 t3 s3)))).vals = validT cs1 cs2 cs3 n1 n2 1 w s q 7 (goodT cs1 cs2 cs3 n1 n2 0 64 w s q (ringE R 1) 7) := by kernel_rfl
theorem mfix1_7 (cs1 cs2 cs3 : List Value) (t1 s1 t2 s2 t3 s3 n1 n2 : Nat) (w s q R a d x : Int) : execO Tryd.prog 7 (CMl cs1 cs2 cs3 t1 s1 t2 s2 t3 s3 n1 n2 0 64 w s q R a d x (ringE R 1) 7) 60 (.call Fn.law03_RotorMonotone ⟨[blV n1 n1 n2 n2 (sl 6 0 1 1), flV w s q, spV R a d x 7]⟩ (heapL (hpN cs1 t1 s1 cs2 t2 s2 cs3 t3 s3))) = (execO Tryd.prog 7 (CMl cs1 cs2 cs3 t1 s1 t2 s2 t3 s3 n1 n2 0 64 w s q R a d x (ringE R 1) 7) 60 (.call Fn.law03_RotorMonotone ⟨[blV n1 n1 n2 n2 (sl 6 0 1 1), flV w s q, spV R a d x 7]⟩ (heapL (hpN cs1 t1 s1 cs2 t2 s2 cs3 t3 s3)))).fix := by kernel_rfl
theorem mrun2_1 (cs1 cs2 cs3 : List Value) (t1 s1 t2 s2 t3 s3 n1 n2 : Nat) (w s q R a d x : Int) : (execO Tryd.prog 7 (CMl cs1 cs2 cs3 t1 s1 t2 s2 t3 s3 n1 n2 1 1 w s q R a d x (ringE R 2) 1) 60 (.call Fn.law03_RotorMonotone ⟨[blV n1 n1 n2 n2 (sl 6 0 2 2), flV w s q, spV R a d x 1]⟩ (heapL (hpN cs1 t1 s1 cs2 t2 s2 cs3 t3 s3)))).vals = validT cs1 cs2 cs3 n1 n2 2 w s q 1 (goodT cs1 cs2 cs3 n1 n2 1 1 w s q (ringE R 2) 1) := by kernel_rfl
theorem mfix2_1 (cs1 cs2 cs3 : List Value) (t1 s1 t2 s2 t3 s3 n1 n2 : Nat) (w s q R a d x : Int) : execO Tryd.prog 7 (CMl cs1 cs2 cs3 t1 s1 t2 s2 t3 s3 n1 n2 1 1 w s q R a d x (ringE R 2) 1) 60 (.call Fn.law03_RotorMonotone ⟨[blV n1 n1 n2 n2 (sl 6 0 2 2), flV w s q, spV R a d x 1]⟩ (heapL (hpN cs1 t1 s1 cs2 t2 s2 cs3 t3 s3))) = (execO Tryd.prog 7 (CMl cs1 cs2 cs3 t1 s1 t2 s2 t3 s3 n1 n2 1 1 w s q R a d x (ringE R 2) 1) 60 (.call Fn.law03_RotorMonotone ⟨[blV n1 n1 n2 n2 (sl 6 0 2 2), flV w s q, spV R a d x 1]⟩ (heapL (hpN cs1 t1 s1 cs2 t2 s2 cs3 t3 s3)))).fix := by kernel_rfl
theorem mrun2_2 (cs1 cs2 cs3 : List Value) (t1 s1 t2 s2 t3 s3 n1 n2 : Nat) (w s q R a d x : Int) : (execO Tryd.prog 7 (CMl cs1 cs2 cs3 t1 s1 t2 s2 t3 s3 n1 n2 1 2 w s q R a d x (ringE R 2) 2) 60 (.call Fn.law03_RotorMonotone ⟨[blV n1 n1 n2 n2 (sl 6 0 2 2), flV w s q, spV R a d x 2]⟩ (heapL (hpN cs1 t1 s1 cs2 t2 s2 cs3 t3 s3)))).vals = validT cs1 cs2 cs3 n1 n2 2 w s q 2 (goodT cs1 cs2 cs3 n1 n2 1 2 w s q (ringE R 2) 2) := by kernel_rfl
theorem mfix2_2 (cs1 cs2 cs3 : List Value) (t1 s1 t2 s2 t3 s3 n1 n2 : Nat) (w s q R a d x : Int) : execO Tryd.prog 7 (CMl cs1 cs2 cs3 t1 s1 t2 s2 t3 s3 n1 n2 1 2 w s q R a d x (ringE R 2) 2) 60 (.call Fn.law03_RotorMonotone ⟨[blV n1 n1 n2 n2 (sl 6 0 2 2), flV w s q, spV R a d x 2]⟩ (heapL (hpN cs1 t1 s1 cs2 t2 s2 cs3 t3 s3))) = (execO Tryd.prog 7 (CMl cs1 cs2 cs3 t1 s1 t2 s2 t3 s3 n1 n2 1 2 w s q R a d x (ringE R 2) 2) 60 (.call Fn.law03_RotorMonotone ⟨[blV n1 n1 n2 n2 (sl 6 0 2 2), flV w s q, spV R a d x 2]⟩ (heapL (hpN cs1 t1 s1 cs2 t2 s2 cs3 t3 s3)))).fix := by kernel_rfl
theorem mrun2_3 (cs1 cs2 cs3 : List Value) (t1 s1 t2 s2 t3 s3 n1 n2 : Nat) (w s q R a d x : Int) : (execO Tryd.prog 7 (CMl cs1 cs2 cs3 t1 s1 t2 s2 t3 s3 n1 n2 1 4 w s q R a d x (ringE R 2) 3) 60 (.call Fn.law03_RotorMonotone ⟨[blV n1 n1 n2 n2 (sl 6 0 2 2), flV w s q, spV R a d x 3]⟩ (heapL (hpN cs1 t1 s1 cs2 t2 s2 cs3 t3 s3)))).vals = validT cs1 cs2 cs3 n1 n2 2 w s q 3 (goodT cs1 cs2 cs3 n1 n2 1 4 w s q (ringE R 2) 3) := by kernel_rfl
theorem mfix2_3 (cs1 cs2 cs3 : List Value) (t1 s1 t2 s2 t3 s3 n1 n2 : Nat) (w s q R a d x : Int) : execO Tryd.prog 7 (CMl cs1 cs2 cs3 t1 s1 t2 s2 t3 s3 n1 n2 1 4 w s q R a d x (ringE R 2) 3) 60 (.call Fn.law03_RotorMonotone ⟨[blV n1 n1 n2 n2 (sl 6 0 2 2), flV w s q, spV R a d x 3]⟩ (heapL (hpN cs1 t1 s1 cs2 t2 s2 cs3 t3 s3))) = (execO Tryd.prog 7 (CMl cs1 cs2 cs3 t1 s1 t2 s2 t3 s3 n1 n2 1 4 w s q R a d x (ringE R 2) 3) 60 (.call Fn.law03_RotorMonotone ⟨[blV n1 n1 n2 n2 (sl 6 0 2 2), flV w s q, spV R a d x 3]⟩ (heapL (hpN cs1 t1 s1 cs2 t2 s2 cs3 t3 s3)))).fix := by kernel_rfl
theorem mrun2_4 (cs1 cs2 cs3 : List Value) (t1 s1 t2 s2 t3 s3 n1 n2 : Nat) (w s q R a d x : Int) : (execO Tryd.prog 7 (CMl cs1 cs2 cs3 t1 s1 t2 s2 t3 s3 n1 n2 1 8 w s q R a d x (ringE R 2) 4) 60 (.call Fn.law03_RotorMonotone ⟨[blV n1 n1 n2 n2 (sl 6 0 2 2), flV w s q, spV R a d x 4]⟩ (heapL (hpN cs1 t1 s1 cs2 t2 s2 cs3 t3 s3)))).vals = validT cs1 cs2 cs3 n1 n2 2 w s q 4 (goodT cs1 cs2 cs3 n1 n2 1 8 w s q (ringE R 2) 4) := by kernel_rfl
theorem mfix2_4 (cs1 cs2 cs3 : List Value) (t1 s1 t2 s2 t3 s3 n1 n2 : Nat) (w s q R a d x : Int) : execO Tryd.prog 7 (CMl cs1 cs2 cs3 t1 s1 t2 s2 t3 s3 n1 n2 1 8 w s q R a d x (ringE R 2) 4) 60 (.call Fn.law03_RotorMonotone ⟨[blV n1 n1 n2 n2 (sl 6 0 2 2), flV w s q, spV R a d x 4]⟩ (heapL (hpN cs1 t1 s1 cs2 t2 s2 cs3 t3 s3))) = (execO Tryd.prog 7 (CMl cs1 cs2 cs3 t1 s1 t2 s2 t3 s3 n1 n2 1 8 w s q R a d x (ringE R 2) 4) 60 (.call Fn.law03_RotorMonotone ⟨[blV n1 n1 n2 n2 (sl 6 0 2 2), flV w s q, spV R a d x 4]⟩ (heapL (hpN cs1 t1 s1 cs2 t2 s2 cs3 t3 s3)))).fix := by kernel_rfl
theorem mrun2_5 (cs1 cs2 cs3 : List Value) (t1 s1 t2 s2 t3 s3 n1 n2 : Nat) (w s q R a d x : Int) : (execO Tryd.prog 7 (CMl cs1 cs2 cs3 t1 s1 t2 s2 t3 s3 n1 n2 1 16 w s q R a d x (ringE R 2) 5) 60 (.call Fn.law03_RotorMonotone ⟨[blV n1 n1 n2 n2 (sl 6 0 2 2), flV w s q, spV R a d x 5]⟩ (heapL (hpN cs1 t1 s1 cs2 t2 s2 cs3 t3 s3)))).vals = validT cs1 cs2 cs3 n1 n2 2 w s q 5 (goodT cs1 cs2 cs3 n1 n2 1 16 w s q (ringE R 2) 5) := by kernel_rfl
theorem mfix2_5 (cs1 cs2 cs3 : List Value) (t1 s1 t2 s2 t3 s3 n1 n2 : Nat) (w s q R a d x : Int) : execO Tryd.prog 7 (CMl cs1 cs2 cs3 t1 s1 t2 s2 t3 s3 n1 n2 1 16 w s q R a d x (ringE R 2) 5) 60 (.call Fn.law03_RotorMonotone ⟨[blV n1 n1 n2 n2 (sl 6 0 2 2), flV w s q, spV R a d x 5]⟩ (heapL (hpN cs1 t1 s1 cs2 t2 s2 cs3 t3 s3))) = (execO Tryd.prog 7 (CMl cs1 cs2 cs3 t1 s1 t2 s2 t3 s3 n1 n2 1 16 w s q R a d x (ringE R 2) 5) 60 (.call Fn.law03_RotorMonotone ⟨[blV n1 n1 n2 n2 (sl 6 0 2 2), flV w s q, spV R a d x 5]⟩ (heapL (hpN cs1 t1 s1 cs2 t2 s2 cs3 t3 s3)))).fix := by kernel_rfl
theorem mrun2_6 (cs1 cs2 cs3 : List Value) (t1 s1 t2 s2 t3 s3 n1 n2 : Nat) (w s q R a d x : Int) : (execO Tryd.prog 7 (CMl cs1 cs2 cs3 t1 s1 t2 s2 t3 s3 n1 n2 1 32 w s q R a d x (ringE R 2) 6) 60 (.call Fn.law03_RotorMonotone ⟨[blV n1 n1 n2 n2 (sl 6 0 2 2), flV w s q, spV R a d x 6]⟩ (heapL (hpN cs1 t1 s1 cs2 t2 s2 cs3 t3 s3)))).vals = validT cs1 cs2 cs3 n1 n2 2 w s q 6 (goodT cs1 cs2 cs3 n1 n2 1 32 w s q (ringE R 2) 6) := by kernel_rfl
theorem mfix2_6 (cs1 cs2 cs3 : List Value) (t1 s1 t2 s2 t3 s3 n1 n2 : Nat) (w s q R a d x : Int) : execO Tryd.prog 7 (CMl cs1 cs2 cs3 t1 s1 t2 s2 t3 s3 n1 n2 1 32 w s q R a d x (ringE R 2) 6) 60 (.call Fn.law03_RotorMonotone ⟨[blV n1 n1 n2 n2 (sl 6 0 2 2), flV w s q, spV R a d x 6]⟩ (heapL (hpN cs1 t1 s1 cs2 t2 s2 cs3 t3 s3))) = (execO Tryd.prog 7 (CMl cs1 cs2 cs3 t1 s1 t2 s2 t3 s3 n1 n2 1 32 w s q R a d x (ringE R 2) 6) 60 (.call Fn.law03_RotorMonotone ⟨[blV n1 n1 n2 n2 (sl 6 0 2 2), flV w s q, spV R a d x 6]⟩ (heapL (hpN cs1 t1 s1 cs2 t2 s2 cs3 t3 s3)))).fix := by kernel_rfl
theorem mrun2_7 (cs1 cs2 cs3 : List Value) (t1 s1 t2 s2 t3 s3 n1 n2 : Nat) (w s q R a d x : Int) : (execO Tryd.prog 7 (CMl cs1 cs2 cs3 t1 s1 t2 s2 t3 s3 n1 n2 1 64 w s q R a d x (ringE R 2) 7) 60 (.call Fn.law03_RotorMonotone ⟨[blV n1 n1 n2 n2 (sl 6 0 2 2), flV w s q, spV R a d x 7]⟩ (heapL (hpN cs1 t1 s1 cs2 t2 s2 cs3 t3 s3)))).vals = validT cs1 cs2 cs3 n1 n2 2 w s q 7 (goodT cs1 cs2 cs3 n1 n2 1 64 w s q (ringE R 2) 7) := by kernel_rfl
theorem mfix2_7 (cs1 cs2 cs3 : List Value) (t1 s1 t2 s2 t3 s3 n1 n2 : Nat) (w s q R a d x : Int) : execO Tryd.prog 7 (CMl cs1 cs2 cs3 t1 s1 t2 s2 t3 s3 n1 n2 1 64 w s q R a d x (ringE R 2) 7) 60 (.call Fn.law03_RotorMonotone ⟨[blV n1 n1 n2 n2 (sl 6 0 2 2), flV w s q, spV R a d x 7]⟩ (heapL (hpN cs1 t1 s1 cs2 t2 s2 cs3 t3 s3))) = (execO Tryd.prog 7 (CMl cs1 cs2 cs3 t1 s1 t2 s2 t3 s3 n1 n2 1 64 w s q R a d x (ringE R 2) 7) 60 (.call Fn.law03_RotorMonotone ⟨[blV n1 n1 n2 n2 (sl 6 0 2 2), flV w s q, spV R a d x 7]⟩ (heapL (hpN cs1 t1 s1 cs2 t2 s2 cs3 t3 s3)))).fix := by kernel_rfl
theorem mrun3_1 (cs1 cs2 cs3 : List Value) (t1 s1 t2 s2 t3 s3 n1 n2 : Nat) (w s q R a d x : Int) : (execO Tryd.prog 7 (CMl cs1 cs2 cs3 t1 s1 t2 s2 t3 s3 n1 n2 2 1 w s q R a d x (ringE R 3) 1) 60 (.call Fn.law03_RotorMonotone ⟨[blV n1 n1 n2 n2 (sl 6 0 3 3), flV w s q, spV R a d x 1]⟩ (heapL (hpN cs1 t1 s1 cs2 t2 s2 cs3 t3 s3)))).vals = validT cs1 cs2 cs3 n1 n2 3 w s q 1 (goodT cs1 cs2 cs3 n1 n2 2 1 w s q (ringE R 3) 1) := by kernel_rfl
theorem mfix3_1 (cs1 cs2 cs3 : List Value) (t1 s1 t2 s2 t3 s3 n1 n2 : Nat) (w s q R a d x : Int) : execO Tryd.prog 7 (CMl cs1 cs2 cs3 t1 s1 t2 s2 t3 s3 n1 n2 2 1 w s q R a d x (ringE R 3) 1) 60 (.call Fn.law03_RotorMonotone ⟨[blV n1 n1 n2 n2 (sl 6 0 3 3), flV w s q, spV R a d x 1]⟩ (heapL (hpN cs1 t1 s1 cs2 t2 s2 cs3 t3 s3))) = (execO Tryd.prog 7 (CMl cs1 cs2 cs3 t1 s1 t2 s2 t3 s3 n1 n2 2 1 w s q R a d x (ringE R 3) 1) 60 (.call Fn.law03_RotorMonotone ⟨[blV n1 n1 n2 n2 (sl 6 0 3 3), flV w s q, spV R a d x 1]⟩ (heapL (hpN cs1 t1 s1 cs2 t2 s2 cs3 t3 s3)))).fix := by kernel_rfl
theorem mrun3_2 (cs1 cs2 cs3 : List Value) (t1 s1 t2 s2 t3 s3 n1 n2 : Nat) (w s q R a d x : Int) : (execO Tryd.prog 7 (CMl cs1 cs2 cs3 t1 s1 t2 s2 t3 s3 n1 n2 2 2 w s q R a d x (ringE R 3) 2) 60 (.call Fn.law03_RotorMonotone ⟨[blV n1 n1 n2 n2 (sl 6 0 3 3), flV w s q, spV R a d x 2]⟩ (heapL (hpN cs1 t1 s1 cs2 t2 s2 cs3 t3 s3)))).vals = validT cs1 cs2 cs3 n1 n2 3 w s q 2 (goodT cs1 cs2 cs3 n1 n2 2 2 w s q (ringE R 3) 2) := by kernel_rfl
theorem mfix3_2 (cs1 cs2 cs3 : List Value) (t1 s1 t2 s2 t3 s3 n1 n2 : Nat) (w s q R a d x : Int) : execO Tryd.prog 7 (CMl cs1 cs2 cs3 t1 s1 t2 s2 t3 s3 n1 n2 2 2 w s q R a d x (ringE R 3) 2) 60 (.call Fn.law03_RotorMonotone ⟨[blV n1 n1 n2 n2 (sl 6 0 3 3), flV w s q, spV R a d x 2]⟩ (heapL (hpN cs1 t1 s1 cs2 t2 s2 cs3 t3 s3))) = (execO Tryd.prog 7 (CMl cs1 cs2 cs3 t1 s1 t2 s2 t3 s3 n1 n2 2 2 w s q R a d x (ringE R 3) 2) 60 (.call Fn.law03_RotorMonotone ⟨[blV n1 n1 n2 n2 (sl 6 0 3 3), flV w s q, spV R a d x 2]⟩ (heapL (hpN cs1 t1 s1 cs2 t2 s2 cs3 t3 s3)))).fix := by kernel_rfl
theorem mrun3_3 (cs1 cs2 cs3 : List Value) (t1 s1 t2 s2 t3 s3 n1 n2 : Nat) (w s q R a d x : Int) : (execO Tryd.prog 7 (CMl cs1 cs2 cs3 t1 s1 t2 s2 t3 s3 n1 n2 2 4 w s q R a d x (ringE R 3) 3) 60 (.call Fn.law03_RotorMonotone ⟨[blV n1 n1 n2 n2 (sl 6 0 3 3), flV w s q, spV R a d x 3]⟩ (heapL (hpN cs1 t1 s1 cs2 t2 s2 cs3 t3 s3)))).vals = validT cs1 cs2 cs3 n1 n2 3 w s q 3 (goodT cs1 cs2 cs3 n1 n2 2 4 w s q (ringE R 3) 3) := by kernel_rfl
theorem mfix3_3 (cs1 cs2 cs3 : List Value) (t1 s1 t2 s2 t3 s3 n1 n2 : Nat) (w s q R a d x : Int) : execO Tryd.prog 7 (CMl cs1 cs2 cs3 t1 s1 t2 s2 t3 s3 n1 n2 2 4 w s q R a d x (ringE R 3) 3) 60 (.call Fn.law03_RotorMonotone ⟨[blV n1 n1 n2 n2 (sl 6 0 3 3), flV w s q, spV R a d x 3]⟩ (heapL (hpN cs1 t1 s1 cs2 t2 s2 cs3 t3 s3))) = (execO Tryd.prog 7 (CMl cs1 cs2 cs3 t1 s1 t2 s2 t3 s3 n1 n2 2 4 w s q R a d x (ringE R 3) 3) 60 (.call Fn.law03_RotorMonotone ⟨[blV n1 n1 n2 n2 (sl 6 0 3 3), flV w s q, spV R a d x 3]⟩ (heapL (hpN cs1 t1 s1 cs2 t2 s2 cs3 t3 s3)))).fix := by kernel_rfl
theorem mrun3_4 (cs1 cs2 cs3 : List Value) (t1 s1 t2 s2 t3 s3 n1 n2 : Nat) (w s q R a d x : Int) : (execO Tryd.prog 7 (CMl cs1 cs2 cs3 t1 s1 t2 s2 t3 s3 n1 n2 2 8 w s q R a d x (ringE R 3) 4) 60 (.call Fn.law03_RotorMonotone ⟨[blV n1 n1 n2 n2 (sl 6 0 3 3), flV w s q, spV R a d x 4]⟩ (heapL (hpN cs1 t1 s1 cs2 t2 s2 cs3 t3 s3)))).vals = validT cs1 cs2 cs3 n1 n2 3 w s q 4 (goodT cs1 cs2 cs3 n1 n2 2 8 w s q (ringE R 3) 4) := by kernel_rfl
theorem mfix3_4 (cs1 cs2 cs3 : List Value) (t1 s1 t2 s2 t3 s3 n1 n2 : Nat) (w s q R a d x : Int) : execO Tryd.prog 7 (CMl cs1 cs2 cs3 t1 s1 t2 s2 t3 s3 n1 n2 2 8 w s q R a d x (ringE R 3) 4) 60 (.call Fn.law03_RotorMonotone ⟨[blV n1 n1 n2 n2 (sl 6 0 3 3), flV w s q, spV R a d x 4]⟩ (heapL (hpN cs1 t1 s1 cs2 t2 s2 cs3 t3 s3))) = (execO Tryd.prog 7 (CMl cs1 cs2 cs3 t1 s1 t2 s2 t3 s3 n1 n2 2 8 w s q R a d x (ringE R 3) 4) 60 (.call Fn.law03_RotorMonotone ⟨[blV n1 n1 n2 n2 (sl 6 0 3 3), flV w s q, spV R a d x 4]⟩ (heapL (hpN cs1 t1 s1 cs2 t2 s2 cs3 t3 s3)))).fix := by kernel_rfl
theorem mrun3_5 (cs1 cs2 cs3 : List Value) (t1 s1 t2 s2 t3 s3 n1 n2 : Nat) (w s q R a d x : Int) : (execO Tryd.prog 7 (CMl cs1 cs2 cs3 t1 s1 t2 s2 t3 s3 n1 n2 2 16 w s q R a d x (ringE R 3) 5) 60 (.call Fn.law03_RotorMonotone ⟨[blV n1 n1 n2 n2 (sl 6 0 3 3), flV w s q, spV R a d x 5]⟩ (heapL (hpN cs1 t1 s1 cs2 t2 s2 cs3 t3 s3)))).vals = validT cs1 cs2 cs3 n1 n2 3 w s q 5 (goodT cs1 cs2 cs3 n1 n2 2 16 w s q (ringE R 3) 5) := by kernel_rfl
theorem mfix3_5 (cs1 cs2 cs3 : List Value) (t1 s1 t2 s2 t3 s3 n1 n2 : Nat) (w s q R a d x : Int) : execO Tryd.prog 7 (CMl cs1 cs2 cs3 t1 s1 t2 s2 t3 s3 n1 n2 2 16 w s q R a d x (ringE R 3) 5) 60 (.call Fn.law03_RotorMonotone ⟨[blV n1 n1 n2 n2 (sl 6 0 3 3), flV w s q, spV R a d x 5]⟩ (heapL (hpN cs1 t1 s1 cs2 t2 s2 cs3 t3 s3))) = (execO Tryd.prog 7 (CMl cs1 cs2 cs3 t1 s1 t2 s2 t3 s3 n1 n2 2 16 w s q R a d x (ringE R 3) 5) 60 (.call Fn.law03_RotorMonotone ⟨[blV n1 n1 n2 n2 (sl 6 0 3 3), flV w s q, spV R a d x 5]⟩ (heapL (hpN cs1 t1 s1 cs2 t2 s2 cs3 t3 s3)))).fix := by kernel_rfl
theorem mrun3_6 (cs1 cs2 cs3 : List Value) (t1 s1 t2 s2 t3 s3 n1 n2 : Nat) (w s q R a d x : Int) : (execO Tryd.prog 7 (CMl cs1 cs2 cs3 t1 s1 t2 s2 t3 s3 n1 n2 2 32 w s q R a d x (ringE R 3) 6) 60 (.call Fn.law03_RotorMonotone ⟨[blV n1 n1 n2 n2 (sl 6 0 3 3), flV w s q, spV R a d x 6]⟩ (heapL (hpN cs1 t1 s1 cs2 t2 s2 cs3 t3 s3)))).vals = validT cs1 cs2 cs3 n1 n2 3 w s q 6 (goodT cs1 cs2 cs3 n1 n2 2 32 w s q (ringE R 3) 6) := by kernel_rfl
theorem mfix3_6 (cs1 cs2 cs3 : List Value) (t1 s1 t2 s2 t3 s3 n1 n2 : Nat) (w s q R a d x : Int) : execO Tryd.prog 7 (CMl cs1 cs2 cs3 t1 s1 t2 s2 t3 s3 n1 n2 2 32 w s q R a d x (ringE R 3) 6) 60 (.call Fn.law03_RotorMonotone ⟨[blV n1 n1 n2 n2 (sl 6 0 3 3), flV w s q, spV R a d x 6]⟩ (heapL (hpN cs1 t1 s1 cs2 t2 s2 cs3 t3 s3))) = (execO Tryd.prog 7 (CMl cs1 cs2 cs3 t1 s1 t2 s2 t3 s3 n1 n2 2 32 w s q R a d x (ringE R 3) 6) 60 (.call Fn.law03_RotorMonotone ⟨[blV n1 n1 n2 n2 (sl 6 0 3 3), flV w s q, spV R a d x 6]⟩ (heapL (hpN cs1 t1 s1 cs2 t2 s2 cs3 t3 s3)))).fix := by kernel_rfl
theorem mrun3_7 (cs1 cs2 cs3 : List Value) (t1 s1 t2 s2 t3 s3 n1 n2 : Nat) (w s q R a d x : Int) : (execO Tryd.prog 7 (CMl cs1 cs2 cs3 t1 s1 t2 s2 t3 s3 n1 n2 2 64 w s q R a d x (ringE R 3) 7) 60 (.call Fn.law03_RotorMonotone ⟨[blV n1 n1 n2 n2 (sl 6 0 3 3), flV w s q, spV R a d x 7]⟩ (heapL (hpN cs1 t1 s1 cs2 t2 s2 cs3 t3 s3)))).vals = validT cs1 cs2 cs3 n1 n2 3 w s q 7 (goodT cs1 cs2 cs3 n1 n2 2 64 w s q (ringE R 3) 7) := by kernel_rfl
theorem mfix3_7 (cs1 cs2 cs3 : List Value) (t1 s1 t2 s2 t3 s3 n1 n2 : Nat) (w s q R a d x : Int) : execO Tryd.prog 7 (CMl cs1 cs2 cs3 t1 s1 t2 s2 t3 s3 n1 n2 2 64 w s q R a d x (ringE R 3) 7) 60 (.call Fn.law03_RotorMonotone ⟨[blV n1 n1 n2 n2 (sl 6 0 3 3), flV w s q, spV R a d x 7]⟩ (heapL (hpN cs1 t1 s1 cs2 t2 s2 cs3 t3 s3))) = (execO Tryd.prog 7 (CMl cs1 cs2 cs3 t1 s1 t2 s2 t3 s3 n1 n2 2 64 w s q R a d x (ringE R 3) 7) 60 (.call Fn.law03_RotorMonotone ⟨[blV n1 n1 n2 n2 (sl 6 0 3 3), flV w s q, spV R a d x 7]⟩ (heapL (hpN cs1 t1 s1 cs2 t2 s2 cs3 t3 s3)))).fix := by kernel_rfl
end Go.Proofs.YtbocpikgochioaaDoor.Ways
namespace Go.Proofs.YtbocpikgochioaaDoor.Ways
open Go Go.Ex
theorem fe0 (y : Int) : firstE 0 y = y := by unfold firstE; rw [if_pos rfl]
theorem ok0 (y : Int) : okE 0 y = y := by unfold okE; rw [if_pos rfl]
theorem range0 {n lo hi : Int} (h1 : lo ≤ n) (h2 : n ≤ hi) : rangeE n lo hi = 0 := by unfold rangeE; rw [if_neg (by omega)]
theorem ind0 {x d : Int} (hd : 1 ≤ d ∧ d ≤ 12) (hx : 0 ≤ x ∧ x ≤ powE (d - 1)) : indE x d = 0 := by
  unfold indE
  rw [range0 hd.1 hd.2, if_pos rfl, range0 hx.1 hx.2]
section
variable {cs1 cs2 cs3 : List Value} {n1 n2 k : Nat} {w s q ring : Int}
theorem sE0 (hS : secE (bladeE cs1 n1 cs2 n2 (rhoE cs3) (k + 1)) (flowE w s q) ring (k + 1) = 0) (x d : Int) : sE_ (AR n1 n2 k w s q ring x d) (cpS cs1 cs2 cs3 (k + 1)) = 0 := hS
theorem scB_AA (x d : Int) : scB (AR n1 n2 k w s q ring x d) (cpS cs1 cs2 cs3 (k + 1)) = AA n1 n2 (rE cs3 ring) (cE_ cs3 ring) (tE_ cs3 ring) (pE_ cs3 ring) w s q := by
  show scA (rhoE cs3) w s q n1 n1 n2 n2 ring.toNat = _
  unfold scA AA
  rw [idx0, idx1, idx2, idx3]
variable (hR : RV cs1 n1 (rE cs3 ring) (cE_ cs3 ring) (tE_ cs3 ring) (pE_ cs3 ring) w s q) (hS : secE (bladeE cs1 n1 cs2 n2 (rhoE cs3) (k + 1)) (flowE w s q) ring (k + 1) = 0)
include hS in
theorem eJ0 {x d : Int} (hd : 1 ≤ d ∧ d ≤ 12) (hx : 0 ≤ x ∧ x ≤ powE (d - 1)) : eJ (AR n1 n2 k w s q ring x d) (cpS cs1 cs2 cs3 (k + 1)) = 0 := by
  unfold eJ
  rw [sE0 hS, fe0]
  exact ind0 hd hx
include hR hS in
theorem bJ_eq {x d : Int} (hd : 1 ≤ d ∧ d ≤ 12) (hx : 0 ≤ x ∧ x ≤ powE (d - 1)) : bJ (AR n1 n2 k w s q ring x d) (cpS cs1 cs2 cs3 (k + 1)) = balT cs1 n1 (rE cs3 ring) (cE_ cs3 ring) (tE_ cs3 ring) (pE_ cs3 ring) w s q x d := by
  unfold bJ
  rw [eJ0 hS hd hx, ok0]
  show balV (scB (AR n1 n2 k w s q ring x d) (cpS cs1 cs2 cs3 (k + 1)), x, d) [cs1, cs1] = _
  rw [scB_AA]
  exact balV_eq hR hd hx
include hS in
theorem iJ_eq {x d : Int} (hd : 1 ≤ d ∧ d ≤ 12) (hx : 0 ≤ x ∧ x ≤ powE (d - 1)) : iJ (AR n1 n2 k w s q ring x d) (cpS cs1 cs2 cs3 (k + 1)) = infE (rE cs3 ring) w s x d := by
  unfold iJ
  rw [eJ0 hS hd hx, ok0]
  show infE (rhoE cs3 (4 * ring.toNat)) w s x d = _
  rw [idx0]
/-- is there a bracket -/
def hbM (cs1 cs2 cs3 : List Value) (n1 n2 : Nat) (w s q ring : Int) : Bool := hasB (AA n1 n2 (rE cs3 ring) (cE_ cs3 ring) (tE_ cs3 ring) (pE_ cs3 ring) w s q) [cs1, cs2]
def brM (cs1 cs2 cs3 : List Value) (n1 n2 : Nat) (w s q ring : Int) (j : Nat) : Int := brA (AA n1 n2 (rE cs3 ring) (cE_ cs3 ring) (tE_ cs3 ring) (pE_ cs3 ring) w s q) [cs1, cs2] j
include hS in
theorem ff_eq {D x' d' : Int} (hd : 1 ≤ D ∧ D ≤ 12) : fErr (firstE (sE_ (AR n1 n2 k w s q ring x' d') (cpS cs1 cs2 cs3 (k + 1))) (rangeE D 1 12)) (hasB (scB (AR n1 n2 k w s q ring x' d') (cpS cs1 cs2 cs3 (k + 1))) (cs12 (cpS cs1 cs2 cs3 (k + 1)))) = cond (hbM cs1 cs2 cs3 n1 n2 w s q ring) 0 7 := by
  rw [sE0 hS, fe0, range0 hd.1 hd.2, scB_AA]
  unfold fErr
  rw [fe0]; rfl
include hS in
theorem EM_eq {D : Int} (hd : 1 ≤ D ∧ D ≤ 12) : EM cs1 cs2 cs3 n1 n2 k w s q ring D = cond (hbM cs1 cs2 cs3 n1 n2 w s q ring) 0 7 := ff_eq hS (x' := D) (d' := 0) hd
theorem XM_eq {D : Int} (he : EM cs1 cs2 cs3 n1 n2 k w s q ring D = 0) : XM cs1 cs2 cs3 n1 n2 k w s q ring D = brM cs1 cs2 cs3 n1 n2 w s q ring (D - 1).toNat := by
  show okE (EM cs1 cs2 cs3 n1 n2 k w s q ring D) (brA (scB (AR n1 n2 k w s q ring D 0) (cpS cs1 cs2 cs3 (k + 1))) [cs1, cs2] (D - 1).toNat) = _
  rw [he, ok0, scB_AA]; rfl
theorem YM_eq {D : Int} (he : EM cs1 cs2 cs3 n1 n2 k w s q ring D = 0) : YM cs1 cs2 cs3 n1 n2 k w s q ring D = D := by
  show okE (EM cs1 cs2 cs3 n1 n2 k w s q ring D) D = _
  rw [he, ok0]
include hS in
theorem chk_eq {x d : Int} (hd : 1 ≤ d ∧ d ≤ 12) (hx : 0 ≤ x ∧ x ≤ powE (d - 1)) : checkR (AR n1 n2 k w s q ring x d) (cpS cs1 cs2 cs3 (k + 1)) = cond (hbM cs1 cs2 cs3 n1 n2 w s q ring) (if brM cs1 cs2 cs3 n1 n2 w s q ring (d - 1).toNat = x then 0 else 22) 22 := by
  unfold checkR
  rw [show firstE (sE_ (AR n1 n2 k w s q ring x d) (cpS cs1 cs2 cs3 (k + 1))) (indE (AR n1 n2 k w s q ring x d).x (AR n1 n2 k w s q ring x d).d) = 0 from eJ0 hS hd hx, fe0, scB_AA]; rfl
include hR in
theorem hb_iff : hbM cs1 cs2 cs3 n1 n2 w s q ring = decide (0 < balT cs1 n1 (rE cs3 ring) (cE_ cs3 ring) (tE_ cs3 ring) (pE_ cs3 ring) w s q 1 1) := hasB_eq hR
include hR in
theorem br_bd (hb : hbM cs1 cs2 cs3 n1 n2 w s q ring = true) {j : Nat} (hj : j ≤ 11) : 0 ≤ brM cs1 cs2 cs3 n1 n2 w s q ring j ∧ brM cs1 cs2 cs3 n1 n2 w s q ring j + 1 ≤ powE (j : Int) ∧ 0 < balT cs1 n1 (rE cs3 ring) (cE_ cs3 ring) (tE_ cs3 ring) (pE_ cs3 ring) w s q (brM cs1 cs2 cs3 n1 n2 w s q ring j + 1) ((j : Int) + 1) := by
  rw [hb_iff hR, decide_eq_true_eq] at hb
  obtain ⟨g1, g2, _, g4⟩ := br_inv hR (c1 := n1) (n2 := n2) (c2 := n2) (cs2 := cs2) hb j hj
  exact ⟨g1, g2, g4⟩
end
section
variable {cs1 cs2 cs3 : List Value} {n1 n2 k J : Nat} {w s q ring D : Int}
theorem mono_in (hI : LawIn cs1 cs2 cs3 n1 n2 (k + 1)) (hR : RV cs1 n1 (rE cs3 ring) (cE_ cs3 ring) (tE_ cs3 ring) (pE_ cs3 ring) w s q) (hS : secE (bladeE cs1 n1 cs2 n2 (rhoE cs3) (k + 1)) (flowE w s q) ring (k + 1) = 0)
    (hD : D = (J : Int) + 1) (hJ : J ≤ 6) : MonoIn cs1 cs2 cs3 n1 n2 k w s q ring D (2 ^ J) := by
  have hd : 1 ≤ D ∧ D ≤ 12 := by omega
  have hP : powE (D - 1) = ((2 ^ J : Nat) : Int) := by rw [hD, show (J : Int) + 1 - 1 = (J : Int) from by omega]; exact pow_nat J
  have hx : ∀ j : Nat, j ≤ 2 ^ J → 0 ≤ (j : Int) ∧ (j : Int) ≤ powE (D - 1) := fun j hj => ⟨by omega, by rw [hP]; exact Int.ofNat_le.2 hj⟩
  have hDt : (D - 1).toNat = J := by omega
  have hem := EM_eq (D := D) hS hd
  have hcm : ∀ j : Nat, j ≤ 2 ^ J → cM cs1 cs2 cs3 n1 n2 k w s q ring D j = cond (hbM cs1 cs2 cs3 n1 n2 w s q ring) (if brM cs1 cs2 cs3 n1 n2 w s q ring J = (j : Int) then 0 else 22) 22 := fun j hj => by
    have := chk_eq hS hd (hx j hj)
    rw [hDt] at this
    exact this
  refine ⟨hI.o1.1, hI.o2.1, by rw [hI.r3]; exact ringC_flat _ _, ⟨rfl, ⟨hI.o1, hI.l1⟩, ⟨hI.o2, hI.l2⟩, hI.f, rfl, hI.r3⟩, fun x d => okP_cp hI x d, fun j hj => eJ0 hS hd (hx j hj), fun j hj => ?_, fun h => YM_eq h, fun h => ?_, fun j hj => ?_, fun j hj => ?_, fun j hj => ?_, ?_⟩
  · rw [hcm j hj]
    cases hb : hbM cs1 cs2 cs3 n1 n2 w s q ring with
    | false =>
      rw [hb] at hem
      constructor
      · intro h; cases h
      · intro h; rw [hem] at h; cases h.1
    | true =>
      rw [hb] at hem
      have he : EM cs1 cs2 cs3 n1 n2 k w s q ring D = 0 := hem
      rw [XM_eq he, hDt]
      show (if brM cs1 cs2 cs3 n1 n2 w s q ring J = (j : Int) then (0 : Int) else 22) = 0 ↔ _
      by_cases hq : brM cs1 cs2 cs3 n1 n2 w s q ring J = (j : Int)
      · rw [if_pos hq]; exact ⟨fun _ => ⟨he, hq⟩, fun _ => rfl⟩
      · rw [if_neg hq]; exact ⟨fun h => (by cases h), fun h => absurd h.2 hq⟩
  · rw [XM_eq h, hDt]
    cases hb : hbM cs1 cs2 cs3 n1 n2 w s q ring with
    | false => rw [hb] at hem; rw [hem] at h; cases h
    | true =>
      obtain ⟨g1, g2, _⟩ := br_bd hR hb (j := J) (by omega)
      rw [pow_nat] at g2
      exact ⟨g1, by omega⟩
  · have e1 := bJ_eq hR hS hd (hx j (by omega))
    have e2 := bJ_eq hR hS hd (hx (j + 1) hj)
    show bJ _ _ ≤ bJ _ _
    rw [e1, e2]
    exact bal_mono hR hd ⟨by omega, by omega⟩ (hx (j + 1) hj).2
  · have e1 := iJ_eq hS hd (hx j (by omega))
    have e2 := iJ_eq hS hd (hx (j + 1) hj)
    show iJ _ _ ≤ iJ _ _
    rw [e1, e2]
    exact inf_anti hR.r hR.w hR.s hd ⟨by omega, by omega⟩ (hx (j + 1) hj).2
  · show 0 ≤ iJ _ _
    rw [iJ_eq hS hd (hx j hj)]
    exact (inf_bd hR.r hR.w hR.s hd (hx j hj)).2.1
  · have : 2 ^ J ≤ 2 ^ 6 := Nat.pow_le_pow_right (by decide) hJ
    exact this
theorem good_sel (hI : LawIn cs1 cs2 cs3 n1 n2 (k + 1)) (hR : RV cs1 n1 (rE cs3 ring) (cE_ cs3 ring) (tE_ cs3 ring) (pE_ cs3 ring) w s q) (hS : secE (bladeE cs1 n1 cs2 n2 (rhoE cs3) (k + 1)) (flowE w s q) ring (k + 1) = 0)
    (hD : D = (J : Int) + 1) (hJ : J ≤ 6) : (goodT cs1 cs2 cs3 n1 n2 k (2 ^ J) w s q ring D).sel = some (b_ true) := by
  have hM := mono_in (D := D) hI hR hS hD hJ
  have hd : 1 ≤ D ∧ D ≤ 12 := by omega
  have hP : powE (D - 1) = ((2 ^ J : Nat) : Int) := by rw [hD, show (J : Int) + 1 - 1 = (J : Int) from by omega]; exact pow_nat J
  have hDt : (D - 1).toNat = J := by omega
  have hem := EM_eq (D := D) hS hd
  have hacc : accM cs1 cs2 cs3 n1 n2 k w s q ring D (2 ^ J + 1) = cond (decide (EM cs1 cs2 cs3 n1 n2 k w s q ring D = 0 ∧ XM cs1 cs2 cs3 n1 n2 k w s q ring D ≤ ((2 ^ J : Nat) : Int))) 1 0 := rfl
  have hlas : lasM cs1 cs2 cs3 n1 n2 k w s q ring D (2 ^ J + 1) = balT cs1 n1 (rE cs3 ring) (cE_ cs3 ring) (tE_ cs3 ring) (pE_ cs3 ring) w s q (powE (J : Int)) ((J : Int) + 1) := by
    have := bJ_eq hR hS hd (x := ((2 ^ J : Nat) : Int)) ⟨Int.natCast_nonneg _, by rw [hP]; exact Int.le_refl _⟩
    rw [pow_nat, ← hD]
    exact this
  unfold goodT
  cases hb : hbM cs1 cs2 cs3 n1 n2 w s q ring with
  | false =>
    rw [hb] at hem
    have he : EM cs1 cs2 cs3 n1 n2 k w s q ring D = 7 := hem
    rw [hb_iff hR, decide_eq_false_iff_not] at hb
    have hl := half_inv hR (by omega) J (by omega)
    rw [he, hacc, hlas, he]
    rw [show (!eqF 7 0) = true from rfl, brB, if_pos rfl, decide_eq_false (fun h => by cases h.1), posF_sel (show eqF 7 7 = true from rfl), posF_sel (show eqF (cond false 1 0) 0 = true from rfl), posF_sel (by rw [leF_eq]; exact decide_eq_true hl)]
    rfl
  | true =>
    rw [hb] at hem
    have he : EM cs1 cs2 cs3 n1 n2 k w s q ring D = 0 := hem
    obtain ⟨x1, x2⟩ := hM.x he
    obtain ⟨b1, b2, b3⟩ := br_bd hR hb (j := J) (by omega)
    have hX := XM_eq he
    rw [hDt] at hX
    have hY := YM_eq he
    have hpos : 0 < lasM cs1 cs2 cs3 n1 n2 k w s q ring D (2 ^ J + 1) := by
      rw [hlas]
      exact Int.lt_of_lt_of_le b3 (bal_mono hR (by omega) ⟨by omega, b2⟩ (by rw [show (J : Int) + 1 - 1 = (J : Int) from by omega]; exact Int.le_refl _))
    have hck : checkR (AR n1 n2 k w s q ring (XM cs1 cs2 cs3 n1 n2 k w s q ring D) (YM cs1 cs2 cs3 n1 n2 k w s q ring D)) (cpS cs1 cs2 cs3 (k + 1)) = 0 := by
      rw [hY, chk_eq hS hd ⟨x1, by rw [hP]; omega⟩, hb, hDt, hX]
      show (if _ then (0 : Int) else 22) = 0
      rw [if_pos rfl]
    have hw : wrapF .i64 (D + 1) = D + 1 := wrapF_in (by omega) (by omega)
    have hff : ffE (upA (AR n1 n2 k w s q ring (XM cs1 cs2 cs3 n1 n2 k w s q ring D) (YM cs1 cs2 cs3 n1 n2 k w s q ring D))) (cpS cs1 cs2 cs3 (k + 1)) (upA (AR n1 n2 k w s q ring (XM cs1 cs2 cs3 n1 n2 k w s q ring D) (YM cs1 cs2 cs3 n1 n2 k w s q ring D))).x = 0 := by
      rw [hY]
      show fErr (firstE (sE_ (AR n1 n2 k w s q ring (wrapF .i64 (D + 1)) 0) (cpS cs1 cs2 cs3 (k + 1))) (rangeE (wrapF .i64 (D + 1)) 1 12)) (hasB (scB (AR n1 n2 k w s q ring (wrapF .i64 (D + 1)) 0) (cpS cs1 cs2 cs3 (k + 1))) (cs12 (cpS cs1 cs2 cs3 (k + 1)))) = 0
      rw [hw, ff_eq hS (by omega), hb]; rfl
    have hd12 : ¬ (AR n1 n2 k w s q ring (XM cs1 cs2 cs3 n1 n2 k w s q ring D) (YM cs1 cs2 cs3 n1 n2 k w s q ring D)).d = 12 := by
      show ¬ YM cs1 cs2 cs3 n1 n2 k w s q ring D = 12
      rw [hY]; omega
    have hGZ : GZm cs1 cs2 cs3 n1 n2 k w s q ring D = 0 := by
      unfold GZm gZ pick3
      rw [if_pos hck, if_neg hd12, hff]
    have hGY : GYm cs1 cs2 cs3 n1 n2 k w s q ring D = wrapF .i64 (D + 1) := by
      unfold GYm gY pick3
      rw [if_pos hck, if_neg hd12, hff, ok0]
      show wrapF .i64 (YM cs1 cs2 cs3 n1 n2 k w s q ring D + 1) = _
      rw [hY]
    have hGX : GXm cs1 cs2 cs3 n1 n2 k w s q ring D = brM cs1 cs2 cs3 n1 n2 w s q ring (J + 1) := by
      unfold GXm gX pick3
      rw [if_pos hck, if_neg hd12, hff, ok0]
      show brA (scB (AR n1 n2 k w s q ring (wrapF .i64 (YM cs1 cs2 cs3 n1 n2 k w s q ring D + 1)) 0) (cpS cs1 cs2 cs3 (k + 1))) [cs1, cs2] (wrapF .i64 (YM cs1 cs2 cs3 n1 n2 k w s q ring D + 1) - 1).toNat = _
      rw [hY, hw, scB_AA, show (D + 1 - 1).toNat = J + 1 from by omega]; rfl
    have hstep : brM cs1 cs2 cs3 n1 n2 w s q ring (J + 1) = wrapF .i64 (2 * brM cs1 cs2 cs3 n1 n2 w s q ring J) ∨ brM cs1 cs2 cs3 n1 n2 w s q ring (J + 1) = wrapF .i64 (wrapF .i64 (2 * brM cs1 cs2 cs3 n1 n2 w s q ring J) + 1) := by
      have hdef : brM cs1 cs2 cs3 n1 n2 w s q ring (J + 1) = finA (AA n1 n2 (rE cs3 ring) (cE_ cs3 ring) (tE_ cs3 ring) (pE_ cs3 ring) w s q) [cs1, cs2] (brM cs1 cs2 cs3 n1 n2 w s q ring J) ((J + 1 : Nat) : Int) := rfl
      rw [hdef]
      unfold finA upE
      split
      · exact .inr rfl
      · exact .inl rfl
    rw [he, hacc, he, hGZ, hGY, hGX, hX, decide_eq_true (show (0 : Int) = 0 ∧ brM cs1 cs2 cs3 n1 n2 w s q ring J ≤ ((2 ^ J : Nat) : Int) from ⟨rfl, by omega⟩)]
    rw [show (!eqF 0 0) = false from rfl, brB, if_neg (by decide), posF_sel (show eqF (cond true 1 0) 1 = true from rfl), posF_sel (by rw [ltF_eq]; exact decide_eq_true hpos), posF_sel (show eqF 0 0 = true from rfl), posF_sel (show eqF (wrapF .i64 (D + 1)) (wrapF .i64 (D + 1)) = true by rw [eqF_d]; exact decide_eq_true rfl), eqF_d]
    by_cases hz : brM cs1 cs2 cs3 n1 n2 w s q ring (J + 1) = wrapF .i64 (2 * brM cs1 cs2 cs3 n1 n2 w s q ring J)
    · rw [decide_eq_true hz]; rfl
    · rw [decide_eq_false hz]
      rcases hstep with h | h
      · exact absurd h hz
      · rw [brB, if_neg (by decide), posF_sel (by rw [eqF_d]; exact decide_eq_true h)]; rfl
end
end Go.Proofs.YtbocpikgochioaaDoor.Ways
namespace Go.Proofs.YtbocpikgochioaaDoor.Ways
open Go Go.Ex
noncomputable def CM0 : Cfg := ⟨TXf, at_ [(Fn.law03_RotorMonotone, 54)] (.ints []) spM, off_, noL⟩
section
variable (cs1 cs2 cs3 : List Value) (t1 s1 t2 s2 t3 s3 n1 n2 n : Nat) (w s q R a d x D : Int)
theorem mrung : (execO Tryd.prog 7 CM0 60 (.call Fn.law03_RotorMonotone ⟨[blV n1 n1 n2 n2 (sl 6 0 n n), flV w s q, spV R a d x D]⟩ (heapL (hpN cs1 t1 s1 cs2 t2 s2 cs3 t3 s3)))).vals = validT cs1 cs2 cs3 n1 n2 n w s q D .fail := by kernel_rfl
theorem mfixg : execO Tryd.prog 7 CM0 60 (.call Fn.law03_RotorMonotone ⟨[blV n1 n1 n2 n2 (sl 6 0 n n), flV w s q, spV R a d x D]⟩ (heapL (hpN cs1 t1 s1 cs2 t2 s2 cs3 t3 s3))) = (execO Tryd.prog 7 CM0 60 (.call Fn.law03_RotorMonotone ⟨[blV n1 n1 n2 n2 (sl 6 0 n n), flV w s q, spV R a d x D]⟩ (heapL (hpN cs1 t1 s1 cs2 t2 s2 cs3 t3 s3)))).fix := by kernel_rfl
end
section
variable {cs1 cs2 cs3 : List Value} {t1 s1 t2 s2 t3 s3 n1 n2 n : Nat} {w s q R a d x D ring : Int}
theorem validT_sel {t : VT} (f1 : cs1.all Ex.flat = true) (f2 : cs2.all Ex.flat = true) (f3 : cs3.all Ex.flat = true) (hB : shE n1 n2 n = true → okB3 (argA n1 n2 n) [cs1, cs2, cs3])
    (ht : shE n1 n2 n = true → errB (argA n1 n2 n) [cs1, cs2, cs3] = 0 → flowE w s q = 0 → 1 ≤ D → D ≤ 7 → t.sel = some (b_ true)) : (validT cs1 cs2 cs3 n1 n2 n w s q D t).sel = some (b_ true) := by
  unfold validT
  rw [askB_sel (tru_iff.2 ⟨rfl, f1, f2, f3⟩), brB]
  cases hs : shE n1 n2 n with
  | false => rfl
  | true =>
    rw [if_pos rfl, askB_sel (tru_iff.2 (hB hs)), brB, brB, brB, brB, eqF_d, eqF_d, ltF_eq, ltF_eq]
    by_cases h1 : errB (argA n1 n2 n) [cs1, cs2, cs3] = 0
    · by_cases h2 : flowE w s q = 0
      · by_cases h3 : D < 1
        · rw [decide_eq_true h1, decide_eq_true h2, decide_eq_true h3]; rfl
        · by_cases h4 : 7 < D
          · rw [decide_eq_true h1, decide_eq_true h2, decide_eq_false h3, decide_eq_true h4]; rfl
          · rw [decide_eq_true h1, decide_eq_true h2, decide_eq_false h3, decide_eq_false h4]
            exact ht hs h1 h2 (by omega) (by omega)
      · rw [decide_eq_true h1, decide_eq_false h2]; rfl
    · rw [decide_eq_false h1]; rfl
theorem ring_bd (hn : 1 ≤ n) (hn2 : n ≤ 16) : 0 ≤ ringE R n ∧ ringE R n < (n : Int) := by
  have hp : (0 : Int) < (n : Int) := by omega
  have h1 := Int.tmod_lt_of_pos R hp
  have h2 := Int.lt_tmod_of_pos R hp
  unfold ringE
  rw [wrapF_in (by omega) (by omega)]
  have h3 : (0 : Int) ≤ R.tmod (n : Int) + (n : Int) := by omega
  rw [Int.tmod_eq_emod_of_nonneg h3]
  exact ⟨Int.emod_nonneg _ (by omega), Int.emod_lt_of_pos _ hp⟩
theorem sec0 (hb : errB (argA n1 n2 n) [cs1, cs2, cs3] = 0) (hf : flowE w s q = 0) (h1 : 0 ≤ ring ∧ ring < (n : Int)) : secE (bladeE cs1 n1 cs2 n2 (rhoE cs3) n) (flowE w s q) ring n = 0 := by
  unfold secE
  rw [show bladeE cs1 n1 cs2 n2 (rhoE cs3) n = 0 from hb, hf, fe0, if_pos rfl, if_pos h1]
theorem rv_in (hI : LawIn cs1 cs2 cs3 n1 n2 n) (h : secE (bladeE cs1 n1 cs2 n2 (rhoE cs3) n) (flowE w s q) ring n = 0) : RV cs1 n1 (rE cs3 ring) (cE_ cs3 ring) (tE_ cs3 ring) (pE_ cs3 ring) w s q := by
  obtain ⟨h1, h2, h3, h4, h5, h6, h7, h8, h9⟩ := ring_in hI (show sE_ ⟨argA n1 n2 n, w, s, q, ring, 0, 0⟩ [cs1, cs2, cs3] = 0 from h)
  obtain ⟨hb, _, _, _⟩ := sec_z h
  obtain ⟨hp, _⟩ := blade_z hb
  obtain ⟨p1, p2, _, p3, _⟩ := pol_z hp
  exact ⟨h3, h4, h5, h6, h7, h8, h9, ⟨p1, p2⟩, p3⟩
theorem okB3_in (hI : LawIn cs1 cs2 cs3 n1 n2 n) : okB3 (argA n1 n2 n) [cs1, cs2, cs3] := ⟨rfl, ⟨hI.o1, hI.o2⟩, hI.f, rfl, hI.r3⟩
theorem flat_in (hI : LawIn cs1 cs2 cs3 n1 n2 n) : cs1.all Ex.flat = true ∧ cs2.all Ex.flat = true ∧ cs3.all Ex.flat = true := ⟨hI.o1.1, hI.o2.1, by rw [hI.r3]; exact ringC_flat _ _⟩
theorem law_n1 (hI : LawIn cs1 cs2 cs3 n1 n2 1) (hb : errB (argA n1 n2 1) [cs1, cs2, cs3] = 0) (hf : flowE w s q = 0) (hD : 1 ≤ D ∧ D ≤ 7) :
    ∃ H', Sound Tryd.prog 7 (.call Fn.law03_RotorMonotone ⟨[blV n1 n1 n2 n2 (sl 6 0 1 1), flV w s q, spV R a d x D]⟩ (heapL (hpN cs1 t1 s1 cs2 t2 s2 cs3 t3 s3))) (.val (b_ true) H') := by
  obtain ⟨f1, f2, f3⟩ := flat_in hI
  have hS : secE (bladeE cs1 n1 cs2 n2 (rhoE cs3) (0 + 1)) (flowE w s q) (ringE R 1) (0 + 1) = 0 := sec0 (n := 1) hb hf (ring_bd (by decide) (by decide))
  have hI' : LawIn cs1 cs2 cs3 n1 n2 (0 + 1) := hI
  have hR := rv_in hI' hS
  have hd : D = 1 ∨ D = 2 ∨ D = 3 ∨ D = 4 ∨ D = 5 ∨ D = 6 ∨ D = 7 := by omega
  rcases hd with rfl | rfl | rfl | rfl | rfl | rfl | rfl
  · exact one_tree (C := CMl cs1 cs2 cs3 t1 s1 t2 s2 t3 s3 n1 n2 0 1 w s q R a d x (ringE R 1) 1) (n := 60) _ tsXf (lsM (mono_in (J := 0) hI' hR hS (by decide) (by decide)) (okP_cp hI' _ _)) (mfix1_1 ..) (mrun1_1 ..) (validT_sel f1 f2 f3 (fun _ => okB3_in hI) fun _ _ _ _ _ => good_sel (J := 0) hI' hR hS (by decide) (by decide))
  · exact one_tree (C := CMl cs1 cs2 cs3 t1 s1 t2 s2 t3 s3 n1 n2 0 2 w s q R a d x (ringE R 1) 2) (n := 60) _ tsXf (lsM (mono_in (J := 1) hI' hR hS (by decide) (by decide)) (okP_cp hI' _ _)) (mfix1_2 ..) (mrun1_2 ..) (validT_sel f1 f2 f3 (fun _ => okB3_in hI) fun _ _ _ _ _ => good_sel (J := 1) hI' hR hS (by decide) (by decide))
  · exact one_tree (C := CMl cs1 cs2 cs3 t1 s1 t2 s2 t3 s3 n1 n2 0 4 w s q R a d x (ringE R 1) 3) (n := 60) _ tsXf (lsM (mono_in (J := 2) hI' hR hS (by decide) (by decide)) (okP_cp hI' _ _)) (mfix1_3 ..) (mrun1_3 ..) (validT_sel f1 f2 f3 (fun _ => okB3_in hI) fun _ _ _ _ _ => good_sel (J := 2) hI' hR hS (by decide) (by decide))
  · exact one_tree (C := CMl cs1 cs2 cs3 t1 s1 t2 s2 t3 s3 n1 n2 0 8 w s q R a d x (ringE R 1) 4) (n := 60) _ tsXf (lsM (mono_in (J := 3) hI' hR hS (by decide) (by decide)) (okP_cp hI' _ _)) (mfix1_4 ..) (mrun1_4 ..) (validT_sel f1 f2 f3 (fun _ => okB3_in hI) fun _ _ _ _ _ => good_sel (J := 3) hI' hR hS (by decide) (by decide))
  · exact one_tree (C := CMl cs1 cs2 cs3 t1 s1 t2 s2 t3 s3 n1 n2 0 16 w s q R a d x (ringE R 1) 5) (n := 60) _ tsXf (lsM (mono_in (J := 4) hI' hR hS (by decide) (by decide)) (okP_cp hI' _ _)) (mfix1_5 ..) (mrun1_5 ..) (validT_sel f1 f2 f3 (fun _ => okB3_in hI) fun _ _ _ _ _ => good_sel (J := 4) hI' hR hS (by decide) (by decide))
  · exact one_tree (C := CMl cs1 cs2 cs3 t1 s1 t2 s2 t3 s3 n1 n2 0 32 w s q R a d x (ringE R 1) 6) (n := 60) _ tsXf (lsM (mono_in (J := 5) hI' hR hS (by decide) (by decide)) (okP_cp hI' _ _)) (mfix1_6 ..) (mrun1_6 ..) (validT_sel f1 f2 f3 (fun _ => okB3_in hI) fun _ _ _ _ _ => good_sel (J := 5) hI' hR hS (by decide) (by decide))
  · exact one_tree (C := CMl cs1 cs2 cs3 t1 s1 t2 s2 t3 s3 n1 n2 0 64 w s q R a d x (ringE R 1) 7) (n := 60) _ tsXf (lsM (mono_in (J := 6) hI' hR hS (by decide) (by decide)) (okP_cp hI' _ _)) (mfix1_7 ..) (mrun1_7 ..) (validT_sel f1 f2 f3 (fun _ => okB3_in hI) fun _ _ _ _ _ => good_sel (J := 6) hI' hR hS (by decide) (by decide))
theorem law_n2 (hI : LawIn cs1 cs2 cs3 n1 n2 2) (hb : errB (argA n1 n2 2) [cs1, cs2, cs3] = 0) (hf : flowE w s q = 0) (hD : 1 ≤ D ∧ D ≤ 7) :
    ∃ H', Sound Tryd.prog 7 (.call Fn.law03_RotorMonotone ⟨[blV n1 n1 n2 n2 (sl 6 0 2 2), flV w s q, spV R a d x D]⟩ (heapL (hpN cs1 t1 s1 cs2 t2 s2 cs3 t3 s3))) (.val (b_ true) H') := by
  obtain ⟨f1, f2, f3⟩ := flat_in hI
  have hS : secE (bladeE cs1 n1 cs2 n2 (rhoE cs3) (1 + 1)) (flowE w s q) (ringE R 2) (1 + 1) = 0 := sec0 (n := 2) hb hf (ring_bd (by decide) (by decide))
  have hI' : LawIn cs1 cs2 cs3 n1 n2 (1 + 1) := hI
  have hR := rv_in hI' hS
  have hd : D = 1 ∨ D = 2 ∨ D = 3 ∨ D = 4 ∨ D = 5 ∨ D = 6 ∨ D = 7 := by omega
  rcases hd with rfl | rfl | rfl | rfl | rfl | rfl | rfl
  · exact one_tree (C := CMl cs1 cs2 cs3 t1 s1 t2 s2 t3 s3 n1 n2 1 1 w s q R a d x (ringE R 2) 1) (n := 60) _ tsXf (lsM (mono_in (J := 0) hI' hR hS (by decide) (by decide)) (okP_cp hI' _ _)) (mfix2_1 ..) (mrun2_1 ..) (validT_sel f1 f2 f3 (fun _ => okB3_in hI) fun _ _ _ _ _ => good_sel (J := 0) hI' hR hS (by decide) (by decide))
  · exact one_tree (C := CMl cs1 cs2 cs3 t1 s1 t2 s2 t3 s3 n1 n2 1 2 w s q R a d x (ringE R 2) 2) (n := 60) _ tsXf (lsM (mono_in (J := 1) hI' hR hS (by decide) (by decide)) (okP_cp hI' _ _)) (mfix2_2 ..) (mrun2_2 ..) (validT_sel f1 f2 f3 (fun _ => okB3_in hI) fun _ _ _ _ _ => good_sel (J := 1) hI' hR hS (by decide) (by decide))
  · exact one_tree (C := CMl cs1 cs2 cs3 t1 s1 t2 s2 t3 s3 n1 n2 1 4 w s q R a d x (ringE R 2) 3) (n := 60) _ tsXf (lsM (mono_in (J := 2) hI' hR hS (by decide) (by decide)) (okP_cp hI' _ _)) (mfix2_3 ..) (mrun2_3 ..) (validT_sel f1 f2 f3 (fun _ => okB3_in hI) fun _ _ _ _ _ => good_sel (J := 2) hI' hR hS (by decide) (by decide))
  · exact one_tree (C := CMl cs1 cs2 cs3 t1 s1 t2 s2 t3 s3 n1 n2 1 8 w s q R a d x (ringE R 2) 4) (n := 60) _ tsXf (lsM (mono_in (J := 3) hI' hR hS (by decide) (by decide)) (okP_cp hI' _ _)) (mfix2_4 ..) (mrun2_4 ..) (validT_sel f1 f2 f3 (fun _ => okB3_in hI) fun _ _ _ _ _ => good_sel (J := 3) hI' hR hS (by decide) (by decide))
  · exact one_tree (C := CMl cs1 cs2 cs3 t1 s1 t2 s2 t3 s3 n1 n2 1 16 w s q R a d x (ringE R 2) 5) (n := 60) _ tsXf (lsM (mono_in (J := 4) hI' hR hS (by decide) (by decide)) (okP_cp hI' _ _)) (mfix2_5 ..) (mrun2_5 ..) (validT_sel f1 f2 f3 (fun _ => okB3_in hI) fun _ _ _ _ _ => good_sel (J := 4) hI' hR hS (by decide) (by decide))
  · exact one_tree (C := CMl cs1 cs2 cs3 t1 s1 t2 s2 t3 s3 n1 n2 1 32 w s q R a d x (ringE R 2) 6) (n := 60) _ tsXf (lsM (mono_in (J := 5) hI' hR hS (by decide) (by decide)) (okP_cp hI' _ _)) (mfix2_6 ..) (mrun2_6 ..) (validT_sel f1 f2 f3 (fun _ => okB3_in hI) fun _ _ _ _ _ => good_sel (J := 5) hI' hR hS (by decide) (by decide))
  · exact one_tree (C := CMl cs1 cs2 cs3 t1 s1 t2 s2 t3 s3 n1 n2 1 64 w s q R a d x (ringE R 2) 7) (n := 60) _ tsXf (lsM (mono_in (J := 6) hI' hR hS (by decide) (by decide)) (okP_cp hI' _ _)) (mfix2_7 ..) (mrun2_7 ..) (validT_sel f1 f2 f3 (fun _ => okB3_in hI) fun _ _ _ _ _ => good_sel (J := 6) hI' hR hS (by decide) (by decide))
theorem law_n3 (hI : LawIn cs1 cs2 cs3 n1 n2 3) (hb : errB (argA n1 n2 3) [cs1, cs2, cs3] = 0) (hf : flowE w s q = 0) (hD : 1 ≤ D ∧ D ≤ 7) :
    ∃ H', Sound Tryd.prog 7 (.call Fn.law03_RotorMonotone ⟨[blV n1 n1 n2 n2 (sl 6 0 3 3), flV w s q, spV R a d x D]⟩ (heapL (hpN cs1 t1 s1 cs2 t2 s2 cs3 t3 s3))) (.val (b_ true) H') := by
  obtain ⟨f1, f2, f3⟩ := flat_in hI
  have hS : secE (bladeE cs1 n1 cs2 n2 (rhoE cs3) (2 + 1)) (flowE w s q) (ringE R 3) (2 + 1) = 0 := sec0 (n := 3) hb hf (ring_bd (by decide) (by decide))
  have hI' : LawIn cs1 cs2 cs3 n1 n2 (2 + 1) := hI
  have hR := rv_in hI' hS
  have hd : D = 1 ∨ D = 2 ∨ D = 3 ∨ D = 4 ∨ D = 5 ∨ D = 6 ∨ D = 7 := by omega
  rcases hd with rfl | rfl | rfl | rfl | rfl | rfl | rfl
  · exact one_tree (C := CMl cs1 cs2 cs3 t1 s1 t2 s2 t3 s3 n1 n2 2 1 w s q R a d x (ringE R 3) 1) (n := 60) _ tsXf (lsM (mono_in (J := 0) hI' hR hS (by decide) (by decide)) (okP_cp hI' _ _)) (mfix3_1 ..) (mrun3_1 ..) (validT_sel f1 f2 f3 (fun _ => okB3_in hI) fun _ _ _ _ _ => good_sel (J := 0) hI' hR hS (by decide) (by decide))
  · exact one_tree (C := CMl cs1 cs2 cs3 t1 s1 t2 s2 t3 s3 n1 n2 2 2 w s q R a d x (ringE R 3) 2) (n := 60) _ tsXf (lsM (mono_in (J := 1) hI' hR hS (by decide) (by decide)) (okP_cp hI' _ _)) (mfix3_2 ..) (mrun3_2 ..) (validT_sel f1 f2 f3 (fun _ => okB3_in hI) fun _ _ _ _ _ => good_sel (J := 1) hI' hR hS (by decide) (by decide))
  · exact one_tree (C := CMl cs1 cs2 cs3 t1 s1 t2 s2 t3 s3 n1 n2 2 4 w s q R a d x (ringE R 3) 3) (n := 60) _ tsXf (lsM (mono_in (J := 2) hI' hR hS (by decide) (by decide)) (okP_cp hI' _ _)) (mfix3_3 ..) (mrun3_3 ..) (validT_sel f1 f2 f3 (fun _ => okB3_in hI) fun _ _ _ _ _ => good_sel (J := 2) hI' hR hS (by decide) (by decide))
  · exact one_tree (C := CMl cs1 cs2 cs3 t1 s1 t2 s2 t3 s3 n1 n2 2 8 w s q R a d x (ringE R 3) 4) (n := 60) _ tsXf (lsM (mono_in (J := 3) hI' hR hS (by decide) (by decide)) (okP_cp hI' _ _)) (mfix3_4 ..) (mrun3_4 ..) (validT_sel f1 f2 f3 (fun _ => okB3_in hI) fun _ _ _ _ _ => good_sel (J := 3) hI' hR hS (by decide) (by decide))
  · exact one_tree (C := CMl cs1 cs2 cs3 t1 s1 t2 s2 t3 s3 n1 n2 2 16 w s q R a d x (ringE R 3) 5) (n := 60) _ tsXf (lsM (mono_in (J := 4) hI' hR hS (by decide) (by decide)) (okP_cp hI' _ _)) (mfix3_5 ..) (mrun3_5 ..) (validT_sel f1 f2 f3 (fun _ => okB3_in hI) fun _ _ _ _ _ => good_sel (J := 4) hI' hR hS (by decide) (by decide))
  · exact one_tree (C := CMl cs1 cs2 cs3 t1 s1 t2 s2 t3 s3 n1 n2 2 32 w s q R a d x (ringE R 3) 6) (n := 60) _ tsXf (lsM (mono_in (J := 5) hI' hR hS (by decide) (by decide)) (okP_cp hI' _ _)) (mfix3_6 ..) (mrun3_6 ..) (validT_sel f1 f2 f3 (fun _ => okB3_in hI) fun _ _ _ _ _ => good_sel (J := 5) hI' hR hS (by decide) (by decide))
  · exact one_tree (C := CMl cs1 cs2 cs3 t1 s1 t2 s2 t3 s3 n1 n2 2 64 w s q R a d x (ringE R 3) 7) (n := 60) _ tsXf (lsM (mono_in (J := 6) hI' hR hS (by decide) (by decide)) (okP_cp hI' _ _)) (mfix3_7 ..) (mrun3_7 ..) (validT_sel f1 f2 f3 (fun _ => okB3_in hI) fun _ _ _ _ _ => good_sel (J := 6) hI' hR hS (by decide) (by decide))
theorem law5_true (f1 : cs1.all Ex.flat = true) (f2 : cs2.all Ex.flat = true) (f3 : cs3.all Ex.flat = true) (hin : five n → n1 ≤ 1000000 → n2 ≤ 1000000 → LawIn cs1 cs2 cs3 n1 n2 n) :
    ∃ H', Sound Tryd.prog 7 (.call Fn.law03_RotorMonotone ⟨[blV n1 n1 n2 n2 (sl 6 0 n n), flV w s q, spV R a d x D]⟩ (heapL (hpN cs1 t1 s1 cs2 t2 s2 cs3 t3 s3))) (.val (b_ true) H') := by
  have hI : shE n1 n2 n = true → LawIn cs1 cs2 cs3 n1 n2 n := fun hs => by
    unfold shE at hs
    rw [decide_eq_true_eq] at hs
    have hn : n = 0 ∨ n = 1 ∨ n = 2 ∨ n = 3 ∨ n = 17 := by omega
    exact hin hn (by omega) (by omega)
  by_cases hall : shE n1 n2 n = true ∧ errB (argA n1 n2 n) [cs1, cs2, cs3] = 0 ∧ flowE w s q = 0 ∧ 1 ≤ D ∧ D ≤ 7
  · obtain ⟨hs, hb, hf, hD⟩ := hall
    have hI := hI hs
    obtain ⟨_, b1, b2, _⟩ := blade_z (show bladeE cs1 n1 cs2 n2 (rhoE cs3) n = 0 from hb)
    have hn : n = 1 ∨ n = 2 ∨ n = 3 := by
      have h5 : n = 0 ∨ n = 1 ∨ n = 2 ∨ n = 3 ∨ n = 17 := hI.f
      omega
    rcases hn with rfl | rfl | rfl
    · exact law_n1 hI hb hf hD
    · exact law_n2 hI hb hf hD
    · exact law_n3 hI hb hf hD
  · exact one_tree (C := CM0) (n := 60) _ tsXf .none (mfixg ..) (mrung ..) (validT_sel f1 f2 f3 (fun hs => okB3_in (hI hs)) fun g1 g2 g3 g4 g5 => absurd ⟨g1, g2, g3, g4, g5⟩ hall)
end
end Go.Proofs.YtbocpikgochioaaDoor.Ways
