import Derived.Test.YtbocpikgochioaaDoorWr1
import Derived.Test.YtbocpikgochioaaDoorEngCard
import Derived.Test.YtbocpikgochioaaDoorCards
import Derived.Test.YtbocpikgochioaaDoorTie
namespace Go.Proofs.YtbocpikgochioaaDoor.Ways
open Go Go.Ex
def eA_ (a : ArA) (css : List (List Value)) : Int := firstE (sE_ a css) (indE a.x a.d)
def loA (a : ArA) (css : List (List Value)) : Int := okE (eA_ a css) (balF a css)
theorem ind0 {x d : Int} (hd : 1 ≤ d ∧ d ≤ 12) (hx : 0 ≤ x ∧ x ≤ powE (d - 1)) : indE x d = 0 := by
  unfold indE
  rw [range0 hd.1 hd.2, if_pos rfl, range0 hx.1 hx.2]
section
variable {cs1 cs2 cs3 : List Value} {n1 n2 k : Nat} {w s q ring : Int}
theorem sE0 (hS : secE (bladeE cs1 n1 cs2 n2 (rhoE cs3) (k + 1)) (flowE w s q) ring (k + 1) = 0) (x d : Int) : sE_ (AR n1 n2 k w s q ring x d) (cpS cs1 cs2 cs3 (k + 1)) = 0 := hS
theorem scB_AA (x d : Int) : scB (AR n1 n2 k w s q ring x d) (cpS cs1 cs2 cs3 (k + 1)) = AA n1 n2 (rE cs3 ring) (cE_ cs3 ring) (tE_ cs3 ring) (pE_ cs3 ring) w s q := by
  show scA (rhoE cs3) w s q n1 n1 n2 n2 ring.toNat = _
  unfold scA AA
  rw [idx0, idx1, idx2, idx3]
variable (hR : RV cs1 n1 (rE cs3 ring) (cE_ cs3 ring) (tE_ cs3 ring) (pE_ cs3 ring) w s q) (hS : secE (bladeE cs1 n1 cs2 n2 (rhoE cs3) (k + 1)) (flowE w s q) ring (k + 1) = 0)
include hS in
theorem eA0 {x d : Int} (hd : 1 ≤ d ∧ d ≤ 12) (hx : 0 ≤ x ∧ x ≤ powE (d - 1)) : eA_ (AR n1 n2 k w s q ring x d) (cpS cs1 cs2 cs3 (k + 1)) = 0 := by
  unfold eA_
  rw [sE0 hS, fe0]
  exact ind0 hd hx
include hR hS in
theorem lo_eq {x d : Int} (hd : 1 ≤ d ∧ d ≤ 12) (hx : 0 ≤ x ∧ x ≤ powE (d - 1)) : loA (AR n1 n2 k w s q ring x d) (cpS cs1 cs2 cs3 (k + 1)) = balT cs1 n1 (rE cs3 ring) (cE_ cs3 ring) (tE_ cs3 ring) (pE_ cs3 ring) w s q x d := by
  unfold loA
  rw [eA0 hS hd hx, ok0]
  show balV (scB (AR n1 n2 k w s q ring x d) (cpS cs1 cs2 cs3 (k + 1)), x, d) [cs1, cs1] = _
  rw [scB_AA]
  exact balV_eq hR hd hx
/-- is there a bracket -/
def hbM (cs1 cs2 cs3 : List Value) (n1 n2 : Nat) (w s q ring : Int) : Bool := hasB (AA n1 n2 (rE cs3 ring) (cE_ cs3 ring) (tE_ cs3 ring) (pE_ cs3 ring) w s q) [cs1, cs2]
def brM (cs1 cs2 cs3 : List Value) (n1 n2 : Nat) (w s q ring : Int) (j : Nat) : Int := brA (AA n1 n2 (rE cs3 ring) (cE_ cs3 ring) (tE_ cs3 ring) (pE_ cs3 ring) w s q) [cs1, cs2] j
include hS in
theorem ff_eq {D x' d' : Int} (hd : 1 ≤ D ∧ D ≤ 12) : fErr (firstE (sE_ (AR n1 n2 k w s q ring x' d') (cpS cs1 cs2 cs3 (k + 1))) (rangeE D 1 12)) (hasB (scB (AR n1 n2 k w s q ring x' d') (cpS cs1 cs2 cs3 (k + 1))) (cs12 (cpS cs1 cs2 cs3 (k + 1)))) = cond (hbM cs1 cs2 cs3 n1 n2 w s q ring) 0 7 := by
  rw [sE0 hS, fe0, range0 hd.1 hd.2, scB_AA]
  unfold fErr
  rw [fe0]; rfl
include hS in
theorem chk_eq {x d : Int} (hd : 1 ≤ d ∧ d ≤ 12) (hx : 0 ≤ x ∧ x ≤ powE (d - 1)) : checkR (AR n1 n2 k w s q ring x d) (cpS cs1 cs2 cs3 (k + 1)) = cond (hbM cs1 cs2 cs3 n1 n2 w s q ring) (if brM cs1 cs2 cs3 n1 n2 w s q ring (d - 1).toNat = x then 0 else 22) 22 := by
  unfold checkR
  rw [show firstE (sE_ (AR n1 n2 k w s q ring x d) (cpS cs1 cs2 cs3 (k + 1))) (indE (AR n1 n2 k w s q ring x d).x (AR n1 n2 k w s q ring x d).d) = 0 from eA0 hS hd hx, fe0, scB_AA]; rfl
include hR in
theorem br_all (hb : hbM cs1 cs2 cs3 n1 n2 w s q ring = true) {j : Nat} (hj : j ≤ 11) : 0 ≤ brM cs1 cs2 cs3 n1 n2 w s q ring j ∧ brM cs1 cs2 cs3 n1 n2 w s q ring j + 1 ≤ powE (j : Int) ∧ balT cs1 n1 (rE cs3 ring) (cE_ cs3 ring) (tE_ cs3 ring) (pE_ cs3 ring) w s q (brM cs1 cs2 cs3 n1 n2 w s q ring j) ((j : Int) + 1) ≤ 0 ∧ 0 < balT cs1 n1 (rE cs3 ring) (cE_ cs3 ring) (tE_ cs3 ring) (pE_ cs3 ring) w s q (brM cs1 cs2 cs3 n1 n2 w s q ring j + 1) ((j : Int) + 1) := by
  have hb' := hb
  unfold hbM at hb'
  rw [hasB_eq hR, decide_eq_true_eq] at hb'
  exact br_inv hR (c1 := n1) (n2 := n2) (c2 := n2) (cs2 := cs2) hb' j hj
include hS in
/-- what Find and Refine say -/
theorem find_eq {D : Int} (hd : 1 ≤ D ∧ D ≤ 12) : fZ (AF n1 n2 k w s q ring D) (cpS cs1 cs2 cs3 (k + 1)) = cond (hbM cs1 cs2 cs3 n1 n2 w s q ring) 0 7 ∧
    (hbM cs1 cs2 cs3 n1 n2 w s q ring = true → fX (AF n1 n2 k w s q ring D) (cpS cs1 cs2 cs3 (k + 1)) = brM cs1 cs2 cs3 n1 n2 w s q ring (D - 1).toNat ∧ fY (AF n1 n2 k w s q ring D) (cpS cs1 cs2 cs3 (k + 1)) = D) := by
  have e := ff_eq hS (x' := D) (d' := 0) hd
  refine ⟨e, fun hb => ?_⟩
  rw [hb] at e
  have e' : fErr (firstE (sE_ (AF n1 n2 k w s q ring D) (cpS cs1 cs2 cs3 (k + 1))) (rangeE (AF n1 n2 k w s q ring D).x 1 12)) (hasB (scB (AF n1 n2 k w s q ring D) (cpS cs1 cs2 cs3 (k + 1))) (cs12 (cpS cs1 cs2 cs3 (k + 1)))) = 0 := e
  unfold fX fY
  rw [e', ok0, ok0]
  refine ⟨?_, rfl⟩
  show brA (scB (AR n1 n2 k w s q ring D 0) (cpS cs1 cs2 cs3 (k + 1))) [cs1, cs2] (D - 1).toNat = _
  rw [scB_AA]; rfl
include hR hS in
theorem refine_eq (hb : hbM cs1 cs2 cs3 n1 n2 w s q ring = true) {j : Nat} (hj : j ≤ 10) :
    gZ (AR n1 n2 k w s q ring (brM cs1 cs2 cs3 n1 n2 w s q ring j) ((j : Int) + 1)) (cpS cs1 cs2 cs3 (k + 1)) = 0 ∧ gX (AR n1 n2 k w s q ring (brM cs1 cs2 cs3 n1 n2 w s q ring j) ((j : Int) + 1)) (cpS cs1 cs2 cs3 (k + 1)) = brM cs1 cs2 cs3 n1 n2 w s q ring (j + 1) ∧ gY (AR n1 n2 k w s q ring (brM cs1 cs2 cs3 n1 n2 w s q ring j) ((j : Int) + 1)) (cpS cs1 cs2 cs3 (k + 1)) = (j : Int) + 2 := by
  obtain ⟨b1, b2, _⟩ := br_all hR hb (j := j) (by omega)
  have hc := chk_eq hS (x := brM cs1 cs2 cs3 n1 n2 w s q ring j) (d := (j : Int) + 1) (by omega) ⟨b1, by rw [show (j : Int) + 1 - 1 = (j : Int) from by omega]; omega⟩
  rw [hb, show ((j : Int) + 1 - 1).toNat = j from by omega] at hc
  have hc' : checkR (AR n1 n2 k w s q ring (brM cs1 cs2 cs3 n1 n2 w s q ring j) ((j : Int) + 1)) (cpS cs1 cs2 cs3 (k + 1)) = 0 := by rw [hc]; show (if _ then _ else _) = _; rw [if_pos rfl]
  have hw : wrapF .i64 ((j : Int) + 1 + 1) = (j : Int) + 2 := by rw [wrapF_in (by omega) (by omega)]; omega
  have hu : upA (AR n1 n2 k w s q ring (brM cs1 cs2 cs3 n1 n2 w s q ring j) ((j : Int) + 1)) = AR n1 n2 k w s q ring ((j : Int) + 2) 0 := by
    show AR n1 n2 k w s q ring (wrapF .i64 ((j : Int) + 1 + 1)) 0 = _
    rw [hw]
  have hf := ff_eq hS (D := (j : Int) + 2) (x' := (j : Int) + 2) (d' := 0) (by omega)
  rw [hb] at hf
  have hd : ¬ (j : Int) + 1 = 12 := by omega
  have hff : ffE (AR n1 n2 k w s q ring ((j : Int) + 2) 0) (cpS cs1 cs2 cs3 (k + 1)) ((j : Int) + 2) = 0 := hf
  have ed : (AR n1 n2 k w s q ring (brM cs1 cs2 cs3 n1 n2 w s q ring j) ((j : Int) + 1)).d = (j : Int) + 1 := rfl
  have ex : (AR n1 n2 k w s q ring ((j : Int) + 2) 0).x = (j : Int) + 2 := rfl
  unfold gZ gX gY pick3
  rw [hc', hu, ed, ex, if_pos rfl, if_neg hd, hff, if_pos rfl, if_neg hd, ok0, ok0, scB_AA, if_pos rfl, if_neg hd, show ((j : Int) + 2 - 1).toNat = j + 1 from by omega]
  exact ⟨rfl, rfl, rfl⟩
end
end Go.Proofs.YtbocpikgochioaaDoor.Ways
namespace Go.Proofs.YtbocpikgochioaaDoor.Ways
open Go Go.Ex
noncomputable def BF1 : Code := bodyL Tryd.f6 11
noncomputable def BF2 : Code := bodyL Tryd.f6 27
noncomputable def spFi : Nat → Nat → Split := at_ ([36, 76, 79, 82, 86, 89, 99, 107, 150, 153, 157, 161, 165, 170, 195, 222, 226, 231, 235, 238, 242, 248, 254, 263, 272].map fun x => (Fn.top_Finest, x)) .bool no_
section
variable (cs1 cs2 cs3 : List Value) (t1 s1 t2 s2 t3 s3 n1 n2 k : Nat) (w s q xa xb R D x n a b : Int)
noncomputable def hp18 : List (CO × Bool) := baseF n1 n2 k w s q xa xb cs1 t1 s1 cs2 t2 s2 cs3 t3 s3 ++ [(.dead, false), (.dead, false), (.dead, false), (.cells [i x, i n] 53 1 true, false), (.dead, false), (.dead, false), (.dead, false), (.cells [i a, i b] 53 1 true, false)]
noncomputable def L17 : LTab := regE noL Fn.top_Finest 17 277 24 OF17
  (liveF17 cs1 cs2 cs3 t1 s1 t2 s2 t3 s3 n1 n2 k w s q xa xb R D x n a b (loA (AR n1 n2 k w s q R x n) (cpS cs1 cs2 cs3 (k + 1))) 0 (loA (AR n1 n2 k w s q R (wrapF .i64 (x + 1)) n) (cpS cs1 cs2 cs3 (k + 1))) 0 (eA_ (AR n1 n2 k w s q R x n) (cpS cs1 cs2 cs3 (k + 1))) (eA_ (AR n1 n2 k w s q R (wrapF .i64 (x + 1)) n) (cpS cs1 cs2 cs3 (k + 1))) 0 0)
  (baseF17 cs1 cs2 cs3 t1 s1 t2 s2 t3 s3 n1 n2 k w s q xa xb R D x n a b 0 0 0 0 0 0 0)
  (.leaf (.ex .normal (tmL 277 (liveF17 cs1 cs2 cs3 t1 s1 t2 s2 t3 s3 n1 n2 k w s q xa xb R D x n a b (loA (AR n1 n2 k w s q R x n) (cpS cs1 cs2 cs3 (k + 1))) 0 (loA (AR n1 n2 k w s q R (wrapF .i64 (x + 1)) n) (cpS cs1 cs2 cs3 (k + 1))) 0 (eA_ (AR n1 n2 k w s q R x n) (cpS cs1 cs2 cs3 (k + 1))) (eA_ (AR n1 n2 k w s q R (wrapF .i64 (x + 1)) n) (cpS cs1 cs2 cs3 (k + 1))) 0 32767)) (heapL ((hpF17 cs1 cs2 cs3 t1 s1 t2 s2 t3 s3 n1 n2 k w s q xa xb R D x n a b (loA (AR n1 n2 k w s q R x n) (cpS cs1 cs2 cs3 (k + 1))) 0 (loA (AR n1 n2 k w s q R (wrapF .i64 (x + 1)) n) (cpS cs1 cs2 cs3 (k + 1))) 0 (eA_ (AR n1 n2 k w s q R x n) (cpS cs1 cs2 cs3 (k + 1))) (eA_ (AR n1 n2 k w s q R (wrapF .i64 (x + 1)) n) (cpS cs1 cs2 cs3 (k + 1))) 0 32767).map (·.1))) []))
end
def stF1 (R D n : Int) : List (Nat × Value) := [(3, pt 7 0), (4, pt 8 0), (7, i R), (8, i D), (9, pt 13 0), (11, pt 17 0), (13, i n)]
end Go.Proofs.YtbocpikgochioaaDoor.Ways
namespace Go.Proofs.YtbocpikgochioaaDoor.Ways
open Go Go.Ex
section
variable {cs1 cs2 cs3 : List Value} {t1 s1 t2 s2 t3 s3 n1 n2 k : Nat} {w s q xa xb R D x a b : Int}
theorem flat18 {n : Int} (f1 : cs1.all Ex.flat = true) (f2 : cs2.all Ex.flat = true) (f3 : cs3.all Ex.flat = true) : ∀ o, (o, true) ∈ hp18 cs1 cs2 cs3 t1 s1 t2 s2 t3 s3 n1 n2 k w s q xa xb x n a b → FlatO o := by
  intro o ho
  unfold hp18 baseF at ho
  simp only [List.cons_append, List.nil_append, List.mem_cons, List.not_mem_nil, or_false, Prod.mk.injEq, Bool.true_eq_false, and_false, false_or] at ho
  rcases ho with ⟨rfl, _⟩ | ⟨rfl, _⟩ | ⟨rfl, _⟩ | ⟨rfl, _⟩
  · exact flatO_of flatP
  · exact flatO_of f1
  · exact flatO_of f2
  · exact flatO_of f3
theorem g17 (cs1 cs2 cs3 : List Value) (t1 s1 t2 s2 t3 s3 n1 n2 k : Nat) (w s q xa xb R D x n a b F0 F1 G0 G1 e6 e7 S : Int) : goodR 24 24 (liveF17 cs1 cs2 cs3 t1 s1 t2 s2 t3 s3 n1 n2 k w s q xa xb R D x n a b F0 F1 G0 G1 e6 e7 S 0) (baseF17 cs1 cs2 cs3 t1 s1 t2 s2 t3 s3 n1 n2 k w s q xa xb R D x n a b F0 F1 G0 G1 e6 e7 S) (List.range 24) = true := by kernel_rfl
theorem ls17 {n : Int} (f1 : cs1.all Ex.flat = true) (f2 : cs2.all Ex.flat = true) (f3 : cs3.all Ex.flat = true) (h1 : okCp (argA n1 n2 (k + 1)) cs1 cs2 cs3) (h2 : okP (AR n1 n2 k w s q R x n) (cpS cs1 cs2 cs3 (k + 1))) : LSound Tryd.prog 7 (L17 cs1 cs2 cs3 t1 s1 t2 s2 t3 s3 n1 n2 k w s q xa xb R D x n a b) := by
  refine LSound.region .none (g17 ..) (fbF17 (F0 := 0) (F1 := 0) (G0 := 0) (G1 := 0) (e6 := 0) (e7 := 0) (S := 0) f1 f2 f3) fun r hr ro tm0 H0 hk hst => ?_
  cases hr
  exact sndF17 f1 f2 f3 h1 h2 ro hk hst
theorem fend1 (f1 : cs1.all Ex.flat = true) (f2 : cs2.all Ex.flat = true) (f3 : cs3.all Ex.flat = true) (ro : Option Nat) (n : Int) (hn : ¬ n < D) :
    ∃ tm1 H1, Sound Tryd.prog 7 (.code BF1 ro (absT (tmL 277 (stF1 R D n))) (heapL ((hp18 cs1 cs2 cs3 t1 s1 t2 s2 t3 s3 n1 n2 k w s q xa xb x n a b).map (·.1))) []) (.ex (.exit 0) tm1 H1 []) ∧ Restate 18 tm1 H1 (absT (tmL 277 (stF1 R D n))) (heapL ((hp18 cs1 cs2 cs3 t1 s1 t2 s2 t3 s3 n1 n2 k w s q xa xb x n a b).map (·.1))) := by
  have hq : [ltF n D] = List.take [ltF n D].length [false] := by
    have g1 : ltF n D = false := by rw [ltF_eq]; exact decide_eq_false hn
    rw [g1]; rfl
  have hk := round_of (P := Tryd.prog) (G := 7) (C := ⟨TU1, at_ [(Fn.top_Finest, 93)] (.ints []) spFi, off_, noL⟩) (n := 60) (f := Fn.top_Finest) (b := BF1) (ro := ro) (tm := tmL 277 (stF1 R D n)) (H := heapL ((hp18 cs1 cs2 cs3 t1 s1 t2 s2 t3 s3 n1 n2 k w s q xa xb x n a b).map (·.1))) (df := []) (df1 := []) (k := 18) (N := 277) (len := 18) (x := .exit 0) (List.range 18) (stF1 R D n) (hp18 cs1 cs2 cs3 t1 s1 t2 s2 t3 s3 n1 n2 k w s q xa xb x n a b) [false] [ltF n D] tsU1 .none (by kernel_rfl) (by kernel_rfl) hq (by kernel_rfl) (flat18 f1 f2 f3)
  exact hk
theorem fround1 (f1 : cs1.all Ex.flat = true) (f2 : cs2.all Ex.flat = true) (f3 : cs3.all Ex.flat = true) (ro : Option Nat) (h1 : okCp (argA n1 n2 (k + 1)) cs1 cs2 cs3) (h2 : okP (AR n1 n2 k w s q R x 1) (cpS cs1 cs2 cs3 (k + 1))) (h3 : okP (AR n1 n2 k w s q R (wrapF .i64 (x + 1)) 1) (cpS cs1 cs2 cs3 (k + 1))) (hn : (1 : Int) < D) (hx : 0 ≤ x) (hx2 : x < 1) (e3 : eA_ (AR n1 n2 k w s q R x 1) (cpS cs1 cs2 cs3 (k + 1)) = 0) (e4 : eA_ (AR n1 n2 k w s q R (wrapF .i64 (x + 1)) 1) (cpS cs1 cs2 cs3 (k + 1)) = 0) (e5 : gZ (AR n1 n2 k w s q R x 1) (cpS cs1 cs2 cs3 (k + 1)) = 0) (lo : loA (AR n1 n2 k w s q R x 1) (cpS cs1 cs2 cs3 (k + 1)) ≤ 0) (hi : 0 < loA (AR n1 n2 k w s q R (wrapF .i64 (x + 1)) 1) (cpS cs1 cs2 cs3 (k + 1))) :
    ∃ tm1 H1, Sound Tryd.prog 7 (.code BF1 ro (absT (tmL 277 (stF1 R D 1))) (heapL ((hp18 cs1 cs2 cs3 t1 s1 t2 s2 t3 s3 n1 n2 k w s q xa xb x 1 a b).map (·.1))) []) (.ex .normal tm1 H1 []) ∧ Restate 18 tm1 H1 (absT (tmL 277 (stF1 R D 2))) (heapL ((hp18 cs1 cs2 cs3 t1 s1 t2 s2 t3 s3 n1 n2 k w s q xa xb (gX (AR n1 n2 k w s q R x 1) (cpS cs1 cs2 cs3 (k + 1))) (gY (AR n1 n2 k w s q R x 1) (cpS cs1 cs2 cs3 (k + 1))) a b).map (·.1))) := by
  have hq : [ltF 1 D, ltF x 0, leF 1 x, tru (okCp (argA n1 n2 (k + 1)) cs1 cs2 cs3), tru (okP (AR n1 n2 k w s q R x 1) (cpS cs1 cs2 cs3 (k + 1))), tru (okCp (argA n1 n2 (k + 1)) cs1 cs2 cs3), tru (okP (AR n1 n2 k w s q R (wrapF .i64 (x + 1)) 1) (cpS cs1 cs2 cs3 (k + 1))), !eqF (eA_ (AR n1 n2 k w s q R x 1) (cpS cs1 cs2 cs3 (k + 1))) 0, !eqF (eA_ (AR n1 n2 k w s q R (wrapF .i64 (x + 1)) 1) (cpS cs1 cs2 cs3 (k + 1))) 0, !eqF (gZ (AR n1 n2 k w s q R x 1) (cpS cs1 cs2 cs3 (k + 1))) 0, ltF 0 (loA (AR n1 n2 k w s q R x 1) (cpS cs1 cs2 cs3 (k + 1))), leF (loA (AR n1 n2 k w s q R (wrapF .i64 (x + 1)) 1) (cpS cs1 cs2 cs3 (k + 1))) 0] = List.take [ltF 1 D, ltF x 0, leF 1 x, tru (okCp (argA n1 n2 (k + 1)) cs1 cs2 cs3), tru (okP (AR n1 n2 k w s q R x 1) (cpS cs1 cs2 cs3 (k + 1))), tru (okCp (argA n1 n2 (k + 1)) cs1 cs2 cs3), tru (okP (AR n1 n2 k w s q R (wrapF .i64 (x + 1)) 1) (cpS cs1 cs2 cs3 (k + 1))), !eqF (eA_ (AR n1 n2 k w s q R x 1) (cpS cs1 cs2 cs3 (k + 1))) 0, !eqF (eA_ (AR n1 n2 k w s q R (wrapF .i64 (x + 1)) 1) (cpS cs1 cs2 cs3 (k + 1))) 0, !eqF (gZ (AR n1 n2 k w s q R x 1) (cpS cs1 cs2 cs3 (k + 1))) 0, ltF 0 (loA (AR n1 n2 k w s q R x 1) (cpS cs1 cs2 cs3 (k + 1))), leF (loA (AR n1 n2 k w s q R (wrapF .i64 (x + 1)) 1) (cpS cs1 cs2 cs3 (k + 1))) 0].length [true, false, false, true, true, true, true, false, false, false, false, false] := by
    rw [tru_iff.2 h1, tru_iff.2 h2, tru_iff.2 h3, e3, e4, e5, ltF_eq, ltF_eq, ltF_eq, leF_eq, leF_eq, decide_eq_true hn, decide_eq_false (show ¬ x < 0 by omega), decide_eq_false (show ¬ (1 : Int) ≤ x by omega), decide_eq_false (show ¬ 0 < loA (AR n1 n2 k w s q R x 1) (cpS cs1 cs2 cs3 (k + 1)) by omega), decide_eq_false (show ¬ loA (AR n1 n2 k w s q R (wrapF .i64 (x + 1)) 1) (cpS cs1 cs2 cs3 (k + 1)) ≤ 0 by omega)]
    rfl
  have hk := round_of (P := Tryd.prog) (G := 7) (C := ⟨TU1, spFi, off_, L17 cs1 cs2 cs3 t1 s1 t2 s2 t3 s3 n1 n2 k w s q xa xb R D x 1 a b⟩) (n := 60) (f := Fn.top_Finest) (b := BF1) (ro := ro) (tm := tmL 277 (stF1 R D 1)) (H := heapL ((hp18 cs1 cs2 cs3 t1 s1 t2 s2 t3 s3 n1 n2 k w s q xa xb x 1 a b).map (·.1))) (df := []) (df1 := []) (k := 18) (N := 277) (len := 28) (x := .normal) (List.range 18) (stF1 R D 2) (hp18 cs1 cs2 cs3 t1 s1 t2 s2 t3 s3 n1 n2 k w s q xa xb (gX (AR n1 n2 k w s q R x 1) (cpS cs1 cs2 cs3 (k + 1))) (gY (AR n1 n2 k w s q R x 1) (cpS cs1 cs2 cs3 (k + 1))) a b) [true, false, false, true, true, true, true, false, false, false, false, false] [ltF 1 D, ltF x 0, leF 1 x, tru (okCp (argA n1 n2 (k + 1)) cs1 cs2 cs3), tru (okP (AR n1 n2 k w s q R x 1) (cpS cs1 cs2 cs3 (k + 1))), tru (okCp (argA n1 n2 (k + 1)) cs1 cs2 cs3), tru (okP (AR n1 n2 k w s q R (wrapF .i64 (x + 1)) 1) (cpS cs1 cs2 cs3 (k + 1))), !eqF (eA_ (AR n1 n2 k w s q R x 1) (cpS cs1 cs2 cs3 (k + 1))) 0, !eqF (eA_ (AR n1 n2 k w s q R (wrapF .i64 (x + 1)) 1) (cpS cs1 cs2 cs3 (k + 1))) 0, !eqF (gZ (AR n1 n2 k w s q R x 1) (cpS cs1 cs2 cs3 (k + 1))) 0, ltF 0 (loA (AR n1 n2 k w s q R x 1) (cpS cs1 cs2 cs3 (k + 1))), leF (loA (AR n1 n2 k w s q R (wrapF .i64 (x + 1)) 1) (cpS cs1 cs2 cs3 (k + 1))) 0] tsU1 (ls17 f1 f2 f3 h1 h2) (by kernel_rfl) (by kernel_rfl) hq (by kernel_rfl) (flat18 f1 f2 f3)
  exact hk
theorem fround2 (f1 : cs1.all Ex.flat = true) (f2 : cs2.all Ex.flat = true) (f3 : cs3.all Ex.flat = true) (ro : Option Nat) (h1 : okCp (argA n1 n2 (k + 1)) cs1 cs2 cs3) (h2 : okP (AR n1 n2 k w s q R x 2) (cpS cs1 cs2 cs3 (k + 1))) (h3 : okP (AR n1 n2 k w s q R (wrapF .i64 (x + 1)) 2) (cpS cs1 cs2 cs3 (k + 1))) (hn : (2 : Int) < D) (hx : 0 ≤ x) (hx2 : x < 2) (e3 : eA_ (AR n1 n2 k w s q R x 2) (cpS cs1 cs2 cs3 (k + 1)) = 0) (e4 : eA_ (AR n1 n2 k w s q R (wrapF .i64 (x + 1)) 2) (cpS cs1 cs2 cs3 (k + 1)) = 0) (e5 : gZ (AR n1 n2 k w s q R x 2) (cpS cs1 cs2 cs3 (k + 1)) = 0) (lo : loA (AR n1 n2 k w s q R x 2) (cpS cs1 cs2 cs3 (k + 1)) ≤ 0) (hi : 0 < loA (AR n1 n2 k w s q R (wrapF .i64 (x + 1)) 2) (cpS cs1 cs2 cs3 (k + 1))) :
    ∃ tm1 H1, Sound Tryd.prog 7 (.code BF1 ro (absT (tmL 277 (stF1 R D 2))) (heapL ((hp18 cs1 cs2 cs3 t1 s1 t2 s2 t3 s3 n1 n2 k w s q xa xb x 2 a b).map (·.1))) []) (.ex .normal tm1 H1 []) ∧ Restate 18 tm1 H1 (absT (tmL 277 (stF1 R D 3))) (heapL ((hp18 cs1 cs2 cs3 t1 s1 t2 s2 t3 s3 n1 n2 k w s q xa xb (gX (AR n1 n2 k w s q R x 2) (cpS cs1 cs2 cs3 (k + 1))) (gY (AR n1 n2 k w s q R x 2) (cpS cs1 cs2 cs3 (k + 1))) a b).map (·.1))) := by
  have hq : [ltF 2 D, ltF x 0, leF 2 x, tru (okCp (argA n1 n2 (k + 1)) cs1 cs2 cs3), tru (okP (AR n1 n2 k w s q R x 2) (cpS cs1 cs2 cs3 (k + 1))), tru (okCp (argA n1 n2 (k + 1)) cs1 cs2 cs3), tru (okP (AR n1 n2 k w s q R (wrapF .i64 (x + 1)) 2) (cpS cs1 cs2 cs3 (k + 1))), !eqF (eA_ (AR n1 n2 k w s q R x 2) (cpS cs1 cs2 cs3 (k + 1))) 0, !eqF (eA_ (AR n1 n2 k w s q R (wrapF .i64 (x + 1)) 2) (cpS cs1 cs2 cs3 (k + 1))) 0, !eqF (gZ (AR n1 n2 k w s q R x 2) (cpS cs1 cs2 cs3 (k + 1))) 0, ltF 0 (loA (AR n1 n2 k w s q R x 2) (cpS cs1 cs2 cs3 (k + 1))), leF (loA (AR n1 n2 k w s q R (wrapF .i64 (x + 1)) 2) (cpS cs1 cs2 cs3 (k + 1))) 0] = List.take [ltF 2 D, ltF x 0, leF 2 x, tru (okCp (argA n1 n2 (k + 1)) cs1 cs2 cs3), tru (okP (AR n1 n2 k w s q R x 2) (cpS cs1 cs2 cs3 (k + 1))), tru (okCp (argA n1 n2 (k + 1)) cs1 cs2 cs3), tru (okP (AR n1 n2 k w s q R (wrapF .i64 (x + 1)) 2) (cpS cs1 cs2 cs3 (k + 1))), !eqF (eA_ (AR n1 n2 k w s q R x 2) (cpS cs1 cs2 cs3 (k + 1))) 0, !eqF (eA_ (AR n1 n2 k w s q R (wrapF .i64 (x + 1)) 2) (cpS cs1 cs2 cs3 (k + 1))) 0, !eqF (gZ (AR n1 n2 k w s q R x 2) (cpS cs1 cs2 cs3 (k + 1))) 0, ltF 0 (loA (AR n1 n2 k w s q R x 2) (cpS cs1 cs2 cs3 (k + 1))), leF (loA (AR n1 n2 k w s q R (wrapF .i64 (x + 1)) 2) (cpS cs1 cs2 cs3 (k + 1))) 0].length [true, false, false, true, true, true, true, false, false, false, false, false] := by
    rw [tru_iff.2 h1, tru_iff.2 h2, tru_iff.2 h3, e3, e4, e5, ltF_eq, ltF_eq, ltF_eq, leF_eq, leF_eq, decide_eq_true hn, decide_eq_false (show ¬ x < 0 by omega), decide_eq_false (show ¬ (2 : Int) ≤ x by omega), decide_eq_false (show ¬ 0 < loA (AR n1 n2 k w s q R x 2) (cpS cs1 cs2 cs3 (k + 1)) by omega), decide_eq_false (show ¬ loA (AR n1 n2 k w s q R (wrapF .i64 (x + 1)) 2) (cpS cs1 cs2 cs3 (k + 1)) ≤ 0 by omega)]
    rfl
  have hk := round_of (P := Tryd.prog) (G := 7) (C := ⟨TU1, spFi, off_, L17 cs1 cs2 cs3 t1 s1 t2 s2 t3 s3 n1 n2 k w s q xa xb R D x 2 a b⟩) (n := 60) (f := Fn.top_Finest) (b := BF1) (ro := ro) (tm := tmL 277 (stF1 R D 2)) (H := heapL ((hp18 cs1 cs2 cs3 t1 s1 t2 s2 t3 s3 n1 n2 k w s q xa xb x 2 a b).map (·.1))) (df := []) (df1 := []) (k := 18) (N := 277) (len := 28) (x := .normal) (List.range 18) (stF1 R D 3) (hp18 cs1 cs2 cs3 t1 s1 t2 s2 t3 s3 n1 n2 k w s q xa xb (gX (AR n1 n2 k w s q R x 2) (cpS cs1 cs2 cs3 (k + 1))) (gY (AR n1 n2 k w s q R x 2) (cpS cs1 cs2 cs3 (k + 1))) a b) [true, false, false, true, true, true, true, false, false, false, false, false] [ltF 2 D, ltF x 0, leF 2 x, tru (okCp (argA n1 n2 (k + 1)) cs1 cs2 cs3), tru (okP (AR n1 n2 k w s q R x 2) (cpS cs1 cs2 cs3 (k + 1))), tru (okCp (argA n1 n2 (k + 1)) cs1 cs2 cs3), tru (okP (AR n1 n2 k w s q R (wrapF .i64 (x + 1)) 2) (cpS cs1 cs2 cs3 (k + 1))), !eqF (eA_ (AR n1 n2 k w s q R x 2) (cpS cs1 cs2 cs3 (k + 1))) 0, !eqF (eA_ (AR n1 n2 k w s q R (wrapF .i64 (x + 1)) 2) (cpS cs1 cs2 cs3 (k + 1))) 0, !eqF (gZ (AR n1 n2 k w s q R x 2) (cpS cs1 cs2 cs3 (k + 1))) 0, ltF 0 (loA (AR n1 n2 k w s q R x 2) (cpS cs1 cs2 cs3 (k + 1))), leF (loA (AR n1 n2 k w s q R (wrapF .i64 (x + 1)) 2) (cpS cs1 cs2 cs3 (k + 1))) 0] tsU1 (ls17 f1 f2 f3 h1 h2) (by kernel_rfl) (by kernel_rfl) hq (by kernel_rfl) (flat18 f1 f2 f3)
  exact hk
theorem fround3 (f1 : cs1.all Ex.flat = true) (f2 : cs2.all Ex.flat = true) (f3 : cs3.all Ex.flat = true) (ro : Option Nat) (h1 : okCp (argA n1 n2 (k + 1)) cs1 cs2 cs3) (h2 : okP (AR n1 n2 k w s q R x 3) (cpS cs1 cs2 cs3 (k + 1))) (h3 : okP (AR n1 n2 k w s q R (wrapF .i64 (x + 1)) 3) (cpS cs1 cs2 cs3 (k + 1))) (hn : (3 : Int) < D) (hx : 0 ≤ x) (hx2 : x < 4) (e3 : eA_ (AR n1 n2 k w s q R x 3) (cpS cs1 cs2 cs3 (k + 1)) = 0) (e4 : eA_ (AR n1 n2 k w s q R (wrapF .i64 (x + 1)) 3) (cpS cs1 cs2 cs3 (k + 1)) = 0) (e5 : gZ (AR n1 n2 k w s q R x 3) (cpS cs1 cs2 cs3 (k + 1)) = 0) (lo : loA (AR n1 n2 k w s q R x 3) (cpS cs1 cs2 cs3 (k + 1)) ≤ 0) (hi : 0 < loA (AR n1 n2 k w s q R (wrapF .i64 (x + 1)) 3) (cpS cs1 cs2 cs3 (k + 1))) :
    ∃ tm1 H1, Sound Tryd.prog 7 (.code BF1 ro (absT (tmL 277 (stF1 R D 3))) (heapL ((hp18 cs1 cs2 cs3 t1 s1 t2 s2 t3 s3 n1 n2 k w s q xa xb x 3 a b).map (·.1))) []) (.ex .normal tm1 H1 []) ∧ Restate 18 tm1 H1 (absT (tmL 277 (stF1 R D 4))) (heapL ((hp18 cs1 cs2 cs3 t1 s1 t2 s2 t3 s3 n1 n2 k w s q xa xb (gX (AR n1 n2 k w s q R x 3) (cpS cs1 cs2 cs3 (k + 1))) (gY (AR n1 n2 k w s q R x 3) (cpS cs1 cs2 cs3 (k + 1))) a b).map (·.1))) := by
  have hq : [ltF 3 D, ltF x 0, leF 4 x, tru (okCp (argA n1 n2 (k + 1)) cs1 cs2 cs3), tru (okP (AR n1 n2 k w s q R x 3) (cpS cs1 cs2 cs3 (k + 1))), tru (okCp (argA n1 n2 (k + 1)) cs1 cs2 cs3), tru (okP (AR n1 n2 k w s q R (wrapF .i64 (x + 1)) 3) (cpS cs1 cs2 cs3 (k + 1))), !eqF (eA_ (AR n1 n2 k w s q R x 3) (cpS cs1 cs2 cs3 (k + 1))) 0, !eqF (eA_ (AR n1 n2 k w s q R (wrapF .i64 (x + 1)) 3) (cpS cs1 cs2 cs3 (k + 1))) 0, !eqF (gZ (AR n1 n2 k w s q R x 3) (cpS cs1 cs2 cs3 (k + 1))) 0, ltF 0 (loA (AR n1 n2 k w s q R x 3) (cpS cs1 cs2 cs3 (k + 1))), leF (loA (AR n1 n2 k w s q R (wrapF .i64 (x + 1)) 3) (cpS cs1 cs2 cs3 (k + 1))) 0] = List.take [ltF 3 D, ltF x 0, leF 4 x, tru (okCp (argA n1 n2 (k + 1)) cs1 cs2 cs3), tru (okP (AR n1 n2 k w s q R x 3) (cpS cs1 cs2 cs3 (k + 1))), tru (okCp (argA n1 n2 (k + 1)) cs1 cs2 cs3), tru (okP (AR n1 n2 k w s q R (wrapF .i64 (x + 1)) 3) (cpS cs1 cs2 cs3 (k + 1))), !eqF (eA_ (AR n1 n2 k w s q R x 3) (cpS cs1 cs2 cs3 (k + 1))) 0, !eqF (eA_ (AR n1 n2 k w s q R (wrapF .i64 (x + 1)) 3) (cpS cs1 cs2 cs3 (k + 1))) 0, !eqF (gZ (AR n1 n2 k w s q R x 3) (cpS cs1 cs2 cs3 (k + 1))) 0, ltF 0 (loA (AR n1 n2 k w s q R x 3) (cpS cs1 cs2 cs3 (k + 1))), leF (loA (AR n1 n2 k w s q R (wrapF .i64 (x + 1)) 3) (cpS cs1 cs2 cs3 (k + 1))) 0].length [true, false, false, true, true, true, true, false, false, false, false, false] := by
    rw [tru_iff.2 h1, tru_iff.2 h2, tru_iff.2 h3, e3, e4, e5, ltF_eq, ltF_eq, ltF_eq, leF_eq, leF_eq, decide_eq_true hn, decide_eq_false (show ¬ x < 0 by omega), decide_eq_false (show ¬ (4 : Int) ≤ x by omega), decide_eq_false (show ¬ 0 < loA (AR n1 n2 k w s q R x 3) (cpS cs1 cs2 cs3 (k + 1)) by omega), decide_eq_false (show ¬ loA (AR n1 n2 k w s q R (wrapF .i64 (x + 1)) 3) (cpS cs1 cs2 cs3 (k + 1)) ≤ 0 by omega)]
    rfl
  have hk := round_of (P := Tryd.prog) (G := 7) (C := ⟨TU1, spFi, off_, L17 cs1 cs2 cs3 t1 s1 t2 s2 t3 s3 n1 n2 k w s q xa xb R D x 3 a b⟩) (n := 60) (f := Fn.top_Finest) (b := BF1) (ro := ro) (tm := tmL 277 (stF1 R D 3)) (H := heapL ((hp18 cs1 cs2 cs3 t1 s1 t2 s2 t3 s3 n1 n2 k w s q xa xb x 3 a b).map (·.1))) (df := []) (df1 := []) (k := 18) (N := 277) (len := 28) (x := .normal) (List.range 18) (stF1 R D 4) (hp18 cs1 cs2 cs3 t1 s1 t2 s2 t3 s3 n1 n2 k w s q xa xb (gX (AR n1 n2 k w s q R x 3) (cpS cs1 cs2 cs3 (k + 1))) (gY (AR n1 n2 k w s q R x 3) (cpS cs1 cs2 cs3 (k + 1))) a b) [true, false, false, true, true, true, true, false, false, false, false, false] [ltF 3 D, ltF x 0, leF 4 x, tru (okCp (argA n1 n2 (k + 1)) cs1 cs2 cs3), tru (okP (AR n1 n2 k w s q R x 3) (cpS cs1 cs2 cs3 (k + 1))), tru (okCp (argA n1 n2 (k + 1)) cs1 cs2 cs3), tru (okP (AR n1 n2 k w s q R (wrapF .i64 (x + 1)) 3) (cpS cs1 cs2 cs3 (k + 1))), !eqF (eA_ (AR n1 n2 k w s q R x 3) (cpS cs1 cs2 cs3 (k + 1))) 0, !eqF (eA_ (AR n1 n2 k w s q R (wrapF .i64 (x + 1)) 3) (cpS cs1 cs2 cs3 (k + 1))) 0, !eqF (gZ (AR n1 n2 k w s q R x 3) (cpS cs1 cs2 cs3 (k + 1))) 0, ltF 0 (loA (AR n1 n2 k w s q R x 3) (cpS cs1 cs2 cs3 (k + 1))), leF (loA (AR n1 n2 k w s q R (wrapF .i64 (x + 1)) 3) (cpS cs1 cs2 cs3 (k + 1))) 0] tsU1 (ls17 f1 f2 f3 h1 h2) (by kernel_rfl) (by kernel_rfl) hq (by kernel_rfl) (flat18 f1 f2 f3)
  exact hk
theorem fround4 (f1 : cs1.all Ex.flat = true) (f2 : cs2.all Ex.flat = true) (f3 : cs3.all Ex.flat = true) (ro : Option Nat) (h1 : okCp (argA n1 n2 (k + 1)) cs1 cs2 cs3) (h2 : okP (AR n1 n2 k w s q R x 4) (cpS cs1 cs2 cs3 (k + 1))) (h3 : okP (AR n1 n2 k w s q R (wrapF .i64 (x + 1)) 4) (cpS cs1 cs2 cs3 (k + 1))) (hn : (4 : Int) < D) (hx : 0 ≤ x) (hx2 : x < 8) (e3 : eA_ (AR n1 n2 k w s q R x 4) (cpS cs1 cs2 cs3 (k + 1)) = 0) (e4 : eA_ (AR n1 n2 k w s q R (wrapF .i64 (x + 1)) 4) (cpS cs1 cs2 cs3 (k + 1)) = 0) (e5 : gZ (AR n1 n2 k w s q R x 4) (cpS cs1 cs2 cs3 (k + 1)) = 0) (lo : loA (AR n1 n2 k w s q R x 4) (cpS cs1 cs2 cs3 (k + 1)) ≤ 0) (hi : 0 < loA (AR n1 n2 k w s q R (wrapF .i64 (x + 1)) 4) (cpS cs1 cs2 cs3 (k + 1))) :
    ∃ tm1 H1, Sound Tryd.prog 7 (.code BF1 ro (absT (tmL 277 (stF1 R D 4))) (heapL ((hp18 cs1 cs2 cs3 t1 s1 t2 s2 t3 s3 n1 n2 k w s q xa xb x 4 a b).map (·.1))) []) (.ex .normal tm1 H1 []) ∧ Restate 18 tm1 H1 (absT (tmL 277 (stF1 R D 5))) (heapL ((hp18 cs1 cs2 cs3 t1 s1 t2 s2 t3 s3 n1 n2 k w s q xa xb (gX (AR n1 n2 k w s q R x 4) (cpS cs1 cs2 cs3 (k + 1))) (gY (AR n1 n2 k w s q R x 4) (cpS cs1 cs2 cs3 (k + 1))) a b).map (·.1))) := by
  have hq : [ltF 4 D, ltF x 0, leF 8 x, tru (okCp (argA n1 n2 (k + 1)) cs1 cs2 cs3), tru (okP (AR n1 n2 k w s q R x 4) (cpS cs1 cs2 cs3 (k + 1))), tru (okCp (argA n1 n2 (k + 1)) cs1 cs2 cs3), tru (okP (AR n1 n2 k w s q R (wrapF .i64 (x + 1)) 4) (cpS cs1 cs2 cs3 (k + 1))), !eqF (eA_ (AR n1 n2 k w s q R x 4) (cpS cs1 cs2 cs3 (k + 1))) 0, !eqF (eA_ (AR n1 n2 k w s q R (wrapF .i64 (x + 1)) 4) (cpS cs1 cs2 cs3 (k + 1))) 0, !eqF (gZ (AR n1 n2 k w s q R x 4) (cpS cs1 cs2 cs3 (k + 1))) 0, ltF 0 (loA (AR n1 n2 k w s q R x 4) (cpS cs1 cs2 cs3 (k + 1))), leF (loA (AR n1 n2 k w s q R (wrapF .i64 (x + 1)) 4) (cpS cs1 cs2 cs3 (k + 1))) 0] = List.take [ltF 4 D, ltF x 0, leF 8 x, tru (okCp (argA n1 n2 (k + 1)) cs1 cs2 cs3), tru (okP (AR n1 n2 k w s q R x 4) (cpS cs1 cs2 cs3 (k + 1))), tru (okCp (argA n1 n2 (k + 1)) cs1 cs2 cs3), tru (okP (AR n1 n2 k w s q R (wrapF .i64 (x + 1)) 4) (cpS cs1 cs2 cs3 (k + 1))), !eqF (eA_ (AR n1 n2 k w s q R x 4) (cpS cs1 cs2 cs3 (k + 1))) 0, !eqF (eA_ (AR n1 n2 k w s q R (wrapF .i64 (x + 1)) 4) (cpS cs1 cs2 cs3 (k + 1))) 0, !eqF (gZ (AR n1 n2 k w s q R x 4) (cpS cs1 cs2 cs3 (k + 1))) 0, ltF 0 (loA (AR n1 n2 k w s q R x 4) (cpS cs1 cs2 cs3 (k + 1))), leF (loA (AR n1 n2 k w s q R (wrapF .i64 (x + 1)) 4) (cpS cs1 cs2 cs3 (k + 1))) 0].length [true, false, false, true, true, true, true, false, false, false, false, false] := by
    rw [tru_iff.2 h1, tru_iff.2 h2, tru_iff.2 h3, e3, e4, e5, ltF_eq, ltF_eq, ltF_eq, leF_eq, leF_eq, decide_eq_true hn, decide_eq_false (show ¬ x < 0 by omega), decide_eq_false (show ¬ (8 : Int) ≤ x by omega), decide_eq_false (show ¬ 0 < loA (AR n1 n2 k w s q R x 4) (cpS cs1 cs2 cs3 (k + 1)) by omega), decide_eq_false (show ¬ loA (AR n1 n2 k w s q R (wrapF .i64 (x + 1)) 4) (cpS cs1 cs2 cs3 (k + 1)) ≤ 0 by omega)]
    rfl
  have hk := round_of (P := Tryd.prog) (G := 7) (C := ⟨TU1, spFi, off_, L17 cs1 cs2 cs3 t1 s1 t2 s2 t3 s3 n1 n2 k w s q xa xb R D x 4 a b⟩) (n := 60) (f := Fn.top_Finest) (b := BF1) (ro := ro) (tm := tmL 277 (stF1 R D 4)) (H := heapL ((hp18 cs1 cs2 cs3 t1 s1 t2 s2 t3 s3 n1 n2 k w s q xa xb x 4 a b).map (·.1))) (df := []) (df1 := []) (k := 18) (N := 277) (len := 28) (x := .normal) (List.range 18) (stF1 R D 5) (hp18 cs1 cs2 cs3 t1 s1 t2 s2 t3 s3 n1 n2 k w s q xa xb (gX (AR n1 n2 k w s q R x 4) (cpS cs1 cs2 cs3 (k + 1))) (gY (AR n1 n2 k w s q R x 4) (cpS cs1 cs2 cs3 (k + 1))) a b) [true, false, false, true, true, true, true, false, false, false, false, false] [ltF 4 D, ltF x 0, leF 8 x, tru (okCp (argA n1 n2 (k + 1)) cs1 cs2 cs3), tru (okP (AR n1 n2 k w s q R x 4) (cpS cs1 cs2 cs3 (k + 1))), tru (okCp (argA n1 n2 (k + 1)) cs1 cs2 cs3), tru (okP (AR n1 n2 k w s q R (wrapF .i64 (x + 1)) 4) (cpS cs1 cs2 cs3 (k + 1))), !eqF (eA_ (AR n1 n2 k w s q R x 4) (cpS cs1 cs2 cs3 (k + 1))) 0, !eqF (eA_ (AR n1 n2 k w s q R (wrapF .i64 (x + 1)) 4) (cpS cs1 cs2 cs3 (k + 1))) 0, !eqF (gZ (AR n1 n2 k w s q R x 4) (cpS cs1 cs2 cs3 (k + 1))) 0, ltF 0 (loA (AR n1 n2 k w s q R x 4) (cpS cs1 cs2 cs3 (k + 1))), leF (loA (AR n1 n2 k w s q R (wrapF .i64 (x + 1)) 4) (cpS cs1 cs2 cs3 (k + 1))) 0] tsU1 (ls17 f1 f2 f3 h1 h2) (by kernel_rfl) (by kernel_rfl) hq (by kernel_rfl) (flat18 f1 f2 f3)
  exact hk
theorem fround5 (f1 : cs1.all Ex.flat = true) (f2 : cs2.all Ex.flat = true) (f3 : cs3.all Ex.flat = true) (ro : Option Nat) (h1 : okCp (argA n1 n2 (k + 1)) cs1 cs2 cs3) (h2 : okP (AR n1 n2 k w s q R x 5) (cpS cs1 cs2 cs3 (k + 1))) (h3 : okP (AR n1 n2 k w s q R (wrapF .i64 (x + 1)) 5) (cpS cs1 cs2 cs3 (k + 1))) (hn : (5 : Int) < D) (hx : 0 ≤ x) (hx2 : x < 16) (e3 : eA_ (AR n1 n2 k w s q R x 5) (cpS cs1 cs2 cs3 (k + 1)) = 0) (e4 : eA_ (AR n1 n2 k w s q R (wrapF .i64 (x + 1)) 5) (cpS cs1 cs2 cs3 (k + 1)) = 0) (e5 : gZ (AR n1 n2 k w s q R x 5) (cpS cs1 cs2 cs3 (k + 1)) = 0) (lo : loA (AR n1 n2 k w s q R x 5) (cpS cs1 cs2 cs3 (k + 1)) ≤ 0) (hi : 0 < loA (AR n1 n2 k w s q R (wrapF .i64 (x + 1)) 5) (cpS cs1 cs2 cs3 (k + 1))) :
    ∃ tm1 H1, Sound Tryd.prog 7 (.code BF1 ro (absT (tmL 277 (stF1 R D 5))) (heapL ((hp18 cs1 cs2 cs3 t1 s1 t2 s2 t3 s3 n1 n2 k w s q xa xb x 5 a b).map (·.1))) []) (.ex .normal tm1 H1 []) ∧ Restate 18 tm1 H1 (absT (tmL 277 (stF1 R D 6))) (heapL ((hp18 cs1 cs2 cs3 t1 s1 t2 s2 t3 s3 n1 n2 k w s q xa xb (gX (AR n1 n2 k w s q R x 5) (cpS cs1 cs2 cs3 (k + 1))) (gY (AR n1 n2 k w s q R x 5) (cpS cs1 cs2 cs3 (k + 1))) a b).map (·.1))) := by
  have hq : [ltF 5 D, ltF x 0, leF 16 x, tru (okCp (argA n1 n2 (k + 1)) cs1 cs2 cs3), tru (okP (AR n1 n2 k w s q R x 5) (cpS cs1 cs2 cs3 (k + 1))), tru (okCp (argA n1 n2 (k + 1)) cs1 cs2 cs3), tru (okP (AR n1 n2 k w s q R (wrapF .i64 (x + 1)) 5) (cpS cs1 cs2 cs3 (k + 1))), !eqF (eA_ (AR n1 n2 k w s q R x 5) (cpS cs1 cs2 cs3 (k + 1))) 0, !eqF (eA_ (AR n1 n2 k w s q R (wrapF .i64 (x + 1)) 5) (cpS cs1 cs2 cs3 (k + 1))) 0, !eqF (gZ (AR n1 n2 k w s q R x 5) (cpS cs1 cs2 cs3 (k + 1))) 0, ltF 0 (loA (AR n1 n2 k w s q R x 5) (cpS cs1 cs2 cs3 (k + 1))), leF (loA (AR n1 n2 k w s q R (wrapF .i64 (x + 1)) 5) (cpS cs1 cs2 cs3 (k + 1))) 0] = List.take [ltF 5 D, ltF x 0, leF 16 x, tru (okCp (argA n1 n2 (k + 1)) cs1 cs2 cs3), tru (okP (AR n1 n2 k w s q R x 5) (cpS cs1 cs2 cs3 (k + 1))), tru (okCp (argA n1 n2 (k + 1)) cs1 cs2 cs3), tru (okP (AR n1 n2 k w s q R (wrapF .i64 (x + 1)) 5) (cpS cs1 cs2 cs3 (k + 1))), !eqF (eA_ (AR n1 n2 k w s q R x 5) (cpS cs1 cs2 cs3 (k + 1))) 0, !eqF (eA_ (AR n1 n2 k w s q R (wrapF .i64 (x + 1)) 5) (cpS cs1 cs2 cs3 (k + 1))) 0, !eqF (gZ (AR n1 n2 k w s q R x 5) (cpS cs1 cs2 cs3 (k + 1))) 0, ltF 0 (loA (AR n1 n2 k w s q R x 5) (cpS cs1 cs2 cs3 (k + 1))), leF (loA (AR n1 n2 k w s q R (wrapF .i64 (x + 1)) 5) (cpS cs1 cs2 cs3 (k + 1))) 0].length [true, false, false, true, true, true, true, false, false, false, false, false] := by
    rw [tru_iff.2 h1, tru_iff.2 h2, tru_iff.2 h3, e3, e4, e5, ltF_eq, ltF_eq, ltF_eq, leF_eq, leF_eq, decide_eq_true hn, decide_eq_false (show ¬ x < 0 by omega), decide_eq_false (show ¬ (16 : Int) ≤ x by omega), decide_eq_false (show ¬ 0 < loA (AR n1 n2 k w s q R x 5) (cpS cs1 cs2 cs3 (k + 1)) by omega), decide_eq_false (show ¬ loA (AR n1 n2 k w s q R (wrapF .i64 (x + 1)) 5) (cpS cs1 cs2 cs3 (k + 1)) ≤ 0 by omega)]
    rfl
  have hk := round_of (P := Tryd.prog) (G := 7) (C := ⟨TU1, spFi, off_, L17 cs1 cs2 cs3 t1 s1 t2 s2 t3 s3 n1 n2 k w s q xa xb R D x 5 a b⟩) (n := 60) (f := Fn.top_Finest) (b := BF1) (ro := ro) (tm := tmL 277 (stF1 R D 5)) (H := heapL ((hp18 cs1 cs2 cs3 t1 s1 t2 s2 t3 s3 n1 n2 k w s q xa xb x 5 a b).map (·.1))) (df := []) (df1 := []) (k := 18) (N := 277) (len := 28) (x := .normal) (List.range 18) (stF1 R D 6) (hp18 cs1 cs2 cs3 t1 s1 t2 s2 t3 s3 n1 n2 k w s q xa xb (gX (AR n1 n2 k w s q R x 5) (cpS cs1 cs2 cs3 (k + 1))) (gY (AR n1 n2 k w s q R x 5) (cpS cs1 cs2 cs3 (k + 1))) a b) [true, false, false, true, true, true, true, false, false, false, false, false] [ltF 5 D, ltF x 0, leF 16 x, tru (okCp (argA n1 n2 (k + 1)) cs1 cs2 cs3), tru (okP (AR n1 n2 k w s q R x 5) (cpS cs1 cs2 cs3 (k + 1))), tru (okCp (argA n1 n2 (k + 1)) cs1 cs2 cs3), tru (okP (AR n1 n2 k w s q R (wrapF .i64 (x + 1)) 5) (cpS cs1 cs2 cs3 (k + 1))), !eqF (eA_ (AR n1 n2 k w s q R x 5) (cpS cs1 cs2 cs3 (k + 1))) 0, !eqF (eA_ (AR n1 n2 k w s q R (wrapF .i64 (x + 1)) 5) (cpS cs1 cs2 cs3 (k + 1))) 0, !eqF (gZ (AR n1 n2 k w s q R x 5) (cpS cs1 cs2 cs3 (k + 1))) 0, ltF 0 (loA (AR n1 n2 k w s q R x 5) (cpS cs1 cs2 cs3 (k + 1))), leF (loA (AR n1 n2 k w s q R (wrapF .i64 (x + 1)) 5) (cpS cs1 cs2 cs3 (k + 1))) 0] tsU1 (ls17 f1 f2 f3 h1 h2) (by kernel_rfl) (by kernel_rfl) hq (by kernel_rfl) (flat18 f1 f2 f3)
  exact hk
theorem fround6 (f1 : cs1.all Ex.flat = true) (f2 : cs2.all Ex.flat = true) (f3 : cs3.all Ex.flat = true) (ro : Option Nat) (h1 : okCp (argA n1 n2 (k + 1)) cs1 cs2 cs3) (h2 : okP (AR n1 n2 k w s q R x 6) (cpS cs1 cs2 cs3 (k + 1))) (h3 : okP (AR n1 n2 k w s q R (wrapF .i64 (x + 1)) 6) (cpS cs1 cs2 cs3 (k + 1))) (hn : (6 : Int) < D) (hx : 0 ≤ x) (hx2 : x < 32) (e3 : eA_ (AR n1 n2 k w s q R x 6) (cpS cs1 cs2 cs3 (k + 1)) = 0) (e4 : eA_ (AR n1 n2 k w s q R (wrapF .i64 (x + 1)) 6) (cpS cs1 cs2 cs3 (k + 1)) = 0) (e5 : gZ (AR n1 n2 k w s q R x 6) (cpS cs1 cs2 cs3 (k + 1)) = 0) (lo : loA (AR n1 n2 k w s q R x 6) (cpS cs1 cs2 cs3 (k + 1)) ≤ 0) (hi : 0 < loA (AR n1 n2 k w s q R (wrapF .i64 (x + 1)) 6) (cpS cs1 cs2 cs3 (k + 1))) :
    ∃ tm1 H1, Sound Tryd.prog 7 (.code BF1 ro (absT (tmL 277 (stF1 R D 6))) (heapL ((hp18 cs1 cs2 cs3 t1 s1 t2 s2 t3 s3 n1 n2 k w s q xa xb x 6 a b).map (·.1))) []) (.ex .normal tm1 H1 []) ∧ Restate 18 tm1 H1 (absT (tmL 277 (stF1 R D 7))) (heapL ((hp18 cs1 cs2 cs3 t1 s1 t2 s2 t3 s3 n1 n2 k w s q xa xb (gX (AR n1 n2 k w s q R x 6) (cpS cs1 cs2 cs3 (k + 1))) (gY (AR n1 n2 k w s q R x 6) (cpS cs1 cs2 cs3 (k + 1))) a b).map (·.1))) := by
  have hq : [ltF 6 D, ltF x 0, leF 32 x, tru (okCp (argA n1 n2 (k + 1)) cs1 cs2 cs3), tru (okP (AR n1 n2 k w s q R x 6) (cpS cs1 cs2 cs3 (k + 1))), tru (okCp (argA n1 n2 (k + 1)) cs1 cs2 cs3), tru (okP (AR n1 n2 k w s q R (wrapF .i64 (x + 1)) 6) (cpS cs1 cs2 cs3 (k + 1))), !eqF (eA_ (AR n1 n2 k w s q R x 6) (cpS cs1 cs2 cs3 (k + 1))) 0, !eqF (eA_ (AR n1 n2 k w s q R (wrapF .i64 (x + 1)) 6) (cpS cs1 cs2 cs3 (k + 1))) 0, !eqF (gZ (AR n1 n2 k w s q R x 6) (cpS cs1 cs2 cs3 (k + 1))) 0, ltF 0 (loA (AR n1 n2 k w s q R x 6) (cpS cs1 cs2 cs3 (k + 1))), leF (loA (AR n1 n2 k w s q R (wrapF .i64 (x + 1)) 6) (cpS cs1 cs2 cs3 (k + 1))) 0] = List.take [ltF 6 D, ltF x 0, leF 32 x, tru (okCp (argA n1 n2 (k + 1)) cs1 cs2 cs3), tru (okP (AR n1 n2 k w s q R x 6) (cpS cs1 cs2 cs3 (k + 1))), tru (okCp (argA n1 n2 (k + 1)) cs1 cs2 cs3), tru (okP (AR n1 n2 k w s q R (wrapF .i64 (x + 1)) 6) (cpS cs1 cs2 cs3 (k + 1))), !eqF (eA_ (AR n1 n2 k w s q R x 6) (cpS cs1 cs2 cs3 (k + 1))) 0, !eqF (eA_ (AR n1 n2 k w s q R (wrapF .i64 (x + 1)) 6) (cpS cs1 cs2 cs3 (k + 1))) 0, !eqF (gZ (AR n1 n2 k w s q R x 6) (cpS cs1 cs2 cs3 (k + 1))) 0, ltF 0 (loA (AR n1 n2 k w s q R x 6) (cpS cs1 cs2 cs3 (k + 1))), leF (loA (AR n1 n2 k w s q R (wrapF .i64 (x + 1)) 6) (cpS cs1 cs2 cs3 (k + 1))) 0].length [true, false, false, true, true, true, true, false, false, false, false, false] := by
    rw [tru_iff.2 h1, tru_iff.2 h2, tru_iff.2 h3, e3, e4, e5, ltF_eq, ltF_eq, ltF_eq, leF_eq, leF_eq, decide_eq_true hn, decide_eq_false (show ¬ x < 0 by omega), decide_eq_false (show ¬ (32 : Int) ≤ x by omega), decide_eq_false (show ¬ 0 < loA (AR n1 n2 k w s q R x 6) (cpS cs1 cs2 cs3 (k + 1)) by omega), decide_eq_false (show ¬ loA (AR n1 n2 k w s q R (wrapF .i64 (x + 1)) 6) (cpS cs1 cs2 cs3 (k + 1)) ≤ 0 by omega)]
    rfl
  have hk := round_of (P := Tryd.prog) (G := 7) (C := ⟨TU1, spFi, off_, L17 cs1 cs2 cs3 t1 s1 t2 s2 t3 s3 n1 n2 k w s q xa xb R D x 6 a b⟩) (n := 60) (f := Fn.top_Finest) (b := BF1) (ro := ro) (tm := tmL 277 (stF1 R D 6)) (H := heapL ((hp18 cs1 cs2 cs3 t1 s1 t2 s2 t3 s3 n1 n2 k w s q xa xb x 6 a b).map (·.1))) (df := []) (df1 := []) (k := 18) (N := 277) (len := 28) (x := .normal) (List.range 18) (stF1 R D 7) (hp18 cs1 cs2 cs3 t1 s1 t2 s2 t3 s3 n1 n2 k w s q xa xb (gX (AR n1 n2 k w s q R x 6) (cpS cs1 cs2 cs3 (k + 1))) (gY (AR n1 n2 k w s q R x 6) (cpS cs1 cs2 cs3 (k + 1))) a b) [true, false, false, true, true, true, true, false, false, false, false, false] [ltF 6 D, ltF x 0, leF 32 x, tru (okCp (argA n1 n2 (k + 1)) cs1 cs2 cs3), tru (okP (AR n1 n2 k w s q R x 6) (cpS cs1 cs2 cs3 (k + 1))), tru (okCp (argA n1 n2 (k + 1)) cs1 cs2 cs3), tru (okP (AR n1 n2 k w s q R (wrapF .i64 (x + 1)) 6) (cpS cs1 cs2 cs3 (k + 1))), !eqF (eA_ (AR n1 n2 k w s q R x 6) (cpS cs1 cs2 cs3 (k + 1))) 0, !eqF (eA_ (AR n1 n2 k w s q R (wrapF .i64 (x + 1)) 6) (cpS cs1 cs2 cs3 (k + 1))) 0, !eqF (gZ (AR n1 n2 k w s q R x 6) (cpS cs1 cs2 cs3 (k + 1))) 0, ltF 0 (loA (AR n1 n2 k w s q R x 6) (cpS cs1 cs2 cs3 (k + 1))), leF (loA (AR n1 n2 k w s q R (wrapF .i64 (x + 1)) 6) (cpS cs1 cs2 cs3 (k + 1))) 0] tsU1 (ls17 f1 f2 f3 h1 h2) (by kernel_rfl) (by kernel_rfl) hq (by kernel_rfl) (flat18 f1 f2 f3)
  exact hk
theorem fround7 (f1 : cs1.all Ex.flat = true) (f2 : cs2.all Ex.flat = true) (f3 : cs3.all Ex.flat = true) (ro : Option Nat) (h1 : okCp (argA n1 n2 (k + 1)) cs1 cs2 cs3) (h2 : okP (AR n1 n2 k w s q R x 7) (cpS cs1 cs2 cs3 (k + 1))) (h3 : okP (AR n1 n2 k w s q R (wrapF .i64 (x + 1)) 7) (cpS cs1 cs2 cs3 (k + 1))) (hn : (7 : Int) < D) (hx : 0 ≤ x) (hx2 : x < 64) (e3 : eA_ (AR n1 n2 k w s q R x 7) (cpS cs1 cs2 cs3 (k + 1)) = 0) (e4 : eA_ (AR n1 n2 k w s q R (wrapF .i64 (x + 1)) 7) (cpS cs1 cs2 cs3 (k + 1)) = 0) (e5 : gZ (AR n1 n2 k w s q R x 7) (cpS cs1 cs2 cs3 (k + 1)) = 0) (lo : loA (AR n1 n2 k w s q R x 7) (cpS cs1 cs2 cs3 (k + 1)) ≤ 0) (hi : 0 < loA (AR n1 n2 k w s q R (wrapF .i64 (x + 1)) 7) (cpS cs1 cs2 cs3 (k + 1))) :
    ∃ tm1 H1, Sound Tryd.prog 7 (.code BF1 ro (absT (tmL 277 (stF1 R D 7))) (heapL ((hp18 cs1 cs2 cs3 t1 s1 t2 s2 t3 s3 n1 n2 k w s q xa xb x 7 a b).map (·.1))) []) (.ex .normal tm1 H1 []) ∧ Restate 18 tm1 H1 (absT (tmL 277 (stF1 R D 8))) (heapL ((hp18 cs1 cs2 cs3 t1 s1 t2 s2 t3 s3 n1 n2 k w s q xa xb (gX (AR n1 n2 k w s q R x 7) (cpS cs1 cs2 cs3 (k + 1))) (gY (AR n1 n2 k w s q R x 7) (cpS cs1 cs2 cs3 (k + 1))) a b).map (·.1))) := by
  have hq : [ltF 7 D, ltF x 0, leF 64 x, tru (okCp (argA n1 n2 (k + 1)) cs1 cs2 cs3), tru (okP (AR n1 n2 k w s q R x 7) (cpS cs1 cs2 cs3 (k + 1))), tru (okCp (argA n1 n2 (k + 1)) cs1 cs2 cs3), tru (okP (AR n1 n2 k w s q R (wrapF .i64 (x + 1)) 7) (cpS cs1 cs2 cs3 (k + 1))), !eqF (eA_ (AR n1 n2 k w s q R x 7) (cpS cs1 cs2 cs3 (k + 1))) 0, !eqF (eA_ (AR n1 n2 k w s q R (wrapF .i64 (x + 1)) 7) (cpS cs1 cs2 cs3 (k + 1))) 0, !eqF (gZ (AR n1 n2 k w s q R x 7) (cpS cs1 cs2 cs3 (k + 1))) 0, ltF 0 (loA (AR n1 n2 k w s q R x 7) (cpS cs1 cs2 cs3 (k + 1))), leF (loA (AR n1 n2 k w s q R (wrapF .i64 (x + 1)) 7) (cpS cs1 cs2 cs3 (k + 1))) 0] = List.take [ltF 7 D, ltF x 0, leF 64 x, tru (okCp (argA n1 n2 (k + 1)) cs1 cs2 cs3), tru (okP (AR n1 n2 k w s q R x 7) (cpS cs1 cs2 cs3 (k + 1))), tru (okCp (argA n1 n2 (k + 1)) cs1 cs2 cs3), tru (okP (AR n1 n2 k w s q R (wrapF .i64 (x + 1)) 7) (cpS cs1 cs2 cs3 (k + 1))), !eqF (eA_ (AR n1 n2 k w s q R x 7) (cpS cs1 cs2 cs3 (k + 1))) 0, !eqF (eA_ (AR n1 n2 k w s q R (wrapF .i64 (x + 1)) 7) (cpS cs1 cs2 cs3 (k + 1))) 0, !eqF (gZ (AR n1 n2 k w s q R x 7) (cpS cs1 cs2 cs3 (k + 1))) 0, ltF 0 (loA (AR n1 n2 k w s q R x 7) (cpS cs1 cs2 cs3 (k + 1))), leF (loA (AR n1 n2 k w s q R (wrapF .i64 (x + 1)) 7) (cpS cs1 cs2 cs3 (k + 1))) 0].length [true, false, false, true, true, true, true, false, false, false, false, false] := by
    rw [tru_iff.2 h1, tru_iff.2 h2, tru_iff.2 h3, e3, e4, e5, ltF_eq, ltF_eq, ltF_eq, leF_eq, leF_eq, decide_eq_true hn, decide_eq_false (show ¬ x < 0 by omega), decide_eq_false (show ¬ (64 : Int) ≤ x by omega), decide_eq_false (show ¬ 0 < loA (AR n1 n2 k w s q R x 7) (cpS cs1 cs2 cs3 (k + 1)) by omega), decide_eq_false (show ¬ loA (AR n1 n2 k w s q R (wrapF .i64 (x + 1)) 7) (cpS cs1 cs2 cs3 (k + 1)) ≤ 0 by omega)]
    rfl
  have hk := round_of (P := Tryd.prog) (G := 7) (C := ⟨TU1, spFi, off_, L17 cs1 cs2 cs3 t1 s1 t2 s2 t3 s3 n1 n2 k w s q xa xb R D x 7 a b⟩) (n := 60) (f := Fn.top_Finest) (b := BF1) (ro := ro) (tm := tmL 277 (stF1 R D 7)) (H := heapL ((hp18 cs1 cs2 cs3 t1 s1 t2 s2 t3 s3 n1 n2 k w s q xa xb x 7 a b).map (·.1))) (df := []) (df1 := []) (k := 18) (N := 277) (len := 28) (x := .normal) (List.range 18) (stF1 R D 8) (hp18 cs1 cs2 cs3 t1 s1 t2 s2 t3 s3 n1 n2 k w s q xa xb (gX (AR n1 n2 k w s q R x 7) (cpS cs1 cs2 cs3 (k + 1))) (gY (AR n1 n2 k w s q R x 7) (cpS cs1 cs2 cs3 (k + 1))) a b) [true, false, false, true, true, true, true, false, false, false, false, false] [ltF 7 D, ltF x 0, leF 64 x, tru (okCp (argA n1 n2 (k + 1)) cs1 cs2 cs3), tru (okP (AR n1 n2 k w s q R x 7) (cpS cs1 cs2 cs3 (k + 1))), tru (okCp (argA n1 n2 (k + 1)) cs1 cs2 cs3), tru (okP (AR n1 n2 k w s q R (wrapF .i64 (x + 1)) 7) (cpS cs1 cs2 cs3 (k + 1))), !eqF (eA_ (AR n1 n2 k w s q R x 7) (cpS cs1 cs2 cs3 (k + 1))) 0, !eqF (eA_ (AR n1 n2 k w s q R (wrapF .i64 (x + 1)) 7) (cpS cs1 cs2 cs3 (k + 1))) 0, !eqF (gZ (AR n1 n2 k w s q R x 7) (cpS cs1 cs2 cs3 (k + 1))) 0, ltF 0 (loA (AR n1 n2 k w s q R x 7) (cpS cs1 cs2 cs3 (k + 1))), leF (loA (AR n1 n2 k w s q R (wrapF .i64 (x + 1)) 7) (cpS cs1 cs2 cs3 (k + 1))) 0] tsU1 (ls17 f1 f2 f3 h1 h2) (by kernel_rfl) (by kernel_rfl) hq (by kernel_rfl) (flat18 f1 f2 f3)
  exact hk
theorem fround8 (f1 : cs1.all Ex.flat = true) (f2 : cs2.all Ex.flat = true) (f3 : cs3.all Ex.flat = true) (ro : Option Nat) (h1 : okCp (argA n1 n2 (k + 1)) cs1 cs2 cs3) (h2 : okP (AR n1 n2 k w s q R x 8) (cpS cs1 cs2 cs3 (k + 1))) (h3 : okP (AR n1 n2 k w s q R (wrapF .i64 (x + 1)) 8) (cpS cs1 cs2 cs3 (k + 1))) (hn : (8 : Int) < D) (hx : 0 ≤ x) (hx2 : x < 128) (e3 : eA_ (AR n1 n2 k w s q R x 8) (cpS cs1 cs2 cs3 (k + 1)) = 0) (e4 : eA_ (AR n1 n2 k w s q R (wrapF .i64 (x + 1)) 8) (cpS cs1 cs2 cs3 (k + 1)) = 0) (e5 : gZ (AR n1 n2 k w s q R x 8) (cpS cs1 cs2 cs3 (k + 1)) = 0) (lo : loA (AR n1 n2 k w s q R x 8) (cpS cs1 cs2 cs3 (k + 1)) ≤ 0) (hi : 0 < loA (AR n1 n2 k w s q R (wrapF .i64 (x + 1)) 8) (cpS cs1 cs2 cs3 (k + 1))) :
    ∃ tm1 H1, Sound Tryd.prog 7 (.code BF1 ro (absT (tmL 277 (stF1 R D 8))) (heapL ((hp18 cs1 cs2 cs3 t1 s1 t2 s2 t3 s3 n1 n2 k w s q xa xb x 8 a b).map (·.1))) []) (.ex .normal tm1 H1 []) ∧ Restate 18 tm1 H1 (absT (tmL 277 (stF1 R D 9))) (heapL ((hp18 cs1 cs2 cs3 t1 s1 t2 s2 t3 s3 n1 n2 k w s q xa xb (gX (AR n1 n2 k w s q R x 8) (cpS cs1 cs2 cs3 (k + 1))) (gY (AR n1 n2 k w s q R x 8) (cpS cs1 cs2 cs3 (k + 1))) a b).map (·.1))) := by
  have hq : [ltF 8 D, ltF x 0, leF 128 x, tru (okCp (argA n1 n2 (k + 1)) cs1 cs2 cs3), tru (okP (AR n1 n2 k w s q R x 8) (cpS cs1 cs2 cs3 (k + 1))), tru (okCp (argA n1 n2 (k + 1)) cs1 cs2 cs3), tru (okP (AR n1 n2 k w s q R (wrapF .i64 (x + 1)) 8) (cpS cs1 cs2 cs3 (k + 1))), !eqF (eA_ (AR n1 n2 k w s q R x 8) (cpS cs1 cs2 cs3 (k + 1))) 0, !eqF (eA_ (AR n1 n2 k w s q R (wrapF .i64 (x + 1)) 8) (cpS cs1 cs2 cs3 (k + 1))) 0, !eqF (gZ (AR n1 n2 k w s q R x 8) (cpS cs1 cs2 cs3 (k + 1))) 0, ltF 0 (loA (AR n1 n2 k w s q R x 8) (cpS cs1 cs2 cs3 (k + 1))), leF (loA (AR n1 n2 k w s q R (wrapF .i64 (x + 1)) 8) (cpS cs1 cs2 cs3 (k + 1))) 0] = List.take [ltF 8 D, ltF x 0, leF 128 x, tru (okCp (argA n1 n2 (k + 1)) cs1 cs2 cs3), tru (okP (AR n1 n2 k w s q R x 8) (cpS cs1 cs2 cs3 (k + 1))), tru (okCp (argA n1 n2 (k + 1)) cs1 cs2 cs3), tru (okP (AR n1 n2 k w s q R (wrapF .i64 (x + 1)) 8) (cpS cs1 cs2 cs3 (k + 1))), !eqF (eA_ (AR n1 n2 k w s q R x 8) (cpS cs1 cs2 cs3 (k + 1))) 0, !eqF (eA_ (AR n1 n2 k w s q R (wrapF .i64 (x + 1)) 8) (cpS cs1 cs2 cs3 (k + 1))) 0, !eqF (gZ (AR n1 n2 k w s q R x 8) (cpS cs1 cs2 cs3 (k + 1))) 0, ltF 0 (loA (AR n1 n2 k w s q R x 8) (cpS cs1 cs2 cs3 (k + 1))), leF (loA (AR n1 n2 k w s q R (wrapF .i64 (x + 1)) 8) (cpS cs1 cs2 cs3 (k + 1))) 0].length [true, false, false, true, true, true, true, false, false, false, false, false] := by
    rw [tru_iff.2 h1, tru_iff.2 h2, tru_iff.2 h3, e3, e4, e5, ltF_eq, ltF_eq, ltF_eq, leF_eq, leF_eq, decide_eq_true hn, decide_eq_false (show ¬ x < 0 by omega), decide_eq_false (show ¬ (128 : Int) ≤ x by omega), decide_eq_false (show ¬ 0 < loA (AR n1 n2 k w s q R x 8) (cpS cs1 cs2 cs3 (k + 1)) by omega), decide_eq_false (show ¬ loA (AR n1 n2 k w s q R (wrapF .i64 (x + 1)) 8) (cpS cs1 cs2 cs3 (k + 1)) ≤ 0 by omega)]
    rfl
  have hk := round_of (P := Tryd.prog) (G := 7) (C := ⟨TU1, spFi, off_, L17 cs1 cs2 cs3 t1 s1 t2 s2 t3 s3 n1 n2 k w s q xa xb R D x 8 a b⟩) (n := 60) (f := Fn.top_Finest) (b := BF1) (ro := ro) (tm := tmL 277 (stF1 R D 8)) (H := heapL ((hp18 cs1 cs2 cs3 t1 s1 t2 s2 t3 s3 n1 n2 k w s q xa xb x 8 a b).map (·.1))) (df := []) (df1 := []) (k := 18) (N := 277) (len := 28) (x := .normal) (List.range 18) (stF1 R D 9) (hp18 cs1 cs2 cs3 t1 s1 t2 s2 t3 s3 n1 n2 k w s q xa xb (gX (AR n1 n2 k w s q R x 8) (cpS cs1 cs2 cs3 (k + 1))) (gY (AR n1 n2 k w s q R x 8) (cpS cs1 cs2 cs3 (k + 1))) a b) [true, false, false, true, true, true, true, false, false, false, false, false] [ltF 8 D, ltF x 0, leF 128 x, tru (okCp (argA n1 n2 (k + 1)) cs1 cs2 cs3), tru (okP (AR n1 n2 k w s q R x 8) (cpS cs1 cs2 cs3 (k + 1))), tru (okCp (argA n1 n2 (k + 1)) cs1 cs2 cs3), tru (okP (AR n1 n2 k w s q R (wrapF .i64 (x + 1)) 8) (cpS cs1 cs2 cs3 (k + 1))), !eqF (eA_ (AR n1 n2 k w s q R x 8) (cpS cs1 cs2 cs3 (k + 1))) 0, !eqF (eA_ (AR n1 n2 k w s q R (wrapF .i64 (x + 1)) 8) (cpS cs1 cs2 cs3 (k + 1))) 0, !eqF (gZ (AR n1 n2 k w s q R x 8) (cpS cs1 cs2 cs3 (k + 1))) 0, ltF 0 (loA (AR n1 n2 k w s q R x 8) (cpS cs1 cs2 cs3 (k + 1))), leF (loA (AR n1 n2 k w s q R (wrapF .i64 (x + 1)) 8) (cpS cs1 cs2 cs3 (k + 1))) 0] tsU1 (ls17 f1 f2 f3 h1 h2) (by kernel_rfl) (by kernel_rfl) hq (by kernel_rfl) (flat18 f1 f2 f3)
  exact hk
theorem fround9 (f1 : cs1.all Ex.flat = true) (f2 : cs2.all Ex.flat = true) (f3 : cs3.all Ex.flat = true) (ro : Option Nat) (h1 : okCp (argA n1 n2 (k + 1)) cs1 cs2 cs3) (h2 : okP (AR n1 n2 k w s q R x 9) (cpS cs1 cs2 cs3 (k + 1))) (h3 : okP (AR n1 n2 k w s q R (wrapF .i64 (x + 1)) 9) (cpS cs1 cs2 cs3 (k + 1))) (hn : (9 : Int) < D) (hx : 0 ≤ x) (hx2 : x < 256) (e3 : eA_ (AR n1 n2 k w s q R x 9) (cpS cs1 cs2 cs3 (k + 1)) = 0) (e4 : eA_ (AR n1 n2 k w s q R (wrapF .i64 (x + 1)) 9) (cpS cs1 cs2 cs3 (k + 1)) = 0) (e5 : gZ (AR n1 n2 k w s q R x 9) (cpS cs1 cs2 cs3 (k + 1)) = 0) (lo : loA (AR n1 n2 k w s q R x 9) (cpS cs1 cs2 cs3 (k + 1)) ≤ 0) (hi : 0 < loA (AR n1 n2 k w s q R (wrapF .i64 (x + 1)) 9) (cpS cs1 cs2 cs3 (k + 1))) :
    ∃ tm1 H1, Sound Tryd.prog 7 (.code BF1 ro (absT (tmL 277 (stF1 R D 9))) (heapL ((hp18 cs1 cs2 cs3 t1 s1 t2 s2 t3 s3 n1 n2 k w s q xa xb x 9 a b).map (·.1))) []) (.ex .normal tm1 H1 []) ∧ Restate 18 tm1 H1 (absT (tmL 277 (stF1 R D 10))) (heapL ((hp18 cs1 cs2 cs3 t1 s1 t2 s2 t3 s3 n1 n2 k w s q xa xb (gX (AR n1 n2 k w s q R x 9) (cpS cs1 cs2 cs3 (k + 1))) (gY (AR n1 n2 k w s q R x 9) (cpS cs1 cs2 cs3 (k + 1))) a b).map (·.1))) := by
  have hq : [ltF 9 D, ltF x 0, leF 256 x, tru (okCp (argA n1 n2 (k + 1)) cs1 cs2 cs3), tru (okP (AR n1 n2 k w s q R x 9) (cpS cs1 cs2 cs3 (k + 1))), tru (okCp (argA n1 n2 (k + 1)) cs1 cs2 cs3), tru (okP (AR n1 n2 k w s q R (wrapF .i64 (x + 1)) 9) (cpS cs1 cs2 cs3 (k + 1))), !eqF (eA_ (AR n1 n2 k w s q R x 9) (cpS cs1 cs2 cs3 (k + 1))) 0, !eqF (eA_ (AR n1 n2 k w s q R (wrapF .i64 (x + 1)) 9) (cpS cs1 cs2 cs3 (k + 1))) 0, !eqF (gZ (AR n1 n2 k w s q R x 9) (cpS cs1 cs2 cs3 (k + 1))) 0, ltF 0 (loA (AR n1 n2 k w s q R x 9) (cpS cs1 cs2 cs3 (k + 1))), leF (loA (AR n1 n2 k w s q R (wrapF .i64 (x + 1)) 9) (cpS cs1 cs2 cs3 (k + 1))) 0] = List.take [ltF 9 D, ltF x 0, leF 256 x, tru (okCp (argA n1 n2 (k + 1)) cs1 cs2 cs3), tru (okP (AR n1 n2 k w s q R x 9) (cpS cs1 cs2 cs3 (k + 1))), tru (okCp (argA n1 n2 (k + 1)) cs1 cs2 cs3), tru (okP (AR n1 n2 k w s q R (wrapF .i64 (x + 1)) 9) (cpS cs1 cs2 cs3 (k + 1))), !eqF (eA_ (AR n1 n2 k w s q R x 9) (cpS cs1 cs2 cs3 (k + 1))) 0, !eqF (eA_ (AR n1 n2 k w s q R (wrapF .i64 (x + 1)) 9) (cpS cs1 cs2 cs3 (k + 1))) 0, !eqF (gZ (AR n1 n2 k w s q R x 9) (cpS cs1 cs2 cs3 (k + 1))) 0, ltF 0 (loA (AR n1 n2 k w s q R x 9) (cpS cs1 cs2 cs3 (k + 1))), leF (loA (AR n1 n2 k w s q R (wrapF .i64 (x + 1)) 9) (cpS cs1 cs2 cs3 (k + 1))) 0].length [true, false, false, true, true, true, true, false, false, false, false, false] := by
    rw [tru_iff.2 h1, tru_iff.2 h2, tru_iff.2 h3, e3, e4, e5, ltF_eq, ltF_eq, ltF_eq, leF_eq, leF_eq, decide_eq_true hn, decide_eq_false (show ¬ x < 0 by omega), decide_eq_false (show ¬ (256 : Int) ≤ x by omega), decide_eq_false (show ¬ 0 < loA (AR n1 n2 k w s q R x 9) (cpS cs1 cs2 cs3 (k + 1)) by omega), decide_eq_false (show ¬ loA (AR n1 n2 k w s q R (wrapF .i64 (x + 1)) 9) (cpS cs1 cs2 cs3 (k + 1)) ≤ 0 by omega)]
    rfl
  have hk := round_of (P := Tryd.prog) (G := 7) (C := ⟨TU1, spFi, off_, L17 cs1 cs2 cs3 t1 s1 t2 s2 t3 s3 n1 n2 k w s q xa xb R D x 9 a b⟩) (n := 60) (f := Fn.top_Finest) (b := BF1) (ro := ro) (tm := tmL 277 (stF1 R D 9)) (H := heapL ((hp18 cs1 cs2 cs3 t1 s1 t2 s2 t3 s3 n1 n2 k w s q xa xb x 9 a b).map (·.1))) (df := []) (df1 := []) (k := 18) (N := 277) (len := 28) (x := .normal) (List.range 18) (stF1 R D 10) (hp18 cs1 cs2 cs3 t1 s1 t2 s2 t3 s3 n1 n2 k w s q xa xb (gX (AR n1 n2 k w s q R x 9) (cpS cs1 cs2 cs3 (k + 1))) (gY (AR n1 n2 k w s q R x 9) (cpS cs1 cs2 cs3 (k + 1))) a b) [true, false, false, true, true, true, true, false, false, false, false, false] [ltF 9 D, ltF x 0, leF 256 x, tru (okCp (argA n1 n2 (k + 1)) cs1 cs2 cs3), tru (okP (AR n1 n2 k w s q R x 9) (cpS cs1 cs2 cs3 (k + 1))), tru (okCp (argA n1 n2 (k + 1)) cs1 cs2 cs3), tru (okP (AR n1 n2 k w s q R (wrapF .i64 (x + 1)) 9) (cpS cs1 cs2 cs3 (k + 1))), !eqF (eA_ (AR n1 n2 k w s q R x 9) (cpS cs1 cs2 cs3 (k + 1))) 0, !eqF (eA_ (AR n1 n2 k w s q R (wrapF .i64 (x + 1)) 9) (cpS cs1 cs2 cs3 (k + 1))) 0, !eqF (gZ (AR n1 n2 k w s q R x 9) (cpS cs1 cs2 cs3 (k + 1))) 0, ltF 0 (loA (AR n1 n2 k w s q R x 9) (cpS cs1 cs2 cs3 (k + 1))), leF (loA (AR n1 n2 k w s q R (wrapF .i64 (x + 1)) 9) (cpS cs1 cs2 cs3 (k + 1))) 0] tsU1 (ls17 f1 f2 f3 h1 h2) (by kernel_rfl) (by kernel_rfl) hq (by kernel_rfl) (flat18 f1 f2 f3)
  exact hk
end
end Go.Proofs.YtbocpikgochioaaDoor.Ways
namespace Go.Proofs.YtbocpikgochioaaDoor.Ways
open Go Go.Ex
section
variable {cs1 cs2 cs3 : List Value} {t1 s1 t2 s2 t3 s3 n1 n2 k : Nat} {w s q xa xb R D a b : Int}
theorem fstep0 (f1 : cs1.all Ex.flat = true) (f2 : cs2.all Ex.flat = true) (f3 : cs3.all Ex.flat = true) (h1 : okCp (argA n1 n2 (k + 1)) cs1 cs2 cs3) (hP : ∀ x d : Int, okP (AR n1 n2 k w s q R x d) (cpS cs1 cs2 cs3 (k + 1))) (hR : RV cs1 n1 (rE cs3 R) (cE_ cs3 R) (tE_ cs3 R) (pE_ cs3 R) w s q) (hS : secE (bladeE cs1 n1 cs2 n2 (rhoE cs3) (k + 1)) (flowE w s q) R (k + 1) = 0) (hb : hbM cs1 cs2 cs3 n1 n2 w s q R = true) (ro : Option Nat) (hn : (1 : Int) < D) :
    ∃ tm1 H1, Sound Tryd.prog 7 (.code BF1 ro (absT (tmL 277 (stF1 R D 1))) (heapL ((hp18 cs1 cs2 cs3 t1 s1 t2 s2 t3 s3 n1 n2 k w s q xa xb (brM cs1 cs2 cs3 n1 n2 w s q R 0) 1 a b).map (·.1))) []) (.ex .normal tm1 H1 []) ∧ Restate 18 tm1 H1 (absT (tmL 277 (stF1 R D 2))) (heapL ((hp18 cs1 cs2 cs3 t1 s1 t2 s2 t3 s3 n1 n2 k w s q xa xb (brM cs1 cs2 cs3 n1 n2 w s q R 1) 2 a b).map (·.1))) := by
  obtain ⟨b1, b2, b3, b4⟩ := br_all hR hb (j := 0) (by decide)
  have p : powE ((0 : Nat) : Int) = 1 := by decide
  rw [p] at b2
  have hw : wrapF .i64 ((brM cs1 cs2 cs3 n1 n2 w s q R 0) + 1) = (brM cs1 cs2 cs3 n1 n2 w s q R 0) + 1 := wrapF_in (by omega) (by omega)
  have p2 : powE ((1 : Int) - 1) = 1 := by decide
  have i1 : 0 ≤ (brM cs1 cs2 cs3 n1 n2 w s q R 0) ∧ (brM cs1 cs2 cs3 n1 n2 w s q R 0) ≤ powE ((1 : Int) - 1) := ⟨b1, by rw [p2]; omega⟩
  have i2 : 0 ≤ (brM cs1 cs2 cs3 n1 n2 w s q R 0) + 1 ∧ (brM cs1 cs2 cs3 n1 n2 w s q R 0) + 1 ≤ powE ((1 : Int) - 1) := ⟨by omega, by rw [p2]; omega⟩
  obtain ⟨q1, q2, q3⟩ := refine_eq hR hS hb (j := 0) (by decide)
  have q1' : gZ (AR n1 n2 k w s q R (brM cs1 cs2 cs3 n1 n2 w s q R 0) 1) (cpS cs1 cs2 cs3 (k + 1)) = 0 := q1
  have q2' : gX (AR n1 n2 k w s q R (brM cs1 cs2 cs3 n1 n2 w s q R 0) 1) (cpS cs1 cs2 cs3 (k + 1)) = (brM cs1 cs2 cs3 n1 n2 w s q R 1) := q2
  have q3' : gY (AR n1 n2 k w s q R (brM cs1 cs2 cs3 n1 n2 w s q R 0) 1) (cpS cs1 cs2 cs3 (k + 1)) = 2 := q3
  have l1 : loA (AR n1 n2 k w s q R (brM cs1 cs2 cs3 n1 n2 w s q R 0) 1) (cpS cs1 cs2 cs3 (k + 1)) ≤ 0 := by rw [lo_eq hR hS (by decide) i1]; exact b3
  have l2 : 0 < loA (AR n1 n2 k w s q R (wrapF .i64 ((brM cs1 cs2 cs3 n1 n2 w s q R 0) + 1)) 1) (cpS cs1 cs2 cs3 (k + 1)) := by rw [hw, lo_eq hR hS (by decide) i2]; exact b4
  have e1 : eA_ (AR n1 n2 k w s q R (brM cs1 cs2 cs3 n1 n2 w s q R 0) 1) (cpS cs1 cs2 cs3 (k + 1)) = 0 := eA0 hS (by decide) i1
  have e2 : eA_ (AR n1 n2 k w s q R (wrapF .i64 ((brM cs1 cs2 cs3 n1 n2 w s q R 0) + 1)) 1) (cpS cs1 cs2 cs3 (k + 1)) = 0 := by rw [hw]; exact eA0 hS (by decide) i2
  have hk := fround1 (t1 := t1) (s1 := s1) (t2 := t2) (s2 := s2) (t3 := t3) (s3 := s3) (xa := xa) (xb := xb) (a := a) (b := b) f1 f2 f3 ro h1 (hP _ _) (hP _ _) hn b1 (by omega) e1 e2 q1' l1 l2
  rw [q2', q3'] at hk
  exact hk
theorem fstep1 (f1 : cs1.all Ex.flat = true) (f2 : cs2.all Ex.flat = true) (f3 : cs3.all Ex.flat = true) (h1 : okCp (argA n1 n2 (k + 1)) cs1 cs2 cs3) (hP : ∀ x d : Int, okP (AR n1 n2 k w s q R x d) (cpS cs1 cs2 cs3 (k + 1))) (hR : RV cs1 n1 (rE cs3 R) (cE_ cs3 R) (tE_ cs3 R) (pE_ cs3 R) w s q) (hS : secE (bladeE cs1 n1 cs2 n2 (rhoE cs3) (k + 1)) (flowE w s q) R (k + 1) = 0) (hb : hbM cs1 cs2 cs3 n1 n2 w s q R = true) (ro : Option Nat) (hn : (2 : Int) < D) :
    ∃ tm1 H1, Sound Tryd.prog 7 (.code BF1 ro (absT (tmL 277 (stF1 R D 2))) (heapL ((hp18 cs1 cs2 cs3 t1 s1 t2 s2 t3 s3 n1 n2 k w s q xa xb (brM cs1 cs2 cs3 n1 n2 w s q R 1) 2 a b).map (·.1))) []) (.ex .normal tm1 H1 []) ∧ Restate 18 tm1 H1 (absT (tmL 277 (stF1 R D 3))) (heapL ((hp18 cs1 cs2 cs3 t1 s1 t2 s2 t3 s3 n1 n2 k w s q xa xb (brM cs1 cs2 cs3 n1 n2 w s q R 2) 3 a b).map (·.1))) := by
  obtain ⟨b1, b2, b3, b4⟩ := br_all hR hb (j := 1) (by decide)
  have p : powE ((1 : Nat) : Int) = 2 := by decide
  rw [p] at b2
  have hw : wrapF .i64 ((brM cs1 cs2 cs3 n1 n2 w s q R 1) + 1) = (brM cs1 cs2 cs3 n1 n2 w s q R 1) + 1 := wrapF_in (by omega) (by omega)
  have p2 : powE ((2 : Int) - 1) = 2 := by decide
  have i1 : 0 ≤ (brM cs1 cs2 cs3 n1 n2 w s q R 1) ∧ (brM cs1 cs2 cs3 n1 n2 w s q R 1) ≤ powE ((2 : Int) - 1) := ⟨b1, by rw [p2]; omega⟩
  have i2 : 0 ≤ (brM cs1 cs2 cs3 n1 n2 w s q R 1) + 1 ∧ (brM cs1 cs2 cs3 n1 n2 w s q R 1) + 1 ≤ powE ((2 : Int) - 1) := ⟨by omega, by rw [p2]; omega⟩
  obtain ⟨q1, q2, q3⟩ := refine_eq hR hS hb (j := 1) (by decide)
  have q1' : gZ (AR n1 n2 k w s q R (brM cs1 cs2 cs3 n1 n2 w s q R 1) 2) (cpS cs1 cs2 cs3 (k + 1)) = 0 := q1
  have q2' : gX (AR n1 n2 k w s q R (brM cs1 cs2 cs3 n1 n2 w s q R 1) 2) (cpS cs1 cs2 cs3 (k + 1)) = (brM cs1 cs2 cs3 n1 n2 w s q R 2) := q2
  have q3' : gY (AR n1 n2 k w s q R (brM cs1 cs2 cs3 n1 n2 w s q R 1) 2) (cpS cs1 cs2 cs3 (k + 1)) = 3 := q3
  have l1 : loA (AR n1 n2 k w s q R (brM cs1 cs2 cs3 n1 n2 w s q R 1) 2) (cpS cs1 cs2 cs3 (k + 1)) ≤ 0 := by rw [lo_eq hR hS (by decide) i1]; exact b3
  have l2 : 0 < loA (AR n1 n2 k w s q R (wrapF .i64 ((brM cs1 cs2 cs3 n1 n2 w s q R 1) + 1)) 2) (cpS cs1 cs2 cs3 (k + 1)) := by rw [hw, lo_eq hR hS (by decide) i2]; exact b4
  have e1 : eA_ (AR n1 n2 k w s q R (brM cs1 cs2 cs3 n1 n2 w s q R 1) 2) (cpS cs1 cs2 cs3 (k + 1)) = 0 := eA0 hS (by decide) i1
  have e2 : eA_ (AR n1 n2 k w s q R (wrapF .i64 ((brM cs1 cs2 cs3 n1 n2 w s q R 1) + 1)) 2) (cpS cs1 cs2 cs3 (k + 1)) = 0 := by rw [hw]; exact eA0 hS (by decide) i2
  have hk := fround2 (t1 := t1) (s1 := s1) (t2 := t2) (s2 := s2) (t3 := t3) (s3 := s3) (xa := xa) (xb := xb) (a := a) (b := b) f1 f2 f3 ro h1 (hP _ _) (hP _ _) hn b1 (by omega) e1 e2 q1' l1 l2
  rw [q2', q3'] at hk
  exact hk
theorem fstep2 (f1 : cs1.all Ex.flat = true) (f2 : cs2.all Ex.flat = true) (f3 : cs3.all Ex.flat = true) (h1 : okCp (argA n1 n2 (k + 1)) cs1 cs2 cs3) (hP : ∀ x d : Int, okP (AR n1 n2 k w s q R x d) (cpS cs1 cs2 cs3 (k + 1))) (hR : RV cs1 n1 (rE cs3 R) (cE_ cs3 R) (tE_ cs3 R) (pE_ cs3 R) w s q) (hS : secE (bladeE cs1 n1 cs2 n2 (rhoE cs3) (k + 1)) (flowE w s q) R (k + 1) = 0) (hb : hbM cs1 cs2 cs3 n1 n2 w s q R = true) (ro : Option Nat) (hn : (3 : Int) < D) :
    ∃ tm1 H1, Sound Tryd.prog 7 (.code BF1 ro (absT (tmL 277 (stF1 R D 3))) (heapL ((hp18 cs1 cs2 cs3 t1 s1 t2 s2 t3 s3 n1 n2 k w s q xa xb (brM cs1 cs2 cs3 n1 n2 w s q R 2) 3 a b).map (·.1))) []) (.ex .normal tm1 H1 []) ∧ Restate 18 tm1 H1 (absT (tmL 277 (stF1 R D 4))) (heapL ((hp18 cs1 cs2 cs3 t1 s1 t2 s2 t3 s3 n1 n2 k w s q xa xb (brM cs1 cs2 cs3 n1 n2 w s q R 3) 4 a b).map (·.1))) := by
  obtain ⟨b1, b2, b3, b4⟩ := br_all hR hb (j := 2) (by decide)
  have p : powE ((2 : Nat) : Int) = 4 := by decide
  rw [p] at b2
  have hw : wrapF .i64 ((brM cs1 cs2 cs3 n1 n2 w s q R 2) + 1) = (brM cs1 cs2 cs3 n1 n2 w s q R 2) + 1 := wrapF_in (by omega) (by omega)
  have p2 : powE ((3 : Int) - 1) = 4 := by decide
  have i1 : 0 ≤ (brM cs1 cs2 cs3 n1 n2 w s q R 2) ∧ (brM cs1 cs2 cs3 n1 n2 w s q R 2) ≤ powE ((3 : Int) - 1) := ⟨b1, by rw [p2]; omega⟩
  have i2 : 0 ≤ (brM cs1 cs2 cs3 n1 n2 w s q R 2) + 1 ∧ (brM cs1 cs2 cs3 n1 n2 w s q R 2) + 1 ≤ powE ((3 : Int) - 1) := ⟨by omega, by rw [p2]; omega⟩
  obtain ⟨q1, q2, q3⟩ := refine_eq hR hS hb (j := 2) (by decide)
  have q1' : gZ (AR n1 n2 k w s q R (brM cs1 cs2 cs3 n1 n2 w s q R 2) 3) (cpS cs1 cs2 cs3 (k + 1)) = 0 := q1
  have q2' : gX (AR n1 n2 k w s q R (brM cs1 cs2 cs3 n1 n2 w s q R 2) 3) (cpS cs1 cs2 cs3 (k + 1)) = (brM cs1 cs2 cs3 n1 n2 w s q R 3) := q2
  have q3' : gY (AR n1 n2 k w s q R (brM cs1 cs2 cs3 n1 n2 w s q R 2) 3) (cpS cs1 cs2 cs3 (k + 1)) = 4 := q3
  have l1 : loA (AR n1 n2 k w s q R (brM cs1 cs2 cs3 n1 n2 w s q R 2) 3) (cpS cs1 cs2 cs3 (k + 1)) ≤ 0 := by rw [lo_eq hR hS (by decide) i1]; exact b3
  have l2 : 0 < loA (AR n1 n2 k w s q R (wrapF .i64 ((brM cs1 cs2 cs3 n1 n2 w s q R 2) + 1)) 3) (cpS cs1 cs2 cs3 (k + 1)) := by rw [hw, lo_eq hR hS (by decide) i2]; exact b4
  have e1 : eA_ (AR n1 n2 k w s q R (brM cs1 cs2 cs3 n1 n2 w s q R 2) 3) (cpS cs1 cs2 cs3 (k + 1)) = 0 := eA0 hS (by decide) i1
  have e2 : eA_ (AR n1 n2 k w s q R (wrapF .i64 ((brM cs1 cs2 cs3 n1 n2 w s q R 2) + 1)) 3) (cpS cs1 cs2 cs3 (k + 1)) = 0 := by rw [hw]; exact eA0 hS (by decide) i2
  have hk := fround3 (t1 := t1) (s1 := s1) (t2 := t2) (s2 := s2) (t3 := t3) (s3 := s3) (xa := xa) (xb := xb) (a := a) (b := b) f1 f2 f3 ro h1 (hP _ _) (hP _ _) hn b1 (by omega) e1 e2 q1' l1 l2
  rw [q2', q3'] at hk
  exact hk
theorem fstep3 (f1 : cs1.all Ex.flat = true) (f2 : cs2.all Ex.flat = true) (f3 : cs3.all Ex.flat = true) (h1 : okCp (argA n1 n2 (k + 1)) cs1 cs2 cs3) (hP : ∀ x d : Int, okP (AR n1 n2 k w s q R x d) (cpS cs1 cs2 cs3 (k + 1))) (hR : RV cs1 n1 (rE cs3 R) (cE_ cs3 R) (tE_ cs3 R) (pE_ cs3 R) w s q) (hS : secE (bladeE cs1 n1 cs2 n2 (rhoE cs3) (k + 1)) (flowE w s q) R (k + 1) = 0) (hb : hbM cs1 cs2 cs3 n1 n2 w s q R = true) (ro : Option Nat) (hn : (4 : Int) < D) :
    ∃ tm1 H1, Sound Tryd.prog 7 (.code BF1 ro (absT (tmL 277 (stF1 R D 4))) (heapL ((hp18 cs1 cs2 cs3 t1 s1 t2 s2 t3 s3 n1 n2 k w s q xa xb (brM cs1 cs2 cs3 n1 n2 w s q R 3) 4 a b).map (·.1))) []) (.ex .normal tm1 H1 []) ∧ Restate 18 tm1 H1 (absT (tmL 277 (stF1 R D 5))) (heapL ((hp18 cs1 cs2 cs3 t1 s1 t2 s2 t3 s3 n1 n2 k w s q xa xb (brM cs1 cs2 cs3 n1 n2 w s q R 4) 5 a b).map (·.1))) := by
  obtain ⟨b1, b2, b3, b4⟩ := br_all hR hb (j := 3) (by decide)
  have p : powE ((3 : Nat) : Int) = 8 := by decide
  rw [p] at b2
  have hw : wrapF .i64 ((brM cs1 cs2 cs3 n1 n2 w s q R 3) + 1) = (brM cs1 cs2 cs3 n1 n2 w s q R 3) + 1 := wrapF_in (by omega) (by omega)
  have p2 : powE ((4 : Int) - 1) = 8 := by decide
  have i1 : 0 ≤ (brM cs1 cs2 cs3 n1 n2 w s q R 3) ∧ (brM cs1 cs2 cs3 n1 n2 w s q R 3) ≤ powE ((4 : Int) - 1) := ⟨b1, by rw [p2]; omega⟩
  have i2 : 0 ≤ (brM cs1 cs2 cs3 n1 n2 w s q R 3) + 1 ∧ (brM cs1 cs2 cs3 n1 n2 w s q R 3) + 1 ≤ powE ((4 : Int) - 1) := ⟨by omega, by rw [p2]; omega⟩
  obtain ⟨q1, q2, q3⟩ := refine_eq hR hS hb (j := 3) (by decide)
  have q1' : gZ (AR n1 n2 k w s q R (brM cs1 cs2 cs3 n1 n2 w s q R 3) 4) (cpS cs1 cs2 cs3 (k + 1)) = 0 := q1
  have q2' : gX (AR n1 n2 k w s q R (brM cs1 cs2 cs3 n1 n2 w s q R 3) 4) (cpS cs1 cs2 cs3 (k + 1)) = (brM cs1 cs2 cs3 n1 n2 w s q R 4) := q2
  have q3' : gY (AR n1 n2 k w s q R (brM cs1 cs2 cs3 n1 n2 w s q R 3) 4) (cpS cs1 cs2 cs3 (k + 1)) = 5 := q3
  have l1 : loA (AR n1 n2 k w s q R (brM cs1 cs2 cs3 n1 n2 w s q R 3) 4) (cpS cs1 cs2 cs3 (k + 1)) ≤ 0 := by rw [lo_eq hR hS (by decide) i1]; exact b3
  have l2 : 0 < loA (AR n1 n2 k w s q R (wrapF .i64 ((brM cs1 cs2 cs3 n1 n2 w s q R 3) + 1)) 4) (cpS cs1 cs2 cs3 (k + 1)) := by rw [hw, lo_eq hR hS (by decide) i2]; exact b4
  have e1 : eA_ (AR n1 n2 k w s q R (brM cs1 cs2 cs3 n1 n2 w s q R 3) 4) (cpS cs1 cs2 cs3 (k + 1)) = 0 := eA0 hS (by decide) i1
  have e2 : eA_ (AR n1 n2 k w s q R (wrapF .i64 ((brM cs1 cs2 cs3 n1 n2 w s q R 3) + 1)) 4) (cpS cs1 cs2 cs3 (k + 1)) = 0 := by rw [hw]; exact eA0 hS (by decide) i2
  have hk := fround4 (t1 := t1) (s1 := s1) (t2 := t2) (s2 := s2) (t3 := t3) (s3 := s3) (xa := xa) (xb := xb) (a := a) (b := b) f1 f2 f3 ro h1 (hP _ _) (hP _ _) hn b1 (by omega) e1 e2 q1' l1 l2
  rw [q2', q3'] at hk
  exact hk
theorem fstep4 (f1 : cs1.all Ex.flat = true) (f2 : cs2.all Ex.flat = true) (f3 : cs3.all Ex.flat = true) (h1 : okCp (argA n1 n2 (k + 1)) cs1 cs2 cs3) (hP : ∀ x d : Int, okP (AR n1 n2 k w s q R x d) (cpS cs1 cs2 cs3 (k + 1))) (hR : RV cs1 n1 (rE cs3 R) (cE_ cs3 R) (tE_ cs3 R) (pE_ cs3 R) w s q) (hS : secE (bladeE cs1 n1 cs2 n2 (rhoE cs3) (k + 1)) (flowE w s q) R (k + 1) = 0) (hb : hbM cs1 cs2 cs3 n1 n2 w s q R = true) (ro : Option Nat) (hn : (5 : Int) < D) :
    ∃ tm1 H1, Sound Tryd.prog 7 (.code BF1 ro (absT (tmL 277 (stF1 R D 5))) (heapL ((hp18 cs1 cs2 cs3 t1 s1 t2 s2 t3 s3 n1 n2 k w s q xa xb (brM cs1 cs2 cs3 n1 n2 w s q R 4) 5 a b).map (·.1))) []) (.ex .normal tm1 H1 []) ∧ Restate 18 tm1 H1 (absT (tmL 277 (stF1 R D 6))) (heapL ((hp18 cs1 cs2 cs3 t1 s1 t2 s2 t3 s3 n1 n2 k w s q xa xb (brM cs1 cs2 cs3 n1 n2 w s q R 5) 6 a b).map (·.1))) := by
  obtain ⟨b1, b2, b3, b4⟩ := br_all hR hb (j := 4) (by decide)
  have p : powE ((4 : Nat) : Int) = 16 := by decide
  rw [p] at b2
  have hw : wrapF .i64 ((brM cs1 cs2 cs3 n1 n2 w s q R 4) + 1) = (brM cs1 cs2 cs3 n1 n2 w s q R 4) + 1 := wrapF_in (by omega) (by omega)
  have p2 : powE ((5 : Int) - 1) = 16 := by decide
  have i1 : 0 ≤ (brM cs1 cs2 cs3 n1 n2 w s q R 4) ∧ (brM cs1 cs2 cs3 n1 n2 w s q R 4) ≤ powE ((5 : Int) - 1) := ⟨b1, by rw [p2]; omega⟩
  have i2 : 0 ≤ (brM cs1 cs2 cs3 n1 n2 w s q R 4) + 1 ∧ (brM cs1 cs2 cs3 n1 n2 w s q R 4) + 1 ≤ powE ((5 : Int) - 1) := ⟨by omega, by rw [p2]; omega⟩
  obtain ⟨q1, q2, q3⟩ := refine_eq hR hS hb (j := 4) (by decide)
  have q1' : gZ (AR n1 n2 k w s q R (brM cs1 cs2 cs3 n1 n2 w s q R 4) 5) (cpS cs1 cs2 cs3 (k + 1)) = 0 := q1
  have q2' : gX (AR n1 n2 k w s q R (brM cs1 cs2 cs3 n1 n2 w s q R 4) 5) (cpS cs1 cs2 cs3 (k + 1)) = (brM cs1 cs2 cs3 n1 n2 w s q R 5) := q2
  have q3' : gY (AR n1 n2 k w s q R (brM cs1 cs2 cs3 n1 n2 w s q R 4) 5) (cpS cs1 cs2 cs3 (k + 1)) = 6 := q3
  have l1 : loA (AR n1 n2 k w s q R (brM cs1 cs2 cs3 n1 n2 w s q R 4) 5) (cpS cs1 cs2 cs3 (k + 1)) ≤ 0 := by rw [lo_eq hR hS (by decide) i1]; exact b3
  have l2 : 0 < loA (AR n1 n2 k w s q R (wrapF .i64 ((brM cs1 cs2 cs3 n1 n2 w s q R 4) + 1)) 5) (cpS cs1 cs2 cs3 (k + 1)) := by rw [hw, lo_eq hR hS (by decide) i2]; exact b4
  have e1 : eA_ (AR n1 n2 k w s q R (brM cs1 cs2 cs3 n1 n2 w s q R 4) 5) (cpS cs1 cs2 cs3 (k + 1)) = 0 := eA0 hS (by decide) i1
  have e2 : eA_ (AR n1 n2 k w s q R (wrapF .i64 ((brM cs1 cs2 cs3 n1 n2 w s q R 4) + 1)) 5) (cpS cs1 cs2 cs3 (k + 1)) = 0 := by rw [hw]; exact eA0 hS (by decide) i2
  have hk := fround5 (t1 := t1) (s1 := s1) (t2 := t2) (s2 := s2) (t3 := t3) (s3 := s3) (xa := xa) (xb := xb) (a := a) (b := b) f1 f2 f3 ro h1 (hP _ _) (hP _ _) hn b1 (by omega) e1 e2 q1' l1 l2
  rw [q2', q3'] at hk
  exact hk
theorem fstep5 (f1 : cs1.all Ex.flat = true) (f2 : cs2.all Ex.flat = true) (f3 : cs3.all Ex.flat = true) (h1 : okCp (argA n1 n2 (k + 1)) cs1 cs2 cs3) (hP : ∀ x d : Int, okP (AR n1 n2 k w s q R x d) (cpS cs1 cs2 cs3 (k + 1))) (hR : RV cs1 n1 (rE cs3 R) (cE_ cs3 R) (tE_ cs3 R) (pE_ cs3 R) w s q) (hS : secE (bladeE cs1 n1 cs2 n2 (rhoE cs3) (k + 1)) (flowE w s q) R (k + 1) = 0) (hb : hbM cs1 cs2 cs3 n1 n2 w s q R = true) (ro : Option Nat) (hn : (6 : Int) < D) :
    ∃ tm1 H1, Sound Tryd.prog 7 (.code BF1 ro (absT (tmL 277 (stF1 R D 6))) (heapL ((hp18 cs1 cs2 cs3 t1 s1 t2 s2 t3 s3 n1 n2 k w s q xa xb (brM cs1 cs2 cs3 n1 n2 w s q R 5) 6 a b).map (·.1))) []) (.ex .normal tm1 H1 []) ∧ Restate 18 tm1 H1 (absT (tmL 277 (stF1 R D 7))) (heapL ((hp18 cs1 cs2 cs3 t1 s1 t2 s2 t3 s3 n1 n2 k w s q xa xb (brM cs1 cs2 cs3 n1 n2 w s q R 6) 7 a b).map (·.1))) := by
  obtain ⟨b1, b2, b3, b4⟩ := br_all hR hb (j := 5) (by decide)
  have p : powE ((5 : Nat) : Int) = 32 := by decide
  rw [p] at b2
  have hw : wrapF .i64 ((brM cs1 cs2 cs3 n1 n2 w s q R 5) + 1) = (brM cs1 cs2 cs3 n1 n2 w s q R 5) + 1 := wrapF_in (by omega) (by omega)
  have p2 : powE ((6 : Int) - 1) = 32 := by decide
  have i1 : 0 ≤ (brM cs1 cs2 cs3 n1 n2 w s q R 5) ∧ (brM cs1 cs2 cs3 n1 n2 w s q R 5) ≤ powE ((6 : Int) - 1) := ⟨b1, by rw [p2]; omega⟩
  have i2 : 0 ≤ (brM cs1 cs2 cs3 n1 n2 w s q R 5) + 1 ∧ (brM cs1 cs2 cs3 n1 n2 w s q R 5) + 1 ≤ powE ((6 : Int) - 1) := ⟨by omega, by rw [p2]; omega⟩
  obtain ⟨q1, q2, q3⟩ := refine_eq hR hS hb (j := 5) (by decide)
  have q1' : gZ (AR n1 n2 k w s q R (brM cs1 cs2 cs3 n1 n2 w s q R 5) 6) (cpS cs1 cs2 cs3 (k + 1)) = 0 := q1
  have q2' : gX (AR n1 n2 k w s q R (brM cs1 cs2 cs3 n1 n2 w s q R 5) 6) (cpS cs1 cs2 cs3 (k + 1)) = (brM cs1 cs2 cs3 n1 n2 w s q R 6) := q2
  have q3' : gY (AR n1 n2 k w s q R (brM cs1 cs2 cs3 n1 n2 w s q R 5) 6) (cpS cs1 cs2 cs3 (k + 1)) = 7 := q3
  have l1 : loA (AR n1 n2 k w s q R (brM cs1 cs2 cs3 n1 n2 w s q R 5) 6) (cpS cs1 cs2 cs3 (k + 1)) ≤ 0 := by rw [lo_eq hR hS (by decide) i1]; exact b3
  have l2 : 0 < loA (AR n1 n2 k w s q R (wrapF .i64 ((brM cs1 cs2 cs3 n1 n2 w s q R 5) + 1)) 6) (cpS cs1 cs2 cs3 (k + 1)) := by rw [hw, lo_eq hR hS (by decide) i2]; exact b4
  have e1 : eA_ (AR n1 n2 k w s q R (brM cs1 cs2 cs3 n1 n2 w s q R 5) 6) (cpS cs1 cs2 cs3 (k + 1)) = 0 := eA0 hS (by decide) i1
  have e2 : eA_ (AR n1 n2 k w s q R (wrapF .i64 ((brM cs1 cs2 cs3 n1 n2 w s q R 5) + 1)) 6) (cpS cs1 cs2 cs3 (k + 1)) = 0 := by rw [hw]; exact eA0 hS (by decide) i2
  have hk := fround6 (t1 := t1) (s1 := s1) (t2 := t2) (s2 := s2) (t3 := t3) (s3 := s3) (xa := xa) (xb := xb) (a := a) (b := b) f1 f2 f3 ro h1 (hP _ _) (hP _ _) hn b1 (by omega) e1 e2 q1' l1 l2
  rw [q2', q3'] at hk
  exact hk
theorem fstep6 (f1 : cs1.all Ex.flat = true) (f2 : cs2.all Ex.flat = true) (f3 : cs3.all Ex.flat = true) (h1 : okCp (argA n1 n2 (k + 1)) cs1 cs2 cs3) (hP : ∀ x d : Int, okP (AR n1 n2 k w s q R x d) (cpS cs1 cs2 cs3 (k + 1))) (hR : RV cs1 n1 (rE cs3 R) (cE_ cs3 R) (tE_ cs3 R) (pE_ cs3 R) w s q) (hS : secE (bladeE cs1 n1 cs2 n2 (rhoE cs3) (k + 1)) (flowE w s q) R (k + 1) = 0) (hb : hbM cs1 cs2 cs3 n1 n2 w s q R = true) (ro : Option Nat) (hn : (7 : Int) < D) :
    ∃ tm1 H1, Sound Tryd.prog 7 (.code BF1 ro (absT (tmL 277 (stF1 R D 7))) (heapL ((hp18 cs1 cs2 cs3 t1 s1 t2 s2 t3 s3 n1 n2 k w s q xa xb (brM cs1 cs2 cs3 n1 n2 w s q R 6) 7 a b).map (·.1))) []) (.ex .normal tm1 H1 []) ∧ Restate 18 tm1 H1 (absT (tmL 277 (stF1 R D 8))) (heapL ((hp18 cs1 cs2 cs3 t1 s1 t2 s2 t3 s3 n1 n2 k w s q xa xb (brM cs1 cs2 cs3 n1 n2 w s q R 7) 8 a b).map (·.1))) := by
  obtain ⟨b1, b2, b3, b4⟩ := br_all hR hb (j := 6) (by decide)
  have p : powE ((6 : Nat) : Int) = 64 := by decide
  rw [p] at b2
  have hw : wrapF .i64 ((brM cs1 cs2 cs3 n1 n2 w s q R 6) + 1) = (brM cs1 cs2 cs3 n1 n2 w s q R 6) + 1 := wrapF_in (by omega) (by omega)
  have p2 : powE ((7 : Int) - 1) = 64 := by decide
  have i1 : 0 ≤ (brM cs1 cs2 cs3 n1 n2 w s q R 6) ∧ (brM cs1 cs2 cs3 n1 n2 w s q R 6) ≤ powE ((7 : Int) - 1) := ⟨b1, by rw [p2]; omega⟩
  have i2 : 0 ≤ (brM cs1 cs2 cs3 n1 n2 w s q R 6) + 1 ∧ (brM cs1 cs2 cs3 n1 n2 w s q R 6) + 1 ≤ powE ((7 : Int) - 1) := ⟨by omega, by rw [p2]; omega⟩
  obtain ⟨q1, q2, q3⟩ := refine_eq hR hS hb (j := 6) (by decide)
  have q1' : gZ (AR n1 n2 k w s q R (brM cs1 cs2 cs3 n1 n2 w s q R 6) 7) (cpS cs1 cs2 cs3 (k + 1)) = 0 := q1
  have q2' : gX (AR n1 n2 k w s q R (brM cs1 cs2 cs3 n1 n2 w s q R 6) 7) (cpS cs1 cs2 cs3 (k + 1)) = (brM cs1 cs2 cs3 n1 n2 w s q R 7) := q2
  have q3' : gY (AR n1 n2 k w s q R (brM cs1 cs2 cs3 n1 n2 w s q R 6) 7) (cpS cs1 cs2 cs3 (k + 1)) = 8 := q3
  have l1 : loA (AR n1 n2 k w s q R (brM cs1 cs2 cs3 n1 n2 w s q R 6) 7) (cpS cs1 cs2 cs3 (k + 1)) ≤ 0 := by rw [lo_eq hR hS (by decide) i1]; exact b3
  have l2 : 0 < loA (AR n1 n2 k w s q R (wrapF .i64 ((brM cs1 cs2 cs3 n1 n2 w s q R 6) + 1)) 7) (cpS cs1 cs2 cs3 (k + 1)) := by rw [hw, lo_eq hR hS (by decide) i2]; exact b4
  have e1 : eA_ (AR n1 n2 k w s q R (brM cs1 cs2 cs3 n1 n2 w s q R 6) 7) (cpS cs1 cs2 cs3 (k + 1)) = 0 := eA0 hS (by decide) i1
  have e2 : eA_ (AR n1 n2 k w s q R (wrapF .i64 ((brM cs1 cs2 cs3 n1 n2 w s q R 6) + 1)) 7) (cpS cs1 cs2 cs3 (k + 1)) = 0 := by rw [hw]; exact eA0 hS (by decide) i2
  have hk := fround7 (t1 := t1) (s1 := s1) (t2 := t2) (s2 := s2) (t3 := t3) (s3 := s3) (xa := xa) (xb := xb) (a := a) (b := b) f1 f2 f3 ro h1 (hP _ _) (hP _ _) hn b1 (by omega) e1 e2 q1' l1 l2
  rw [q2', q3'] at hk
  exact hk
theorem fstep7 (f1 : cs1.all Ex.flat = true) (f2 : cs2.all Ex.flat = true) (f3 : cs3.all Ex.flat = true) (h1 : okCp (argA n1 n2 (k + 1)) cs1 cs2 cs3) (hP : ∀ x d : Int, okP (AR n1 n2 k w s q R x d) (cpS cs1 cs2 cs3 (k + 1))) (hR : RV cs1 n1 (rE cs3 R) (cE_ cs3 R) (tE_ cs3 R) (pE_ cs3 R) w s q) (hS : secE (bladeE cs1 n1 cs2 n2 (rhoE cs3) (k + 1)) (flowE w s q) R (k + 1) = 0) (hb : hbM cs1 cs2 cs3 n1 n2 w s q R = true) (ro : Option Nat) (hn : (8 : Int) < D) :
    ∃ tm1 H1, Sound Tryd.prog 7 (.code BF1 ro (absT (tmL 277 (stF1 R D 8))) (heapL ((hp18 cs1 cs2 cs3 t1 s1 t2 s2 t3 s3 n1 n2 k w s q xa xb (brM cs1 cs2 cs3 n1 n2 w s q R 7) 8 a b).map (·.1))) []) (.ex .normal tm1 H1 []) ∧ Restate 18 tm1 H1 (absT (tmL 277 (stF1 R D 9))) (heapL ((hp18 cs1 cs2 cs3 t1 s1 t2 s2 t3 s3 n1 n2 k w s q xa xb (brM cs1 cs2 cs3 n1 n2 w s q R 8) 9 a b).map (·.1))) := by
  obtain ⟨b1, b2, b3, b4⟩ := br_all hR hb (j := 7) (by decide)
  have p : powE ((7 : Nat) : Int) = 128 := by decide
  rw [p] at b2
  have hw : wrapF .i64 ((brM cs1 cs2 cs3 n1 n2 w s q R 7) + 1) = (brM cs1 cs2 cs3 n1 n2 w s q R 7) + 1 := wrapF_in (by omega) (by omega)
  have p2 : powE ((8 : Int) - 1) = 128 := by decide
  have i1 : 0 ≤ (brM cs1 cs2 cs3 n1 n2 w s q R 7) ∧ (brM cs1 cs2 cs3 n1 n2 w s q R 7) ≤ powE ((8 : Int) - 1) := ⟨b1, by rw [p2]; omega⟩
  have i2 : 0 ≤ (brM cs1 cs2 cs3 n1 n2 w s q R 7) + 1 ∧ (brM cs1 cs2 cs3 n1 n2 w s q R 7) + 1 ≤ powE ((8 : Int) - 1) := ⟨by omega, by rw [p2]; omega⟩
  obtain ⟨q1, q2, q3⟩ := refine_eq hR hS hb (j := 7) (by decide)
  have q1' : gZ (AR n1 n2 k w s q R (brM cs1 cs2 cs3 n1 n2 w s q R 7) 8) (cpS cs1 cs2 cs3 (k + 1)) = 0 := q1
  have q2' : gX (AR n1 n2 k w s q R (brM cs1 cs2 cs3 n1 n2 w s q R 7) 8) (cpS cs1 cs2 cs3 (k + 1)) = (brM cs1 cs2 cs3 n1 n2 w s q R 8) := q2
  have q3' : gY (AR n1 n2 k w s q R (brM cs1 cs2 cs3 n1 n2 w s q R 7) 8) (cpS cs1 cs2 cs3 (k + 1)) = 9 := q3
  have l1 : loA (AR n1 n2 k w s q R (brM cs1 cs2 cs3 n1 n2 w s q R 7) 8) (cpS cs1 cs2 cs3 (k + 1)) ≤ 0 := by rw [lo_eq hR hS (by decide) i1]; exact b3
  have l2 : 0 < loA (AR n1 n2 k w s q R (wrapF .i64 ((brM cs1 cs2 cs3 n1 n2 w s q R 7) + 1)) 8) (cpS cs1 cs2 cs3 (k + 1)) := by rw [hw, lo_eq hR hS (by decide) i2]; exact b4
  have e1 : eA_ (AR n1 n2 k w s q R (brM cs1 cs2 cs3 n1 n2 w s q R 7) 8) (cpS cs1 cs2 cs3 (k + 1)) = 0 := eA0 hS (by decide) i1
  have e2 : eA_ (AR n1 n2 k w s q R (wrapF .i64 ((brM cs1 cs2 cs3 n1 n2 w s q R 7) + 1)) 8) (cpS cs1 cs2 cs3 (k + 1)) = 0 := by rw [hw]; exact eA0 hS (by decide) i2
  have hk := fround8 (t1 := t1) (s1 := s1) (t2 := t2) (s2 := s2) (t3 := t3) (s3 := s3) (xa := xa) (xb := xb) (a := a) (b := b) f1 f2 f3 ro h1 (hP _ _) (hP _ _) hn b1 (by omega) e1 e2 q1' l1 l2
  rw [q2', q3'] at hk
  exact hk
theorem fstep8 (f1 : cs1.all Ex.flat = true) (f2 : cs2.all Ex.flat = true) (f3 : cs3.all Ex.flat = true) (h1 : okCp (argA n1 n2 (k + 1)) cs1 cs2 cs3) (hP : ∀ x d : Int, okP (AR n1 n2 k w s q R x d) (cpS cs1 cs2 cs3 (k + 1))) (hR : RV cs1 n1 (rE cs3 R) (cE_ cs3 R) (tE_ cs3 R) (pE_ cs3 R) w s q) (hS : secE (bladeE cs1 n1 cs2 n2 (rhoE cs3) (k + 1)) (flowE w s q) R (k + 1) = 0) (hb : hbM cs1 cs2 cs3 n1 n2 w s q R = true) (ro : Option Nat) (hn : (9 : Int) < D) :
    ∃ tm1 H1, Sound Tryd.prog 7 (.code BF1 ro (absT (tmL 277 (stF1 R D 9))) (heapL ((hp18 cs1 cs2 cs3 t1 s1 t2 s2 t3 s3 n1 n2 k w s q xa xb (brM cs1 cs2 cs3 n1 n2 w s q R 8) 9 a b).map (·.1))) []) (.ex .normal tm1 H1 []) ∧ Restate 18 tm1 H1 (absT (tmL 277 (stF1 R D 10))) (heapL ((hp18 cs1 cs2 cs3 t1 s1 t2 s2 t3 s3 n1 n2 k w s q xa xb (brM cs1 cs2 cs3 n1 n2 w s q R 9) 10 a b).map (·.1))) := by
  obtain ⟨b1, b2, b3, b4⟩ := br_all hR hb (j := 8) (by decide)
  have p : powE ((8 : Nat) : Int) = 256 := by decide
  rw [p] at b2
  have hw : wrapF .i64 ((brM cs1 cs2 cs3 n1 n2 w s q R 8) + 1) = (brM cs1 cs2 cs3 n1 n2 w s q R 8) + 1 := wrapF_in (by omega) (by omega)
  have p2 : powE ((9 : Int) - 1) = 256 := by decide
  have i1 : 0 ≤ (brM cs1 cs2 cs3 n1 n2 w s q R 8) ∧ (brM cs1 cs2 cs3 n1 n2 w s q R 8) ≤ powE ((9 : Int) - 1) := ⟨b1, by rw [p2]; omega⟩
  have i2 : 0 ≤ (brM cs1 cs2 cs3 n1 n2 w s q R 8) + 1 ∧ (brM cs1 cs2 cs3 n1 n2 w s q R 8) + 1 ≤ powE ((9 : Int) - 1) := ⟨by omega, by rw [p2]; omega⟩
  obtain ⟨q1, q2, q3⟩ := refine_eq hR hS hb (j := 8) (by decide)
  have q1' : gZ (AR n1 n2 k w s q R (brM cs1 cs2 cs3 n1 n2 w s q R 8) 9) (cpS cs1 cs2 cs3 (k + 1)) = 0 := q1
  have q2' : gX (AR n1 n2 k w s q R (brM cs1 cs2 cs3 n1 n2 w s q R 8) 9) (cpS cs1 cs2 cs3 (k + 1)) = (brM cs1 cs2 cs3 n1 n2 w s q R 9) := q2
  have q3' : gY (AR n1 n2 k w s q R (brM cs1 cs2 cs3 n1 n2 w s q R 8) 9) (cpS cs1 cs2 cs3 (k + 1)) = 10 := q3
  have l1 : loA (AR n1 n2 k w s q R (brM cs1 cs2 cs3 n1 n2 w s q R 8) 9) (cpS cs1 cs2 cs3 (k + 1)) ≤ 0 := by rw [lo_eq hR hS (by decide) i1]; exact b3
  have l2 : 0 < loA (AR n1 n2 k w s q R (wrapF .i64 ((brM cs1 cs2 cs3 n1 n2 w s q R 8) + 1)) 9) (cpS cs1 cs2 cs3 (k + 1)) := by rw [hw, lo_eq hR hS (by decide) i2]; exact b4
  have e1 : eA_ (AR n1 n2 k w s q R (brM cs1 cs2 cs3 n1 n2 w s q R 8) 9) (cpS cs1 cs2 cs3 (k + 1)) = 0 := eA0 hS (by decide) i1
  have e2 : eA_ (AR n1 n2 k w s q R (wrapF .i64 ((brM cs1 cs2 cs3 n1 n2 w s q R 8) + 1)) 9) (cpS cs1 cs2 cs3 (k + 1)) = 0 := by rw [hw]; exact eA0 hS (by decide) i2
  have hk := fround9 (t1 := t1) (s1 := s1) (t2 := t2) (s2 := s2) (t3 := t3) (s3 := s3) (xa := xa) (xb := xb) (a := a) (b := b) f1 f2 f3 ro h1 (hP _ _) (hP _ _) hn b1 (by omega) e1 e2 q1' l1 l2
  rw [q2', q3'] at hk
  exact hk
theorem floop1 (f1 : cs1.all Ex.flat = true) (f2 : cs2.all Ex.flat = true) (f3 : cs3.all Ex.flat = true) (h1 : okCp (argA n1 n2 (k + 1)) cs1 cs2 cs3) (hP : ∀ x d : Int, okP (AR n1 n2 k w s q R x d) (cpS cs1 cs2 cs3 (k + 1))) (hR : RV cs1 n1 (rE cs3 R) (cE_ cs3 R) (tE_ cs3 R) (pE_ cs3 R) w s q) (hS : secE (bladeE cs1 n1 cs2 n2 (rhoE cs3) (k + 1)) (flowE w s q) R (k + 1) = 0) (hb : hbM cs1 cs2 cs3 n1 n2 w s q R = true) (m : Nat) (hm : m ≤ 9) (hD : D = (m : Int) + 1) (ro : Option Nat) {tm0 : Array Value} {H0 : CH} (hk : H0.length = 18) (hst : Restate 18 tm0 H0 (absT (tmL 277 (stF1 R D 1))) (heapL ((hp18 cs1 cs2 cs3 t1 s1 t2 s2 t3 s3 n1 n2 k w s q xa xb (brM cs1 cs2 cs3 n1 n2 w s q R 0) 1 a b).map (·.1)))) :
    Sound Tryd.prog 7 (.code (.loop BF1) ro tm0 H0 []) (.ex (.exit 0) (absT (tmL 277 (stF1 R D ((m + 1 : Nat) : Int)))) (heapL ((hp18 cs1 cs2 cs3 t1 s1 t2 s2 t3 s3 n1 n2 k w s q xa xb (brM cs1 cs2 cs3 n1 n2 w s q R m) ((m + 1 : Nat) : Int) a b).map (·.1))) []) :=
  count_loop (P := Tryd.prog) (G := 7) (b := BF1) (N := 277) (k := 18) (st := fun j => stF1 R D ((j + 1 : Nat) : Int)) (hp := fun j => hp18 cs1 cs2 cs3 t1 s1 t2 s2 t3 s3 n1 n2 k w s q xa xb (brM cs1 cs2 cs3 n1 n2 w s q R j) ((j + 1 : Nat) : Int) a b) (lF := stF1 R D ((m + 1 : Nat) : Int)) (x := .exit 0) m (fun h => by cases h)
    (fun j ro hj => by
      have hc : j = 0 ∨ j = 1 ∨ j = 2 ∨ j = 3 ∨ j = 4 ∨ j = 5 ∨ j = 6 ∨ j = 7 ∨ j = 8 := by omega
      rcases hc with rfl | rfl | rfl | rfl | rfl | rfl | rfl | rfl | rfl
      · exact fstep0 f1 f2 f3 h1 hP hR hS hb ro (by omega)
      · exact fstep1 f1 f2 f3 h1 hP hR hS hb ro (by omega)
      · exact fstep2 f1 f2 f3 h1 hP hR hS hb ro (by omega)
      · exact fstep3 f1 f2 f3 h1 hP hR hS hb ro (by omega)
      · exact fstep4 f1 f2 f3 h1 hP hR hS hb ro (by omega)
      · exact fstep5 f1 f2 f3 h1 hP hR hS hb ro (by omega)
      · exact fstep6 f1 f2 f3 h1 hP hR hS hb ro (by omega)
      · exact fstep7 f1 f2 f3 h1 hP hR hS hb ro (by omega)
      · exact fstep8 f1 f2 f3 h1 hP hR hS hb ro (by omega))
    (fun ro => fend1 f1 f2 f3 ro _ (by omega)) ro hk (by omega) hst
end
end Go.Proofs.YtbocpikgochioaaDoor.Ways
namespace Go.Proofs.YtbocpikgochioaaDoor.Ways
open Go Go.Ex
section
variable (cs1 cs2 cs3 : List Value) (t1 s1 t2 s2 t3 s3 n1 n2 k : Nat) (w s q xa xb R D n F0 F1 G0 G1 e6 e7 S : Int)
noncomputable def hp26 : List (CO × Bool) := baseF29 cs1 cs2 cs3 t1 s1 t2 s2 t3 s3 n1 n2 k w s q xa xb R D 0 n 0 0 F0 F1 G0 G1 e6 e7 S
noncomputable def L29 : LTab := regE noL Fn.top_Finest 29 277 26 OF29 (liveF29 cs1 cs2 cs3 t1 s1 t2 s2 t3 s3 n1 n2 k w s q xa xb R D 0 n 0 0 F0 F1 G0 G1 e6 e7 S 0) (baseF29 cs1 cs2 cs3 t1 s1 t2 s2 t3 s3 n1 n2 k w s q xa xb R D 0 n 0 0 F0 F1 G0 G1 e6 e7 S) (.leaf (.ex .normal (tmL 277 (liveF29 cs1 cs2 cs3 t1 s1 t2 s2 t3 s3 n1 n2 k w s q xa xb R D 0 n 0 0 F0 F1 G0 G1 e6 e7 S 16383)) (heapL ((hpF29 cs1 cs2 cs3 t1 s1 t2 s2 t3 s3 n1 n2 k w s q xa xb R D 0 n 0 0 F0 F1 G0 G1 e6 e7 S 16383).map (·.1))) []))
noncomputable def L30 : LTab := regE (L29 cs1 cs2 cs3 t1 s1 t2 s2 t3 s3 n1 n2 k w s q xa xb R D n F0 F1 G0 G1 e6 e7 S) Fn.top_Finest 30 277 30 OF30 (liveF30 cs1 cs2 cs3 t1 s1 t2 s2 t3 s3 n1 n2 k w s q xa xb R D (hNE cs1 cs2 cs3 n1 n2 k w s q n) n (mLoE cs1 cs2 cs3 n1 n2 k w s q n) (mHiE cs1 cs2 cs3 n1 n2 k w s q n) F0 F1 G0 G1 e6 e7 S 0) (baseF30 cs1 cs2 cs3 t1 s1 t2 s2 t3 s3 n1 n2 k w s q xa xb R D (hNE cs1 cs2 cs3 n1 n2 k w s q n) n (mLoE cs1 cs2 cs3 n1 n2 k w s q n) (mHiE cs1 cs2 cs3 n1 n2 k w s q n) F0 F1 G0 G1 e6 e7 S) (.leaf (.ex .normal (tmL 277 (liveF30 cs1 cs2 cs3 t1 s1 t2 s2 t3 s3 n1 n2 k w s q xa xb R D (hNE cs1 cs2 cs3 n1 n2 k w s q n) n (mLoE cs1 cs2 cs3 n1 n2 k w s q n) (mHiE cs1 cs2 cs3 n1 n2 k w s q n) F0 F1 G0 G1 e6 e7 S 16383)) (heapL ((hpF30 cs1 cs2 cs3 t1 s1 t2 s2 t3 s3 n1 n2 k w s q xa xb R D (hNE cs1 cs2 cs3 n1 n2 k w s q n) n (mLoE cs1 cs2 cs3 n1 n2 k w s q n) (mHiE cs1 cs2 cs3 n1 n2 k w s q n) F0 F1 G0 G1 e6 e7 S 16383).map (·.1))) []))
end
def stF2 (e6 e7 S n : Int) : List (Nat × Value) := [(3, pt 7 0), (4, pt 8 0), (20, pt 21 0), (21, i e6), (22, pt 25 0), (23, i e7), (24, i S), (25, i n)]
end Go.Proofs.YtbocpikgochioaaDoor.Ways
namespace Go.Proofs.YtbocpikgochioaaDoor.Ways
open Go Go.Ex
section
variable {cs1 cs2 cs3 : List Value} {t1 s1 t2 s2 t3 s3 n1 n2 k : Nat} {w s q xa xb R D n F0 F1 G0 G1 e6 e7 S : Int}
theorem g29 (cs1 cs2 cs3 : List Value) (t1 s1 t2 s2 t3 s3 n1 n2 k : Nat) (w s q xa xb R D x n a b F0 F1 G0 G1 e6 e7 S : Int) : goodR 26 26 (liveF29 cs1 cs2 cs3 t1 s1 t2 s2 t3 s3 n1 n2 k w s q xa xb R D x n a b F0 F1 G0 G1 e6 e7 S 0) (baseF29 cs1 cs2 cs3 t1 s1 t2 s2 t3 s3 n1 n2 k w s q xa xb R D x n a b F0 F1 G0 G1 e6 e7 S) (List.range 26) = true := by kernel_rfl
theorem g30 (cs1 cs2 cs3 : List Value) (t1 s1 t2 s2 t3 s3 n1 n2 k : Nat) (w s q xa xb R D x n a b F0 F1 G0 G1 e6 e7 S : Int) : goodR 30 30 (liveF30 cs1 cs2 cs3 t1 s1 t2 s2 t3 s3 n1 n2 k w s q xa xb R D x n a b F0 F1 G0 G1 e6 e7 S 0) (baseF30 cs1 cs2 cs3 t1 s1 t2 s2 t3 s3 n1 n2 k w s q xa xb R D x n a b F0 F1 G0 G1 e6 e7 S) (List.range 30) = true := by kernel_rfl
theorem ls30 (f1 : cs1.all Ex.flat = true) (f2 : cs2.all Ex.flat = true) (f3 : cs3.all Ex.flat = true) (h1 : okCp (argA n1 n2 (k + 1)) cs1 cs2 cs3) (h2 : okFc (AN n1 n2 k w s q n) (cpS cs1 cs2 cs3 (k + 1))) : LSound Tryd.prog 7 (L30 cs1 cs2 cs3 t1 s1 t2 s2 t3 s3 n1 n2 k w s q xa xb R D n F0 F1 G0 G1 e6 e7 S) := by
  have a29 : LSound Tryd.prog 7 (L29 cs1 cs2 cs3 t1 s1 t2 s2 t3 s3 n1 n2 k w s q xa xb R D n F0 F1 G0 G1 e6 e7 S) := by
    refine LSound.region .none (g29 ..) (fbF29 f1 f2 f3) fun r hr ro tm0 H0 hk hst => ?_
    cases hr
    exact sndF29 f1 f2 f3 h1 h2 ro hk hst
  refine LSound.region a29 (g30 ..) (fbF30 f1 f2 f3) fun r hr ro tm0 H0 hk hst => ?_
  cases hr
  exact sndF30 f1 f2 f3 h1 h2 ro hk hst
theorem flat26 (f1 : cs1.all Ex.flat = true) (f2 : cs2.all Ex.flat = true) (f3 : cs3.all Ex.flat = true) : ∀ o, (o, true) ∈ hp26 cs1 cs2 cs3 t1 s1 t2 s2 t3 s3 n1 n2 k w s q xa xb R D n F0 F1 G0 G1 e6 e7 S → FlatO o := fbF29 f1 f2 f3
theorem fr0 (f1 : cs1.all Ex.flat = true) (f2 : cs2.all Ex.flat = true) (f3 : cs3.all Ex.flat = true) (h1 : okCp (argA n1 n2 (k + 1)) cs1 cs2 cs3) (h2 : okFc (AN n1 n2 k w s q n) (cpS cs1 cs2 cs3 (k + 1))) (ro : Option Nat) (hn : 1 ≤ n) (he : (hNE cs1 cs2 cs3 n1 n2 k w s q n) = 0) (h6 : e6 = 0) (h7 : e7 = 0) (u1 : (mLoE cs1 cs2 cs3 n1 n2 k w s q n) ≤ F0) (u2 : F1 ≤ (mHiE cs1 cs2 cs3 n1 n2 k w s q n)) (u3 : wrapF .i64 (S * (tLoE cs1 cs2 cs3 n1 n2 k w s q n)) ≤ G0) (u4 : G1 ≤ wrapF .i64 (S * (tHiE cs1 cs2 cs3 n1 n2 k w s q n))) :
    ∃ tm1 H1, Sound Tryd.prog 7 (.code BF2 ro (absT (tmL 277 (stF2 e6 e7 S n))) (heapL ((hp26 cs1 cs2 cs3 t1 s1 t2 s2 t3 s3 n1 n2 k w s q xa xb R D n F0 F1 G0 G1 e6 e7 S).map (·.1))) []) (.ex .normal tm1 H1 []) ∧ Restate 26 tm1 H1 (absT (tmL 277 (stF2 e6 e7 (wrapF .i64 (S * 4)) (wrapF .i64 (n - 1))))) (heapL ((hp26 cs1 cs2 cs3 t1 s1 t2 s2 t3 s3 n1 n2 k w s q xa xb R D n F0 F1 G0 G1 e6 e7 S).map (·.1))) := by
  have hq : [leF 1 n, !eqF (hNE cs1 cs2 cs3 n1 n2 k w s q n) e6, !eqF (hNE cs1 cs2 cs3 n1 n2 k w s q n) e7, !eqF e6 e7, !eqF e6 0, eqF e6 0, ltF F0 (mLoE cs1 cs2 cs3 n1 n2 k w s q n), ltF (mHiE cs1 cs2 cs3 n1 n2 k w s q n) F1, ltF G0 (wrapF .i64 (S * (tLoE cs1 cs2 cs3 n1 n2 k w s q n))), ltF (wrapF .i64 (S * (tHiE cs1 cs2 cs3 n1 n2 k w s q n))) G1] = List.take [leF 1 n, !eqF (hNE cs1 cs2 cs3 n1 n2 k w s q n) e6, !eqF (hNE cs1 cs2 cs3 n1 n2 k w s q n) e7, !eqF e6 e7, !eqF e6 0, eqF e6 0, ltF F0 (mLoE cs1 cs2 cs3 n1 n2 k w s q n), ltF (mHiE cs1 cs2 cs3 n1 n2 k w s q n) F1, ltF G0 (wrapF .i64 (S * (tLoE cs1 cs2 cs3 n1 n2 k w s q n))), ltF (wrapF .i64 (S * (tHiE cs1 cs2 cs3 n1 n2 k w s q n))) G1].length [true, false, false, false, false, true, false, false, false, false] := by
    rw [he, h6, h7, leF_eq, ltF_eq, ltF_eq, ltF_eq, ltF_eq, decide_eq_true hn, decide_eq_false (show ¬ F0 < (mLoE cs1 cs2 cs3 n1 n2 k w s q n) by omega), decide_eq_false (show ¬ (mHiE cs1 cs2 cs3 n1 n2 k w s q n) < F1 by omega), decide_eq_false (show ¬ G0 < wrapF .i64 (S * (tLoE cs1 cs2 cs3 n1 n2 k w s q n)) by omega), decide_eq_false (show ¬ wrapF .i64 (S * (tHiE cs1 cs2 cs3 n1 n2 k w s q n)) < G1 by omega)]
    rfl
  have hk := round_of (P := Tryd.prog) (G := 7) (C := ⟨TU1, spFi, off_, L30 cs1 cs2 cs3 t1 s1 t2 s2 t3 s3 n1 n2 k w s q xa xb R D n F0 F1 G0 G1 e6 e7 S⟩) (n := 60) (f := Fn.top_Finest) (b := BF2) (ro := ro) (tm := tmL 277 (stF2 e6 e7 S n)) (H := (heapL ((hp26 cs1 cs2 cs3 t1 s1 t2 s2 t3 s3 n1 n2 k w s q xa xb R D n F0 F1 G0 G1 e6 e7 S).map (·.1)))) (df := []) (df1 := []) (k := 26) (N := 277) (len := 34) (x := .normal) (List.range 26) (stF2 e6 e7 (wrapF .i64 (S * 4)) (wrapF .i64 (n - 1))) (hp26 cs1 cs2 cs3 t1 s1 t2 s2 t3 s3 n1 n2 k w s q xa xb R D n F0 F1 G0 G1 e6 e7 S) [true, false, false, false, false, true, false, false, false, false] [leF 1 n, !eqF (hNE cs1 cs2 cs3 n1 n2 k w s q n) e6, !eqF (hNE cs1 cs2 cs3 n1 n2 k w s q n) e7, !eqF e6 e7, !eqF e6 0, eqF e6 0, ltF F0 (mLoE cs1 cs2 cs3 n1 n2 k w s q n), ltF (mHiE cs1 cs2 cs3 n1 n2 k w s q n) F1, ltF G0 (wrapF .i64 (S * (tLoE cs1 cs2 cs3 n1 n2 k w s q n))), ltF (wrapF .i64 (S * (tHiE cs1 cs2 cs3 n1 n2 k w s q n))) G1] tsU1 (ls30 f1 f2 f3 h1 h2) (by kernel_rfl) (by kernel_rfl) hq (by kernel_rfl) (flat26 f1 f2 f3)
  exact hk
theorem fr7 (f1 : cs1.all Ex.flat = true) (f2 : cs2.all Ex.flat = true) (f3 : cs3.all Ex.flat = true) (h1 : okCp (argA n1 n2 (k + 1)) cs1 cs2 cs3) (h2 : okFc (AN n1 n2 k w s q n) (cpS cs1 cs2 cs3 (k + 1))) (ro : Option Nat) (hn : 1 ≤ n) (he : (hNE cs1 cs2 cs3 n1 n2 k w s q n) = 7) (h6 : e6 = 7) (h7 : e7 = 7) :
    ∃ tm1 H1, Sound Tryd.prog 7 (.code BF2 ro (absT (tmL 277 (stF2 e6 e7 S n))) (heapL ((hp26 cs1 cs2 cs3 t1 s1 t2 s2 t3 s3 n1 n2 k w s q xa xb R D n F0 F1 G0 G1 e6 e7 S).map (·.1))) []) (.ex .normal tm1 H1 []) ∧ Restate 26 tm1 H1 (absT (tmL 277 (stF2 e6 e7 (wrapF .i64 (S * 4)) (wrapF .i64 (n - 1))))) (heapL ((hp26 cs1 cs2 cs3 t1 s1 t2 s2 t3 s3 n1 n2 k w s q xa xb R D n F0 F1 G0 G1 e6 e7 S).map (·.1))) := by
  have hq : [leF 1 n, !eqF (hNE cs1 cs2 cs3 n1 n2 k w s q n) e6, !eqF (hNE cs1 cs2 cs3 n1 n2 k w s q n) e7, !eqF e6 e7, !eqF e6 0, !eqF e6 7, eqF e6 0] = List.take [leF 1 n, !eqF (hNE cs1 cs2 cs3 n1 n2 k w s q n) e6, !eqF (hNE cs1 cs2 cs3 n1 n2 k w s q n) e7, !eqF e6 e7, !eqF e6 0, !eqF e6 7, eqF e6 0].length [true, false, false, false, true, false, false] := by
    rw [he, h6, h7, leF_eq, decide_eq_true hn]
    rfl
  have hk := round_of (P := Tryd.prog) (G := 7) (C := ⟨TU1, spFi, off_, L30 cs1 cs2 cs3 t1 s1 t2 s2 t3 s3 n1 n2 k w s q xa xb R D n F0 F1 G0 G1 e6 e7 S⟩) (n := 60) (f := Fn.top_Finest) (b := BF2) (ro := ro) (tm := tmL 277 (stF2 e6 e7 S n)) (H := (heapL ((hp26 cs1 cs2 cs3 t1 s1 t2 s2 t3 s3 n1 n2 k w s q xa xb R D n F0 F1 G0 G1 e6 e7 S).map (·.1)))) (df := []) (df1 := []) (k := 26) (N := 277) (len := 34) (x := .normal) (List.range 26) (stF2 e6 e7 (wrapF .i64 (S * 4)) (wrapF .i64 (n - 1))) (hp26 cs1 cs2 cs3 t1 s1 t2 s2 t3 s3 n1 n2 k w s q xa xb R D n F0 F1 G0 G1 e6 e7 S) [true, false, false, false, true, false, false] [leF 1 n, !eqF (hNE cs1 cs2 cs3 n1 n2 k w s q n) e6, !eqF (hNE cs1 cs2 cs3 n1 n2 k w s q n) e7, !eqF e6 e7, !eqF e6 0, !eqF e6 7, eqF e6 0] tsU1 (ls30 f1 f2 f3 h1 h2) (by kernel_rfl) (by kernel_rfl) hq (by kernel_rfl) (flat26 f1 f2 f3)
  exact hk
theorem fend2 (f1 : cs1.all Ex.flat = true) (f2 : cs2.all Ex.flat = true) (f3 : cs3.all Ex.flat = true) (ro : Option Nat) (hn : ¬ 1 ≤ n) :
    ∃ tm1 H1, Sound Tryd.prog 7 (.code BF2 ro (absT (tmL 277 (stF2 e6 e7 S n))) (heapL ((hp26 cs1 cs2 cs3 t1 s1 t2 s2 t3 s3 n1 n2 k w s q xa xb R D n F0 F1 G0 G1 e6 e7 S).map (·.1))) []) (.ex (.exit 2) tm1 H1 []) ∧ Restate 26 tm1 H1 (absT (tmL 277 (stF2 e6 e7 S n))) (heapL ((hp26 cs1 cs2 cs3 t1 s1 t2 s2 t3 s3 n1 n2 k w s q xa xb R D n F0 F1 G0 G1 e6 e7 S).map (·.1))) := by
  have hq : [leF 1 n] = List.take [leF 1 n].length [false] := by
    rw [leF_eq, decide_eq_false hn]; rfl
  have hk := round_of (P := Tryd.prog) (G := 7) (C := ⟨TU1, spFi, off_, noL⟩) (n := 60) (f := Fn.top_Finest) (b := BF2) (ro := ro) (tm := tmL 277 (stF2 e6 e7 S n)) (H := (heapL ((hp26 cs1 cs2 cs3 t1 s1 t2 s2 t3 s3 n1 n2 k w s q xa xb R D n F0 F1 G0 G1 e6 e7 S).map (·.1)))) (df := []) (df1 := []) (k := 26) (N := 277) (len := 26) (x := .exit 2) (List.range 26) (stF2 e6 e7 S n) (hp26 cs1 cs2 cs3 t1 s1 t2 s2 t3 s3 n1 n2 k w s q xa xb R D n F0 F1 G0 G1 e6 e7 S) [false] [leF 1 n] tsU1 .none (by kernel_rfl) (by kernel_rfl) hq (by kernel_rfl) (flat26 f1 f2 f3)
  exact hk
end
section
variable {cs1 cs2 cs3 : List Value} {t1 s1 t2 s2 t3 s3 n1 n2 k : Nat} {w s q xa xb R D F0 F1 G0 G1 e6 e7 : Int}
/-- what loop 2 needs at each depth -/
structure Fin2 (cs1 cs2 cs3 : List Value) (n1 n2 k : Nat) (w s q D F0 F1 G0 G1 e6 e7 : Int) (m : Nat) : Prop where
  dm : D = (m : Int)
  le : m ≤ 10
  ok : ∀ n : Int, 1 ≤ n → n ≤ D → okFc (AN n1 n2 k w s q n) (cpS cs1 cs2 cs3 (k + 1))
  cs : (e6 = 0 ∧ e7 = 0 ∧ ∀ j : Nat, j < m → hNE cs1 cs2 cs3 n1 n2 k w s q (D - (j : Int)) = 0 ∧ mLoE cs1 cs2 cs3 n1 n2 k w s q (D - (j : Int)) ≤ F0 ∧ F1 ≤ mHiE cs1 cs2 cs3 n1 n2 k w s q (D - (j : Int)) ∧ wrapF .i64 (((4 ^ j : Nat) : Int) * tLoE cs1 cs2 cs3 n1 n2 k w s q (D - (j : Int))) ≤ G0 ∧ G1 ≤ wrapF .i64 (((4 ^ j : Nat) : Int) * tHiE cs1 cs2 cs3 n1 n2 k w s q (D - (j : Int)))) ∨ (e6 = 7 ∧ e7 = 7 ∧ ∀ j : Nat, j < m → hNE cs1 cs2 cs3 n1 n2 k w s q (D - (j : Int)) = 7)
theorem four_step {j : Nat} (hj : j ≤ 10) : wrapF .i64 (((4 ^ j : Nat) : Int) * 4) = ((4 ^ (j + 1) : Nat) : Int) := by
  have h := Nat.pow_le_pow_right (n := 4) (by decide) hj
  have h10 : (4 : Nat) ^ 10 = 1048576 := by decide
  rw [h10] at h
  rw [Nat.pow_succ]
  generalize 4 ^ j = u at *
  rw [wrapF_in (by omega) (by omega)]
  omega
theorem floop2 (f1 : cs1.all Ex.flat = true) (f2 : cs2.all Ex.flat = true) (f3 : cs3.all Ex.flat = true) (h1 : okCp (argA n1 n2 (k + 1)) cs1 cs2 cs3) (m : Nat) (h : Fin2 cs1 cs2 cs3 n1 n2 k w s q D F0 F1 G0 G1 e6 e7 m) (ro : Option Nat) {tm0 : Array Value} {H0 : CH} (hk : H0.length = 26) (hst : Restate 26 tm0 H0 (absT (tmL 277 (stF2 e6 e7 1 D))) (heapL ((hp26 cs1 cs2 cs3 t1 s1 t2 s2 t3 s3 n1 n2 k w s q xa xb R D 0 F0 F1 G0 G1 e6 e7 0).map (·.1)))) :
    Sound Tryd.prog 7 (.code (.loop BF2) ro tm0 H0 []) (.ex (.exit 2) (absT (tmL 277 (stF2 e6 e7 ((4 ^ m : Nat) : Int) (D - (m : Int))))) (heapL ((hp26 cs1 cs2 cs3 t1 s1 t2 s2 t3 s3 n1 n2 k w s q xa xb R D 0 F0 F1 G0 G1 e6 e7 0).map (·.1))) []) := by
  have hst' : Restate 26 tm0 H0 (absT (tmL 277 (stF2 e6 e7 ((4 ^ 0 : Nat) : Int) (D - ((0 : Nat) : Int))))) (heapL ((hp26 cs1 cs2 cs3 t1 s1 t2 s2 t3 s3 n1 n2 k w s q xa xb R D 0 F0 F1 G0 G1 e6 e7 0).map (·.1))) := by
    rw [show D - ((0 : Nat) : Int) = D from by omega]; exact hst
  exact count_loop (P := Tryd.prog) (G := 7) (b := BF2) (N := 277) (k := 26) (st := fun j => stF2 e6 e7 ((4 ^ j : Nat) : Int) (D - (j : Int))) (hp := fun _ => hp26 cs1 cs2 cs3 t1 s1 t2 s2 t3 s3 n1 n2 k w s q xa xb R D 0 F0 F1 G0 G1 e6 e7 0) (lF := stF2 e6 e7 ((4 ^ m : Nat) : Int) (D - (m : Int))) (x := .exit 2) m (fun h => by cases h)
    (fun j ro hj => by
      have hd := h.dm
      have hl := h.le
      have e1 := four_step (j := j) (by omega)
      have e2 : wrapF .i64 (D - (j : Int) - 1) = D - ((j + 1 : Nat) : Int) := by rw [wrapF_in (by omega) (by omega)]; omega
      have ho := h.ok (D - (j : Int)) (by omega) (by omega)
      rcases h.cs with ⟨h6, h7, hc⟩ | ⟨h6, h7, hc⟩
      · obtain ⟨he, u1, u2, u3, u4⟩ := hc j hj
        have hk := fr0 (t1 := t1) (s1 := s1) (t2 := t2) (s2 := s2) (t3 := t3) (s3 := s3) (xa := xa) (xb := xb) (R := R) (D := D) f1 f2 f3 h1 ho ro (by omega) he h6 h7 u1 u2 u3 u4
        rw [e1, e2] at hk
        exact hk
      · have hk := fr7 (t1 := t1) (s1 := s1) (t2 := t2) (s2 := s2) (t3 := t3) (s3 := s3) (xa := xa) (xb := xb) (R := R) (D := D) (F0 := F0) (F1 := F1) (G0 := G0) (G1 := G1) (S := ((4 ^ j : Nat) : Int)) f1 f2 f3 h1 ho ro (by omega) (hc j hj) h6 h7
        rw [e1, e2] at hk
        exact hk)
    (fun ro => fend2 (R := R) (D := D) f1 f2 f3 ro (by have := h.dm; omega)) ro hk (by omega) hst'
end
end Go.Proofs.YtbocpikgochioaaDoor.Ways
namespace Go.Proofs.YtbocpikgochioaaDoor.Ways
open Go Go.Ex
section
variable (cs1 cs2 cs3 : List Value) (t1 s1 t2 s2 t3 s3 n1 n2 k : Nat) (w s q xa xb R D : Int)
noncomputable def LV4 : LTab := regE noL Fn.top_Finest 4 277 10 OF4 (liveF4 cs1 cs2 cs3 t1 s1 t2 s2 t3 s3 n1 n2 k w s q xa xb R D 0 0 0 0 0 0 0 0 0 0 0 0) (baseF4 cs1 cs2 cs3 t1 s1 t2 s2 t3 s3 n1 n2 k w s q xa xb R D 0 0 0 0 0 0 0 0 0 0 0) (.leaf (.ex .normal (tmL 277 (liveF4 cs1 cs2 cs3 t1 s1 t2 s2 t3 s3 n1 n2 k w s q xa xb R D 0 0 0 0 0 0 0 0 0 0 0 16383)) (heapL ((hpF4 cs1 cs2 cs3 t1 s1 t2 s2 t3 s3 n1 n2 k w s q xa xb R D 0 0 0 0 0 0 0 0 0 0 0 16383).map (·.1))) []))
noncomputable def LV5 : LTab := regE (LV4 cs1 cs2 cs3 t1 s1 t2 s2 t3 s3 n1 n2 k w s q xa xb R D) Fn.top_Finest 5 277 14 OF5 (liveF5 cs1 cs2 cs3 t1 s1 t2 s2 t3 s3 n1 n2 k w s q xa xb R D (fX (AF n1 n2 k w s q R 1) (cpS cs1 cs2 cs3 (k + 1))) (fY (AF n1 n2 k w s q R 1) (cpS cs1 cs2 cs3 (k + 1))) 0 0 0 0 0 0 (fZ (AF n1 n2 k w s q R 1) (cpS cs1 cs2 cs3 (k + 1))) 0 0 0) (baseF5 cs1 cs2 cs3 t1 s1 t2 s2 t3 s3 n1 n2 k w s q xa xb R D (fX (AF n1 n2 k w s q R 1) (cpS cs1 cs2 cs3 (k + 1))) (fY (AF n1 n2 k w s q R 1) (cpS cs1 cs2 cs3 (k + 1))) 0 0 0 0 0 0 (fZ (AF n1 n2 k w s q R 1) (cpS cs1 cs2 cs3 (k + 1))) 0 0) (.leaf (.ex .normal (tmL 277 (liveF5 cs1 cs2 cs3 t1 s1 t2 s2 t3 s3 n1 n2 k w s q xa xb R D (fX (AF n1 n2 k w s q R 1) (cpS cs1 cs2 cs3 (k + 1))) (fY (AF n1 n2 k w s q R 1) (cpS cs1 cs2 cs3 (k + 1))) 0 0 0 0 0 0 (fZ (AF n1 n2 k w s q R 1) (cpS cs1 cs2 cs3 (k + 1))) 0 0 32767)) (heapL ((hpF5 cs1 cs2 cs3 t1 s1 t2 s2 t3 s3 n1 n2 k w s q xa xb R D (fX (AF n1 n2 k w s q R 1) (cpS cs1 cs2 cs3 (k + 1))) (fY (AF n1 n2 k w s q R 1) (cpS cs1 cs2 cs3 (k + 1))) 0 0 0 0 0 0 (fZ (AF n1 n2 k w s q R 1) (cpS cs1 cs2 cs3 (k + 1))) 0 0 32767).map (·.1))) []))
noncomputable def LV11 : LTab := loopE (LV5 cs1 cs2 cs3 t1 s1 t2 s2 t3 s3 n1 n2 k w s q xa xb R D) Fn.top_Finest 11 277 18 BF1 (stF1 R D 1) (hp18 cs1 cs2 cs3 t1 s1 t2 s2 t3 s3 n1 n2 k w s q xa xb (fX (AF n1 n2 k w s q R 1) (cpS cs1 cs2 cs3 (k + 1))) (fY (AF n1 n2 k w s q R 1) (cpS cs1 cs2 cs3 (k + 1))) (fX (AF n1 n2 k w s q R D) (cpS cs1 cs2 cs3 (k + 1))) (fY (AF n1 n2 k w s q R D) (cpS cs1 cs2 cs3 (k + 1)))) (.leaf (.ex (.exit 0) (tmL 277 (stF1 R D D)) (heapL ((hp18 cs1 cs2 cs3 t1 s1 t2 s2 t3 s3 n1 n2 k w s q xa xb (brM cs1 cs2 cs3 n1 n2 w s q R (D - 1).toNat) D (fX (AF n1 n2 k w s q R D) (cpS cs1 cs2 cs3 (k + 1))) (fY (AF n1 n2 k w s q R D) (cpS cs1 cs2 cs3 (k + 1)))).map (·.1))) []))
noncomputable def LV23 : LTab := regE (LV11 cs1 cs2 cs3 t1 s1 t2 s2 t3 s3 n1 n2 k w s q xa xb R D) Fn.top_Finest 23 277 18 OF23 (liveF23 cs1 cs2 cs3 t1 s1 t2 s2 t3 s3 n1 n2 k w s q xa xb R D (brM cs1 cs2 cs3 n1 n2 w s q R (D - 1).toNat) D (fX (AF n1 n2 k w s q R D) (cpS cs1 cs2 cs3 (k + 1))) (fY (AF n1 n2 k w s q R D) (cpS cs1 cs2 cs3 (k + 1))) 0 0 0 0 0 0 0 0) (baseF23 cs1 cs2 cs3 t1 s1 t2 s2 t3 s3 n1 n2 k w s q xa xb R D (brM cs1 cs2 cs3 n1 n2 w s q R (D - 1).toNat) D (fX (AF n1 n2 k w s q R D) (cpS cs1 cs2 cs3 (k + 1))) (fY (AF n1 n2 k w s q R D) (cpS cs1 cs2 cs3 (k + 1))) 0 0 0 0 0 0 0) (.leaf (.ex .normal (tmL 277 (liveF23 cs1 cs2 cs3 t1 s1 t2 s2 t3 s3 n1 n2 k w s q xa xb R D (brM cs1 cs2 cs3 n1 n2 w s q R (D - 1).toNat) D (fX (AF n1 n2 k w s q R D) (cpS cs1 cs2 cs3 (k + 1))) (fY (AF n1 n2 k w s q R D) (cpS cs1 cs2 cs3 (k + 1))) 0 0 0 0 0 0 0 16383)) (heapL ((hpF23 cs1 cs2 cs3 t1 s1 t2 s2 t3 s3 n1 n2 k w s q xa xb R D (brM cs1 cs2 cs3 n1 n2 w s q R (D - 1).toNat) D (fX (AF n1 n2 k w s q R D) (cpS cs1 cs2 cs3 (k + 1))) (fY (AF n1 n2 k w s q R D) (cpS cs1 cs2 cs3 (k + 1))) 0 0 0 0 0 0 0 16383).map (·.1))) []))
noncomputable def LV24 : LTab := regE (LV23 cs1 cs2 cs3 t1 s1 t2 s2 t3 s3 n1 n2 k w s q xa xb R D) Fn.top_Finest 24 277 22 OF24 (liveF24 cs1 cs2 cs3 t1 s1 t2 s2 t3 s3 n1 n2 k w s q xa xb R D (brM cs1 cs2 cs3 n1 n2 w s q R (D - 1).toNat) D (fX (AF n1 n2 k w s q R D) (cpS cs1 cs2 cs3 (k + 1))) (fY (AF n1 n2 k w s q R D) (cpS cs1 cs2 cs3 (k + 1))) (mLoE cs1 cs2 cs3 n1 n2 k w s q D) (mHiE cs1 cs2 cs3 n1 n2 k w s q D) 0 0 (hNE cs1 cs2 cs3 n1 n2 k w s q D) 0 0 0) (baseF24 cs1 cs2 cs3 t1 s1 t2 s2 t3 s3 n1 n2 k w s q xa xb R D (brM cs1 cs2 cs3 n1 n2 w s q R (D - 1).toNat) D (fX (AF n1 n2 k w s q R D) (cpS cs1 cs2 cs3 (k + 1))) (fY (AF n1 n2 k w s q R D) (cpS cs1 cs2 cs3 (k + 1))) (mLoE cs1 cs2 cs3 n1 n2 k w s q D) (mHiE cs1 cs2 cs3 n1 n2 k w s q D) 0 0 (hNE cs1 cs2 cs3 n1 n2 k w s q D) 0 0) (.leaf (.ex .normal (tmL 277 (liveF24 cs1 cs2 cs3 t1 s1 t2 s2 t3 s3 n1 n2 k w s q xa xb R D (brM cs1 cs2 cs3 n1 n2 w s q R (D - 1).toNat) D (fX (AF n1 n2 k w s q R D) (cpS cs1 cs2 cs3 (k + 1))) (fY (AF n1 n2 k w s q R D) (cpS cs1 cs2 cs3 (k + 1))) (mLoE cs1 cs2 cs3 n1 n2 k w s q D) (mHiE cs1 cs2 cs3 n1 n2 k w s q D) 0 0 (hNE cs1 cs2 cs3 n1 n2 k w s q D) 0 0 16383)) (heapL ((hpF24 cs1 cs2 cs3 t1 s1 t2 s2 t3 s3 n1 n2 k w s q xa xb R D (brM cs1 cs2 cs3 n1 n2 w s q R (D - 1).toNat) D (fX (AF n1 n2 k w s q R D) (cpS cs1 cs2 cs3 (k + 1))) (fY (AF n1 n2 k w s q R D) (cpS cs1 cs2 cs3 (k + 1))) (mLoE cs1 cs2 cs3 n1 n2 k w s q D) (mHiE cs1 cs2 cs3 n1 n2 k w s q D) 0 0 (hNE cs1 cs2 cs3 n1 n2 k w s q D) 0 0 16383).map (·.1))) []))
noncomputable def LV27 : LTab := loopE (LV24 cs1 cs2 cs3 t1 s1 t2 s2 t3 s3 n1 n2 k w s q xa xb R D) Fn.top_Finest 27 277 26 BF2 (stF2 (hNE cs1 cs2 cs3 n1 n2 k w s q D) (hNE cs1 cs2 cs3 n1 n2 k w s q D) 1 D) (hp26 cs1 cs2 cs3 t1 s1 t2 s2 t3 s3 n1 n2 k w s q xa xb R D 0 (mLoE cs1 cs2 cs3 n1 n2 k w s q D) (mHiE cs1 cs2 cs3 n1 n2 k w s q D) (tLoE cs1 cs2 cs3 n1 n2 k w s q D) (tHiE cs1 cs2 cs3 n1 n2 k w s q D) (hNE cs1 cs2 cs3 n1 n2 k w s q D) (hNE cs1 cs2 cs3 n1 n2 k w s q D) 0) (.leaf (.ex (.exit 2) (tmL 277 (stF2 (hNE cs1 cs2 cs3 n1 n2 k w s q D) (hNE cs1 cs2 cs3 n1 n2 k w s q D) ((4 ^ D.toNat : Nat) : Int) (D - (D.toNat : Int)))) (heapL ((hp26 cs1 cs2 cs3 t1 s1 t2 s2 t3 s3 n1 n2 k w s q xa xb R D 0 (mLoE cs1 cs2 cs3 n1 n2 k w s q D) (mHiE cs1 cs2 cs3 n1 n2 k w s q D) (tLoE cs1 cs2 cs3 n1 n2 k w s q D) (tHiE cs1 cs2 cs3 n1 n2 k w s q D) (hNE cs1 cs2 cs3 n1 n2 k w s q D) (hNE cs1 cs2 cs3 n1 n2 k w s q D) 0).map (·.1))) []))
end
theorem gV4 (cs1 cs2 cs3 : List Value) (t1 s1 t2 s2 t3 s3 n1 n2 k : Nat) (w s q xa xb R D : Int) (x n a b F0 F1 G0 G1 e6 e7 S : Int) : goodR 10 10 (liveF4 cs1 cs2 cs3 t1 s1 t2 s2 t3 s3 n1 n2 k w s q xa xb R D x n a b F0 F1 G0 G1 e6 e7 S 0) (baseF4 cs1 cs2 cs3 t1 s1 t2 s2 t3 s3 n1 n2 k w s q xa xb R D x n a b F0 F1 G0 G1 e6 e7 S) (List.range 10) = true := by kernel_rfl
theorem gV5 (cs1 cs2 cs3 : List Value) (t1 s1 t2 s2 t3 s3 n1 n2 k : Nat) (w s q xa xb R D : Int) (x n a b F0 F1 G0 G1 e6 e7 S : Int) : goodR 14 14 (liveF5 cs1 cs2 cs3 t1 s1 t2 s2 t3 s3 n1 n2 k w s q xa xb R D x n a b F0 F1 G0 G1 e6 e7 S 0) (baseF5 cs1 cs2 cs3 t1 s1 t2 s2 t3 s3 n1 n2 k w s q xa xb R D x n a b F0 F1 G0 G1 e6 e7 S) (List.range 14) = true := by kernel_rfl
theorem gV23 (cs1 cs2 cs3 : List Value) (t1 s1 t2 s2 t3 s3 n1 n2 k : Nat) (w s q xa xb R D : Int) (x n a b F0 F1 G0 G1 e6 e7 S : Int) : goodR 18 18 (liveF23 cs1 cs2 cs3 t1 s1 t2 s2 t3 s3 n1 n2 k w s q xa xb R D x n a b F0 F1 G0 G1 e6 e7 S 0) (baseF23 cs1 cs2 cs3 t1 s1 t2 s2 t3 s3 n1 n2 k w s q xa xb R D x n a b F0 F1 G0 G1 e6 e7 S) (List.range 18) = true := by kernel_rfl
theorem gV24 (cs1 cs2 cs3 : List Value) (t1 s1 t2 s2 t3 s3 n1 n2 k : Nat) (w s q xa xb R D : Int) (x n a b F0 F1 G0 G1 e6 e7 S : Int) : goodR 22 22 (liveF24 cs1 cs2 cs3 t1 s1 t2 s2 t3 s3 n1 n2 k w s q xa xb R D x n a b F0 F1 G0 G1 e6 e7 S 0) (baseF24 cs1 cs2 cs3 t1 s1 t2 s2 t3 s3 n1 n2 k w s q xa xb R D x n a b F0 F1 G0 G1 e6 e7 S) (List.range 22) = true := by kernel_rfl
theorem gV11 (cs1 cs2 cs3 : List Value) (t1 s1 t2 s2 t3 s3 n1 n2 k : Nat) (w s q xa xb R D : Int) (x n a b : Int) : goodR 18 18 (stF1 R D 1) (hp18 cs1 cs2 cs3 t1 s1 t2 s2 t3 s3 n1 n2 k w s q xa xb x n a b) (List.range 18) = true := by kernel_rfl
theorem gV27 (cs1 cs2 cs3 : List Value) (t1 s1 t2 s2 t3 s3 n1 n2 k : Nat) (w s q xa xb R D : Int) (F0 F1 G0 G1 e6 e7 : Int) : goodR 26 26 (stF2 e6 e7 1 D) (hp26 cs1 cs2 cs3 t1 s1 t2 s2 t3 s3 n1 n2 k w s q xa xb R D 0 F0 F1 G0 G1 e6 e7 0) (List.range 26) = true := by kernel_rfl
section
variable {cs1 cs2 cs3 : List Value} {t1 s1 t2 s2 t3 s3 n1 n2 k : Nat} {w s q xa xb R D : Int}
theorem lsV5 (f1 : cs1.all Ex.flat = true) (f2 : cs2.all Ex.flat = true) (f3 : cs3.all Ex.flat = true) (h1 : okCp (argA n1 n2 (k + 1)) cs1 cs2 cs3) (hP : ∀ x d : Int, okP (AR n1 n2 k w s q R x d) (cpS cs1 cs2 cs3 (k + 1))) : LSound Tryd.prog 7 (LV5 cs1 cs2 cs3 t1 s1 t2 s2 t3 s3 n1 n2 k w s q xa xb R D) := by
  have a4 : LSound Tryd.prog 7 (LV4 cs1 cs2 cs3 t1 s1 t2 s2 t3 s3 n1 n2 k w s q xa xb R D) := by
    refine LSound.region .none (gV4 ..) (fbF4 f1 f2 f3) fun r hr ro tm0 H0 hk hst => ?_
    cases hr
    exact sndF4 f1 f2 f3 h1 (hP 1 0) ro hk hst
  refine LSound.region a4 (gV5 ..) (fbF5 f1 f2 f3) fun r hr ro tm0 H0 hk hst => ?_
  cases hr
  exact sndF5 f1 f2 f3 h1 (hP D 0) ro hk hst
theorem lsV27 (f1 : cs1.all Ex.flat = true) (f2 : cs2.all Ex.flat = true) (f3 : cs3.all Ex.flat = true) (h1 : okCp (argA n1 n2 (k + 1)) cs1 cs2 cs3) (hP : ∀ x d : Int, okP (AR n1 n2 k w s q R x d) (cpS cs1 cs2 cs3 (k + 1)))
    (hR : RV cs1 n1 (rE cs3 R) (cE_ cs3 R) (tE_ cs3 R) (pE_ cs3 R) w s q) (hS : secE (bladeE cs1 n1 cs2 n2 (rhoE cs3) (k + 1)) (flowE w s q) R (k + 1) = 0) (hb : hbM cs1 cs2 cs3 n1 n2 w s q R = true) (hD : 1 ≤ D ∧ D ≤ 10)
    (h2 : Fin2 cs1 cs2 cs3 n1 n2 k w s q D (mLoE cs1 cs2 cs3 n1 n2 k w s q D) (mHiE cs1 cs2 cs3 n1 n2 k w s q D) (tLoE cs1 cs2 cs3 n1 n2 k w s q D) (tHiE cs1 cs2 cs3 n1 n2 k w s q D) (hNE cs1 cs2 cs3 n1 n2 k w s q D) (hNE cs1 cs2 cs3 n1 n2 k w s q D) D.toNat) : LSound Tryd.prog 7 (LV27 cs1 cs2 cs3 t1 s1 t2 s2 t3 s3 n1 n2 k w s q xa xb R D) := by
  have a5 := lsV5 (t1 := t1) (s1 := s1) (t2 := t2) (s2 := s2) (t3 := t3) (s3 := s3) (xa := xa) (xb := xb) (D := D) f1 f2 f3 h1 hP
  have ho := h2.ok D hD.1 (Int.le_refl _)
  obtain ⟨_, q2⟩ := find_eq hS (D := 1) (by decide)
  obtain ⟨q3, q4⟩ := q2 hb
  have a11 : LSound Tryd.prog 7 (LV11 cs1 cs2 cs3 t1 s1 t2 s2 t3 s3 n1 n2 k w s q xa xb R D) := by
    refine LSound.loop a5 (gV11 ..) (flat18 f1 f2 f3) fun r hr ro tm0 H0 hk hst => ?_
    cases hr
    rw [q3, q4] at hst
    have hm : ((((D - 1).toNat + 1 : Nat)) : Int) = D := by omega
    have hl := floop1 (D := D) (a := (fX (AF n1 n2 k w s q R D) (cpS cs1 cs2 cs3 (k + 1)))) (b := (fY (AF n1 n2 k w s q R D) (cpS cs1 cs2 cs3 (k + 1)))) f1 f2 f3 h1 hP hR hS hb (D - 1).toNat (by omega) (by omega) ro hk hst
    rw [hm] at hl
    exact hl
  have a23 : LSound Tryd.prog 7 (LV23 cs1 cs2 cs3 t1 s1 t2 s2 t3 s3 n1 n2 k w s q xa xb R D) := by
    refine LSound.region a11 (gV23 ..) (fbF23 f1 f2 f3) fun r hr ro tm0 H0 hk hst => ?_
    cases hr
    exact sndF23 f1 f2 f3 h1 ho ro hk hst
  have a24 : LSound Tryd.prog 7 (LV24 cs1 cs2 cs3 t1 s1 t2 s2 t3 s3 n1 n2 k w s q xa xb R D) := by
    refine LSound.region a23 (gV24 ..) (fbF24 f1 f2 f3) fun r hr ro tm0 H0 hk hst => ?_
    cases hr
    exact sndF24 f1 f2 f3 h1 ho ro hk hst
  refine LSound.loop a24 (gV27 ..) (flat26 f1 f2 f3) fun r hr ro tm0 H0 hk hst => ?_
  cases hr
  exact floop2 f1 f2 f3 h1 D.toNat h2 ro hk hst
end
end Go.Proofs.YtbocpikgochioaaDoor.Ways
namespace Go.Proofs.YtbocpikgochioaaDoor.Ways
open Go Go.Ex
def rinE (n : Nat) (a : Int) : Int := (IntKind.i64.wrap a).tmod (n : Int)
def de2E (b : Int) : Int := wrapF .i64 (1 + (IntKind.i64.wrap b).tmod 10)
def same2 (a b x y : Int) : Bool := (a == x) && ((b == y) && true)
noncomputable def preU (cs1 cs2 cs3 : List Value) (n1 n2 n : Nat) (w s q : Int) (t : VT) : VT :=
  askB (tru (okLi ⟨argA n1 n2 n, w, s, q, 0, 0, 0⟩ [cs1, cs2, cs3])) (.br (!hlE ⟨argA n1 n2 n, w, s, q, 0, 0, 0⟩ [cs1, cs2, cs3]) (lf true) t)
noncomputable def finV (E1 ED _X _D _XD _YD : Int) (t : VT) : VT :=
  .br (!eqF E1 ED) (lf false) (.br (!eqF E1 0) (.br (!eqF E1 7) (lf false) (.br (!eqF E1 0) (lf true) t)) (.br (!eqF E1 0) (lf true) t))
noncomputable def mnV (X D XD YD : Int) : VT := .br (!same2 X D XD YD) (lf false) (lf true)
noncomputable def fineT (cs1 cs2 : List Value) (ρ : Nat → Int) (n1 n2 k : Nat) (w s q R D : Int) (t : VT) : VT :=
  preU cs1 cs2 (ringC ρ (k + 1)) n1 n2 (k + 1) w s q (finV (fZ (AF n1 n2 k w s q R 1) (cpS cs1 cs2 (ringC ρ (k + 1)) (k + 1))) (fZ (AF n1 n2 k w s q R D) (cpS cs1 cs2 (ringC ρ (k + 1)) (k + 1))) 0 0 0 0 t)
noncomputable def CVg : Cfg := ⟨TU1, at_ [(Fn.top_Finest, 44)] (.ints []) spFi, off_, noL⟩
noncomputable def spFb : Nat → Nat → Split := at_ [(Fn.top_Finest, 87)] (.ints []) spFi
theorem vrung (cs1 cs2 cs3 : List Value) (t1 s1 t2 s2 t3 s3 n1 n2 n : Nat) (w s q xa xb : Int) : (execO Tryd.prog 7 CVg 80 (.call Fn.top_Finest ⟨[blV n1 n1 n2 n2 (sl 6 0 n n), flV w s q, ag [u8 xa, u8 xb]]⟩ (heapL (hpF cs1 t1 s1 cs2 t2 s2 cs3 t3 s3)))).vals = preU cs1 cs2 cs3 n1 n2 n w s q .fail := by kernel_rfl
theorem vfixg (cs1 cs2 cs3 : List Value) (t1 s1 t2 s2 t3 s3 n1 n2 n : Nat) (w s q xa xb : Int) : execO Tryd.prog 7 CVg 80 (.call Fn.top_Finest ⟨[blV n1 n1 n2 n2 (sl 6 0 n n), flV w s q, ag [u8 xa, u8 xb]]⟩ (heapL (hpF cs1 t1 s1 cs2 t2 s2 cs3 t3 s3))) = (execO Tryd.prog 7 CVg 80 (.call Fn.top_Finest ⟨[blV n1 n1 n2 n2 (sl 6 0 n n), flV w s q, ag [u8 xa, u8 xb]]⟩ (heapL (hpF cs1 t1 s1 cs2 t2 s2 cs3 t3 s3)))).fix := by kernel_rfl
theorem vrun1 (cs1 cs2 : List Value) (ρ : Nat → Int) (t1 s1 t2 s2 t3 s3 n1 n2 : Nat) (w s q xa xb : Int) : (execO Tryd.prog 7 ⟨TU1, spFi, off_, LV27 cs1 cs2 (ringC ρ 1) t1 s1 t2 s2 t3 s3 n1 n2 0 w s q xa xb (rinE 1 xa) (de2E xb)⟩ 80 (.call Fn.top_Finest ⟨[blV n1 n1 n2 n2 (sl 6 0 1 1), flV w s q, ag [u8 xa, u8 xb]]⟩ (heapL (hpF cs1 t1 s1 cs2 t2 s2 (ringC ρ 1) t3 s3)))).vals = fineT cs1 cs2 ρ n1 n2 0 w s q (rinE 1 xa) (de2E xb) (mnV (brM cs1 cs2 (ringC ρ 1) n1 n2 w s q (rinE 1 xa) (de2E xb - 1).toNat) (de2E xb) (fX (AF n1 n2 0 w s q (rinE 1 xa) (de2E xb)) (cpS cs1 cs2 (ringC ρ 1) 1)) (fY (AF n1 n2 0 w s q (rinE 1 xa) (de2E xb)) (cpS cs1 cs2 (ringC ρ 1) 1))) := by kernel_rfl
theorem vfix1 (cs1 cs2 : List Value) (ρ : Nat → Int) (t1 s1 t2 s2 t3 s3 n1 n2 : Nat) (w s q xa xb : Int) : execO Tryd.prog 7 ⟨TU1, spFi, off_, LV27 cs1 cs2 (ringC ρ 1) t1 s1 t2 s2 t3 s3 n1 n2 0 w s q xa xb (rinE 1 xa) (de2E xb)⟩ 80 (.call Fn.top_Finest ⟨[blV n1 n1 n2 n2 (sl 6 0 1 1), flV w s q, ag [u8 xa, u8 xb]]⟩ (heapL (hpF cs1 t1 s1 cs2 t2 s2 (ringC ρ 1) t3 s3))) = (execO Tryd.prog 7 ⟨TU1, spFi, off_, LV27 cs1 cs2 (ringC ρ 1) t1 s1 t2 s2 t3 s3 n1 n2 0 w s q xa xb (rinE 1 xa) (de2E xb)⟩ 80 (.call Fn.top_Finest ⟨[blV n1 n1 n2 n2 (sl 6 0 1 1), flV w s q, ag [u8 xa, u8 xb]]⟩ (heapL (hpF cs1 t1 s1 cs2 t2 s2 (ringC ρ 1) t3 s3)))).fix := by kernel_rfl
theorem vrunb1 (cs1 cs2 : List Value) (ρ : Nat → Int) (t1 s1 t2 s2 t3 s3 n1 n2 : Nat) (w s q xa xb : Int) : (execO Tryd.prog 7 ⟨TU1, spFb, off_, LV5 cs1 cs2 (ringC ρ 1) t1 s1 t2 s2 t3 s3 n1 n2 0 w s q xa xb (rinE 1 xa) (de2E xb)⟩ 80 (.call Fn.top_Finest ⟨[blV n1 n1 n2 n2 (sl 6 0 1 1), flV w s q, ag [u8 xa, u8 xb]]⟩ (heapL (hpF cs1 t1 s1 cs2 t2 s2 (ringC ρ 1) t3 s3)))).vals = fineT cs1 cs2 ρ n1 n2 0 w s q (rinE 1 xa) (de2E xb) .fail := by kernel_rfl
theorem vfixb1 (cs1 cs2 : List Value) (ρ : Nat → Int) (t1 s1 t2 s2 t3 s3 n1 n2 : Nat) (w s q xa xb : Int) : execO Tryd.prog 7 ⟨TU1, spFb, off_, LV5 cs1 cs2 (ringC ρ 1) t1 s1 t2 s2 t3 s3 n1 n2 0 w s q xa xb (rinE 1 xa) (de2E xb)⟩ 80 (.call Fn.top_Finest ⟨[blV n1 n1 n2 n2 (sl 6 0 1 1), flV w s q, ag [u8 xa, u8 xb]]⟩ (heapL (hpF cs1 t1 s1 cs2 t2 s2 (ringC ρ 1) t3 s3))) = (execO Tryd.prog 7 ⟨TU1, spFb, off_, LV5 cs1 cs2 (ringC ρ 1) t1 s1 t2 s2 t3 s3 n1 n2 0 w s q xa xb (rinE 1 xa) (de2E xb)⟩ 80 (.call Fn.top_Finest ⟨[blV n1 n1 n2 n2 (sl 6 0 1 1), flV w s q, ag [u8 xa, u8 xb]]⟩ (heapL (hpF cs1 t1 s1 cs2 t2 s2 (ringC ρ 1) t3 s3)))).fix := by kernel_rfl
theorem vrun2 (cs1 cs2 : List Value) (ρ : Nat → Int) (t1 s1 t2 s2 t3 s3 n1 n2 : Nat) (w s q xa xb : Int) : (execO Tryd.prog 7 ⟨TU1, spFi, off_, LV27 cs1 cs2 (ringC ρ 2) t1 s1 t2 s2 t3 s3 n1 n2 1 w s q xa xb (rinE 2 xa) (de2E xb)⟩ 80 (.call Fn.top_Finest ⟨[blV n1 n1 n2 n2 (sl 6 0 2 2), flV w s q, ag [u8 xa, u8 xb]]⟩ (heapL (hpF cs1 t1 s1 cs2 t2 s2 (ringC ρ 2) t3 s3)))).vals = fineT cs1 cs2 ρ n1 n2 1 w s q (rinE 2 xa) (de2E xb) (mnV (brM cs1 cs2 (ringC ρ 2) n1 n2 w s q (rinE 2 xa) (de2E xb - 1).toNat) (de2E xb) (fX (AF n1 n2 1 w s q (rinE 2 xa) (de2E xb)) (cpS cs1 cs2 (ringC ρ 2) 2)) (fY (AF n1 n2 1 w s q (rinE 2 xa) (de2E xb)) (cpS cs1 cs2 (ringC ρ 2) 2))) := by kernel_rfl
theorem vfix2 (cs1 cs2 : List Value) (ρ : Nat → Int) (t1 s1 t2 s2 t3 s3 n1 n2 : Nat) (w s q xa xb : Int) : execO Tryd.prog 7 ⟨TU1, spFi, off_, LV27 cs1 cs2 (ringC ρ 2) t1 s1 t2 s2 t3 s3 n1 n2 1 w s q xa xb (rinE 2 xa) (de2E xb)⟩ 80 (.call Fn.top_Finest ⟨[blV n1 n1 n2 n2 (sl 6 0 2 2), flV w s q, ag [u8 xa, u8 xb]]⟩ (heapL (hpF cs1 t1 s1 cs2 t2 s2 (ringC ρ 2) t3 s3))) = (execO Tryd.prog 7 ⟨TU1, spFi, off_, LV27 cs1 cs2 (ringC ρ 2) t1 s1 t2 s2 t3 s3 n1 n2 1 w s q xa xb (rinE 2 xa) (de2E xb)⟩ 80 (.call Fn.top_Finest ⟨[blV n1 n1 n2 n2 (sl 6 0 2 2), flV w s q, ag [u8 xa, u8 xb]]⟩ (heapL (hpF cs1 t1 s1 cs2 t2 s2 (ringC ρ 2) t3 s3)))).fix := by kernel_rfl
theorem vrunb2 (cs1 cs2 : List Value) (ρ : Nat → Int) (t1 s1 t2 s2 t3 s3 n1 n2 : Nat) (w s q xa xb : Int) : (execO Tryd.prog 7 ⟨TU1, spFb, off_, LV5 cs1 cs2 (ringC ρ 2) t1 s1 t2 s2 t3 s3 n1 n2 1 w s q xa xb (rinE 2 xa) (de2E xb)⟩ 80 (.call Fn.top_Finest ⟨[blV n1 n1 n2 n2 (sl 6 0 2 2), flV w s q, ag [u8 xa, u8 xb]]⟩ (heapL (hpF cs1 t1 s1 cs2 t2 s2 (ringC ρ 2) t3 s3)))).vals = fineT cs1 cs2 ρ n1 n2 1 w s q (rinE 2 xa) (de2E xb) .fail := by kernel_rfl
theorem vfixb2 (cs1 cs2 : List Value) (ρ : Nat → Int) (t1 s1 t2 s2 t3 s3 n1 n2 : Nat) (w s q xa xb : Int) : execO Tryd.prog 7 ⟨TU1, spFb, off_, LV5 cs1 cs2 (ringC ρ 2) t1 s1 t2 s2 t3 s3 n1 n2 1 w s q xa xb (rinE 2 xa) (de2E xb)⟩ 80 (.call Fn.top_Finest ⟨[blV n1 n1 n2 n2 (sl 6 0 2 2), flV w s q, ag [u8 xa, u8 xb]]⟩ (heapL (hpF cs1 t1 s1 cs2 t2 s2 (ringC ρ 2) t3 s3))) = (execO Tryd.prog 7 ⟨TU1, spFb, off_, LV5 cs1 cs2 (ringC ρ 2) t1 s1 t2 s2 t3 s3 n1 n2 1 w s q xa xb (rinE 2 xa) (de2E xb)⟩ 80 (.call Fn.top_Finest ⟨[blV n1 n1 n2 n2 (sl 6 0 2 2), flV w s q, ag [u8 xa, u8 xb]]⟩ (heapL (hpF cs1 t1 s1 cs2 t2 s2 (ringC ρ 2) t3 s3)))).fix := by kernel_rfl
theorem vrun3 (cs1 cs2 : List Value) (ρ : Nat → Int) (t1 s1 t2 s2 t3 s3 n1 n2 : Nat) (w s q xa xb : Int) : (execO Tryd.prog 7 ⟨TU1, spFi, off_, LV27 cs1 cs2 (ringC ρ 3) t1 s1 t2 s2 t3 s3 n1 n2 2 w s q xa xb (rinE 3 xa) (de2E xb)⟩ 80 (.call Fn.top_Finest ⟨[blV n1 n1 n2 n2 (sl 6 0 3 3), flV w s q, ag [u8 xa, u8 xb]]⟩ (heapL (hpF cs1 t1 s1 cs2 t2 s2 (ringC ρ 3) t3 s3)))).vals = fineT cs1 cs2 ρ n1 n2 2 w s q (rinE 3 xa) (de2E xb) (mnV (brM cs1 cs2 (ringC ρ 3) n1 n2 w s q (rinE 3 xa) (de2E xb - 1).toNat) (de2E xb) (fX (AF n1 n2 2 w s q (rinE 3 xa) (de2E xb)) (cpS cs1 cs2 (ringC ρ 3) 3)) (fY (AF n1 n2 2 w s q (rinE 3 xa) (de2E xb)) (cpS cs1 cs2 (ringC ρ 3) 3))) := by kernel_rfl
theorem vfix3 (cs1 cs2 : List Value) (ρ : Nat → Int) (t1 s1 t2 s2 t3 s3 n1 n2 : Nat) (w s q xa xb : Int) : execO Tryd.prog 7 ⟨TU1, spFi, off_, LV27 cs1 cs2 (ringC ρ 3) t1 s1 t2 s2 t3 s3 n1 n2 2 w s q xa xb (rinE 3 xa) (de2E xb)⟩ 80 (.call Fn.top_Finest ⟨[blV n1 n1 n2 n2 (sl 6 0 3 3), flV w s q, ag [u8 xa, u8 xb]]⟩ (heapL (hpF cs1 t1 s1 cs2 t2 s2 (ringC ρ 3) t3 s3))) = (execO Tryd.prog 7 ⟨TU1, spFi, off_, LV27 cs1 cs2 (ringC ρ 3) t1 s1 t2 s2 t3 s3 n1 n2 2 w s q xa xb (rinE 3 xa) (de2E xb)⟩ 80 (.call Fn.top_Finest ⟨[blV n1 n1 n2 n2 (sl 6 0 3 3), flV w s q, ag [u8 xa, u8 xb]]⟩ (heapL (hpF cs1 t1 s1 cs2 t2 s2 (ringC ρ 3) t3 s3)))).fix := by kernel_rfl
theorem vrunb3 (cs1 cs2 : List Value) (ρ : Nat → Int) (t1 s1 t2 s2 t3 s3 n1 n2 : Nat) (w s q xa xb : Int) : (execO Tryd.prog 7 ⟨TU1, spFb, off_, LV5 cs1 cs2 (ringC ρ 3) t1 s1 t2 s2 t3 s3 n1 n2 2 w s q xa xb (rinE 3 xa) (de2E xb)⟩ 80 (.call Fn.top_Finest ⟨[blV n1 n1 n2 n2 (sl 6 0 3 3), flV w s q, ag [u8 xa, u8 xb]]⟩ (heapL (hpF cs1 t1 s1 cs2 t2 s2 (ringC ρ 3) t3 s3)))).vals = fineT cs1 cs2 ρ n1 n2 2 w s q (rinE 3 xa) (de2E xb) .fail := by kernel_rfl
theorem vfixb3 (cs1 cs2 : List Value) (ρ : Nat → Int) (t1 s1 t2 s2 t3 s3 n1 n2 : Nat) (w s q xa xb : Int) : execO Tryd.prog 7 ⟨TU1, spFb, off_, LV5 cs1 cs2 (ringC ρ 3) t1 s1 t2 s2 t3 s3 n1 n2 2 w s q xa xb (rinE 3 xa) (de2E xb)⟩ 80 (.call Fn.top_Finest ⟨[blV n1 n1 n2 n2 (sl 6 0 3 3), flV w s q, ag [u8 xa, u8 xb]]⟩ (heapL (hpF cs1 t1 s1 cs2 t2 s2 (ringC ρ 3) t3 s3))) = (execO Tryd.prog 7 ⟨TU1, spFb, off_, LV5 cs1 cs2 (ringC ρ 3) t1 s1 t2 s2 t3 s3 n1 n2 2 w s q xa xb (rinE 3 xa) (de2E xb)⟩ 80 (.call Fn.top_Finest ⟨[blV n1 n1 n2 n2 (sl 6 0 3 3), flV w s q, ag [u8 xa, u8 xb]]⟩ (heapL (hpF cs1 t1 s1 cs2 t2 s2 (ringC ρ 3) t3 s3)))).fix := by kernel_rfl
end Go.Proofs.YtbocpikgochioaaDoor.Ways
namespace Go.Proofs.YtbocpikgochioaaDoor.Ways
open Go Go.Ex
section
variable {cs1 cs2 cs3 : List Value} {n1 n2 n : Nat} {w s q ring : Int}
theorem sec0 (hb : errB (argA n1 n2 n) [cs1, cs2, cs3] = 0) (hf : flowE w s q = 0) (h1 : 0 ≤ ring ∧ ring < (n : Int)) : secE (bladeE cs1 n1 cs2 n2 (rhoE cs3) n) (flowE w s q) ring n = 0 := by
  unfold secE
  rw [show bladeE cs1 n1 cs2 n2 (rhoE cs3) n = 0 from hb, hf, fe0, if_pos rfl, if_pos h1]
theorem rv_in (hI : LawIn cs1 cs2 cs3 n1 n2 n) (h : secE (bladeE cs1 n1 cs2 n2 (rhoE cs3) n) (flowE w s q) ring n = 0) : RV cs1 n1 (rE cs3 ring) (cE_ cs3 ring) (tE_ cs3 ring) (pE_ cs3 ring) w s q := by
  obtain ⟨h1, h2, h3, h4, h5, h6, h7, h8, h9⟩ := ring_in hI (show sE_ ⟨argA n1 n2 n, w, s, q, ring, 0, 0⟩ [cs1, cs2, cs3] = 0 from h)
  obtain ⟨hb, _, _, _⟩ := sec_z h
  obtain ⟨hp, _⟩ := blade_z hb
  obtain ⟨p1, p2, _, p3, _⟩ := pol_z hp
  exact ⟨h3, h4, h5, h6, h7, h8, h9, ⟨p1, p2⟩, p3⟩
end
section
variable {cs1 cs2 cs3 : List Value} {t1 s1 t2 s2 t3 s3 n1 n2 n k : Nat} {w s q xa xb D : Int} {ρ : Nat → Int}
theorem preU_sel {t : VT} (hL : okLi ⟨argA n1 n2 n, w, s, q, 0, 0, 0⟩ [cs1, cs2, cs3])
    (ht : shE n1 n2 n = true → errB (argA n1 n2 n) [cs1, cs2, cs3] = 0 → flowE w s q = 0 → t.sel = some (b_ true)) : (preU cs1 cs2 cs3 n1 n2 n w s q t).sel = some (b_ true) := by
  unfold preU
  rw [askB_sel (tru_iff.2 hL), brB]
  cases hl : hlE ⟨argA n1 n2 n, w, s, q, 0, 0, 0⟩ [cs1, cs2, cs3] with
  | false => rfl
  | true =>
    rw [if_neg (by decide)]
    unfold hlE at hl
    rw [Bool.and_eq_true, Bool.and_eq_true, Bool.and_eq_true, eqF_d, eqF_d, decide_eq_true_eq, decide_eq_true_eq] at hl
    exact ht hl.1 hl.2.1 hl.2.2.1
theorem ni_u {k : Nat} (hI : LawIn cs1 cs2 cs3 n1 n2 (k + 1)) (hk : k ≤ 2) (hs : shE n1 n2 (k + 1) = true) (hb : errB (argA n1 n2 (k + 1)) [cs1, cs2, cs3] = 0) (hf : flowE w s q = 0) {D : Int} (hD : 1 ≤ D ∧ D ≤ 11) : NI cs1 cs2 (rhoE cs3) n1 n2 k w s q D := by
  have hb' : bladeE cs1 n1 cs2 n2 (rhoE cs3) (k + 1) = 0 := hb
  obtain ⟨hp, _⟩ := blade_z hb'
  obtain ⟨_, p2, _⟩ := pol_z hp
  unfold shE at hs
  rw [decide_eq_true_eq] at hs
  exact ⟨hI.o1, hI.l1, hI.o2, hI.l2, hk, by rw [← hI.r3], by omega, hb', hf, hD⟩
theorem NI.at (h : NI cs1 cs2 ρ n1 n2 k w s q D) {D' : Int} (hD : 1 ≤ D' ∧ D' ≤ 11) : NI cs1 cs2 ρ n1 n2 k w s q D' := ⟨h.o1, h.l1, h.o2, h.l2, h.hk, h.rho, h.h5, h.hb, h.hf, hD⟩
theorem step_facts (h : NI cs1 cs2 ρ n1 n2 k w s q D) (h0 : hasE (scA ρ w s q n1 n1 n2 n2) [cs1, cs2] (k + 1) 0 = 0) :
    (sumF (mL [cs1, cs2] D) (scA ρ w s q n1 n1 n2 n2) (k + 1) 0 0 ≤ sumF (mL [cs1, cs2] (D + 1)) (scA ρ w s q n1 n1 n2 n2) (k + 1) 0 0 ∧ sumF (mH [cs1, cs2] (D + 1)) (scA ρ w s q n1 n1 n2 n2) (k + 1) 0 0 ≤ sumF (mH [cs1, cs2] D) (scA ρ w s q n1 n1 n2 n2) (k + 1) 0 0) ∧
    (4 * sumF (tL [cs1, cs2] D) (scA ρ w s q n1 n1 n2 n2) (k + 1) 0 0 ≤ sumF (tL [cs1, cs2] (D + 1)) (scA ρ w s q n1 n1 n2 n2) (k + 1) 0 0 ∧ sumF (tH [cs1, cs2] (D + 1)) (scA ρ w s q n1 n1 n2 n2) (k + 1) 0 0 ≤ 4 * sumF (tH [cs1, cs2] D) (scA ρ w s q n1 n1 n2 n2) (k + 1) 0 0) ∧
    (-12000000000000 ≤ sumF (tL [cs1, cs2] D) (scA ρ w s q n1 n1 n2 n2) (k + 1) 0 0 ∧ sumF (tL [cs1, cs2] D) (scA ρ w s q n1 n1 n2 n2) (k + 1) 0 0 ≤ 12000000000000) ∧ -12000000000000 ≤ sumF (tH [cs1, cs2] D) (scA ρ w s q n1 n1 n2 n2) (k + 1) 0 0 ∧ sumF (tH [cs1, cs2] D) (scA ρ w s q n1 n1 n2 n2) (k + 1) 0 0 ≤ 12000000000000 := by
  have hk2 := h.hk
  have hD := h.hD
  rcases hasE_cases (scA ρ w s q n1 n1 n2 n2) [cs1, cs2] (k + 1) 0 with h7 | ⟨_, hall⟩
  · rw [h0] at h7; cases h7
  have hm : ∀ t, 0 ≤ t → t < 0 + (k + 1) → (-1100000000000000000 ≤ mL [cs1, cs2] D (scA ρ w s q n1 n1 n2 n2 t) ∧ mL [cs1, cs2] D (scA ρ w s q n1 n1 n2 n2 t) ≤ mH [cs1, cs2] D (scA ρ w s q n1 n1 n2 n2 t) ∧ mH [cs1, cs2] D (scA ρ w s q n1 n1 n2 n2 t) ≤ 1100000000000000000) := fun t g1 g2 => (lohi (h.rv (t := t) (by omega)) h.drag h.h5 (hall t g1 g2) (by omega)).1
  have hm' : ∀ t, 0 ≤ t → t < 0 + (k + 1) → (-1100000000000000000 ≤ mL [cs1, cs2] (D + 1) (scA ρ w s q n1 n1 n2 n2 t) ∧ mL [cs1, cs2] (D + 1) (scA ρ w s q n1 n1 n2 n2 t) ≤ mH [cs1, cs2] (D + 1) (scA ρ w s q n1 n1 n2 n2 t) ∧ mH [cs1, cs2] (D + 1) (scA ρ w s q n1 n1 n2 n2 t) ≤ 1100000000000000000) := fun t g1 g2 => (lohi (h.rv (t := t) (by omega)) h.drag h.h5 (hall t g1 g2) (by omega)).1
  have hu : ∀ t, 0 ≤ t → t < 0 + (k + 1) → mL [cs1, cs2] D (scA ρ w s q n1 n1 n2 n2 t) ≤ mL [cs1, cs2] (D + 1) (scA ρ w s q n1 n1 n2 n2 t) ∧ mH [cs1, cs2] (D + 1) (scA ρ w s q n1 n1 n2 n2 t) ≤ mH [cs1, cs2] D (scA ρ w s q n1 n1 n2 n2 t) := fun t g1 g2 => tor_up (h.rv (t := t) (by omega)) h.drag h.h5 (hall t g1 g2) hD
  have ht : ∀ t, 0 ≤ t → t < 0 + (k + 1) → (0 ≤ tL [cs1, cs2] D (scA ρ w s q n1 n1 n2 n2 t) ∧ tL [cs1, cs2] D (scA ρ w s q n1 n1 n2 n2 t) ≤ tH [cs1, cs2] D (scA ρ w s q n1 n1 n2 n2 t) ∧ tH [cs1, cs2] D (scA ρ w s q n1 n1 n2 n2 t) ≤ 3435973836800) ∧ (4 * tL [cs1, cs2] D (scA ρ w s q n1 n1 n2 n2 t) ≤ tL [cs1, cs2] (D + 1) (scA ρ w s q n1 n1 n2 n2 t) ∧ tL [cs1, cs2] (D + 1) (scA ρ w s q n1 n1 n2 n2 t) ≤ 3435973836800) ∧ tH [cs1, cs2] (D + 1) (scA ρ w s q n1 n1 n2 n2 t) ≤ 4 * tH [cs1, cs2] D (scA ρ w s q n1 n1 n2 n2 t) ∧ 0 ≤ tH [cs1, cs2] (D + 1) (scA ρ w s q n1 n1 n2 n2 t) := fun t g1 g2 => thr_ring (h.rv (t := t) (by omega)) (hall t g1 g2) hD
  have z0 : ∀ B : Int, -(((0 : Nat) : Int) * B) ≤ 0 ∧ (0 : Int) ≤ 0 ∧ (0 : Int) ≤ ((0 : Nat) : Int) * B := fun B => by simp
  have z1 : ∀ B : Int, -(((0 : Nat) : Int) * B) ≤ 0 ∧ (0 : Int) ≤ ((0 : Nat) : Int) * B := fun B => by simp
  have f1 := sumF_four (lo := tL [cs1, cs2] D) (sc := scA ρ w s q n1 n1 n2 n2) (B := 4000000000000) ⟨by decide, by decide⟩ (k + 1) 0 0 0 (by omega) (fun t g1 g2 => by have := ht t g1 g2; exact ⟨by have := this.1.1; exact Int.le_trans (by decide) this, Int.le_trans (Int.le_trans this.1.2.1 this.1.2.2) (by decide)⟩) (z1 _)
  have f2 := sumF_four (lo := tH [cs1, cs2] D) (sc := scA ρ w s q n1 n1 n2 n2) (B := 4000000000000) ⟨by decide, by decide⟩ (k + 1) 0 0 0 (by omega) (fun t g1 g2 => by have := ht t g1 g2; exact ⟨by have := Int.le_trans this.1.1 this.1.2.1; exact Int.le_trans (by decide) this, Int.le_trans this.1.2.2 (by decide)⟩) (z1 _)
  rw [Int.mul_zero] at f1 f2
  have b1 := sumF_bd (lo := tL [cs1, cs2] D) (sc := scA ρ w s q n1 n1 n2 n2) (B := 4000000000000) ⟨by decide, by decide⟩ (k + 1) 0 0 0 (by omega) (fun t g1 g2 => by have := ht t g1 g2; exact ⟨by have := this.1.1; exact Int.le_trans (by decide) this, Int.le_trans (Int.le_trans this.1.2.1 this.1.2.2) (by decide)⟩) (z1 _)
  have b2 := sumF_bd (lo := tH [cs1, cs2] D) (sc := scA ρ w s q n1 n1 n2 n2) (B := 4000000000000) ⟨by decide, by decide⟩ (k + 1) 0 0 0 (by omega) (fun t g1 g2 => by have := ht t g1 g2; exact ⟨by have := Int.le_trans this.1.1 this.1.2.1; exact Int.le_trans (by decide) this, Int.le_trans this.1.2.2 (by decide)⟩) (z1 _)
  have hkk : ((k + 1 + 0 : Nat) : Int) * 4000000000000 ≤ 12000000000000 := by omega
  refine ⟨⟨sumF_le (B := 1100000000000000000) ⟨by decide, by decide⟩ (k + 1) 0 0 0 0 (by omega) (fun t g1 g2 => ⟨(hm t g1 g2).1, (hu t g1 g2).1, Int.le_trans (hm' t g1 g2).2.1 (hm' t g1 g2).2.2⟩) (z0 _),
    sumF_le (B := 1100000000000000000) ⟨by decide, by decide⟩ (k + 1) 0 0 0 0 (by omega) (fun t g1 g2 => ⟨Int.le_trans (hm' t g1 g2).1 (hm' t g1 g2).2.1, (hu t g1 g2).2, (hm t g1 g2).2.2⟩) (z0 _)⟩, ⟨?_, ?_⟩, ⟨by omega, by omega⟩, by omega, by omega⟩
  · rw [← f1]
    exact sumF_le (B := 400000000000000) ⟨by decide, by decide⟩ (k + 1) 0 0 0 0 (by omega) (fun t g1 g2 => by
      obtain ⟨⟨a1, a2, a3⟩, ⟨a4, a5⟩, a6, a7⟩ := ht t g1 g2
      refine ⟨?_, a4, Int.le_trans a5 (by decide)⟩
      show _ ≤ 4 * tL [cs1, cs2] D _
      exact Int.le_trans (show (-400000000000000 : Int) ≤ 0 by decide) (Int.mul_nonneg (by decide) a1)) (z0 _)
  · rw [← f2]
    exact sumF_le (B := 400000000000000) ⟨by decide, by decide⟩ (k + 1) 0 0 0 0 (by omega) (fun t g1 g2 => by
      obtain ⟨⟨a1, a2, a3⟩, ⟨a4, a5⟩, a6, a7⟩ := ht t g1 g2
      refine ⟨Int.le_trans (by decide) a7, a6, ?_⟩
      show 4 * tH [cs1, cs2] D _ ≤ _
      exact Int.le_trans (Int.mul_le_mul_of_nonneg_left a3 (by decide)) (by decide)) (z0 _)
theorem chain_facts (h : NI cs1 cs2 ρ n1 n2 k w s q D) (h0 : hasE (scA ρ w s q n1 n1 n2 n2) [cs1, cs2] (k + 1) 0 = 0) : ∀ i : Nat, 1 ≤ D - (i : Int) →
    sumF (mL [cs1, cs2] (D - (i : Int))) (scA ρ w s q n1 n1 n2 n2) (k + 1) 0 0 ≤ sumF (mL [cs1, cs2] D) (scA ρ w s q n1 n1 n2 n2) (k + 1) 0 0 ∧ sumF (mH [cs1, cs2] D) (scA ρ w s q n1 n1 n2 n2) (k + 1) 0 0 ≤ sumF (mH [cs1, cs2] (D - (i : Int))) (scA ρ w s q n1 n1 n2 n2) (k + 1) 0 0 ∧
    ((4 ^ i : Nat) : Int) * sumF (tL [cs1, cs2] (D - (i : Int))) (scA ρ w s q n1 n1 n2 n2) (k + 1) 0 0 ≤ sumF (tL [cs1, cs2] D) (scA ρ w s q n1 n1 n2 n2) (k + 1) 0 0 ∧ sumF (tH [cs1, cs2] D) (scA ρ w s q n1 n1 n2 n2) (k + 1) 0 0 ≤ ((4 ^ i : Nat) : Int) * sumF (tH [cs1, cs2] (D - (i : Int))) (scA ρ w s q n1 n1 n2 n2) (k + 1) 0 0
  | 0, _ => by
    have e : D - ((0 : Nat) : Int) = D := by omega
    have e4 : ((4 ^ 0 : Nat) : Int) = 1 := by decide
    rw [e, e4, Int.one_mul, Int.one_mul]
    exact ⟨Int.le_refl _, Int.le_refl _, Int.le_refl _, Int.le_refl _⟩
  | i + 1, hi => by
    have hD := h.hD
    obtain ⟨c1, c2, c3, c4⟩ := chain_facts h h0 i (by omega)
    have hn : D - ((i + 1 : Nat) : Int) + 1 = D - (i : Int) := by omega
    obtain ⟨⟨s1, s2⟩, ⟨s3, s4⟩, _⟩ := step_facts (h.at (D' := D - ((i + 1 : Nat) : Int)) (by omega)) h0
    rw [hn] at s1 s2 s3 s4
    have e4 : ((4 ^ (i + 1) : Nat) : Int) = ((4 ^ i : Nat) : Int) * 4 := by rw [Nat.pow_succ, Int.natCast_mul]; rfl
    have p0 : (0 : Int) ≤ ((4 ^ i : Nat) : Int) := Int.natCast_nonneg _
    rw [e4, Int.mul_assoc, Int.mul_assoc]
    exact ⟨Int.le_trans s1 c1, Int.le_trans c2 s2, Int.le_trans (Int.mul_le_mul_of_nonneg_left s3 p0) c3, Int.le_trans c4 (Int.mul_le_mul_of_nonneg_left s4 p0)⟩
theorem fin2_of (h : NI cs1 cs2 ρ n1 n2 k w s q D) (hD : 1 ≤ D ∧ D ≤ 10) :
    Fin2 cs1 cs2 (ringC ρ (k + 1)) n1 n2 k w s q D (mLoE cs1 cs2 (ringC ρ (k + 1)) n1 n2 k w s q D) (mHiE cs1 cs2 (ringC ρ (k + 1)) n1 n2 k w s q D) (tLoE cs1 cs2 (ringC ρ (k + 1)) n1 n2 k w s q D) (tHiE cs1 cs2 (ringC ρ (k + 1)) n1 n2 k w s q D) (hNE cs1 cs2 (ringC ρ (k + 1)) n1 n2 k w s q D) (hNE cs1 cs2 (ringC ρ (k + 1)) n1 n2 k w s q D) D.toNat := by
  have hb : bladeE cs1 n1 cs2 n2 (rhoE (ringC ρ (k + 1))) (k + 1) = 0 := by rw [h.rho]; exact h.hb
  refine ⟨by omega, by omega, fun n g1 g2 => okFc_of h ρ hb (by omega), ?_⟩
  rw [h.hN]
  rcases hasE_cases (scA ρ w s q n1 n1 n2 n2) [cs1, cs2] (k + 1) 0 with h7 | ⟨h0, _⟩
  · right
    exact ⟨h7, h7, fun j _ => by rw [h.hN]; exact h7⟩
  · left
    refine ⟨h0, h0, fun j hj => ?_⟩
    have hj1 : 1 ≤ D - (j : Int) := by omega
    obtain ⟨c1, c2, c3, c4⟩ := chain_facts h h0 j hj1
    obtain ⟨_, _, ⟨u1, u2⟩, u3, u4⟩ := step_facts (h.at (D' := D - (j : Int)) (by omega)) h0
    have p9 := Nat.pow_le_pow_right (n := 4) (by decide) (show j ≤ 9 by omega)
    have h9 : (4 : Nat) ^ 9 = 262144 := by decide
    rw [h9] at p9
    rw [h.hN, h.mLo _ h0, h.mLo _ h0, h.mHi _ h0, h.mHi _ h0, h.tLo _ h0, h.tLo _ h0, h.tHi _ h0, h.tHi _ h0]
    have p1 : (0 : Int) ≤ ((4 ^ j : Nat) : Int) ∧ ((4 ^ j : Nat) : Int) ≤ 262144 := ⟨Int.natCast_nonneg _, Int.ofNat_le.2 p9⟩
    generalize ((4 ^ j : Nat) : Int) = u at *
    generalize sumF (tL [cs1, cs2] (D - (j : Int))) (scA ρ w s q n1 n1 n2 n2) (k + 1) 0 0 = a at *
    generalize sumF (tH [cs1, cs2] (D - (j : Int))) (scA ρ w s q n1 n1 n2 n2) (k + 1) 0 0 = c at *
    have q1 : u * a ≤ 262144 * 12000000000000 := Int.le_trans (Int.mul_le_mul_of_nonneg_left u2 p1.1) (Int.mul_le_mul_of_nonneg_right p1.2 (by decide))
    have q2 : -(262144 * 12000000000000) ≤ u * a := by
      have := Int.mul_le_mul_of_nonneg_left u1 p1.1
      have := Int.mul_le_mul_of_nonneg_right p1.2 (show (0 : Int) ≤ 12000000000000 by decide)
      omega
    have q3 : u * c ≤ 262144 * 12000000000000 := Int.le_trans (Int.mul_le_mul_of_nonneg_left u4 p1.1) (Int.mul_le_mul_of_nonneg_right p1.2 (by decide))
    have q4 : -(262144 * 12000000000000) ≤ u * c := by
      have := Int.mul_le_mul_of_nonneg_left u3 p1.1
      have := Int.mul_le_mul_of_nonneg_right p1.2 (show (0 : Int) ≤ 12000000000000 by decide)
      omega
    rw [wrapF_in (n := u * a) (by omega) (by omega), wrapF_in (n := u * c) (by omega) (by omega)]
    exact ⟨h0, c1, c2, c3, c4⟩
theorem rin_bd {m : Nat} (hm : 1 ≤ m) (h : 0 ≤ xa ∧ xa ≤ 255) : 0 ≤ rinE m xa ∧ rinE m xa < (m : Int) := by
  unfold rinE
  rw [← wrapF_eq, wrapF_in (n := xa) (by omega) (by omega), Int.tmod_eq_emod_of_nonneg h.1]
  exact ⟨Int.emod_nonneg _ (by omega), Int.emod_lt_of_pos _ (by omega)⟩
theorem de2_bd (h : 0 ≤ xb ∧ xb ≤ 255) : 1 ≤ de2E xb ∧ de2E xb ≤ 10 := by
  unfold de2E
  rw [← wrapF_eq, wrapF_in (n := xb) (by omega) (by omega), Int.tmod_eq_emod_of_nonneg h.1, wrapF_in (by omega) (by omega)]
  omega
theorem fine_sel {R : Int} {t : VT} (hS : secE (bladeE cs1 n1 cs2 n2 (rhoE (ringC ρ (k + 1))) (k + 1)) (flowE w s q) R (k + 1) = 0) (hD : 1 ≤ D ∧ D ≤ 10) (hL : okLi ⟨argA n1 n2 (k + 1), w, s, q, 0, 0, 0⟩ [cs1, cs2, ringC ρ (k + 1)])
    (ht : hbM cs1 cs2 (ringC ρ (k + 1)) n1 n2 w s q R = true → t.sel = some (b_ true)) : (fineT cs1 cs2 ρ n1 n2 k w s q R D t).sel = some (b_ true) := by
  unfold fineT
  refine preU_sel hL fun _ _ _ => ?_
  rw [(find_eq hS (D := 1) (by decide)).1, (find_eq hS (D := D) (by omega)).1]
  cases hb : hbM cs1 cs2 (ringC ρ (k + 1)) n1 n2 w s q R with
  | false => rfl
  | true => exact ht hb
theorem mn_sel {X A : Int} : (mnV X A X A).sel = some (b_ true) := by
  unfold mnV
  have : same2 X A X A = true := by unfold same2; simp
  rw [this]; rfl
theorem fine_n1 (hI : LawIn cs1 cs2 cs3 n1 n2 1) (h : NI cs1 cs2 (rhoE cs3) n1 n2 0 w s q (de2E xb)) (ha : 0 ≤ xa ∧ xa ≤ 255) (hc : 0 ≤ xb ∧ xb ≤ 255) (hL : okLi ⟨argA n1 n2 1, w, s, q, 0, 0, 0⟩ [cs1, cs2, cs3]) :
    ∃ H', Sound Tryd.prog 7 (.call Fn.top_Finest ⟨[blV n1 n1 n2 n2 (sl 6 0 1 1), flV w s q, ag [u8 xa, u8 xb]]⟩ (heapL (hpF cs1 t1 s1 cs2 t2 s2 cs3 t3 s3))) (.val (b_ true) H') := by
  have hr : cs3 = ringC (rhoE cs3) 1 := hI.r3
  have hI' : LawIn cs1 cs2 (ringC (rhoE cs3) (0 + 1)) n1 n2 (0 + 1) := by
    show LawIn cs1 cs2 (ringC (rhoE cs3) 1) n1 n2 1
    rw [← hr]; exact hI
  have hL' : okLi ⟨argA n1 n2 (0 + 1), w, s, q, 0, 0, 0⟩ [cs1, cs2, ringC (rhoE cs3) (0 + 1)] := by
    show okLi ⟨argA n1 n2 1, w, s, q, 0, 0, 0⟩ [cs1, cs2, ringC (rhoE cs3) 1]
    rw [← hr]; exact hL
  have hb : bladeE cs1 n1 cs2 n2 (rhoE (ringC (rhoE cs3) (0 + 1))) (0 + 1) = 0 := by rw [h.rho]; exact h.hb
  have hRb := rin_bd (m := 1) (by decide) ha
  have hD := de2_bd hc
  have hS : secE (bladeE cs1 n1 cs2 n2 (rhoE (ringC (rhoE cs3) (0 + 1))) (0 + 1)) (flowE w s q) (rinE 1 xa) (0 + 1) = 0 := sec0 (n := 0 + 1) hb h.hf hRb
  have hR := rv_in hI' hS
  have hP : ∀ x d : Int, okP (AR n1 n2 0 w s q (rinE 1 xa) x d) (cpS cs1 cs2 (ringC (rhoE cs3) (0 + 1)) (0 + 1)) := fun x d => okP_cp hI' x d
  by_cases hB : hbM cs1 cs2 (ringC (rhoE cs3) (0 + 1)) n1 n2 w s q (rinE 1 xa) = true
  · have hl := lsV27 (t1 := t1) (s1 := s1) (t2 := t2) (s2 := s2) (t3 := t3) (s3 := s3) (k := 0) (xa := xa) (xb := xb) h.o1.1 h.o2.1 (ringC_flat (rhoE cs3) 1) (okCp_of h (rhoE cs3)) hP hR hS hB hD (fin2_of h hD)
    have := one_tree (C := ⟨TU1, spFi, off_, LV27 cs1 cs2 (ringC (rhoE cs3) 1) t1 s1 t2 s2 t3 s3 n1 n2 0 w s q xa xb (rinE 1 xa) (de2E xb)⟩) (n := 80) _ tsU1 hl (vfix1 ..) (vrun1 ..) (fine_sel hS hD hL' fun _ => by
      obtain ⟨_, q2⟩ := find_eq hS (D := de2E xb) (by omega)
      obtain ⟨q3, q4⟩ := q2 hB
      show (mnV _ _ (fX (AF n1 n2 0 w s q (rinE 1 xa) (de2E xb)) (cpS cs1 cs2 (ringC (rhoE cs3) (0 + 1)) (0 + 1))) (fY (AF n1 n2 0 w s q (rinE 1 xa) (de2E xb)) (cpS cs1 cs2 (ringC (rhoE cs3) (0 + 1)) (0 + 1)))).sel = _
      rw [q3, q4]
      exact mn_sel)
    rw [← hr] at this
    exact this
  · have hl := lsV5 (t1 := t1) (s1 := s1) (t2 := t2) (s2 := s2) (t3 := t3) (s3 := s3) (k := 0) (xa := xa) (xb := xb) (D := de2E xb) h.o1.1 h.o2.1 (ringC_flat (rhoE cs3) 1) (okCp_of h (rhoE cs3)) hP
    have := one_tree (C := ⟨TU1, spFb, off_, LV5 cs1 cs2 (ringC (rhoE cs3) 1) t1 s1 t2 s2 t3 s3 n1 n2 0 w s q xa xb (rinE 1 xa) (de2E xb)⟩) (n := 80) _ tsU1 hl (vfixb1 ..) (vrunb1 ..) (fine_sel hS hD hL' fun hb' => absurd hb' hB)
    rw [← hr] at this
    exact this
theorem fine_n2 (hI : LawIn cs1 cs2 cs3 n1 n2 2) (h : NI cs1 cs2 (rhoE cs3) n1 n2 1 w s q (de2E xb)) (ha : 0 ≤ xa ∧ xa ≤ 255) (hc : 0 ≤ xb ∧ xb ≤ 255) (hL : okLi ⟨argA n1 n2 2, w, s, q, 0, 0, 0⟩ [cs1, cs2, cs3]) :
    ∃ H', Sound Tryd.prog 7 (.call Fn.top_Finest ⟨[blV n1 n1 n2 n2 (sl 6 0 2 2), flV w s q, ag [u8 xa, u8 xb]]⟩ (heapL (hpF cs1 t1 s1 cs2 t2 s2 cs3 t3 s3))) (.val (b_ true) H') := by
  have hr : cs3 = ringC (rhoE cs3) 2 := hI.r3
  have hI' : LawIn cs1 cs2 (ringC (rhoE cs3) (1 + 1)) n1 n2 (1 + 1) := by
    show LawIn cs1 cs2 (ringC (rhoE cs3) 2) n1 n2 2
    rw [← hr]; exact hI
  have hL' : okLi ⟨argA n1 n2 (1 + 1), w, s, q, 0, 0, 0⟩ [cs1, cs2, ringC (rhoE cs3) (1 + 1)] := by
    show okLi ⟨argA n1 n2 2, w, s, q, 0, 0, 0⟩ [cs1, cs2, ringC (rhoE cs3) 2]
    rw [← hr]; exact hL
  have hb : bladeE cs1 n1 cs2 n2 (rhoE (ringC (rhoE cs3) (1 + 1))) (1 + 1) = 0 := by rw [h.rho]; exact h.hb
  have hRb := rin_bd (m := 2) (by decide) ha
  have hD := de2_bd hc
  have hS : secE (bladeE cs1 n1 cs2 n2 (rhoE (ringC (rhoE cs3) (1 + 1))) (1 + 1)) (flowE w s q) (rinE 2 xa) (1 + 1) = 0 := sec0 (n := 1 + 1) hb h.hf hRb
  have hR := rv_in hI' hS
  have hP : ∀ x d : Int, okP (AR n1 n2 1 w s q (rinE 2 xa) x d) (cpS cs1 cs2 (ringC (rhoE cs3) (1 + 1)) (1 + 1)) := fun x d => okP_cp hI' x d
  by_cases hB : hbM cs1 cs2 (ringC (rhoE cs3) (1 + 1)) n1 n2 w s q (rinE 2 xa) = true
  · have hl := lsV27 (t1 := t1) (s1 := s1) (t2 := t2) (s2 := s2) (t3 := t3) (s3 := s3) (k := 1) (xa := xa) (xb := xb) h.o1.1 h.o2.1 (ringC_flat (rhoE cs3) 2) (okCp_of h (rhoE cs3)) hP hR hS hB hD (fin2_of h hD)
    have := one_tree (C := ⟨TU1, spFi, off_, LV27 cs1 cs2 (ringC (rhoE cs3) 2) t1 s1 t2 s2 t3 s3 n1 n2 1 w s q xa xb (rinE 2 xa) (de2E xb)⟩) (n := 80) _ tsU1 hl (vfix2 ..) (vrun2 ..) (fine_sel hS hD hL' fun _ => by
      obtain ⟨_, q2⟩ := find_eq hS (D := de2E xb) (by omega)
      obtain ⟨q3, q4⟩ := q2 hB
      show (mnV _ _ (fX (AF n1 n2 1 w s q (rinE 2 xa) (de2E xb)) (cpS cs1 cs2 (ringC (rhoE cs3) (1 + 1)) (1 + 1))) (fY (AF n1 n2 1 w s q (rinE 2 xa) (de2E xb)) (cpS cs1 cs2 (ringC (rhoE cs3) (1 + 1)) (1 + 1)))).sel = _
      rw [q3, q4]
      exact mn_sel)
    rw [← hr] at this
    exact this
  · have hl := lsV5 (t1 := t1) (s1 := s1) (t2 := t2) (s2 := s2) (t3 := t3) (s3 := s3) (k := 1) (xa := xa) (xb := xb) (D := de2E xb) h.o1.1 h.o2.1 (ringC_flat (rhoE cs3) 2) (okCp_of h (rhoE cs3)) hP
    have := one_tree (C := ⟨TU1, spFb, off_, LV5 cs1 cs2 (ringC (rhoE cs3) 2) t1 s1 t2 s2 t3 s3 n1 n2 1 w s q xa xb (rinE 2 xa) (de2E xb)⟩) (n := 80) _ tsU1 hl (vfixb2 ..) (vrunb2 ..) (fine_sel hS hD hL' fun hb' => absurd hb' hB)
    rw [← hr] at this
    exact this
theorem fine_n3 (hI : LawIn cs1 cs2 cs3 n1 n2 3) (h : NI cs1 cs2 (rhoE cs3) n1 n2 2 w s q (de2E xb)) (ha : 0 ≤ xa ∧ xa ≤ 255) (hc : 0 ≤ xb ∧ xb ≤ 255) (hL : okLi ⟨argA n1 n2 3, w, s, q, 0, 0, 0⟩ [cs1, cs2, cs3]) :
    ∃ H', Sound Tryd.prog 7 (.call Fn.top_Finest ⟨[blV n1 n1 n2 n2 (sl 6 0 3 3), flV w s q, ag [u8 xa, u8 xb]]⟩ (heapL (hpF cs1 t1 s1 cs2 t2 s2 cs3 t3 s3))) (.val (b_ true) H') := by
  have hr : cs3 = ringC (rhoE cs3) 3 := hI.r3
  have hI' : LawIn cs1 cs2 (ringC (rhoE cs3) (2 + 1)) n1 n2 (2 + 1) := by
    show LawIn cs1 cs2 (ringC (rhoE cs3) 3) n1 n2 3
    rw [← hr]; exact hI
  have hL' : okLi ⟨argA n1 n2 (2 + 1), w, s, q, 0, 0, 0⟩ [cs1, cs2, ringC (rhoE cs3) (2 + 1)] := by
    show okLi ⟨argA n1 n2 3, w, s, q, 0, 0, 0⟩ [cs1, cs2, ringC (rhoE cs3) 3]
    rw [← hr]; exact hL
  have hb : bladeE cs1 n1 cs2 n2 (rhoE (ringC (rhoE cs3) (2 + 1))) (2 + 1) = 0 := by rw [h.rho]; exact h.hb
  have hRb := rin_bd (m := 3) (by decide) ha
  have hD := de2_bd hc
  have hS : secE (bladeE cs1 n1 cs2 n2 (rhoE (ringC (rhoE cs3) (2 + 1))) (2 + 1)) (flowE w s q) (rinE 3 xa) (2 + 1) = 0 := sec0 (n := 2 + 1) hb h.hf hRb
  have hR := rv_in hI' hS
  have hP : ∀ x d : Int, okP (AR n1 n2 2 w s q (rinE 3 xa) x d) (cpS cs1 cs2 (ringC (rhoE cs3) (2 + 1)) (2 + 1)) := fun x d => okP_cp hI' x d
  by_cases hB : hbM cs1 cs2 (ringC (rhoE cs3) (2 + 1)) n1 n2 w s q (rinE 3 xa) = true
  · have hl := lsV27 (t1 := t1) (s1 := s1) (t2 := t2) (s2 := s2) (t3 := t3) (s3 := s3) (k := 2) (xa := xa) (xb := xb) h.o1.1 h.o2.1 (ringC_flat (rhoE cs3) 3) (okCp_of h (rhoE cs3)) hP hR hS hB hD (fin2_of h hD)
    have := one_tree (C := ⟨TU1, spFi, off_, LV27 cs1 cs2 (ringC (rhoE cs3) 3) t1 s1 t2 s2 t3 s3 n1 n2 2 w s q xa xb (rinE 3 xa) (de2E xb)⟩) (n := 80) _ tsU1 hl (vfix3 ..) (vrun3 ..) (fine_sel hS hD hL' fun _ => by
      obtain ⟨_, q2⟩ := find_eq hS (D := de2E xb) (by omega)
      obtain ⟨q3, q4⟩ := q2 hB
      show (mnV _ _ (fX (AF n1 n2 2 w s q (rinE 3 xa) (de2E xb)) (cpS cs1 cs2 (ringC (rhoE cs3) (2 + 1)) (2 + 1))) (fY (AF n1 n2 2 w s q (rinE 3 xa) (de2E xb)) (cpS cs1 cs2 (ringC (rhoE cs3) (2 + 1)) (2 + 1)))).sel = _
      rw [q3, q4]
      exact mn_sel)
    rw [← hr] at this
    exact this
  · have hl := lsV5 (t1 := t1) (s1 := s1) (t2 := t2) (s2 := s2) (t3 := t3) (s3 := s3) (k := 2) (xa := xa) (xb := xb) (D := de2E xb) h.o1.1 h.o2.1 (ringC_flat (rhoE cs3) 3) (okCp_of h (rhoE cs3)) hP
    have := one_tree (C := ⟨TU1, spFb, off_, LV5 cs1 cs2 (ringC (rhoE cs3) 3) t1 s1 t2 s2 t3 s3 n1 n2 2 w s q xa xb (rinE 3 xa) (de2E xb)⟩) (n := 80) _ tsU1 hl (vfixb3 ..) (vrunb3 ..) (fine_sel hS hD hL' fun hb' => absurd hb' hB)
    rw [← hr] at this
    exact this
theorem finest_true (ha : 0 ≤ xa ∧ xa ≤ 255) (hc : 0 ≤ xb ∧ xb ≤ 255) (f1 : cs1.all Ex.flat = true) (f2 : cs2.all Ex.flat = true) (f3 : cs3.all Ex.flat = true) (hin : five n → n1 ≤ 1000000 → n2 ≤ 1000000 → LawIn cs1 cs2 cs3 n1 n2 n) :
    ∃ H', Sound Tryd.prog 7 (.call Fn.top_Finest ⟨[blV n1 n1 n2 n2 (sl 6 0 n n), flV w s q, ag [u8 xa, u8 xb]]⟩ (heapL (hpF cs1 t1 s1 cs2 t2 s2 cs3 t3 s3))) (.val (b_ true) H') := by
  have hI : shE n1 n2 n = true → LawIn cs1 cs2 cs3 n1 n2 n := fun hs => by
    unfold shE at hs
    rw [decide_eq_true_eq] at hs
    have hn : n = 0 ∨ n = 1 ∨ n = 2 ∨ n = 3 ∨ n = 17 := by omega
    exact hin hn (by omega) (by omega)
  have hL : okLi ⟨argA n1 n2 n, w, s, q, 0, 0, 0⟩ [cs1, cs2, cs3] := ⟨rfl, ⟨rfl, rfl, rfl⟩, ⟨f1, f2, f3⟩, fun hs => okB3_in (hI hs)⟩
  by_cases hall : shE n1 n2 n = true ∧ errB (argA n1 n2 n) [cs1, cs2, cs3] = 0 ∧ flowE w s q = 0
  · obtain ⟨hs, he, hf⟩ := hall
    have hI := hI hs
    have hD := de2_bd hc
    obtain ⟨_, b1, b2, _⟩ := blade_z (show bladeE cs1 n1 cs2 n2 (rhoE cs3) n = 0 from he)
    have hn : n = 1 ∨ n = 2 ∨ n = 3 := by
      have h5 : n = 0 ∨ n = 1 ∨ n = 2 ∨ n = 3 ∨ n = 17 := hI.f
      omega
    rcases hn with rfl | rfl | rfl
    · exact fine_n1 hI (ni_u (k := 0) hI (by decide) hs he hf (by omega)) ha hc hL
    · exact fine_n2 hI (ni_u (k := 1) hI (by decide) hs he hf (by omega)) ha hc hL
    · exact fine_n3 hI (ni_u (k := 2) hI (by decide) hs he hf (by omega)) ha hc hL
  · exact one_tree (C := CVg) (n := 80) _ tsU1 .none (vfixg ..) (vrung ..) (preU_sel hL fun g1 g2 g3 => absurd ⟨g1, g2, g3⟩ hall)
end
end Go.Proofs.YtbocpikgochioaaDoor.Ways
/- For every input nacelletop.TopHawseFinest returns true, and each argument reads afterwards as it read before: a bracket that is refined bit by bit is the one that is found at each depth, thrusts and torques of the finest depth lie within all those before, and the balances at both ends of each bracket have their signs, for any blade, flow and two numbers. Conditions: the package-level table that it reads holds what the program's text lays. -/
namespace Go.Proofs.YtbocpikgochioaaDoor.Finest
open Go Go.Ex Go.ChangeShapes Go.WideShapes Go.ChangeAt Go.RowKit Go.Proofs.YtbocpikgochioaaDoor.Ways
theorem own : ownKnob Tryd.prog.godebug = none := by kernel_rfl
theorem laidOut : laidOutB Tryd.prog = true := by kernel_rfl
theorem laid_world {W : World} (hs : W.ShapedOpen Tryd.prog) (hL : laidMetH Tryd.prog Rows.topHawseFinestRow.laid W) : Laid Hg W := by
  have hL' : laidMet Tryd.prog Rows.topHawseFinestRow.laid W := hL
  intro b o ho ha
  refine LaidAt.weak ?_
  obtain ⟨rfl, rfl⟩ := hg_get ho ha
  exact laid_at 0 6 hs hL' rfl (by kernel_rfl) (of_decide_eq_true (by kernel_rfl)) (t0 := 149) (by kernel_rfl) (by kernel_rfl) (by kernel_rfl) (by kernel_rfl) clean0
def k1 : List CK := [.i .i64]
def k3f : List CK := [.i .i64, .i .i64, .i .i64]
theorem kinds29 : kindsOkB Tryd.prog 6 29 k3f = true := by kernel_rfl
theorem kinds3 : kindsOkB Tryd.prog 6 3 k1 = true := by kernel_rfl
theorem kinds69 : kindsOkB Tryd.prog 6 69 k4 = true := by kernel_rfl
theorem cells29 : Tryd.prog.cellsOf 29 = k3f.length := by kernel_rfl
theorem cells3 : Tryd.prog.cellsOf 3 = k1.length := by kernel_rfl
theorem cells69 : Tryd.prog.cellsOf 69 = k4.length := by kernel_rfl
theorem agg29 : aggB Tryd.prog 29 = some true := by kernel_rfl
theorem und22 : Tryd.prog.underlying 22 = some (.slice 3) := by kernel_rfl
theorem und25 : Tryd.prog.underlying 25 = some (.slice 69) := by kernel_rfl
theorem read27 : Tryd.prog.readableRec 27 = true := by kernel_rfl
theorem read29 : Tryd.prog.readableRec 29 = true := by kernel_rfl
theorem row27 : 27 < Tryd.prog.types.size := of_decide_eq_true (by kernel_rfl)
def k3u : List CK := [.i .u8, .i .u8]
theorem kinds71 : kindsOkB Tryd.prog 6 71 k3u = true := by kernel_rfl
theorem cells71 : Tryd.prog.cellsOf 71 = k3u.length := by kernel_rfl
theorem agg71 : aggB Tryd.prog 71 = some true := by kernel_rfl
theorem read71 : Tryd.prog.readableRec 71 = true := by kernel_rfl
theorem row71 : 71 < Tryd.prog.types.size := of_decide_eq_true (by kernel_rfl)
theorem u8_bd {v : Option Value} (h : isCellB (.i .u8) v = true) (hw : wfCell v) : 0 ≤ intO v ∧ intO v ≤ 255 := by
  have e := cellAt_eq h
  have hc : ∃ n : Int, v = some (.int .u8 n) := ⟨intO v, e⟩
  obtain ⟨n, rfl⟩ := hc
  have := hw .u8 n rfl
  have h2 : (decide (IntKind.min .u8 ≤ n) && decide (n ≤ IntKind.max .u8)) = true := this
  rw [Bool.and_eq_true, decide_eq_true_eq, decide_eq_true_eq] at h2
  have m1 : IntKind.min .u8 = 0 := by decide
  have m2 : IntKind.max .u8 = 255 := by decide
  rw [m1, m2] at h2
  exact h2
theorem row29 : 29 < Tryd.prog.types.size := of_decide_eq_true (by kernel_rfl)
theorem und4 : Tryd.prog.underlying 4 = some .bool := by kernel_rfl
theorem ct27 : Tryd.prog.cellTypes Tryd.prog.depth 27 = some [22, 22, 25] := by kernel_rfl
/-! ### a struct of slices -/
def structB (P : Program) (t : TypeId) (l : List (Nat × Nat)) : Bool :=
  match P.underlying t with
  | some (.struct fs) => (fs.toList.map fun f => (f.type, f.offset)) == l
  | _ => false
theorem structB_eq {P : Program} {t : TypeId} {l : List (Nat × Nat)} (h : structB P t l = true) : ∃ fs : Array Field, P.underlying t = some (.struct fs) ∧ (fs.toList.map fun f => (f.type, f.offset)) = l := by
  unfold structB at h
  split at h
  · rename_i fs hu
    exact ⟨fs, hu, by simpa using h⟩
  · cases h
theorem trod_field {H : Type} {enc : TypeId × Value → H} {P : Program} {w : World} {base : Nat} {spare : Nat → Bool} {held : Bool} {t : TypeId} {fuel : Nat} {cs : List Value} {x : DataW H × List MemPlace} {l : List (Nat × Nat)} (hs : structB P t l = true) (h : DataW.trod enc P w base spare held fuel t cs = some x) {j ty off : Nat} (hj : l[j]? = some (ty, off)) :
    ∃ n y, DataW.trod enc P w base spare held n ty ((cs.drop off).take (P.cellsOf ty)) = some y := by
  obtain ⟨fs, hu, hl⟩ := structB_eq hs
  obtain ⟨xs, n, _, _, _, hlen, hf⟩ := DataW.trod_struct hu h
  subst hl
  rw [List.getElem?_map] at hj
  obtain ⟨f, hf1, hf2⟩ := map_some' hj
  have hf3 : fs[j]? = some f := by simpa using hf1
  have h1 := hf j f hf3
  have hjl : j < xs.length := by rw [hlen]; exact (Array.getElem?_eq_some_iff.1 hf3).1
  rw [List.getElem?_eq_getElem hjl] at h1
  simp only [Prod.mk.injEq] at hf2
  obtain ⟨e1, e2⟩ := hf2
  rw [e1, e2] at h1
  exact ⟨n, _, h1⟩
theorem st27 : structB Tryd.prog 27 [(24, 0), (25, 2)] = true := by kernel_rfl
theorem st24 : structB Tryd.prog 24 [(22, 0), (22, 1)] = true := by kernel_rfl
theorem c27 : Tryd.prog.cellsOf 27 = 3 := by kernel_rfl
theorem c24 : Tryd.prog.cellsOf 24 = 2 := by kernel_rfl
theorem c22 : Tryd.prog.cellsOf 22 = 1 := by kernel_rfl
theorem c25 : Tryd.prog.cellsOf 25 = 1 := by kernel_rfl
/-- a blade that came in -/
structure BladeArg (W : World) (v : Value) (x1 x2 x3 : Value) (cs1 cs2 cs3 : List Value) (n1 n2 n t1 s1 t2 s2 t3 s3 : Nat) (en1 en2 en3 : En) : Prop where
  val : v = .agg #[x1, x2, x3]
  a1 : SliceArg W k1 x1 cs1 n1 t1 s1 en1
  a2 : SliceArg W k1 x2 cs2 n2 t2 s2 en2
  a3 : SliceArg W k4 x3 cs3 n t3 s3 en3
set_option maxRecDepth 100000 in
theorem open_blade {H : Type} {enc : TypeId × Value → H} {W : World} {r : Reach} {b0 : Nat} {v : Value} {d : DataW H} {p : List MemPlace} (h0 : (W.heap[0]?).isSome = true) (hok : Value.okWide Tryd.prog W r b0 27 v) (h : DataW.Trod enc Tryd.prog W 0 (fun _ => true) true 27 v d p) :
    ∃ x1 x2 x3 cs1 cs2 cs3 n1 n2 n t1 s1 t2 s2 t3 s3 en1 en2 en3, BladeArg W v x1 x2 x3 cs1 cs2 cs3 n1 n2 n t1 s1 t2 s2 t3 s3 en1 en2 en3 := by
  obtain ⟨fs, hu, _⟩ := structB_eq st27
  unfold Value.okWide at hok
  rw [hu] at hok
  obtain ⟨cs, rfl, hsz, ts, hts, _, hcell⟩ := hok
  rw [ct27] at hts
  cases hts
  rw [c27] at hsz
  obtain ⟨fuel, hf⟩ := h
  have hcs : (Value.agg cs).cells.toList = cs.toList := rfl
  rw [hcs] at hf
  obtain ⟨l⟩ := cs
  match l, hsz with
  | [x1, x2, x3], _ =>
    obtain ⟨m1, y1, g1⟩ := trod_field st27 hf (j := 0) rfl
    obtain ⟨m2, y2, g2⟩ := trod_field st27 hf (j := 1) rfl
    rw [c24] at g1
    rw [c25] at g2
    obtain ⟨m3, y3, g3⟩ := trod_field st24 g1 (j := 0) rfl
    obtain ⟨m4, y4, g4⟩ := trod_field st24 g1 (j := 1) rfl
    rw [c22] at g3 g4
    have ok : ∀ (j : Nat) (u : TypeId) (x : Value), ([x1, x2, x3])[j]? = some x → ([22, 22, 25] : List TypeId)[j % 3]? = some u → Cell.okWide Tryd.prog W r b0 u x := by
      intro j u x hx hu'
      obtain ⟨u', e1, e2⟩ := hcell j x (by simpa using hx)
      have : u' = u := Option.some.inj (e1.symm.trans hu')
      subst this
      exact e2
    obtain ⟨cs1, n1, t1, s1, en1, q1⟩ := open_arg k1 6 und22 cells3 kinds3 h0 (ok 0 22 x1 rfl rfl) g3
    obtain ⟨cs2, n2, t2, s2, en2, q2⟩ := open_arg k1 6 und22 cells3 kinds3 h0 (ok 1 22 x2 rfl rfl) g4
    obtain ⟨cs3, n, t3, s3, en3, q3⟩ := open_arg k4 6 und25 cells69 kinds69 h0 (ok 2 25 x3 rfl rfl) g2
    exact ⟨x1, x2, x3, cs1, cs2, cs3, n1, n2, n, t1, s1, t2, s2, t3, s3, en1, en2, en3, ⟨rfl, q1, q2, q3⟩⟩
theorem heapA_len (cs1 : List Value) (t1 s1 : Nat) (cs2 : List Value) (t2 s2 : Nat) (cs3 : List Value) (t3 s3 : Nat) : (heapL (hpF cs1 t1 s1 cs2 t2 s2 cs3 t3 s3)).length = gl + 3 := by rw [heapL_len]; rfl
theorem heapA_same (cs1 : List Value) (t1 s1 : Nat) (cs2 : List Value) (t2 s2 : Nat) (cs3 : List Value) (t3 s3 : Nat) : ∀ b, b < gl → (heapL (hpF cs1 t1 s1 cs2 t2 s2 cs3 t3 s3))[b]? = Hg[b]? := by
  intro b hb
  rw [heapL_get]
  match b, hb with
  | 0, _ => rfl
  | 1, _ => rfl
  | 2, _ => rfl
  | 3, _ => rfl
theorem okI_of {W : World} {v : Value} {cs : List Value} {n t s : Nat} {en : En} (h : SliceArg W k1 v cs n t s en) (hn : n ≤ 1000000) : OkI cs n n ∧ cs.length = n := by
  refine ⟨⟨h.flat, fun j hj => ?_, Nat.le_refl _, hn⟩, by have := h.len; simpa [k1] using this⟩
  have := h.kinds j hj
  unfold k1 areCells areCells at this
  simpa using this
theorem ring_of {W : World} {v : Value} {cs : List Value} {n t s : Nat} {en : En} (h : SliceArg W k4 v cs n t s en) : cs = ringC (rhoE cs) n := by
  have hl : cs.length = n * 4 := h.len
  apply List.ext_getElem?
  intro j
  unfold ringC
  rw [List.getElem?_map]
  rcases Nat.lt_or_ge j (n * 4) with hj | hj
  · rw [List.getElem?_range hj]
    have hk := h.kinds (j / 4) (by omega)
    have hc : ∀ m, m < 4 → isCellB (.i .i64) cs[0 + j / 4 * 4 + m]? = true := by
      intro m hm
      unfold k4 areCells areCells areCells areCells areCells at hk
      simp only [Bool.and_eq_true, Bool.and_true, List.length_cons, List.length_nil] at hk
      obtain ⟨k1, k2, k3, k4⟩ := hk
      match m, hm with
      | 0, _ => exact k1
      | 1, _ => exact k2
      | 2, _ => exact k3
      | 3, _ => exact k4
    have hj4 := hc (j % 4) (Nat.mod_lt _ (by decide))
    rw [show 0 + j / 4 * 4 + j % 4 = j from by omega] at hj4
    rw [cellAt_eq hj4]
    rfl
  · rw [List.getElem?_eq_none (by omega), List.getElem?_eq_none (by simpa using hj)]; rfl
theorem vrs_three {E : Env} {a b c a' b' c' : Value} (h1 : VR E a a') (h2 : VR E b b') (h3 : VR E c c') : VRs E ⟨[a, b, c]⟩ #[a', b', c'] := by
  refine ⟨rfl, fun i x x' hx hx' => ?_⟩
  match i, hx, hx' with
  | 0, hx, hx' => cases hx; cases hx'; exact h1
  | 1, hx, hx' => cases hx; cases hx'; exact h2
  | 2, hx, hx' => cases hx; cases hx'; exact h3
  | k + 3, hx, _ => simp at hx
theorem vr_agg3 {E : Env} {a b c a' b' c' : Value} (h1 : VR E a a') (h2 : VR E b b') (h3 : VR E c c') : VR E (.agg ⟨[a, b, c]⟩) (.agg #[a', b', c']) :=
  .agg rfl (vrs_three h1 h2 h3).at_
/-- the call returns true -/
theorem law_calls {W : World} {v x1 x2 x3 : Value} {cs1 cs2 cs3 : List Value} {n1 n2 n t1 s1 t2 s2 t3 s3 : Nat} {en1 en2 en3 : En} {w s q xa xb : Int} (ux : 0 ≤ xa ∧ xa ≤ 255) (uy : 0 ≤ xb ∧ xb ≤ 255) (hv : Laid Hg W) (h : BladeArg W v x1 x2 x3 cs1 cs2 cs3 n1 n2 n t1 s1 t2 s2 t3 s3 en1 en2 en3) :
    Calls Tryd.prog Fn.top_Finest #[v, flV w s q, ag [u8 xa, u8 xb]] W fun e W' => e = .returned (b_ true) ∧ Below W.heap.size W W' := by
  obtain ⟨rfl, h1, h2, h3⟩ := h
  have hw := WR.startA (W := W) (Hv := Hg) (H := heapL (hpF cs1 t1 s1 cs2 t2 s2 cs3 t3 s3)) (es := [en1, en2, en3]) (by rw [heapA_len]; rfl) hv (heapA_same cs1 t1 s1 cs2 t2 s2 cs3 t3 s3) (fun j e hj => by
    match j, hj with
    | 0, hj => cases hj; exact ⟨.cells cs1 t1 s1 false, by rw [heapL_get]; rfl, h1.at_⟩
    | 1, hj => cases hj; exact ⟨.cells cs2 t2 s2 false, by rw [heapL_get]; rfl, h2.at_⟩
    | 2, hj => cases hj; exact ⟨.cells cs3 t3 s3 false, by rw [heapL_get]; rfl, h3.at_⟩
    | j + 3, hj => simp at hj)
  have ha : VRs (startE gl ++ [en1, en2, en3]) ⟨[blV n1 n1 n2 n2 (sl 6 0 n n), flV w s q, ag [u8 xa, u8 xb]]⟩ #[.agg #[x1, x2, x3], flV w s q, ag [u8 xa, u8 xb]] :=
    vrs_three (vr_agg3 (h1.vr _ 4 rfl) (h2.vr _ 5 rfl) (h3.vr _ 6 rfl)) (VR.of_clean _ 7 _ rfl) (VR.of_clean _ 7 _ rfl)
  obtain ⟨H', hs⟩ := finest_true (t1 := t1) (s1 := s1) (t2 := t2) (s2 := s2) (t3 := t3) (s3 := s3) (w := w) (s := s) (q := q) (xa := xa) (xb := xb) ux uy h1.flat h2.flat h3.flat fun hf m1 m2 => ⟨(okI_of h1 m1).1, (okI_of h1 m1).2, (okI_of h2 m2).1, (okI_of h2 m2).2, ring_of h3, fun j hj => h3.kinds j hj, hf⟩
  refine calls_args (H' := H') hw ha rfl ?_
  rw [heapA_len]
  exact hs
theorem heap0 {W : World} (hv : Laid Hg W) : (W.heap[0]?).isSome = true := by
  obtain ⟨_, _, _, _, _, fz, h⟩ := hv 0 (.cells powers 149 1 true) rfl rfl
  rw [h]; rfl
set_option maxRecDepth 100000 in
theorem contract (H : Type) (enc : TypeId × Value → H) (W : World) (base : Nat) (args : Array Value) (ds gs : List (DataW H)) (before : List MemPlace)
    (hval : ∀ (j : Nat) t v, Tryd.f6.params[j]? = some t → args[j]? = some v → Value.okWide Tryd.prog W .any base t v)
    (hW : DataW.Whole enc Tryd.prog Tryd.f6.params.toList Rows.topHawseFinestSpec.vars false W args.toList ds gs before) (hL : laidMetH Tryd.prog Rows.topHawseFinestRow.laid W) (hs : W.ShapedOpen Tryd.prog) :
    Calls Tryd.prog 6 args W fun e W' => ∃ v, e = .returned v ∧ Rows.topHawseFinestSpec.post enc Tryd.prog Tryd.f6 false true false false W args v W' := by
  have hW' := hW
  obtain ⟨p, q, hA0, hV, rfl, hfz, hnd⟩ := hW
  have hA : DataW.TrodAll enc Tryd.prog W 0 (fun _ => true) true Tryd.f6.params.toList args.toList ds p := hA0
  rw [Tryd.params6] at hA hval
  obtain ⟨v0, v1, v2, d0, d1, d2, p0, p1, p2, rfl, rfl, rfl, h0, h1, h2⟩ := trodAll_three hA
  obtain ⟨rfl, rfl⟩ := trodVars_none hV
  clear hA0
  have hlw := laid_world hs hL
  obtain ⟨x1, x2, x3, cs1, cs2, cs3, n1, n2, n, t1, s1, t2, s2, t3, s3, en1, en2, en3, hb⟩ := open_blade (heap0 hlw) (hval 0 27 v0 rfl rfl) h0
  obtain ⟨c1, hv1, _, _⟩ := open_flat k3f 6 agg29 cells29 kinds29 (hval 1 29 v1 rfl rfl) h1
  obtain ⟨c2, hv2, ha2, hw2⟩ := open_flat k3u 6 agg71 cells71 kinds71 (hval 2 71 v2 rfl rfl) h2
  have hq2 := ha2
  unfold k3u areCells areCells at hq2
  rw [Bool.and_eq_true] at hq2
  obtain ⟨q0, q1⟩ := hq2
  rw [Bool.and_eq_true] at q1
  have hlt := fun x hx => hW'.lt x hx
  subst hv1
  subst hv2
  refine (law_calls (w := intO c1[0]?) (s := intO c1[0 + 1]?) (q := intO c1[0 + 1 + 1]?) (xa := intO c2[0]?) (xb := intO c2[0 + 1]?) (u8_bd q0 (hw2 _)) (u8_bd q1.1 (hw2 _)) hlw hb).mono fun e W' ⟨he, hbl⟩ => ?_
  subst he
  refine ⟨_, rfl, post_of_below (pa := p0 ++ (p1 ++ p2)) (pv := []) hW' (fun _ _ _ => trodAll_mk1 (shut_bool und4 _)) (fun sp hsp => ?_) (fun _ _ => rfl) (by simp) hbl (ok_one (by kernel_rfl) rfl (okWide_bool_mk und4 _))⟩
  rw [Tryd.params6]
  exact trodAll_mk3 (stays laidOut read27 row27 h0 hbl (fun x hx => hlt x (by simp [hx])) (fun x hx => hsp x (by simp [hx])))
    (stays laidOut read29 row29 h1 hbl (fun x hx => hlt x (by simp [hx])) (fun x hx => hsp x (by simp [hx])))
    (stays laidOut read71 row71 h2 hbl (fun x hx => hlt x (by simp [hx])) (fun x hx => hsp x (by simp [hx])))
/-- A WORLD FOR THE WITNESS: the settled one, each table holding what its initialiser lays. -/
noncomputable def put1 (b : Nat) (l : List Value) (h : Array Obj) : Array Obj := h.modify b fun
  | .cells _ t frozen => .cells ⟨l⟩ t frozen
  | o => o
noncomputable def laidWorld (os : Os) : World :=
  { World.holding Tryd.prog os ⟨#[], #[], []⟩ with heap := put1 3 tab64 (put1 2 tab32 (put1 1 pow10 (put1 0 powers (World.holding Tryd.prog os ⟨#[], #[], []⟩).heap))) }
def wit : Array Value := #[.agg #[.slice none 0 0, .slice none 0 0, .slice none 0 0], .agg #[.int .i64 0, .int .i64 0, .int .i64 0], .agg #[.int .u8 0, .int .u8 0]]
theorem laid_met (os : Os) : laidMet Tryd.prog Rows.topHawseFinestRow.laid ((laidWorld os).forCall (fun _ _ => 0) ⟨#[], wit, []⟩).memory :=
  laidMet_of_run' 8 (by kernel_rfl) (by kernel_rfl)
theorem reads (os : Os) {H : Type} (enc : TypeId × Value → H) : ∃ places, DataW.whole enc Tryd.prog ((laidWorld os).forCall (fun _ _ => 0) ⟨#[], wit, []⟩).memory Tryd.f6.params.toList Rows.topHawseFinestSpec.vars false wit.toList 8 =
    some ([.agg [.agg [.nil, .nil], .nil], .agg [.lit (.int .i64 0), .lit (.int .i64 0), .lit (.int .i64 0)], .agg [.lit (.int .u8 0), .lit (.int .u8 0)]], [], places) :=
  ⟨[], by kernel_rfl⟩
set_option maxRecDepth 100000 in
theorem lifted (os : Os) (started : os.Started) (H : Type) (enc : TypeId × Value → H) (F : Stop.Interp) :
    ReturnsInHanded {} Tryd.checked os 6 .any ((OpenSpec.ofChange Rows.topHawseFinestSpec).preRow enc Tryd.prog Tryd.f6 Rows.topHawseFinestRow.domain false Rows.topHawseFinestRow.laid) (((OpenSpec.ofChange Rows.topHawseFinestSpec).at F).post enc Tryd.prog Tryd.f6 false true false false) := by
  obtain ⟨places, hx⟩ := reads os enc
  refine returnsInHanded_of_row (C := Tryd.checked) (s := OpenSpec.ofChange Rows.topHawseFinestSpec) own started (by kernel_rfl) Tryd.func6
    (witness_row_at (enc := enc) (C := Tryd.checked) false (laidWorld os) wit rfl (by kernel_rfl) (by kernel_rfl) (by kernel_rfl)
      (OpenSpec.preRow_of_cond 8 hx (by kernel_rfl) (fun k hk => by cases hk) (by kernel_rfl) (laid_met os))) ?_
  intro W base args ds gs before hval hW _ _ _ hL hs _
  exact contract H enc W base args ds gs before hval hW hL hs
theorem said : Rows.TopHawseFinestSaid :=
  OpenClaim.holds_of_cond 6 Tryd.f6 rfl rfl rfl rfl rfl rfl rfl ⟨rfl, rfl, rfl, rfl, rfl⟩ rfl rfl rfl rfl rfl (by kernel_rfl) Tryd.func6 (by kernel_rfl)
    (of_decide_eq_true (by kernel_rfl)) (by unfold Func.isWrapper; first | (rw [if_pos (by decide +kernel)]; kernel_rfl) | (rw [if_neg (by decide +kernel)]; exact ⟨rfl, rfl⟩))
    (fun os started H enc _ F => by rw [OpenClaim.pre_eq_preRow]; exact lifted os started H enc F)
theorem plain (f : FuncId) (fn : Func) (hf : Tryd.pinned.checked.prog.funcNamed "nacelle/nacelletop.TopHawseFinest" = some f) (hfn : Tryd.pinned.checked.prog.funcs[f]? = some fn) :
    false = Tryd.pinned.checked.prog.looks [] ∧ ∀ (j : Nat) t, fn.params[j]? = some t → Tryd.pinned.checked.prog.wantsStandIn t = false := by
  obtain rfl : f = 6 := Option.some.inj ((show Tryd.prog.funcNamed "nacelle/nacelletop.TopHawseFinest" = some 6 by kernel_rfl).symm.trans hf) |>.symm
  obtain rfl : fn = Tryd.f6 := (Option.some.inj (Tryd.func6.symm.trans hfn)).symm
  refine ⟨by kernel_rfl, fun j t ht => ?_⟩
  rw [Tryd.params6] at ht
  have hm : t ∈ [27, 29, 71] := by simpa using Array.mem_of_getElem? ht
  have hall : ([27, 29, 71].all fun u => !Tryd.prog.wantsStandIn u) = true := by kernel_rfl
  exact (show Tryd.prog.wantsStandIn t = false by simpa using List.all_eq_true.1 hall t hm)
end Go.Proofs.YtbocpikgochioaaDoor.Finest
namespace Go.Proofs.YtbocpikgochioaaDoor
/-- ████ THE CARD ████ -/
theorem finest_card : Rows.TopHawseFinestCardSaid :=
  Claim7.holds_tied_plain_at .later [] _ _ _ _ Finest.said (fun _ h => by cases h) (by kernel_rfl) (fun _ h => by cases h) topHawseFinest_row_tie rfl ⟨rfl, rfl⟩ (by kernel_rfl) rfl Finest.plain (by kernel_rfl)
end Go.Proofs.YtbocpikgochioaaDoor
