import Derived.Test.YtbocpikgochioaaDoorMr3
import Derived.Test.YtbocpikgochioaaDoorEngOrd2
namespace Go.Proofs.YtbocpikgochioaaDoor.Fn
def law03_RotorMonotone : Nat := 4
end Go.Proofs.YtbocpikgochioaaDoor.Fn
namespace Go.Proofs.YtbocpikgochioaaDoor.Ways
open Go Go.Ex
noncomputable def CX0 : Cfg := ⟨TXf, no_, off_, noL⟩
noncomputable def O5a : Array Oper := regOps Tryd.f4 5
noncomputable def O5b : Array Oper := regOps Tryd.f4 22
def AF (n1 n2 k : Nat) (w s q ring D : Int) : ArA := ⟨cpA_ n1 n2 (k + 1), w, s, q, ring, D, 0⟩
def AR (n1 n2 k : Nat) (w s q ring x d : Int) : ArA := ⟨cpA_ n1 n2 (k + 1), w, s, q, ring, x, d⟩
def fX (a : ArA) (css : List (List Value)) : Int := okE (fErr (firstE (sE_ a css) (rangeE a.x 1 12)) (hasB (scB a css) (cs12 css))) (brA (scB a css) (cs12 css) (a.x - 1).toNat)
def fY (a : ArA) (css : List (List Value)) : Int := okE (fErr (firstE (sE_ a css) (rangeE a.x 1 12)) (hasB (scB a css) (cs12 css))) a.x
def fZ (a : ArA) (css : List (List Value)) : Int := fErr (firstE (sE_ a css) (rangeE a.x 1 12)) (hasB (scB a css) (cs12 css))
def gX (a : ArA) (css : List (List Value)) : Int := pick3 (checkR a css) a.d 0 (okE (ffE (upA a) css (upA a).x) (brA (scB (upA a) css) (cs12 css) ((upA a).x - 1).toNat)) 0
def gY (a : ArA) (css : List (List Value)) : Int := pick3 (checkR a css) a.d 0 (okE (ffE (upA a) css (upA a).x) (upA a).x) 0
def gZ (a : ArA) (css : List (List Value)) : Int := pick3 (checkR a css) a.d 23 (ffE (upA a) css (upA a).x) (checkR a css)
def cutV (z : Bool) (L n1 n2 n : Nat) : Value := ag [sl L 0 n1 n1, sl (L + 1) 0 n2 n2, cond z nilV (sl (L + 2) 0 n n)]
noncomputable def baseM (n1 n2 k : Nat) (w s q R a d x D : Int) (cs1 : List Value) (t1 s1 : Nat) (cs2 : List Value) (t2 s2 : Nat) (cs3 : List Value) (t3 s3 : Nat) : List (CO × Bool) :=
  [(.cells powers 149 1 true, true), (.cells pow10 166 1 true, true), (.cells tab32 173 1 true, true), (.cells tab64 174 1 true, true), (.cells cs1 t1 s1 false, true), (.cells cs2 t2 s2 false, true), (.cells cs3 t3 s3 false, true),
    (.cells [sl 4 0 n1 n1, sl 5 0 n2 n2, sl 6 0 (k + 1) (k + 1)] 27 1 true, false), (.cells [i w, i s, i q] 29 1 true, false), (.cells [i R, i a, i d, i x, i D] 52 1 true, false)]
def cps (z : Bool) (m j : Nat) (cs1 cs2 cs3 : List Value) : List (CO × Bool) := bitC m j (.cells cs1 3 1 false, true) :: bitC m j (.cells cs2 3 1 false, true) :: cond z [] [bitC m j (.cells cs3 103 4 false, true)]
def gone (z : Bool) : List (CO × Bool) := (.dead, false) :: (.dead, false) :: cond z [] [(.dead, false)]
theorem flat10 : pow10.all Ex.flat = true := by kernel_rfl
theorem flat32 : tab32.all Ex.flat = true := by kernel_rfl
theorem flat64 : tab64.all Ex.flat = true := by kernel_rfl
theorem tsX0 {G : Nat} : TSound Tryd.prog G CX0.T := tsXf
theorem sfX : SelfSound Tryd.prog 7 (selfA (qS (tabW CX0))) := qS_selfSound (tabW_sound tsX0)
def statesMB : List Nat := [0, 1, 3, 4, 5, 7, 8, 9, 11, 12, 13, 15, 16, 17, 19, 20, 21, 23, 24, 25, 27, 28, 29, 31, 63, 127, 255, 383, 511, 512, 513, 515, 516, 517, 519, 520, 521, 523, 524, 525, 527, 528, 529, 531, 532, 533, 535, 536, 537, 539, 540, 541, 543, 575, 639, 767, 895, 1023, 1791, 2047, 4095]
def ansMB (j : Nat) : List Bool :=
  match j with
  | 1 => [true]
  | 5 => [true]
  | _ => []
def liveMB (cs1 cs2 cs3 : List Value) (t1 s1 t2 s2 t3 s3 n1 n2 k : Nat) (w s q R a d x D ring half A L : Int) (m : Nat) : List (Nat × Value) := [(3, pt 7 0), (4, pt 8 0), (5, pt 9 0), (7, i ring), (9, pt 13 0), (11, i A), (12, i L)] ++ bitV m 0 (160, blV n1 n1 n2 n2 (sl 6 0 (k + 1) (k + 1))) ++ bitV m 1 (161, cutV false 14 n1 n2 (k + 1)) ++ bitV m 2 (162, flV w s q) ++ bitV m 3 (163, i ring) ++ bitV m 4 (164, ag [i (fX (AF n1 n2 k w s q ring D) (cpS cs1 cs2 cs3 (k + 1))), i (fY (AF n1 n2 k w s q ring D) (cpS cs1 cs2 cs3 (k + 1)))]) ++ bitV m 5 (165, (tp [ag [i (gX (AR n1 n2 k w s q ring (fX (AF n1 n2 k w s q ring D) (cpS cs1 cs2 cs3 (k + 1))) (fY (AF n1 n2 k w s q ring D) (cpS cs1 cs2 cs3 (k + 1)))) (cpS cs1 cs2 cs3 (k + 1))), i (gY (AR n1 n2 k w s q ring (fX (AF n1 n2 k w s q ring D) (cpS cs1 cs2 cs3 (k + 1))) (fY (AF n1 n2 k w s q ring D) (cpS cs1 cs2 cs3 (k + 1)))) (cpS cs1 cs2 cs3 (k + 1)))], i (gZ (AR n1 n2 k w s q ring (fX (AF n1 n2 k w s q ring D) (cpS cs1 cs2 cs3 (k + 1))) (fY (AF n1 n2 k w s q ring D) (cpS cs1 cs2 cs3 (k + 1)))) (cpS cs1 cs2 cs3 (k + 1)))])) ++ bitV m 6 (159, (tp [ag [i (gX (AR n1 n2 k w s q ring (fX (AF n1 n2 k w s q ring D) (cpS cs1 cs2 cs3 (k + 1))) (fY (AF n1 n2 k w s q ring D) (cpS cs1 cs2 cs3 (k + 1)))) (cpS cs1 cs2 cs3 (k + 1))), i (gY (AR n1 n2 k w s q ring (fX (AF n1 n2 k w s q ring D) (cpS cs1 cs2 cs3 (k + 1))) (fY (AF n1 n2 k w s q ring D) (cpS cs1 cs2 cs3 (k + 1)))) (cpS cs1 cs2 cs3 (k + 1)))], i (gZ (AR n1 n2 k w s q ring (fX (AF n1 n2 k w s q ring D) (cpS cs1 cs2 cs3 (k + 1))) (fY (AF n1 n2 k w s q ring D) (cpS cs1 cs2 cs3 (k + 1)))) (cpS cs1 cs2 cs3 (k + 1)))])) ++ bitV m 7 (166, ag [i (gX (AR n1 n2 k w s q ring (fX (AF n1 n2 k w s q ring D) (cpS cs1 cs2 cs3 (k + 1))) (fY (AF n1 n2 k w s q ring D) (cpS cs1 cs2 cs3 (k + 1)))) (cpS cs1 cs2 cs3 (k + 1))), i (gY (AR n1 n2 k w s q ring (fX (AF n1 n2 k w s q ring D) (cpS cs1 cs2 cs3 (k + 1))) (fY (AF n1 n2 k w s q ring D) (cpS cs1 cs2 cs3 (k + 1)))) (cpS cs1 cs2 cs3 (k + 1)))]) ++ bitV m 8 (167, i (gZ (AR n1 n2 k w s q ring (fX (AF n1 n2 k w s q ring D) (cpS cs1 cs2 cs3 (k + 1))) (fY (AF n1 n2 k w s q ring D) (cpS cs1 cs2 cs3 (k + 1)))) (cpS cs1 cs2 cs3 (k + 1)))) ++ bitV m 9 (20, pt 17 0) ++ bitV m 11 (21, i (gZ (AR n1 n2 k w s q ring (fX (AF n1 n2 k w s q ring D) (cpS cs1 cs2 cs3 (k + 1))) (fY (AF n1 n2 k w s q ring D) (cpS cs1 cs2 cs3 (k + 1)))) (cpS cs1 cs2 cs3 (k + 1))))
noncomputable def baseMB (cs1 cs2 cs3 : List Value) (t1 s1 t2 s2 t3 s3 n1 n2 k : Nat) (w s q R a d x D ring half A L : Int) : List (CO × Bool) := baseM n1 n2 k w s q R a d x D cs1 t1 s1 cs2 t2 s2 cs3 t3 s3 ++ gone false ++ [(.cells [i (fX (AF n1 n2 k w s q ring D) (cpS cs1 cs2 cs3 (k + 1))), i (fY (AF n1 n2 k w s q ring D) (cpS cs1 cs2 cs3 (k + 1)))] 53 1 true, false)]
noncomputable def hpMB (cs1 cs2 cs3 : List Value) (t1 s1 t2 s2 t3 s3 n1 n2 k : Nat) (w s q R a d x D ring half A L : Int) (m : Nat) : List (CO × Bool) := baseM n1 n2 k w s q R a d x D cs1 t1 s1 cs2 t2 s2 cs3 t3 s3 ++ gone false ++ [(.cells [i (fX (AF n1 n2 k w s q ring D) (cpS cs1 cs2 cs3 (k + 1))), i (fY (AF n1 n2 k w s q ring D) (cpS cs1 cs2 cs3 (k + 1)))] 53 1 true, false)] ++ cps false m 1 cs1 cs2 cs3 ++ [bitC m 9 (.cells (cond (Nat.testBit m 10) [i (gX (AR n1 n2 k w s q ring (fX (AF n1 n2 k w s q ring D) (cpS cs1 cs2 cs3 (k + 1))) (fY (AF n1 n2 k w s q ring D) (cpS cs1 cs2 cs3 (k + 1)))) (cpS cs1 cs2 cs3 (k + 1))), i (gY (AR n1 n2 k w s q ring (fX (AF n1 n2 k w s q ring D) (cpS cs1 cs2 cs3 (k + 1))) (fY (AF n1 n2 k w s q ring D) (cpS cs1 cs2 cs3 (k + 1)))) (cpS cs1 cs2 cs3 (k + 1)))] [i 0, i 0]) 53 1 true, false)]
def rhoMB (j : Nat) : List Nat :=
  match j with
  | 1 => [0, 1, 2, 3, 4, 5, 6, 7, 8, 9, 10, 11, 12, 13, 18, 19, 20, 17]
  | 9 => [0, 1, 2, 3, 4, 5, 6, 7, 8, 9, 10, 11, 12, 13, 14, 15, 16, 18]
  | _ => List.range 18
def lenMB (j : Nat) : Nat :=
  match j with
  | 1 => 21
  | 9 => 19
  | _ => 18
noncomputable def cndMB (cs1 cs2 cs3 : List Value) (t1 s1 t2 s2 t3 s3 n1 n2 k : Nat) (w s q R a d x D ring half A L : Int) (j : Nat) : List Bool :=
  match j with
  | 1 => [tru (okCp (argA n1 n2 (k + 1)) cs1 cs2 cs3)]
  | 5 => [tru (okP (AR n1 n2 k w s q ring (fX (AF n1 n2 k w s q ring D) (cpS cs1 cs2 cs3 (k + 1))) (fY (AF n1 n2 k w s q ring D) (cpS cs1 cs2 cs3 (k + 1)))) (cpS cs1 cs2 cs3 (k + 1)))]
  | _ => []
theorem fixMB (cs1 cs2 cs3 : List Value) (t1 s1 t2 s2 t3 s3 n1 n2 k : Nat) (w s q R a d x D ring half A L : Int) : (trsN O5b statesMB).map (outW (tabW CX0) Tryd.prog 7 CX0 Fn.law03_RotorMonotone O5b 203 (liveMB cs1 cs2 cs3 t1 s1 t2 s2 t3 s3 n1 n2 k w s q R a d x D ring half A L) (hpMB cs1 cs2 cs3 t1 s1 t2 s2 t3 s3 n1 n2 k w s q R a d x D ring half A L)) = (trsN O5b statesMB).map fun t => (outW (tabW CX0) Tryd.prog 7 CX0 Fn.law03_RotorMonotone O5b 203 (liveMB cs1 cs2 cs3 t1 s1 t2 s2 t3 s3 n1 n2 k w s q R a d x D ring half A L) (hpMB cs1 cs2 cs3 t1 s1 t2 s2 t3 s3 n1 n2 k w s q R a d x D ring half A L) t).fix := by kernel_rfl
theorem obsMB (cs1 cs2 cs3 : List Value) (t1 s1 t2 s2 t3 s3 n1 n2 k : Nat) (w s q R a d x D ring half A L : Int) : (trsN O5b statesMB).map (obsW (tabW CX0) Tryd.prog 7 CX0 Fn.law03_RotorMonotone O5b 203 (liveMB cs1 cs2 cs3 t1 s1 t2 s2 t3 s3 n1 n2 k w s q R a d x D ring half A L) (hpMB cs1 cs2 cs3 t1 s1 t2 s2 t3 s3 n1 n2 k w s q R a d x D ring half A L) rhoMB ansMB) = (trsN O5b statesMB).map (expN 203 (liveMB cs1 cs2 cs3 t1 s1 t2 s2 t3 s3 n1 n2 k w s q R a d x D ring half A L) (hpMB cs1 cs2 cs3 t1 s1 t2 s2 t3 s3 n1 n2 k w s q R a d x D ring half A L) rhoMB (cndMB cs1 cs2 cs3 t1 s1 t2 s2 t3 s3 n1 n2 k w s q R a d x D ring half A L) lenMB) := by kernel_rfl
theorem goodMB (cs1 cs2 cs3 : List Value) (t1 s1 t2 s2 t3 s3 n1 n2 k : Nat) (w s q R a d x D ring half A L : Int) : ((trsN O5b statesMB).all fun t => goodR 14 (lenMB t.2) (liveMB cs1 cs2 cs3 t1 s1 t2 s2 t3 s3 n1 n2 k w s q R a d x D ring half A L (t.1 ||| 2 ^ t.2)) (hpMB cs1 cs2 cs3 t1 s1 t2 s2 t3 s3 n1 n2 k w s q R a d x D ring half A L (t.1 ||| 2 ^ t.2)) (rhoMB t.2)) = true := by kernel_rfl
theorem closedMB : closedN O5b statesMB 4095 = true := by kernel_rfl
theorem flatMB {cs1 cs2 cs3 : List Value} {t1 s1 t2 s2 t3 s3 n1 n2 k : Nat} {w s q R a d x D ring half A L : Int} (f1 : cs1.all Ex.flat = true) (f2 : cs2.all Ex.flat = true) (f3 : cs3.all Ex.flat = true) : ∀ m o, (o, true) ∈ hpMB cs1 cs2 cs3 t1 s1 t2 s2 t3 s3 n1 n2 k w s q R a d x D ring half A L m → FlatO o := by
  intro m o ho
  unfold hpMB baseM cps gone bitC at ho
  simp only [cond, List.cons_append, List.nil_append, List.mem_cons, List.not_mem_nil, or_false, Prod.mk.injEq, Bool.true_eq_false, and_false, false_or] at ho
  rcases ho with ⟨rfl, _⟩ | ⟨rfl, _⟩ | ⟨rfl, _⟩ | ⟨rfl, _⟩ | ⟨rfl, _⟩ | ⟨rfl, _⟩ | ⟨rfl, _⟩ | ho | ho | ho | ho
  · exact flatO_of flatP
  · exact flatO_of flat10
  · exact flatO_of flat32
  · exact flatO_of flat64
  · exact flatO_of f1
  · exact flatO_of f2
  · exact flatO_of f3
  all_goals
    split at ho <;> first
      | (cases ho; done)
      | (injection ho with h4 h5; subst h4; exact flatO_of (by assumption))
theorem cndMB_ok {cs1 cs2 cs3 : List Value} {t1 s1 t2 s2 t3 s3 n1 n2 k : Nat} {w s q R a d x D ring half A L : Int} (h1 : okCp (argA n1 n2 (k + 1)) cs1 cs2 cs3) (h2 : okP (AR n1 n2 k w s q ring (fX (AF n1 n2 k w s q ring D) (cpS cs1 cs2 cs3 (k + 1))) (fY (AF n1 n2 k w s q ring D) (cpS cs1 cs2 cs3 (k + 1)))) (cpS cs1 cs2 cs3 (k + 1))) : ∀ j, cndMB cs1 cs2 cs3 t1 s1 t2 s2 t3 s3 n1 n2 k w s q R a d x D ring half A L j = (ansMB j).take (cndMB cs1 cs2 cs3 t1 s1 t2 s2 t3 s3 n1 n2 k w s q R a d x D ring half A L j).length := by
  intro j
  unfold cndMB ansMB
  split
  · rw [tru_iff.2 h1]; rfl
  · rw [tru_iff.2 h2]; rfl
  · rfl
theorem padMB (cs1 cs2 cs3 : List Value) (t1 s1 t2 s2 t3 s3 n1 n2 k : Nat) (w s q R a d x D ring half A L : Int) : heapL ((hpMB cs1 cs2 cs3 t1 s1 t2 s2 t3 s3 n1 n2 k w s q R a d x D ring half A L 0).map (·.1)) = heapL ((baseMB cs1 cs2 cs3 t1 s1 t2 s2 t3 s3 n1 n2 k w s q R a d x D ring half A L).map (·.1) ++ List.replicate 4 .dead) := by kernel_rfl
theorem ordMB {cs1 cs2 cs3 : List Value} {t1 s1 t2 s2 t3 s3 n1 n2 k : Nat} {w s q R a d x D ring half A L : Int} (f1 : cs1.all Ex.flat = true) (f2 : cs2.all Ex.flat = true) (f3 : cs3.all Ex.flat = true) (h1 : okCp (argA n1 n2 (k + 1)) cs1 cs2 cs3) (h2 : okP (AR n1 n2 k w s q ring (fX (AF n1 n2 k w s q ring D) (cpS cs1 cs2 cs3 (k + 1))) (fY (AF n1 n2 k w s q ring D) (cpS cs1 cs2 cs3 (k + 1)))) (cpS cs1 cs2 cs3 (k + 1))) : Orders (selfA (qS (tabW CX0))) Tryd.prog 7 O5b 14 (fun m => m ∈ statesMB) (fun m => absT (tmL 203 (liveMB cs1 cs2 cs3 t1 s1 t2 s2 t3 s3 n1 n2 k w s q R a d x D ring half A L m))) (fun m => heapL ((hpMB cs1 cs2 cs3 t1 s1 t2 s2 t3 s3 n1 n2 k w s q R a d x D ring half A L m).map (·.1))) 4095 :=
  orders_ofW statesMB (fixMB cs1 cs2 cs3 t1 s1 t2 s2 t3 s3 n1 n2 k w s q R a d x D ring half A L) (obsMB cs1 cs2 cs3 t1 s1 t2 s2 t3 s3 n1 n2 k w s q R a d x D ring half A L) (cndMB_ok h1 h2) (goodMB cs1 cs2 cs3 t1 s1 t2 s2 t3 s3 n1 n2 k w s q R a d x D ring half A L) closedMB (flatMB f1 f2 f3)
theorem sndMB {cs1 cs2 cs3 : List Value} {t1 s1 t2 s2 t3 s3 n1 n2 k : Nat} {w s q R a d x D ring half A L : Int} (f1 : cs1.all Ex.flat = true) (f2 : cs2.all Ex.flat = true) (f3 : cs3.all Ex.flat = true) (h1 : okCp (argA n1 n2 (k + 1)) cs1 cs2 cs3) (h2 : okP (AR n1 n2 k w s q ring (fX (AF n1 n2 k w s q ring D) (cpS cs1 cs2 cs3 (k + 1))) (fY (AF n1 n2 k w s q ring D) (cpS cs1 cs2 cs3 (k + 1)))) (cpS cs1 cs2 cs3 (k + 1))) (ro : Option Nat) {tm0 : Array Value} {H0 : CH} (hk : H0.length = 14) (hst : Restate 14 tm0 H0 (absT (tmL 203 (liveMB cs1 cs2 cs3 t1 s1 t2 s2 t3 s3 n1 n2 k w s q R a d x D ring half A L 0))) (heapL ((baseMB cs1 cs2 cs3 t1 s1 t2 s2 t3 s3 n1 n2 k w s q R a d x D ring half A L).map (·.1)))) :
    Sound Tryd.prog 7 (.code (.region 22 O5b true) ro tm0 H0 []) (.ex .normal (absT (tmL 203 (liveMB cs1 cs2 cs3 t1 s1 t2 s2 t3 s3 n1 n2 k w s q R a d x D ring half A L 4095))) (heapL ((hpMB cs1 cs2 cs3 t1 s1 t2 s2 t3 s3 n1 n2 k w s q R a d x D ring half A L 4095).map (·.1))) []) := by
  have ho := ordMB (t1 := t1) (s1 := s1) (t2 := t2) (s2 := s2) (t3 := t3) (s3 := s3) (R := R) (a := a) (d := d) (x := x) (half := half) (A := A) (L := L) f1 f2 f3 h1 h2
  have hr := padMB cs1 cs2 cs3 t1 s1 t2 s2 t3 s3 n1 n2 k w s q R a d x D ring half A L
  generalize liveMB cs1 cs2 cs3 t1 s1 t2 s2 t3 s3 n1 n2 k w s q R a d x D ring half A L = lv at *
  generalize hpMB cs1 cs2 cs3 t1 s1 t2 s2 t3 s3 n1 n2 k w s q R a d x D ring half A L = hp at *
  generalize baseMB cs1 cs2 cs3 t1 s1 t2 s2 t3 s3 n1 n2 k w s q R a d x D ring half A L = bs at *
  rw [← hk] at ho hst
  exact orders_sound2 (tmS := fun m => absT (tmL 203 (lv m))) (HS := fun m => heapL ((hp m).map (·.1))) (mF := 4095) sfX mix12 ho (by rw [hk]; decide) (by decide) hr hst ro
theorem fbMB {cs1 cs2 cs3 : List Value} {t1 s1 t2 s2 t3 s3 n1 n2 k : Nat} {w s q R a d x D ring half A L : Int} (f1 : cs1.all Ex.flat = true) (f2 : cs2.all Ex.flat = true) (f3 : cs3.all Ex.flat = true) : ∀ o, (o, true) ∈ baseMB cs1 cs2 cs3 t1 s1 t2 s2 t3 s3 n1 n2 k w s q R a d x D ring half A L → FlatO o := fun o ho =>
  flatMB (w := w) (s := s) (q := q) (ring := ring) (R := R) (a := a) (d := d) (x := x) (D := D) (half := half) (A := A) (L := L) f1 f2 f3 0 o (by unfold hpMB; exact List.mem_append_left _ (List.mem_append_left _ ho))
end Go.Proofs.YtbocpikgochioaaDoor.Ways
namespace Go.Proofs.YtbocpikgochioaaDoor.Ways
open Go Go.Ex
def statesMA : List Nat := [0, 1, 3, 4, 5, 7, 8, 9, 11, 12, 13, 15, 16, 17, 19, 20, 21, 23, 24, 25, 27, 28, 29, 31, 48, 49, 51, 52, 53, 55, 56, 57, 59, 60, 61, 63, 127, 255, 511, 767, 1023, 1024, 1025, 1027, 1028, 1029, 1031, 1032, 1033, 1035, 1036, 1037, 1039, 1040, 1041, 1043, 1044, 1045, 1047, 1048, 1049, 1051, 1052, 1053, 1055, 1072, 1073, 1075, 1076, 1077, 1079, 1080, 1081, 1083, 1084, 1085, 1087, 1151, 1279, 1535, 1791, 2047, 3583, 4095, 8191]
def ansMA (j : Nat) : List Bool :=
  match j with
  | 1 => [true]
  | 6 => [true]
  | _ => []
def liveMA (cs1 cs2 cs3 : List Value) (t1 s1 t2 s2 t3 s3 n1 n2 k : Nat) (w s q R a d x D ring half A L : Int) (m : Nat) : List (Nat × Value) := [(3, pt 7 0), (4, pt 8 0), (5, pt 9 0), (7, i ring), (8, i half)] ++ bitV m 0 (69, blV n1 n1 n2 n2 (sl 6 0 (k + 1) (k + 1))) ++ bitV m 1 (70, cutV false 10 n1 n2 (k + 1)) ++ bitV m 2 (71, flV w s q) ++ bitV m 3 (72, i ring) ++ bitV m 4 (73, pt 9 4) ++ bitV m 5 (74, i D) ++ bitV m 6 (75, (tp [ag [i (fX (AF n1 n2 k w s q ring D) (cpS cs1 cs2 cs3 (k + 1))), i (fY (AF n1 n2 k w s q ring D) (cpS cs1 cs2 cs3 (k + 1)))], i (fZ (AF n1 n2 k w s q ring D) (cpS cs1 cs2 cs3 (k + 1)))])) ++ bitV m 7 (68, (tp [ag [i (fX (AF n1 n2 k w s q ring D) (cpS cs1 cs2 cs3 (k + 1))), i (fY (AF n1 n2 k w s q ring D) (cpS cs1 cs2 cs3 (k + 1)))], i (fZ (AF n1 n2 k w s q ring D) (cpS cs1 cs2 cs3 (k + 1)))])) ++ bitV m 8 (76, ag [i (fX (AF n1 n2 k w s q ring D) (cpS cs1 cs2 cs3 (k + 1))), i (fY (AF n1 n2 k w s q ring D) (cpS cs1 cs2 cs3 (k + 1)))]) ++ bitV m 9 (77, i (fZ (AF n1 n2 k w s q ring D) (cpS cs1 cs2 cs3 (k + 1)))) ++ bitV m 10 (9, pt 13 0) ++ bitV m 12 (10, i (fZ (AF n1 n2 k w s q ring D) (cpS cs1 cs2 cs3 (k + 1))))
noncomputable def baseMA (cs1 cs2 cs3 : List Value) (t1 s1 t2 s2 t3 s3 n1 n2 k : Nat) (w s q R a d x D ring half A L : Int) : List (CO × Bool) := baseM n1 n2 k w s q R a d x D cs1 t1 s1 cs2 t2 s2 cs3 t3 s3
noncomputable def hpMA (cs1 cs2 cs3 : List Value) (t1 s1 t2 s2 t3 s3 n1 n2 k : Nat) (w s q R a d x D ring half A L : Int) (m : Nat) : List (CO × Bool) := baseM n1 n2 k w s q R a d x D cs1 t1 s1 cs2 t2 s2 cs3 t3 s3 ++ cps false m 1 cs1 cs2 cs3 ++ [bitC m 10 (.cells (cond (Nat.testBit m 11) [i (fX (AF n1 n2 k w s q ring D) (cpS cs1 cs2 cs3 (k + 1))), i (fY (AF n1 n2 k w s q ring D) (cpS cs1 cs2 cs3 (k + 1)))] [i 0, i 0]) 53 1 true, false)]
def rhoMA (j : Nat) : List Nat :=
  match j with
  | 1 => [0, 1, 2, 3, 4, 5, 6, 7, 8, 9, 14, 15, 16, 13]
  | 10 => [0, 1, 2, 3, 4, 5, 6, 7, 8, 9, 10, 11, 12, 14]
  | _ => List.range 14
def lenMA (j : Nat) : Nat :=
  match j with
  | 1 => 17
  | 10 => 15
  | _ => 14
noncomputable def cndMA (cs1 cs2 cs3 : List Value) (t1 s1 t2 s2 t3 s3 n1 n2 k : Nat) (w s q R a d x D ring half A L : Int) (j : Nat) : List Bool :=
  match j with
  | 1 => [tru (okCp (argA n1 n2 (k + 1)) cs1 cs2 cs3)]
  | 6 => [tru (okP (AF n1 n2 k w s q ring D) (cpS cs1 cs2 cs3 (k + 1)))]
  | _ => []
theorem fixMA (cs1 cs2 cs3 : List Value) (t1 s1 t2 s2 t3 s3 n1 n2 k : Nat) (w s q R a d x D ring half A L : Int) : (trsN O5a statesMA).map (outW (tabW CX0) Tryd.prog 7 CX0 Fn.law03_RotorMonotone O5a 203 (liveMA cs1 cs2 cs3 t1 s1 t2 s2 t3 s3 n1 n2 k w s q R a d x D ring half A L) (hpMA cs1 cs2 cs3 t1 s1 t2 s2 t3 s3 n1 n2 k w s q R a d x D ring half A L)) = (trsN O5a statesMA).map fun t => (outW (tabW CX0) Tryd.prog 7 CX0 Fn.law03_RotorMonotone O5a 203 (liveMA cs1 cs2 cs3 t1 s1 t2 s2 t3 s3 n1 n2 k w s q R a d x D ring half A L) (hpMA cs1 cs2 cs3 t1 s1 t2 s2 t3 s3 n1 n2 k w s q R a d x D ring half A L) t).fix := by kernel_rfl
theorem obsMA (cs1 cs2 cs3 : List Value) (t1 s1 t2 s2 t3 s3 n1 n2 k : Nat) (w s q R a d x D ring half A L : Int) : (trsN O5a statesMA).map (obsW (tabW CX0) Tryd.prog 7 CX0 Fn.law03_RotorMonotone O5a 203 (liveMA cs1 cs2 cs3 t1 s1 t2 s2 t3 s3 n1 n2 k w s q R a d x D ring half A L) (hpMA cs1 cs2 cs3 t1 s1 t2 s2 t3 s3 n1 n2 k w s q R a d x D ring half A L) rhoMA ansMA) = (trsN O5a statesMA).map (expN 203 (liveMA cs1 cs2 cs3 t1 s1 t2 s2 t3 s3 n1 n2 k w s q R a d x D ring half A L) (hpMA cs1 cs2 cs3 t1 s1 t2 s2 t3 s3 n1 n2 k w s q R a d x D ring half A L) rhoMA (cndMA cs1 cs2 cs3 t1 s1 t2 s2 t3 s3 n1 n2 k w s q R a d x D ring half A L) lenMA) := by kernel_rfl
theorem goodMA (cs1 cs2 cs3 : List Value) (t1 s1 t2 s2 t3 s3 n1 n2 k : Nat) (w s q R a d x D ring half A L : Int) : ((trsN O5a statesMA).all fun t => goodR 10 (lenMA t.2) (liveMA cs1 cs2 cs3 t1 s1 t2 s2 t3 s3 n1 n2 k w s q R a d x D ring half A L (t.1 ||| 2 ^ t.2)) (hpMA cs1 cs2 cs3 t1 s1 t2 s2 t3 s3 n1 n2 k w s q R a d x D ring half A L (t.1 ||| 2 ^ t.2)) (rhoMA t.2)) = true := by kernel_rfl
theorem closedMA : closedN O5a statesMA 8191 = true := by kernel_rfl
theorem flatMA {cs1 cs2 cs3 : List Value} {t1 s1 t2 s2 t3 s3 n1 n2 k : Nat} {w s q R a d x D ring half A L : Int} (f1 : cs1.all Ex.flat = true) (f2 : cs2.all Ex.flat = true) (f3 : cs3.all Ex.flat = true) : ∀ m o, (o, true) ∈ hpMA cs1 cs2 cs3 t1 s1 t2 s2 t3 s3 n1 n2 k w s q R a d x D ring half A L m → FlatO o := by
  intro m o ho
  unfold hpMA baseM cps bitC at ho
  simp only [cond, List.cons_append, List.nil_append, List.mem_cons, List.not_mem_nil, or_false, Prod.mk.injEq, Bool.true_eq_false, and_false, false_or] at ho
  rcases ho with ⟨rfl, _⟩ | ⟨rfl, _⟩ | ⟨rfl, _⟩ | ⟨rfl, _⟩ | ⟨rfl, _⟩ | ⟨rfl, _⟩ | ⟨rfl, _⟩ | ho | ho | ho | ho
  · exact flatO_of flatP
  · exact flatO_of flat10
  · exact flatO_of flat32
  · exact flatO_of flat64
  · exact flatO_of f1
  · exact flatO_of f2
  · exact flatO_of f3
  all_goals
    split at ho <;> first
      | (cases ho; done)
      | (injection ho with h4 h5; subst h4; exact flatO_of (by assumption))
theorem cndMA_ok {cs1 cs2 cs3 : List Value} {t1 s1 t2 s2 t3 s3 n1 n2 k : Nat} {w s q R a d x D ring half A L : Int} (h1 : okCp (argA n1 n2 (k + 1)) cs1 cs2 cs3) (h2 : okP (AF n1 n2 k w s q ring D) (cpS cs1 cs2 cs3 (k + 1))) : ∀ j, cndMA cs1 cs2 cs3 t1 s1 t2 s2 t3 s3 n1 n2 k w s q R a d x D ring half A L j = (ansMA j).take (cndMA cs1 cs2 cs3 t1 s1 t2 s2 t3 s3 n1 n2 k w s q R a d x D ring half A L j).length := by
  intro j
  unfold cndMA ansMA
  split
  · rw [tru_iff.2 h1]; rfl
  · rw [tru_iff.2 h2]; rfl
  · rfl
theorem padMA (cs1 cs2 cs3 : List Value) (t1 s1 t2 s2 t3 s3 n1 n2 k : Nat) (w s q R a d x D ring half A L : Int) : heapL ((hpMA cs1 cs2 cs3 t1 s1 t2 s2 t3 s3 n1 n2 k w s q R a d x D ring half A L 0).map (·.1)) = heapL ((baseMA cs1 cs2 cs3 t1 s1 t2 s2 t3 s3 n1 n2 k w s q R a d x D ring half A L).map (·.1) ++ List.replicate 4 .dead) := by kernel_rfl
theorem ordMA {cs1 cs2 cs3 : List Value} {t1 s1 t2 s2 t3 s3 n1 n2 k : Nat} {w s q R a d x D ring half A L : Int} (f1 : cs1.all Ex.flat = true) (f2 : cs2.all Ex.flat = true) (f3 : cs3.all Ex.flat = true) (h1 : okCp (argA n1 n2 (k + 1)) cs1 cs2 cs3) (h2 : okP (AF n1 n2 k w s q ring D) (cpS cs1 cs2 cs3 (k + 1))) : Orders (selfA (qS (tabW CX0))) Tryd.prog 7 O5a 10 (fun m => m ∈ statesMA) (fun m => absT (tmL 203 (liveMA cs1 cs2 cs3 t1 s1 t2 s2 t3 s3 n1 n2 k w s q R a d x D ring half A L m))) (fun m => heapL ((hpMA cs1 cs2 cs3 t1 s1 t2 s2 t3 s3 n1 n2 k w s q R a d x D ring half A L m).map (·.1))) 8191 :=
  orders_ofW statesMA (fixMA cs1 cs2 cs3 t1 s1 t2 s2 t3 s3 n1 n2 k w s q R a d x D ring half A L) (obsMA cs1 cs2 cs3 t1 s1 t2 s2 t3 s3 n1 n2 k w s q R a d x D ring half A L) (cndMA_ok h1 h2) (goodMA cs1 cs2 cs3 t1 s1 t2 s2 t3 s3 n1 n2 k w s q R a d x D ring half A L) closedMA (flatMA f1 f2 f3)
theorem sndMA {cs1 cs2 cs3 : List Value} {t1 s1 t2 s2 t3 s3 n1 n2 k : Nat} {w s q R a d x D ring half A L : Int} (f1 : cs1.all Ex.flat = true) (f2 : cs2.all Ex.flat = true) (f3 : cs3.all Ex.flat = true) (h1 : okCp (argA n1 n2 (k + 1)) cs1 cs2 cs3) (h2 : okP (AF n1 n2 k w s q ring D) (cpS cs1 cs2 cs3 (k + 1))) (ro : Option Nat) {tm0 : Array Value} {H0 : CH} (hk : H0.length = 10) (hst : Restate 10 tm0 H0 (absT (tmL 203 (liveMA cs1 cs2 cs3 t1 s1 t2 s2 t3 s3 n1 n2 k w s q R a d x D ring half A L 0))) (heapL ((baseMA cs1 cs2 cs3 t1 s1 t2 s2 t3 s3 n1 n2 k w s q R a d x D ring half A L).map (·.1)))) :
    Sound Tryd.prog 7 (.code (.region 5 O5a true) ro tm0 H0 []) (.ex .normal (absT (tmL 203 (liveMA cs1 cs2 cs3 t1 s1 t2 s2 t3 s3 n1 n2 k w s q R a d x D ring half A L 8191))) (heapL ((hpMA cs1 cs2 cs3 t1 s1 t2 s2 t3 s3 n1 n2 k w s q R a d x D ring half A L 8191).map (·.1))) []) := by
  have ho := ordMA (t1 := t1) (s1 := s1) (t2 := t2) (s2 := s2) (t3 := t3) (s3 := s3) (R := R) (a := a) (d := d) (x := x) (half := half) (A := A) (L := L) f1 f2 f3 h1 h2
  have hr := padMA cs1 cs2 cs3 t1 s1 t2 s2 t3 s3 n1 n2 k w s q R a d x D ring half A L
  generalize liveMA cs1 cs2 cs3 t1 s1 t2 s2 t3 s3 n1 n2 k w s q R a d x D ring half A L = lv at *
  generalize hpMA cs1 cs2 cs3 t1 s1 t2 s2 t3 s3 n1 n2 k w s q R a d x D ring half A L = hp at *
  generalize baseMA cs1 cs2 cs3 t1 s1 t2 s2 t3 s3 n1 n2 k w s q R a d x D ring half A L = bs at *
  rw [← hk] at ho hst
  exact orders_sound2 (tmS := fun m => absT (tmL 203 (lv m))) (HS := fun m => heapL ((hp m).map (·.1))) (mF := 8191) sfX mix12 ho (by rw [hk]; decide) (by decide) hr hst ro
theorem fbMA {cs1 cs2 cs3 : List Value} {t1 s1 t2 s2 t3 s3 n1 n2 k : Nat} {w s q R a d x D ring half A L : Int} (f1 : cs1.all Ex.flat = true) (f2 : cs2.all Ex.flat = true) (f3 : cs3.all Ex.flat = true) : ∀ o, (o, true) ∈ baseMA cs1 cs2 cs3 t1 s1 t2 s2 t3 s3 n1 n2 k w s q R a d x D ring half A L → FlatO o := fun o ho =>
  flatMA (w := w) (s := s) (q := q) (ring := ring) (R := R) (a := a) (d := d) (x := x) (D := D) (half := half) (A := A) (L := L) f1 f2 f3 0 o (by unfold hpMA; exact List.mem_append_left _ (List.mem_append_left _ ho))
end Go.Proofs.YtbocpikgochioaaDoor.Ways
