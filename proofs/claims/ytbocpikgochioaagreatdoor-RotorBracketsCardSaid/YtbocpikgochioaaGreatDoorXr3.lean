import Derived.Test.YtbocpikgochioaaGreatDoorXr2
namespace Go.Proofs.YtbocpikgochioaaGreatDoor.Ways
open Go Go.Ex
/-! ### the law's tree -/
noncomputable def sp4 : Nat → Nat → Split := at_ [(Fn.law03_RotorBrackets, 23), (Fn.law03_RotorBrackets, 75), (Fn.law03_RotorBrackets, 92), (Fn.law03_RotorBrackets, 94), (Fn.law03_RotorBrackets, 108), (Fn.law03_RotorBrackets, 112), (Fn.law03_RotorBrackets, 117), (Fn.law03_RotorBrackets, 120), (Fn.law03_RotorBrackets, 140), (Fn.law03_RotorBrackets, 144), (Fn.law03_RotorBrackets, 149), (Fn.law03_RotorBrackets, 154), (Fn.law03_RotorBrackets, 159)] .bool no_
def sy4 : Nat → Nat → Bool := on_ [(Fn.law03_RotorBrackets, 83), (Fn.law03_RotorBrackets, 84), (Fn.law03_RotorBrackets, 102), (Fn.law03_RotorBrackets, 103), (Fn.law03_RotorBrackets, 128), (Fn.law03_RotorBrackets, 129)]
theorem flat10 : pow10.all Ex.flat = true := by kernel_rfl
theorem flat32 : tab32.all Ex.flat = true := by kernel_rfl
theorem flat64 : tab64.all Ex.flat = true := by kernel_rfl
theorem tsX0 : TSound Tryz.prog 7 CX0.T := tsX
theorem sfX : SelfSound Tryz.prog 7 (selfA (qS (tabW CX0))) := qS_selfSound (tabW_sound tsX0)
/-- the ring, read by the reference -/
def rgA (cs3 : List Value) (g : LA) (x d : Int) : RbA := ⟨g.n1, g.n1, g.n2, g.n2, rE cs3 g.ring, cE_ cs3 g.ring, tE_ cs3 g.ring, pE_ cs3 g.ring, g.w, g.s, g.q, x, d⟩
def hasR (a : RbA) (cs1 cs2 : List Value) : Bool := decide (fi27 cs1 cs2 a < n27 a)
def atR (a : RbA) (cs1 cs2 : List Value) : Int := (fi27 cs1 cs2 a : Int)
structure Fin4 where
  fx : Int
  fy : Int
  fz : Int
  cb : Int
  gx : Int
  gy : Int
  gz : Int
/-- the last comparisons -/
def vT (p : Fin4) (fx fy one two gx gy three : Int) : VT := posF (p.fx == fx && (p.fy == fy && true)) (posF (eqF p.fz one) (posF (eqF p.cb two) (posF (p.gx == gx && (p.gy == gy && true)) (posF (eqF p.gz three) (lf true)))))
noncomputable def wT (ask3 : VT → VT) (p : Fin4) (fx fy one two gx gy three : Int) : VT := .br (eqF three 0) (ask3 (vT p fx fy one two gx gy three)) (vT p fx fy one two 0 0 three)
noncomputable def zT4 (ask3 : VT → VT) (d : Int) (p : Fin4) (fx fy one two gx gy : Int) : VT := .br (eqF two 0) (.br (eqF d 12) (wT ask3 p fx fy one two gx gy 23) (wT ask3 p fx fy one two gx gy two)) (wT ask3 p fx fy one two gx gy two)
noncomputable def yT (ask2 ask3 : VT → VT) (isb : Bool) (d : Int) (p : Fin4) (fx fy one two gx gy : Int) : VT := .br (eqF two 0) (ask2 (.br (!isb) (zT4 ask3 d p fx fy one 22 gx gy) (zT4 ask3 d p fx fy one two gx gy))) (zT4 ask3 d p fx fy one two gx gy)
noncomputable def xT (ask1 ask2 ask3 : VT → VT) (fnd isb : Bool) (d : Int) (p : Fin4) (fx fy one two gx gy : Int) : VT := .br (eqF one 0) (ask1 (.br (!fnd) (yT ask2 ask3 isb d p fx fy 7 two gx gy) (yT ask2 ask3 isb d p fx fy one two gx gy))) (yT ask2 ask3 isb d p 0 0 one two gx gy)
noncomputable def asks (idx cel ok : Bool) (k : VT) : VT := askB idx (askB cel (askB ok k))
noncomputable def fin4 (cs1 cs2 cs3 : List Value) (g : LA) : Fin4 := ⟨fX g.F (cpS cs1 cs2 cs3 g.n), fY g.F (cpS cs1 cs2 cs3 g.n), fZ g.F (cpS cs1 cs2 cs3 g.n), checkR g.R (cpS cs1 cs2 cs3 g.n), gX g.R (cpS cs1 cs2 cs3 g.n), gY g.R (cpS cs1 cs2 cs3 g.n), gZ g.R (cpS cs1 cs2 cs3 g.n)⟩
def bad4 (cs1 cs2 cs3 : List Value) (g : LA) : Int := sE_ ⟨argA g.n1 g.n2 g.n, g.w, g.s, g.q, g.ring, 0, 0⟩ [cs1, cs2, cs3]
def idx4 (g : LA) : Bool := leF 0 g.ring && (ltF g.ring g.n && decide (g.n ≤ g.n))
noncomputable def law4V (cs1 cs2 cs3 : List Value) (g : LA) : VT :=
  askB (tru ((argA g.n1 g.n2 g.n).nil = false ∧ fl3 [cs1, cs2, cs3])) (.br (shE g.n1 g.n2 g.n) (askB (tru (okCp (argA g.n1 g.n2 g.n) cs1 cs2 cs3)) (askB (tru (okP g.R (cpS cs1 cs2 cs3 g.n))) (askB (tru (okB3 (argA g.n1 g.n2 g.n) [cs1, cs2, cs3])) (askFst [bad4 cs1 cs2 cs3 g, rangeE g.D 1 12] fun one => askFst [bad4 cs1 cs2 cs3 g, indE g.a g.d] fun two =>
    xT (asks (idx4 g) (areCells k4 cs3 (0 + g.ring.toNat * 4)) (tru (okRB (rgA cs3 g 0 g.D) [cs1, cs2]))) (asks (idx4 g) (areCells k4 cs3 (0 + g.ring.toNat * 4)) (tru (okRB (rgA cs3 g g.a g.d) [cs1, cs2]))) (asks (idx4 g) (areCells k4 cs3 (0 + g.ring.toNat * 4)) (tru (okRB (rgA cs3 g 0 (wrapF .i64 (g.d + 1))) [cs1, cs2])))
      (hasR (rgA cs3 g 0 g.D) cs1 cs2) (isB (rgA cs3 g g.a g.d) [cs1, cs2]) g.d (fin4 cs1 cs2 cs3 g) (selB (hasR (rgA cs3 g 0 g.D) cs1 cs2) (atR (rgA cs3 g 0 g.D) cs1 cs2) 0) (selB (hasR (rgA cs3 g 0 g.D) cs1 cs2) g.D 0) one two
      (selB (hasR (rgA cs3 g 0 (wrapF .i64 (g.d + 1))) cs1 cs2) (atR (rgA cs3 g 0 (wrapF .i64 (g.d + 1))) cs1 cs2) 0) (selB (hasR (rgA cs3 g 0 (wrapF .i64 (g.d + 1))) cs1 cs2) (wrapF .i64 (g.d + 1)) 0))))) (lf true))
theorem flatAz {cs1 cs2 cs3 : List Value} {t1 s1 t2 s2 t3 s3 n1 n2 : Nat} {w s q ring a d x D : Int} (f1 : cs1.all Ex.flat = true) (f2 : cs2.all Ex.flat = true) (f3 : cs3.all Ex.flat = true) : ∀ m o, (o, true) ∈ hpAz cs1 cs2 cs3 t1 s1 t2 s2 t3 s3 n1 n2 w s q ring a d x D m → FlatO o := by
  intro m o ho
  unfold hpAz base4 cps bitC at ho
  simp only [cond, List.cons_append, List.nil_append, List.mem_cons, List.not_mem_nil, or_false, Prod.mk.injEq, Bool.true_eq_false, and_false, false_or] at ho
  rcases ho with ⟨rfl, _⟩ | ⟨rfl, _⟩ | ⟨rfl, _⟩ | ⟨rfl, _⟩ | ⟨rfl, _⟩ | ⟨rfl, _⟩ | ⟨rfl, _⟩ | ho | ho | ho
  · exact flatO_of flatP
  · exact flatO_of flat10
  · exact flatO_of flat32
  · exact flatO_of flat64
  · exact flatO_of f1
  · exact flatO_of f2
  · exact flatO_of f3
  all_goals
    split at ho <;> first
      | (cases ho; done)
      | (injection ho with h4 h5; subst h4; exact flatO_of (by assumption))
theorem cndAz_ok {cs1 cs2 cs3 : List Value} {t1 s1 t2 s2 t3 s3 n1 n2 : Nat} {w s q ring a d x D : Int} (h1 : okCp (argA n1 n2 0) cs1 cs2 cs3) (h2 : okP (LA.mk n1 n2 0 w s q ring a d x D).F (cpS cs1 cs2 cs3 0)) : ∀ j, cndAz cs1 cs2 cs3 t1 s1 t2 s2 t3 s3 n1 n2 w s q ring a d x D j = (ans4 j).take (cndAz cs1 cs2 cs3 t1 s1 t2 s2 t3 s3 n1 n2 w s q ring a d x D j).length := by
  intro j
  unfold cndAz ans4
  split
  · rw [tru_iff.2 h1]; rfl
  · rw [tru_iff.2 h2]; rfl
  · rfl
theorem flatBz {cs1 cs2 cs3 : List Value} {t1 s1 t2 s2 t3 s3 n1 n2 : Nat} {w s q ring a d x D : Int} (f1 : cs1.all Ex.flat = true) (f2 : cs2.all Ex.flat = true) (f3 : cs3.all Ex.flat = true) : ∀ m o, (o, true) ∈ hpBz cs1 cs2 cs3 t1 s1 t2 s2 t3 s3 n1 n2 w s q ring a d x D m → FlatO o := by
  intro m o ho
  unfold hpBz base4 cps gone bitC at ho
  simp only [cond, List.cons_append, List.nil_append, List.mem_cons, List.not_mem_nil, or_false, Prod.mk.injEq, Bool.true_eq_false, and_false, false_or] at ho
  rcases ho with ⟨rfl, _⟩ | ⟨rfl, _⟩ | ⟨rfl, _⟩ | ⟨rfl, _⟩ | ⟨rfl, _⟩ | ⟨rfl, _⟩ | ⟨rfl, _⟩ | ho | ho | ho
  · exact flatO_of flatP
  · exact flatO_of flat10
  · exact flatO_of flat32
  · exact flatO_of flat64
  · exact flatO_of f1
  · exact flatO_of f2
  · exact flatO_of f3
  all_goals
    split at ho <;> first
      | (cases ho; done)
      | (injection ho with h4 h5; subst h4; exact flatO_of (by assumption))
theorem cndBz_ok {cs1 cs2 cs3 : List Value} {t1 s1 t2 s2 t3 s3 n1 n2 : Nat} {w s q ring a d x D : Int} (h1 : okCp (argA n1 n2 0) cs1 cs2 cs3) (h2 : okP (LA.mk n1 n2 0 w s q ring a d x D).R (cpS cs1 cs2 cs3 0)) : ∀ j, cndBz cs1 cs2 cs3 t1 s1 t2 s2 t3 s3 n1 n2 w s q ring a d x D j = (ans4 j).take (cndBz cs1 cs2 cs3 t1 s1 t2 s2 t3 s3 n1 n2 w s q ring a d x D j).length := by
  intro j
  unfold cndBz ans4
  split
  · rw [tru_iff.2 h1]; rfl
  · rw [tru_iff.2 h2]; rfl
  · rfl
noncomputable def baseAz (cs1 cs2 cs3 : List Value) (t1 s1 t2 s2 t3 s3 n1 n2 : Nat) (w s q ring a d x D : Int) : List (CO × Bool) := (base4 (LA.mk n1 n2 0 w s q ring a d x D) cs1 t1 s1 cs2 t2 s2 cs3 t3 s3)
noncomputable def baseBz (cs1 cs2 cs3 : List Value) (t1 s1 t2 s2 t3 s3 n1 n2 : Nat) (w s q ring a d x D : Int) : List (CO × Bool) := (base4 (LA.mk n1 n2 0 w s q ring a d x D) cs1 t1 s1 cs2 t2 s2 cs3 t3 s3 ++ gone true ++ [(.cells [i (fX (LA.mk n1 n2 0 w s q ring a d x D).F (cpS cs1 cs2 cs3 0)), i (fY (LA.mk n1 n2 0 w s q ring a d x D).F (cpS cs1 cs2 cs3 0))] 45 1 true, false)] ++ gone true)
theorem padAz (cs1 cs2 cs3 : List Value) (t1 s1 t2 s2 t3 s3 n1 n2 : Nat) (w s q ring a d x D : Int) : heapL ((hpAz cs1 cs2 cs3 t1 s1 t2 s2 t3 s3 n1 n2 w s q ring a d x D 0).map (·.1)) = heapL ((baseAz cs1 cs2 cs3 t1 s1 t2 s2 t3 s3 n1 n2 w s q ring a d x D).map (·.1) ++ List.replicate 3 .dead) := by kernel_rfl
theorem ordAz {cs1 cs2 cs3 : List Value} {t1 s1 t2 s2 t3 s3 n1 n2 : Nat} {w s q ring a d x D : Int} (f1 : cs1.all Ex.flat = true) (f2 : cs2.all Ex.flat = true) (f3 : cs3.all Ex.flat = true) (h1 : okCp (argA n1 n2 0) cs1 cs2 cs3) (h2 : okP (LA.mk n1 n2 0 w s q ring a d x D).F (cpS cs1 cs2 cs3 0)) : Orders (selfA (qS (tabW CX0))) Tryz.prog 7 O4a 10 (fun m => m ∈ states4) (fun m => absT (tmL 161 (liveAz cs1 cs2 cs3 t1 s1 t2 s2 t3 s3 n1 n2 w s q ring a d x D m))) (fun m => heapL ((hpAz cs1 cs2 cs3 t1 s1 t2 s2 t3 s3 n1 n2 w s q ring a d x D m).map (·.1))) 16383 :=
  orders_ofW states4 (fixAz cs1 cs2 cs3 t1 s1 t2 s2 t3 s3 n1 n2 w s q ring a d x D) (obsAz cs1 cs2 cs3 t1 s1 t2 s2 t3 s3 n1 n2 w s q ring a d x D) (cndAz_ok h1 h2) (goodAz cs1 cs2 cs3 t1 s1 t2 s2 t3 s3 n1 n2 w s q ring a d x D) closed4a (flatAz f1 f2 f3)
theorem sndAz {cs1 cs2 cs3 : List Value} {t1 s1 t2 s2 t3 s3 n1 n2 : Nat} {w s q ring a d x D : Int} (f1 : cs1.all Ex.flat = true) (f2 : cs2.all Ex.flat = true) (f3 : cs3.all Ex.flat = true) (h1 : okCp (argA n1 n2 0) cs1 cs2 cs3) (h2 : okP (LA.mk n1 n2 0 w s q ring a d x D).F (cpS cs1 cs2 cs3 0)) (ro : Option Nat) {tm0 : Array Value} {H0 : CH} (hk : H0.length = 10) (hst : Restate 10 tm0 H0 (absT (tmL 161 (liveAz cs1 cs2 cs3 t1 s1 t2 s2 t3 s3 n1 n2 w s q ring a d x D 0))) (heapL ((baseAz cs1 cs2 cs3 t1 s1 t2 s2 t3 s3 n1 n2 w s q ring a d x D).map (·.1)))) :
    Sound Tryz.prog 7 (.code (.region 3 O4a true) ro tm0 H0 []) (.ex .normal (absT (tmL 161 (liveAz cs1 cs2 cs3 t1 s1 t2 s2 t3 s3 n1 n2 w s q ring a d x D 16383))) (heapL ((hpAz cs1 cs2 cs3 t1 s1 t2 s2 t3 s3 n1 n2 w s q ring a d x D 16383).map (·.1))) []) := by
  have ho := ordAz (w := w) (s := s) (q := q) (ring := ring) (a := a) (d := d) (x := x) (D := D) (t1 := t1) (s1 := s1) (t2 := t2) (s2 := s2) (t3 := t3) (s3 := s3) f1 f2 f3 h1 h2
  have hr := padAz cs1 cs2 cs3 t1 s1 t2 s2 t3 s3 n1 n2 w s q ring a d x D
  generalize liveAz cs1 cs2 cs3 t1 s1 t2 s2 t3 s3 n1 n2 w s q ring a d x D = lv at *
  generalize hpAz cs1 cs2 cs3 t1 s1 t2 s2 t3 s3 n1 n2 w s q ring a d x D = hp at *
  generalize baseAz cs1 cs2 cs3 t1 s1 t2 s2 t3 s3 n1 n2 w s q ring a d x D = bs at *
  rw [← hk] at ho hst
  exact orders_sound2 (tmS := fun m => absT (tmL 161 (lv m))) (HS := fun m => heapL ((hp m).map (·.1))) (mF := 16383) sfX mix12 ho (by rw [hk]; decide) (by decide) hr hst ro
theorem fbAz {cs1 cs2 cs3 : List Value} {t1 s1 t2 s2 t3 s3 n1 n2 : Nat} {w s q ring a d x D : Int} (f1 : cs1.all Ex.flat = true) (f2 : cs2.all Ex.flat = true) (f3 : cs3.all Ex.flat = true) : ∀ o, (o, true) ∈ baseAz cs1 cs2 cs3 t1 s1 t2 s2 t3 s3 n1 n2 w s q ring a d x D → FlatO o := fun o ho =>
  flatAz (w := w) (s := s) (q := q) (ring := ring) (a := a) (d := d) (x := x) (D := D) f1 f2 f3 0 o (by unfold hpAz; exact List.mem_append_left _ (List.mem_append_left _ ho))
theorem padBz (cs1 cs2 cs3 : List Value) (t1 s1 t2 s2 t3 s3 n1 n2 : Nat) (w s q ring a d x D : Int) : heapL ((hpBz cs1 cs2 cs3 t1 s1 t2 s2 t3 s3 n1 n2 w s q ring a d x D 0).map (·.1)) = heapL ((baseBz cs1 cs2 cs3 t1 s1 t2 s2 t3 s3 n1 n2 w s q ring a d x D).map (·.1) ++ List.replicate 3 .dead) := by kernel_rfl
theorem ordBz {cs1 cs2 cs3 : List Value} {t1 s1 t2 s2 t3 s3 n1 n2 : Nat} {w s q ring a d x D : Int} (f1 : cs1.all Ex.flat = true) (f2 : cs2.all Ex.flat = true) (f3 : cs3.all Ex.flat = true) (h1 : okCp (argA n1 n2 0) cs1 cs2 cs3) (h2 : okP (LA.mk n1 n2 0 w s q ring a d x D).R (cpS cs1 cs2 cs3 0)) : Orders (selfA (qS (tabW CX0))) Tryz.prog 7 O4b 15 (fun m => m ∈ states4) (fun m => absT (tmL 161 (liveBz cs1 cs2 cs3 t1 s1 t2 s2 t3 s3 n1 n2 w s q ring a d x D m))) (fun m => heapL ((hpBz cs1 cs2 cs3 t1 s1 t2 s2 t3 s3 n1 n2 w s q ring a d x D m).map (·.1))) 16383 :=
  orders_ofW states4 (fixBz cs1 cs2 cs3 t1 s1 t2 s2 t3 s3 n1 n2 w s q ring a d x D) (obsBz cs1 cs2 cs3 t1 s1 t2 s2 t3 s3 n1 n2 w s q ring a d x D) (cndBz_ok h1 h2) (goodBz cs1 cs2 cs3 t1 s1 t2 s2 t3 s3 n1 n2 w s q ring a d x D) closed4b (flatBz f1 f2 f3)
theorem sndBz {cs1 cs2 cs3 : List Value} {t1 s1 t2 s2 t3 s3 n1 n2 : Nat} {w s q ring a d x D : Int} (f1 : cs1.all Ex.flat = true) (f2 : cs2.all Ex.flat = true) (f3 : cs3.all Ex.flat = true) (h1 : okCp (argA n1 n2 0) cs1 cs2 cs3) (h2 : okP (LA.mk n1 n2 0 w s q ring a d x D).R (cpS cs1 cs2 cs3 0)) (ro : Option Nat) {tm0 : Array Value} {H0 : CH} (hk : H0.length = 15) (hst : Restate 15 tm0 H0 (absT (tmL 161 (liveBz cs1 cs2 cs3 t1 s1 t2 s2 t3 s3 n1 n2 w s q ring a d x D 0))) (heapL ((baseBz cs1 cs2 cs3 t1 s1 t2 s2 t3 s3 n1 n2 w s q ring a d x D).map (·.1)))) :
    Sound Tryz.prog 7 (.code (.region 5 O4b true) ro tm0 H0 []) (.ex .normal (absT (tmL 161 (liveBz cs1 cs2 cs3 t1 s1 t2 s2 t3 s3 n1 n2 w s q ring a d x D 16383))) (heapL ((hpBz cs1 cs2 cs3 t1 s1 t2 s2 t3 s3 n1 n2 w s q ring a d x D 16383).map (·.1))) []) := by
  have ho := ordBz (w := w) (s := s) (q := q) (ring := ring) (a := a) (d := d) (x := x) (D := D) (t1 := t1) (s1 := s1) (t2 := t2) (s2 := s2) (t3 := t3) (s3 := s3) f1 f2 f3 h1 h2
  have hr := padBz cs1 cs2 cs3 t1 s1 t2 s2 t3 s3 n1 n2 w s q ring a d x D
  generalize liveBz cs1 cs2 cs3 t1 s1 t2 s2 t3 s3 n1 n2 w s q ring a d x D = lv at *
  generalize hpBz cs1 cs2 cs3 t1 s1 t2 s2 t3 s3 n1 n2 w s q ring a d x D = hp at *
  generalize baseBz cs1 cs2 cs3 t1 s1 t2 s2 t3 s3 n1 n2 w s q ring a d x D = bs at *
  rw [← hk] at ho hst
  exact orders_sound2 (tmS := fun m => absT (tmL 161 (lv m))) (HS := fun m => heapL ((hp m).map (·.1))) (mF := 16383) sfX mix12 ho (by rw [hk]; decide) (by decide) hr hst ro
theorem fbBz {cs1 cs2 cs3 : List Value} {t1 s1 t2 s2 t3 s3 n1 n2 : Nat} {w s q ring a d x D : Int} (f1 : cs1.all Ex.flat = true) (f2 : cs2.all Ex.flat = true) (f3 : cs3.all Ex.flat = true) : ∀ o, (o, true) ∈ baseBz cs1 cs2 cs3 t1 s1 t2 s2 t3 s3 n1 n2 w s q ring a d x D → FlatO o := fun o ho =>
  flatBz (w := w) (s := s) (q := q) (ring := ring) (a := a) (d := d) (x := x) (D := D) f1 f2 f3 0 o (by unfold hpBz; exact List.mem_append_left _ (List.mem_append_left _ ho))
noncomputable def L4z (cs1 cs2 cs3 : List Value) (t1 s1 t2 s2 t3 s3 n1 n2 : Nat) (w s q ring a d x D : Int) : LTab := regE (regE noL Fn.law03_RotorBrackets 3 161 10 O4a (liveAz cs1 cs2 cs3 t1 s1 t2 s2 t3 s3 n1 n2 w s q ring a d x D 0) (baseAz cs1 cs2 cs3 t1 s1 t2 s2 t3 s3 n1 n2 w s q ring a d x D) (.leaf (.ex .normal (tmL 161 (liveAz cs1 cs2 cs3 t1 s1 t2 s2 t3 s3 n1 n2 w s q ring a d x D 16383)) (heapL ((hpAz cs1 cs2 cs3 t1 s1 t2 s2 t3 s3 n1 n2 w s q ring a d x D 16383).map (·.1))) [])))
  Fn.law03_RotorBrackets 5 161 15 O4b (liveBz cs1 cs2 cs3 t1 s1 t2 s2 t3 s3 n1 n2 w s q ring a d x D 0) (baseBz cs1 cs2 cs3 t1 s1 t2 s2 t3 s3 n1 n2 w s q ring a d x D) (.leaf (.ex .normal (tmL 161 (liveBz cs1 cs2 cs3 t1 s1 t2 s2 t3 s3 n1 n2 w s q ring a d x D 16383)) (heapL ((hpBz cs1 cs2 cs3 t1 s1 t2 s2 t3 s3 n1 n2 w s q ring a d x D 16383).map (·.1))) []))
theorem gAz (cs1 cs2 cs3 : List Value) (t1 s1 t2 s2 t3 s3 n1 n2 : Nat) (w s q ring a d x D : Int) : goodR 10 10 (liveAz cs1 cs2 cs3 t1 s1 t2 s2 t3 s3 n1 n2 w s q ring a d x D 0) (baseAz cs1 cs2 cs3 t1 s1 t2 s2 t3 s3 n1 n2 w s q ring a d x D) (List.range 10) = true := by kernel_rfl
theorem gBz (cs1 cs2 cs3 : List Value) (t1 s1 t2 s2 t3 s3 n1 n2 : Nat) (w s q ring a d x D : Int) : goodR 15 15 (liveBz cs1 cs2 cs3 t1 s1 t2 s2 t3 s3 n1 n2 w s q ring a d x D 0) (baseBz cs1 cs2 cs3 t1 s1 t2 s2 t3 s3 n1 n2 w s q ring a d x D) (List.range 15) = true := by kernel_rfl
theorem ls4z {cs1 cs2 cs3 : List Value} {t1 s1 t2 s2 t3 s3 n1 n2 : Nat} {w s q ring a d x D : Int} (f1 : cs1.all Ex.flat = true) (f2 : cs2.all Ex.flat = true) (f3 : cs3.all Ex.flat = true) (h1 : okCp (argA n1 n2 0) cs1 cs2 cs3) (h2 : okP (LA.mk n1 n2 0 w s q ring a d x D).F (cpS cs1 cs2 cs3 0)) (h3 : okP (LA.mk n1 n2 0 w s q ring a d x D).R (cpS cs1 cs2 cs3 0)) : LSound Tryz.prog 7 (L4z cs1 cs2 cs3 t1 s1 t2 s2 t3 s3 n1 n2 w s q ring a d x D) := by
  have s0 : LSound Tryz.prog 7 (regE noL Fn.law03_RotorBrackets 3 161 10 O4a (liveAz cs1 cs2 cs3 t1 s1 t2 s2 t3 s3 n1 n2 w s q ring a d x D 0) (baseAz cs1 cs2 cs3 t1 s1 t2 s2 t3 s3 n1 n2 w s q ring a d x D) (.leaf (.ex .normal (tmL 161 (liveAz cs1 cs2 cs3 t1 s1 t2 s2 t3 s3 n1 n2 w s q ring a d x D 16383)) (heapL ((hpAz cs1 cs2 cs3 t1 s1 t2 s2 t3 s3 n1 n2 w s q ring a d x D 16383).map (·.1))) []))) := by
    refine LSound.region .none (gAz cs1 cs2 cs3 t1 s1 t2 s2 t3 s3 n1 n2 w s q ring a d x D) (fbAz f1 f2 f3) fun r hr ro tm0 H0 hk hst => ?_
    cases hr
    exact sndAz f1 f2 f3 h1 h2 ro hk hst
  refine LSound.region s0 (gBz cs1 cs2 cs3 t1 s1 t2 s2 t3 s3 n1 n2 w s q ring a d x D) (fbBz f1 f2 f3) fun r hr ro tm0 H0 hk hst => ?_
  cases hr
  exact sndBz f1 f2 f3 h1 h3 ro hk hst
noncomputable def C4z (cs1 cs2 cs3 : List Value) (t1 s1 t2 s2 t3 s3 n1 n2 : Nat) (w s q ring a d x D : Int) : Cfg := ⟨TX, sp4, sy4, L4z cs1 cs2 cs3 t1 s1 t2 s2 t3 s3 n1 n2 w s q ring a d x D⟩
theorem run4z (cs1 cs2 cs3 : List Value) (t1 s1 t2 s2 t3 s3 n1 n2 : Nat) (w s q ring a d x D : Int) : (execO Tryz.prog 7 (C4z cs1 cs2 cs3 t1 s1 t2 s2 t3 s3 n1 n2 w s q ring a d x D) 60 (.call Fn.law03_RotorBrackets ⟨[blV n1 n1 n2 n2 (sl 6 0 0 0), flV w s q, spV ring a d x D]⟩ (heapL (hpN cs1 t1 s1 cs2 t2 s2 cs3 t3 s3)))).vals = law4V cs1 cs2 cs3 (LA.mk n1 n2 0 w s q ring a d x D) := by kernel_rfl
theorem fix4z (cs1 cs2 cs3 : List Value) (t1 s1 t2 s2 t3 s3 n1 n2 : Nat) (w s q ring a d x D : Int) : execO Tryz.prog 7 (C4z cs1 cs2 cs3 t1 s1 t2 s2 t3 s3 n1 n2 w s q ring a d x D) 60 (.call Fn.law03_RotorBrackets ⟨[blV n1 n1 n2 n2 (sl 6 0 0 0), flV w s q, spV ring a d x D]⟩ (heapL (hpN cs1 t1 s1 cs2 t2 s2 cs3 t3 s3))) = (execO Tryz.prog 7 (C4z cs1 cs2 cs3 t1 s1 t2 s2 t3 s3 n1 n2 w s q ring a d x D) 60 (.call Fn.law03_RotorBrackets ⟨[blV n1 n1 n2 n2 (sl 6 0 0 0), flV w s q, spV ring a d x D]⟩ (heapL (hpN cs1 t1 s1 cs2 t2 s2 cs3 t3 s3)))).fix := by kernel_rfl
theorem flatAs {cs1 cs2 cs3 : List Value} {t1 s1 t2 s2 t3 s3 n1 n2 k : Nat} {w s q ring a d x D : Int} (f1 : cs1.all Ex.flat = true) (f2 : cs2.all Ex.flat = true) (f3 : cs3.all Ex.flat = true) : ∀ m o, (o, true) ∈ hpAs cs1 cs2 cs3 t1 s1 t2 s2 t3 s3 n1 n2 k w s q ring a d x D m → FlatO o := by
  intro m o ho
  unfold hpAs base4 cps bitC at ho
  simp only [cond, List.cons_append, List.nil_append, List.mem_cons, List.not_mem_nil, or_false, Prod.mk.injEq, Bool.true_eq_false, and_false, false_or] at ho
  rcases ho with ⟨rfl, _⟩ | ⟨rfl, _⟩ | ⟨rfl, _⟩ | ⟨rfl, _⟩ | ⟨rfl, _⟩ | ⟨rfl, _⟩ | ⟨rfl, _⟩ | ho | ho | ho | ho
  · exact flatO_of flatP
  · exact flatO_of flat10
  · exact flatO_of flat32
  · exact flatO_of flat64
  · exact flatO_of f1
  · exact flatO_of f2
  · exact flatO_of f3
  all_goals
    split at ho <;> first
      | (cases ho; done)
      | (injection ho with h4 h5; subst h4; exact flatO_of (by assumption))
theorem cndAs_ok {cs1 cs2 cs3 : List Value} {t1 s1 t2 s2 t3 s3 n1 n2 k : Nat} {w s q ring a d x D : Int} (h1 : okCp (argA n1 n2 (k + 1)) cs1 cs2 cs3) (h2 : okP (LA.mk n1 n2 (k + 1) w s q ring a d x D).F (cpS cs1 cs2 cs3 (k + 1))) : ∀ j, cndAs cs1 cs2 cs3 t1 s1 t2 s2 t3 s3 n1 n2 k w s q ring a d x D j = (ans4 j).take (cndAs cs1 cs2 cs3 t1 s1 t2 s2 t3 s3 n1 n2 k w s q ring a d x D j).length := by
  intro j
  unfold cndAs ans4
  split
  · rw [tru_iff.2 h1]; rfl
  · rw [tru_iff.2 h2]; rfl
  · rfl
theorem flatBs {cs1 cs2 cs3 : List Value} {t1 s1 t2 s2 t3 s3 n1 n2 k : Nat} {w s q ring a d x D : Int} (f1 : cs1.all Ex.flat = true) (f2 : cs2.all Ex.flat = true) (f3 : cs3.all Ex.flat = true) : ∀ m o, (o, true) ∈ hpBs cs1 cs2 cs3 t1 s1 t2 s2 t3 s3 n1 n2 k w s q ring a d x D m → FlatO o := by
  intro m o ho
  unfold hpBs base4 cps gone bitC at ho
  simp only [cond, List.cons_append, List.nil_append, List.mem_cons, List.not_mem_nil, or_false, Prod.mk.injEq, Bool.true_eq_false, and_false, false_or] at ho
  rcases ho with ⟨rfl, _⟩ | ⟨rfl, _⟩ | ⟨rfl, _⟩ | ⟨rfl, _⟩ | ⟨rfl, _⟩ | ⟨rfl, _⟩ | ⟨rfl, _⟩ | ho | ho | ho | ho
  · exact flatO_of flatP
  · exact flatO_of flat10
  · exact flatO_of flat32
  · exact flatO_of flat64
  · exact flatO_of f1
  · exact flatO_of f2
  · exact flatO_of f3
  all_goals
    split at ho <;> first
      | (cases ho; done)
      | (injection ho with h4 h5; subst h4; exact flatO_of (by assumption))
theorem cndBs_ok {cs1 cs2 cs3 : List Value} {t1 s1 t2 s2 t3 s3 n1 n2 k : Nat} {w s q ring a d x D : Int} (h1 : okCp (argA n1 n2 (k + 1)) cs1 cs2 cs3) (h2 : okP (LA.mk n1 n2 (k + 1) w s q ring a d x D).R (cpS cs1 cs2 cs3 (k + 1))) : ∀ j, cndBs cs1 cs2 cs3 t1 s1 t2 s2 t3 s3 n1 n2 k w s q ring a d x D j = (ans4 j).take (cndBs cs1 cs2 cs3 t1 s1 t2 s2 t3 s3 n1 n2 k w s q ring a d x D j).length := by
  intro j
  unfold cndBs ans4
  split
  · rw [tru_iff.2 h1]; rfl
  · rw [tru_iff.2 h2]; rfl
  · rfl
noncomputable def baseAs (cs1 cs2 cs3 : List Value) (t1 s1 t2 s2 t3 s3 n1 n2 k : Nat) (w s q ring a d x D : Int) : List (CO × Bool) := (base4 (LA.mk n1 n2 (k + 1) w s q ring a d x D) cs1 t1 s1 cs2 t2 s2 cs3 t3 s3)
noncomputable def baseBs (cs1 cs2 cs3 : List Value) (t1 s1 t2 s2 t3 s3 n1 n2 k : Nat) (w s q ring a d x D : Int) : List (CO × Bool) := (base4 (LA.mk n1 n2 (k + 1) w s q ring a d x D) cs1 t1 s1 cs2 t2 s2 cs3 t3 s3 ++ gone false ++ [(.cells [i (fX (LA.mk n1 n2 (k + 1) w s q ring a d x D).F (cpS cs1 cs2 cs3 (k + 1))), i (fY (LA.mk n1 n2 (k + 1) w s q ring a d x D).F (cpS cs1 cs2 cs3 (k + 1)))] 45 1 true, false)] ++ gone false)
theorem padAs (cs1 cs2 cs3 : List Value) (t1 s1 t2 s2 t3 s3 n1 n2 k : Nat) (w s q ring a d x D : Int) : heapL ((hpAs cs1 cs2 cs3 t1 s1 t2 s2 t3 s3 n1 n2 k w s q ring a d x D 0).map (·.1)) = heapL ((baseAs cs1 cs2 cs3 t1 s1 t2 s2 t3 s3 n1 n2 k w s q ring a d x D).map (·.1) ++ List.replicate 4 .dead) := by kernel_rfl
theorem ordAs {cs1 cs2 cs3 : List Value} {t1 s1 t2 s2 t3 s3 n1 n2 k : Nat} {w s q ring a d x D : Int} (f1 : cs1.all Ex.flat = true) (f2 : cs2.all Ex.flat = true) (f3 : cs3.all Ex.flat = true) (h1 : okCp (argA n1 n2 (k + 1)) cs1 cs2 cs3) (h2 : okP (LA.mk n1 n2 (k + 1) w s q ring a d x D).F (cpS cs1 cs2 cs3 (k + 1))) : Orders (selfA (qS (tabW CX0))) Tryz.prog 7 O4a 10 (fun m => m ∈ states4) (fun m => absT (tmL 161 (liveAs cs1 cs2 cs3 t1 s1 t2 s2 t3 s3 n1 n2 k w s q ring a d x D m))) (fun m => heapL ((hpAs cs1 cs2 cs3 t1 s1 t2 s2 t3 s3 n1 n2 k w s q ring a d x D m).map (·.1))) 16383 :=
  orders_ofW states4 (fixAs cs1 cs2 cs3 t1 s1 t2 s2 t3 s3 n1 n2 k w s q ring a d x D) (obsAs cs1 cs2 cs3 t1 s1 t2 s2 t3 s3 n1 n2 k w s q ring a d x D) (cndAs_ok h1 h2) (goodAs cs1 cs2 cs3 t1 s1 t2 s2 t3 s3 n1 n2 k w s q ring a d x D) closed4a (flatAs f1 f2 f3)
theorem sndAs {cs1 cs2 cs3 : List Value} {t1 s1 t2 s2 t3 s3 n1 n2 k : Nat} {w s q ring a d x D : Int} (f1 : cs1.all Ex.flat = true) (f2 : cs2.all Ex.flat = true) (f3 : cs3.all Ex.flat = true) (h1 : okCp (argA n1 n2 (k + 1)) cs1 cs2 cs3) (h2 : okP (LA.mk n1 n2 (k + 1) w s q ring a d x D).F (cpS cs1 cs2 cs3 (k + 1))) (ro : Option Nat) {tm0 : Array Value} {H0 : CH} (hk : H0.length = 10) (hst : Restate 10 tm0 H0 (absT (tmL 161 (liveAs cs1 cs2 cs3 t1 s1 t2 s2 t3 s3 n1 n2 k w s q ring a d x D 0))) (heapL ((baseAs cs1 cs2 cs3 t1 s1 t2 s2 t3 s3 n1 n2 k w s q ring a d x D).map (·.1)))) :
    Sound Tryz.prog 7 (.code (.region 3 O4a true) ro tm0 H0 []) (.ex .normal (absT (tmL 161 (liveAs cs1 cs2 cs3 t1 s1 t2 s2 t3 s3 n1 n2 k w s q ring a d x D 16383))) (heapL ((hpAs cs1 cs2 cs3 t1 s1 t2 s2 t3 s3 n1 n2 k w s q ring a d x D 16383).map (·.1))) []) := by
  have ho := ordAs (w := w) (s := s) (q := q) (ring := ring) (a := a) (d := d) (x := x) (D := D) (t1 := t1) (s1 := s1) (t2 := t2) (s2 := s2) (t3 := t3) (s3 := s3) f1 f2 f3 h1 h2
  have hr := padAs cs1 cs2 cs3 t1 s1 t2 s2 t3 s3 n1 n2 k w s q ring a d x D
  generalize liveAs cs1 cs2 cs3 t1 s1 t2 s2 t3 s3 n1 n2 k w s q ring a d x D = lv at *
  generalize hpAs cs1 cs2 cs3 t1 s1 t2 s2 t3 s3 n1 n2 k w s q ring a d x D = hp at *
  generalize baseAs cs1 cs2 cs3 t1 s1 t2 s2 t3 s3 n1 n2 k w s q ring a d x D = bs at *
  rw [← hk] at ho hst
  exact orders_sound2 (tmS := fun m => absT (tmL 161 (lv m))) (HS := fun m => heapL ((hp m).map (·.1))) (mF := 16383) sfX mix12 ho (by rw [hk]; decide) (by decide) hr hst ro
theorem fbAs {cs1 cs2 cs3 : List Value} {t1 s1 t2 s2 t3 s3 n1 n2 k : Nat} {w s q ring a d x D : Int} (f1 : cs1.all Ex.flat = true) (f2 : cs2.all Ex.flat = true) (f3 : cs3.all Ex.flat = true) : ∀ o, (o, true) ∈ baseAs cs1 cs2 cs3 t1 s1 t2 s2 t3 s3 n1 n2 k w s q ring a d x D → FlatO o := fun o ho =>
  flatAs (w := w) (s := s) (q := q) (ring := ring) (a := a) (d := d) (x := x) (D := D) f1 f2 f3 0 o (by unfold hpAs; exact List.mem_append_left _ (List.mem_append_left _ ho))
theorem padBs (cs1 cs2 cs3 : List Value) (t1 s1 t2 s2 t3 s3 n1 n2 k : Nat) (w s q ring a d x D : Int) : heapL ((hpBs cs1 cs2 cs3 t1 s1 t2 s2 t3 s3 n1 n2 k w s q ring a d x D 0).map (·.1)) = heapL ((baseBs cs1 cs2 cs3 t1 s1 t2 s2 t3 s3 n1 n2 k w s q ring a d x D).map (·.1) ++ List.replicate 4 .dead) := by kernel_rfl
theorem ordBs {cs1 cs2 cs3 : List Value} {t1 s1 t2 s2 t3 s3 n1 n2 k : Nat} {w s q ring a d x D : Int} (f1 : cs1.all Ex.flat = true) (f2 : cs2.all Ex.flat = true) (f3 : cs3.all Ex.flat = true) (h1 : okCp (argA n1 n2 (k + 1)) cs1 cs2 cs3) (h2 : okP (LA.mk n1 n2 (k + 1) w s q ring a d x D).R (cpS cs1 cs2 cs3 (k + 1))) : Orders (selfA (qS (tabW CX0))) Tryz.prog 7 O4b 17 (fun m => m ∈ states4) (fun m => absT (tmL 161 (liveBs cs1 cs2 cs3 t1 s1 t2 s2 t3 s3 n1 n2 k w s q ring a d x D m))) (fun m => heapL ((hpBs cs1 cs2 cs3 t1 s1 t2 s2 t3 s3 n1 n2 k w s q ring a d x D m).map (·.1))) 16383 :=
  orders_ofW states4 (fixBs cs1 cs2 cs3 t1 s1 t2 s2 t3 s3 n1 n2 k w s q ring a d x D) (obsBs cs1 cs2 cs3 t1 s1 t2 s2 t3 s3 n1 n2 k w s q ring a d x D) (cndBs_ok h1 h2) (goodBs cs1 cs2 cs3 t1 s1 t2 s2 t3 s3 n1 n2 k w s q ring a d x D) closed4b (flatBs f1 f2 f3)
theorem sndBs {cs1 cs2 cs3 : List Value} {t1 s1 t2 s2 t3 s3 n1 n2 k : Nat} {w s q ring a d x D : Int} (f1 : cs1.all Ex.flat = true) (f2 : cs2.all Ex.flat = true) (f3 : cs3.all Ex.flat = true) (h1 : okCp (argA n1 n2 (k + 1)) cs1 cs2 cs3) (h2 : okP (LA.mk n1 n2 (k + 1) w s q ring a d x D).R (cpS cs1 cs2 cs3 (k + 1))) (ro : Option Nat) {tm0 : Array Value} {H0 : CH} (hk : H0.length = 17) (hst : Restate 17 tm0 H0 (absT (tmL 161 (liveBs cs1 cs2 cs3 t1 s1 t2 s2 t3 s3 n1 n2 k w s q ring a d x D 0))) (heapL ((baseBs cs1 cs2 cs3 t1 s1 t2 s2 t3 s3 n1 n2 k w s q ring a d x D).map (·.1)))) :
    Sound Tryz.prog 7 (.code (.region 5 O4b true) ro tm0 H0 []) (.ex .normal (absT (tmL 161 (liveBs cs1 cs2 cs3 t1 s1 t2 s2 t3 s3 n1 n2 k w s q ring a d x D 16383))) (heapL ((hpBs cs1 cs2 cs3 t1 s1 t2 s2 t3 s3 n1 n2 k w s q ring a d x D 16383).map (·.1))) []) := by
  have ho := ordBs (w := w) (s := s) (q := q) (ring := ring) (a := a) (d := d) (x := x) (D := D) (t1 := t1) (s1 := s1) (t2 := t2) (s2 := s2) (t3 := t3) (s3 := s3) f1 f2 f3 h1 h2
  have hr := padBs cs1 cs2 cs3 t1 s1 t2 s2 t3 s3 n1 n2 k w s q ring a d x D
  generalize liveBs cs1 cs2 cs3 t1 s1 t2 s2 t3 s3 n1 n2 k w s q ring a d x D = lv at *
  generalize hpBs cs1 cs2 cs3 t1 s1 t2 s2 t3 s3 n1 n2 k w s q ring a d x D = hp at *
  generalize baseBs cs1 cs2 cs3 t1 s1 t2 s2 t3 s3 n1 n2 k w s q ring a d x D = bs at *
  rw [← hk] at ho hst
  exact orders_sound2 (tmS := fun m => absT (tmL 161 (lv m))) (HS := fun m => heapL ((hp m).map (·.1))) (mF := 16383) sfX mix12 ho (by rw [hk]; decide) (by decide) hr hst ro
theorem fbBs {cs1 cs2 cs3 : List Value} {t1 s1 t2 s2 t3 s3 n1 n2 k : Nat} {w s q ring a d x D : Int} (f1 : cs1.all Ex.flat = true) (f2 : cs2.all Ex.flat = true) (f3 : cs3.all Ex.flat = true) : ∀ o, (o, true) ∈ baseBs cs1 cs2 cs3 t1 s1 t2 s2 t3 s3 n1 n2 k w s q ring a d x D → FlatO o := fun o ho =>
  flatBs (w := w) (s := s) (q := q) (ring := ring) (a := a) (d := d) (x := x) (D := D) f1 f2 f3 0 o (by unfold hpBs; exact List.mem_append_left _ (List.mem_append_left _ ho))
noncomputable def L4s (cs1 cs2 cs3 : List Value) (t1 s1 t2 s2 t3 s3 n1 n2 k : Nat) (w s q ring a d x D : Int) : LTab := regE (regE noL Fn.law03_RotorBrackets 3 161 10 O4a (liveAs cs1 cs2 cs3 t1 s1 t2 s2 t3 s3 n1 n2 k w s q ring a d x D 0) (baseAs cs1 cs2 cs3 t1 s1 t2 s2 t3 s3 n1 n2 k w s q ring a d x D) (.leaf (.ex .normal (tmL 161 (liveAs cs1 cs2 cs3 t1 s1 t2 s2 t3 s3 n1 n2 k w s q ring a d x D 16383)) (heapL ((hpAs cs1 cs2 cs3 t1 s1 t2 s2 t3 s3 n1 n2 k w s q ring a d x D 16383).map (·.1))) [])))
  Fn.law03_RotorBrackets 5 161 17 O4b (liveBs cs1 cs2 cs3 t1 s1 t2 s2 t3 s3 n1 n2 k w s q ring a d x D 0) (baseBs cs1 cs2 cs3 t1 s1 t2 s2 t3 s3 n1 n2 k w s q ring a d x D) (.leaf (.ex .normal (tmL 161 (liveBs cs1 cs2 cs3 t1 s1 t2 s2 t3 s3 n1 n2 k w s q ring a d x D 16383)) (heapL ((hpBs cs1 cs2 cs3 t1 s1 t2 s2 t3 s3 n1 n2 k w s q ring a d x D 16383).map (·.1))) []))
theorem gAs (cs1 cs2 cs3 : List Value) (t1 s1 t2 s2 t3 s3 n1 n2 k : Nat) (w s q ring a d x D : Int) : goodR 10 10 (liveAs cs1 cs2 cs3 t1 s1 t2 s2 t3 s3 n1 n2 k w s q ring a d x D 0) (baseAs cs1 cs2 cs3 t1 s1 t2 s2 t3 s3 n1 n2 k w s q ring a d x D) (List.range 10) = true := by kernel_rfl
theorem gBs (cs1 cs2 cs3 : List Value) (t1 s1 t2 s2 t3 s3 n1 n2 k : Nat) (w s q ring a d x D : Int) : goodR 17 17 (liveBs cs1 cs2 cs3 t1 s1 t2 s2 t3 s3 n1 n2 k w s q ring a d x D 0) (baseBs cs1 cs2 cs3 t1 s1 t2 s2 t3 s3 n1 n2 k w s q ring a d x D) (List.range 17) = true := by kernel_rfl
theorem ls4s {cs1 cs2 cs3 : List Value} {t1 s1 t2 s2 t3 s3 n1 n2 k : Nat} {w s q ring a d x D : Int} (f1 : cs1.all Ex.flat = true) (f2 : cs2.all Ex.flat = true) (f3 : cs3.all Ex.flat = true) (h1 : okCp (argA n1 n2 (k + 1)) cs1 cs2 cs3) (h2 : okP (LA.mk n1 n2 (k + 1) w s q ring a d x D).F (cpS cs1 cs2 cs3 (k + 1))) (h3 : okP (LA.mk n1 n2 (k + 1) w s q ring a d x D).R (cpS cs1 cs2 cs3 (k + 1))) : LSound Tryz.prog 7 (L4s cs1 cs2 cs3 t1 s1 t2 s2 t3 s3 n1 n2 k w s q ring a d x D) := by
  have s0 : LSound Tryz.prog 7 (regE noL Fn.law03_RotorBrackets 3 161 10 O4a (liveAs cs1 cs2 cs3 t1 s1 t2 s2 t3 s3 n1 n2 k w s q ring a d x D 0) (baseAs cs1 cs2 cs3 t1 s1 t2 s2 t3 s3 n1 n2 k w s q ring a d x D) (.leaf (.ex .normal (tmL 161 (liveAs cs1 cs2 cs3 t1 s1 t2 s2 t3 s3 n1 n2 k w s q ring a d x D 16383)) (heapL ((hpAs cs1 cs2 cs3 t1 s1 t2 s2 t3 s3 n1 n2 k w s q ring a d x D 16383).map (·.1))) []))) := by
    refine LSound.region .none (gAs cs1 cs2 cs3 t1 s1 t2 s2 t3 s3 n1 n2 k w s q ring a d x D) (fbAs f1 f2 f3) fun r hr ro tm0 H0 hk hst => ?_
    cases hr
    exact sndAs f1 f2 f3 h1 h2 ro hk hst
  refine LSound.region s0 (gBs cs1 cs2 cs3 t1 s1 t2 s2 t3 s3 n1 n2 k w s q ring a d x D) (fbBs f1 f2 f3) fun r hr ro tm0 H0 hk hst => ?_
  cases hr
  exact sndBs f1 f2 f3 h1 h3 ro hk hst
noncomputable def C4s (cs1 cs2 cs3 : List Value) (t1 s1 t2 s2 t3 s3 n1 n2 k : Nat) (w s q ring a d x D : Int) : Cfg := ⟨TX, sp4, sy4, L4s cs1 cs2 cs3 t1 s1 t2 s2 t3 s3 n1 n2 k w s q ring a d x D⟩
theorem run4s (cs1 cs2 cs3 : List Value) (t1 s1 t2 s2 t3 s3 n1 n2 k : Nat) (w s q ring a d x D : Int) : (execO Tryz.prog 7 (C4s cs1 cs2 cs3 t1 s1 t2 s2 t3 s3 n1 n2 k w s q ring a d x D) 60 (.call Fn.law03_RotorBrackets ⟨[blV n1 n1 n2 n2 (sl 6 0 (k + 1) (k + 1)), flV w s q, spV ring a d x D]⟩ (heapL (hpN cs1 t1 s1 cs2 t2 s2 cs3 t3 s3)))).vals = law4V cs1 cs2 cs3 (LA.mk n1 n2 (k + 1) w s q ring a d x D) := by kernel_rfl
theorem fix4s (cs1 cs2 cs3 : List Value) (t1 s1 t2 s2 t3 s3 n1 n2 k : Nat) (w s q ring a d x D : Int) : execO Tryz.prog 7 (C4s cs1 cs2 cs3 t1 s1 t2 s2 t3 s3 n1 n2 k w s q ring a d x D) 60 (.call Fn.law03_RotorBrackets ⟨[blV n1 n1 n2 n2 (sl 6 0 (k + 1) (k + 1)), flV w s q, spV ring a d x D]⟩ (heapL (hpN cs1 t1 s1 cs2 t2 s2 cs3 t3 s3))) = (execO Tryz.prog 7 (C4s cs1 cs2 cs3 t1 s1 t2 s2 t3 s3 n1 n2 k w s q ring a d x D) 60 (.call Fn.law03_RotorBrackets ⟨[blV n1 n1 n2 n2 (sl 6 0 (k + 1) (k + 1)), flV w s q, spV ring a d x D]⟩ (heapL (hpN cs1 t1 s1 cs2 t2 s2 cs3 t3 s3)))).fix := by kernel_rfl
/-- blades that are not short -/
noncomputable def C40 : Cfg := ⟨TX, sp4, off_, noL⟩
section
variable (cs1 cs2 cs3 : List Value) (t1 s1 t2 s2 t3 s3 n1 n2 n : Nat) (w s q ring a d x D : Int)
theorem run4g : (execO Tryz.prog 7 C40 60 (.call Fn.law03_RotorBrackets ⟨[blV n1 n1 n2 n2 (sl 6 0 n n), flV w s q, spV ring a d x D]⟩ (heapL (hpN cs1 t1 s1 cs2 t2 s2 cs3 t3 s3)))).vals = askB (tru ((argA n1 n2 n).nil = false ∧ fl3 [cs1, cs2, cs3])) (.br (shE n1 n2 n) .fail (lf true)) := by kernel_rfl
theorem fix4g : execO Tryz.prog 7 C40 60 (.call Fn.law03_RotorBrackets ⟨[blV n1 n1 n2 n2 (sl 6 0 n n), flV w s q, spV ring a d x D]⟩ (heapL (hpN cs1 t1 s1 cs2 t2 s2 cs3 t3 s3))) = (execO Tryz.prog 7 C40 60 (.call Fn.law03_RotorBrackets ⟨[blV n1 n1 n2 n2 (sl 6 0 n n), flV w s q, spV ring a d x D]⟩ (heapL (hpN cs1 t1 s1 cs2 t2 s2 cs3 t3 s3)))).fix := by kernel_rfl
end
end Go.Proofs.YtbocpikgochioaaGreatDoor.Ways
namespace Go.Proofs.YtbocpikgochioaaGreatDoor.Ways
open Go Go.Ex
theorem sEq2 {a b c d : Int} (h1 : a = c) (h2 : b = d) : (a == c && (b == d && true)) = true := by rw [h1, h2]; simp
theorem xT_sel {ask1 ask2 ask3 : VT → VT} {fnd isb : Bool} {d : Int} {p : Fin4} {fx fy one two gx gy : Int}
    (h1 : one = 0 → (∀ k, (ask1 k).sel = k.sel) ∧ p.fz = cond fnd 0 7 ∧ p.fx = fx ∧ p.fy = fy) (h1' : one ≠ 0 → p.fz = one ∧ p.fx = 0 ∧ p.fy = 0)
    (h2 : two = 0 → (∀ k, (ask2 k).sel = k.sel) ∧ p.cb = cond isb 0 22) (h2' : two ≠ 0 → p.cb = two)
    (h3 : p.gz = if p.cb = 0 then (if d = 12 then 23 else 0) else p.cb) (h4 : p.gz = 0 → (∀ k, (ask3 k).sel = k.sel) ∧ p.gx = gx ∧ p.gy = gy) (h5 : p.gz ≠ 0 → p.gx = 0 ∧ p.gy = 0) :
    (xT ask1 ask2 ask3 fnd isb d p fx fy one two gx gy).sel = some (b_ true) := by
  have hv : ∀ {fx' fy' one' two' gx' gy' three : Int}, p.fx = fx' → p.fy = fy' → p.fz = one' → p.cb = two' → p.gx = gx' → p.gy = gy' → p.gz = three → (vT p fx' fy' one' two' gx' gy' three).sel = some (b_ true) := by
    intro fx' fy' one' two' gx' gy' three k1 k2 k3 k4 k5 k6 k7
    unfold vT
    rw [posF_sel (sEq2 k1 k2), posF_sel (by rw [eqF_d]; simpa using k3), posF_sel (by rw [eqF_d]; simpa using k4), posF_sel (sEq2 k5 k6), posF_sel (by rw [eqF_d]; simpa using k7)]
    rfl
  have hw : ∀ {fx' fy' one' two' three : Int}, p.fx = fx' → p.fy = fy' → p.fz = one' → p.cb = two' → p.gz = three → (wT ask3 p fx' fy' one' two' gx gy three).sel = some (b_ true) := by
    intro fx' fy' one' two' three k1 k2 k3 k4 k5
    unfold wT
    rw [eqF_d, brD]
    by_cases hz : three = 0
    · obtain ⟨a1, a2, a3⟩ := h4 (k5.trans hz)
      rw [if_pos hz, a1]
      exact hv k1 k2 k3 k4 a2 a3 k5
    · obtain ⟨a1, a2⟩ := h5 (fun h => hz (k5.symm.trans h))
      rw [if_neg hz]
      exact hv k1 k2 k3 k4 a1 a2 k5
  have hz4 : ∀ {fx' fy' one' two' : Int}, p.fx = fx' → p.fy = fy' → p.fz = one' → p.cb = two' → (zT4 ask3 d p fx' fy' one' two' gx gy).sel = some (b_ true) := by
    intro fx' fy' one' two' k1 k2 k3 k4
    unfold zT4
    rw [eqF_d, eqF_d, brD, brD]
    rw [k4] at h3
    by_cases hz : two' = 0
    · rw [if_pos hz] at h3 ⊢
      by_cases h12 : d = 12
      · rw [if_pos h12] at h3 ⊢
        exact hw k1 k2 k3 k4 h3
      · rw [if_neg h12] at h3 ⊢
        exact hw k1 k2 k3 k4 (h3.trans hz.symm)
    · rw [if_neg hz] at h3 ⊢
      exact hw k1 k2 k3 k4 h3
  have hy : ∀ {fx' fy' one' : Int}, p.fx = fx' → p.fy = fy' → p.fz = one' → (yT ask2 ask3 isb d p fx' fy' one' two gx gy).sel = some (b_ true) := by
    intro fx' fy' one' k1 k2 k3
    unfold yT
    rw [eqF_d, brD]
    by_cases hz : two = 0
    · obtain ⟨a1, a2⟩ := h2 hz
      rw [if_pos hz, a1]
      cases isb with
      | true => exact hz4 k1 k2 k3 (a2.trans hz.symm)
      | false => exact hz4 k1 k2 k3 a2
    · rw [if_neg hz]
      exact hz4 k1 k2 k3 (h2' hz)
  unfold xT
  rw [eqF_d, brD]
  by_cases hz : one = 0
  · obtain ⟨a1, a2, a3, a4⟩ := h1 hz
    rw [if_pos hz, a1]
    cases fnd with
    | true => exact hy a3 a4 (a2.trans hz.symm)
    | false => exact hy a3 a4 a2
  · obtain ⟨a1, a2, a3⟩ := h1' hz
    rw [if_neg hz]
    exact hy a2 a3 a1
section
variable {cs1 cs2 cs3 : List Value} {g : LA}
theorem asks_sel {idx cel ok : Bool} (h1 : idx = true) (h2 : cel = true) (h3 : ok = true) (k : VT) : (asks idx cel ok k).sel = k.sel := by
  unfold asks
  rw [askB_sel h1, askB_sel h2, askB_sel h3]
theorem rv_of (hI : LawIn cs1 cs2 cs3 g.n1 g.n2 g.n) (h : bad4 cs1 cs2 cs3 g = 0) : (0 ≤ g.ring ∧ g.ring < g.n) ∧ RV cs1 g.n1 (rE cs3 g.ring) (cE_ cs3 g.ring) (tE_ cs3 g.ring) (pE_ cs3 g.ring) g.w g.s g.q := by
  obtain ⟨h1, h2, h3, h4, h5, h6, h7, h8, h9⟩ := ring_in hI (show sE_ ⟨argA g.n1 g.n2 g.n, g.w, g.s, g.q, g.ring, 0, 0⟩ [cs1, cs2, cs3] = 0 from h)
  obtain ⟨hb, _, _, _⟩ := sec_z (show secE (bladeE cs1 g.n1 cs2 g.n2 (rhoE cs3) g.n) (flowE g.w g.s g.q) g.ring g.n = 0 from h)
  obtain ⟨hp, _⟩ := blade_z hb
  obtain ⟨p1, p2, _, p3, _⟩ := pol_z hp
  exact ⟨h1, h3, h4, h5, h6, h7, h8, h9, ⟨p1, p2⟩, p3⟩
theorem scB_eq (hI : LawIn cs1 cs2 cs3 g.n1 g.n2 g.n) (h : bad4 cs1 cs2 cs3 g = 0) (x d : Int) : scB ⟨cpA_ g.n1 g.n2 g.n, g.w, g.s, g.q, g.ring, x, d⟩ (cpS cs1 cs2 cs3 g.n) = AA g.n1 g.n2 (rE cs3 g.ring) (cE_ cs3 g.ring) (tE_ cs3 g.ring) (pE_ cs3 g.ring) g.w g.s g.q ∧ cs12 (cpS cs1 cs2 cs3 g.n) = [cs1, cs2] := by
  obtain ⟨⟨h1, h2⟩, _⟩ := rv_of hI h
  rw [cpS_pos (show 0 < g.n from by omega)]
  refine ⟨?_, rfl⟩
  show scA (rhoE cs3) g.w g.s g.q g.n1 g.n1 g.n2 g.n2 g.ring.toNat = _
  unfold scA AA
  rw [idx0, idx1, idx2, idx3]
theorem ref_facts (hI : LawIn cs1 cs2 cs3 g.n1 g.n2 g.n) (h : checkR g.R (cpS cs1 cs2 cs3 g.n) = 0) (h12 : g.d ≠ 12) :
    ffE (upA g.R) (cpS cs1 cs2 cs3 g.n) (upA g.R).x = 0 ∧ bad4 cs1 cs2 cs3 g = 0 ∧ (1 ≤ g.d ∧ g.d ≤ 11) ∧ hasB (AA g.n1 g.n2 (rE cs3 g.ring) (cE_ cs3 g.ring) (tE_ cs3 g.ring) (pE_ cs3 g.ring) g.w g.s g.q) [cs1, cs2] = true := by
  unfold checkR at h
  obtain ⟨h1, h2⟩ := firstE_z h
  obtain ⟨h3, h4⟩ := firstE_z h1
  have hb : bad4 cs1 cs2 cs3 g = 0 := (bad_eq cs1 cs2 cs3 g.n1 g.n2 g.n g.w g.s g.q g.ring g.a g.d).symm.trans h3
  obtain ⟨j1, j2⟩ := ind_z (show indE g.a g.d = 0 from h4)
  obtain ⟨s1, s2⟩ := scB_eq hI hb g.a g.d
  have hh : hasB (AA g.n1 g.n2 (rE cs3 g.ring) (cE_ cs3 g.ring) (tE_ cs3 g.ring) (pE_ cs3 g.ring) g.w g.s g.q) [cs1, cs2] = true := by
    rw [show scB g.R (cpS cs1 cs2 cs3 g.n) = _ from s1, s2] at h2
    unfold cbE at h2
    cases hq : hasB (AA g.n1 g.n2 (rE cs3 g.ring) (cE_ cs3 g.ring) (tE_ cs3 g.ring) (pE_ cs3 g.ring) g.w g.s g.q) [cs1, cs2] with
    | true => rfl
    | false => rw [hq] at h2; cases h2
  refine ⟨?_, hb, ⟨j1.1, by omega⟩, hh⟩
  have hw : wrapF .i64 (g.d + 1) = g.d + 1 := wrapF_in (by omega) (by omega)
  obtain ⟨s3, s4⟩ := scB_eq hI hb (wrapF .i64 (g.d + 1)) 0
  show fErr (firstE (sE_ (upA g.R) (cpS cs1 cs2 cs3 g.n)) (rangeE (wrapF .i64 (g.d + 1)) 1 12)) (hasB (scB (upA g.R) (cpS cs1 cs2 cs3 g.n)) (cs12 (cpS cs1 cs2 cs3 g.n))) = 0
  rw [show scB (upA g.R) (cpS cs1 cs2 cs3 g.n) = _ from s3, s4, hh, show sE_ (upA g.R) (cpS cs1 cs2 cs3 g.n) = bad4 cs1 cs2 cs3 g from bad_eq cs1 cs2 cs3 g.n1 g.n2 g.n g.w g.s g.q g.ring _ _, hb, hw]
  have hr : rangeE (g.d + 1) 1 12 = 0 := by unfold rangeE; rw [if_neg (by omega)]
  rw [hr]; rfl
theorem law4_sel (hI : LawIn cs1 cs2 cs3 g.n1 g.n2 g.n) : (law4V cs1 cs2 cs3 g).sel = some (b_ true) := by
  have hI' := hI
  obtain ⟨o1, l1, o2, l2, r3, k3, f⟩ := hI
  have f3 : cs3.all Ex.flat = true := by rw [r3]; exact ringC_flat _ _
  have hbad : ∀ x d : Int, sE_ ⟨cpA_ g.n1 g.n2 g.n, g.w, g.s, g.q, g.ring, x, d⟩ (cpS cs1 cs2 cs3 g.n) = bad4 cs1 cs2 cs3 g := fun x d => bad_eq cs1 cs2 cs3 g.n1 g.n2 g.n g.w g.s g.q g.ring x d
  have hidx : bad4 cs1 cs2 cs3 g = 0 → idx4 g = true ∧ areCells k4 cs3 (0 + g.ring.toNat * 4) = true := by
    intro h
    obtain ⟨⟨h1, h2⟩, _⟩ := rv_of hI' h
    refine ⟨?_, k3 _ (by omega)⟩
    unfold idx4
    simp [leF_eq, ltF_eq, h1, h2]
  have hrb : bad4 cs1 cs2 cs3 g = 0 → ∀ x d : Int, 1 ≤ d ∧ d ≤ 12 → okRB (rgA cs3 g x d) [cs1, cs2] := by
    intro h x d hd
    obtain ⟨_, hv⟩ := rv_of hI' h
    exact ⟨o1, o2.1, hv.n.1, hd, den_ne hv.r hv.s hd⟩
  unfold law4V
  rw [askB_sel (tru_iff.2 ⟨rfl, o1.1, o2.1, f3⟩)]
  cases hsh : shE g.n1 g.n2 g.n with
  | false => rfl
  | true =>
    rw [brB, if_pos rfl, askB_sel (tru_iff.2 ⟨rfl, ⟨o1, l1⟩, ⟨o2, l2⟩, f, rfl, r3⟩), askB_sel (tru_iff.2 (show okP g.R _ from okP_cp hI' _ _)), askB_sel (tru_iff.2 ⟨rfl, ⟨o1, o2⟩, f, rfl, r3⟩), askFst_sel (by simp), askFst_sel (by simp), firstL2, firstL2]
    -- what Find gives
    have hF : ∀ x : Int, firstE (bad4 cs1 cs2 cs3 g) (rangeE x 1 12) = 0 → 1 ≤ x ∧ x ≤ 12 ∧ bad4 cs1 cs2 cs3 g = 0 := fun x h => ⟨(range_z (firstE_z h).2).1, (range_z (firstE_z h).2).2, (firstE_z h).1⟩
    have hfz : ∀ x d : Int, fZ ⟨cpA_ g.n1 g.n2 g.n, g.w, g.s, g.q, g.ring, x, d⟩ (cpS cs1 cs2 cs3 g.n) = firstE (firstE (bad4 cs1 cs2 cs3 g) (rangeE x 1 12)) (cond (hasB (scB ⟨cpA_ g.n1 g.n2 g.n, g.w, g.s, g.q, g.ring, x, d⟩ (cpS cs1 cs2 cs3 g.n)) (cs12 (cpS cs1 cs2 cs3 g.n))) 0 7) := by
      intro x d
      unfold fZ fErr
      rw [hbad]
    have fe0 : ∀ y : Int, firstE 0 y = y := fun y => by unfold firstE; rw [if_pos rfl]
    have fen : ∀ {e : Int} (y : Int), e ≠ 0 → firstE e y = e := fun y h => by unfold firstE; rw [if_neg h]
    refine xT_sel (fun h => ?_) (fun h => ?_) (fun h => ?_) (fun h => ?_) ?_ (fun h => ?_) (fun h => ?_)
    · -- Find, no error before
      obtain ⟨d1, d2, hb⟩ := hF _ h
      obtain ⟨i1, i2⟩ := hidx hb
      obtain ⟨_, hv⟩ := rv_of hI' hb
      obtain ⟨s1, s2⟩ := scB_eq hI' hb g.D 0
      obtain ⟨q1, q2⟩ := fi_eq (n2 := g.n2) (cs2 := cs2) hv ⟨d1, d2⟩
      have hz := hfz g.D 0
      rw [h, fe0, s1, s2] at hz
      have q1' : hasR (rgA cs3 g 0 g.D) cs1 cs2 = hasB (AA g.n1 g.n2 (rE cs3 g.ring) (cE_ cs3 g.ring) (tE_ cs3 g.ring) (pE_ cs3 g.ring) g.w g.s g.q) [cs1, cs2] := q1
      refine ⟨fun k => asks_sel i1 i2 (tru_iff.2 (hrb hb _ _ ⟨d1, d2⟩)) k, by rw [q1']; exact hz, ?_, ?_⟩
      · show fX _ _ = _
        unfold fX
        rw [show fErr (firstE (sE_ g.F (cpS cs1 cs2 cs3 g.n)) (rangeE g.F.x 1 12)) (hasB (scB g.F (cpS cs1 cs2 cs3 g.n)) (cs12 (cpS cs1 cs2 cs3 g.n))) = fZ g.F (cpS cs1 cs2 cs3 g.n) from rfl, show fZ g.F (cpS cs1 cs2 cs3 g.n) = _ from hz, show scB g.F (cpS cs1 cs2 cs3 g.n) = _ from s1, s2, q1']
        unfold selB okE
        cases hh : hasB (AA g.n1 g.n2 (rE cs3 g.ring) (cE_ cs3 g.ring) (tE_ cs3 g.ring) (pE_ cs3 g.ring) g.w g.s g.q) [cs1, cs2] with
        | true => exact (q2 hh).symm
        | false => rfl
      · show fY _ _ = _
        unfold fY
        rw [show fErr (firstE (sE_ g.F (cpS cs1 cs2 cs3 g.n)) (rangeE g.F.x 1 12)) (hasB (scB g.F (cpS cs1 cs2 cs3 g.n)) (cs12 (cpS cs1 cs2 cs3 g.n))) = fZ g.F (cpS cs1 cs2 cs3 g.n) from rfl, show fZ g.F (cpS cs1 cs2 cs3 g.n) = _ from hz, q1']
        unfold selB okE
        cases hasB (AA g.n1 g.n2 (rE cs3 g.ring) (cE_ cs3 g.ring) (tE_ cs3 g.ring) (pE_ cs3 g.ring) g.w g.s g.q) [cs1, cs2] <;> rfl
    · have hz := hfz g.D 0
      rw [fen _ h] at hz
      have hz' : fErr (firstE (sE_ g.F (cpS cs1 cs2 cs3 g.n)) (rangeE g.F.x 1 12)) (hasB (scB g.F (cpS cs1 cs2 cs3 g.n)) (cs12 (cpS cs1 cs2 cs3 g.n))) = _ := hz
      refine ⟨hz, ?_, ?_⟩
      · show fX _ _ = _
        unfold fX okE
        rw [hz', if_neg h]
      · show fY _ _ = _
        unfold fY okE
        rw [hz', if_neg h]
    · -- CheckBracket, no error before
      obtain ⟨hb, hi⟩ := firstE_z h
      obtain ⟨i1, i2⟩ := hidx hb
      obtain ⟨_, hv⟩ := rv_of hI' hb
      obtain ⟨j1, j2⟩ := ind_z hi
      obtain ⟨s1, s2⟩ := scB_eq hI' hb g.a g.d
      refine ⟨fun k => asks_sel i1 i2 (tru_iff.2 (hrb hb _ _ j1)) k, ?_⟩
      show checkR g.R (cpS cs1 cs2 cs3 g.n) = _
      unfold checkR
      rw [show sE_ g.R (cpS cs1 cs2 cs3 g.n) = _ from hbad _ _, show firstE (bad4 cs1 cs2 cs3 g) (indE g.R.x g.R.d) = 0 from h, fe0, show scB g.R (cpS cs1 cs2 cs3 g.n) = _ from s1, s2, show isB (rgA cs3 g g.a g.d) [cs1, cs2] = _ from is_eq (n2 := g.n2) (cs2 := cs2) hv j1 j2]
      unfold cbE
      cases hasB (AA g.n1 g.n2 (rE cs3 g.ring) (cE_ cs3 g.ring) (tE_ cs3 g.ring) (pE_ cs3 g.ring) g.w g.s g.q) [cs1, cs2] with
      | false => rfl
      | true =>
        show (if brA _ [cs1, cs2] (g.d - 1).toNat = g.a then (0 : Int) else 22) = cond (true && decide (g.a = brA _ [cs1, cs2] (g.d - 1).toNat)) 0 22
        by_cases hx : g.a = brA (AA g.n1 g.n2 (rE cs3 g.ring) (cE_ cs3 g.ring) (tE_ cs3 g.ring) (pE_ cs3 g.ring) g.w g.s g.q) [cs1, cs2] (g.d - 1).toNat
        · rw [if_pos hx.symm, decide_eq_true hx]; rfl
        · rw [if_neg (fun h => hx h.symm), decide_eq_false hx]; rfl
    · show checkR g.R (cpS cs1 cs2 cs3 g.n) = _
      unfold checkR
      rw [show sE_ g.R (cpS cs1 cs2 cs3 g.n) = _ from hbad _ _, show firstE (firstE (bad4 cs1 cs2 cs3 g) (indE g.R.x g.R.d)) (cbE (scB g.R (cpS cs1 cs2 cs3 g.n)) (cs12 (cpS cs1 cs2 cs3 g.n)) g.R.x g.R.d) = firstE (bad4 cs1 cs2 cs3 g) (indE g.R.x g.R.d) from fen _ h]
      rfl
    · show pick3 (checkR g.R (cpS cs1 cs2 cs3 g.n)) g.R.d 23 (ffE (upA g.R) (cpS cs1 cs2 cs3 g.n) (upA g.R).x) (checkR g.R (cpS cs1 cs2 cs3 g.n)) = if checkR g.R (cpS cs1 cs2 cs3 g.n) = 0 then (if g.d = 12 then 23 else 0) else checkR g.R (cpS cs1 cs2 cs3 g.n)
      unfold pick3
      by_cases hE : checkR g.R (cpS cs1 cs2 cs3 g.n) = 0
      · rw [if_pos hE, if_pos hE]
        by_cases h12 : g.d = 12
        · rw [if_pos (show g.R.d = 12 from h12), if_pos h12]
        · rw [if_neg (show ¬ g.R.d = 12 from h12), if_neg h12]
          exact (ref_facts hI' hE h12).1
      · rw [if_neg hE, if_neg hE]
    · have h' : pick3 (checkR g.R (cpS cs1 cs2 cs3 g.n)) g.R.d 23 (ffE (upA g.R) (cpS cs1 cs2 cs3 g.n) (upA g.R).x) (checkR g.R (cpS cs1 cs2 cs3 g.n)) = 0 := h
      unfold pick3 at h'
      by_cases hE : checkR g.R (cpS cs1 cs2 cs3 g.n) = 0
      · rw [if_pos hE] at h'
        by_cases h12 : g.d = 12
        · rw [if_pos (show g.R.d = 12 from h12)] at h'; cases h'
        · obtain ⟨k1, hb, k2, k3⟩ := ref_facts hI' hE h12
          obtain ⟨i1, i2⟩ := hidx hb
          obtain ⟨_, hv⟩ := rv_of hI' hb
          have hw : wrapF .i64 (g.d + 1) = g.d + 1 := wrapF_in (by omega) (by omega)
          have hd1 : 1 ≤ wrapF .i64 (g.d + 1) ∧ wrapF .i64 (g.d + 1) ≤ 12 := by rw [hw]; omega
          obtain ⟨s1, s2⟩ := scB_eq hI' hb (wrapF .i64 (g.d + 1)) 0
          obtain ⟨q1, q2⟩ := fi_eq (n2 := g.n2) (cs2 := cs2) hv hd1
          rw [k3] at q1
          have q1' : hasR (rgA cs3 g 0 (wrapF .i64 (g.d + 1))) cs1 cs2 = true := q1
          refine ⟨fun k => asks_sel i1 i2 (tru_iff.2 (hrb hb _ _ hd1)) k, ?_, ?_⟩
          · show pick3 (checkR g.R (cpS cs1 cs2 cs3 g.n)) g.R.d 0 (okE (ffE (upA g.R) (cpS cs1 cs2 cs3 g.n) (upA g.R).x) (brA (scB (upA g.R) (cpS cs1 cs2 cs3 g.n)) (cs12 (cpS cs1 cs2 cs3 g.n)) ((upA g.R).x - 1).toNat)) 0 = _
            unfold pick3
            rw [if_pos hE, if_neg (show ¬ g.R.d = 12 from h12), k1, q1', show scB (upA g.R) (cpS cs1 cs2 cs3 g.n) = _ from s1, s2]
            exact (q2 k3).symm
          · show pick3 (checkR g.R (cpS cs1 cs2 cs3 g.n)) g.R.d 0 (okE (ffE (upA g.R) (cpS cs1 cs2 cs3 g.n) (upA g.R).x) (upA g.R).x) 0 = _
            unfold pick3
            rw [if_pos hE, if_neg (show ¬ g.R.d = 12 from h12), k1, q1']
            rfl
      · rw [if_neg hE] at h'; exact absurd h' hE
    · have h' : ¬ pick3 (checkR g.R (cpS cs1 cs2 cs3 g.n)) g.R.d 23 (ffE (upA g.R) (cpS cs1 cs2 cs3 g.n) (upA g.R).x) (checkR g.R (cpS cs1 cs2 cs3 g.n)) = 0 := h
      show pick3 (checkR g.R (cpS cs1 cs2 cs3 g.n)) g.R.d 0 (okE (ffE (upA g.R) (cpS cs1 cs2 cs3 g.n) (upA g.R).x) (brA (scB (upA g.R) (cpS cs1 cs2 cs3 g.n)) (cs12 (cpS cs1 cs2 cs3 g.n)) ((upA g.R).x - 1).toNat)) 0 = 0 ∧ pick3 (checkR g.R (cpS cs1 cs2 cs3 g.n)) g.R.d 0 (okE (ffE (upA g.R) (cpS cs1 cs2 cs3 g.n) (upA g.R).x) (upA g.R).x) 0 = 0
      unfold pick3 at h' ⊢
      by_cases hE : checkR g.R (cpS cs1 cs2 cs3 g.n) = 0
      · rw [if_pos hE] at h'
        rw [if_pos hE, if_pos hE]
        by_cases h12 : g.d = 12
        · rw [if_pos (show g.R.d = 12 from h12), if_pos (show g.R.d = 12 from h12)]; exact ⟨rfl, rfl⟩
        · rw [if_neg (show ¬ g.R.d = 12 from h12)] at h'
          exact absurd (ref_facts hI' hE h12).1 h'
      · rw [if_neg hE, if_neg hE]; exact ⟨rfl, rfl⟩
end
end Go.Proofs.YtbocpikgochioaaGreatDoor.Ways
