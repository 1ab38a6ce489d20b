import Derived.Test.YtbocpikgochioaaDoorNr1
import Derived.Test.YtbocpikgochioaaDoorEngOrd2
namespace Go.Proofs.YtbocpikgochioaaDoor.Ways
open Go Go.Ex
noncomputable def ON3 : Array Oper := regOps Tryd.f5 3
def statesN3 : List Nat := [0, 1, 3, 4, 5, 7, 8, 9, 11, 12, 13, 15, 31, 63, 127, 191, 255, 256, 257, 259, 260, 261, 263, 264, 265, 267, 268, 269, 271, 287, 319, 383, 447, 511, 895, 1023, 2047]
def ansN3 (j : Nat) : List Bool :=
  match j with
  | 1 => [true]
  | 4 => [true]
  | _ => []
noncomputable def liveN3 (cs1 cs2 cs3 : List Value) (_t1 _s1 _t2 _s2 _t3 _s3 n1 n2 k : Nat) (w s q D : Int) (m : Nat) : List (Nat × Value) := [(2, i D), (3, pt 7 0), (4, pt 8 0)] ++ bitV m 0 (54, blV n1 n1 n2 n2 (sl 6 0 (k + 1) (k + 1))) ++ bitV m 1 (55, cutV false 9 n1 n2 (k + 1)) ++ bitV m 2 (56, flV w s q) ++ bitV m 3 (57, i D) ++ bitV m 4 (58, (frV (tLoE cs1 cs2 cs3 n1 n2 k w s q D) (tHiE cs1 cs2 cs3 n1 n2 k w s q D) (hNE cs1 cs2 cs3 n1 n2 k w s q D))) ++ bitV m 5 (53, (frV (tLoE cs1 cs2 cs3 n1 n2 k w s q D) (tHiE cs1 cs2 cs3 n1 n2 k w s q D) (hNE cs1 cs2 cs3 n1 n2 k w s q D))) ++ bitV m 6 (59, ag [i (tLoE cs1 cs2 cs3 n1 n2 k w s q D), i (tHiE cs1 cs2 cs3 n1 n2 k w s q D)]) ++ bitV m 7 (60, i (hNE cs1 cs2 cs3 n1 n2 k w s q D)) ++ bitV m 8 (7, pt 12 0) ++ bitV m 10 (8, i (hNE cs1 cs2 cs3 n1 n2 k w s q D))
noncomputable def baseN3 (cs1 cs2 cs3 : List Value) (t1 s1 t2 s2 t3 s3 n1 n2 k : Nat) (w s q _D : Int) : List (CO × Bool) := baseN n1 n2 k w s q cs1 t1 s1 cs2 t2 s2 cs3 t3 s3
noncomputable def hpN3 (cs1 cs2 cs3 : List Value) (t1 s1 t2 s2 t3 s3 n1 n2 k : Nat) (w s q D : Int) (m : Nat) : List (CO × Bool) := baseN n1 n2 k w s q cs1 t1 s1 cs2 t2 s2 cs3 t3 s3 ++ [bitC m 1 (.cells cs1 3 1 false, true), bitC m 1 (.cells cs2 3 1 false, true), bitC m 1 (.cells cs3 103 4 false, true)] ++ [bitC m 8 (.cells (cond (Nat.testBit m 9) [i (tLoE cs1 cs2 cs3 n1 n2 k w s q D), i (tHiE cs1 cs2 cs3 n1 n2 k w s q D)] [i 0, i 0]) 61 1 true, false)]
def rhoN3 (j : Nat) : List Nat :=
  match j with
  | 1 => [0, 1, 2, 3, 4, 5, 6, 7, 8, 13, 14, 15, 12]
  | 8 => [0, 1, 2, 3, 4, 5, 6, 7, 8, 9, 10, 11, 13]
  | _ => List.range 13
def lenN3 (j : Nat) : Nat :=
  match j with
  | 1 => 16
  | 8 => 14
  | _ => 13
noncomputable def cndN3 (cs1 cs2 cs3 : List Value) (_t1 _s1 _t2 _s2 _t3 _s3 n1 n2 k : Nat) (w s q D : Int) (j : Nat) : List Bool :=
  match j with
  | 1 => [tru (okCp (argA n1 n2 (k + 1)) cs1 cs2 cs3)]
  | 4 => [tru (okFc (AN n1 n2 k w s q D) (cpS cs1 cs2 cs3 (k + 1)))]
  | _ => []
theorem fixN3 (cs1 cs2 cs3 : List Value) (t1 s1 t2 s2 t3 s3 n1 n2 k : Nat) (w s q D : Int) : (trsN ON3 statesN3).map (outW (tabW CN1) Tryd.prog 7 CN1 Fn.law03_RotorNested ON3 273 (liveN3 cs1 cs2 cs3 t1 s1 t2 s2 t3 s3 n1 n2 k w s q D) (hpN3 cs1 cs2 cs3 t1 s1 t2 s2 t3 s3 n1 n2 k w s q D)) = (trsN ON3 statesN3).map fun t => (outW (tabW CN1) Tryd.prog 7 CN1 Fn.law03_RotorNested ON3 273 (liveN3 cs1 cs2 cs3 t1 s1 t2 s2 t3 s3 n1 n2 k w s q D) (hpN3 cs1 cs2 cs3 t1 s1 t2 s2 t3 s3 n1 n2 k w s q D) t).fix := by kernel_rfl
theorem obsN3 (cs1 cs2 cs3 : List Value) (t1 s1 t2 s2 t3 s3 n1 n2 k : Nat) (w s q D : Int) : (trsN ON3 statesN3).map (obsW (tabW CN1) Tryd.prog 7 CN1 Fn.law03_RotorNested ON3 273 (liveN3 cs1 cs2 cs3 t1 s1 t2 s2 t3 s3 n1 n2 k w s q D) (hpN3 cs1 cs2 cs3 t1 s1 t2 s2 t3 s3 n1 n2 k w s q D) rhoN3 ansN3) = (trsN ON3 statesN3).map (expN 273 (liveN3 cs1 cs2 cs3 t1 s1 t2 s2 t3 s3 n1 n2 k w s q D) (hpN3 cs1 cs2 cs3 t1 s1 t2 s2 t3 s3 n1 n2 k w s q D) rhoN3 (cndN3 cs1 cs2 cs3 t1 s1 t2 s2 t3 s3 n1 n2 k w s q D) lenN3) := by kernel_rfl
theorem goodN3 (cs1 cs2 cs3 : List Value) (t1 s1 t2 s2 t3 s3 n1 n2 k : Nat) (w s q D : Int) : ((trsN ON3 statesN3).all fun t => goodR 9 (lenN3 t.2) (liveN3 cs1 cs2 cs3 t1 s1 t2 s2 t3 s3 n1 n2 k w s q D (t.1 ||| 2 ^ t.2)) (hpN3 cs1 cs2 cs3 t1 s1 t2 s2 t3 s3 n1 n2 k w s q D (t.1 ||| 2 ^ t.2)) (rhoN3 t.2)) = true := by kernel_rfl
theorem closedN3 : closedN ON3 statesN3 2047 = true := by kernel_rfl
theorem flatN3 {cs1 cs2 cs3 : List Value} {t1 s1 t2 s2 t3 s3 n1 n2 k : Nat} {w s q D : Int} (f1 : cs1.all Ex.flat = true) (f2 : cs2.all Ex.flat = true) (f3 : cs3.all Ex.flat = true) : ∀ m o, (o, true) ∈ hpN3 cs1 cs2 cs3 t1 s1 t2 s2 t3 s3 n1 n2 k w s q D m → FlatO o := by
  intro m o ho
  unfold hpN3 baseN bitC at ho
  simp only [cond, List.cons_append, List.nil_append, List.mem_cons, List.not_mem_nil, or_false, Prod.mk.injEq, Bool.true_eq_false, and_false, false_or] at ho
  rcases ho with ⟨rfl, _⟩ | ⟨rfl, _⟩ | ⟨rfl, _⟩ | ⟨rfl, _⟩ | ⟨rfl, _⟩ | ⟨rfl, _⟩ | ⟨rfl, _⟩ | ho | ho | ho | ho
  · exact flatO_of flatP
  · exact flatO_of flat10
  · exact flatO_of flat32
  · exact flatO_of flat64
  · exact flatO_of f1
  · exact flatO_of f2
  · exact flatO_of f3
  all_goals
    split at ho <;> first
      | (cases ho; done)
      | (injection ho with h4 h5; subst h4; exact flatO_of (by assumption))
theorem cndN3_ok {cs1 cs2 cs3 : List Value} {t1 s1 t2 s2 t3 s3 n1 n2 k : Nat} {w s q D : Int} (h1 : okCp (argA n1 n2 (k + 1)) cs1 cs2 cs3) (h2 : okFc (AN n1 n2 k w s q D) (cpS cs1 cs2 cs3 (k + 1))) : ∀ j, cndN3 cs1 cs2 cs3 t1 s1 t2 s2 t3 s3 n1 n2 k w s q D j = (ansN3 j).take (cndN3 cs1 cs2 cs3 t1 s1 t2 s2 t3 s3 n1 n2 k w s q D j).length := by
  intro j
  unfold cndN3 ansN3
  split
  · rw [tru_iff.2 h1]; rfl
  · rw [tru_iff.2 h2]; rfl
  · rfl
theorem padN3 (cs1 cs2 cs3 : List Value) (t1 s1 t2 s2 t3 s3 n1 n2 k : Nat) (w s q D : Int) : heapL ((hpN3 cs1 cs2 cs3 t1 s1 t2 s2 t3 s3 n1 n2 k w s q D 0).map (·.1)) = heapL ((baseN3 cs1 cs2 cs3 t1 s1 t2 s2 t3 s3 n1 n2 k w s q D).map (·.1) ++ List.replicate 4 .dead) := by kernel_rfl
theorem ordN3 {cs1 cs2 cs3 : List Value} {t1 s1 t2 s2 t3 s3 n1 n2 k : Nat} {w s q D : Int} (f1 : cs1.all Ex.flat = true) (f2 : cs2.all Ex.flat = true) (f3 : cs3.all Ex.flat = true) (h1 : okCp (argA n1 n2 (k + 1)) cs1 cs2 cs3) (h2 : okFc (AN n1 n2 k w s q D) (cpS cs1 cs2 cs3 (k + 1))) : Orders (selfA (qS (tabW CN1))) Tryd.prog 7 ON3 9 (fun m => m ∈ statesN3) (fun m => absT (tmL 273 (liveN3 cs1 cs2 cs3 t1 s1 t2 s2 t3 s3 n1 n2 k w s q D m))) (fun m => heapL ((hpN3 cs1 cs2 cs3 t1 s1 t2 s2 t3 s3 n1 n2 k w s q D m).map (·.1))) 2047 :=
  orders_ofW statesN3 (fixN3 cs1 cs2 cs3 t1 s1 t2 s2 t3 s3 n1 n2 k w s q D) (obsN3 cs1 cs2 cs3 t1 s1 t2 s2 t3 s3 n1 n2 k w s q D) (cndN3_ok h1 h2) (goodN3 cs1 cs2 cs3 t1 s1 t2 s2 t3 s3 n1 n2 k w s q D) closedN3 (flatN3 f1 f2 f3)
theorem sndN3 {cs1 cs2 cs3 : List Value} {t1 s1 t2 s2 t3 s3 n1 n2 k : Nat} {w s q D : Int} (f1 : cs1.all Ex.flat = true) (f2 : cs2.all Ex.flat = true) (f3 : cs3.all Ex.flat = true) (h1 : okCp (argA n1 n2 (k + 1)) cs1 cs2 cs3) (h2 : okFc (AN n1 n2 k w s q D) (cpS cs1 cs2 cs3 (k + 1))) (ro : Option Nat) {tm0 : Array Value} {H0 : CH} (hk : H0.length = 9) (hst : Restate 9 tm0 H0 (absT (tmL 273 (liveN3 cs1 cs2 cs3 t1 s1 t2 s2 t3 s3 n1 n2 k w s q D 0))) (heapL ((baseN3 cs1 cs2 cs3 t1 s1 t2 s2 t3 s3 n1 n2 k w s q D).map (·.1)))) :
    Sound Tryd.prog 7 (.code (.region 3 ON3 true) ro tm0 H0 []) (.ex .normal (absT (tmL 273 (liveN3 cs1 cs2 cs3 t1 s1 t2 s2 t3 s3 n1 n2 k w s q D 2047))) (heapL ((hpN3 cs1 cs2 cs3 t1 s1 t2 s2 t3 s3 n1 n2 k w s q D 2047).map (·.1))) []) := by
  have ho := ordN3 (cs1 := cs1) (cs2 := cs2) (cs3 := cs3) (t1 := t1) (s1 := s1) (t2 := t2) (s2 := s2) (t3 := t3) (s3 := s3) (n1 := n1) (n2 := n2) (k := k) (w := w) (s := s) (q := q) (D := D) f1 f2 f3 h1 h2
  have hr := padN3 cs1 cs2 cs3 t1 s1 t2 s2 t3 s3 n1 n2 k w s q D
  generalize liveN3 cs1 cs2 cs3 t1 s1 t2 s2 t3 s3 n1 n2 k w s q D = lv at *
  generalize hpN3 cs1 cs2 cs3 t1 s1 t2 s2 t3 s3 n1 n2 k w s q D = hp at *
  generalize baseN3 cs1 cs2 cs3 t1 s1 t2 s2 t3 s3 n1 n2 k w s q D = bs at *
  rw [← hk] at ho hst
  exact orders_sound2 (tmS := fun m => absT (tmL 273 (lv m))) (HS := fun m => heapL ((hp m).map (·.1))) (mF := 2047) sfN1 mix12 ho (by rw [hk]; decide) (by decide) hr hst ro
theorem fbN3 {cs1 cs2 cs3 : List Value} {t1 s1 t2 s2 t3 s3 n1 n2 k : Nat} {w s q D : Int} (f1 : cs1.all Ex.flat = true) (f2 : cs2.all Ex.flat = true) (f3 : cs3.all Ex.flat = true) : ∀ o, (o, true) ∈ baseN3 cs1 cs2 cs3 t1 s1 t2 s2 t3 s3 n1 n2 k w s q D → FlatO o := fun o ho =>
  flatN3 (cs1 := cs1) (cs2 := cs2) (cs3 := cs3) (t1 := t1) (s1 := s1) (t2 := t2) (s2 := s2) (t3 := t3) (s3 := s3) (n1 := n1) (n2 := n2) (k := k) (w := w) (s := s) (q := q) (D := D) f1 f2 f3 0 o (by unfold hpN3; exact List.mem_append_left _ (List.mem_append_left _ ho))
end Go.Proofs.YtbocpikgochioaaDoor.Ways
namespace Go.Proofs.YtbocpikgochioaaDoor.Ways
open Go Go.Ex
noncomputable def ON4 : Array Oper := regOps Tryd.f5 4
def statesN4 : List Nat := [0, 1, 3, 4, 5, 7, 8, 9, 11, 12, 13, 15, 24, 25, 27, 28, 29, 31, 63, 127, 255, 383, 511, 512, 513, 515, 516, 517, 519, 520, 521, 523, 524, 525, 527, 536, 537, 539, 540, 541, 543, 575, 639, 767, 895, 1023, 1791, 2047, 4095]
def ansN4 (j : Nat) : List Bool :=
  match j with
  | 1 => [true]
  | 5 => [true]
  | _ => []
noncomputable def liveN4 (cs1 cs2 cs3 : List Value) (_t1 _s1 _t2 _s2 _t3 _s3 n1 n2 k : Nat) (w s q D : Int) (m : Nat) : List (Nat × Value) := [(2, i D), (3, pt 7 0), (4, pt 8 0), (7, pt 12 0), (8, i (hNE cs1 cs2 cs3 n1 n2 k w s q D))] ++ bitV m 0 (62, blV n1 n1 n2 n2 (sl 6 0 (k + 1) (k + 1))) ++ bitV m 1 (63, cutV false 13 n1 n2 (k + 1)) ++ bitV m 2 (64, flV w s q) ++ bitV m 3 (65, i D) ++ bitV m 4 (66, i (wrapF .i64 (D + 1))) ++ bitV m 5 (67, (frV (tLoE cs1 cs2 cs3 n1 n2 k w s q (wrapF .i64 (D + 1))) (tHiE cs1 cs2 cs3 n1 n2 k w s q (wrapF .i64 (D + 1))) (hNE cs1 cs2 cs3 n1 n2 k w s q (wrapF .i64 (D + 1))))) ++ bitV m 6 (61, (frV (tLoE cs1 cs2 cs3 n1 n2 k w s q (wrapF .i64 (D + 1))) (tHiE cs1 cs2 cs3 n1 n2 k w s q (wrapF .i64 (D + 1))) (hNE cs1 cs2 cs3 n1 n2 k w s q (wrapF .i64 (D + 1))))) ++ bitV m 7 (68, ag [i (tLoE cs1 cs2 cs3 n1 n2 k w s q (wrapF .i64 (D + 1))), i (tHiE cs1 cs2 cs3 n1 n2 k w s q (wrapF .i64 (D + 1)))]) ++ bitV m 8 (69, i (hNE cs1 cs2 cs3 n1 n2 k w s q (wrapF .i64 (D + 1)))) ++ bitV m 9 (9, pt 16 0) ++ bitV m 11 (10, i (hNE cs1 cs2 cs3 n1 n2 k w s q (wrapF .i64 (D + 1))))
noncomputable def baseN4 (cs1 cs2 cs3 : List Value) (t1 s1 t2 s2 t3 s3 n1 n2 k : Nat) (w s q D : Int) : List (CO × Bool) := baseN n1 n2 k w s q cs1 t1 s1 cs2 t2 s2 cs3 t3 s3 ++ [(.dead, false), (.dead, false), (.dead, false), (.cells [i (tLoE cs1 cs2 cs3 n1 n2 k w s q D), i (tHiE cs1 cs2 cs3 n1 n2 k w s q D)] 61 1 true, false)]
noncomputable def hpN4 (cs1 cs2 cs3 : List Value) (t1 s1 t2 s2 t3 s3 n1 n2 k : Nat) (w s q D : Int) (m : Nat) : List (CO × Bool) := baseN n1 n2 k w s q cs1 t1 s1 cs2 t2 s2 cs3 t3 s3 ++ [(.dead, false), (.dead, false), (.dead, false), (.cells [i (tLoE cs1 cs2 cs3 n1 n2 k w s q D), i (tHiE cs1 cs2 cs3 n1 n2 k w s q D)] 61 1 true, false)] ++ [bitC m 1 (.cells cs1 3 1 false, true), bitC m 1 (.cells cs2 3 1 false, true), bitC m 1 (.cells cs3 103 4 false, true)] ++ [bitC m 9 (.cells (cond (Nat.testBit m 10) [i (tLoE cs1 cs2 cs3 n1 n2 k w s q (wrapF .i64 (D + 1))), i (tHiE cs1 cs2 cs3 n1 n2 k w s q (wrapF .i64 (D + 1)))] [i 0, i 0]) 61 1 true, false)]
def rhoN4 (j : Nat) : List Nat :=
  match j with
  | 1 => [0, 1, 2, 3, 4, 5, 6, 7, 8, 9, 10, 11, 12, 17, 18, 19, 16]
  | 9 => [0, 1, 2, 3, 4, 5, 6, 7, 8, 9, 10, 11, 12, 13, 14, 15, 17]
  | _ => List.range 17
def lenN4 (j : Nat) : Nat :=
  match j with
  | 1 => 20
  | 9 => 18
  | _ => 17
noncomputable def cndN4 (cs1 cs2 cs3 : List Value) (_t1 _s1 _t2 _s2 _t3 _s3 n1 n2 k : Nat) (w s q D : Int) (j : Nat) : List Bool :=
  match j with
  | 1 => [tru (okCp (argA n1 n2 (k + 1)) cs1 cs2 cs3)]
  | 5 => [tru (okFc (AN n1 n2 k w s q (wrapF .i64 (D + 1))) (cpS cs1 cs2 cs3 (k + 1)))]
  | _ => []
theorem fixN4 (cs1 cs2 cs3 : List Value) (t1 s1 t2 s2 t3 s3 n1 n2 k : Nat) (w s q D : Int) : (trsN ON4 statesN4).map (outW (tabW CN1) Tryd.prog 7 CN1 Fn.law03_RotorNested ON4 273 (liveN4 cs1 cs2 cs3 t1 s1 t2 s2 t3 s3 n1 n2 k w s q D) (hpN4 cs1 cs2 cs3 t1 s1 t2 s2 t3 s3 n1 n2 k w s q D)) = (trsN ON4 statesN4).map fun t => (outW (tabW CN1) Tryd.prog 7 CN1 Fn.law03_RotorNested ON4 273 (liveN4 cs1 cs2 cs3 t1 s1 t2 s2 t3 s3 n1 n2 k w s q D) (hpN4 cs1 cs2 cs3 t1 s1 t2 s2 t3 s3 n1 n2 k w s q D) t).fix := by kernel_rfl
theorem obsN4 (cs1 cs2 cs3 : List Value) (t1 s1 t2 s2 t3 s3 n1 n2 k : Nat) (w s q D : Int) : (trsN ON4 statesN4).map (obsW (tabW CN1) Tryd.prog 7 CN1 Fn.law03_RotorNested ON4 273 (liveN4 cs1 cs2 cs3 t1 s1 t2 s2 t3 s3 n1 n2 k w s q D) (hpN4 cs1 cs2 cs3 t1 s1 t2 s2 t3 s3 n1 n2 k w s q D) rhoN4 ansN4) = (trsN ON4 statesN4).map (expN 273 (liveN4 cs1 cs2 cs3 t1 s1 t2 s2 t3 s3 n1 n2 k w s q D) (hpN4 cs1 cs2 cs3 t1 s1 t2 s2 t3 s3 n1 n2 k w s q D) rhoN4 (cndN4 cs1 cs2 cs3 t1 s1 t2 s2 t3 s3 n1 n2 k w s q D) lenN4) := by kernel_rfl
theorem goodN4 (cs1 cs2 cs3 : List Value) (t1 s1 t2 s2 t3 s3 n1 n2 k : Nat) (w s q D : Int) : ((trsN ON4 statesN4).all fun t => goodR 13 (lenN4 t.2) (liveN4 cs1 cs2 cs3 t1 s1 t2 s2 t3 s3 n1 n2 k w s q D (t.1 ||| 2 ^ t.2)) (hpN4 cs1 cs2 cs3 t1 s1 t2 s2 t3 s3 n1 n2 k w s q D (t.1 ||| 2 ^ t.2)) (rhoN4 t.2)) = true := by kernel_rfl
theorem closedN4 : closedN ON4 statesN4 4095 = true := by kernel_rfl
theorem flatN4 {cs1 cs2 cs3 : List Value} {t1 s1 t2 s2 t3 s3 n1 n2 k : Nat} {w s q D : Int} (f1 : cs1.all Ex.flat = true) (f2 : cs2.all Ex.flat = true) (f3 : cs3.all Ex.flat = true) : ∀ m o, (o, true) ∈ hpN4 cs1 cs2 cs3 t1 s1 t2 s2 t3 s3 n1 n2 k w s q D m → FlatO o := by
  intro m o ho
  unfold hpN4 baseN bitC at ho
  simp only [cond, List.cons_append, List.nil_append, List.mem_cons, List.not_mem_nil, or_false, Prod.mk.injEq, Bool.true_eq_false, and_false, false_or] at ho
  rcases ho with ⟨rfl, _⟩ | ⟨rfl, _⟩ | ⟨rfl, _⟩ | ⟨rfl, _⟩ | ⟨rfl, _⟩ | ⟨rfl, _⟩ | ⟨rfl, _⟩ | ho | ho | ho | ho
  · exact flatO_of flatP
  · exact flatO_of flat10
  · exact flatO_of flat32
  · exact flatO_of flat64
  · exact flatO_of f1
  · exact flatO_of f2
  · exact flatO_of f3
  all_goals
    split at ho <;> first
      | (cases ho; done)
      | (injection ho with h4 h5; subst h4; exact flatO_of (by assumption))
theorem cndN4_ok {cs1 cs2 cs3 : List Value} {t1 s1 t2 s2 t3 s3 n1 n2 k : Nat} {w s q D : Int} (h1 : okCp (argA n1 n2 (k + 1)) cs1 cs2 cs3) (h2 : okFc (AN n1 n2 k w s q (wrapF .i64 (D + 1))) (cpS cs1 cs2 cs3 (k + 1))) : ∀ j, cndN4 cs1 cs2 cs3 t1 s1 t2 s2 t3 s3 n1 n2 k w s q D j = (ansN4 j).take (cndN4 cs1 cs2 cs3 t1 s1 t2 s2 t3 s3 n1 n2 k w s q D j).length := by
  intro j
  unfold cndN4 ansN4
  split
  · rw [tru_iff.2 h1]; rfl
  · rw [tru_iff.2 h2]; rfl
  · rfl
theorem padN4 (cs1 cs2 cs3 : List Value) (t1 s1 t2 s2 t3 s3 n1 n2 k : Nat) (w s q D : Int) : heapL ((hpN4 cs1 cs2 cs3 t1 s1 t2 s2 t3 s3 n1 n2 k w s q D 0).map (·.1)) = heapL ((baseN4 cs1 cs2 cs3 t1 s1 t2 s2 t3 s3 n1 n2 k w s q D).map (·.1) ++ List.replicate 4 .dead) := by kernel_rfl
theorem ordN4 {cs1 cs2 cs3 : List Value} {t1 s1 t2 s2 t3 s3 n1 n2 k : Nat} {w s q D : Int} (f1 : cs1.all Ex.flat = true) (f2 : cs2.all Ex.flat = true) (f3 : cs3.all Ex.flat = true) (h1 : okCp (argA n1 n2 (k + 1)) cs1 cs2 cs3) (h2 : okFc (AN n1 n2 k w s q (wrapF .i64 (D + 1))) (cpS cs1 cs2 cs3 (k + 1))) : Orders (selfA (qS (tabW CN1))) Tryd.prog 7 ON4 13 (fun m => m ∈ statesN4) (fun m => absT (tmL 273 (liveN4 cs1 cs2 cs3 t1 s1 t2 s2 t3 s3 n1 n2 k w s q D m))) (fun m => heapL ((hpN4 cs1 cs2 cs3 t1 s1 t2 s2 t3 s3 n1 n2 k w s q D m).map (·.1))) 4095 :=
  orders_ofW statesN4 (fixN4 cs1 cs2 cs3 t1 s1 t2 s2 t3 s3 n1 n2 k w s q D) (obsN4 cs1 cs2 cs3 t1 s1 t2 s2 t3 s3 n1 n2 k w s q D) (cndN4_ok h1 h2) (goodN4 cs1 cs2 cs3 t1 s1 t2 s2 t3 s3 n1 n2 k w s q D) closedN4 (flatN4 f1 f2 f3)
theorem sndN4 {cs1 cs2 cs3 : List Value} {t1 s1 t2 s2 t3 s3 n1 n2 k : Nat} {w s q D : Int} (f1 : cs1.all Ex.flat = true) (f2 : cs2.all Ex.flat = true) (f3 : cs3.all Ex.flat = true) (h1 : okCp (argA n1 n2 (k + 1)) cs1 cs2 cs3) (h2 : okFc (AN n1 n2 k w s q (wrapF .i64 (D + 1))) (cpS cs1 cs2 cs3 (k + 1))) (ro : Option Nat) {tm0 : Array Value} {H0 : CH} (hk : H0.length = 13) (hst : Restate 13 tm0 H0 (absT (tmL 273 (liveN4 cs1 cs2 cs3 t1 s1 t2 s2 t3 s3 n1 n2 k w s q D 0))) (heapL ((baseN4 cs1 cs2 cs3 t1 s1 t2 s2 t3 s3 n1 n2 k w s q D).map (·.1)))) :
    Sound Tryd.prog 7 (.code (.region 4 ON4 true) ro tm0 H0 []) (.ex .normal (absT (tmL 273 (liveN4 cs1 cs2 cs3 t1 s1 t2 s2 t3 s3 n1 n2 k w s q D 4095))) (heapL ((hpN4 cs1 cs2 cs3 t1 s1 t2 s2 t3 s3 n1 n2 k w s q D 4095).map (·.1))) []) := by
  have ho := ordN4 (cs1 := cs1) (cs2 := cs2) (cs3 := cs3) (t1 := t1) (s1 := s1) (t2 := t2) (s2 := s2) (t3 := t3) (s3 := s3) (n1 := n1) (n2 := n2) (k := k) (w := w) (s := s) (q := q) (D := D) f1 f2 f3 h1 h2
  have hr := padN4 cs1 cs2 cs3 t1 s1 t2 s2 t3 s3 n1 n2 k w s q D
  generalize liveN4 cs1 cs2 cs3 t1 s1 t2 s2 t3 s3 n1 n2 k w s q D = lv at *
  generalize hpN4 cs1 cs2 cs3 t1 s1 t2 s2 t3 s3 n1 n2 k w s q D = hp at *
  generalize baseN4 cs1 cs2 cs3 t1 s1 t2 s2 t3 s3 n1 n2 k w s q D = bs at *
  rw [← hk] at ho hst
  exact orders_sound2 (tmS := fun m => absT (tmL 273 (lv m))) (HS := fun m => heapL ((hp m).map (·.1))) (mF := 4095) sfN1 mix12 ho (by rw [hk]; decide) (by decide) hr hst ro
theorem fbN4 {cs1 cs2 cs3 : List Value} {t1 s1 t2 s2 t3 s3 n1 n2 k : Nat} {w s q D : Int} (f1 : cs1.all Ex.flat = true) (f2 : cs2.all Ex.flat = true) (f3 : cs3.all Ex.flat = true) : ∀ o, (o, true) ∈ baseN4 cs1 cs2 cs3 t1 s1 t2 s2 t3 s3 n1 n2 k w s q D → FlatO o := fun o ho =>
  flatN4 (cs1 := cs1) (cs2 := cs2) (cs3 := cs3) (t1 := t1) (s1 := s1) (t2 := t2) (s2 := s2) (t3 := t3) (s3 := s3) (n1 := n1) (n2 := n2) (k := k) (w := w) (s := s) (q := q) (D := D) f1 f2 f3 0 o (by unfold hpN4; exact List.mem_append_left _ (List.mem_append_left _ ho))
end Go.Proofs.YtbocpikgochioaaDoor.Ways
namespace Go.Proofs.YtbocpikgochioaaDoor.Ways
open Go Go.Ex
noncomputable def ON5 : Array Oper := regOps Tryd.f5 5
def statesN5 : List Nat := [0, 1, 3, 4, 5, 7, 8, 9, 11, 12, 13, 15, 31, 63, 127, 191, 255, 256, 257, 259, 260, 261, 263, 264, 265, 267, 268, 269, 271, 287, 319, 383, 447, 511, 895, 1023, 2047]
def ansN5 (j : Nat) : List Bool :=
  match j with
  | 1 => [true]
  | 4 => [true]
  | _ => []
noncomputable def liveN5 (cs1 cs2 cs3 : List Value) (_t1 _s1 _t2 _s2 _t3 _s3 n1 n2 k : Nat) (w s q D : Int) (m : Nat) : List (Nat × Value) := [(2, i D), (3, pt 7 0), (4, pt 8 0), (7, pt 12 0), (8, i (hNE cs1 cs2 cs3 n1 n2 k w s q D)), (9, pt 16 0), (10, i (hNE cs1 cs2 cs3 n1 n2 k w s q (wrapF .i64 (D + 1))))] ++ bitV m 0 (71, blV n1 n1 n2 n2 (sl 6 0 (k + 1) (k + 1))) ++ bitV m 1 (72, cutV false 17 n1 n2 (k + 1)) ++ bitV m 2 (73, flV w s q) ++ bitV m 3 (74, i D) ++ bitV m 4 (75, (frV (mLoE cs1 cs2 cs3 n1 n2 k w s q D) (mHiE cs1 cs2 cs3 n1 n2 k w s q D) (hNE cs1 cs2 cs3 n1 n2 k w s q D))) ++ bitV m 5 (70, (frV (mLoE cs1 cs2 cs3 n1 n2 k w s q D) (mHiE cs1 cs2 cs3 n1 n2 k w s q D) (hNE cs1 cs2 cs3 n1 n2 k w s q D))) ++ bitV m 6 (76, ag [i (mLoE cs1 cs2 cs3 n1 n2 k w s q D), i (mHiE cs1 cs2 cs3 n1 n2 k w s q D)]) ++ bitV m 7 (77, i (hNE cs1 cs2 cs3 n1 n2 k w s q D)) ++ bitV m 8 (11, pt 20 0) ++ bitV m 10 (12, i (hNE cs1 cs2 cs3 n1 n2 k w s q D))
noncomputable def baseN5 (cs1 cs2 cs3 : List Value) (t1 s1 t2 s2 t3 s3 n1 n2 k : Nat) (w s q D : Int) : List (CO × Bool) := baseN n1 n2 k w s q cs1 t1 s1 cs2 t2 s2 cs3 t3 s3 ++ [(.dead, false), (.dead, false), (.dead, false), (.cells [i (tLoE cs1 cs2 cs3 n1 n2 k w s q D), i (tHiE cs1 cs2 cs3 n1 n2 k w s q D)] 61 1 true, false)] ++ [(.dead, false), (.dead, false), (.dead, false), (.cells [i (tLoE cs1 cs2 cs3 n1 n2 k w s q (wrapF .i64 (D + 1))), i (tHiE cs1 cs2 cs3 n1 n2 k w s q (wrapF .i64 (D + 1)))] 61 1 true, false)]
noncomputable def hpN5 (cs1 cs2 cs3 : List Value) (t1 s1 t2 s2 t3 s3 n1 n2 k : Nat) (w s q D : Int) (m : Nat) : List (CO × Bool) := baseN n1 n2 k w s q cs1 t1 s1 cs2 t2 s2 cs3 t3 s3 ++ [(.dead, false), (.dead, false), (.dead, false), (.cells [i (tLoE cs1 cs2 cs3 n1 n2 k w s q D), i (tHiE cs1 cs2 cs3 n1 n2 k w s q D)] 61 1 true, false)] ++ [(.dead, false), (.dead, false), (.dead, false), (.cells [i (tLoE cs1 cs2 cs3 n1 n2 k w s q (wrapF .i64 (D + 1))), i (tHiE cs1 cs2 cs3 n1 n2 k w s q (wrapF .i64 (D + 1)))] 61 1 true, false)] ++ [bitC m 1 (.cells cs1 3 1 false, true), bitC m 1 (.cells cs2 3 1 false, true), bitC m 1 (.cells cs3 103 4 false, true)] ++ [bitC m 8 (.cells (cond (Nat.testBit m 9) [i (mLoE cs1 cs2 cs3 n1 n2 k w s q D), i (mHiE cs1 cs2 cs3 n1 n2 k w s q D)] [i 0, i 0]) 61 1 true, false)]
def rhoN5 (j : Nat) : List Nat :=
  match j with
  | 1 => [0, 1, 2, 3, 4, 5, 6, 7, 8, 9, 10, 11, 12, 13, 14, 15, 16, 21, 22, 23, 20]
  | 8 => [0, 1, 2, 3, 4, 5, 6, 7, 8, 9, 10, 11, 12, 13, 14, 15, 16, 17, 18, 19, 21]
  | _ => List.range 21
def lenN5 (j : Nat) : Nat :=
  match j with
  | 1 => 24
  | 8 => 22
  | _ => 21
noncomputable def cndN5 (cs1 cs2 cs3 : List Value) (_t1 _s1 _t2 _s2 _t3 _s3 n1 n2 k : Nat) (w s q D : Int) (j : Nat) : List Bool :=
  match j with
  | 1 => [tru (okCp (argA n1 n2 (k + 1)) cs1 cs2 cs3)]
  | 4 => [tru (okFc (AN n1 n2 k w s q D) (cpS cs1 cs2 cs3 (k + 1)))]
  | _ => []
theorem fixN5 (cs1 cs2 cs3 : List Value) (t1 s1 t2 s2 t3 s3 n1 n2 k : Nat) (w s q D : Int) : (trsN ON5 statesN5).map (outW (tabW CN1) Tryd.prog 7 CN1 Fn.law03_RotorNested ON5 273 (liveN5 cs1 cs2 cs3 t1 s1 t2 s2 t3 s3 n1 n2 k w s q D) (hpN5 cs1 cs2 cs3 t1 s1 t2 s2 t3 s3 n1 n2 k w s q D)) = (trsN ON5 statesN5).map fun t => (outW (tabW CN1) Tryd.prog 7 CN1 Fn.law03_RotorNested ON5 273 (liveN5 cs1 cs2 cs3 t1 s1 t2 s2 t3 s3 n1 n2 k w s q D) (hpN5 cs1 cs2 cs3 t1 s1 t2 s2 t3 s3 n1 n2 k w s q D) t).fix := by kernel_rfl
theorem obsN5 (cs1 cs2 cs3 : List Value) (t1 s1 t2 s2 t3 s3 n1 n2 k : Nat) (w s q D : Int) : (trsN ON5 statesN5).map (obsW (tabW CN1) Tryd.prog 7 CN1 Fn.law03_RotorNested ON5 273 (liveN5 cs1 cs2 cs3 t1 s1 t2 s2 t3 s3 n1 n2 k w s q D) (hpN5 cs1 cs2 cs3 t1 s1 t2 s2 t3 s3 n1 n2 k w s q D) rhoN5 ansN5) = (trsN ON5 statesN5).map (expN 273 (liveN5 cs1 cs2 cs3 t1 s1 t2 s2 t3 s3 n1 n2 k w s q D) (hpN5 cs1 cs2 cs3 t1 s1 t2 s2 t3 s3 n1 n2 k w s q D) rhoN5 (cndN5 cs1 cs2 cs3 t1 s1 t2 s2 t3 s3 n1 n2 k w s q D) lenN5) := by kernel_rfl
theorem goodN5 (cs1 cs2 cs3 : List Value) (t1 s1 t2 s2 t3 s3 n1 n2 k : Nat) (w s q D : Int) : ((trsN ON5 statesN5).all fun t => goodR 17 (lenN5 t.2) (liveN5 cs1 cs2 cs3 t1 s1 t2 s2 t3 s3 n1 n2 k w s q D (t.1 ||| 2 ^ t.2)) (hpN5 cs1 cs2 cs3 t1 s1 t2 s2 t3 s3 n1 n2 k w s q D (t.1 ||| 2 ^ t.2)) (rhoN5 t.2)) = true := by kernel_rfl
theorem closedN5 : closedN ON5 statesN5 2047 = true := by kernel_rfl
theorem flatN5 {cs1 cs2 cs3 : List Value} {t1 s1 t2 s2 t3 s3 n1 n2 k : Nat} {w s q D : Int} (f1 : cs1.all Ex.flat = true) (f2 : cs2.all Ex.flat = true) (f3 : cs3.all Ex.flat = true) : ∀ m o, (o, true) ∈ hpN5 cs1 cs2 cs3 t1 s1 t2 s2 t3 s3 n1 n2 k w s q D m → FlatO o := by
  intro m o ho
  unfold hpN5 baseN bitC at ho
  simp only [cond, List.cons_append, List.nil_append, List.mem_cons, List.not_mem_nil, or_false, Prod.mk.injEq, Bool.true_eq_false, and_false, false_or] at ho
  rcases ho with ⟨rfl, _⟩ | ⟨rfl, _⟩ | ⟨rfl, _⟩ | ⟨rfl, _⟩ | ⟨rfl, _⟩ | ⟨rfl, _⟩ | ⟨rfl, _⟩ | ho | ho | ho | ho
  · exact flatO_of flatP
  · exact flatO_of flat10
  · exact flatO_of flat32
  · exact flatO_of flat64
  · exact flatO_of f1
  · exact flatO_of f2
  · exact flatO_of f3
  all_goals
    split at ho <;> first
      | (cases ho; done)
      | (injection ho with h4 h5; subst h4; exact flatO_of (by assumption))
theorem cndN5_ok {cs1 cs2 cs3 : List Value} {t1 s1 t2 s2 t3 s3 n1 n2 k : Nat} {w s q D : Int} (h1 : okCp (argA n1 n2 (k + 1)) cs1 cs2 cs3) (h2 : okFc (AN n1 n2 k w s q D) (cpS cs1 cs2 cs3 (k + 1))) : ∀ j, cndN5 cs1 cs2 cs3 t1 s1 t2 s2 t3 s3 n1 n2 k w s q D j = (ansN5 j).take (cndN5 cs1 cs2 cs3 t1 s1 t2 s2 t3 s3 n1 n2 k w s q D j).length := by
  intro j
  unfold cndN5 ansN5
  split
  · rw [tru_iff.2 h1]; rfl
  · rw [tru_iff.2 h2]; rfl
  · rfl
theorem padN5 (cs1 cs2 cs3 : List Value) (t1 s1 t2 s2 t3 s3 n1 n2 k : Nat) (w s q D : Int) : heapL ((hpN5 cs1 cs2 cs3 t1 s1 t2 s2 t3 s3 n1 n2 k w s q D 0).map (·.1)) = heapL ((baseN5 cs1 cs2 cs3 t1 s1 t2 s2 t3 s3 n1 n2 k w s q D).map (·.1) ++ List.replicate 4 .dead) := by kernel_rfl
theorem ordN5 {cs1 cs2 cs3 : List Value} {t1 s1 t2 s2 t3 s3 n1 n2 k : Nat} {w s q D : Int} (f1 : cs1.all Ex.flat = true) (f2 : cs2.all Ex.flat = true) (f3 : cs3.all Ex.flat = true) (h1 : okCp (argA n1 n2 (k + 1)) cs1 cs2 cs3) (h2 : okFc (AN n1 n2 k w s q D) (cpS cs1 cs2 cs3 (k + 1))) : Orders (selfA (qS (tabW CN1))) Tryd.prog 7 ON5 17 (fun m => m ∈ statesN5) (fun m => absT (tmL 273 (liveN5 cs1 cs2 cs3 t1 s1 t2 s2 t3 s3 n1 n2 k w s q D m))) (fun m => heapL ((hpN5 cs1 cs2 cs3 t1 s1 t2 s2 t3 s3 n1 n2 k w s q D m).map (·.1))) 2047 :=
  orders_ofW statesN5 (fixN5 cs1 cs2 cs3 t1 s1 t2 s2 t3 s3 n1 n2 k w s q D) (obsN5 cs1 cs2 cs3 t1 s1 t2 s2 t3 s3 n1 n2 k w s q D) (cndN5_ok h1 h2) (goodN5 cs1 cs2 cs3 t1 s1 t2 s2 t3 s3 n1 n2 k w s q D) closedN5 (flatN5 f1 f2 f3)
theorem sndN5 {cs1 cs2 cs3 : List Value} {t1 s1 t2 s2 t3 s3 n1 n2 k : Nat} {w s q D : Int} (f1 : cs1.all Ex.flat = true) (f2 : cs2.all Ex.flat = true) (f3 : cs3.all Ex.flat = true) (h1 : okCp (argA n1 n2 (k + 1)) cs1 cs2 cs3) (h2 : okFc (AN n1 n2 k w s q D) (cpS cs1 cs2 cs3 (k + 1))) (ro : Option Nat) {tm0 : Array Value} {H0 : CH} (hk : H0.length = 17) (hst : Restate 17 tm0 H0 (absT (tmL 273 (liveN5 cs1 cs2 cs3 t1 s1 t2 s2 t3 s3 n1 n2 k w s q D 0))) (heapL ((baseN5 cs1 cs2 cs3 t1 s1 t2 s2 t3 s3 n1 n2 k w s q D).map (·.1)))) :
    Sound Tryd.prog 7 (.code (.region 5 ON5 true) ro tm0 H0 []) (.ex .normal (absT (tmL 273 (liveN5 cs1 cs2 cs3 t1 s1 t2 s2 t3 s3 n1 n2 k w s q D 2047))) (heapL ((hpN5 cs1 cs2 cs3 t1 s1 t2 s2 t3 s3 n1 n2 k w s q D 2047).map (·.1))) []) := by
  have ho := ordN5 (cs1 := cs1) (cs2 := cs2) (cs3 := cs3) (t1 := t1) (s1 := s1) (t2 := t2) (s2 := s2) (t3 := t3) (s3 := s3) (n1 := n1) (n2 := n2) (k := k) (w := w) (s := s) (q := q) (D := D) f1 f2 f3 h1 h2
  have hr := padN5 cs1 cs2 cs3 t1 s1 t2 s2 t3 s3 n1 n2 k w s q D
  generalize liveN5 cs1 cs2 cs3 t1 s1 t2 s2 t3 s3 n1 n2 k w s q D = lv at *
  generalize hpN5 cs1 cs2 cs3 t1 s1 t2 s2 t3 s3 n1 n2 k w s q D = hp at *
  generalize baseN5 cs1 cs2 cs3 t1 s1 t2 s2 t3 s3 n1 n2 k w s q D = bs at *
  rw [← hk] at ho hst
  exact orders_sound2 (tmS := fun m => absT (tmL 273 (lv m))) (HS := fun m => heapL ((hp m).map (·.1))) (mF := 2047) sfN1 mix12 ho (by rw [hk]; decide) (by decide) hr hst ro
theorem fbN5 {cs1 cs2 cs3 : List Value} {t1 s1 t2 s2 t3 s3 n1 n2 k : Nat} {w s q D : Int} (f1 : cs1.all Ex.flat = true) (f2 : cs2.all Ex.flat = true) (f3 : cs3.all Ex.flat = true) : ∀ o, (o, true) ∈ baseN5 cs1 cs2 cs3 t1 s1 t2 s2 t3 s3 n1 n2 k w s q D → FlatO o := fun o ho =>
  flatN5 (cs1 := cs1) (cs2 := cs2) (cs3 := cs3) (t1 := t1) (s1 := s1) (t2 := t2) (s2 := s2) (t3 := t3) (s3 := s3) (n1 := n1) (n2 := n2) (k := k) (w := w) (s := s) (q := q) (D := D) f1 f2 f3 0 o (by unfold hpN5; exact List.mem_append_left _ (List.mem_append_left _ ho))
end Go.Proofs.YtbocpikgochioaaDoor.Ways
namespace Go.Proofs.YtbocpikgochioaaDoor.Ways
open Go Go.Ex
noncomputable def ON6 : Array Oper := regOps Tryd.f5 6
def statesN6 : List Nat := [0, 1, 3, 4, 5, 7, 8, 9, 11, 12, 13, 15, 24, 25, 27, 28, 29, 31, 63, 127, 255, 383, 511, 512, 513, 515, 516, 517, 519, 520, 521, 523, 524, 525, 527, 536, 537, 539, 540, 541, 543, 575, 639, 767, 895, 1023, 1791, 2047, 4095]
def ansN6 (j : Nat) : List Bool :=
  match j with
  | 1 => [true]
  | 5 => [true]
  | _ => []
noncomputable def liveN6 (cs1 cs2 cs3 : List Value) (_t1 _s1 _t2 _s2 _t3 _s3 n1 n2 k : Nat) (w s q D : Int) (m : Nat) : List (Nat × Value) := [(2, i D), (3, pt 7 0), (4, pt 8 0), (7, pt 12 0), (8, i (hNE cs1 cs2 cs3 n1 n2 k w s q D)), (9, pt 16 0), (10, i (hNE cs1 cs2 cs3 n1 n2 k w s q (wrapF .i64 (D + 1)))), (11, pt 20 0), (12, i (hNE cs1 cs2 cs3 n1 n2 k w s q D))] ++ bitV m 0 (79, blV n1 n1 n2 n2 (sl 6 0 (k + 1) (k + 1))) ++ bitV m 1 (80, cutV false 21 n1 n2 (k + 1)) ++ bitV m 2 (81, flV w s q) ++ bitV m 3 (82, i D) ++ bitV m 4 (83, i (wrapF .i64 (D + 1))) ++ bitV m 5 (84, (frV (mLoE cs1 cs2 cs3 n1 n2 k w s q (wrapF .i64 (D + 1))) (mHiE cs1 cs2 cs3 n1 n2 k w s q (wrapF .i64 (D + 1))) (hNE cs1 cs2 cs3 n1 n2 k w s q (wrapF .i64 (D + 1))))) ++ bitV m 6 (78, (frV (mLoE cs1 cs2 cs3 n1 n2 k w s q (wrapF .i64 (D + 1))) (mHiE cs1 cs2 cs3 n1 n2 k w s q (wrapF .i64 (D + 1))) (hNE cs1 cs2 cs3 n1 n2 k w s q (wrapF .i64 (D + 1))))) ++ bitV m 7 (85, ag [i (mLoE cs1 cs2 cs3 n1 n2 k w s q (wrapF .i64 (D + 1))), i (mHiE cs1 cs2 cs3 n1 n2 k w s q (wrapF .i64 (D + 1)))]) ++ bitV m 8 (86, i (hNE cs1 cs2 cs3 n1 n2 k w s q (wrapF .i64 (D + 1)))) ++ bitV m 9 (13, pt 24 0) ++ bitV m 11 (14, i (hNE cs1 cs2 cs3 n1 n2 k w s q (wrapF .i64 (D + 1))))
noncomputable def baseN6 (cs1 cs2 cs3 : List Value) (t1 s1 t2 s2 t3 s3 n1 n2 k : Nat) (w s q D : Int) : List (CO × Bool) := baseN n1 n2 k w s q cs1 t1 s1 cs2 t2 s2 cs3 t3 s3 ++ [(.dead, false), (.dead, false), (.dead, false), (.cells [i (tLoE cs1 cs2 cs3 n1 n2 k w s q D), i (tHiE cs1 cs2 cs3 n1 n2 k w s q D)] 61 1 true, false)] ++ [(.dead, false), (.dead, false), (.dead, false), (.cells [i (tLoE cs1 cs2 cs3 n1 n2 k w s q (wrapF .i64 (D + 1))), i (tHiE cs1 cs2 cs3 n1 n2 k w s q (wrapF .i64 (D + 1)))] 61 1 true, false)] ++ [(.dead, false), (.dead, false), (.dead, false), (.cells [i (mLoE cs1 cs2 cs3 n1 n2 k w s q D), i (mHiE cs1 cs2 cs3 n1 n2 k w s q D)] 61 1 true, false)]
noncomputable def hpN6 (cs1 cs2 cs3 : List Value) (t1 s1 t2 s2 t3 s3 n1 n2 k : Nat) (w s q D : Int) (m : Nat) : List (CO × Bool) := baseN n1 n2 k w s q cs1 t1 s1 cs2 t2 s2 cs3 t3 s3 ++ [(.dead, false), (.dead, false), (.dead, false), (.cells [i (tLoE cs1 cs2 cs3 n1 n2 k w s q D), i (tHiE cs1 cs2 cs3 n1 n2 k w s q D)] 61 1 true, false)] ++ [(.dead, false), (.dead, false), (.dead, false), (.cells [i (tLoE cs1 cs2 cs3 n1 n2 k w s q (wrapF .i64 (D + 1))), i (tHiE cs1 cs2 cs3 n1 n2 k w s q (wrapF .i64 (D + 1)))] 61 1 true, false)] ++ [(.dead, false), (.dead, false), (.dead, false), (.cells [i (mLoE cs1 cs2 cs3 n1 n2 k w s q D), i (mHiE cs1 cs2 cs3 n1 n2 k w s q D)] 61 1 true, false)] ++ [bitC m 1 (.cells cs1 3 1 false, true), bitC m 1 (.cells cs2 3 1 false, true), bitC m 1 (.cells cs3 103 4 false, true)] ++ [bitC m 9 (.cells (cond (Nat.testBit m 10) [i (mLoE cs1 cs2 cs3 n1 n2 k w s q (wrapF .i64 (D + 1))), i (mHiE cs1 cs2 cs3 n1 n2 k w s q (wrapF .i64 (D + 1)))] [i 0, i 0]) 61 1 true, false)]
def rhoN6 (j : Nat) : List Nat :=
  match j with
  | 1 => [0, 1, 2, 3, 4, 5, 6, 7, 8, 9, 10, 11, 12, 13, 14, 15, 16, 17, 18, 19, 20, 25, 26, 27, 24]
  | 9 => [0, 1, 2, 3, 4, 5, 6, 7, 8, 9, 10, 11, 12, 13, 14, 15, 16, 17, 18, 19, 20, 21, 22, 23, 25]
  | _ => List.range 25
def lenN6 (j : Nat) : Nat :=
  match j with
  | 1 => 28
  | 9 => 26
  | _ => 25
noncomputable def cndN6 (cs1 cs2 cs3 : List Value) (_t1 _s1 _t2 _s2 _t3 _s3 n1 n2 k : Nat) (w s q D : Int) (j : Nat) : List Bool :=
  match j with
  | 1 => [tru (okCp (argA n1 n2 (k + 1)) cs1 cs2 cs3)]
  | 5 => [tru (okFc (AN n1 n2 k w s q (wrapF .i64 (D + 1))) (cpS cs1 cs2 cs3 (k + 1)))]
  | _ => []
theorem fixN6 (cs1 cs2 cs3 : List Value) (t1 s1 t2 s2 t3 s3 n1 n2 k : Nat) (w s q D : Int) : (trsN ON6 statesN6).map (outW (tabW CN1) Tryd.prog 7 CN1 Fn.law03_RotorNested ON6 273 (liveN6 cs1 cs2 cs3 t1 s1 t2 s2 t3 s3 n1 n2 k w s q D) (hpN6 cs1 cs2 cs3 t1 s1 t2 s2 t3 s3 n1 n2 k w s q D)) = (trsN ON6 statesN6).map fun t => (outW (tabW CN1) Tryd.prog 7 CN1 Fn.law03_RotorNested ON6 273 (liveN6 cs1 cs2 cs3 t1 s1 t2 s2 t3 s3 n1 n2 k w s q D) (hpN6 cs1 cs2 cs3 t1 s1 t2 s2 t3 s3 n1 n2 k w s q D) t).fix := by kernel_rfl
theorem obsN6 (cs1 cs2 cs3 : List Value) (t1 s1 t2 s2 t3 s3 n1 n2 k : Nat) (w s q D : Int) : (trsN ON6 statesN6).map (obsW (tabW CN1) Tryd.prog 7 CN1 Fn.law03_RotorNested ON6 273 (liveN6 cs1 cs2 cs3 t1 s1 t2 s2 t3 s3 n1 n2 k w s q D) (hpN6 cs1 cs2 cs3 t1 s1 t2 s2 t3 s3 n1 n2 k w s q D) rhoN6 ansN6) = (trsN ON6 statesN6).map (expN 273 (liveN6 cs1 cs2 cs3 t1 s1 t2 s2 t3 s3 n1 n2 k w s q D) (hpN6 cs1 cs2 cs3 t1 s1 t2 s2 t3 s3 n1 n2 k w s q D) rhoN6 (cndN6 cs1 cs2 cs3 t1 s1 t2 s2 t3 s3 n1 n2 k w s q D) lenN6) := by kernel_rfl
theorem goodN6 (cs1 cs2 cs3 : List Value) (t1 s1 t2 s2 t3 s3 n1 n2 k : Nat) (w s q D : Int) : ((trsN ON6 statesN6).all fun t => goodR 21 (lenN6 t.2) (liveN6 cs1 cs2 cs3 t1 s1 t2 s2 t3 s3 n1 n2 k w s q D (t.1 ||| 2 ^ t.2)) (hpN6 cs1 cs2 cs3 t1 s1 t2 s2 t3 s3 n1 n2 k w s q D (t.1 ||| 2 ^ t.2)) (rhoN6 t.2)) = true := by kernel_rfl
theorem closedN6 : closedN ON6 statesN6 4095 = true := by kernel_rfl
theorem flatN6 {cs1 cs2 cs3 : List Value} {t1 s1 t2 s2 t3 s3 n1 n2 k : Nat} {w s q D : Int} (f1 : cs1.all Ex.flat = true) (f2 : cs2.all Ex.flat = true) (f3 : cs3.all Ex.flat = true) : ∀ m o, (o, true) ∈ hpN6 cs1 cs2 cs3 t1 s1 t2 s2 t3 s3 n1 n2 k w s q D m → FlatO o := by
  intro m o ho
  unfold hpN6 baseN bitC at ho
  simp only [cond, List.cons_append, List.nil_append, List.mem_cons, List.not_mem_nil, or_false, Prod.mk.injEq, Bool.true_eq_false, and_false, false_or] at ho
  rcases ho with ⟨rfl, _⟩ | ⟨rfl, _⟩ | ⟨rfl, _⟩ | ⟨rfl, _⟩ | ⟨rfl, _⟩ | ⟨rfl, _⟩ | ⟨rfl, _⟩ | ho | ho | ho | ho
  · exact flatO_of flatP
  · exact flatO_of flat10
  · exact flatO_of flat32
  · exact flatO_of flat64
  · exact flatO_of f1
  · exact flatO_of f2
  · exact flatO_of f3
  all_goals
    split at ho <;> first
      | (cases ho; done)
      | (injection ho with h4 h5; subst h4; exact flatO_of (by assumption))
theorem cndN6_ok {cs1 cs2 cs3 : List Value} {t1 s1 t2 s2 t3 s3 n1 n2 k : Nat} {w s q D : Int} (h1 : okCp (argA n1 n2 (k + 1)) cs1 cs2 cs3) (h2 : okFc (AN n1 n2 k w s q (wrapF .i64 (D + 1))) (cpS cs1 cs2 cs3 (k + 1))) : ∀ j, cndN6 cs1 cs2 cs3 t1 s1 t2 s2 t3 s3 n1 n2 k w s q D j = (ansN6 j).take (cndN6 cs1 cs2 cs3 t1 s1 t2 s2 t3 s3 n1 n2 k w s q D j).length := by
  intro j
  unfold cndN6 ansN6
  split
  · rw [tru_iff.2 h1]; rfl
  · rw [tru_iff.2 h2]; rfl
  · rfl
theorem padN6 (cs1 cs2 cs3 : List Value) (t1 s1 t2 s2 t3 s3 n1 n2 k : Nat) (w s q D : Int) : heapL ((hpN6 cs1 cs2 cs3 t1 s1 t2 s2 t3 s3 n1 n2 k w s q D 0).map (·.1)) = heapL ((baseN6 cs1 cs2 cs3 t1 s1 t2 s2 t3 s3 n1 n2 k w s q D).map (·.1) ++ List.replicate 4 .dead) := by kernel_rfl
theorem ordN6 {cs1 cs2 cs3 : List Value} {t1 s1 t2 s2 t3 s3 n1 n2 k : Nat} {w s q D : Int} (f1 : cs1.all Ex.flat = true) (f2 : cs2.all Ex.flat = true) (f3 : cs3.all Ex.flat = true) (h1 : okCp (argA n1 n2 (k + 1)) cs1 cs2 cs3) (h2 : okFc (AN n1 n2 k w s q (wrapF .i64 (D + 1))) (cpS cs1 cs2 cs3 (k + 1))) : Orders (selfA (qS (tabW CN1))) Tryd.prog 7 ON6 21 (fun m => m ∈ statesN6) (fun m => absT (tmL 273 (liveN6 cs1 cs2 cs3 t1 s1 t2 s2 t3 s3 n1 n2 k w s q D m))) (fun m => heapL ((hpN6 cs1 cs2 cs3 t1 s1 t2 s2 t3 s3 n1 n2 k w s q D m).map (·.1))) 4095 :=
  orders_ofW statesN6 (fixN6 cs1 cs2 cs3 t1 s1 t2 s2 t3 s3 n1 n2 k w s q D) (obsN6 cs1 cs2 cs3 t1 s1 t2 s2 t3 s3 n1 n2 k w s q D) (cndN6_ok h1 h2) (goodN6 cs1 cs2 cs3 t1 s1 t2 s2 t3 s3 n1 n2 k w s q D) closedN6 (flatN6 f1 f2 f3)
theorem sndN6 {cs1 cs2 cs3 : List Value} {t1 s1 t2 s2 t3 s3 n1 n2 k : Nat} {w s q D : Int} (f1 : cs1.all Ex.flat = true) (f2 : cs2.all Ex.flat = true) (f3 : cs3.all Ex.flat = true) (h1 : okCp (argA n1 n2 (k + 1)) cs1 cs2 cs3) (h2 : okFc (AN n1 n2 k w s q (wrapF .i64 (D + 1))) (cpS cs1 cs2 cs3 (k + 1))) (ro : Option Nat) {tm0 : Array Value} {H0 : CH} (hk : H0.length = 21) (hst : Restate 21 tm0 H0 (absT (tmL 273 (liveN6 cs1 cs2 cs3 t1 s1 t2 s2 t3 s3 n1 n2 k w s q D 0))) (heapL ((baseN6 cs1 cs2 cs3 t1 s1 t2 s2 t3 s3 n1 n2 k w s q D).map (·.1)))) :
    Sound Tryd.prog 7 (.code (.region 6 ON6 true) ro tm0 H0 []) (.ex .normal (absT (tmL 273 (liveN6 cs1 cs2 cs3 t1 s1 t2 s2 t3 s3 n1 n2 k w s q D 4095))) (heapL ((hpN6 cs1 cs2 cs3 t1 s1 t2 s2 t3 s3 n1 n2 k w s q D 4095).map (·.1))) []) := by
  have ho := ordN6 (cs1 := cs1) (cs2 := cs2) (cs3 := cs3) (t1 := t1) (s1 := s1) (t2 := t2) (s2 := s2) (t3 := t3) (s3 := s3) (n1 := n1) (n2 := n2) (k := k) (w := w) (s := s) (q := q) (D := D) f1 f2 f3 h1 h2
  have hr := padN6 cs1 cs2 cs3 t1 s1 t2 s2 t3 s3 n1 n2 k w s q D
  generalize liveN6 cs1 cs2 cs3 t1 s1 t2 s2 t3 s3 n1 n2 k w s q D = lv at *
  generalize hpN6 cs1 cs2 cs3 t1 s1 t2 s2 t3 s3 n1 n2 k w s q D = hp at *
  generalize baseN6 cs1 cs2 cs3 t1 s1 t2 s2 t3 s3 n1 n2 k w s q D = bs at *
  rw [← hk] at ho hst
  exact orders_sound2 (tmS := fun m => absT (tmL 273 (lv m))) (HS := fun m => heapL ((hp m).map (·.1))) (mF := 4095) sfN1 mix12 ho (by rw [hk]; decide) (by decide) hr hst ro
theorem fbN6 {cs1 cs2 cs3 : List Value} {t1 s1 t2 s2 t3 s3 n1 n2 k : Nat} {w s q D : Int} (f1 : cs1.all Ex.flat = true) (f2 : cs2.all Ex.flat = true) (f3 : cs3.all Ex.flat = true) : ∀ o, (o, true) ∈ baseN6 cs1 cs2 cs3 t1 s1 t2 s2 t3 s3 n1 n2 k w s q D → FlatO o := fun o ho =>
  flatN6 (cs1 := cs1) (cs2 := cs2) (cs3 := cs3) (t1 := t1) (s1 := s1) (t2 := t2) (s2 := s2) (t3 := t3) (s3 := s3) (n1 := n1) (n2 := n2) (k := k) (w := w) (s := s) (q := q) (D := D) f1 f2 f3 0 o (by unfold hpN6; exact List.mem_append_left _ (List.mem_append_left _ ho))
end Go.Proofs.YtbocpikgochioaaDoor.Ways
namespace Go.Proofs.YtbocpikgochioaaDoor.Ways
open Go Go.Ex
section
variable (cs1 cs2 cs3 : List Value) (t1 s1 t2 s2 t3 s3 n1 n2 k : Nat) (w s q D : Int)
noncomputable def LN3 : LTab := regE noL Fn.law03_RotorNested 3 273 9 ON3 (liveN3 cs1 cs2 cs3 t1 s1 t2 s2 t3 s3 n1 n2 k w s q D 0) (baseN3 cs1 cs2 cs3 t1 s1 t2 s2 t3 s3 n1 n2 k w s q D) (.leaf (.ex .normal (tmL 273 (liveN3 cs1 cs2 cs3 t1 s1 t2 s2 t3 s3 n1 n2 k w s q D 2047)) (heapL ((hpN3 cs1 cs2 cs3 t1 s1 t2 s2 t3 s3 n1 n2 k w s q D 2047).map (·.1))) []))
noncomputable def LN4 : LTab := regE (LN3 cs1 cs2 cs3 t1 s1 t2 s2 t3 s3 n1 n2 k w s q D) Fn.law03_RotorNested 4 273 13 ON4 (liveN4 cs1 cs2 cs3 t1 s1 t2 s2 t3 s3 n1 n2 k w s q D 0) (baseN4 cs1 cs2 cs3 t1 s1 t2 s2 t3 s3 n1 n2 k w s q D) (.leaf (.ex .normal (tmL 273 (liveN4 cs1 cs2 cs3 t1 s1 t2 s2 t3 s3 n1 n2 k w s q D 4095)) (heapL ((hpN4 cs1 cs2 cs3 t1 s1 t2 s2 t3 s3 n1 n2 k w s q D 4095).map (·.1))) []))
noncomputable def LN5 : LTab := regE (LN4 cs1 cs2 cs3 t1 s1 t2 s2 t3 s3 n1 n2 k w s q D) Fn.law03_RotorNested 5 273 17 ON5 (liveN5 cs1 cs2 cs3 t1 s1 t2 s2 t3 s3 n1 n2 k w s q D 0) (baseN5 cs1 cs2 cs3 t1 s1 t2 s2 t3 s3 n1 n2 k w s q D) (.leaf (.ex .normal (tmL 273 (liveN5 cs1 cs2 cs3 t1 s1 t2 s2 t3 s3 n1 n2 k w s q D 2047)) (heapL ((hpN5 cs1 cs2 cs3 t1 s1 t2 s2 t3 s3 n1 n2 k w s q D 2047).map (·.1))) []))
noncomputable def LN6 : LTab := regE (LN5 cs1 cs2 cs3 t1 s1 t2 s2 t3 s3 n1 n2 k w s q D) Fn.law03_RotorNested 6 273 21 ON6 (liveN6 cs1 cs2 cs3 t1 s1 t2 s2 t3 s3 n1 n2 k w s q D 0) (baseN6 cs1 cs2 cs3 t1 s1 t2 s2 t3 s3 n1 n2 k w s q D) (.leaf (.ex .normal (tmL 273 (liveN6 cs1 cs2 cs3 t1 s1 t2 s2 t3 s3 n1 n2 k w s q D 4095)) (heapL ((hpN6 cs1 cs2 cs3 t1 s1 t2 s2 t3 s3 n1 n2 k w s q D 4095).map (·.1))) []))
end
theorem gN3 (cs1 cs2 cs3 : List Value) (t1 s1 t2 s2 t3 s3 n1 n2 k : Nat) (w s q D : Int) : goodR 9 9 (liveN3 cs1 cs2 cs3 t1 s1 t2 s2 t3 s3 n1 n2 k w s q D 0) (baseN3 cs1 cs2 cs3 t1 s1 t2 s2 t3 s3 n1 n2 k w s q D) (List.range 9) = true := by kernel_rfl
theorem gN4 (cs1 cs2 cs3 : List Value) (t1 s1 t2 s2 t3 s3 n1 n2 k : Nat) (w s q D : Int) : goodR 13 13 (liveN4 cs1 cs2 cs3 t1 s1 t2 s2 t3 s3 n1 n2 k w s q D 0) (baseN4 cs1 cs2 cs3 t1 s1 t2 s2 t3 s3 n1 n2 k w s q D) (List.range 13) = true := by kernel_rfl
theorem gN5 (cs1 cs2 cs3 : List Value) (t1 s1 t2 s2 t3 s3 n1 n2 k : Nat) (w s q D : Int) : goodR 17 17 (liveN5 cs1 cs2 cs3 t1 s1 t2 s2 t3 s3 n1 n2 k w s q D 0) (baseN5 cs1 cs2 cs3 t1 s1 t2 s2 t3 s3 n1 n2 k w s q D) (List.range 17) = true := by kernel_rfl
theorem gN6 (cs1 cs2 cs3 : List Value) (t1 s1 t2 s2 t3 s3 n1 n2 k : Nat) (w s q D : Int) : goodR 21 21 (liveN6 cs1 cs2 cs3 t1 s1 t2 s2 t3 s3 n1 n2 k w s q D 0) (baseN6 cs1 cs2 cs3 t1 s1 t2 s2 t3 s3 n1 n2 k w s q D) (List.range 21) = true := by kernel_rfl
theorem lsN6 {cs1 cs2 cs3 : List Value} {t1 s1 t2 s2 t3 s3 n1 n2 k : Nat} {w s q D : Int} (f1 : cs1.all Ex.flat = true) (f2 : cs2.all Ex.flat = true) (f3 : cs3.all Ex.flat = true) (h1 : okCp (argA n1 n2 (k + 1)) cs1 cs2 cs3) (h2 : okFc (AN n1 n2 k w s q D) (cpS cs1 cs2 cs3 (k + 1))) (h3 : okFc (AN n1 n2 k w s q (wrapF .i64 (D + 1))) (cpS cs1 cs2 cs3 (k + 1))) : LSound Tryd.prog 7 (LN6 cs1 cs2 cs3 t1 s1 t2 s2 t3 s3 n1 n2 k w s q D) := by
  have a3 : LSound Tryd.prog 7 (LN3 cs1 cs2 cs3 t1 s1 t2 s2 t3 s3 n1 n2 k w s q D) := by
    refine LSound.region .none (gN3 cs1 cs2 cs3 t1 s1 t2 s2 t3 s3 n1 n2 k w s q D) (fbN3 f1 f2 f3) fun r hr ro tm0 H0 hk hst => ?_
    cases hr
    exact sndN3 f1 f2 f3 h1 h2 ro hk hst
  have a4 : LSound Tryd.prog 7 (LN4 cs1 cs2 cs3 t1 s1 t2 s2 t3 s3 n1 n2 k w s q D) := by
    refine LSound.region a3 (gN4 cs1 cs2 cs3 t1 s1 t2 s2 t3 s3 n1 n2 k w s q D) (fbN4 f1 f2 f3) fun r hr ro tm0 H0 hk hst => ?_
    cases hr
    exact sndN4 f1 f2 f3 h1 h3 ro hk hst
  have a5 : LSound Tryd.prog 7 (LN5 cs1 cs2 cs3 t1 s1 t2 s2 t3 s3 n1 n2 k w s q D) := by
    refine LSound.region a4 (gN5 cs1 cs2 cs3 t1 s1 t2 s2 t3 s3 n1 n2 k w s q D) (fbN5 f1 f2 f3) fun r hr ro tm0 H0 hk hst => ?_
    cases hr
    exact sndN5 f1 f2 f3 h1 h2 ro hk hst
  have a6 : LSound Tryd.prog 7 (LN6 cs1 cs2 cs3 t1 s1 t2 s2 t3 s3 n1 n2 k w s q D) := by
    refine LSound.region a5 (gN6 cs1 cs2 cs3 t1 s1 t2 s2 t3 s3 n1 n2 k w s q D) (fbN6 f1 f2 f3) fun r hr ro tm0 H0 hk hst => ?_
    cases hr
    exact sndN6 f1 f2 f3 h1 h3 ro hk hst
  exact a6
end Go.Proofs.YtbocpikgochioaaDoor.Ways
namespace Go.Proofs.YtbocpikgochioaaDoor.Ways
open Go Go.Ex
/-! ### light -/
def syNl : Nat → Nat → Bool := on_ [(Fn.ref03_Light, 16)]
noncomputable def spLi : Nat → Nat → Split := at_ [(Fn.law03_light, 6), (Fn.law03_light, 10), (Fn.law03_light, 14)] .bool no_
noncomputable def CLi : Cfg := ⟨TG1, spLi, syNl, noL⟩
noncomputable def CLg : Cfg := ⟨TG1, at_ [(Fn.law03_light, 9)] (.ints []) spLi, syNl, noL⟩
def lgE (w s r0 : Int) : Bool := leF (wrapF .i64 ((wrapF .i64 (1024 * w)).tdiv (wrapF .i64 (s * r0)))) 4096
def lightE (a : ArA) (css : List (List Value)) : Bool := shE a.b.n1 a.b.n2 a.b.n && (!eqF (errB a.b css) 0 || (!eqF (flowE a.w a.s a.q) 0 || lgE a.w a.s (rhoC css 0)))
def rdLi : List Value → Option (List Nat × ArA)
  | [v, .agg ⟨[.int .i64 w, .int .i64 s, .int .i64 q]⟩] => match rdB v with
    | some y => some (y.1, ⟨y.2, w, s, q, 0, 0, 0⟩)
    | none => none
  | _ => none
def ArA.valsL (a : ArA) : List Value := [a.b.val, flV a.w a.s a.q]
theorem rdLi_ok : ∀ args bs a, rdLi args = some (bs, a) → a.valsL.all (renOk (List.range gl ++ bs) 8) = true ∧ args = a.valsL.map (ren (List.range gl ++ bs) 8) := by
  intro args bs a h
  unfold rdLi at h
  split at h
  · split at h
    · rename_i x hx
      cases h
      obtain ⟨h1, h2⟩ := rdB_ok hx
      refine ⟨?_, by rw [h2]; rfl⟩
      show (renOk _ 8 x.2.val && _) = true
      rw [h1]; rfl
    · cases h
  · cases h
def okLi (a : ArA) (css : List (List Value)) : Prop := a.b.nil = false ∧ (a.b.c1 = a.b.n1 ∧ a.b.c2 = a.b.n2 ∧ a.b.c = a.b.n) ∧ fl3 css ∧ (shE a.b.n1 a.b.n2 a.b.n = true → okB3 a.b css)
noncomputable def ligT (cs1 cs2 cs3 : List Value) (n1 n2 n : Nat) (w s q : Int) (g : VT) : VT :=
  askB (tru ((argA n1 n2 n).nil = false ∧ fl3 [cs1, cs2, cs3])) (.br (shE n1 n2 n) (askB (tru (okB3 (argA n1 n2 n) [cs1, cs2, cs3])) (.br (!eqF (errB (argA n1 n2 n) [cs1, cs2, cs3]) 0) (lf true) (.br (!eqF (flowE w s q) 0) (lf true) g))) (lf false))
noncomputable def ligG (s w r0 : Int) : VT := .br (!eqF (wrapF .i64 (s * r0)) 0) (.leaf (b_ (lgE w s r0))) .fail
section
variable {cs1 cs2 cs3 : List Value} {t1 s1 t2 s2 t3 s3 n1 n2 n : Nat} {e1 e2 e3 : Bool} {w s q : Int} {ρ : Nat → Int}
theorem light_sel {g : VT} (h : fl3 [cs1, cs2, cs3]) (hs : shE n1 n2 n = true) (hB : okB3 (argA n1 n2 n) [cs1, cs2, cs3]) (hg : errB (argA n1 n2 n) [cs1, cs2, cs3] = 0 → flowE w s q = 0 → g.sel = some (b_ (lgE w s (rhoE cs3 0)))) :
    (ligT cs1 cs2 cs3 n1 n2 n w s q g).sel = some (b_ (lightE ⟨argA n1 n2 n, w, s, q, 0, 0, 0⟩ [cs1, cs2, cs3])) := by
  have hE : lightE ⟨argA n1 n2 n, w, s, q, 0, 0, 0⟩ [cs1, cs2, cs3] = (shE n1 n2 n && (!eqF (errB (argA n1 n2 n) [cs1, cs2, cs3]) 0 || (!eqF (flowE w s q) 0 || lgE w s (rhoE cs3 0)))) := rfl
  rw [hE]
  unfold ligT
  rw [askB_sel (tru_iff.2 ⟨rfl, h⟩), brB, if_pos hs, askB_sel (tru_iff.2 hB), hs, eqF_d, eqF_d, brN, brN]
  by_cases h1 : errB (argA n1 n2 n) [cs1, cs2, cs3] = 0
  · rw [if_pos h1]
    by_cases h2 : flowE w s q = 0
    · rw [if_pos h2, hg h1 h2]; simp [h1, h2]
    · rw [if_neg h2]; simp [h2, lf, VT.sel]
  · rw [if_neg h1]; simp [h1, lf, VT.sel]
theorem light_no (h : fl3 [cs1, cs2, cs3]) (hs : shE n1 n2 n = false) {x : VT} :
    (askB (tru ((argA n1 n2 n).nil = false ∧ fl3 [cs1, cs2, cs3])) (.br (shE n1 n2 n) x (lf false))).sel = some (b_ (lightE ⟨argA n1 n2 n, w, s, q, 0, 0, 0⟩ [cs1, cs2, cs3])) := by
  have hE : lightE ⟨argA n1 n2 n, w, s, q, 0, 0, 0⟩ [cs1, cs2, cs3] = (shE n1 n2 n && (!eqF (errB (argA n1 n2 n) [cs1, cs2, cs3]) 0 || (!eqF (flowE w s q) 0 || lgE w s (rhoE cs3 0)))) := rfl
  rw [hE, askB_sel (tru_iff.2 ⟨rfl, h⟩), brB, hs]
  rfl
theorem ligG_sel (hb : errB (argA n1 n2 n) [cs1, cs2, cs3] = 0) (hf : flowE w s q = 0) : (ligG s w (rhoE cs3 0)).sel = some (b_ (lgE w s (rhoE cs3 0))) := by
  have hR := rv_of (j := 0) (show bladeE cs1 n1 cs2 n2 (rhoE cs3) n = 0 from hb) hf (by have := (blade_z (show bladeE cs1 n1 cs2 n2 (rhoE cs3) n = 0 from hb)).2.1; omega)
  have hr := hR.r
  have hs := hR.s
  rw [show 4 * 0 = 0 from rfl] at hr
  have m := mul_bd (a := s) (b := rhoE cs3 0) (A := 1000) (B := 200) (by omega) (by omega)
  have m2 : 0 < s * rhoE cs3 0 := Int.mul_pos (by omega) (by omega)
  unfold ligG
  rw [wrapF_in (n := s * rhoE cs3 0) (by omega) (by omega), eqF_d, brN, if_neg (by omega)]
  rfl
theorem lig0 (cs1 cs2 : List Value) (ρ : Nat → Int) (t1 s1 t2 s2 t3 s3 n1 n2 : Nat) (e1 e2 e3 : Bool) (w s q : Int) : (execO Tryd.prog 7 CLi 80 (.call Fn.law03_light ⟨[blV n1 n1 n2 n2 (sl 6 0 0 0), flV w s q]⟩ (hpB cs1 t1 s1 e1 cs2 t2 s2 e2 (ringC ρ 0) t3 s3 e3))).vals = ligT cs1 cs2 (ringC ρ 0) n1 n2 0 w s q .fail := by kernel_rfl
theorem lig1 (cs1 cs2 : List Value) (ρ : Nat → Int) (t1 s1 t2 s2 t3 s3 n1 n2 : Nat) (e1 e2 e3 : Bool) (w s q : Int) : (execO Tryd.prog 7 CLi 80 (.call Fn.law03_light ⟨[blV n1 n1 n2 n2 (sl 6 0 1 1), flV w s q]⟩ (hpB cs1 t1 s1 e1 cs2 t2 s2 e2 (ringC ρ 1) t3 s3 e3))).vals = ligT cs1 cs2 (ringC ρ 1) n1 n2 1 w s q (ligG s w (rhoE (ringC ρ 1) 0)) := by kernel_rfl
theorem lig2 (cs1 cs2 : List Value) (ρ : Nat → Int) (t1 s1 t2 s2 t3 s3 n1 n2 : Nat) (e1 e2 e3 : Bool) (w s q : Int) : (execO Tryd.prog 7 CLi 80 (.call Fn.law03_light ⟨[blV n1 n1 n2 n2 (sl 6 0 2 2), flV w s q]⟩ (hpB cs1 t1 s1 e1 cs2 t2 s2 e2 (ringC ρ 2) t3 s3 e3))).vals = ligT cs1 cs2 (ringC ρ 2) n1 n2 2 w s q (ligG s w (rhoE (ringC ρ 2) 0)) := by kernel_rfl
theorem lig3 (cs1 cs2 : List Value) (ρ : Nat → Int) (t1 s1 t2 s2 t3 s3 n1 n2 : Nat) (e1 e2 e3 : Bool) (w s q : Int) : (execO Tryd.prog 7 CLi 80 (.call Fn.law03_light ⟨[blV n1 n1 n2 n2 (sl 6 0 3 3), flV w s q]⟩ (hpB cs1 t1 s1 e1 cs2 t2 s2 e2 (ringC ρ 3) t3 s3 e3))).vals = ligT cs1 cs2 (ringC ρ 3) n1 n2 3 w s q (ligG s w (rhoE (ringC ρ 3) 0)) := by kernel_rfl
theorem lig17 (cs1 cs2 : List Value) (ρ : Nat → Int) (t1 s1 t2 s2 t3 s3 n1 n2 : Nat) (e1 e2 e3 : Bool) (w s q : Int) : (execO Tryd.prog 7 CLi 80 (.call Fn.law03_light ⟨[blV n1 n1 n2 n2 (sl 6 0 17 17), flV w s q]⟩ (hpB cs1 t1 s1 e1 cs2 t2 s2 e2 (ringC ρ 17) t3 s3 e3))).vals = ligT cs1 cs2 (ringC ρ 17) n1 n2 17 w s q (ligG s w (rhoE (ringC ρ 17) 0)) := by kernel_rfl
theorem ligg (cs1 cs2 cs3 : List Value) (t1 s1 t2 s2 t3 s3 n1 n2 n : Nat) (e1 e2 e3 : Bool) (w s q : Int) : (execO Tryd.prog 7 CLg 80 (.call Fn.law03_light ⟨[blV n1 n1 n2 n2 (sl 6 0 n n), flV w s q]⟩ (hpB cs1 t1 s1 e1 cs2 t2 s2 e2 cs3 t3 s3 e3))).vals = askB (tru ((argA n1 n2 n).nil = false ∧ fl3 [cs1, cs2, cs3])) (.br (shE n1 n2 n) (askB (tru (okB3 (argA n1 n2 n) [cs1, cs2, cs3])) .fail) (lf false)) := by kernel_rfl
theorem ligf0 (cs1 cs2 : List Value) (ρ : Nat → Int) (t1 s1 t2 s2 t3 s3 n1 n2 : Nat) (e1 e2 e3 : Bool) (w s q : Int) : execO Tryd.prog 7 CLi 80 (.call Fn.law03_light ⟨[blV n1 n1 n2 n2 (sl 6 0 0 0), flV w s q]⟩ (hpB cs1 t1 s1 e1 cs2 t2 s2 e2 (ringC ρ 0) t3 s3 e3)) = (execO Tryd.prog 7 CLi 80 (.call Fn.law03_light ⟨[blV n1 n1 n2 n2 (sl 6 0 0 0), flV w s q]⟩ (hpB cs1 t1 s1 e1 cs2 t2 s2 e2 (ringC ρ 0) t3 s3 e3))).fix := by kernel_rfl
theorem ligf1 (cs1 cs2 : List Value) (ρ : Nat → Int) (t1 s1 t2 s2 t3 s3 n1 n2 : Nat) (e1 e2 e3 : Bool) (w s q : Int) : execO Tryd.prog 7 CLi 80 (.call Fn.law03_light ⟨[blV n1 n1 n2 n2 (sl 6 0 1 1), flV w s q]⟩ (hpB cs1 t1 s1 e1 cs2 t2 s2 e2 (ringC ρ 1) t3 s3 e3)) = (execO Tryd.prog 7 CLi 80 (.call Fn.law03_light ⟨[blV n1 n1 n2 n2 (sl 6 0 1 1), flV w s q]⟩ (hpB cs1 t1 s1 e1 cs2 t2 s2 e2 (ringC ρ 1) t3 s3 e3))).fix := by kernel_rfl
theorem ligf2 (cs1 cs2 : List Value) (ρ : Nat → Int) (t1 s1 t2 s2 t3 s3 n1 n2 : Nat) (e1 e2 e3 : Bool) (w s q : Int) : execO Tryd.prog 7 CLi 80 (.call Fn.law03_light ⟨[blV n1 n1 n2 n2 (sl 6 0 2 2), flV w s q]⟩ (hpB cs1 t1 s1 e1 cs2 t2 s2 e2 (ringC ρ 2) t3 s3 e3)) = (execO Tryd.prog 7 CLi 80 (.call Fn.law03_light ⟨[blV n1 n1 n2 n2 (sl 6 0 2 2), flV w s q]⟩ (hpB cs1 t1 s1 e1 cs2 t2 s2 e2 (ringC ρ 2) t3 s3 e3))).fix := by kernel_rfl
theorem ligf3 (cs1 cs2 : List Value) (ρ : Nat → Int) (t1 s1 t2 s2 t3 s3 n1 n2 : Nat) (e1 e2 e3 : Bool) (w s q : Int) : execO Tryd.prog 7 CLi 80 (.call Fn.law03_light ⟨[blV n1 n1 n2 n2 (sl 6 0 3 3), flV w s q]⟩ (hpB cs1 t1 s1 e1 cs2 t2 s2 e2 (ringC ρ 3) t3 s3 e3)) = (execO Tryd.prog 7 CLi 80 (.call Fn.law03_light ⟨[blV n1 n1 n2 n2 (sl 6 0 3 3), flV w s q]⟩ (hpB cs1 t1 s1 e1 cs2 t2 s2 e2 (ringC ρ 3) t3 s3 e3))).fix := by kernel_rfl
theorem ligf17 (cs1 cs2 : List Value) (ρ : Nat → Int) (t1 s1 t2 s2 t3 s3 n1 n2 : Nat) (e1 e2 e3 : Bool) (w s q : Int) : execO Tryd.prog 7 CLi 80 (.call Fn.law03_light ⟨[blV n1 n1 n2 n2 (sl 6 0 17 17), flV w s q]⟩ (hpB cs1 t1 s1 e1 cs2 t2 s2 e2 (ringC ρ 17) t3 s3 e3)) = (execO Tryd.prog 7 CLi 80 (.call Fn.law03_light ⟨[blV n1 n1 n2 n2 (sl 6 0 17 17), flV w s q]⟩ (hpB cs1 t1 s1 e1 cs2 t2 s2 e2 (ringC ρ 17) t3 s3 e3))).fix := by kernel_rfl
theorem ligfg (cs1 cs2 cs3 : List Value) (t1 s1 t2 s2 t3 s3 n1 n2 n : Nat) (e1 e2 e3 : Bool) (w s q : Int) : execO Tryd.prog 7 CLg 80 (.call Fn.law03_light ⟨[blV n1 n1 n2 n2 (sl 6 0 n n), flV w s q]⟩ (hpB cs1 t1 s1 e1 cs2 t2 s2 e2 cs3 t3 s3 e3)) = (execO Tryd.prog 7 CLg 80 (.call Fn.law03_light ⟨[blV n1 n1 n2 n2 (sl 6 0 n n), flV w s q]⟩ (hpB cs1 t1 s1 e1 cs2 t2 s2 e2 cs3 t3 s3 e3))).fix := by kernel_rfl
end
theorem f24_light : ∀ a css os, okLi a css → Blks css os → ∃ H', Sound Tryd.prog (gl + css.length) (.call Fn.law03_light ⟨a.valsL⟩ (heapL (deads ++ os))) (.val (b_ (lightE a css)) H') := by
  intro a css os h hb
  obtain ⟨⟨n1, c1, n2, c2, n, c, nl⟩, w, s, q, ring, x, d⟩ := a
  obtain ⟨g1, ⟨g2, g3, g4⟩, h, hs⟩ := h
  dsimp only at g1 g2 g3 g4 hs
  subst g1 g2 g3 g4
  have hf := h
  unfold fl3 at h
  split at h
  case h_2 => cases h
  rename_i cs1 cs2 cs3
  obtain ⟨t1, s1, e1, t2, s2, e2, t3, s3, e3, rfl⟩ := blks3 hb
  cases hsh : shE c1 c2 c with
  | false => exact one_tree (C := CLg) (n := 80) _ tsG1 .none (ligfg cs1 cs2 cs3 t1 s1 t2 s2 t3 s3 c1 c2 c e1 e2 e3 w s q) (ligg cs1 cs2 cs3 t1 s1 t2 s2 t3 s3 c1 c2 c e1 e2 e3 w s q) (light_no hf hsh)
  | true =>
    have hB := hs hsh
    have hB' := hB
    obtain ⟨_, _, h5, _, h3⟩ := hB'
    have h3 : cs3 = ringC (rhoE cs3) c := h3
    have h5 : five c := h5
    rcases h5 with rfl | rfl | rfl | rfl | rfl
    · have := one_tree (C := CLi) (n := 80) _ tsG1 .none (ligf0 cs1 cs2 (rhoE cs3) t1 s1 t2 s2 t3 s3 c1 c2 e1 e2 e3 w s q) (lig0 cs1 cs2 (rhoE cs3) t1 s1 t2 s2 t3 s3 c1 c2 e1 e2 e3 w s q) (by rw [← h3]; exact light_sel hf hsh hB fun hb => absurd (blade_z (show bladeE cs1 c1 cs2 c2 (rhoE cs3) 0 = 0 from hb)).2.1 (by decide))
      rw [← h3] at this; exact this
    · have := one_tree (C := CLi) (n := 80) _ tsG1 .none (ligf1 cs1 cs2 (rhoE cs3) t1 s1 t2 s2 t3 s3 c1 c2 e1 e2 e3 w s q) (lig1 cs1 cs2 (rhoE cs3) t1 s1 t2 s2 t3 s3 c1 c2 e1 e2 e3 w s q) (by rw [← h3]; exact light_sel hf hsh hB fun hb hq => ligG_sel hb hq)
      rw [← h3] at this; exact this
    · have := one_tree (C := CLi) (n := 80) _ tsG1 .none (ligf2 cs1 cs2 (rhoE cs3) t1 s1 t2 s2 t3 s3 c1 c2 e1 e2 e3 w s q) (lig2 cs1 cs2 (rhoE cs3) t1 s1 t2 s2 t3 s3 c1 c2 e1 e2 e3 w s q) (by rw [← h3]; exact light_sel hf hsh hB fun hb hq => ligG_sel hb hq)
      rw [← h3] at this; exact this
    · have := one_tree (C := CLi) (n := 80) _ tsG1 .none (ligf3 cs1 cs2 (rhoE cs3) t1 s1 t2 s2 t3 s3 c1 c2 e1 e2 e3 w s q) (lig3 cs1 cs2 (rhoE cs3) t1 s1 t2 s2 t3 s3 c1 c2 e1 e2 e3 w s q) (by rw [← h3]; exact light_sel hf hsh hB fun hb hq => ligG_sel hb hq)
      rw [← h3] at this; exact this
    · have := one_tree (C := CLi) (n := 80) _ tsG1 .none (ligf17 cs1 cs2 (rhoE cs3) t1 s1 t2 s2 t3 s3 c1 c2 e1 e2 e3 w s q) (lig17 cs1 cs2 (rhoE cs3) t1 s1 t2 s2 t3 s3 c1 c2 e1 e2 e3 w s q) (by rw [← h3]; exact light_sel hf hsh hB fun hb hq => ligG_sel hb hq)
      rw [← h3] at this; exact this
theorem okLi_flat : ∀ a css, okLi a css → ∀ cs ∈ css, cs.all Ex.flat = true := by
  intro a css h cs hc
  have h := h.2.2.1
  unfold fl3 at h
  split at h
  · simp at hc
    rcases hc with rfl | rfl | rfl
    · exact h.1
    · exact h.2.1
    · exact h.2.2
  · cases h
noncomputable def TG2 : Tb := ext TG1 Fn.law03_light (rdE rdLi okLi (fun a css => b_ (lightE a css)) [] (heapL deads))
theorem tsG2 {G : Nat} : TSound Tryd.prog G TG2 :=
  tsG1.ext (rd_ok ArA.valsL deads_len deads_flat deads_mem rdLi_ok okLi_flat (fun _ _ _ => rfl) f24_light)
end Go.Proofs.YtbocpikgochioaaDoor.Ways
namespace Go.Proofs.YtbocpikgochioaaDoor.Ways
open Go Go.Ex
/-- twice the chord, half of the tip -/
def othF (ρ : Nat → Int) (k : Nat) : Int :=
  match k % 4 with
  | 1 => wrapF .i64 (2 * ρ k)
  | 3 => IntKind.i64.wrap ((ρ k).tdiv 2)
  | _ => ρ k
def AK (n1 n2 n : Nat) (w s q D : Int) : ArA := ⟨cpA_ n1 n2 n, w, s, q, 0, D, 0⟩
end Go.Proofs.YtbocpikgochioaaDoor.Ways
namespace Go.Proofs.YtbocpikgochioaaDoor.Ways
open Go Go.Ex
noncomputable def OK1_30 : Array Oper := regOps Tryd.f5 30
def statesK1_30 : List Nat := [0, 1, 3, 4, 5, 7, 8, 9, 11, 12, 13, 15, 31, 63, 127, 191, 255, 256, 257, 259, 260, 261, 263, 264, 265, 267, 268, 269, 271, 287, 319, 383, 447, 511, 895, 1023, 2047]
def ansK1_30 (j : Nat) : List Bool :=
  match j with
  | 1 => [true]
  | 4 => [true]
  | _ => []
noncomputable def liveK1_30 (cs1 cs2 : List Value) (ρ : Nat → Int) (_t1 _s1 _t2 _s2 _t3 _s3 n1 n2 : Nat) (w s q D : Int) (m : Nat) : List (Nat × Value) := [(2, i D), (4, pt 8 0), (20, pt 62 0), (7, pt 12 0), (11, pt 20 0)] ++ bitV m 0 (242, ag [sl 53 0 n1 n1, sl 54 0 n2 n2, sl 61 0 1 1]) ++ bitV m 1 (243, cutV false 63 n1 n2 1) ++ bitV m 2 (244, flV w s q) ++ bitV m 3 (245, i D) ++ bitV m 4 (246, (frV (tLoE cs1 cs2 (ringC (othF ρ) 1) n1 n2 0 w s q D) (tHiE cs1 cs2 (ringC (othF ρ) 1) n1 n2 0 w s q D) (hNE cs1 cs2 (ringC (othF ρ) 1) n1 n2 0 w s q D))) ++ bitV m 5 (241, (frV (tLoE cs1 cs2 (ringC (othF ρ) 1) n1 n2 0 w s q D) (tHiE cs1 cs2 (ringC (othF ρ) 1) n1 n2 0 w s q D) (hNE cs1 cs2 (ringC (othF ρ) 1) n1 n2 0 w s q D))) ++ bitV m 6 (247, ag [i (tLoE cs1 cs2 (ringC (othF ρ) 1) n1 n2 0 w s q D), i (tHiE cs1 cs2 (ringC (othF ρ) 1) n1 n2 0 w s q D)]) ++ bitV m 7 (248, i (hNE cs1 cs2 (ringC (othF ρ) 1) n1 n2 0 w s q D)) ++ bitV m 8 (22, pt 66 0) ++ bitV m 10 (23, i (hNE cs1 cs2 (ringC (othF ρ) 1) n1 n2 0 w s q D))
noncomputable def baseK1_30 (cs1 cs2 : List Value) (ρ : Nat → Int) (t1 s1 t2 s2 t3 s3 n1 n2 : Nat) (w s q D : Int) : List (CO × Bool) := [(.cells powers 149 1 true, true), (.cells pow10 166 1 true, true), (.cells tab32 173 1 true, true), (.cells tab64 174 1 true, true), (.cells cs1 t1 s1 false, true), (.cells cs2 t2 s2 false, true), (.cells (ringC ρ 1) t3 s3 false, true), (.dead, false), (.cells [i w, i s, i q] 29 1 true, false), (.dead, false), (.dead, false), (.dead, false), (.cells [i (tLoE cs1 cs2 (ringC ρ 1) n1 n2 0 w s q D), i (tHiE cs1 cs2 (ringC ρ 1) n1 n2 0 w s q D)] 61 1 true, false), (.dead, false), (.dead, false), (.dead, false), (.dead, false), (.dead, false), (.dead, false), (.dead, false), (.cells [i (mLoE cs1 cs2 (ringC ρ 1) n1 n2 0 w s q D), i (mHiE cs1 cs2 (ringC ρ 1) n1 n2 0 w s q D)] 61 1 true, false), (.dead, false), (.dead, false), (.dead, false), (.dead, false), (.dead, false), (.dead, false), (.dead, false), (.dead, false), (.dead, false), (.dead, false), (.dead, false), (.dead, false), (.dead, false), (.dead, false), (.dead, false), (.dead, false), (.dead, false), (.dead, false), (.dead, false), (.dead, false), (.dead, false), (.dead, false), (.dead, false), (.dead, false), (.dead, false), (.dead, false), (.dead, false), (.dead, false), (.dead, false), (.dead, false), (.dead, false), (.dead, false), (.cells cs1 3 1 false, true), (.cells cs2 3 1 false, true), (.dead, false), (.dead, false), (.dead, false), (.dead, false), (.dead, false), (.dead, false), (.cells (ringC (othF ρ) 1) 69 4 false, true), (.cells [sl 53 0 n1 n1, sl 54 0 n2 n2, sl 61 0 1 1] 27 1 true, false)]
noncomputable def hpK1_30 (cs1 cs2 : List Value) (ρ : Nat → Int) (t1 s1 t2 s2 t3 s3 n1 n2 : Nat) (w s q D : Int) (m : Nat) : List (CO × Bool) := [(.cells powers 149 1 true, true), (.cells pow10 166 1 true, true), (.cells tab32 173 1 true, true), (.cells tab64 174 1 true, true), (.cells cs1 t1 s1 false, true), (.cells cs2 t2 s2 false, true), (.cells (ringC ρ 1) t3 s3 false, true), (.dead, false), (.cells [i w, i s, i q] 29 1 true, false), (.dead, false), (.dead, false), (.dead, false), (.cells [i (tLoE cs1 cs2 (ringC ρ 1) n1 n2 0 w s q D), i (tHiE cs1 cs2 (ringC ρ 1) n1 n2 0 w s q D)] 61 1 true, false), (.dead, false), (.dead, false), (.dead, false), (.dead, false), (.dead, false), (.dead, false), (.dead, false), (.cells [i (mLoE cs1 cs2 (ringC ρ 1) n1 n2 0 w s q D), i (mHiE cs1 cs2 (ringC ρ 1) n1 n2 0 w s q D)] 61 1 true, false), (.dead, false), (.dead, false), (.dead, false), (.dead, false), (.dead, false), (.dead, false), (.dead, false), (.dead, false), (.dead, false), (.dead, false), (.dead, false), (.dead, false), (.dead, false), (.dead, false), (.dead, false), (.dead, false), (.dead, false), (.dead, false), (.dead, false), (.dead, false), (.dead, false), (.dead, false), (.dead, false), (.dead, false), (.dead, false), (.dead, false), (.dead, false), (.dead, false), (.dead, false), (.dead, false), (.dead, false), (.dead, false), (.cells cs1 3 1 false, true), (.cells cs2 3 1 false, true), (.dead, false), (.dead, false), (.dead, false), (.dead, false), (.dead, false), (.dead, false), (.cells (ringC (othF ρ) 1) 69 4 false, true), (.cells [sl 53 0 n1 n1, sl 54 0 n2 n2, sl 61 0 1 1] 27 1 true, false)] ++ [bitC m 1 (.cells cs1 3 1 false, true), bitC m 1 (.cells cs2 3 1 false, true), bitC m 1 (.cells (ringC (othF ρ) 1) 103 4 false, true)] ++ [bitC m 8 (.cells (cond (Nat.testBit m 9) [i (tLoE cs1 cs2 (ringC (othF ρ) 1) n1 n2 0 w s q D), i (tHiE cs1 cs2 (ringC (othF ρ) 1) n1 n2 0 w s q D)] [i 0, i 0]) 61 1 true, false)]
def rhoK1_30 (j : Nat) : List Nat :=
  match j with
  | 1 => [0, 1, 2, 3, 4, 5, 6, 7, 8, 9, 10, 11, 12, 13, 14, 15, 16, 17, 18, 19, 20, 21, 22, 23, 24, 25, 26, 27, 28, 29, 30, 31, 32, 33, 34, 35, 36, 37, 38, 39, 40, 41, 42, 43, 44, 45, 46, 47, 48, 49, 50, 51, 52, 53, 54, 55, 56, 57, 58, 59, 60, 61, 62, 67, 68, 69, 66]
  | 8 => [0, 1, 2, 3, 4, 5, 6, 7, 8, 9, 10, 11, 12, 13, 14, 15, 16, 17, 18, 19, 20, 21, 22, 23, 24, 25, 26, 27, 28, 29, 30, 31, 32, 33, 34, 35, 36, 37, 38, 39, 40, 41, 42, 43, 44, 45, 46, 47, 48, 49, 50, 51, 52, 53, 54, 55, 56, 57, 58, 59, 60, 61, 62, 63, 64, 65, 67]
  | _ => List.range 67
def lenK1_30 (j : Nat) : Nat :=
  match j with
  | 1 => 70
  | 8 => 68
  | _ => 67
noncomputable def cndK1_30 (cs1 cs2 : List Value) (ρ : Nat → Int) (_t1 _s1 _t2 _s2 _t3 _s3 n1 n2 : Nat) (w s q D : Int) (j : Nat) : List Bool :=
  match j with
  | 1 => [tru (okCp (argA n1 n2 1) cs1 cs2 (ringC (othF ρ) 1))]
  | 4 => [tru (okFc (AN n1 n2 0 w s q D) (cpS cs1 cs2 (ringC (othF ρ) 1) 1))]
  | _ => []
theorem fixK1_30 (cs1 cs2 : List Value) (ρ : Nat → Int) (t1 s1 t2 s2 t3 s3 n1 n2 : Nat) (w s q D : Int) : (trsN OK1_30 statesK1_30).map (outW (tabW CN1) Tryd.prog 7 CN1 Fn.law03_RotorNested OK1_30 273 (liveK1_30 cs1 cs2 ρ t1 s1 t2 s2 t3 s3 n1 n2 w s q D) (hpK1_30 cs1 cs2 ρ t1 s1 t2 s2 t3 s3 n1 n2 w s q D)) = (trsN OK1_30 statesK1_30).map fun t => (outW (tabW CN1) Tryd.prog 7 CN1 Fn.law03_RotorNested OK1_30 273 (liveK1_30 cs1 cs2 ρ t1 s1 t2 s2 t3 s3 n1 n2 w s q D) (hpK1_30 cs1 cs2 ρ t1 s1 t2 s2 t3 s3 n1 n2 w s q D) t).fix := by kernel_rfl
theorem obsK1_30 (cs1 cs2 : List Value) (ρ : Nat → Int) (t1 s1 t2 s2 t3 s3 n1 n2 : Nat) (w s q D : Int) : (trsN OK1_30 statesK1_30).map (obsW (tabW CN1) Tryd.prog 7 CN1 Fn.law03_RotorNested OK1_30 273 (liveK1_30 cs1 cs2 ρ t1 s1 t2 s2 t3 s3 n1 n2 w s q D) (hpK1_30 cs1 cs2 ρ t1 s1 t2 s2 t3 s3 n1 n2 w s q D) rhoK1_30 ansK1_30) = (trsN OK1_30 statesK1_30).map (expN 273 (liveK1_30 cs1 cs2 ρ t1 s1 t2 s2 t3 s3 n1 n2 w s q D) (hpK1_30 cs1 cs2 ρ t1 s1 t2 s2 t3 s3 n1 n2 w s q D) rhoK1_30 (cndK1_30 cs1 cs2 ρ t1 s1 t2 s2 t3 s3 n1 n2 w s q D) lenK1_30) := by kernel_rfl
theorem goodK1_30 (cs1 cs2 : List Value) (ρ : Nat → Int) (t1 s1 t2 s2 t3 s3 n1 n2 : Nat) (w s q D : Int) : ((trsN OK1_30 statesK1_30).all fun t => goodR 63 (lenK1_30 t.2) (liveK1_30 cs1 cs2 ρ t1 s1 t2 s2 t3 s3 n1 n2 w s q D (t.1 ||| 2 ^ t.2)) (hpK1_30 cs1 cs2 ρ t1 s1 t2 s2 t3 s3 n1 n2 w s q D (t.1 ||| 2 ^ t.2)) (rhoK1_30 t.2)) = true := by kernel_rfl
theorem closedK1_30 : closedN OK1_30 statesK1_30 2047 = true := by kernel_rfl
theorem flatK1_30 {cs1 cs2 : List Value} {ρ : Nat → Int} {t1 s1 t2 s2 t3 s3 n1 n2 : Nat} {w s q D : Int} (f1 : cs1.all Ex.flat = true) (f2 : cs2.all Ex.flat = true) : ∀ m o, (o, true) ∈ hpK1_30 cs1 cs2 ρ t1 s1 t2 s2 t3 s3 n1 n2 w s q D m → FlatO o := by
  intro m o ho
  unfold hpK1_30  bitC at ho
  simp only [cond, List.cons_append, List.nil_append, List.mem_cons, List.not_mem_nil, or_false, Prod.mk.injEq, Bool.true_eq_false, and_false, false_or] at ho
  rcases ho with ⟨rfl, _⟩ | ⟨rfl, _⟩ | ⟨rfl, _⟩ | ⟨rfl, _⟩ | ⟨rfl, _⟩ | ⟨rfl, _⟩ | ⟨rfl, _⟩ | ⟨rfl, _⟩ | ⟨rfl, _⟩ | ⟨rfl, _⟩ | ho | ho | ho | ho
  · exact flatO_of flatP
  · exact flatO_of flat10
  · exact flatO_of flat32
  · exact flatO_of flat64
  · exact flatO_of f1
  · exact flatO_of f2
  · exact flatO_of (ringC_flat _ _)
  · exact flatO_of f1
  · exact flatO_of f2
  · exact flatO_of (ringC_flat _ _)
  all_goals
    split at ho <;> first
      | (cases ho; done)
      | (injection ho with h4 h5; subst h4; exact flatO_of (by first | assumption | exact ringC_flat _ _))
theorem cndK1_30_ok {cs1 cs2 : List Value} {ρ : Nat → Int} {t1 s1 t2 s2 t3 s3 n1 n2 : Nat} {w s q D : Int} (h1 : okCp (argA n1 n2 1) cs1 cs2 (ringC (othF ρ) 1)) (h2 : okFc (AN n1 n2 0 w s q D) (cpS cs1 cs2 (ringC (othF ρ) 1) 1)) : ∀ j, cndK1_30 cs1 cs2 ρ t1 s1 t2 s2 t3 s3 n1 n2 w s q D j = (ansK1_30 j).take (cndK1_30 cs1 cs2 ρ t1 s1 t2 s2 t3 s3 n1 n2 w s q D j).length := by
  intro j
  unfold cndK1_30 ansK1_30
  split
  · rw [tru_iff.2 h1]; rfl
  · rw [tru_iff.2 h2]; rfl
  · rfl
theorem padK1_30 (cs1 cs2 : List Value) (ρ : Nat → Int) (t1 s1 t2 s2 t3 s3 n1 n2 : Nat) (w s q D : Int) : heapL ((hpK1_30 cs1 cs2 ρ t1 s1 t2 s2 t3 s3 n1 n2 w s q D 0).map (·.1)) = heapL ((baseK1_30 cs1 cs2 ρ t1 s1 t2 s2 t3 s3 n1 n2 w s q D).map (·.1) ++ List.replicate 4 .dead) := by kernel_rfl
theorem ordK1_30 {cs1 cs2 : List Value} {ρ : Nat → Int} {t1 s1 t2 s2 t3 s3 n1 n2 : Nat} {w s q D : Int} (f1 : cs1.all Ex.flat = true) (f2 : cs2.all Ex.flat = true) (h1 : okCp (argA n1 n2 1) cs1 cs2 (ringC (othF ρ) 1)) (h2 : okFc (AN n1 n2 0 w s q D) (cpS cs1 cs2 (ringC (othF ρ) 1) 1)) : Orders (selfA (qS (tabW CN1))) Tryd.prog 7 OK1_30 63 (fun m => m ∈ statesK1_30) (fun m => absT (tmL 273 (liveK1_30 cs1 cs2 ρ t1 s1 t2 s2 t3 s3 n1 n2 w s q D m))) (fun m => heapL ((hpK1_30 cs1 cs2 ρ t1 s1 t2 s2 t3 s3 n1 n2 w s q D m).map (·.1))) 2047 :=
  orders_ofW statesK1_30 (fixK1_30 cs1 cs2 ρ t1 s1 t2 s2 t3 s3 n1 n2 w s q D) (obsK1_30 cs1 cs2 ρ t1 s1 t2 s2 t3 s3 n1 n2 w s q D) (cndK1_30_ok h1 h2) (goodK1_30 cs1 cs2 ρ t1 s1 t2 s2 t3 s3 n1 n2 w s q D) closedK1_30 (flatK1_30 f1 f2)
theorem sndK1_30 {cs1 cs2 : List Value} {ρ : Nat → Int} {t1 s1 t2 s2 t3 s3 n1 n2 : Nat} {w s q D : Int} (f1 : cs1.all Ex.flat = true) (f2 : cs2.all Ex.flat = true) (h1 : okCp (argA n1 n2 1) cs1 cs2 (ringC (othF ρ) 1)) (h2 : okFc (AN n1 n2 0 w s q D) (cpS cs1 cs2 (ringC (othF ρ) 1) 1)) (ro : Option Nat) {tm0 : Array Value} {H0 : CH} (hk : H0.length = 63) (hst : Restate 63 tm0 H0 (absT (tmL 273 (liveK1_30 cs1 cs2 ρ t1 s1 t2 s2 t3 s3 n1 n2 w s q D 0))) (heapL ((baseK1_30 cs1 cs2 ρ t1 s1 t2 s2 t3 s3 n1 n2 w s q D).map (·.1)))) :
    Sound Tryd.prog 7 (.code (.region 30 OK1_30 true) ro tm0 H0 []) (.ex .normal (absT (tmL 273 (liveK1_30 cs1 cs2 ρ t1 s1 t2 s2 t3 s3 n1 n2 w s q D 2047))) (heapL ((hpK1_30 cs1 cs2 ρ t1 s1 t2 s2 t3 s3 n1 n2 w s q D 2047).map (·.1))) []) := by
  have ho := ordK1_30 (cs1 := cs1) (cs2 := cs2) (ρ := ρ) (t1 := t1) (s1 := s1) (t2 := t2) (s2 := s2) (t3 := t3) (s3 := s3) (n1 := n1) (n2 := n2) (w := w) (s := s) (q := q) (D := D) f1 f2 h1 h2
  have hr := padK1_30 cs1 cs2 ρ t1 s1 t2 s2 t3 s3 n1 n2 w s q D
  generalize liveK1_30 cs1 cs2 ρ t1 s1 t2 s2 t3 s3 n1 n2 w s q D = lv at *
  generalize hpK1_30 cs1 cs2 ρ t1 s1 t2 s2 t3 s3 n1 n2 w s q D = hp at *
  generalize baseK1_30 cs1 cs2 ρ t1 s1 t2 s2 t3 s3 n1 n2 w s q D = bs at *
  rw [← hk] at ho hst
  exact orders_sound2 (tmS := fun m => absT (tmL 273 (lv m))) (HS := fun m => heapL ((hp m).map (·.1))) (mF := 2047) sfN1 mix12 ho (by rw [hk]; decide) (by decide) hr hst ro
theorem fbK1_30 {cs1 cs2 : List Value} {ρ : Nat → Int} {t1 s1 t2 s2 t3 s3 n1 n2 : Nat} {w s q D : Int} (f1 : cs1.all Ex.flat = true) (f2 : cs2.all Ex.flat = true) : ∀ o, (o, true) ∈ baseK1_30 cs1 cs2 ρ t1 s1 t2 s2 t3 s3 n1 n2 w s q D → FlatO o := fun o ho =>
  flatK1_30 (cs1 := cs1) (cs2 := cs2) (ρ := ρ) (t1 := t1) (s1 := s1) (t2 := t2) (s2 := s2) (t3 := t3) (s3 := s3) (n1 := n1) (n2 := n2) (w := w) (s := s) (q := q) (D := D) f1 f2 0 o (by unfold hpK1_30; exact List.mem_append_left _ (List.mem_append_left _ ho))
end Go.Proofs.YtbocpikgochioaaDoor.Ways
namespace Go.Proofs.YtbocpikgochioaaDoor.Ways
open Go Go.Ex
noncomputable def OK1_31 : Array Oper := regOps Tryd.f5 31
def statesK1_31 : List Nat := [0, 1, 3, 4, 5, 7, 8, 9, 11, 12, 13, 15, 31, 63, 127, 191, 255, 256, 257, 259, 260, 261, 263, 264, 265, 267, 268, 269, 271, 287, 319, 383, 447, 511, 895, 1023, 2047]
def ansK1_31 (j : Nat) : List Bool :=
  match j with
  | 1 => [true]
  | 4 => [true]
  | _ => []
noncomputable def liveK1_31 (cs1 cs2 : List Value) (ρ : Nat → Int) (_t1 _s1 _t2 _s2 _t3 _s3 n1 n2 : Nat) (w s q D : Int) (m : Nat) : List (Nat × Value) := [(2, i D), (4, pt 8 0), (20, pt 62 0), (7, pt 12 0), (11, pt 20 0), (22, pt 66 0), (23, i (hNE cs1 cs2 (ringC (othF ρ) 1) n1 n2 0 w s q D))] ++ bitV m 0 (250, ag [sl 53 0 n1 n1, sl 54 0 n2 n2, sl 61 0 1 1]) ++ bitV m 1 (251, cutV false 67 n1 n2 1) ++ bitV m 2 (252, flV w s q) ++ bitV m 3 (253, i D) ++ bitV m 4 (254, (frV (mLoE cs1 cs2 (ringC (othF ρ) 1) n1 n2 0 w s q D) (mHiE cs1 cs2 (ringC (othF ρ) 1) n1 n2 0 w s q D) (hNE cs1 cs2 (ringC (othF ρ) 1) n1 n2 0 w s q D))) ++ bitV m 5 (249, (frV (mLoE cs1 cs2 (ringC (othF ρ) 1) n1 n2 0 w s q D) (mHiE cs1 cs2 (ringC (othF ρ) 1) n1 n2 0 w s q D) (hNE cs1 cs2 (ringC (othF ρ) 1) n1 n2 0 w s q D))) ++ bitV m 6 (255, ag [i (mLoE cs1 cs2 (ringC (othF ρ) 1) n1 n2 0 w s q D), i (mHiE cs1 cs2 (ringC (othF ρ) 1) n1 n2 0 w s q D)]) ++ bitV m 7 (256, i (hNE cs1 cs2 (ringC (othF ρ) 1) n1 n2 0 w s q D)) ++ bitV m 8 (24, pt 70 0) ++ bitV m 10 (25, i (hNE cs1 cs2 (ringC (othF ρ) 1) n1 n2 0 w s q D))
noncomputable def baseK1_31 (cs1 cs2 : List Value) (ρ : Nat → Int) (t1 s1 t2 s2 t3 s3 n1 n2 : Nat) (w s q D : Int) : List (CO × Bool) := [(.cells powers 149 1 true, true), (.cells pow10 166 1 true, true), (.cells tab32 173 1 true, true), (.cells tab64 174 1 true, true), (.cells cs1 t1 s1 false, true), (.cells cs2 t2 s2 false, true), (.cells (ringC ρ 1) t3 s3 false, true), (.dead, false), (.cells [i w, i s, i q] 29 1 true, false), (.dead, false), (.dead, false), (.dead, false), (.cells [i (tLoE cs1 cs2 (ringC ρ 1) n1 n2 0 w s q D), i (tHiE cs1 cs2 (ringC ρ 1) n1 n2 0 w s q D)] 61 1 true, false), (.dead, false), (.dead, false), (.dead, false), (.dead, false), (.dead, false), (.dead, false), (.dead, false), (.cells [i (mLoE cs1 cs2 (ringC ρ 1) n1 n2 0 w s q D), i (mHiE cs1 cs2 (ringC ρ 1) n1 n2 0 w s q D)] 61 1 true, false), (.dead, false), (.dead, false), (.dead, false), (.dead, false), (.dead, false), (.dead, false), (.dead, false), (.dead, false), (.dead, false), (.dead, false), (.dead, false), (.dead, false), (.dead, false), (.dead, false), (.dead, false), (.dead, false), (.dead, false), (.dead, false), (.dead, false), (.dead, false), (.dead, false), (.dead, false), (.dead, false), (.dead, false), (.dead, false), (.dead, false), (.dead, false), (.dead, false), (.dead, false), (.dead, false), (.dead, false), (.dead, false), (.cells cs1 3 1 false, true), (.cells cs2 3 1 false, true), (.dead, false), (.dead, false), (.dead, false), (.dead, false), (.dead, false), (.dead, false), (.cells (ringC (othF ρ) 1) 69 4 false, true), (.cells [sl 53 0 n1 n1, sl 54 0 n2 n2, sl 61 0 1 1] 27 1 true, false), (.dead, false), (.dead, false), (.dead, false), (.cells [i (tLoE cs1 cs2 (ringC (othF ρ) 1) n1 n2 0 w s q D), i (tHiE cs1 cs2 (ringC (othF ρ) 1) n1 n2 0 w s q D)] 61 1 true, false)]
noncomputable def hpK1_31 (cs1 cs2 : List Value) (ρ : Nat → Int) (t1 s1 t2 s2 t3 s3 n1 n2 : Nat) (w s q D : Int) (m : Nat) : List (CO × Bool) := [(.cells powers 149 1 true, true), (.cells pow10 166 1 true, true), (.cells tab32 173 1 true, true), (.cells tab64 174 1 true, true), (.cells cs1 t1 s1 false, true), (.cells cs2 t2 s2 false, true), (.cells (ringC ρ 1) t3 s3 false, true), (.dead, false), (.cells [i w, i s, i q] 29 1 true, false), (.dead, false), (.dead, false), (.dead, false), (.cells [i (tLoE cs1 cs2 (ringC ρ 1) n1 n2 0 w s q D), i (tHiE cs1 cs2 (ringC ρ 1) n1 n2 0 w s q D)] 61 1 true, false), (.dead, false), (.dead, false), (.dead, false), (.dead, false), (.dead, false), (.dead, false), (.dead, false), (.cells [i (mLoE cs1 cs2 (ringC ρ 1) n1 n2 0 w s q D), i (mHiE cs1 cs2 (ringC ρ 1) n1 n2 0 w s q D)] 61 1 true, false), (.dead, false), (.dead, false), (.dead, false), (.dead, false), (.dead, false), (.dead, false), (.dead, false), (.dead, false), (.dead, false), (.dead, false), (.dead, false), (.dead, false), (.dead, false), (.dead, false), (.dead, false), (.dead, false), (.dead, false), (.dead, false), (.dead, false), (.dead, false), (.dead, false), (.dead, false), (.dead, false), (.dead, false), (.dead, false), (.dead, false), (.dead, false), (.dead, false), (.dead, false), (.dead, false), (.dead, false), (.dead, false), (.cells cs1 3 1 false, true), (.cells cs2 3 1 false, true), (.dead, false), (.dead, false), (.dead, false), (.dead, false), (.dead, false), (.dead, false), (.cells (ringC (othF ρ) 1) 69 4 false, true), (.cells [sl 53 0 n1 n1, sl 54 0 n2 n2, sl 61 0 1 1] 27 1 true, false), (.dead, false), (.dead, false), (.dead, false), (.cells [i (tLoE cs1 cs2 (ringC (othF ρ) 1) n1 n2 0 w s q D), i (tHiE cs1 cs2 (ringC (othF ρ) 1) n1 n2 0 w s q D)] 61 1 true, false)] ++ [bitC m 1 (.cells cs1 3 1 false, true), bitC m 1 (.cells cs2 3 1 false, true), bitC m 1 (.cells (ringC (othF ρ) 1) 103 4 false, true)] ++ [bitC m 8 (.cells (cond (Nat.testBit m 9) [i (mLoE cs1 cs2 (ringC (othF ρ) 1) n1 n2 0 w s q D), i (mHiE cs1 cs2 (ringC (othF ρ) 1) n1 n2 0 w s q D)] [i 0, i 0]) 61 1 true, false)]
def rhoK1_31 (j : Nat) : List Nat :=
  match j with
  | 1 => [0, 1, 2, 3, 4, 5, 6, 7, 8, 9, 10, 11, 12, 13, 14, 15, 16, 17, 18, 19, 20, 21, 22, 23, 24, 25, 26, 27, 28, 29, 30, 31, 32, 33, 34, 35, 36, 37, 38, 39, 40, 41, 42, 43, 44, 45, 46, 47, 48, 49, 50, 51, 52, 53, 54, 55, 56, 57, 58, 59, 60, 61, 62, 63, 64, 65, 66, 71, 72, 73, 70]
  | 8 => [0, 1, 2, 3, 4, 5, 6, 7, 8, 9, 10, 11, 12, 13, 14, 15, 16, 17, 18, 19, 20, 21, 22, 23, 24, 25, 26, 27, 28, 29, 30, 31, 32, 33, 34, 35, 36, 37, 38, 39, 40, 41, 42, 43, 44, 45, 46, 47, 48, 49, 50, 51, 52, 53, 54, 55, 56, 57, 58, 59, 60, 61, 62, 63, 64, 65, 66, 67, 68, 69, 71]
  | _ => List.range 71
def lenK1_31 (j : Nat) : Nat :=
  match j with
  | 1 => 74
  | 8 => 72
  | _ => 71
noncomputable def cndK1_31 (cs1 cs2 : List Value) (ρ : Nat → Int) (_t1 _s1 _t2 _s2 _t3 _s3 n1 n2 : Nat) (w s q D : Int) (j : Nat) : List Bool :=
  match j with
  | 1 => [tru (okCp (argA n1 n2 1) cs1 cs2 (ringC (othF ρ) 1))]
  | 4 => [tru (okFc (AN n1 n2 0 w s q D) (cpS cs1 cs2 (ringC (othF ρ) 1) 1))]
  | _ => []
theorem fixK1_31 (cs1 cs2 : List Value) (ρ : Nat → Int) (t1 s1 t2 s2 t3 s3 n1 n2 : Nat) (w s q D : Int) : (trsN OK1_31 statesK1_31).map (outW (tabW CN1) Tryd.prog 7 CN1 Fn.law03_RotorNested OK1_31 273 (liveK1_31 cs1 cs2 ρ t1 s1 t2 s2 t3 s3 n1 n2 w s q D) (hpK1_31 cs1 cs2 ρ t1 s1 t2 s2 t3 s3 n1 n2 w s q D)) = (trsN OK1_31 statesK1_31).map fun t => (outW (tabW CN1) Tryd.prog 7 CN1 Fn.law03_RotorNested OK1_31 273 (liveK1_31 cs1 cs2 ρ t1 s1 t2 s2 t3 s3 n1 n2 w s q D) (hpK1_31 cs1 cs2 ρ t1 s1 t2 s2 t3 s3 n1 n2 w s q D) t).fix := by kernel_rfl
theorem obsK1_31 (cs1 cs2 : List Value) (ρ : Nat → Int) (t1 s1 t2 s2 t3 s3 n1 n2 : Nat) (w s q D : Int) : (trsN OK1_31 statesK1_31).map (obsW (tabW CN1) Tryd.prog 7 CN1 Fn.law03_RotorNested OK1_31 273 (liveK1_31 cs1 cs2 ρ t1 s1 t2 s2 t3 s3 n1 n2 w s q D) (hpK1_31 cs1 cs2 ρ t1 s1 t2 s2 t3 s3 n1 n2 w s q D) rhoK1_31 ansK1_31) = (trsN OK1_31 statesK1_31).map (expN 273 (liveK1_31 cs1 cs2 ρ t1 s1 t2 s2 t3 s3 n1 n2 w s q D) (hpK1_31 cs1 cs2 ρ t1 s1 t2 s2 t3 s3 n1 n2 w s q D) rhoK1_31 (cndK1_31 cs1 cs2 ρ t1 s1 t2 s2 t3 s3 n1 n2 w s q D) lenK1_31) := by kernel_rfl
theorem goodK1_31 (cs1 cs2 : List Value) (ρ : Nat → Int) (t1 s1 t2 s2 t3 s3 n1 n2 : Nat) (w s q D : Int) : ((trsN OK1_31 statesK1_31).all fun t => goodR 67 (lenK1_31 t.2) (liveK1_31 cs1 cs2 ρ t1 s1 t2 s2 t3 s3 n1 n2 w s q D (t.1 ||| 2 ^ t.2)) (hpK1_31 cs1 cs2 ρ t1 s1 t2 s2 t3 s3 n1 n2 w s q D (t.1 ||| 2 ^ t.2)) (rhoK1_31 t.2)) = true := by kernel_rfl
theorem closedK1_31 : closedN OK1_31 statesK1_31 2047 = true := by kernel_rfl
theorem flatK1_31 {cs1 cs2 : List Value} {ρ : Nat → Int} {t1 s1 t2 s2 t3 s3 n1 n2 : Nat} {w s q D : Int} (f1 : cs1.all Ex.flat = true) (f2 : cs2.all Ex.flat = true) : ∀ m o, (o, true) ∈ hpK1_31 cs1 cs2 ρ t1 s1 t2 s2 t3 s3 n1 n2 w s q D m → FlatO o := by
  intro m o ho
  unfold hpK1_31  bitC at ho
  simp only [cond, List.cons_append, List.nil_append, List.mem_cons, List.not_mem_nil, or_false, Prod.mk.injEq, Bool.true_eq_false, and_false, false_or] at ho
  rcases ho with ⟨rfl, _⟩ | ⟨rfl, _⟩ | ⟨rfl, _⟩ | ⟨rfl, _⟩ | ⟨rfl, _⟩ | ⟨rfl, _⟩ | ⟨rfl, _⟩ | ⟨rfl, _⟩ | ⟨rfl, _⟩ | ⟨rfl, _⟩ | ho | ho | ho | ho
  · exact flatO_of flatP
  · exact flatO_of flat10
  · exact flatO_of flat32
  · exact flatO_of flat64
  · exact flatO_of f1
  · exact flatO_of f2
  · exact flatO_of (ringC_flat _ _)
  · exact flatO_of f1
  · exact flatO_of f2
  · exact flatO_of (ringC_flat _ _)
  all_goals
    split at ho <;> first
      | (cases ho; done)
      | (injection ho with h4 h5; subst h4; exact flatO_of (by first | assumption | exact ringC_flat _ _))
theorem cndK1_31_ok {cs1 cs2 : List Value} {ρ : Nat → Int} {t1 s1 t2 s2 t3 s3 n1 n2 : Nat} {w s q D : Int} (h1 : okCp (argA n1 n2 1) cs1 cs2 (ringC (othF ρ) 1)) (h2 : okFc (AN n1 n2 0 w s q D) (cpS cs1 cs2 (ringC (othF ρ) 1) 1)) : ∀ j, cndK1_31 cs1 cs2 ρ t1 s1 t2 s2 t3 s3 n1 n2 w s q D j = (ansK1_31 j).take (cndK1_31 cs1 cs2 ρ t1 s1 t2 s2 t3 s3 n1 n2 w s q D j).length := by
  intro j
  unfold cndK1_31 ansK1_31
  split
  · rw [tru_iff.2 h1]; rfl
  · rw [tru_iff.2 h2]; rfl
  · rfl
theorem padK1_31 (cs1 cs2 : List Value) (ρ : Nat → Int) (t1 s1 t2 s2 t3 s3 n1 n2 : Nat) (w s q D : Int) : heapL ((hpK1_31 cs1 cs2 ρ t1 s1 t2 s2 t3 s3 n1 n2 w s q D 0).map (·.1)) = heapL ((baseK1_31 cs1 cs2 ρ t1 s1 t2 s2 t3 s3 n1 n2 w s q D).map (·.1) ++ List.replicate 4 .dead) := by kernel_rfl
theorem ordK1_31 {cs1 cs2 : List Value} {ρ : Nat → Int} {t1 s1 t2 s2 t3 s3 n1 n2 : Nat} {w s q D : Int} (f1 : cs1.all Ex.flat = true) (f2 : cs2.all Ex.flat = true) (h1 : okCp (argA n1 n2 1) cs1 cs2 (ringC (othF ρ) 1)) (h2 : okFc (AN n1 n2 0 w s q D) (cpS cs1 cs2 (ringC (othF ρ) 1) 1)) : Orders (selfA (qS (tabW CN1))) Tryd.prog 7 OK1_31 67 (fun m => m ∈ statesK1_31) (fun m => absT (tmL 273 (liveK1_31 cs1 cs2 ρ t1 s1 t2 s2 t3 s3 n1 n2 w s q D m))) (fun m => heapL ((hpK1_31 cs1 cs2 ρ t1 s1 t2 s2 t3 s3 n1 n2 w s q D m).map (·.1))) 2047 :=
  orders_ofW statesK1_31 (fixK1_31 cs1 cs2 ρ t1 s1 t2 s2 t3 s3 n1 n2 w s q D) (obsK1_31 cs1 cs2 ρ t1 s1 t2 s2 t3 s3 n1 n2 w s q D) (cndK1_31_ok h1 h2) (goodK1_31 cs1 cs2 ρ t1 s1 t2 s2 t3 s3 n1 n2 w s q D) closedK1_31 (flatK1_31 f1 f2)
theorem sndK1_31 {cs1 cs2 : List Value} {ρ : Nat → Int} {t1 s1 t2 s2 t3 s3 n1 n2 : Nat} {w s q D : Int} (f1 : cs1.all Ex.flat = true) (f2 : cs2.all Ex.flat = true) (h1 : okCp (argA n1 n2 1) cs1 cs2 (ringC (othF ρ) 1)) (h2 : okFc (AN n1 n2 0 w s q D) (cpS cs1 cs2 (ringC (othF ρ) 1) 1)) (ro : Option Nat) {tm0 : Array Value} {H0 : CH} (hk : H0.length = 67) (hst : Restate 67 tm0 H0 (absT (tmL 273 (liveK1_31 cs1 cs2 ρ t1 s1 t2 s2 t3 s3 n1 n2 w s q D 0))) (heapL ((baseK1_31 cs1 cs2 ρ t1 s1 t2 s2 t3 s3 n1 n2 w s q D).map (·.1)))) :
    Sound Tryd.prog 7 (.code (.region 31 OK1_31 true) ro tm0 H0 []) (.ex .normal (absT (tmL 273 (liveK1_31 cs1 cs2 ρ t1 s1 t2 s2 t3 s3 n1 n2 w s q D 2047))) (heapL ((hpK1_31 cs1 cs2 ρ t1 s1 t2 s2 t3 s3 n1 n2 w s q D 2047).map (·.1))) []) := by
  have ho := ordK1_31 (cs1 := cs1) (cs2 := cs2) (ρ := ρ) (t1 := t1) (s1 := s1) (t2 := t2) (s2 := s2) (t3 := t3) (s3 := s3) (n1 := n1) (n2 := n2) (w := w) (s := s) (q := q) (D := D) f1 f2 h1 h2
  have hr := padK1_31 cs1 cs2 ρ t1 s1 t2 s2 t3 s3 n1 n2 w s q D
  generalize liveK1_31 cs1 cs2 ρ t1 s1 t2 s2 t3 s3 n1 n2 w s q D = lv at *
  generalize hpK1_31 cs1 cs2 ρ t1 s1 t2 s2 t3 s3 n1 n2 w s q D = hp at *
  generalize baseK1_31 cs1 cs2 ρ t1 s1 t2 s2 t3 s3 n1 n2 w s q D = bs at *
  rw [← hk] at ho hst
  exact orders_sound2 (tmS := fun m => absT (tmL 273 (lv m))) (HS := fun m => heapL ((hp m).map (·.1))) (mF := 2047) sfN1 mix12 ho (by rw [hk]; decide) (by decide) hr hst ro
theorem fbK1_31 {cs1 cs2 : List Value} {ρ : Nat → Int} {t1 s1 t2 s2 t3 s3 n1 n2 : Nat} {w s q D : Int} (f1 : cs1.all Ex.flat = true) (f2 : cs2.all Ex.flat = true) : ∀ o, (o, true) ∈ baseK1_31 cs1 cs2 ρ t1 s1 t2 s2 t3 s3 n1 n2 w s q D → FlatO o := fun o ho =>
  flatK1_31 (cs1 := cs1) (cs2 := cs2) (ρ := ρ) (t1 := t1) (s1 := s1) (t2 := t2) (s2 := s2) (t3 := t3) (s3 := s3) (n1 := n1) (n2 := n2) (w := w) (s := s) (q := q) (D := D) f1 f2 0 o (by unfold hpK1_31; exact List.mem_append_left _ (List.mem_append_left _ ho))
end Go.Proofs.YtbocpikgochioaaDoor.Ways
namespace Go.Proofs.YtbocpikgochioaaDoor.Ways
open Go Go.Ex
noncomputable def OK2_30 : Array Oper := regOps Tryd.f5 30
def statesK2_30 : List Nat := [0, 1, 3, 4, 5, 7, 8, 9, 11, 12, 13, 15, 31, 63, 127, 191, 255, 256, 257, 259, 260, 261, 263, 264, 265, 267, 268, 269, 271, 287, 319, 383, 447, 511, 895, 1023, 2047]
def ansK2_30 (j : Nat) : List Bool :=
  match j with
  | 1 => [true]
  | 4 => [true]
  | _ => []
noncomputable def liveK2_30 (cs1 cs2 : List Value) (ρ : Nat → Int) (_t1 _s1 _t2 _s2 _t3 _s3 n1 n2 : Nat) (w s q D : Int) (m : Nat) : List (Nat × Value) := [(2, i D), (4, pt 8 0), (20, pt 71 0), (7, pt 12 0), (11, pt 20 0)] ++ bitV m 0 (242, ag [sl 59 0 n1 n1, sl 60 0 n2 n2, sl 70 0 2 2]) ++ bitV m 1 (243, cutV false 72 n1 n2 2) ++ bitV m 2 (244, flV w s q) ++ bitV m 3 (245, i D) ++ bitV m 4 (246, (frV (tLoE cs1 cs2 (ringC (othF ρ) 2) n1 n2 1 w s q D) (tHiE cs1 cs2 (ringC (othF ρ) 2) n1 n2 1 w s q D) (hNE cs1 cs2 (ringC (othF ρ) 2) n1 n2 1 w s q D))) ++ bitV m 5 (241, (frV (tLoE cs1 cs2 (ringC (othF ρ) 2) n1 n2 1 w s q D) (tHiE cs1 cs2 (ringC (othF ρ) 2) n1 n2 1 w s q D) (hNE cs1 cs2 (ringC (othF ρ) 2) n1 n2 1 w s q D))) ++ bitV m 6 (247, ag [i (tLoE cs1 cs2 (ringC (othF ρ) 2) n1 n2 1 w s q D), i (tHiE cs1 cs2 (ringC (othF ρ) 2) n1 n2 1 w s q D)]) ++ bitV m 7 (248, i (hNE cs1 cs2 (ringC (othF ρ) 2) n1 n2 1 w s q D)) ++ bitV m 8 (22, pt 75 0) ++ bitV m 10 (23, i (hNE cs1 cs2 (ringC (othF ρ) 2) n1 n2 1 w s q D))
noncomputable def baseK2_30 (cs1 cs2 : List Value) (ρ : Nat → Int) (t1 s1 t2 s2 t3 s3 n1 n2 : Nat) (w s q D : Int) : List (CO × Bool) := [(.cells powers 149 1 true, true), (.cells pow10 166 1 true, true), (.cells tab32 173 1 true, true), (.cells tab64 174 1 true, true), (.cells cs1 t1 s1 false, true), (.cells cs2 t2 s2 false, true), (.cells (ringC ρ 2) t3 s3 false, true), (.dead, false), (.cells [i w, i s, i q] 29 1 true, false), (.dead, false), (.dead, false), (.dead, false), (.cells [i (tLoE cs1 cs2 (ringC ρ 2) n1 n2 1 w s q D), i (tHiE cs1 cs2 (ringC ρ 2) n1 n2 1 w s q D)] 61 1 true, false), (.dead, false), (.dead, false), (.dead, false), (.dead, false), (.dead, false), (.dead, false), (.dead, false), (.cells [i (mLoE cs1 cs2 (ringC ρ 2) n1 n2 1 w s q D), i (mHiE cs1 cs2 (ringC ρ 2) n1 n2 1 w s q D)] 61 1 true, false), (.dead, false), (.dead, false), (.dead, false), (.dead, false), (.dead, false), (.dead, false), (.dead, false), (.dead, false), (.dead, false), (.dead, false), (.dead, false), (.dead, false), (.dead, false), (.dead, false), (.dead, false), (.dead, false), (.dead, false), (.dead, false), (.dead, false), (.dead, false), (.dead, false), (.dead, false), (.dead, false), (.dead, false), (.dead, false), (.dead, false), (.dead, false), (.dead, false), (.dead, false), (.dead, false), (.dead, false), (.dead, false), (.dead, false), (.dead, false), (.dead, false), (.dead, false), (.dead, false), (.dead, false), (.cells cs1 3 1 false, true), (.cells cs2 3 1 false, true), (.dead, false), (.dead, false), (.dead, false), (.dead, false), (.dead, false), (.dead, false), (.dead, false), (.dead, false), (.dead, false), (.cells (ringC (othF ρ) 2) 69 4 false, true), (.cells [sl 59 0 n1 n1, sl 60 0 n2 n2, sl 70 0 2 2] 27 1 true, false)]
noncomputable def hpK2_30 (cs1 cs2 : List Value) (ρ : Nat → Int) (t1 s1 t2 s2 t3 s3 n1 n2 : Nat) (w s q D : Int) (m : Nat) : List (CO × Bool) := [(.cells powers 149 1 true, true), (.cells pow10 166 1 true, true), (.cells tab32 173 1 true, true), (.cells tab64 174 1 true, true), (.cells cs1 t1 s1 false, true), (.cells cs2 t2 s2 false, true), (.cells (ringC ρ 2) t3 s3 false, true), (.dead, false), (.cells [i w, i s, i q] 29 1 true, false), (.dead, false), (.dead, false), (.dead, false), (.cells [i (tLoE cs1 cs2 (ringC ρ 2) n1 n2 1 w s q D), i (tHiE cs1 cs2 (ringC ρ 2) n1 n2 1 w s q D)] 61 1 true, false), (.dead, false), (.dead, false), (.dead, false), (.dead, false), (.dead, false), (.dead, false), (.dead, false), (.cells [i (mLoE cs1 cs2 (ringC ρ 2) n1 n2 1 w s q D), i (mHiE cs1 cs2 (ringC ρ 2) n1 n2 1 w s q D)] 61 1 true, false), (.dead, false), (.dead, false), (.dead, false), (.dead, false), (.dead, false), (.dead, false), (.dead, false), (.dead, false), (.dead, false), (.dead, false), (.dead, false), (.dead, false), (.dead, false), (.dead, false), (.dead, false), (.dead, false), (.dead, false), (.dead, false), (.dead, false), (.dead, false), (.dead, false), (.dead, false), (.dead, false), (.dead, false), (.dead, false), (.dead, false), (.dead, false), (.dead, false), (.dead, false), (.dead, false), (.dead, false), (.dead, false), (.dead, false), (.dead, false), (.dead, false), (.dead, false), (.dead, false), (.dead, false), (.cells cs1 3 1 false, true), (.cells cs2 3 1 false, true), (.dead, false), (.dead, false), (.dead, false), (.dead, false), (.dead, false), (.dead, false), (.dead, false), (.dead, false), (.dead, false), (.cells (ringC (othF ρ) 2) 69 4 false, true), (.cells [sl 59 0 n1 n1, sl 60 0 n2 n2, sl 70 0 2 2] 27 1 true, false)] ++ [bitC m 1 (.cells cs1 3 1 false, true), bitC m 1 (.cells cs2 3 1 false, true), bitC m 1 (.cells (ringC (othF ρ) 2) 103 4 false, true)] ++ [bitC m 8 (.cells (cond (Nat.testBit m 9) [i (tLoE cs1 cs2 (ringC (othF ρ) 2) n1 n2 1 w s q D), i (tHiE cs1 cs2 (ringC (othF ρ) 2) n1 n2 1 w s q D)] [i 0, i 0]) 61 1 true, false)]
def rhoK2_30 (j : Nat) : List Nat :=
  match j with
  | 1 => [0, 1, 2, 3, 4, 5, 6, 7, 8, 9, 10, 11, 12, 13, 14, 15, 16, 17, 18, 19, 20, 21, 22, 23, 24, 25, 26, 27, 28, 29, 30, 31, 32, 33, 34, 35, 36, 37, 38, 39, 40, 41, 42, 43, 44, 45, 46, 47, 48, 49, 50, 51, 52, 53, 54, 55, 56, 57, 58, 59, 60, 61, 62, 63, 64, 65, 66, 67, 68, 69, 70, 71, 76, 77, 78, 75]
  | 8 => [0, 1, 2, 3, 4, 5, 6, 7, 8, 9, 10, 11, 12, 13, 14, 15, 16, 17, 18, 19, 20, 21, 22, 23, 24, 25, 26, 27, 28, 29, 30, 31, 32, 33, 34, 35, 36, 37, 38, 39, 40, 41, 42, 43, 44, 45, 46, 47, 48, 49, 50, 51, 52, 53, 54, 55, 56, 57, 58, 59, 60, 61, 62, 63, 64, 65, 66, 67, 68, 69, 70, 71, 72, 73, 74, 76]
  | _ => List.range 76
def lenK2_30 (j : Nat) : Nat :=
  match j with
  | 1 => 79
  | 8 => 77
  | _ => 76
noncomputable def cndK2_30 (cs1 cs2 : List Value) (ρ : Nat → Int) (_t1 _s1 _t2 _s2 _t3 _s3 n1 n2 : Nat) (w s q D : Int) (j : Nat) : List Bool :=
  match j with
  | 1 => [tru (okCp (argA n1 n2 2) cs1 cs2 (ringC (othF ρ) 2))]
  | 4 => [tru (okFc (AN n1 n2 1 w s q D) (cpS cs1 cs2 (ringC (othF ρ) 2) 2))]
  | _ => []
theorem fixK2_30 (cs1 cs2 : List Value) (ρ : Nat → Int) (t1 s1 t2 s2 t3 s3 n1 n2 : Nat) (w s q D : Int) : (trsN OK2_30 statesK2_30).map (outW (tabW CN1) Tryd.prog 7 CN1 Fn.law03_RotorNested OK2_30 273 (liveK2_30 cs1 cs2 ρ t1 s1 t2 s2 t3 s3 n1 n2 w s q D) (hpK2_30 cs1 cs2 ρ t1 s1 t2 s2 t3 s3 n1 n2 w s q D)) = (trsN OK2_30 statesK2_30).map fun t => (outW (tabW CN1) Tryd.prog 7 CN1 Fn.law03_RotorNested OK2_30 273 (liveK2_30 cs1 cs2 ρ t1 s1 t2 s2 t3 s3 n1 n2 w s q D) (hpK2_30 cs1 cs2 ρ t1 s1 t2 s2 t3 s3 n1 n2 w s q D) t).fix := by kernel_rfl
theorem obsK2_30 (cs1 cs2 : List Value) (ρ : Nat → Int) (t1 s1 t2 s2 t3 s3 n1 n2 : Nat) (w s q D : Int) : (trsN OK2_30 statesK2_30).map (obsW (tabW CN1) Tryd.prog 7 CN1 Fn.law03_RotorNested OK2_30 273 (liveK2_30 cs1 cs2 ρ t1 s1 t2 s2 t3 s3 n1 n2 w s q D) (hpK2_30 cs1 cs2 ρ t1 s1 t2 s2 t3 s3 n1 n2 w s q D) rhoK2_30 ansK2_30) = (trsN OK2_30 statesK2_30).map (expN 273 (liveK2_30 cs1 cs2 ρ t1 s1 t2 s2 t3 s3 n1 n2 w s q D) (hpK2_30 cs1 cs2 ρ t1 s1 t2 s2 t3 s3 n1 n2 w s q D) rhoK2_30 (cndK2_30 cs1 cs2 ρ t1 s1 t2 s2 t3 s3 n1 n2 w s q D) lenK2_30) := by kernel_rfl
theorem goodK2_30 (cs1 cs2 : List Value) (ρ : Nat → Int) (t1 s1 t2 s2 t3 s3 n1 n2 : Nat) (w s q D : Int) : ((trsN OK2_30 statesK2_30).all fun t => goodR 72 (lenK2_30 t.2) (liveK2_30 cs1 cs2 ρ t1 s1 t2 s2 t3 s3 n1 n2 w s q D (t.1 ||| 2 ^ t.2)) (hpK2_30 cs1 cs2 ρ t1 s1 t2 s2 t3 s3 n1 n2 w s q D (t.1 ||| 2 ^ t.2)) (rhoK2_30 t.2)) = true := by kernel_rfl
theorem closedK2_30 : closedN OK2_30 statesK2_30 2047 = true := by kernel_rfl
theorem flatK2_30 {cs1 cs2 : List Value} {ρ : Nat → Int} {t1 s1 t2 s2 t3 s3 n1 n2 : Nat} {w s q D : Int} (f1 : cs1.all Ex.flat = true) (f2 : cs2.all Ex.flat = true) : ∀ m o, (o, true) ∈ hpK2_30 cs1 cs2 ρ t1 s1 t2 s2 t3 s3 n1 n2 w s q D m → FlatO o := by
  intro m o ho
  unfold hpK2_30  bitC at ho
  simp only [cond, List.cons_append, List.nil_append, List.mem_cons, List.not_mem_nil, or_false, Prod.mk.injEq, Bool.true_eq_false, and_false, false_or] at ho
  rcases ho with ⟨rfl, _⟩ | ⟨rfl, _⟩ | ⟨rfl, _⟩ | ⟨rfl, _⟩ | ⟨rfl, _⟩ | ⟨rfl, _⟩ | ⟨rfl, _⟩ | ⟨rfl, _⟩ | ⟨rfl, _⟩ | ⟨rfl, _⟩ | ho | ho | ho | ho
  · exact flatO_of flatP
  · exact flatO_of flat10
  · exact flatO_of flat32
  · exact flatO_of flat64
  · exact flatO_of f1
  · exact flatO_of f2
  · exact flatO_of (ringC_flat _ _)
  · exact flatO_of f1
  · exact flatO_of f2
  · exact flatO_of (ringC_flat _ _)
  all_goals
    split at ho <;> first
      | (cases ho; done)
      | (injection ho with h4 h5; subst h4; exact flatO_of (by first | assumption | exact ringC_flat _ _))
theorem cndK2_30_ok {cs1 cs2 : List Value} {ρ : Nat → Int} {t1 s1 t2 s2 t3 s3 n1 n2 : Nat} {w s q D : Int} (h1 : okCp (argA n1 n2 2) cs1 cs2 (ringC (othF ρ) 2)) (h2 : okFc (AN n1 n2 1 w s q D) (cpS cs1 cs2 (ringC (othF ρ) 2) 2)) : ∀ j, cndK2_30 cs1 cs2 ρ t1 s1 t2 s2 t3 s3 n1 n2 w s q D j = (ansK2_30 j).take (cndK2_30 cs1 cs2 ρ t1 s1 t2 s2 t3 s3 n1 n2 w s q D j).length := by
  intro j
  unfold cndK2_30 ansK2_30
  split
  · rw [tru_iff.2 h1]; rfl
  · rw [tru_iff.2 h2]; rfl
  · rfl
theorem padK2_30 (cs1 cs2 : List Value) (ρ : Nat → Int) (t1 s1 t2 s2 t3 s3 n1 n2 : Nat) (w s q D : Int) : heapL ((hpK2_30 cs1 cs2 ρ t1 s1 t2 s2 t3 s3 n1 n2 w s q D 0).map (·.1)) = heapL ((baseK2_30 cs1 cs2 ρ t1 s1 t2 s2 t3 s3 n1 n2 w s q D).map (·.1) ++ List.replicate 4 .dead) := by kernel_rfl
theorem ordK2_30 {cs1 cs2 : List Value} {ρ : Nat → Int} {t1 s1 t2 s2 t3 s3 n1 n2 : Nat} {w s q D : Int} (f1 : cs1.all Ex.flat = true) (f2 : cs2.all Ex.flat = true) (h1 : okCp (argA n1 n2 2) cs1 cs2 (ringC (othF ρ) 2)) (h2 : okFc (AN n1 n2 1 w s q D) (cpS cs1 cs2 (ringC (othF ρ) 2) 2)) : Orders (selfA (qS (tabW CN1))) Tryd.prog 7 OK2_30 72 (fun m => m ∈ statesK2_30) (fun m => absT (tmL 273 (liveK2_30 cs1 cs2 ρ t1 s1 t2 s2 t3 s3 n1 n2 w s q D m))) (fun m => heapL ((hpK2_30 cs1 cs2 ρ t1 s1 t2 s2 t3 s3 n1 n2 w s q D m).map (·.1))) 2047 :=
  orders_ofW statesK2_30 (fixK2_30 cs1 cs2 ρ t1 s1 t2 s2 t3 s3 n1 n2 w s q D) (obsK2_30 cs1 cs2 ρ t1 s1 t2 s2 t3 s3 n1 n2 w s q D) (cndK2_30_ok h1 h2) (goodK2_30 cs1 cs2 ρ t1 s1 t2 s2 t3 s3 n1 n2 w s q D) closedK2_30 (flatK2_30 f1 f2)
theorem sndK2_30 {cs1 cs2 : List Value} {ρ : Nat → Int} {t1 s1 t2 s2 t3 s3 n1 n2 : Nat} {w s q D : Int} (f1 : cs1.all Ex.flat = true) (f2 : cs2.all Ex.flat = true) (h1 : okCp (argA n1 n2 2) cs1 cs2 (ringC (othF ρ) 2)) (h2 : okFc (AN n1 n2 1 w s q D) (cpS cs1 cs2 (ringC (othF ρ) 2) 2)) (ro : Option Nat) {tm0 : Array Value} {H0 : CH} (hk : H0.length = 72) (hst : Restate 72 tm0 H0 (absT (tmL 273 (liveK2_30 cs1 cs2 ρ t1 s1 t2 s2 t3 s3 n1 n2 w s q D 0))) (heapL ((baseK2_30 cs1 cs2 ρ t1 s1 t2 s2 t3 s3 n1 n2 w s q D).map (·.1)))) :
    Sound Tryd.prog 7 (.code (.region 30 OK2_30 true) ro tm0 H0 []) (.ex .normal (absT (tmL 273 (liveK2_30 cs1 cs2 ρ t1 s1 t2 s2 t3 s3 n1 n2 w s q D 2047))) (heapL ((hpK2_30 cs1 cs2 ρ t1 s1 t2 s2 t3 s3 n1 n2 w s q D 2047).map (·.1))) []) := by
  have ho := ordK2_30 (cs1 := cs1) (cs2 := cs2) (ρ := ρ) (t1 := t1) (s1 := s1) (t2 := t2) (s2 := s2) (t3 := t3) (s3 := s3) (n1 := n1) (n2 := n2) (w := w) (s := s) (q := q) (D := D) f1 f2 h1 h2
  have hr := padK2_30 cs1 cs2 ρ t1 s1 t2 s2 t3 s3 n1 n2 w s q D
  generalize liveK2_30 cs1 cs2 ρ t1 s1 t2 s2 t3 s3 n1 n2 w s q D = lv at *
  generalize hpK2_30 cs1 cs2 ρ t1 s1 t2 s2 t3 s3 n1 n2 w s q D = hp at *
  generalize baseK2_30 cs1 cs2 ρ t1 s1 t2 s2 t3 s3 n1 n2 w s q D = bs at *
  rw [← hk] at ho hst
  exact orders_sound2 (tmS := fun m => absT (tmL 273 (lv m))) (HS := fun m => heapL ((hp m).map (·.1))) (mF := 2047) sfN1 mix12 ho (by rw [hk]; decide) (by decide) hr hst ro
theorem fbK2_30 {cs1 cs2 : List Value} {ρ : Nat → Int} {t1 s1 t2 s2 t3 s3 n1 n2 : Nat} {w s q D : Int} (f1 : cs1.all Ex.flat = true) (f2 : cs2.all Ex.flat = true) : ∀ o, (o, true) ∈ baseK2_30 cs1 cs2 ρ t1 s1 t2 s2 t3 s3 n1 n2 w s q D → FlatO o := fun o ho =>
  flatK2_30 (cs1 := cs1) (cs2 := cs2) (ρ := ρ) (t1 := t1) (s1 := s1) (t2 := t2) (s2 := s2) (t3 := t3) (s3 := s3) (n1 := n1) (n2 := n2) (w := w) (s := s) (q := q) (D := D) f1 f2 0 o (by unfold hpK2_30; exact List.mem_append_left _ (List.mem_append_left _ ho))
end Go.Proofs.YtbocpikgochioaaDoor.Ways
namespace Go.Proofs.YtbocpikgochioaaDoor.Ways
open Go Go.Ex
noncomputable def OK2_31 : Array Oper := regOps Tryd.f5 31
def statesK2_31 : List Nat := [0, 1, 3, 4, 5, 7, 8, 9, 11, 12, 13, 15, 31, 63, 127, 191, 255, 256, 257, 259, 260, 261, 263, 264, 265, 267, 268, 269, 271, 287, 319, 383, 447, 511, 895, 1023, 2047]
def ansK2_31 (j : Nat) : List Bool :=
  match j with
  | 1 => [true]
  | 4 => [true]
  | _ => []
noncomputable def liveK2_31 (cs1 cs2 : List Value) (ρ : Nat → Int) (_t1 _s1 _t2 _s2 _t3 _s3 n1 n2 : Nat) (w s q D : Int) (m : Nat) : List (Nat × Value) := [(2, i D), (4, pt 8 0), (20, pt 71 0), (7, pt 12 0), (11, pt 20 0), (22, pt 75 0), (23, i (hNE cs1 cs2 (ringC (othF ρ) 2) n1 n2 1 w s q D))] ++ bitV m 0 (250, ag [sl 59 0 n1 n1, sl 60 0 n2 n2, sl 70 0 2 2]) ++ bitV m 1 (251, cutV false 76 n1 n2 2) ++ bitV m 2 (252, flV w s q) ++ bitV m 3 (253, i D) ++ bitV m 4 (254, (frV (mLoE cs1 cs2 (ringC (othF ρ) 2) n1 n2 1 w s q D) (mHiE cs1 cs2 (ringC (othF ρ) 2) n1 n2 1 w s q D) (hNE cs1 cs2 (ringC (othF ρ) 2) n1 n2 1 w s q D))) ++ bitV m 5 (249, (frV (mLoE cs1 cs2 (ringC (othF ρ) 2) n1 n2 1 w s q D) (mHiE cs1 cs2 (ringC (othF ρ) 2) n1 n2 1 w s q D) (hNE cs1 cs2 (ringC (othF ρ) 2) n1 n2 1 w s q D))) ++ bitV m 6 (255, ag [i (mLoE cs1 cs2 (ringC (othF ρ) 2) n1 n2 1 w s q D), i (mHiE cs1 cs2 (ringC (othF ρ) 2) n1 n2 1 w s q D)]) ++ bitV m 7 (256, i (hNE cs1 cs2 (ringC (othF ρ) 2) n1 n2 1 w s q D)) ++ bitV m 8 (24, pt 79 0) ++ bitV m 10 (25, i (hNE cs1 cs2 (ringC (othF ρ) 2) n1 n2 1 w s q D))
noncomputable def baseK2_31 (cs1 cs2 : List Value) (ρ : Nat → Int) (t1 s1 t2 s2 t3 s3 n1 n2 : Nat) (w s q D : Int) : List (CO × Bool) := [(.cells powers 149 1 true, true), (.cells pow10 166 1 true, true), (.cells tab32 173 1 true, true), (.cells tab64 174 1 true, true), (.cells cs1 t1 s1 false, true), (.cells cs2 t2 s2 false, true), (.cells (ringC ρ 2) t3 s3 false, true), (.dead, false), (.cells [i w, i s, i q] 29 1 true, false), (.dead, false), (.dead, false), (.dead, false), (.cells [i (tLoE cs1 cs2 (ringC ρ 2) n1 n2 1 w s q D), i (tHiE cs1 cs2 (ringC ρ 2) n1 n2 1 w s q D)] 61 1 true, false), (.dead, false), (.dead, false), (.dead, false), (.dead, false), (.dead, false), (.dead, false), (.dead, false), (.cells [i (mLoE cs1 cs2 (ringC ρ 2) n1 n2 1 w s q D), i (mHiE cs1 cs2 (ringC ρ 2) n1 n2 1 w s q D)] 61 1 true, false), (.dead, false), (.dead, false), (.dead, false), (.dead, false), (.dead, false), (.dead, false), (.dead, false), (.dead, false), (.dead, false), (.dead, false), (.dead, false), (.dead, false), (.dead, false), (.dead, false), (.dead, false), (.dead, false), (.dead, false), (.dead, false), (.dead, false), (.dead, false), (.dead, false), (.dead, false), (.dead, false), (.dead, false), (.dead, false), (.dead, false), (.dead, false), (.dead, false), (.dead, false), (.dead, false), (.dead, false), (.dead, false), (.dead, false), (.dead, false), (.dead, false), (.dead, false), (.dead, false), (.dead, false), (.cells cs1 3 1 false, true), (.cells cs2 3 1 false, true), (.dead, false), (.dead, false), (.dead, false), (.dead, false), (.dead, false), (.dead, false), (.dead, false), (.dead, false), (.dead, false), (.cells (ringC (othF ρ) 2) 69 4 false, true), (.cells [sl 59 0 n1 n1, sl 60 0 n2 n2, sl 70 0 2 2] 27 1 true, false), (.dead, false), (.dead, false), (.dead, false), (.cells [i (tLoE cs1 cs2 (ringC (othF ρ) 2) n1 n2 1 w s q D), i (tHiE cs1 cs2 (ringC (othF ρ) 2) n1 n2 1 w s q D)] 61 1 true, false)]
noncomputable def hpK2_31 (cs1 cs2 : List Value) (ρ : Nat → Int) (t1 s1 t2 s2 t3 s3 n1 n2 : Nat) (w s q D : Int) (m : Nat) : List (CO × Bool) := [(.cells powers 149 1 true, true), (.cells pow10 166 1 true, true), (.cells tab32 173 1 true, true), (.cells tab64 174 1 true, true), (.cells cs1 t1 s1 false, true), (.cells cs2 t2 s2 false, true), (.cells (ringC ρ 2) t3 s3 false, true), (.dead, false), (.cells [i w, i s, i q] 29 1 true, false), (.dead, false), (.dead, false), (.dead, false), (.cells [i (tLoE cs1 cs2 (ringC ρ 2) n1 n2 1 w s q D), i (tHiE cs1 cs2 (ringC ρ 2) n1 n2 1 w s q D)] 61 1 true, false), (.dead, false), (.dead, false), (.dead, false), (.dead, false), (.dead, false), (.dead, false), (.dead, false), (.cells [i (mLoE cs1 cs2 (ringC ρ 2) n1 n2 1 w s q D), i (mHiE cs1 cs2 (ringC ρ 2) n1 n2 1 w s q D)] 61 1 true, false), (.dead, false), (.dead, false), (.dead, false), (.dead, false), (.dead, false), (.dead, false), (.dead, false), (.dead, false), (.dead, false), (.dead, false), (.dead, false), (.dead, false), (.dead, false), (.dead, false), (.dead, false), (.dead, false), (.dead, false), (.dead, false), (.dead, false), (.dead, false), (.dead, false), (.dead, false), (.dead, false), (.dead, false), (.dead, false), (.dead, false), (.dead, false), (.dead, false), (.dead, false), (.dead, false), (.dead, false), (.dead, false), (.dead, false), (.dead, false), (.dead, false), (.dead, false), (.dead, false), (.dead, false), (.cells cs1 3 1 false, true), (.cells cs2 3 1 false, true), (.dead, false), (.dead, false), (.dead, false), (.dead, false), (.dead, false), (.dead, false), (.dead, false), (.dead, false), (.dead, false), (.cells (ringC (othF ρ) 2) 69 4 false, true), (.cells [sl 59 0 n1 n1, sl 60 0 n2 n2, sl 70 0 2 2] 27 1 true, false), (.dead, false), (.dead, false), (.dead, false), (.cells [i (tLoE cs1 cs2 (ringC (othF ρ) 2) n1 n2 1 w s q D), i (tHiE cs1 cs2 (ringC (othF ρ) 2) n1 n2 1 w s q D)] 61 1 true, false)] ++ [bitC m 1 (.cells cs1 3 1 false, true), bitC m 1 (.cells cs2 3 1 false, true), bitC m 1 (.cells (ringC (othF ρ) 2) 103 4 false, true)] ++ [bitC m 8 (.cells (cond (Nat.testBit m 9) [i (mLoE cs1 cs2 (ringC (othF ρ) 2) n1 n2 1 w s q D), i (mHiE cs1 cs2 (ringC (othF ρ) 2) n1 n2 1 w s q D)] [i 0, i 0]) 61 1 true, false)]
def rhoK2_31 (j : Nat) : List Nat :=
  match j with
  | 1 => [0, 1, 2, 3, 4, 5, 6, 7, 8, 9, 10, 11, 12, 13, 14, 15, 16, 17, 18, 19, 20, 21, 22, 23, 24, 25, 26, 27, 28, 29, 30, 31, 32, 33, 34, 35, 36, 37, 38, 39, 40, 41, 42, 43, 44, 45, 46, 47, 48, 49, 50, 51, 52, 53, 54, 55, 56, 57, 58, 59, 60, 61, 62, 63, 64, 65, 66, 67, 68, 69, 70, 71, 72, 73, 74, 75, 80, 81, 82, 79]
  | 8 => [0, 1, 2, 3, 4, 5, 6, 7, 8, 9, 10, 11, 12, 13, 14, 15, 16, 17, 18, 19, 20, 21, 22, 23, 24, 25, 26, 27, 28, 29, 30, 31, 32, 33, 34, 35, 36, 37, 38, 39, 40, 41, 42, 43, 44, 45, 46, 47, 48, 49, 50, 51, 52, 53, 54, 55, 56, 57, 58, 59, 60, 61, 62, 63, 64, 65, 66, 67, 68, 69, 70, 71, 72, 73, 74, 75, 76, 77, 78, 80]
  | _ => List.range 80
def lenK2_31 (j : Nat) : Nat :=
  match j with
  | 1 => 83
  | 8 => 81
  | _ => 80
noncomputable def cndK2_31 (cs1 cs2 : List Value) (ρ : Nat → Int) (_t1 _s1 _t2 _s2 _t3 _s3 n1 n2 : Nat) (w s q D : Int) (j : Nat) : List Bool :=
  match j with
  | 1 => [tru (okCp (argA n1 n2 2) cs1 cs2 (ringC (othF ρ) 2))]
  | 4 => [tru (okFc (AN n1 n2 1 w s q D) (cpS cs1 cs2 (ringC (othF ρ) 2) 2))]
  | _ => []
theorem fixK2_31 (cs1 cs2 : List Value) (ρ : Nat → Int) (t1 s1 t2 s2 t3 s3 n1 n2 : Nat) (w s q D : Int) : (trsN OK2_31 statesK2_31).map (outW (tabW CN1) Tryd.prog 7 CN1 Fn.law03_RotorNested OK2_31 273 (liveK2_31 cs1 cs2 ρ t1 s1 t2 s2 t3 s3 n1 n2 w s q D) (hpK2_31 cs1 cs2 ρ t1 s1 t2 s2 t3 s3 n1 n2 w s q D)) = (trsN OK2_31 statesK2_31).map fun t => (outW (tabW CN1) Tryd.prog 7 CN1 Fn.law03_RotorNested OK2_31 273 (liveK2_31 cs1 cs2 ρ t1 s1 t2 s2 t3 s3 n1 n2 w s q D) (hpK2_31 cs1 cs2 ρ t1 s1 t2 s2 t3 s3 n1 n2 w s q D) t).fix := by kernel_rfl
theorem obsK2_31 (cs1 cs2 : List Value) (ρ : Nat → Int) (t1 s1 t2 s2 t3 s3 n1 n2 : Nat) (w s q D : Int) : (trsN OK2_31 statesK2_31).map (obsW (tabW CN1) Tryd.prog 7 CN1 Fn.law03_RotorNested OK2_31 273 (liveK2_31 cs1 cs2 ρ t1 s1 t2 s2 t3 s3 n1 n2 w s q D) (hpK2_31 cs1 cs2 ρ t1 s1 t2 s2 t3 s3 n1 n2 w s q D) rhoK2_31 ansK2_31) = (trsN OK2_31 statesK2_31).map (expN 273 (liveK2_31 cs1 cs2 ρ t1 s1 t2 s2 t3 s3 n1 n2 w s q D) (hpK2_31 cs1 cs2 ρ t1 s1 t2 s2 t3 s3 n1 n2 w s q D) rhoK2_31 (cndK2_31 cs1 cs2 ρ t1 s1 t2 s2 t3 s3 n1 n2 w s q D) lenK2_31) := by kernel_rfl
theorem goodK2_31 (cs1 cs2 : List Value) (ρ : Nat → Int) (t1 s1 t2 s2 t3 s3 n1 n2 : Nat) (w s q D : Int) : ((trsN OK2_31 statesK2_31).all fun t => goodR 76 (lenK2_31 t.2) (liveK2_31 cs1 cs2 ρ t1 s1 t2 s2 t3 s3 n1 n2 w s q D (t.1 ||| 2 ^ t.2)) (hpK2_31 cs1 cs2 ρ t1 s1 t2 s2 t3 s3 n1 n2 w s q D (t.1 ||| 2 ^ t.2)) (rhoK2_31 t.2)) = true := by kernel_rfl
theorem closedK2_31 : closedN OK2_31 statesK2_31 2047 = true := by kernel_rfl
theorem flatK2_31 {cs1 cs2 : List Value} {ρ : Nat → Int} {t1 s1 t2 s2 t3 s3 n1 n2 : Nat} {w s q D : Int} (f1 : cs1.all Ex.flat = true) (f2 : cs2.all Ex.flat = true) : ∀ m o, (o, true) ∈ hpK2_31 cs1 cs2 ρ t1 s1 t2 s2 t3 s3 n1 n2 w s q D m → FlatO o := by
  intro m o ho
  unfold hpK2_31  bitC at ho
  simp only [cond, List.cons_append, List.nil_append, List.mem_cons, List.not_mem_nil, or_false, Prod.mk.injEq, Bool.true_eq_false, and_false, false_or] at ho
  rcases ho with ⟨rfl, _⟩ | ⟨rfl, _⟩ | ⟨rfl, _⟩ | ⟨rfl, _⟩ | ⟨rfl, _⟩ | ⟨rfl, _⟩ | ⟨rfl, _⟩ | ⟨rfl, _⟩ | ⟨rfl, _⟩ | ⟨rfl, _⟩ | ho | ho | ho | ho
  · exact flatO_of flatP
  · exact flatO_of flat10
  · exact flatO_of flat32
  · exact flatO_of flat64
  · exact flatO_of f1
  · exact flatO_of f2
  · exact flatO_of (ringC_flat _ _)
  · exact flatO_of f1
  · exact flatO_of f2
  · exact flatO_of (ringC_flat _ _)
  all_goals
    split at ho <;> first
      | (cases ho; done)
      | (injection ho with h4 h5; subst h4; exact flatO_of (by first | assumption | exact ringC_flat _ _))
theorem cndK2_31_ok {cs1 cs2 : List Value} {ρ : Nat → Int} {t1 s1 t2 s2 t3 s3 n1 n2 : Nat} {w s q D : Int} (h1 : okCp (argA n1 n2 2) cs1 cs2 (ringC (othF ρ) 2)) (h2 : okFc (AN n1 n2 1 w s q D) (cpS cs1 cs2 (ringC (othF ρ) 2) 2)) : ∀ j, cndK2_31 cs1 cs2 ρ t1 s1 t2 s2 t3 s3 n1 n2 w s q D j = (ansK2_31 j).take (cndK2_31 cs1 cs2 ρ t1 s1 t2 s2 t3 s3 n1 n2 w s q D j).length := by
  intro j
  unfold cndK2_31 ansK2_31
  split
  · rw [tru_iff.2 h1]; rfl
  · rw [tru_iff.2 h2]; rfl
  · rfl
theorem padK2_31 (cs1 cs2 : List Value) (ρ : Nat → Int) (t1 s1 t2 s2 t3 s3 n1 n2 : Nat) (w s q D : Int) : heapL ((hpK2_31 cs1 cs2 ρ t1 s1 t2 s2 t3 s3 n1 n2 w s q D 0).map (·.1)) = heapL ((baseK2_31 cs1 cs2 ρ t1 s1 t2 s2 t3 s3 n1 n2 w s q D).map (·.1) ++ List.replicate 4 .dead) := by kernel_rfl
theorem ordK2_31 {cs1 cs2 : List Value} {ρ : Nat → Int} {t1 s1 t2 s2 t3 s3 n1 n2 : Nat} {w s q D : Int} (f1 : cs1.all Ex.flat = true) (f2 : cs2.all Ex.flat = true) (h1 : okCp (argA n1 n2 2) cs1 cs2 (ringC (othF ρ) 2)) (h2 : okFc (AN n1 n2 1 w s q D) (cpS cs1 cs2 (ringC (othF ρ) 2) 2)) : Orders (selfA (qS (tabW CN1))) Tryd.prog 7 OK2_31 76 (fun m => m ∈ statesK2_31) (fun m => absT (tmL 273 (liveK2_31 cs1 cs2 ρ t1 s1 t2 s2 t3 s3 n1 n2 w s q D m))) (fun m => heapL ((hpK2_31 cs1 cs2 ρ t1 s1 t2 s2 t3 s3 n1 n2 w s q D m).map (·.1))) 2047 :=
  orders_ofW statesK2_31 (fixK2_31 cs1 cs2 ρ t1 s1 t2 s2 t3 s3 n1 n2 w s q D) (obsK2_31 cs1 cs2 ρ t1 s1 t2 s2 t3 s3 n1 n2 w s q D) (cndK2_31_ok h1 h2) (goodK2_31 cs1 cs2 ρ t1 s1 t2 s2 t3 s3 n1 n2 w s q D) closedK2_31 (flatK2_31 f1 f2)
theorem sndK2_31 {cs1 cs2 : List Value} {ρ : Nat → Int} {t1 s1 t2 s2 t3 s3 n1 n2 : Nat} {w s q D : Int} (f1 : cs1.all Ex.flat = true) (f2 : cs2.all Ex.flat = true) (h1 : okCp (argA n1 n2 2) cs1 cs2 (ringC (othF ρ) 2)) (h2 : okFc (AN n1 n2 1 w s q D) (cpS cs1 cs2 (ringC (othF ρ) 2) 2)) (ro : Option Nat) {tm0 : Array Value} {H0 : CH} (hk : H0.length = 76) (hst : Restate 76 tm0 H0 (absT (tmL 273 (liveK2_31 cs1 cs2 ρ t1 s1 t2 s2 t3 s3 n1 n2 w s q D 0))) (heapL ((baseK2_31 cs1 cs2 ρ t1 s1 t2 s2 t3 s3 n1 n2 w s q D).map (·.1)))) :
    Sound Tryd.prog 7 (.code (.region 31 OK2_31 true) ro tm0 H0 []) (.ex .normal (absT (tmL 273 (liveK2_31 cs1 cs2 ρ t1 s1 t2 s2 t3 s3 n1 n2 w s q D 2047))) (heapL ((hpK2_31 cs1 cs2 ρ t1 s1 t2 s2 t3 s3 n1 n2 w s q D 2047).map (·.1))) []) := by
  have ho := ordK2_31 (cs1 := cs1) (cs2 := cs2) (ρ := ρ) (t1 := t1) (s1 := s1) (t2 := t2) (s2 := s2) (t3 := t3) (s3 := s3) (n1 := n1) (n2 := n2) (w := w) (s := s) (q := q) (D := D) f1 f2 h1 h2
  have hr := padK2_31 cs1 cs2 ρ t1 s1 t2 s2 t3 s3 n1 n2 w s q D
  generalize liveK2_31 cs1 cs2 ρ t1 s1 t2 s2 t3 s3 n1 n2 w s q D = lv at *
  generalize hpK2_31 cs1 cs2 ρ t1 s1 t2 s2 t3 s3 n1 n2 w s q D = hp at *
  generalize baseK2_31 cs1 cs2 ρ t1 s1 t2 s2 t3 s3 n1 n2 w s q D = bs at *
  rw [← hk] at ho hst
  exact orders_sound2 (tmS := fun m => absT (tmL 273 (lv m))) (HS := fun m => heapL ((hp m).map (·.1))) (mF := 2047) sfN1 mix12 ho (by rw [hk]; decide) (by decide) hr hst ro
theorem fbK2_31 {cs1 cs2 : List Value} {ρ : Nat → Int} {t1 s1 t2 s2 t3 s3 n1 n2 : Nat} {w s q D : Int} (f1 : cs1.all Ex.flat = true) (f2 : cs2.all Ex.flat = true) : ∀ o, (o, true) ∈ baseK2_31 cs1 cs2 ρ t1 s1 t2 s2 t3 s3 n1 n2 w s q D → FlatO o := fun o ho =>
  flatK2_31 (cs1 := cs1) (cs2 := cs2) (ρ := ρ) (t1 := t1) (s1 := s1) (t2 := t2) (s2 := s2) (t3 := t3) (s3 := s3) (n1 := n1) (n2 := n2) (w := w) (s := s) (q := q) (D := D) f1 f2 0 o (by unfold hpK2_31; exact List.mem_append_left _ (List.mem_append_left _ ho))
end Go.Proofs.YtbocpikgochioaaDoor.Ways
namespace Go.Proofs.YtbocpikgochioaaDoor.Ways
open Go Go.Ex
noncomputable def OK3_30 : Array Oper := regOps Tryd.f5 30
def statesK3_30 : List Nat := [0, 1, 3, 4, 5, 7, 8, 9, 11, 12, 13, 15, 31, 63, 127, 191, 255, 256, 257, 259, 260, 261, 263, 264, 265, 267, 268, 269, 271, 287, 319, 383, 447, 511, 895, 1023, 2047]
def ansK3_30 (j : Nat) : List Bool :=
  match j with
  | 1 => [true]
  | 4 => [true]
  | _ => []
noncomputable def liveK3_30 (cs1 cs2 : List Value) (ρ : Nat → Int) (_t1 _s1 _t2 _s2 _t3 _s3 n1 n2 : Nat) (w s q D : Int) (m : Nat) : List (Nat × Value) := [(2, i D), (4, pt 8 0), (20, pt 80 0), (7, pt 12 0), (11, pt 20 0)] ++ bitV m 0 (242, ag [sl 65 0 n1 n1, sl 66 0 n2 n2, sl 79 0 3 3]) ++ bitV m 1 (243, cutV false 81 n1 n2 3) ++ bitV m 2 (244, flV w s q) ++ bitV m 3 (245, i D) ++ bitV m 4 (246, (frV (tLoE cs1 cs2 (ringC (othF ρ) 3) n1 n2 2 w s q D) (tHiE cs1 cs2 (ringC (othF ρ) 3) n1 n2 2 w s q D) (hNE cs1 cs2 (ringC (othF ρ) 3) n1 n2 2 w s q D))) ++ bitV m 5 (241, (frV (tLoE cs1 cs2 (ringC (othF ρ) 3) n1 n2 2 w s q D) (tHiE cs1 cs2 (ringC (othF ρ) 3) n1 n2 2 w s q D) (hNE cs1 cs2 (ringC (othF ρ) 3) n1 n2 2 w s q D))) ++ bitV m 6 (247, ag [i (tLoE cs1 cs2 (ringC (othF ρ) 3) n1 n2 2 w s q D), i (tHiE cs1 cs2 (ringC (othF ρ) 3) n1 n2 2 w s q D)]) ++ bitV m 7 (248, i (hNE cs1 cs2 (ringC (othF ρ) 3) n1 n2 2 w s q D)) ++ bitV m 8 (22, pt 84 0) ++ bitV m 10 (23, i (hNE cs1 cs2 (ringC (othF ρ) 3) n1 n2 2 w s q D))
noncomputable def baseK3_30 (cs1 cs2 : List Value) (ρ : Nat → Int) (t1 s1 t2 s2 t3 s3 n1 n2 : Nat) (w s q D : Int) : List (CO × Bool) := [(.cells powers 149 1 true, true), (.cells pow10 166 1 true, true), (.cells tab32 173 1 true, true), (.cells tab64 174 1 true, true), (.cells cs1 t1 s1 false, true), (.cells cs2 t2 s2 false, true), (.cells (ringC ρ 3) t3 s3 false, true), (.dead, false), (.cells [i w, i s, i q] 29 1 true, false), (.dead, false), (.dead, false), (.dead, false), (.cells [i (tLoE cs1 cs2 (ringC ρ 3) n1 n2 2 w s q D), i (tHiE cs1 cs2 (ringC ρ 3) n1 n2 2 w s q D)] 61 1 true, false), (.dead, false), (.dead, false), (.dead, false), (.dead, false), (.dead, false), (.dead, false), (.dead, false), (.cells [i (mLoE cs1 cs2 (ringC ρ 3) n1 n2 2 w s q D), i (mHiE cs1 cs2 (ringC ρ 3) n1 n2 2 w s q D)] 61 1 true, false), (.dead, false), (.dead, false), (.dead, false), (.dead, false), (.dead, false), (.dead, false), (.dead, false), (.dead, false), (.dead, false), (.dead, false), (.dead, false), (.dead, false), (.dead, false), (.dead, false), (.dead, false), (.dead, false), (.dead, false), (.dead, false), (.dead, false), (.dead, false), (.dead, false), (.dead, false), (.dead, false), (.dead, false), (.dead, false), (.dead, false), (.dead, false), (.dead, false), (.dead, false), (.dead, false), (.dead, false), (.dead, false), (.dead, false), (.dead, false), (.dead, false), (.dead, false), (.dead, false), (.dead, false), (.dead, false), (.dead, false), (.dead, false), (.dead, false), (.dead, false), (.dead, false), (.cells cs1 3 1 false, true), (.cells cs2 3 1 false, true), (.dead, false), (.dead, false), (.dead, false), (.dead, false), (.dead, false), (.dead, false), (.dead, false), (.dead, false), (.dead, false), (.dead, false), (.dead, false), (.dead, false), (.cells (ringC (othF ρ) 3) 69 4 false, true), (.cells [sl 65 0 n1 n1, sl 66 0 n2 n2, sl 79 0 3 3] 27 1 true, false)]
noncomputable def hpK3_30 (cs1 cs2 : List Value) (ρ : Nat → Int) (t1 s1 t2 s2 t3 s3 n1 n2 : Nat) (w s q D : Int) (m : Nat) : List (CO × Bool) := [(.cells powers 149 1 true, true), (.cells pow10 166 1 true, true), (.cells tab32 173 1 true, true), (.cells tab64 174 1 true, true), (.cells cs1 t1 s1 false, true), (.cells cs2 t2 s2 false, true), (.cells (ringC ρ 3) t3 s3 false, true), (.dead, false), (.cells [i w, i s, i q] 29 1 true, false), (.dead, false), (.dead, false), (.dead, false), (.cells [i (tLoE cs1 cs2 (ringC ρ 3) n1 n2 2 w s q D), i (tHiE cs1 cs2 (ringC ρ 3) n1 n2 2 w s q D)] 61 1 true, false), (.dead, false), (.dead, false), (.dead, false), (.dead, false), (.dead, false), (.dead, false), (.dead, false), (.cells [i (mLoE cs1 cs2 (ringC ρ 3) n1 n2 2 w s q D), i (mHiE cs1 cs2 (ringC ρ 3) n1 n2 2 w s q D)] 61 1 true, false), (.dead, false), (.dead, false), (.dead, false), (.dead, false), (.dead, false), (.dead, false), (.dead, false), (.dead, false), (.dead, false), (.dead, false), (.dead, false), (.dead, false), (.dead, false), (.dead, false), (.dead, false), (.dead, false), (.dead, false), (.dead, false), (.dead, false), (.dead, false), (.dead, false), (.dead, false), (.dead, false), (.dead, false), (.dead, false), (.dead, false), (.dead, false), (.dead, false), (.dead, false), (.dead, false), (.dead, false), (.dead, false), (.dead, false), (.dead, false), (.dead, false), (.dead, false), (.dead, false), (.dead, false), (.dead, false), (.dead, false), (.dead, false), (.dead, false), (.dead, false), (.dead, false), (.cells cs1 3 1 false, true), (.cells cs2 3 1 false, true), (.dead, false), (.dead, false), (.dead, false), (.dead, false), (.dead, false), (.dead, false), (.dead, false), (.dead, false), (.dead, false), (.dead, false), (.dead, false), (.dead, false), (.cells (ringC (othF ρ) 3) 69 4 false, true), (.cells [sl 65 0 n1 n1, sl 66 0 n2 n2, sl 79 0 3 3] 27 1 true, false)] ++ [bitC m 1 (.cells cs1 3 1 false, true), bitC m 1 (.cells cs2 3 1 false, true), bitC m 1 (.cells (ringC (othF ρ) 3) 103 4 false, true)] ++ [bitC m 8 (.cells (cond (Nat.testBit m 9) [i (tLoE cs1 cs2 (ringC (othF ρ) 3) n1 n2 2 w s q D), i (tHiE cs1 cs2 (ringC (othF ρ) 3) n1 n2 2 w s q D)] [i 0, i 0]) 61 1 true, false)]
def rhoK3_30 (j : Nat) : List Nat :=
  match j with
  | 1 => [0, 1, 2, 3, 4, 5, 6, 7, 8, 9, 10, 11, 12, 13, 14, 15, 16, 17, 18, 19, 20, 21, 22, 23, 24, 25, 26, 27, 28, 29, 30, 31, 32, 33, 34, 35, 36, 37, 38, 39, 40, 41, 42, 43, 44, 45, 46, 47, 48, 49, 50, 51, 52, 53, 54, 55, 56, 57, 58, 59, 60, 61, 62, 63, 64, 65, 66, 67, 68, 69, 70, 71, 72, 73, 74, 75, 76, 77, 78, 79, 80, 85, 86, 87, 84]
  | 8 => [0, 1, 2, 3, 4, 5, 6, 7, 8, 9, 10, 11, 12, 13, 14, 15, 16, 17, 18, 19, 20, 21, 22, 23, 24, 25, 26, 27, 28, 29, 30, 31, 32, 33, 34, 35, 36, 37, 38, 39, 40, 41, 42, 43, 44, 45, 46, 47, 48, 49, 50, 51, 52, 53, 54, 55, 56, 57, 58, 59, 60, 61, 62, 63, 64, 65, 66, 67, 68, 69, 70, 71, 72, 73, 74, 75, 76, 77, 78, 79, 80, 81, 82, 83, 85]
  | _ => List.range 85
def lenK3_30 (j : Nat) : Nat :=
  match j with
  | 1 => 88
  | 8 => 86
  | _ => 85
noncomputable def cndK3_30 (cs1 cs2 : List Value) (ρ : Nat → Int) (_t1 _s1 _t2 _s2 _t3 _s3 n1 n2 : Nat) (w s q D : Int) (j : Nat) : List Bool :=
  match j with
  | 1 => [tru (okCp (argA n1 n2 3) cs1 cs2 (ringC (othF ρ) 3))]
  | 4 => [tru (okFc (AN n1 n2 2 w s q D) (cpS cs1 cs2 (ringC (othF ρ) 3) 3))]
  | _ => []
theorem fixK3_30 (cs1 cs2 : List Value) (ρ : Nat → Int) (t1 s1 t2 s2 t3 s3 n1 n2 : Nat) (w s q D : Int) : (trsN OK3_30 statesK3_30).map (outW (tabW CN1) Tryd.prog 7 CN1 Fn.law03_RotorNested OK3_30 273 (liveK3_30 cs1 cs2 ρ t1 s1 t2 s2 t3 s3 n1 n2 w s q D) (hpK3_30 cs1 cs2 ρ t1 s1 t2 s2 t3 s3 n1 n2 w s q D)) = (trsN OK3_30 statesK3_30).map fun t => (outW (tabW CN1) Tryd.prog 7 CN1 Fn.law03_RotorNested OK3_30 273 (liveK3_30 cs1 cs2 ρ t1 s1 t2 s2 t3 s3 n1 n2 w s q D) (hpK3_30 cs1 cs2 ρ t1 s1 t2 s2 t3 s3 n1 n2 w s q D) t).fix := by kernel_rfl
theorem obsK3_30 (cs1 cs2 : List Value) (ρ : Nat → Int) (t1 s1 t2 s2 t3 s3 n1 n2 : Nat) (w s q D : Int) : (trsN OK3_30 statesK3_30).map (obsW (tabW CN1) Tryd.prog 7 CN1 Fn.law03_RotorNested OK3_30 273 (liveK3_30 cs1 cs2 ρ t1 s1 t2 s2 t3 s3 n1 n2 w s q D) (hpK3_30 cs1 cs2 ρ t1 s1 t2 s2 t3 s3 n1 n2 w s q D) rhoK3_30 ansK3_30) = (trsN OK3_30 statesK3_30).map (expN 273 (liveK3_30 cs1 cs2 ρ t1 s1 t2 s2 t3 s3 n1 n2 w s q D) (hpK3_30 cs1 cs2 ρ t1 s1 t2 s2 t3 s3 n1 n2 w s q D) rhoK3_30 (cndK3_30 cs1 cs2 ρ t1 s1 t2 s2 t3 s3 n1 n2 w s q D) lenK3_30) := by kernel_rfl
theorem goodK3_30 (cs1 cs2 : List Value) (ρ : Nat → Int) (t1 s1 t2 s2 t3 s3 n1 n2 : Nat) (w s q D : Int) : ((trsN OK3_30 statesK3_30).all fun t => goodR 81 (lenK3_30 t.2) (liveK3_30 cs1 cs2 ρ t1 s1 t2 s2 t3 s3 n1 n2 w s q D (t.1 ||| 2 ^ t.2)) (hpK3_30 cs1 cs2 ρ t1 s1 t2 s2 t3 s3 n1 n2 w s q D (t.1 ||| 2 ^ t.2)) (rhoK3_30 t.2)) = true := by kernel_rfl
theorem closedK3_30 : closedN OK3_30 statesK3_30 2047 = true := by kernel_rfl
theorem flatK3_30 {cs1 cs2 : List Value} {ρ : Nat → Int} {t1 s1 t2 s2 t3 s3 n1 n2 : Nat} {w s q D : Int} (f1 : cs1.all Ex.flat = true) (f2 : cs2.all Ex.flat = true) : ∀ m o, (o, true) ∈ hpK3_30 cs1 cs2 ρ t1 s1 t2 s2 t3 s3 n1 n2 w s q D m → FlatO o := by
  intro m o ho
  unfold hpK3_30  bitC at ho
  simp only [cond, List.cons_append, List.nil_append, List.mem_cons, List.not_mem_nil, or_false, Prod.mk.injEq, Bool.true_eq_false, and_false, false_or] at ho
  rcases ho with ⟨rfl, _⟩ | ⟨rfl, _⟩ | ⟨rfl, _⟩ | ⟨rfl, _⟩ | ⟨rfl, _⟩ | ⟨rfl, _⟩ | ⟨rfl, _⟩ | ⟨rfl, _⟩ | ⟨rfl, _⟩ | ⟨rfl, _⟩ | ho | ho | ho | ho
  · exact flatO_of flatP
  · exact flatO_of flat10
  · exact flatO_of flat32
  · exact flatO_of flat64
  · exact flatO_of f1
  · exact flatO_of f2
  · exact flatO_of (ringC_flat _ _)
  · exact flatO_of f1
  · exact flatO_of f2
  · exact flatO_of (ringC_flat _ _)
  all_goals
    split at ho <;> first
      | (cases ho; done)
      | (injection ho with h4 h5; subst h4; exact flatO_of (by first | assumption | exact ringC_flat _ _))
theorem cndK3_30_ok {cs1 cs2 : List Value} {ρ : Nat → Int} {t1 s1 t2 s2 t3 s3 n1 n2 : Nat} {w s q D : Int} (h1 : okCp (argA n1 n2 3) cs1 cs2 (ringC (othF ρ) 3)) (h2 : okFc (AN n1 n2 2 w s q D) (cpS cs1 cs2 (ringC (othF ρ) 3) 3)) : ∀ j, cndK3_30 cs1 cs2 ρ t1 s1 t2 s2 t3 s3 n1 n2 w s q D j = (ansK3_30 j).take (cndK3_30 cs1 cs2 ρ t1 s1 t2 s2 t3 s3 n1 n2 w s q D j).length := by
  intro j
  unfold cndK3_30 ansK3_30
  split
  · rw [tru_iff.2 h1]; rfl
  · rw [tru_iff.2 h2]; rfl
  · rfl
theorem padK3_30 (cs1 cs2 : List Value) (ρ : Nat → Int) (t1 s1 t2 s2 t3 s3 n1 n2 : Nat) (w s q D : Int) : heapL ((hpK3_30 cs1 cs2 ρ t1 s1 t2 s2 t3 s3 n1 n2 w s q D 0).map (·.1)) = heapL ((baseK3_30 cs1 cs2 ρ t1 s1 t2 s2 t3 s3 n1 n2 w s q D).map (·.1) ++ List.replicate 4 .dead) := by kernel_rfl
theorem ordK3_30 {cs1 cs2 : List Value} {ρ : Nat → Int} {t1 s1 t2 s2 t3 s3 n1 n2 : Nat} {w s q D : Int} (f1 : cs1.all Ex.flat = true) (f2 : cs2.all Ex.flat = true) (h1 : okCp (argA n1 n2 3) cs1 cs2 (ringC (othF ρ) 3)) (h2 : okFc (AN n1 n2 2 w s q D) (cpS cs1 cs2 (ringC (othF ρ) 3) 3)) : Orders (selfA (qS (tabW CN1))) Tryd.prog 7 OK3_30 81 (fun m => m ∈ statesK3_30) (fun m => absT (tmL 273 (liveK3_30 cs1 cs2 ρ t1 s1 t2 s2 t3 s3 n1 n2 w s q D m))) (fun m => heapL ((hpK3_30 cs1 cs2 ρ t1 s1 t2 s2 t3 s3 n1 n2 w s q D m).map (·.1))) 2047 :=
  orders_ofW statesK3_30 (fixK3_30 cs1 cs2 ρ t1 s1 t2 s2 t3 s3 n1 n2 w s q D) (obsK3_30 cs1 cs2 ρ t1 s1 t2 s2 t3 s3 n1 n2 w s q D) (cndK3_30_ok h1 h2) (goodK3_30 cs1 cs2 ρ t1 s1 t2 s2 t3 s3 n1 n2 w s q D) closedK3_30 (flatK3_30 f1 f2)
theorem sndK3_30 {cs1 cs2 : List Value} {ρ : Nat → Int} {t1 s1 t2 s2 t3 s3 n1 n2 : Nat} {w s q D : Int} (f1 : cs1.all Ex.flat = true) (f2 : cs2.all Ex.flat = true) (h1 : okCp (argA n1 n2 3) cs1 cs2 (ringC (othF ρ) 3)) (h2 : okFc (AN n1 n2 2 w s q D) (cpS cs1 cs2 (ringC (othF ρ) 3) 3)) (ro : Option Nat) {tm0 : Array Value} {H0 : CH} (hk : H0.length = 81) (hst : Restate 81 tm0 H0 (absT (tmL 273 (liveK3_30 cs1 cs2 ρ t1 s1 t2 s2 t3 s3 n1 n2 w s q D 0))) (heapL ((baseK3_30 cs1 cs2 ρ t1 s1 t2 s2 t3 s3 n1 n2 w s q D).map (·.1)))) :
    Sound Tryd.prog 7 (.code (.region 30 OK3_30 true) ro tm0 H0 []) (.ex .normal (absT (tmL 273 (liveK3_30 cs1 cs2 ρ t1 s1 t2 s2 t3 s3 n1 n2 w s q D 2047))) (heapL ((hpK3_30 cs1 cs2 ρ t1 s1 t2 s2 t3 s3 n1 n2 w s q D 2047).map (·.1))) []) := by
  have ho := ordK3_30 (cs1 := cs1) (cs2 := cs2) (ρ := ρ) (t1 := t1) (s1 := s1) (t2 := t2) (s2 := s2) (t3 := t3) (s3 := s3) (n1 := n1) (n2 := n2) (w := w) (s := s) (q := q) (D := D) f1 f2 h1 h2
  have hr := padK3_30 cs1 cs2 ρ t1 s1 t2 s2 t3 s3 n1 n2 w s q D
  generalize liveK3_30 cs1 cs2 ρ t1 s1 t2 s2 t3 s3 n1 n2 w s q D = lv at *
  generalize hpK3_30 cs1 cs2 ρ t1 s1 t2 s2 t3 s3 n1 n2 w s q D = hp at *
  generalize baseK3_30 cs1 cs2 ρ t1 s1 t2 s2 t3 s3 n1 n2 w s q D = bs at *
  rw [← hk] at ho hst
  exact orders_sound2 (tmS := fun m => absT (tmL 273 (lv m))) (HS := fun m => heapL ((hp m).map (·.1))) (mF := 2047) sfN1 mix12 ho (by rw [hk]; decide) (by decide) hr hst ro
theorem fbK3_30 {cs1 cs2 : List Value} {ρ : Nat → Int} {t1 s1 t2 s2 t3 s3 n1 n2 : Nat} {w s q D : Int} (f1 : cs1.all Ex.flat = true) (f2 : cs2.all Ex.flat = true) : ∀ o, (o, true) ∈ baseK3_30 cs1 cs2 ρ t1 s1 t2 s2 t3 s3 n1 n2 w s q D → FlatO o := fun o ho =>
  flatK3_30 (cs1 := cs1) (cs2 := cs2) (ρ := ρ) (t1 := t1) (s1 := s1) (t2 := t2) (s2 := s2) (t3 := t3) (s3 := s3) (n1 := n1) (n2 := n2) (w := w) (s := s) (q := q) (D := D) f1 f2 0 o (by unfold hpK3_30; exact List.mem_append_left _ (List.mem_append_left _ ho))
end Go.Proofs.YtbocpikgochioaaDoor.Ways
namespace Go.Proofs.YtbocpikgochioaaDoor.Ways
open Go Go.Ex
noncomputable def OK3_31 : Array Oper := regOps Tryd.f5 31
def statesK3_31 : List Nat := [0, 1, 3, 4, 5, 7, 8, 9, 11, 12, 13, 15, 31, 63, 127, 191, 255, 256, 257, 259, 260, 261, 263, 264, 265, 267, 268, 269, 271, 287, 319, 383, 447, 511, 895, 1023, 2047]
def ansK3_31 (j : Nat) : List Bool :=
  match j with
  | 1 => [true]
  | 4 => [true]
  | _ => []
noncomputable def liveK3_31 (cs1 cs2 : List Value) (ρ : Nat → Int) (_t1 _s1 _t2 _s2 _t3 _s3 n1 n2 : Nat) (w s q D : Int) (m : Nat) : List (Nat × Value) := [(2, i D), (4, pt 8 0), (20, pt 80 0), (7, pt 12 0), (11, pt 20 0), (22, pt 84 0), (23, i (hNE cs1 cs2 (ringC (othF ρ) 3) n1 n2 2 w s q D))] ++ bitV m 0 (250, ag [sl 65 0 n1 n1, sl 66 0 n2 n2, sl 79 0 3 3]) ++ bitV m 1 (251, cutV false 85 n1 n2 3) ++ bitV m 2 (252, flV w s q) ++ bitV m 3 (253, i D) ++ bitV m 4 (254, (frV (mLoE cs1 cs2 (ringC (othF ρ) 3) n1 n2 2 w s q D) (mHiE cs1 cs2 (ringC (othF ρ) 3) n1 n2 2 w s q D) (hNE cs1 cs2 (ringC (othF ρ) 3) n1 n2 2 w s q D))) ++ bitV m 5 (249, (frV (mLoE cs1 cs2 (ringC (othF ρ) 3) n1 n2 2 w s q D) (mHiE cs1 cs2 (ringC (othF ρ) 3) n1 n2 2 w s q D) (hNE cs1 cs2 (ringC (othF ρ) 3) n1 n2 2 w s q D))) ++ bitV m 6 (255, ag [i (mLoE cs1 cs2 (ringC (othF ρ) 3) n1 n2 2 w s q D), i (mHiE cs1 cs2 (ringC (othF ρ) 3) n1 n2 2 w s q D)]) ++ bitV m 7 (256, i (hNE cs1 cs2 (ringC (othF ρ) 3) n1 n2 2 w s q D)) ++ bitV m 8 (24, pt 88 0) ++ bitV m 10 (25, i (hNE cs1 cs2 (ringC (othF ρ) 3) n1 n2 2 w s q D))
noncomputable def baseK3_31 (cs1 cs2 : List Value) (ρ : Nat → Int) (t1 s1 t2 s2 t3 s3 n1 n2 : Nat) (w s q D : Int) : List (CO × Bool) := [(.cells powers 149 1 true, true), (.cells pow10 166 1 true, true), (.cells tab32 173 1 true, true), (.cells tab64 174 1 true, true), (.cells cs1 t1 s1 false, true), (.cells cs2 t2 s2 false, true), (.cells (ringC ρ 3) t3 s3 false, true), (.dead, false), (.cells [i w, i s, i q] 29 1 true, false), (.dead, false), (.dead, false), (.dead, false), (.cells [i (tLoE cs1 cs2 (ringC ρ 3) n1 n2 2 w s q D), i (tHiE cs1 cs2 (ringC ρ 3) n1 n2 2 w s q D)] 61 1 true, false), (.dead, false), (.dead, false), (.dead, false), (.dead, false), (.dead, false), (.dead, false), (.dead, false), (.cells [i (mLoE cs1 cs2 (ringC ρ 3) n1 n2 2 w s q D), i (mHiE cs1 cs2 (ringC ρ 3) n1 n2 2 w s q D)] 61 1 true, false), (.dead, false), (.dead, false), (.dead, false), (.dead, false), (.dead, false), (.dead, false), (.dead, false), (.dead, false), (.dead, false), (.dead, false), (.dead, false), (.dead, false), (.dead, false), (.dead, false), (.dead, false), (.dead, false), (.dead, false), (.dead, false), (.dead, false), (.dead, false), (.dead, false), (.dead, false), (.dead, false), (.dead, false), (.dead, false), (.dead, false), (.dead, false), (.dead, false), (.dead, false), (.dead, false), (.dead, false), (.dead, false), (.dead, false), (.dead, false), (.dead, false), (.dead, false), (.dead, false), (.dead, false), (.dead, false), (.dead, false), (.dead, false), (.dead, false), (.dead, false), (.dead, false), (.cells cs1 3 1 false, true), (.cells cs2 3 1 false, true), (.dead, false), (.dead, false), (.dead, false), (.dead, false), (.dead, false), (.dead, false), (.dead, false), (.dead, false), (.dead, false), (.dead, false), (.dead, false), (.dead, false), (.cells (ringC (othF ρ) 3) 69 4 false, true), (.cells [sl 65 0 n1 n1, sl 66 0 n2 n2, sl 79 0 3 3] 27 1 true, false), (.dead, false), (.dead, false), (.dead, false), (.cells [i (tLoE cs1 cs2 (ringC (othF ρ) 3) n1 n2 2 w s q D), i (tHiE cs1 cs2 (ringC (othF ρ) 3) n1 n2 2 w s q D)] 61 1 true, false)]
noncomputable def hpK3_31 (cs1 cs2 : List Value) (ρ : Nat → Int) (t1 s1 t2 s2 t3 s3 n1 n2 : Nat) (w s q D : Int) (m : Nat) : List (CO × Bool) := [(.cells powers 149 1 true, true), (.cells pow10 166 1 true, true), (.cells tab32 173 1 true, true), (.cells tab64 174 1 true, true), (.cells cs1 t1 s1 false, true), (.cells cs2 t2 s2 false, true), (.cells (ringC ρ 3) t3 s3 false, true), (.dead, false), (.cells [i w, i s, i q] 29 1 true, false), (.dead, false), (.dead, false), (.dead, false), (.cells [i (tLoE cs1 cs2 (ringC ρ 3) n1 n2 2 w s q D), i (tHiE cs1 cs2 (ringC ρ 3) n1 n2 2 w s q D)] 61 1 true, false), (.dead, false), (.dead, false), (.dead, false), (.dead, false), (.dead, false), (.dead, false), (.dead, false), (.cells [i (mLoE cs1 cs2 (ringC ρ 3) n1 n2 2 w s q D), i (mHiE cs1 cs2 (ringC ρ 3) n1 n2 2 w s q D)] 61 1 true, false), (.dead, false), (.dead, false), (.dead, false), (.dead, false), (.dead, false), (.dead, false), (.dead, false), (.dead, false), (.dead, false), (.dead, false), (.dead, false), (.dead, false), (.dead, false), (.dead, false), (.dead, false), (.dead, false), (.dead, false), (.dead, false), (.dead, false), (.dead, false), (.dead, false), (.dead, false), (.dead, false), (.dead, false), (.dead, false), (.dead, false), (.dead, false), (.dead, false), (.dead, false), (.dead, false), (.dead, false), (.dead, false), (.dead, false), (.dead, false), (.dead, false), (.dead, false), (.dead, false), (.dead, false), (.dead, false), (.dead, false), (.dead, false), (.dead, false), (.dead, false), (.dead, false), (.cells cs1 3 1 false, true), (.cells cs2 3 1 false, true), (.dead, false), (.dead, false), (.dead, false), (.dead, false), (.dead, false), (.dead, false), (.dead, false), (.dead, false), (.dead, false), (.dead, false), (.dead, false), (.dead, false), (.cells (ringC (othF ρ) 3) 69 4 false, true), (.cells [sl 65 0 n1 n1, sl 66 0 n2 n2, sl 79 0 3 3] 27 1 true, false), (.dead, false), (.dead, false), (.dead, false), (.cells [i (tLoE cs1 cs2 (ringC (othF ρ) 3) n1 n2 2 w s q D), i (tHiE cs1 cs2 (ringC (othF ρ) 3) n1 n2 2 w s q D)] 61 1 true, false)] ++ [bitC m 1 (.cells cs1 3 1 false, true), bitC m 1 (.cells cs2 3 1 false, true), bitC m 1 (.cells (ringC (othF ρ) 3) 103 4 false, true)] ++ [bitC m 8 (.cells (cond (Nat.testBit m 9) [i (mLoE cs1 cs2 (ringC (othF ρ) 3) n1 n2 2 w s q D), i (mHiE cs1 cs2 (ringC (othF ρ) 3) n1 n2 2 w s q D)] [i 0, i 0]) 61 1 true, false)]
def rhoK3_31 (j : Nat) : List Nat :=
  match j with
  | 1 => [0, 1, 2, 3, 4, 5, 6, 7, 8, 9, 10, 11, 12, 13, 14, 15, 16, 17, 18, 19, 20, 21, 22, 23, 24, 25, 26, 27, 28, 29, 30, 31, 32, 33, 34, 35, 36, 37, 38, 39, 40, 41, 42, 43, 44, 45, 46, 47, 48, 49, 50, 51, 52, 53, 54, 55, 56, 57, 58, 59, 60, 61, 62, 63, 64, 65, 66, 67, 68, 69, 70, 71, 72, 73, 74, 75, 76, 77, 78, 79, 80, 81, 82, 83, 84, 89, 90, 91, 88]
  | 8 => [0, 1, 2, 3, 4, 5, 6, 7, 8, 9, 10, 11, 12, 13, 14, 15, 16, 17, 18, 19, 20, 21, 22, 23, 24, 25, 26, 27, 28, 29, 30, 31, 32, 33, 34, 35, 36, 37, 38, 39, 40, 41, 42, 43, 44, 45, 46, 47, 48, 49, 50, 51, 52, 53, 54, 55, 56, 57, 58, 59, 60, 61, 62, 63, 64, 65, 66, 67, 68, 69, 70, 71, 72, 73, 74, 75, 76, 77, 78, 79, 80, 81, 82, 83, 84, 85, 86, 87, 89]
  | _ => List.range 89
def lenK3_31 (j : Nat) : Nat :=
  match j with
  | 1 => 92
  | 8 => 90
  | _ => 89
noncomputable def cndK3_31 (cs1 cs2 : List Value) (ρ : Nat → Int) (_t1 _s1 _t2 _s2 _t3 _s3 n1 n2 : Nat) (w s q D : Int) (j : Nat) : List Bool :=
  match j with
  | 1 => [tru (okCp (argA n1 n2 3) cs1 cs2 (ringC (othF ρ) 3))]
  | 4 => [tru (okFc (AN n1 n2 2 w s q D) (cpS cs1 cs2 (ringC (othF ρ) 3) 3))]
  | _ => []
theorem fixK3_31 (cs1 cs2 : List Value) (ρ : Nat → Int) (t1 s1 t2 s2 t3 s3 n1 n2 : Nat) (w s q D : Int) : (trsN OK3_31 statesK3_31).map (outW (tabW CN1) Tryd.prog 7 CN1 Fn.law03_RotorNested OK3_31 273 (liveK3_31 cs1 cs2 ρ t1 s1 t2 s2 t3 s3 n1 n2 w s q D) (hpK3_31 cs1 cs2 ρ t1 s1 t2 s2 t3 s3 n1 n2 w s q D)) = (trsN OK3_31 statesK3_31).map fun t => (outW (tabW CN1) Tryd.prog 7 CN1 Fn.law03_RotorNested OK3_31 273 (liveK3_31 cs1 cs2 ρ t1 s1 t2 s2 t3 s3 n1 n2 w s q D) (hpK3_31 cs1 cs2 ρ t1 s1 t2 s2 t3 s3 n1 n2 w s q D) t).fix := by kernel_rfl
theorem obsK3_31 (cs1 cs2 : List Value) (ρ : Nat → Int) (t1 s1 t2 s2 t3 s3 n1 n2 : Nat) (w s q D : Int) : (trsN OK3_31 statesK3_31).map (obsW (tabW CN1) Tryd.prog 7 CN1 Fn.law03_RotorNested OK3_31 273 (liveK3_31 cs1 cs2 ρ t1 s1 t2 s2 t3 s3 n1 n2 w s q D) (hpK3_31 cs1 cs2 ρ t1 s1 t2 s2 t3 s3 n1 n2 w s q D) rhoK3_31 ansK3_31) = (trsN OK3_31 statesK3_31).map (expN 273 (liveK3_31 cs1 cs2 ρ t1 s1 t2 s2 t3 s3 n1 n2 w s q D) (hpK3_31 cs1 cs2 ρ t1 s1 t2 s2 t3 s3 n1 n2 w s q D) rhoK3_31 (cndK3_31 cs1 cs2 ρ t1 s1 t2 s2 t3 s3 n1 n2 w s q D) lenK3_31) := by kernel_rfl
theorem goodK3_31 (cs1 cs2 : List Value) (ρ : Nat → Int) (t1 s1 t2 s2 t3 s3 n1 n2 : Nat) (w s q D : Int) : ((trsN OK3_31 statesK3_31).all fun t => goodR 85 (lenK3_31 t.2) (liveK3_31 cs1 cs2 ρ t1 s1 t2 s2 t3 s3 n1 n2 w s q D (t.1 ||| 2 ^ t.2)) (hpK3_31 cs1 cs2 ρ t1 s1 t2 s2 t3 s3 n1 n2 w s q D (t.1 ||| 2 ^ t.2)) (rhoK3_31 t.2)) = true := by kernel_rfl
theorem closedK3_31 : closedN OK3_31 statesK3_31 2047 = true := by kernel_rfl
theorem flatK3_31 {cs1 cs2 : List Value} {ρ : Nat → Int} {t1 s1 t2 s2 t3 s3 n1 n2 : Nat} {w s q D : Int} (f1 : cs1.all Ex.flat = true) (f2 : cs2.all Ex.flat = true) : ∀ m o, (o, true) ∈ hpK3_31 cs1 cs2 ρ t1 s1 t2 s2 t3 s3 n1 n2 w s q D m → FlatO o := by
  intro m o ho
  unfold hpK3_31  bitC at ho
  simp only [cond, List.cons_append, List.nil_append, List.mem_cons, List.not_mem_nil, or_false, Prod.mk.injEq, Bool.true_eq_false, and_false, false_or] at ho
  rcases ho with ⟨rfl, _⟩ | ⟨rfl, _⟩ | ⟨rfl, _⟩ | ⟨rfl, _⟩ | ⟨rfl, _⟩ | ⟨rfl, _⟩ | ⟨rfl, _⟩ | ⟨rfl, _⟩ | ⟨rfl, _⟩ | ⟨rfl, _⟩ | ho | ho | ho | ho
  · exact flatO_of flatP
  · exact flatO_of flat10
  · exact flatO_of flat32
  · exact flatO_of flat64
  · exact flatO_of f1
  · exact flatO_of f2
  · exact flatO_of (ringC_flat _ _)
  · exact flatO_of f1
  · exact flatO_of f2
  · exact flatO_of (ringC_flat _ _)
  all_goals
    split at ho <;> first
      | (cases ho; done)
      | (injection ho with h4 h5; subst h4; exact flatO_of (by first | assumption | exact ringC_flat _ _))
theorem cndK3_31_ok {cs1 cs2 : List Value} {ρ : Nat → Int} {t1 s1 t2 s2 t3 s3 n1 n2 : Nat} {w s q D : Int} (h1 : okCp (argA n1 n2 3) cs1 cs2 (ringC (othF ρ) 3)) (h2 : okFc (AN n1 n2 2 w s q D) (cpS cs1 cs2 (ringC (othF ρ) 3) 3)) : ∀ j, cndK3_31 cs1 cs2 ρ t1 s1 t2 s2 t3 s3 n1 n2 w s q D j = (ansK3_31 j).take (cndK3_31 cs1 cs2 ρ t1 s1 t2 s2 t3 s3 n1 n2 w s q D j).length := by
  intro j
  unfold cndK3_31 ansK3_31
  split
  · rw [tru_iff.2 h1]; rfl
  · rw [tru_iff.2 h2]; rfl
  · rfl
theorem padK3_31 (cs1 cs2 : List Value) (ρ : Nat → Int) (t1 s1 t2 s2 t3 s3 n1 n2 : Nat) (w s q D : Int) : heapL ((hpK3_31 cs1 cs2 ρ t1 s1 t2 s2 t3 s3 n1 n2 w s q D 0).map (·.1)) = heapL ((baseK3_31 cs1 cs2 ρ t1 s1 t2 s2 t3 s3 n1 n2 w s q D).map (·.1) ++ List.replicate 4 .dead) := by kernel_rfl
theorem ordK3_31 {cs1 cs2 : List Value} {ρ : Nat → Int} {t1 s1 t2 s2 t3 s3 n1 n2 : Nat} {w s q D : Int} (f1 : cs1.all Ex.flat = true) (f2 : cs2.all Ex.flat = true) (h1 : okCp (argA n1 n2 3) cs1 cs2 (ringC (othF ρ) 3)) (h2 : okFc (AN n1 n2 2 w s q D) (cpS cs1 cs2 (ringC (othF ρ) 3) 3)) : Orders (selfA (qS (tabW CN1))) Tryd.prog 7 OK3_31 85 (fun m => m ∈ statesK3_31) (fun m => absT (tmL 273 (liveK3_31 cs1 cs2 ρ t1 s1 t2 s2 t3 s3 n1 n2 w s q D m))) (fun m => heapL ((hpK3_31 cs1 cs2 ρ t1 s1 t2 s2 t3 s3 n1 n2 w s q D m).map (·.1))) 2047 :=
  orders_ofW statesK3_31 (fixK3_31 cs1 cs2 ρ t1 s1 t2 s2 t3 s3 n1 n2 w s q D) (obsK3_31 cs1 cs2 ρ t1 s1 t2 s2 t3 s3 n1 n2 w s q D) (cndK3_31_ok h1 h2) (goodK3_31 cs1 cs2 ρ t1 s1 t2 s2 t3 s3 n1 n2 w s q D) closedK3_31 (flatK3_31 f1 f2)
theorem sndK3_31 {cs1 cs2 : List Value} {ρ : Nat → Int} {t1 s1 t2 s2 t3 s3 n1 n2 : Nat} {w s q D : Int} (f1 : cs1.all Ex.flat = true) (f2 : cs2.all Ex.flat = true) (h1 : okCp (argA n1 n2 3) cs1 cs2 (ringC (othF ρ) 3)) (h2 : okFc (AN n1 n2 2 w s q D) (cpS cs1 cs2 (ringC (othF ρ) 3) 3)) (ro : Option Nat) {tm0 : Array Value} {H0 : CH} (hk : H0.length = 85) (hst : Restate 85 tm0 H0 (absT (tmL 273 (liveK3_31 cs1 cs2 ρ t1 s1 t2 s2 t3 s3 n1 n2 w s q D 0))) (heapL ((baseK3_31 cs1 cs2 ρ t1 s1 t2 s2 t3 s3 n1 n2 w s q D).map (·.1)))) :
    Sound Tryd.prog 7 (.code (.region 31 OK3_31 true) ro tm0 H0 []) (.ex .normal (absT (tmL 273 (liveK3_31 cs1 cs2 ρ t1 s1 t2 s2 t3 s3 n1 n2 w s q D 2047))) (heapL ((hpK3_31 cs1 cs2 ρ t1 s1 t2 s2 t3 s3 n1 n2 w s q D 2047).map (·.1))) []) := by
  have ho := ordK3_31 (cs1 := cs1) (cs2 := cs2) (ρ := ρ) (t1 := t1) (s1 := s1) (t2 := t2) (s2 := s2) (t3 := t3) (s3 := s3) (n1 := n1) (n2 := n2) (w := w) (s := s) (q := q) (D := D) f1 f2 h1 h2
  have hr := padK3_31 cs1 cs2 ρ t1 s1 t2 s2 t3 s3 n1 n2 w s q D
  generalize liveK3_31 cs1 cs2 ρ t1 s1 t2 s2 t3 s3 n1 n2 w s q D = lv at *
  generalize hpK3_31 cs1 cs2 ρ t1 s1 t2 s2 t3 s3 n1 n2 w s q D = hp at *
  generalize baseK3_31 cs1 cs2 ρ t1 s1 t2 s2 t3 s3 n1 n2 w s q D = bs at *
  rw [← hk] at ho hst
  exact orders_sound2 (tmS := fun m => absT (tmL 273 (lv m))) (HS := fun m => heapL ((hp m).map (·.1))) (mF := 2047) sfN1 mix12 ho (by rw [hk]; decide) (by decide) hr hst ro
theorem fbK3_31 {cs1 cs2 : List Value} {ρ : Nat → Int} {t1 s1 t2 s2 t3 s3 n1 n2 : Nat} {w s q D : Int} (f1 : cs1.all Ex.flat = true) (f2 : cs2.all Ex.flat = true) : ∀ o, (o, true) ∈ baseK3_31 cs1 cs2 ρ t1 s1 t2 s2 t3 s3 n1 n2 w s q D → FlatO o := fun o ho =>
  flatK3_31 (cs1 := cs1) (cs2 := cs2) (ρ := ρ) (t1 := t1) (s1 := s1) (t2 := t2) (s2 := s2) (t3 := t3) (s3 := s3) (n1 := n1) (n2 := n2) (w := w) (s := s) (q := q) (D := D) f1 f2 0 o (by unfold hpK3_31; exact List.mem_append_left _ (List.mem_append_left _ ho))
end Go.Proofs.YtbocpikgochioaaDoor.Ways
namespace Go.Proofs.YtbocpikgochioaaDoor.Ways
open Go Go.Ex
section
variable (cs1 cs2 : List Value) (ρ : Nat → Int) (t1 s1 t2 s2 t3 s3 n1 n2 : Nat) (w s q D : Int)
noncomputable def LK1_30 : LTab := regE (LN6 cs1 cs2 (ringC ρ 1) t1 s1 t2 s2 t3 s3 n1 n2 0 w s q D) Fn.law03_RotorNested 30 273 63 OK1_30 (liveK1_30 cs1 cs2 ρ t1 s1 t2 s2 t3 s3 n1 n2 w s q D 0) (baseK1_30 cs1 cs2 ρ t1 s1 t2 s2 t3 s3 n1 n2 w s q D) (.leaf (.ex .normal (tmL 273 (liveK1_30 cs1 cs2 ρ t1 s1 t2 s2 t3 s3 n1 n2 w s q D 2047)) (heapL ((hpK1_30 cs1 cs2 ρ t1 s1 t2 s2 t3 s3 n1 n2 w s q D 2047).map (·.1))) []))
noncomputable def LK1_31 : LTab := regE (LK1_30 cs1 cs2 ρ t1 s1 t2 s2 t3 s3 n1 n2 w s q D) Fn.law03_RotorNested 31 273 67 OK1_31 (liveK1_31 cs1 cs2 ρ t1 s1 t2 s2 t3 s3 n1 n2 w s q D 0) (baseK1_31 cs1 cs2 ρ t1 s1 t2 s2 t3 s3 n1 n2 w s q D) (.leaf (.ex .normal (tmL 273 (liveK1_31 cs1 cs2 ρ t1 s1 t2 s2 t3 s3 n1 n2 w s q D 2047)) (heapL ((hpK1_31 cs1 cs2 ρ t1 s1 t2 s2 t3 s3 n1 n2 w s q D 2047).map (·.1))) []))
end
theorem gK1_30 (cs1 cs2 : List Value) (ρ : Nat → Int) (t1 s1 t2 s2 t3 s3 n1 n2 : Nat) (w s q D : Int) : goodR 63 63 (liveK1_30 cs1 cs2 ρ t1 s1 t2 s2 t3 s3 n1 n2 w s q D 0) (baseK1_30 cs1 cs2 ρ t1 s1 t2 s2 t3 s3 n1 n2 w s q D) (List.range 63) = true := by kernel_rfl
theorem gK1_31 (cs1 cs2 : List Value) (ρ : Nat → Int) (t1 s1 t2 s2 t3 s3 n1 n2 : Nat) (w s q D : Int) : goodR 67 67 (liveK1_31 cs1 cs2 ρ t1 s1 t2 s2 t3 s3 n1 n2 w s q D 0) (baseK1_31 cs1 cs2 ρ t1 s1 t2 s2 t3 s3 n1 n2 w s q D) (List.range 67) = true := by kernel_rfl
theorem lsK1 {cs1 cs2 : List Value} {ρ : Nat → Int} {t1 s1 t2 s2 t3 s3 n1 n2 : Nat} {w s q D : Int} (f1 : cs1.all Ex.flat = true) (f2 : cs2.all Ex.flat = true) (h1 : okCp (argA n1 n2 1) cs1 cs2 (ringC ρ 1)) (h2 : okFc (AN n1 n2 0 w s q D) (cpS cs1 cs2 (ringC ρ 1) 1)) (h3 : okFc (AN n1 n2 0 w s q (wrapF .i64 (D + 1))) (cpS cs1 cs2 (ringC ρ 1) 1)) (h4 : okCp (argA n1 n2 1) cs1 cs2 (ringC (othF ρ) 1)) (h5 : okFc (AN n1 n2 0 w s q D) (cpS cs1 cs2 (ringC (othF ρ) 1) 1)) : LSound Tryd.prog 7 (LK1_31 cs1 cs2 ρ t1 s1 t2 s2 t3 s3 n1 n2 w s q D) := by
  have a0 := lsN6 (t1 := t1) (s1 := s1) (t2 := t2) (s2 := s2) (t3 := t3) (s3 := s3) (k := 0) f1 f2 (ringC_flat ρ 1) h1 h2 h3
  have a30 : LSound Tryd.prog 7 (LK1_30 cs1 cs2 ρ t1 s1 t2 s2 t3 s3 n1 n2 w s q D) := by
    refine LSound.region a0 (gK1_30 cs1 cs2 ρ t1 s1 t2 s2 t3 s3 n1 n2 w s q D) (fbK1_30 f1 f2) fun r hr ro tm0 H0 hk hst => ?_
    cases hr
    exact sndK1_30 f1 f2 h4 h5 ro hk hst
  have a31 : LSound Tryd.prog 7 (LK1_31 cs1 cs2 ρ t1 s1 t2 s2 t3 s3 n1 n2 w s q D) := by
    refine LSound.region a30 (gK1_31 cs1 cs2 ρ t1 s1 t2 s2 t3 s3 n1 n2 w s q D) (fbK1_31 f1 f2) fun r hr ro tm0 H0 hk hst => ?_
    cases hr
    exact sndK1_31 f1 f2 h4 h5 ro hk hst
  exact a31
end Go.Proofs.YtbocpikgochioaaDoor.Ways
namespace Go.Proofs.YtbocpikgochioaaDoor.Ways
open Go Go.Ex
section
variable (cs1 cs2 : List Value) (ρ : Nat → Int) (t1 s1 t2 s2 t3 s3 n1 n2 : Nat) (w s q D : Int)
noncomputable def LK2_30 : LTab := regE (LN6 cs1 cs2 (ringC ρ 2) t1 s1 t2 s2 t3 s3 n1 n2 1 w s q D) Fn.law03_RotorNested 30 273 72 OK2_30 (liveK2_30 cs1 cs2 ρ t1 s1 t2 s2 t3 s3 n1 n2 w s q D 0) (baseK2_30 cs1 cs2 ρ t1 s1 t2 s2 t3 s3 n1 n2 w s q D) (.leaf (.ex .normal (tmL 273 (liveK2_30 cs1 cs2 ρ t1 s1 t2 s2 t3 s3 n1 n2 w s q D 2047)) (heapL ((hpK2_30 cs1 cs2 ρ t1 s1 t2 s2 t3 s3 n1 n2 w s q D 2047).map (·.1))) []))
noncomputable def LK2_31 : LTab := regE (LK2_30 cs1 cs2 ρ t1 s1 t2 s2 t3 s3 n1 n2 w s q D) Fn.law03_RotorNested 31 273 76 OK2_31 (liveK2_31 cs1 cs2 ρ t1 s1 t2 s2 t3 s3 n1 n2 w s q D 0) (baseK2_31 cs1 cs2 ρ t1 s1 t2 s2 t3 s3 n1 n2 w s q D) (.leaf (.ex .normal (tmL 273 (liveK2_31 cs1 cs2 ρ t1 s1 t2 s2 t3 s3 n1 n2 w s q D 2047)) (heapL ((hpK2_31 cs1 cs2 ρ t1 s1 t2 s2 t3 s3 n1 n2 w s q D 2047).map (·.1))) []))
end
theorem gK2_30 (cs1 cs2 : List Value) (ρ : Nat → Int) (t1 s1 t2 s2 t3 s3 n1 n2 : Nat) (w s q D : Int) : goodR 72 72 (liveK2_30 cs1 cs2 ρ t1 s1 t2 s2 t3 s3 n1 n2 w s q D 0) (baseK2_30 cs1 cs2 ρ t1 s1 t2 s2 t3 s3 n1 n2 w s q D) (List.range 72) = true := by kernel_rfl
theorem gK2_31 (cs1 cs2 : List Value) (ρ : Nat → Int) (t1 s1 t2 s2 t3 s3 n1 n2 : Nat) (w s q D : Int) : goodR 76 76 (liveK2_31 cs1 cs2 ρ t1 s1 t2 s2 t3 s3 n1 n2 w s q D 0) (baseK2_31 cs1 cs2 ρ t1 s1 t2 s2 t3 s3 n1 n2 w s q D) (List.range 76) = true := by kernel_rfl
theorem lsK2 {cs1 cs2 : List Value} {ρ : Nat → Int} {t1 s1 t2 s2 t3 s3 n1 n2 : Nat} {w s q D : Int} (f1 : cs1.all Ex.flat = true) (f2 : cs2.all Ex.flat = true) (h1 : okCp (argA n1 n2 2) cs1 cs2 (ringC ρ 2)) (h2 : okFc (AN n1 n2 1 w s q D) (cpS cs1 cs2 (ringC ρ 2) 2)) (h3 : okFc (AN n1 n2 1 w s q (wrapF .i64 (D + 1))) (cpS cs1 cs2 (ringC ρ 2) 2)) (h4 : okCp (argA n1 n2 2) cs1 cs2 (ringC (othF ρ) 2)) (h5 : okFc (AN n1 n2 1 w s q D) (cpS cs1 cs2 (ringC (othF ρ) 2) 2)) : LSound Tryd.prog 7 (LK2_31 cs1 cs2 ρ t1 s1 t2 s2 t3 s3 n1 n2 w s q D) := by
  have a0 := lsN6 (t1 := t1) (s1 := s1) (t2 := t2) (s2 := s2) (t3 := t3) (s3 := s3) (k := 1) f1 f2 (ringC_flat ρ 2) h1 h2 h3
  have a30 : LSound Tryd.prog 7 (LK2_30 cs1 cs2 ρ t1 s1 t2 s2 t3 s3 n1 n2 w s q D) := by
    refine LSound.region a0 (gK2_30 cs1 cs2 ρ t1 s1 t2 s2 t3 s3 n1 n2 w s q D) (fbK2_30 f1 f2) fun r hr ro tm0 H0 hk hst => ?_
    cases hr
    exact sndK2_30 f1 f2 h4 h5 ro hk hst
  have a31 : LSound Tryd.prog 7 (LK2_31 cs1 cs2 ρ t1 s1 t2 s2 t3 s3 n1 n2 w s q D) := by
    refine LSound.region a30 (gK2_31 cs1 cs2 ρ t1 s1 t2 s2 t3 s3 n1 n2 w s q D) (fbK2_31 f1 f2) fun r hr ro tm0 H0 hk hst => ?_
    cases hr
    exact sndK2_31 f1 f2 h4 h5 ro hk hst
  exact a31
end Go.Proofs.YtbocpikgochioaaDoor.Ways
namespace Go.Proofs.YtbocpikgochioaaDoor.Ways
open Go Go.Ex
section
variable (cs1 cs2 : List Value) (ρ : Nat → Int) (t1 s1 t2 s2 t3 s3 n1 n2 : Nat) (w s q D : Int)
noncomputable def LK3_30 : LTab := regE (LN6 cs1 cs2 (ringC ρ 3) t1 s1 t2 s2 t3 s3 n1 n2 2 w s q D) Fn.law03_RotorNested 30 273 81 OK3_30 (liveK3_30 cs1 cs2 ρ t1 s1 t2 s2 t3 s3 n1 n2 w s q D 0) (baseK3_30 cs1 cs2 ρ t1 s1 t2 s2 t3 s3 n1 n2 w s q D) (.leaf (.ex .normal (tmL 273 (liveK3_30 cs1 cs2 ρ t1 s1 t2 s2 t3 s3 n1 n2 w s q D 2047)) (heapL ((hpK3_30 cs1 cs2 ρ t1 s1 t2 s2 t3 s3 n1 n2 w s q D 2047).map (·.1))) []))
noncomputable def LK3_31 : LTab := regE (LK3_30 cs1 cs2 ρ t1 s1 t2 s2 t3 s3 n1 n2 w s q D) Fn.law03_RotorNested 31 273 85 OK3_31 (liveK3_31 cs1 cs2 ρ t1 s1 t2 s2 t3 s3 n1 n2 w s q D 0) (baseK3_31 cs1 cs2 ρ t1 s1 t2 s2 t3 s3 n1 n2 w s q D) (.leaf (.ex .normal (tmL 273 (liveK3_31 cs1 cs2 ρ t1 s1 t2 s2 t3 s3 n1 n2 w s q D 2047)) (heapL ((hpK3_31 cs1 cs2 ρ t1 s1 t2 s2 t3 s3 n1 n2 w s q D 2047).map (·.1))) []))
end
theorem gK3_30 (cs1 cs2 : List Value) (ρ : Nat → Int) (t1 s1 t2 s2 t3 s3 n1 n2 : Nat) (w s q D : Int) : goodR 81 81 (liveK3_30 cs1 cs2 ρ t1 s1 t2 s2 t3 s3 n1 n2 w s q D 0) (baseK3_30 cs1 cs2 ρ t1 s1 t2 s2 t3 s3 n1 n2 w s q D) (List.range 81) = true := by kernel_rfl
theorem gK3_31 (cs1 cs2 : List Value) (ρ : Nat → Int) (t1 s1 t2 s2 t3 s3 n1 n2 : Nat) (w s q D : Int) : goodR 85 85 (liveK3_31 cs1 cs2 ρ t1 s1 t2 s2 t3 s3 n1 n2 w s q D 0) (baseK3_31 cs1 cs2 ρ t1 s1 t2 s2 t3 s3 n1 n2 w s q D) (List.range 85) = true := by kernel_rfl
theorem lsK3 {cs1 cs2 : List Value} {ρ : Nat → Int} {t1 s1 t2 s2 t3 s3 n1 n2 : Nat} {w s q D : Int} (f1 : cs1.all Ex.flat = true) (f2 : cs2.all Ex.flat = true) (h1 : okCp (argA n1 n2 3) cs1 cs2 (ringC ρ 3)) (h2 : okFc (AN n1 n2 2 w s q D) (cpS cs1 cs2 (ringC ρ 3) 3)) (h3 : okFc (AN n1 n2 2 w s q (wrapF .i64 (D + 1))) (cpS cs1 cs2 (ringC ρ 3) 3)) (h4 : okCp (argA n1 n2 3) cs1 cs2 (ringC (othF ρ) 3)) (h5 : okFc (AN n1 n2 2 w s q D) (cpS cs1 cs2 (ringC (othF ρ) 3) 3)) : LSound Tryd.prog 7 (LK3_31 cs1 cs2 ρ t1 s1 t2 s2 t3 s3 n1 n2 w s q D) := by
  have a0 := lsN6 (t1 := t1) (s1 := s1) (t2 := t2) (s2 := s2) (t3 := t3) (s3 := s3) (k := 2) f1 f2 (ringC_flat ρ 3) h1 h2 h3
  have a30 : LSound Tryd.prog 7 (LK3_30 cs1 cs2 ρ t1 s1 t2 s2 t3 s3 n1 n2 w s q D) := by
    refine LSound.region a0 (gK3_30 cs1 cs2 ρ t1 s1 t2 s2 t3 s3 n1 n2 w s q D) (fbK3_30 f1 f2) fun r hr ro tm0 H0 hk hst => ?_
    cases hr
    exact sndK3_30 f1 f2 h4 h5 ro hk hst
  have a31 : LSound Tryd.prog 7 (LK3_31 cs1 cs2 ρ t1 s1 t2 s2 t3 s3 n1 n2 w s q D) := by
    refine LSound.region a30 (gK3_31 cs1 cs2 ρ t1 s1 t2 s2 t3 s3 n1 n2 w s q D) (fbK3_31 f1 f2) fun r hr ro tm0 H0 hk hst => ?_
    cases hr
    exact sndK3_31 f1 f2 h4 h5 ro hk hst
  exact a31
end Go.Proofs.YtbocpikgochioaaDoor.Ways
namespace Go.Proofs.YtbocpikgochioaaDoor.Ways
open Go Go.Ex
noncomputable def spN : Nat → Nat → Split := at_ ([32, 37, 42, 46, 50, 97, 101, 106, 111, 114, 144, 150, 157, 164, 171, 179, 187, 205, 214, 258, 261, 266, 271].map fun x => (Fn.law03_RotorNested, x)) .bool (at_ [(Fn.rotor_intervals, 25), (Fn.rotor_intervals, 39)] .bool no_)
noncomputable def errP (E E' e5 : Int) : VT := .br (!eqF E E') (lf false) (.br (!eqF E E) (lf false) (.br (!eqF E E') (lf false) (.br (!eqF E e5) (lf false) (.br (!eqF E 0) (.leaf (b_ (eqF E 7))) (lf false)))))
noncomputable def okPa (E E' : Int) (t : VT) : VT := .br (!eqF E E') (lf false) (.br (!eqF E E) (lf false) (.br (!eqF E E') (lf false) (.br (!eqF E 0) (lf false) (.br (!eqF E 0) (.leaf (b_ (eqF E 7))) t))))
noncomputable def ringsN (sc : Nat → ScA) (css : List (List Value)) (D : Int) (err t : VT) : Nat → Nat → VT
  | 0, _ => t
  | m + 1, j => askB (tru (okBr (sc j, D) css)) (.br (!hasB (sc j) css) err (askB (tru (okTors (sc j, bAt (sc j) css D, bDp (sc j) css D) css)) (ringsN sc css D err t m (j + 1))))
noncomputable def othT (ρ : Nat → Int) (t : VT) : Nat → Nat → VT
  | 0, _ => t
  | m + 1, j => .br (!eqF ((ρ (4 * j + 3)).tmod 2) 0) (lf true) (.br (ltF 100 (wrapF .i64 (2 * ρ (4 * j + 1)))) (lf true) (othT ρ t m (j + 1)))
noncomputable def preT (cs1 cs2 cs3 : List Value) (n1 n2 n : Nat) (w s q D : Int) (t : VT) : VT :=
  askB (tru (okLi ⟨argA n1 n2 n, w, s, q, 0, 0, 0⟩ [cs1, cs2, cs3])) (.br (!lightE ⟨argA n1 n2 n, w, s, q, 0, 0, 0⟩ [cs1, cs2, cs3]) (lf true) (askB (tru (okB3 (argA n1 n2 n) [cs1, cs2, cs3])) (.br (!eqF (errB (argA n1 n2 n) [cs1, cs2, cs3]) 0) (lf true) (.br (!eqF (flowE w s q) 0) (lf true) (.br (ltF D 1) (lf true) (.br (leF 12 D) (lf true) t))))))
noncomputable def sameP (a b x y : Int) : Bool := (a == x) && ((b == y) && true)
noncomputable def finT (tLo tHi mLo mHi vLo vHi wLo wHi E : Int) : VT := .br (eqF E 0) (.br (eqF E 0) (.br (sameP vLo vHi tLo tHi) (.br (sameP wLo wHi mLo mHi) (lf true) (lf false)) (lf false)) (lf false)) (lf false)
noncomputable def cmpT (S0 S1 tLo tHi uLo uHi mLo mHi nLo nHi : Int) (t : VT) : VT := .br (!sameP S0 S1 mLo mHi) (lf false) (.br (ltF mHi mLo) (lf false) (.br (ltF nLo mLo) (lf false) (.br (ltF mHi nHi) (lf false) (.br (ltF tHi tLo) (lf false) (.br (ltF uLo (wrapF .i64 (4 * tLo))) (lf false) (.br (ltF (wrapF .i64 (4 * tHi)) uHi) (lf false) t))))))
noncomputable def finN (cs1 cs2 : List Value) (ρ : Nat → Int) (n1 n2 k : Nat) (w s q D : Int) : VT :=
  (finT (tLoE cs1 cs2 (ringC ρ (k + 1)) n1 n2 k w s q D) (tHiE cs1 cs2 (ringC ρ (k + 1)) n1 n2 k w s q D) (mLoE cs1 cs2 (ringC ρ (k + 1)) n1 n2 k w s q D) (mHiE cs1 cs2 (ringC ρ (k + 1)) n1 n2 k w s q D)
                (tLoE cs1 cs2 (ringC (othF ρ) (k + 1)) n1 n2 k w s q D) (tHiE cs1 cs2 (ringC (othF ρ) (k + 1)) n1 n2 k w s q D) (mLoE cs1 cs2 (ringC (othF ρ) (k + 1)) n1 n2 k w s q D) (mHiE cs1 cs2 (ringC (othF ρ) (k + 1)) n1 n2 k w s q D) (hNE cs1 cs2 (ringC (othF ρ) (k + 1)) n1 n2 k w s q D))
noncomputable def nestT (cs1 cs2 : List Value) (ρ : Nat → Int) (n1 n2 k : Nat) (w s q D : Int) (fin : VT) : VT :=
  preT cs1 cs2 (ringC ρ (k + 1)) n1 n2 (k + 1) w s q D (askB (tru (okCp (argA n1 n2 (k + 1)) cs1 cs2 (ringC ρ (k + 1)))) (askB (tru (okB (argA n1 n2 (k + 1)) [cs1, cs2, ringC ρ (k + 1)]))
    (askFst [errB (argA n1 n2 (k + 1)) [cs1, cs2, ringC ρ (k + 1)], flowE w s q, rangeE D 1 12] fun e => .br (!eqF e 0) (errP (hNE cs1 cs2 (ringC ρ (k + 1)) n1 n2 k w s q D) (hNE cs1 cs2 (ringC ρ (k + 1)) n1 n2 k w s q (wrapF .i64 (D + 1))) e)
      (ringsN (scA ρ w s q n1 n1 n2 n2) [cs1, cs2] D (errP (hNE cs1 cs2 (ringC ρ (k + 1)) n1 n2 k w s q D) (hNE cs1 cs2 (ringC ρ (k + 1)) n1 n2 k w s q (wrapF .i64 (D + 1))) 7)
        (okPa (hNE cs1 cs2 (ringC ρ (k + 1)) n1 n2 k w s q D) (hNE cs1 cs2 (ringC ρ (k + 1)) n1 n2 k w s q (wrapF .i64 (D + 1)))
          (cmpT (sumF (mL [cs1, cs2] D) (scA ρ w s q n1 n1 n2 n2) (k + 1) 0 0) (sumF (mH [cs1, cs2] D) (scA ρ w s q n1 n1 n2 n2) (k + 1) 0 0)
            (tLoE cs1 cs2 (ringC ρ (k + 1)) n1 n2 k w s q D) (tHiE cs1 cs2 (ringC ρ (k + 1)) n1 n2 k w s q D) (tLoE cs1 cs2 (ringC ρ (k + 1)) n1 n2 k w s q (wrapF .i64 (D + 1))) (tHiE cs1 cs2 (ringC ρ (k + 1)) n1 n2 k w s q (wrapF .i64 (D + 1)))
            (mLoE cs1 cs2 (ringC ρ (k + 1)) n1 n2 k w s q D) (mHiE cs1 cs2 (ringC ρ (k + 1)) n1 n2 k w s q D) (mLoE cs1 cs2 (ringC ρ (k + 1)) n1 n2 k w s q (wrapF .i64 (D + 1))) (mHiE cs1 cs2 (ringC ρ (k + 1)) n1 n2 k w s q (wrapF .i64 (D + 1)))
            (askB (tru (okCp (argA n1 n2 (k + 1)) cs1 cs2 (ringC ρ (k + 1)))) (othT ρ
              fin
              (k + 1) 0)))) (k + 1) 0))))
noncomputable def CN0_ : Cfg := ⟨orT TG2 zT2, spN, off_, noL⟩
theorem nrung (cs1 cs2 cs3 : List Value) (t1 s1 t2 s2 t3 s3 n1 n2 n : Nat) (w s q D : Int) : (execO Tryd.prog 7 CN0_ 80 (.call Fn.law03_RotorNested ⟨[blV n1 n1 n2 n2 (sl 6 0 n n), flV w s q, i D]⟩ (heapL (hpN cs1 t1 s1 cs2 t2 s2 cs3 t3 s3)))).vals = preT cs1 cs2 cs3 n1 n2 n w s q D .fail := by kernel_rfl
theorem nfixg (cs1 cs2 cs3 : List Value) (t1 s1 t2 s2 t3 s3 n1 n2 n : Nat) (w s q D : Int) : execO Tryd.prog 7 CN0_ 80 (.call Fn.law03_RotorNested ⟨[blV n1 n1 n2 n2 (sl 6 0 n n), flV w s q, i D]⟩ (heapL (hpN cs1 t1 s1 cs2 t2 s2 cs3 t3 s3))) = (execO Tryd.prog 7 CN0_ 80 (.call Fn.law03_RotorNested ⟨[blV n1 n1 n2 n2 (sl 6 0 n n), flV w s q, i D]⟩ (heapL (hpN cs1 t1 s1 cs2 t2 s2 cs3 t3 s3)))).fix := by kernel_rfl
end Go.Proofs.YtbocpikgochioaaDoor.Ways
namespace Go.Proofs.YtbocpikgochioaaDoor.Ways
open Go Go.Ex
noncomputable def CNn1 (cs1 cs2 : List Value) (ρ : Nat → Int) (t1 s1 t2 s2 t3 s3 n1 n2 : Nat) (w s q D : Int) : Cfg := ⟨orT TG2 zT2, spN, off_, LK1_31 cs1 cs2 ρ t1 s1 t2 s2 t3 s3 n1 n2 w s q D⟩
noncomputable def CNb1 (cs1 cs2 : List Value) (ρ : Nat → Int) (t1 s1 t2 s2 t3 s3 n1 n2 : Nat) (w s q D : Int) : Cfg := ⟨orT TG2 zT2, spN, off_, LN6 cs1 cs2 (ringC ρ 1) t1 s1 t2 s2 t3 s3 n1 n2 0 w s q D⟩
theorem nrun1 (cs1 cs2 : List Value) (ρ : Nat → Int) (t1 s1 t2 s2 t3 s3 n1 n2 : Nat) (w s q D : Int) : (execO Tryd.prog 7 (CNn1 cs1 cs2 ρ t1 s1 t2 s2 t3 s3 n1 n2 w s q D) 80 (.call Fn.law03_RotorNested ⟨[blV n1 n1 n2 n2 (sl 6 0 1 1), flV w s q, i D]⟩ (heapL (hpN cs1 t1 s1 cs2 t2 s2 (ringC ρ 1) t3 s3)))).vals = nestT cs1 cs2 ρ n1 n2 0 w s q D (finN cs1 cs2 ρ n1 n2 0 w s q D) := by kernel_rfl
theorem nfix1 (cs1 cs2 : List Value) (ρ : Nat → Int) (t1 s1 t2 s2 t3 s3 n1 n2 : Nat) (w s q D : Int) : execO Tryd.prog 7 (CNn1 cs1 cs2 ρ t1 s1 t2 s2 t3 s3 n1 n2 w s q D) 80 (.call Fn.law03_RotorNested ⟨[blV n1 n1 n2 n2 (sl 6 0 1 1), flV w s q, i D]⟩ (heapL (hpN cs1 t1 s1 cs2 t2 s2 (ringC ρ 1) t3 s3))) = (execO Tryd.prog 7 (CNn1 cs1 cs2 ρ t1 s1 t2 s2 t3 s3 n1 n2 w s q D) 80 (.call Fn.law03_RotorNested ⟨[blV n1 n1 n2 n2 (sl 6 0 1 1), flV w s q, i D]⟩ (heapL (hpN cs1 t1 s1 cs2 t2 s2 (ringC ρ 1) t3 s3)))).fix := by kernel_rfl
theorem nrunb1 (cs1 cs2 : List Value) (ρ : Nat → Int) (t1 s1 t2 s2 t3 s3 n1 n2 : Nat) (w s q D : Int) : (execO Tryd.prog 7 (CNb1 cs1 cs2 ρ t1 s1 t2 s2 t3 s3 n1 n2 w s q D) 80 (.call Fn.law03_RotorNested ⟨[blV n1 n1 n2 n2 (sl 6 0 1 1), flV w s q, i D]⟩ (heapL (hpN cs1 t1 s1 cs2 t2 s2 (ringC ρ 1) t3 s3)))).vals = nestT cs1 cs2 ρ n1 n2 0 w s q D .fail := by kernel_rfl
theorem nfixb1 (cs1 cs2 : List Value) (ρ : Nat → Int) (t1 s1 t2 s2 t3 s3 n1 n2 : Nat) (w s q D : Int) : execO Tryd.prog 7 (CNb1 cs1 cs2 ρ t1 s1 t2 s2 t3 s3 n1 n2 w s q D) 80 (.call Fn.law03_RotorNested ⟨[blV n1 n1 n2 n2 (sl 6 0 1 1), flV w s q, i D]⟩ (heapL (hpN cs1 t1 s1 cs2 t2 s2 (ringC ρ 1) t3 s3))) = (execO Tryd.prog 7 (CNb1 cs1 cs2 ρ t1 s1 t2 s2 t3 s3 n1 n2 w s q D) 80 (.call Fn.law03_RotorNested ⟨[blV n1 n1 n2 n2 (sl 6 0 1 1), flV w s q, i D]⟩ (heapL (hpN cs1 t1 s1 cs2 t2 s2 (ringC ρ 1) t3 s3)))).fix := by kernel_rfl
end Go.Proofs.YtbocpikgochioaaDoor.Ways
namespace Go.Proofs.YtbocpikgochioaaDoor.Ways
open Go Go.Ex
noncomputable def CNn2 (cs1 cs2 : List Value) (ρ : Nat → Int) (t1 s1 t2 s2 t3 s3 n1 n2 : Nat) (w s q D : Int) : Cfg := ⟨orT TG2 zT2, spN, off_, LK2_31 cs1 cs2 ρ t1 s1 t2 s2 t3 s3 n1 n2 w s q D⟩
noncomputable def CNb2 (cs1 cs2 : List Value) (ρ : Nat → Int) (t1 s1 t2 s2 t3 s3 n1 n2 : Nat) (w s q D : Int) : Cfg := ⟨orT TG2 zT2, spN, off_, LN6 cs1 cs2 (ringC ρ 2) t1 s1 t2 s2 t3 s3 n1 n2 1 w s q D⟩
theorem nrun2 (cs1 cs2 : List Value) (ρ : Nat → Int) (t1 s1 t2 s2 t3 s3 n1 n2 : Nat) (w s q D : Int) : (execO Tryd.prog 7 (CNn2 cs1 cs2 ρ t1 s1 t2 s2 t3 s3 n1 n2 w s q D) 80 (.call Fn.law03_RotorNested ⟨[blV n1 n1 n2 n2 (sl 6 0 2 2), flV w s q, i D]⟩ (heapL (hpN cs1 t1 s1 cs2 t2 s2 (ringC ρ 2) t3 s3)))).vals = nestT cs1 cs2 ρ n1 n2 1 w s q D (finN cs1 cs2 ρ n1 n2 1 w s q D) := by kernel_rfl
theorem nfix2 (cs1 cs2 : List Value) (ρ : Nat → Int) (t1 s1 t2 s2 t3 s3 n1 n2 : Nat) (w s q D : Int) : execO Tryd.prog 7 (CNn2 cs1 cs2 ρ t1 s1 t2 s2 t3 s3 n1 n2 w s q D) 80 (.call Fn.law03_RotorNested ⟨[blV n1 n1 n2 n2 (sl 6 0 2 2), flV w s q, i D]⟩ (heapL (hpN cs1 t1 s1 cs2 t2 s2 (ringC ρ 2) t3 s3))) = (execO Tryd.prog 7 (CNn2 cs1 cs2 ρ t1 s1 t2 s2 t3 s3 n1 n2 w s q D) 80 (.call Fn.law03_RotorNested ⟨[blV n1 n1 n2 n2 (sl 6 0 2 2), flV w s q, i D]⟩ (heapL (hpN cs1 t1 s1 cs2 t2 s2 (ringC ρ 2) t3 s3)))).fix := by kernel_rfl
theorem nrunb2 (cs1 cs2 : List Value) (ρ : Nat → Int) (t1 s1 t2 s2 t3 s3 n1 n2 : Nat) (w s q D : Int) : (execO Tryd.prog 7 (CNb2 cs1 cs2 ρ t1 s1 t2 s2 t3 s3 n1 n2 w s q D) 80 (.call Fn.law03_RotorNested ⟨[blV n1 n1 n2 n2 (sl 6 0 2 2), flV w s q, i D]⟩ (heapL (hpN cs1 t1 s1 cs2 t2 s2 (ringC ρ 2) t3 s3)))).vals = nestT cs1 cs2 ρ n1 n2 1 w s q D .fail := by kernel_rfl
theorem nfixb2 (cs1 cs2 : List Value) (ρ : Nat → Int) (t1 s1 t2 s2 t3 s3 n1 n2 : Nat) (w s q D : Int) : execO Tryd.prog 7 (CNb2 cs1 cs2 ρ t1 s1 t2 s2 t3 s3 n1 n2 w s q D) 80 (.call Fn.law03_RotorNested ⟨[blV n1 n1 n2 n2 (sl 6 0 2 2), flV w s q, i D]⟩ (heapL (hpN cs1 t1 s1 cs2 t2 s2 (ringC ρ 2) t3 s3))) = (execO Tryd.prog 7 (CNb2 cs1 cs2 ρ t1 s1 t2 s2 t3 s3 n1 n2 w s q D) 80 (.call Fn.law03_RotorNested ⟨[blV n1 n1 n2 n2 (sl 6 0 2 2), flV w s q, i D]⟩ (heapL (hpN cs1 t1 s1 cs2 t2 s2 (ringC ρ 2) t3 s3)))).fix := by kernel_rfl
end Go.Proofs.YtbocpikgochioaaDoor.Ways
namespace Go.Proofs.YtbocpikgochioaaDoor.Ways
open Go Go.Ex
noncomputable def CNn3 (cs1 cs2 : List Value) (ρ : Nat → Int) (t1 s1 t2 s2 t3 s3 n1 n2 : Nat) (w s q D : Int) : Cfg := ⟨orT TG2 zT2, spN, off_, LK3_31 cs1 cs2 ρ t1 s1 t2 s2 t3 s3 n1 n2 w s q D⟩
noncomputable def CNb3 (cs1 cs2 : List Value) (ρ : Nat → Int) (t1 s1 t2 s2 t3 s3 n1 n2 : Nat) (w s q D : Int) : Cfg := ⟨orT TG2 zT2, spN, off_, LN6 cs1 cs2 (ringC ρ 3) t1 s1 t2 s2 t3 s3 n1 n2 2 w s q D⟩
theorem nrun3 (cs1 cs2 : List Value) (ρ : Nat → Int) (t1 s1 t2 s2 t3 s3 n1 n2 : Nat) (w s q D : Int) : (execO Tryd.prog 7 (CNn3 cs1 cs2 ρ t1 s1 t2 s2 t3 s3 n1 n2 w s q D) 80 (.call Fn.law03_RotorNested ⟨[blV n1 n1 n2 n2 (sl 6 0 3 3), flV w s q, i D]⟩ (heapL (hpN cs1 t1 s1 cs2 t2 s2 (ringC ρ 3) t3 s3)))).vals = nestT cs1 cs2 ρ n1 n2 2 w s q D (finN cs1 cs2 ρ n1 n2 2 w s q D) := by kernel_rfl
theorem nfix3 (cs1 cs2 : List Value) (ρ : Nat → Int) (t1 s1 t2 s2 t3 s3 n1 n2 : Nat) (w s q D : Int) : execO Tryd.prog 7 (CNn3 cs1 cs2 ρ t1 s1 t2 s2 t3 s3 n1 n2 w s q D) 80 (.call Fn.law03_RotorNested ⟨[blV n1 n1 n2 n2 (sl 6 0 3 3), flV w s q, i D]⟩ (heapL (hpN cs1 t1 s1 cs2 t2 s2 (ringC ρ 3) t3 s3))) = (execO Tryd.prog 7 (CNn3 cs1 cs2 ρ t1 s1 t2 s2 t3 s3 n1 n2 w s q D) 80 (.call Fn.law03_RotorNested ⟨[blV n1 n1 n2 n2 (sl 6 0 3 3), flV w s q, i D]⟩ (heapL (hpN cs1 t1 s1 cs2 t2 s2 (ringC ρ 3) t3 s3)))).fix := by kernel_rfl
theorem nrunb3 (cs1 cs2 : List Value) (ρ : Nat → Int) (t1 s1 t2 s2 t3 s3 n1 n2 : Nat) (w s q D : Int) : (execO Tryd.prog 7 (CNb3 cs1 cs2 ρ t1 s1 t2 s2 t3 s3 n1 n2 w s q D) 80 (.call Fn.law03_RotorNested ⟨[blV n1 n1 n2 n2 (sl 6 0 3 3), flV w s q, i D]⟩ (heapL (hpN cs1 t1 s1 cs2 t2 s2 (ringC ρ 3) t3 s3)))).vals = nestT cs1 cs2 ρ n1 n2 2 w s q D .fail := by kernel_rfl
theorem nfixb3 (cs1 cs2 : List Value) (ρ : Nat → Int) (t1 s1 t2 s2 t3 s3 n1 n2 : Nat) (w s q D : Int) : execO Tryd.prog 7 (CNb3 cs1 cs2 ρ t1 s1 t2 s2 t3 s3 n1 n2 w s q D) 80 (.call Fn.law03_RotorNested ⟨[blV n1 n1 n2 n2 (sl 6 0 3 3), flV w s q, i D]⟩ (heapL (hpN cs1 t1 s1 cs2 t2 s2 (ringC ρ 3) t3 s3))) = (execO Tryd.prog 7 (CNb3 cs1 cs2 ρ t1 s1 t2 s2 t3 s3 n1 n2 w s q D) 80 (.call Fn.law03_RotorNested ⟨[blV n1 n1 n2 n2 (sl 6 0 3 3), flV w s q, i D]⟩ (heapL (hpN cs1 t1 s1 cs2 t2 s2 (ringC ρ 3) t3 s3)))).fix := by kernel_rfl
end Go.Proofs.YtbocpikgochioaaDoor.Ways
namespace Go.Proofs.YtbocpikgochioaaDoor.Ways
open Go Go.Ex
/-! ### least and greatest -/
theorem foldMin (l : List Int) : ∀ x, (l.foldl minI x ≤ x ∧ (∀ y ∈ l, l.foldl minI x ≤ y)) ∧ (l.foldl minI x = x ∨ l.foldl minI x ∈ l) := by
  induction l with
  | nil => intro x; exact ⟨⟨Int.le_refl _, fun y hy => by cases hy⟩, .inl rfl⟩
  | cons a l ih =>
    intro x
    obtain ⟨⟨h1, h2⟩, h3⟩ := ih (minI x a)
    obtain ⟨m1, m2, m3⟩ := minI_eq x a
    show ((l.foldl minI (minI x a) ≤ x ∧ ∀ y ∈ a :: l, l.foldl minI (minI x a) ≤ y)) ∧ _
    refine ⟨⟨by omega, fun y hy => ?_⟩, ?_⟩
    · rcases List.mem_cons.1 hy with rfl | hy
      · omega
      · exact h2 y hy
    · show l.foldl minI (minI x a) = x ∨ l.foldl minI (minI x a) ∈ a :: l
      rcases h3 with h3 | h3
      · rcases m3 with m3 | m3
        · left; rw [h3, m3]
        · right; rw [h3, m3]; exact List.mem_cons_self ..
      · right; exact List.mem_cons_of_mem _ h3
theorem foldMax (l : List Int) : ∀ x, (x ≤ l.foldl maxI x ∧ (∀ y ∈ l, y ≤ l.foldl maxI x)) ∧ (l.foldl maxI x = x ∨ l.foldl maxI x ∈ l) := by
  induction l with
  | nil => intro x; exact ⟨⟨Int.le_refl _, fun y hy => by cases hy⟩, .inl rfl⟩
  | cons a l ih =>
    intro x
    obtain ⟨⟨h1, h2⟩, h3⟩ := ih (maxI x a)
    obtain ⟨m1, m2, m3⟩ := maxI_eq x a
    show ((x ≤ l.foldl maxI (maxI x a) ∧ ∀ y ∈ a :: l, y ≤ l.foldl maxI (maxI x a))) ∧ _
    refine ⟨⟨by omega, fun y hy => ?_⟩, ?_⟩
    · rcases List.mem_cons.1 hy with rfl | hy
      · omega
      · exact h2 y hy
    · show l.foldl maxI (maxI x a) = x ∨ l.foldl maxI (maxI x a) ∈ a :: l
      rcases h3 with h3 | h3
      · rcases m3 with m3 | m3
        · left; rw [h3, m3]
        · right; rw [h3, m3]; exact List.mem_cons_self ..
      · right; exact List.mem_cons_of_mem _ h3
theorem minL_le {l : List Int} {y : Int} (h : y ∈ l) : minL l ≤ y := by
  cases l with
  | nil => cases h
  | cons a l =>
    obtain ⟨⟨h1, h2⟩, _⟩ := foldMin l a
    rcases List.mem_cons.1 h with rfl | h
    · exact h1
    · exact h2 y h
theorem minL_mem {a : Int} {l : List Int} : minL (a :: l) ∈ a :: l := by
  obtain ⟨_, h | h⟩ := foldMin l a
  · exact List.mem_cons.2 (.inl h)
  · exact List.mem_cons_of_mem _ h
theorem le_maxL {l : List Int} {y : Int} (h : y ∈ l) : y ≤ maxL l := by
  cases l with
  | nil => cases h
  | cons a l =>
    obtain ⟨⟨h1, h2⟩, _⟩ := foldMax l a
    rcases List.mem_cons.1 h with rfl | h
    · exact h1
    · exact h2 y h
theorem maxL_mem {a : Int} {l : List Int} : maxL (a :: l) ∈ a :: l := by
  obtain ⟨_, h | h⟩ := foldMax l a
  · exact List.mem_cons.2 (.inl h)
  · exact List.mem_cons_of_mem _ h
/-! ### sums that do not wrap -/
theorem sumF_bd {lo : ScA → Int} {sc : Nat → ScA} {B : Int} (hB : 0 ≤ B ∧ 4 * B ≤ 9000000000000000000) : ∀ (m j : Nat) (a : Int) (k : Nat), m + k ≤ 4 → (∀ t, j ≤ t → t < j + m → -B ≤ lo (sc t) ∧ lo (sc t) ≤ B) → -((k : Int) * B) ≤ a ∧ a ≤ (k : Int) * B → -(((m + k : Nat) : Int) * B) ≤ sumF lo sc m j a ∧ sumF lo sc m j a ≤ ((m + k : Nat) : Int) * B
  | 0, j, a, k, _, _, ha => by simpa [sumF] using ha
  | m + 1, j, a, k, hk, h, ha => by
    have h0 := h j (Nat.le_refl _) (by omega)
    have hk4 : (k : Int) * B + B = ((k + 1 : Nat) : Int) * B := by rw [Int.natCast_add, Int.add_mul]; simp
    have hkB : ((k + 1 : Nat) : Int) * B ≤ 4 * B := Int.mul_le_mul_of_nonneg_right (by omega) hB.1
    have e : wrapF .i64 (a + lo (sc j)) = a + lo (sc j) := wrapF_in (by omega) (by omega)
    unfold sumF
    rw [e]
    have := sumF_bd hB m (j + 1) (a + lo (sc j)) (k + 1) (by omega) (fun t g1 g2 => h t (by omega) (by omega)) ⟨by omega, by omega⟩
    rwa [show m + (k + 1) = m + 1 + k from by omega] at this
theorem sumF_le {lo lo' : ScA → Int} {sc sc' : Nat → ScA} {B : Int} (hB : 0 ≤ B ∧ 4 * B ≤ 9000000000000000000) : ∀ (m j : Nat) (a a' : Int) (k : Nat), m + k ≤ 4 → (∀ t, j ≤ t → t < j + m → -B ≤ lo (sc t) ∧ lo (sc t) ≤ lo' (sc' t) ∧ lo' (sc' t) ≤ B) → -((k : Int) * B) ≤ a ∧ a ≤ a' ∧ a' ≤ (k : Int) * B → sumF lo sc m j a ≤ sumF lo' sc' m j a'
  | 0, _, _, _, _, _, _, ha => ha.2.1
  | m + 1, j, a, a', k, hk, h, ha => by
    have h0 := h j (Nat.le_refl _) (by omega)
    have hk4 : (k : Int) * B + B = ((k + 1 : Nat) : Int) * B := by rw [Int.natCast_add, Int.add_mul]; simp
    have hkB : ((k + 1 : Nat) : Int) * B ≤ 4 * B := Int.mul_le_mul_of_nonneg_right (by omega) hB.1
    have e : wrapF .i64 (a + lo (sc j)) = a + lo (sc j) := wrapF_in (by omega) (by omega)
    have e' : wrapF .i64 (a' + lo' (sc' j)) = a' + lo' (sc' j) := wrapF_in (by omega) (by omega)
    unfold sumF
    rw [e, e']
    exact sumF_le hB m (j + 1) _ _ (k + 1) (by omega) (fun t g1 g2 => h t (by omega) (by omega)) ⟨by omega, by omega, by omega⟩
theorem sumF_four {lo : ScA → Int} {sc : Nat → ScA} {B : Int} (hB : 0 ≤ B ∧ 16 * B ≤ 9000000000000000000) : ∀ (m j : Nat) (a : Int) (k : Nat), m + k ≤ 4 → (∀ t, j ≤ t → t < j + m → -B ≤ lo (sc t) ∧ lo (sc t) ≤ B) → -((k : Int) * B) ≤ a ∧ a ≤ (k : Int) * B → sumF (fun A => 4 * lo A) sc m j (4 * a) = 4 * sumF lo sc m j a
  | 0, _, _, _, _, _, _ => rfl
  | m + 1, j, a, k, hk, h, ha => by
    have h0 := h j (Nat.le_refl _) (by omega)
    have hk4 : (k : Int) * B + B = ((k + 1 : Nat) : Int) * B := by rw [Int.natCast_add, Int.add_mul]; simp
    have hkB : ((k + 1 : Nat) : Int) * B ≤ 4 * B := Int.mul_le_mul_of_nonneg_right (by omega) hB.1
    have e : wrapF .i64 (a + lo (sc j)) = a + lo (sc j) := wrapF_in (by omega) (by omega)
    have e' : wrapF .i64 (4 * a + 4 * lo (sc j)) = 4 * (a + lo (sc j)) := by rw [wrapF_in (by omega) (by omega)]; omega
    unfold sumF
    rw [e, e']
    exact sumF_four hB m (j + 1) _ (k + 1) (by omega) (fun t g1 g2 => h t (by omega) (by omega)) ⟨by omega, by omega⟩
theorem sumF_congr {lo lo' : ScA → Int} {sc sc' : Nat → ScA} : ∀ (m j : Nat) (a : Int), (∀ t, j ≤ t → t < j + m → lo (sc t) = lo' (sc' t)) → sumF lo sc m j a = sumF lo' sc' m j a
  | 0, _, _, _ => rfl
  | m + 1, j, a, h => by
    unfold sumF
    rw [h j (Nat.le_refl _) (by omega)]
    exact sumF_congr m (j + 1) _ fun t g1 g2 => h t (by omega) (by omega)
theorem hasE_cases (sc : Nat → ScA) (css : List (List Value)) : ∀ m j, hasE sc css m j = 7 ∨ (hasE sc css m j = 0 ∧ ∀ t, j ≤ t → t < j + m → hasB (sc t) css = true)
  | 0, _ => .inr ⟨rfl, fun t g1 g2 => by omega⟩
  | m + 1, j => by
    unfold hasE
    cases hb : hasB (sc j) css with
    | false => left; rfl
    | true =>
      rcases hasE_cases sc css m (j + 1) with h | ⟨h, h2⟩
      · left; exact h
      · right
        refine ⟨h, fun t g1 g2 => ?_⟩
        by_cases ht : t = j
        · subst ht; exact hb
        · exact h2 t (by omega) (by omega)
theorem hasE_congr {sc sc' : Nat → ScA} {css css' : List (List Value)} : ∀ m j, (∀ t, j ≤ t → t < j + m → hasB (sc t) css = hasB (sc' t) css') → hasE sc css m j = hasE sc' css' m j
  | 0, _, _ => rfl
  | m + 1, j, h => by
    unfold hasE
    rw [h j (Nat.le_refl _) (by omega), hasE_congr m (j + 1) fun t g1 g2 => h t (by omega) (by omega)]
/-! ### one ring, one bit finer -/
section
variable {cs1 cs2 : List Value} {n1 n2 : Nat} {r c t p w s q D : Int}
theorem thrE_eq {x d : Int} (hr : 1 ≤ r ∧ r ≤ 200) (hd : 1 ≤ d ∧ d ≤ 12) (hx : 0 ≤ x ∧ x ≤ powE (d - 1)) : thrE r x d = 1024 * (x * (powE d - x)) * r ∧ 0 ≤ thrE r x d ∧ thrE r x d ≤ 3435973836800 := by
  obtain ⟨p1, p2⟩ := pow_two hd
  have hpw := pow_bd hd
  have m1 := mul_bd (a := x) (b := powE d - x) (A := 4096) (B := 4096) (by omega) (by omega)
  have m2 := mul_bd (a := x * (powE d - x)) (b := r) (A := 4096 * 4096) (B := 200) m1 (by omega)
  have e0 : wrapF .i64 (1024 * x) = 1024 * x := wrapF_in (by omega) (by omega)
  have e1 : wrapF .i64 (powE d - x) = powE d - x := wrapF_in (by omega) (by omega)
  have e2 : 1024 * x * (powE d - x) = 1024 * (x * (powE d - x)) := Int.mul_assoc _ _ _
  have e3 : wrapF .i64 (1024 * (x * (powE d - x))) = 1024 * (x * (powE d - x)) := wrapF_in (by omega) (by omega)
  have e4 : 1024 * (x * (powE d - x)) * r = 1024 * (x * (powE d - x) * r) := Int.mul_assoc _ _ _
  have e5 : thrE r x d = 1024 * (x * (powE d - x)) * r := by
    unfold thrE
    rw [e0, e1, e2, e3, wrapF_in (by omega) (by omega)]
  rw [e5]
  exact ⟨rfl, by omega, by omega⟩
theorem pow_up {D : Int} (hD : 1 ≤ D ∧ D ≤ 11) : powE (D + 1) = 2 * powE D ∧ D + 1 - 1 = D := by
  obtain ⟨p3, _⟩ := pow_two (d := D + 1) (by omega)
  have e0 : D + 1 - 1 = D := by omega
  rw [e0] at p3
  exact ⟨p3, e0⟩
theorem br_two (h : RV cs1 n1 r c t p w s q) (hb : hasB (AA n1 n2 r c t p w s q) [cs1, cs2] = true) (hD : 1 ≤ D ∧ D ≤ 11) :
    bAt (AA n1 n2 r c t p w s q) [cs1, cs2] (D + 1) = 2 * bAt (AA n1 n2 r c t p w s q) [cs1, cs2] D ∨ bAt (AA n1 n2 r c t p w s q) [cs1, cs2] (D + 1) = 2 * bAt (AA n1 n2 r c t p w s q) [cs1, cs2] D + 1 := by
  obtain ⟨e1, _, ⟨g1, g2⟩, _⟩ := br_at h hb (D := D) (by omega)
  obtain ⟨e1', _, _, _⟩ := br_at h hb (D := D + 1) (by omega)
  have hpw := pow_bd (d := D) (by omega)
  have hp2 := pow_two (d := D) (by omega)
  rw [e1', show (D + 1 - 1).toNat = (D - 1).toNat + 1 from by omega]
  have hdef : brA (AA n1 n2 r c t p w s q) [cs1, cs2] ((D - 1).toNat + 1) = finA (AA n1 n2 r c t p w s q) [cs1, cs2] (brA (AA n1 n2 r c t p w s q) [cs1, cs2] (D - 1).toNat) (((D - 1).toNat + 1 : Nat) : Int) := rfl
  rw [hdef, ← e1]
  unfold finA
  generalize bAt (AA n1 n2 r c t p w s q) [cs1, cs2] D = x at *
  have e2 : wrapF .i64 (2 * x) = 2 * x := wrapF_in (by omega) (by omega)
  have e3 : upE x = 2 * x + 1 := by unfold upE; rw [e2, wrapF_in (by omega) (by omega)]
  rw [e2, e3]
  split
  · right; rfl
  · left; rfl
theorem thr_up {x y : Int} (hr : 1 ≤ r ∧ r ≤ 200) (hD : 1 ≤ D ∧ D ≤ 11) (hx : 0 ≤ x ∧ x + 1 ≤ powE (D - 1)) (hy : y = 2 * x ∨ y = 2 * x + 1) :
    4 * thrE r x D ≤ thrE r y (D + 1) ∧ thrE r (y + 1) (D + 1) ≤ 4 * thrE r (x + 1) D ∧ thrE r x D ≤ thrE r (x + 1) D := by
  obtain ⟨p1, p2⟩ := pow_two (d := D) (by omega)
  obtain ⟨p3, p4⟩ := pow_up hD
  obtain ⟨a1, _⟩ := thrE_eq (x := x) (d := D) hr (by omega) (by omega)
  obtain ⟨a2, _⟩ := thrE_eq (x := x + 1) (d := D) hr (by omega) (by omega)
  obtain ⟨a3, _⟩ := thrE_eq (x := y) (d := D + 1) hr (by omega) ⟨by omega, by rw [p4]; omega⟩
  obtain ⟨a4, _⟩ := thrE_eq (x := y + 1) (d := D + 1) hr (by omega) ⟨by omega, by rw [p4]; omega⟩
  rw [a1, a2, a3, a4, p3]
  generalize powE D = P at *
  generalize powE (D - 1) = P2 at *
  have k1 : 4 * (x * (P - x)) ≤ y * (2 * P - y) := by
    have : 0 ≤ (y - 2 * x) * (2 * P - y - 2 * x) := Int.mul_nonneg (by omega) (by omega)
    grind
  have k2 : (y + 1) * (2 * P - (y + 1)) ≤ 4 * ((x + 1) * (P - (x + 1))) := by
    have : 0 ≤ (2 * x + 1 - y) * (2 * P - (2 * x + 2) - (y + 1)) := Int.mul_nonneg (by omega) (by omega)
    grind
  have k3 : x * (P - x) ≤ (x + 1) * (P - (x + 1)) := by
    have : 0 ≤ P - 2 * x - 1 := by omega
    grind
  refine ⟨?_, ?_, ?_⟩
  · have := Int.mul_le_mul_of_nonneg_right (show 4 * (1024 * (x * (P - x))) ≤ 1024 * (y * (2 * P - y)) from by omega) (show 0 ≤ r from by omega)
    rwa [Int.mul_assoc 4] at this
  · have := Int.mul_le_mul_of_nonneg_right (show 1024 * ((y + 1) * (2 * P - (y + 1))) ≤ 4 * (1024 * ((x + 1) * (P - (x + 1)))) from by omega) (show 0 ≤ r from by omega)
    rwa [Int.mul_assoc 4] at this
  · exact Int.mul_le_mul_of_nonneg_right (by omega) (by omega)
end
end Go.Proofs.YtbocpikgochioaaDoor.Ways
namespace Go.Proofs.YtbocpikgochioaaDoor.Ways
open Go Go.Ex
/-! ### torques -/
section
variable {cs1 cs2 : List Value} {n1 n2 : Nat} {r c t p w s q D : Int}
def torZ (cs1 cs2 : List Value) (n1 : Nat) (r c p u y : Int) : Int := r * c * p * (y * liftE cs1 (clE (y - u) n1) - 1024 * liftE cs2 (clE (y - u) n1))
def DragOk (cs2 : List Value) (n1 : Nat) : Prop := ∀ j, j < n1 → 0 ≤ eIE cs2 j ∧ eIE cs2 j ≤ 1000
theorem k_bd (h : RV cs1 n1 r c t p w s q) : 0 ≤ r * c * p ∧ r * c * p ≤ 5120000 := by
  have hr := h.r; have hc := h.c
  have m1 := mul_bd (a := r) (b := c) (A := 200) (B := 100) (by omega) (by omega)
  exact mul_bd (a := r * c) (b := p) (A := 200 * 100) (B := 256) m1 h.p
theorem tor_eq (h : RV cs1 n1 r c t p w s q) (hd : DragOk cs2 n1) {y : Int} (hy : 0 ≤ y ∧ y ≤ 209715200) :
    torV (AA n1 n2 r c t p w s q) [cs1, cs2] y = torZ cs1 cs2 n1 r c p (t + q) y ∧ -1100000000000000000 ≤ torZ cs1 cs2 n1 r c p (t + q) y ∧ torZ cs1 cs2 n1 r c p (t + q) y ≤ 1100000000000000000 := by
  have ht := h.t; have hq := h.q; have hr := h.r; have hc := h.c; have hp := h.p; have hn := h.n
  have ew : wrapF .i64 (t + q) = t + q := wrapF_in (by omega) (by omega)
  have ey : wrapF .i64 (y - (t + q)) = y - (t + q) := wrapF_in (by omega) (by omega)
  obtain ⟨_, l1, l2⟩ := liftE_mono h (y := y - (t + q)) (z := y - (t + q)) (Int.le_refl _)
  have a1 := clE_in (y - (t + q)) hn.1 (by omega)
  obtain ⟨d1, d2⟩ := hd (clE (y - (t + q)) n1).toNat (by omega)
  have hk := k_bd h
  have m1 := mul_bd (a := r) (b := c) (A := 200) (B := 100) (by omega) (by omega)
  show torE r c p y (liftE cs1 (clE (wrapF .i64 (y - wrapF .i64 (t + q))) n1)) (liftE cs2 (clE (wrapF .i64 (y - wrapF .i64 (t + q))) n1)) = _ ∧ _
  rw [ew, ey]
  unfold torZ
  have e2 : liftE cs2 (clE (y - (t + q)) n1) = eIE cs2 (clE (y - (t + q)) n1).toNat := rfl
  rw [e2]
  generalize liftE cs1 (clE (y - (t + q)) n1) = L at *
  generalize eIE cs2 (clE (y - (t + q)) n1).toNat = G at *
  have m2 := mul_bd (a := y) (b := L) (A := 209715200) (B := 1000) hy ⟨l1, l2⟩
  have v1 : -1024000 ≤ y * L - 1024 * G := by omega
  have v2 : y * L - 1024 * G ≤ 209715200000 := by omega
  have q1 : r * c * p * (y * L - 1024 * G) ≤ 5120000 * 209715200000 := by
    have := Int.mul_le_mul_of_nonneg_left v2 hk.1
    have := Int.mul_le_mul_of_nonneg_right hk.2 (show (0 : Int) ≤ 209715200000 by decide)
    omega
  have q2 : -(5120000 * 1024000) ≤ r * c * p * (y * L - 1024 * G) := by
    have h1 := Int.mul_le_mul_of_nonneg_left v1 hk.1
    have h2 := Int.mul_le_mul_of_nonneg_right hk.2 (show (0 : Int) ≤ 1024000 by decide)
    rw [Int.mul_neg] at h1
    omega
  generalize hV : y * L - 1024 * G = V at *
  have f1 : wrapF .i64 (r * c) = r * c := wrapF_in (by omega) (by omega)
  have f2 : wrapF .i64 (r * c * p) = r * c * p := wrapF_in (by omega) (by omega)
  have f3 : wrapF .i64 (y * L) = y * L := wrapF_in (by omega) (by omega)
  have f4 : wrapF .i64 (1024 * G) = 1024 * G := wrapF_in (by omega) (by omega)
  have f5 : wrapF .i64 (y * L - 1024 * G) = V := by rw [hV]; exact wrapF_in (by omega) (by omega)
  unfold torE
  rw [f1, f2, f3, f4, f5, wrapF_in (by omega) (by omega)]
  exact ⟨rfl, by omega, by omega⟩
theorem cl_low {z : Int} {n : Nat} (h1 : 1 ≤ n) (h2 : n ≤ 32) (h : z ≤ 0) : clE z n = 0 := by
  unfold clE
  rw [wrapF_in (by omega) (by omega)]
  split <;> split <;> omega
theorem cl_high {z : Int} {n : Nat} (h1 : 1 ≤ n) (h2 : n ≤ 32) (h : (n : Int) - 1 ≤ z) : clE z n = (n : Int) - 1 := by
  unfold clE
  rw [wrapF_in (by omega) (by omega)]
  split <;> split <;> omega
theorem torZ_mono (h : RV cs1 n1 r c t p w s q) {y z u : Int} (hyz : y ≤ z) (hc : clE (y - u) n1 = clE (z - u) n1) : torZ cs1 cs2 n1 r c p u y ≤ torZ cs1 cs2 n1 r c p u z := by
  unfold torZ
  rw [hc]
  obtain ⟨_, l1, _⟩ := liftE_mono h (y := z - u) (z := z - u) (Int.le_refl _)
  have := Int.mul_le_mul_of_nonneg_right hyz l1
  exact Int.mul_le_mul_of_nonneg_left (by omega) (k_bd h).1
/-- all inflows between both ends have their torque between the least and the greatest one that is looked at -/
theorem tor_facts (h : RV cs1 n1 r c t p w s q) (hd : DragOk cs2 n1) (h5 : n1 ≤ 5) {x F T : Int} (hF : toF (AA n1 n2 r c t p w s q) x D = F) (hT : toT (AA n1 n2 r c t p w s q) x D = T) (hFT : 0 ≤ F ∧ F ≤ T ∧ T ≤ 209715200) {m : Nat} (hm : mT (AA n1 n2 r c t p w s q) x D = m) :
    (∃ y, (F ≤ y ∧ y ≤ T) ∧ minL ((ysT (AA n1 n2 r c t p w s q) x D m).map (torV (AA n1 n2 r c t p w s q) [cs1, cs2])) = torZ cs1 cs2 n1 r c p (t + q) y) ∧
    (∃ y, (F ≤ y ∧ y ≤ T) ∧ maxL ((ysT (AA n1 n2 r c t p w s q) x D m).map (torV (AA n1 n2 r c t p w s q) [cs1, cs2])) = torZ cs1 cs2 n1 r c p (t + q) y) ∧
    ∀ y, F ≤ y → y ≤ T → minL ((ysT (AA n1 n2 r c t p w s q) x D m).map (torV (AA n1 n2 r c t p w s q) [cs1, cs2])) ≤ torZ cs1 cs2 n1 r c p (t + q) y ∧ torZ cs1 cs2 n1 r c p (t + q) y ≤ maxL ((ysT (AA n1 n2 r c t p w s q) x D m).map (torV (AA n1 n2 r c t p w s q) [cs1, cs2])) := by
  have ht := h.t; have hq := h.q; have hn := h.n
  have ew : (AA n1 n2 r c t p w s q).t = t + q := show wrapF .i64 (t + q) = t + q from wrapF_in (by omega) (by omega)
  have en : (AA n1 n2 r c t p w s q).n1 = n1 := rfl
  have hla : toLa (AA n1 n2 r c t p w s q) = t + q + (n1 : Int) - 1 := by
    unfold toLa
    rw [ew, en, wrapF_in (n := t + q + (n1 : Int)) (by omega) (by omega), wrapF_in (by omega) (by omega)]
  obtain ⟨x1, x2, x3⟩ := maxI_eq F (t + q)
  have hX : toX (AA n1 n2 r c t p w s q) x D = maxI F (t + q) := by unfold toX; rw [hF, ew]
  obtain ⟨m1, m2, m3⟩ := minI_eq T (t + q + (n1 : Int) - 1)
  have hm' : (minI T (t + q + (n1 : Int) - 1) - maxI F (t + q) + 1).toNat = m := by
    rw [← hm]; unfold mT; rw [hT, hla, hX]
  generalize hXX : maxI F (t + q) = X at *
  generalize hMM : minI T (t + q + (n1 : Int) - 1) = M at *
  have hys : ysT (AA n1 n2 r c t p w s q) x D m = F :: T :: (List.range m).map fun j => xT X j := by unfold ysT; rw [hF, hT, hX]
  have hxt : ∀ j, j < m → xT X j = X + (j : Int) := fun j hj => xT_eq (by omega) (by omega) j (by omega)
  have hin : ∀ z ∈ ysT (AA n1 n2 r c t p w s q) x D m, F ≤ z ∧ z ≤ T := by
    intro z hz
    rw [hys] at hz
    rcases List.mem_cons.1 hz with rfl | hz
    · omega
    rcases List.mem_cons.1 hz with rfl | hz
    · omega
    obtain ⟨j, hj, rfl⟩ := List.mem_map.1 hz
    rw [List.mem_range] at hj
    rw [hxt j hj]
    omega
  have hmid : ∀ z, X ≤ z → z ≤ M → z ∈ ysT (AA n1 n2 r c t p w s q) x D m := by
    intro z g1 g2
    rw [hys]
    refine List.mem_cons_of_mem _ (List.mem_cons_of_mem _ (List.mem_map.2 ⟨(z - X).toNat, by rw [List.mem_range]; omega, ?_⟩))
    rw [hxt _ (by omega)]
    omega
  have hFm : F ∈ ysT (AA n1 n2 r c t p w s q) x D m := by rw [hys]; exact List.mem_cons_self ..
  have hTm : T ∈ ysT (AA n1 n2 r c t p w s q) x D m := by rw [hys]; exact List.mem_cons_of_mem _ (List.mem_cons_self ..)
  have htv : ∀ z, F ≤ z → z ≤ T → torV (AA n1 n2 r c t p w s q) [cs1, cs2] z = torZ cs1 cs2 n1 r c p (t + q) z := fun z g1 g2 => (tor_eq h hd ⟨by omega, by omega⟩).1
  have hlo : ∀ z ∈ ysT (AA n1 n2 r c t p w s q) x D m, minL ((ysT (AA n1 n2 r c t p w s q) x D m).map (torV (AA n1 n2 r c t p w s q) [cs1, cs2])) ≤ torZ cs1 cs2 n1 r c p (t + q) z := by
    intro z hz
    have := minL_le (List.mem_map_of_mem (f := torV (AA n1 n2 r c t p w s q) [cs1, cs2]) hz)
    rwa [htv z (hin z hz).1 (hin z hz).2] at this
  have hhi : ∀ z ∈ ysT (AA n1 n2 r c t p w s q) x D m, torZ cs1 cs2 n1 r c p (t + q) z ≤ maxL ((ysT (AA n1 n2 r c t p w s q) x D m).map (torV (AA n1 n2 r c t p w s q) [cs1, cs2])) := by
    intro z hz
    have := le_maxL (List.mem_map_of_mem (f := torV (AA n1 n2 r c t p w s q) [cs1, cs2]) hz)
    rwa [htv z (hin z hz).1 (hin z hz).2] at this
  refine ⟨?_, ?_, fun y g1 g2 => ?_⟩
  · have : minL ((ysT (AA n1 n2 r c t p w s q) x D m).map (torV (AA n1 n2 r c t p w s q) [cs1, cs2])) ∈ (ysT (AA n1 n2 r c t p w s q) x D m).map (torV (AA n1 n2 r c t p w s q) [cs1, cs2]) := by
      conv => rw [hys]
      exact minL_mem
    obtain ⟨y, hy, he⟩ := List.mem_map.1 this
    exact ⟨y, hin y hy, by rw [← he]; exact htv y (hin y hy).1 (hin y hy).2⟩
  · have : maxL ((ysT (AA n1 n2 r c t p w s q) x D m).map (torV (AA n1 n2 r c t p w s q) [cs1, cs2])) ∈ (ysT (AA n1 n2 r c t p w s q) x D m).map (torV (AA n1 n2 r c t p w s q) [cs1, cs2]) := by
      conv => rw [hys]
      exact maxL_mem
    obtain ⟨y, hy, he⟩ := List.mem_map.1 this
    exact ⟨y, hin y hy, by rw [← he]; exact htv y (hin y hy).1 (hin y hy).2⟩
  · by_cases c1 : y < X
    · have hXu : X = t + q := by omega
      constructor
      · exact Int.le_trans (hlo F hFm) (torZ_mono h g1 (by rw [cl_low hn.1 hn.2 (by omega), cl_low hn.1 hn.2 (by omega)]))
      · by_cases c2 : T < t + q
        · exact Int.le_trans (torZ_mono h g2 (by rw [cl_low hn.1 hn.2 (by omega), cl_low hn.1 hn.2 (by omega)])) (hhi T hTm)
        · exact Int.le_trans (torZ_mono h (z := t + q) (by omega) (by rw [cl_low hn.1 hn.2 (by omega), cl_low hn.1 hn.2 (by omega)])) (hhi (t + q) (hmid _ (by omega) (by omega)))
    · by_cases c2 : y ≤ M
      · exact ⟨hlo y (hmid y (by omega) c2), hhi y (hmid y (by omega) c2)⟩
      · constructor
        · by_cases c3 : t + q + (n1 : Int) - 1 < F
          · exact Int.le_trans (hlo F hFm) (torZ_mono h g1 (by rw [cl_high hn.1 hn.2 (by omega), cl_high hn.1 hn.2 (by omega)]))
          · exact Int.le_trans (hlo (t + q + (n1 : Int) - 1) (hmid _ (by omega) (by omega))) (torZ_mono h (by omega) (by rw [cl_high hn.1 hn.2 (by omega), cl_high hn.1 hn.2 (by omega)]))
        · exact Int.le_trans (torZ_mono h g2 (by rw [cl_high hn.1 hn.2 (by omega), cl_high hn.1 hn.2 (by omega)])) (hhi T hTm)
theorem inf_two {x : Int} (hr : 1 ≤ r ∧ r ≤ 200) (hw : 1 ≤ w ∧ w ≤ 50) (hs : 1 ≤ s ∧ s ≤ 1000) (hD : 1 ≤ D ∧ D ≤ 11) (hx : 0 ≤ x ∧ x ≤ powE (D - 1)) : infE r w s (2 * x) (D + 1) = infE r w s x D := by
  obtain ⟨p1, p2⟩ := pow_two (d := D) (by omega)
  obtain ⟨p3, e0⟩ := pow_up hD
  obtain ⟨i1, _⟩ := inf_bd (a := x) (d := D) hr hw hs (by omega) hx
  obtain ⟨i2, _⟩ := inf_bd (a := 2 * x) (d := D + 1) hr hw hs (by omega) ⟨by omega, by rw [e0]; omega⟩
  rw [i1, i2, p3]
  rw [show 1024 * (2 * powE D - 2 * x) * w = 2 * (1024 * (powE D - x) * w) from by grind, show 2 * powE D * s * r = 2 * (powE D * s * r) from by grind]
  exact Int.mul_ediv_mul_of_pos _ _ (by decide)
/-- the ends of a bracket -/
theorem ends (h : RV cs1 n1 r c t p w s q) (hb : hasB (AA n1 n2 r c t p w s q) [cs1, cs2] = true) (hD : 1 ≤ D ∧ D ≤ 12) :
    toF (AA n1 n2 r c t p w s q) (bAt (AA n1 n2 r c t p w s q) [cs1, cs2] D) D = infE r w s (bAt (AA n1 n2 r c t p w s q) [cs1, cs2] D + 1) D ∧
    toT (AA n1 n2 r c t p w s q) (bAt (AA n1 n2 r c t p w s q) [cs1, cs2] D) D = infE r w s (bAt (AA n1 n2 r c t p w s q) [cs1, cs2] D) D ∧
    (0 ≤ infE r w s (bAt (AA n1 n2 r c t p w s q) [cs1, cs2] D + 1) D ∧ infE r w s (bAt (AA n1 n2 r c t p w s q) [cs1, cs2] D + 1) D ≤ infE r w s (bAt (AA n1 n2 r c t p w s q) [cs1, cs2] D) D ∧ infE r w s (bAt (AA n1 n2 r c t p w s q) [cs1, cs2] D) D ≤ 209715200) := by
  obtain ⟨_, _, ⟨g1, g2⟩, _⟩ := br_at h hb hD
  have hpw := pow_bd hD
  have hp2 := pow_two hD
  generalize bAt (AA n1 n2 r c t p w s q) [cs1, cs2] D = x at *
  have hw : wrapF .i64 (x + 1) = x + 1 := wrapF_in (by omega) (by omega)
  obtain ⟨_, b1, b2⟩ := inf_bd (a := x) h.r h.w h.s hD ⟨g1, by omega⟩
  obtain ⟨_, b3, b4⟩ := inf_bd (a := x + 1) h.r h.w h.s hD ⟨by omega, by omega⟩
  have ha := inf_anti (x := x) (y := x + 1) h.r h.w h.s hD ⟨g1, by omega⟩ g2
  refine ⟨?_, rfl, b3, ha, b2⟩
  show infE r w s (wrapF .i64 (x + 1)) D = _
  rw [hw]
theorem lohi (h : RV cs1 n1 r c t p w s q) (hd : DragOk cs2 n1) (h5 : n1 ≤ 5) (hb : hasB (AA n1 n2 r c t p w s q) [cs1, cs2] = true) (hD : 1 ≤ D ∧ D ≤ 12) :
    (-1100000000000000000 ≤ mL [cs1, cs2] D (AA n1 n2 r c t p w s q) ∧ mL [cs1, cs2] D (AA n1 n2 r c t p w s q) ≤ mH [cs1, cs2] D (AA n1 n2 r c t p w s q) ∧ mH [cs1, cs2] D (AA n1 n2 r c t p w s q) ≤ 1100000000000000000) ∧
    (∃ y, (infE r w s (bAt (AA n1 n2 r c t p w s q) [cs1, cs2] D + 1) D ≤ y ∧ y ≤ infE r w s (bAt (AA n1 n2 r c t p w s q) [cs1, cs2] D) D) ∧ mL [cs1, cs2] D (AA n1 n2 r c t p w s q) = torZ cs1 cs2 n1 r c p (t + q) y) ∧
    (∃ y, (infE r w s (bAt (AA n1 n2 r c t p w s q) [cs1, cs2] D + 1) D ≤ y ∧ y ≤ infE r w s (bAt (AA n1 n2 r c t p w s q) [cs1, cs2] D) D) ∧ mH [cs1, cs2] D (AA n1 n2 r c t p w s q) = torZ cs1 cs2 n1 r c p (t + q) y) ∧
    ∀ y, infE r w s (bAt (AA n1 n2 r c t p w s q) [cs1, cs2] D + 1) D ≤ y → y ≤ infE r w s (bAt (AA n1 n2 r c t p w s q) [cs1, cs2] D) D → mL [cs1, cs2] D (AA n1 n2 r c t p w s q) ≤ torZ cs1 cs2 n1 r c p (t + q) y ∧ torZ cs1 cs2 n1 r c p (t + q) y ≤ mH [cs1, cs2] D (AA n1 n2 r c t p w s q) := by
  obtain ⟨_, e2, _⟩ := br_at h hb hD
  obtain ⟨eF, eT, hFT⟩ := ends h hb hD
  have hL : mL [cs1, cs2] D (AA n1 n2 r c t p w s q) = minL ((ysT (AA n1 n2 r c t p w s q) (bAt (AA n1 n2 r c t p w s q) [cs1, cs2] D) D (mT (AA n1 n2 r c t p w s q) (bAt (AA n1 n2 r c t p w s q) [cs1, cs2] D) D)).map (torV (AA n1 n2 r c t p w s q) [cs1, cs2])) := by unfold mL tlo; rw [e2]
  have hH : mH [cs1, cs2] D (AA n1 n2 r c t p w s q) = maxL ((ysT (AA n1 n2 r c t p w s q) (bAt (AA n1 n2 r c t p w s q) [cs1, cs2] D) D (mT (AA n1 n2 r c t p w s q) (bAt (AA n1 n2 r c t p w s q) [cs1, cs2] D) D)).map (torV (AA n1 n2 r c t p w s q) [cs1, cs2])) := by unfold mH thi; rw [e2]
  obtain ⟨⟨y1, f1, f2⟩, ⟨y2, f3, f4⟩, f5⟩ := tor_facts (n2 := n2) h hd h5 eF eT hFT rfl
  rw [← hL] at f2 f5
  rw [← hH] at f4 f5
  have b1 := (tor_eq (n2 := n2) h hd (y := y1) ⟨by omega, by omega⟩).2
  have b2 := (tor_eq (n2 := n2) h hd (y := y2) ⟨by omega, by omega⟩).2
  have b3 := f5 y1 f1.1 f1.2
  refine ⟨⟨by omega, by omega, by omega⟩, ⟨y1, f1, f2⟩, ⟨y2, f3, f4⟩, f5⟩
/-- a finer bracket's torques lie within -/
theorem tor_up (h : RV cs1 n1 r c t p w s q) (hd : DragOk cs2 n1) (h5 : n1 ≤ 5) (hb : hasB (AA n1 n2 r c t p w s q) [cs1, cs2] = true) (hD : 1 ≤ D ∧ D ≤ 11) :
    mL [cs1, cs2] D (AA n1 n2 r c t p w s q) ≤ mL [cs1, cs2] (D + 1) (AA n1 n2 r c t p w s q) ∧ mH [cs1, cs2] (D + 1) (AA n1 n2 r c t p w s q) ≤ mH [cs1, cs2] D (AA n1 n2 r c t p w s q) := by
  obtain ⟨_, _, _, k4⟩ := lohi h hd h5 hb (D := D) (by omega)
  obtain ⟨_, ⟨y1, g1, g2⟩, ⟨y2, g3, g4⟩, _⟩ := lohi h hd h5 hb (D := D + 1) (by omega)
  obtain ⟨_, _, ⟨i1, i2⟩, _⟩ := br_at h hb (D := D) (by omega)
  obtain ⟨_, _, ⟨j1, j2⟩, _⟩ := br_at h hb (D := D + 1) (by omega)
  have hx := br_two h hb hD
  obtain ⟨p3, e0⟩ := pow_up hD
  obtain ⟨p1, p2⟩ := pow_two (d := D) (by omega)
  rw [e0] at j2
  generalize bAt (AA n1 n2 r c t p w s q) [cs1, cs2] D = x at *
  generalize bAt (AA n1 n2 r c t p w s q) [cs1, cs2] (D + 1) = x' at *
  have a1 := inf_anti (x := x' + 1) (y := 2 * (x + 1)) (d := D + 1) h.r h.w h.s (by omega) ⟨by omega, by omega⟩ (by rw [e0]; omega)
  have a2 := inf_anti (x := 2 * x) (y := x') (d := D + 1) h.r h.w h.s (by omega) ⟨by omega, by omega⟩ (by rw [e0]; omega)
  rw [inf_two h.r h.w h.s hD ⟨by omega, by omega⟩] at a1 a2
  have r1 := k4 y1 (by omega) (by omega)
  have r2 := k4 y2 (by omega) (by omega)
  omega
end
end Go.Proofs.YtbocpikgochioaaDoor.Ways
namespace Go.Proofs.YtbocpikgochioaaDoor.Ways
open Go Go.Ex
/-! ### twice the chord, half of the tip -/
theorem wrap_form (x : Int) : wrapF .i64 x = if (9223372036854775808 : Int) ≤ x % 18446744073709551616 then x % 18446744073709551616 - 18446744073709551616 else x % 18446744073709551616 := by
  rw [wrapF_eq]
  unfold IntKind.wrap
  simp [IntKind.signed, IntKind.bits]
theorem wrap_mod (x : Int) : (wrapF .i64 x) % 18446744073709551616 = x % 18446744073709551616 := by
  rw [wrap_form]
  split <;> omega
theorem wrap_cong {x y : Int} (h : x % 18446744073709551616 = y % 18446744073709551616) : wrapF .i64 x = wrapF .i64 y := by
  rw [wrap_form, wrap_form, h]
theorem two_half (a c p : Int) : wrapF .i64 (wrapF .i64 (a * (2 * c)) * p) = wrapF .i64 (wrapF .i64 (a * c) * (2 * p)) := by
  apply wrap_cong
  have h1 : (wrapF .i64 (a * (2 * c)) * p) % 18446744073709551616 = (a * (2 * c) * p) % 18446744073709551616 := by
    rw [Int.mul_emod, wrap_mod, ← Int.mul_emod]
  have h2 : (wrapF .i64 (a * c) * (2 * p)) % 18446744073709551616 = (a * c * (2 * p)) % 18446744073709551616 := by
    rw [Int.mul_emod, wrap_mod, ← Int.mul_emod]
  rw [h1, h2]
  congr 1
  grind
section
variable {cs1 cs2 : List Value} {n1 n2 : Nat} {r c t p w s q D : Int}
theorem oth_bal (x d : Int) : balV (AA n1 n2 r (2 * c) t p w s q, x, d) [cs1, cs2] = balV (AA n1 n2 r c t (2 * p) w s q, x, d) [cs1, cs2] := by
  show balE r (2 * c) p x d _ = balE r c (2 * p) x d _
  unfold balE
  rw [two_half]
  rfl
theorem oth_has : hasB (AA n1 n2 r (2 * c) t p w s q) [cs1, cs2] = hasB (AA n1 n2 r c t (2 * p) w s q) [cs1, cs2] := by
  unfold hasB
  rw [oth_bal]
theorem oth_br : ∀ j, brA (AA n1 n2 r (2 * c) t p w s q) [cs1, cs2] j = brA (AA n1 n2 r c t (2 * p) w s q) [cs1, cs2] j
  | 0 => rfl
  | j + 1 => by
    show finA (AA n1 n2 r (2 * c) t p w s q) [cs1, cs2] (brA (AA n1 n2 r (2 * c) t p w s q) [cs1, cs2] j) _ = finA (AA n1 n2 r c t (2 * p) w s q) [cs1, cs2] (brA (AA n1 n2 r c t (2 * p) w s q) [cs1, cs2] j) _
    rw [oth_br j]
    unfold finA
    rw [oth_bal]
theorem oth_at : bAt (AA n1 n2 r (2 * c) t p w s q) [cs1, cs2] D = bAt (AA n1 n2 r c t (2 * p) w s q) [cs1, cs2] D := by
  unfold bAt
  rw [oth_has, oth_br]
theorem oth_dp : bDp (AA n1 n2 r (2 * c) t p w s q) [cs1, cs2] D = bDp (AA n1 n2 r c t (2 * p) w s q) [cs1, cs2] D := by
  unfold bDp
  rw [oth_has]
theorem oth_tor : torV (AA n1 n2 r (2 * c) t p w s q) [cs1, cs2] = torV (AA n1 n2 r c t (2 * p) w s q) [cs1, cs2] := by
  funext y
  show torE r (2 * c) p y _ _ = torE r c (2 * p) y _ _
  unfold torE
  rw [two_half]
  rfl
theorem oth_tL : tL [cs1, cs2] D (AA n1 n2 r (2 * c) t p w s q) = tL [cs1, cs2] D (AA n1 n2 r c t (2 * p) w s q) := by
  unfold tL
  rw [oth_at, oth_dp]
  rfl
theorem oth_tH : tH [cs1, cs2] D (AA n1 n2 r (2 * c) t p w s q) = tH [cs1, cs2] D (AA n1 n2 r c t (2 * p) w s q) := by
  unfold tH
  rw [oth_at, oth_dp]
  rfl
theorem oth_mL : mL [cs1, cs2] D (AA n1 n2 r (2 * c) t p w s q) = mL [cs1, cs2] D (AA n1 n2 r c t (2 * p) w s q) := by
  unfold mL tlo
  rw [oth_at, oth_dp, oth_tor]
  rfl
theorem oth_mH : mH [cs1, cs2] D (AA n1 n2 r (2 * c) t p w s q) = mH [cs1, cs2] D (AA n1 n2 r c t (2 * p) w s q) := by
  unfold mH thi
  rw [oth_at, oth_dp, oth_tor]
  rfl
/-- the thrusts of a ring -/
theorem thr_ring (h : RV cs1 n1 r c t p w s q) (hb : hasB (AA n1 n2 r c t p w s q) [cs1, cs2] = true) (hD : 1 ≤ D ∧ D ≤ 11) :
    (0 ≤ tL [cs1, cs2] D (AA n1 n2 r c t p w s q) ∧ tL [cs1, cs2] D (AA n1 n2 r c t p w s q) ≤ tH [cs1, cs2] D (AA n1 n2 r c t p w s q) ∧ tH [cs1, cs2] D (AA n1 n2 r c t p w s q) ≤ 3435973836800) ∧
    (4 * tL [cs1, cs2] D (AA n1 n2 r c t p w s q) ≤ tL [cs1, cs2] (D + 1) (AA n1 n2 r c t p w s q) ∧ tL [cs1, cs2] (D + 1) (AA n1 n2 r c t p w s q) ≤ 3435973836800) ∧
    tH [cs1, cs2] (D + 1) (AA n1 n2 r c t p w s q) ≤ 4 * tH [cs1, cs2] D (AA n1 n2 r c t p w s q) ∧ 0 ≤ tH [cs1, cs2] (D + 1) (AA n1 n2 r c t p w s q) := by
  obtain ⟨_, e2, ⟨i1, i2⟩, _⟩ := br_at h hb (D := D) (by omega)
  obtain ⟨_, e3, ⟨j1, j2⟩, _⟩ := br_at h hb (D := D + 1) (by omega)
  have hx := br_two h hb hD
  obtain ⟨p3, e0⟩ := pow_up hD
  have hpw := pow_bd (d := D + 1) (by omega)
  have hpd := pow_bd (d := D) (by omega)
  obtain ⟨p1, p2⟩ := pow_two (d := D) (by omega)
  rw [e0] at j2
  unfold tL tH
  rw [e2, e3]
  generalize bAt (AA n1 n2 r c t p w s q) [cs1, cs2] D = x at *
  generalize bAt (AA n1 n2 r c t p w s q) [cs1, cs2] (D + 1) = x' at *
  have w1 : wrapF .i64 (x + 1) = x + 1 := wrapF_in (by omega) (by omega)
  have w2 : wrapF .i64 (x' + 1) = x' + 1 := wrapF_in (by omega) (by omega)
  rw [w1, w2]
  obtain ⟨k1, k2, k3⟩ := thr_up (x := x) (y := x') h.r hD ⟨i1, i2⟩ hx
  obtain ⟨_, b1, b2⟩ := thrE_eq (x := x) (d := D) h.r (by omega) ⟨i1, by omega⟩
  obtain ⟨_, b3, b4⟩ := thrE_eq (x := x + 1) (d := D) h.r (by omega) ⟨by omega, i2⟩
  obtain ⟨_, b5, b6⟩ := thrE_eq (x := x') (d := D + 1) h.r (by omega) ⟨j1, by rw [e0]; omega⟩
  obtain ⟨_, b7, b8⟩ := thrE_eq (x := x' + 1) (d := D + 1) h.r (by omega) ⟨by omega, by rw [e0]; omega⟩
  have er : (AA n1 n2 r c t p w s q).r = r := rfl
  rw [er]
  exact ⟨⟨b1, k3, b4⟩, ⟨k1, b6⟩, k2, b7⟩
end
/-! ### the law -/
structure NI (cs1 cs2 : List Value) (ρ : Nat → Int) (n1 n2 k : Nat) (w s q D : Int) : Prop where
  o1 : OkI cs1 n1 n1
  l1 : cs1.length = n1
  o2 : OkI cs2 n2 n2
  l2 : cs2.length = n2
  hk : k ≤ 2
  rho : rhoE (ringC ρ (k + 1)) = ρ
  h5 : n1 ≤ 5
  hb : bladeE cs1 n1 cs2 n2 ρ (k + 1) = 0
  hf : flowE w s q = 0
  hD : 1 ≤ D ∧ D ≤ 11
def FactO (ρ : Nat → Int) (t : Nat) : Prop := (ρ (4 * t + 3)).tmod 2 = 0 ∧ wrapF .i64 (2 * ρ (4 * t + 1)) ≤ 100
section
variable {cs1 cs2 : List Value} {ρ : Nat → Int} {n1 n2 k : Nat} {w s q D : Int}
theorem NI.five (h : NI cs1 cs2 ρ n1 n2 k w s q D) : Ways.five (k + 1) := by
  have := h.hk
  unfold Ways.five
  omega
theorem NI.rv (h : NI cs1 cs2 ρ n1 n2 k w s q D) {t : Nat} (ht : t < k + 1) : RV cs1 n1 (ρ (4 * t)) (ρ (4 * t + 1)) (ρ (4 * t + 2)) (ρ (4 * t + 3)) w s q := rv_of h.hb h.hf ht
theorem NI.drag (h : NI cs1 cs2 ρ n1 n2 k w s q D) : DragOk cs2 n1 := by
  obtain ⟨hp, _⟩ := blade_z h.hb
  obtain ⟨_, _, hnn, _, hd⟩ := pol_z hp
  intro j hj
  exact range_z (hd j (by omega))
theorem NI.hN (h : NI cs1 cs2 ρ n1 n2 k w s q D) (D' : Int) : hNE cs1 cs2 (ringC ρ (k + 1)) n1 n2 k w s q D' = hasE (scA ρ w s q n1 n1 n2 n2) [cs1, cs2] (k + 1) 0 := by
  show hasE (scA (rhoE (ringC ρ (k + 1))) w s q n1 n1 n2 n2) [cs1, cs2] (k + 1) 0 = _
  rw [h.rho]
theorem NI.tLo (h : NI cs1 cs2 ρ n1 n2 k w s q D) (D' : Int) (h0 : hasE (scA ρ w s q n1 n1 n2 n2) [cs1, cs2] (k + 1) 0 = 0) : tLoE cs1 cs2 (ringC ρ (k + 1)) n1 n2 k w s q D' = sumF (tL [cs1, cs2] D') (scA ρ w s q n1 n1 n2 n2) (k + 1) 0 0 := by
  show okE (hNE cs1 cs2 (ringC ρ (k + 1)) n1 n2 k w s q D') (sumF (tL [cs1, cs2] D') (scA (rhoE (ringC ρ (k + 1))) w s q n1 n1 n2 n2) (k + 1) 0 0) = _
  rw [h.hN, h.rho, h0, ok0]
theorem NI.tHi (h : NI cs1 cs2 ρ n1 n2 k w s q D) (D' : Int) (h0 : hasE (scA ρ w s q n1 n1 n2 n2) [cs1, cs2] (k + 1) 0 = 0) : tHiE cs1 cs2 (ringC ρ (k + 1)) n1 n2 k w s q D' = sumF (tH [cs1, cs2] D') (scA ρ w s q n1 n1 n2 n2) (k + 1) 0 0 := by
  show okE (hNE cs1 cs2 (ringC ρ (k + 1)) n1 n2 k w s q D') (sumF (tH [cs1, cs2] D') (scA (rhoE (ringC ρ (k + 1))) w s q n1 n1 n2 n2) (k + 1) 0 0) = _
  rw [h.hN, h.rho, h0, ok0]
theorem NI.mLo (h : NI cs1 cs2 ρ n1 n2 k w s q D) (D' : Int) (h0 : hasE (scA ρ w s q n1 n1 n2 n2) [cs1, cs2] (k + 1) 0 = 0) : mLoE cs1 cs2 (ringC ρ (k + 1)) n1 n2 k w s q D' = sumF (mL [cs1, cs2] D') (scA ρ w s q n1 n1 n2 n2) (k + 1) 0 0 := by
  show okE (hNE cs1 cs2 (ringC ρ (k + 1)) n1 n2 k w s q D') (sumF (mL [cs1, cs2] D') (scA (rhoE (ringC ρ (k + 1))) w s q n1 n1 n2 n2) (k + 1) 0 0) = _
  rw [h.hN, h.rho, h0, ok0]
theorem NI.mHi (h : NI cs1 cs2 ρ n1 n2 k w s q D) (D' : Int) (h0 : hasE (scA ρ w s q n1 n1 n2 n2) [cs1, cs2] (k + 1) 0 = 0) : mHiE cs1 cs2 (ringC ρ (k + 1)) n1 n2 k w s q D' = sumF (mH [cs1, cs2] D') (scA ρ w s q n1 n1 n2 n2) (k + 1) 0 0 := by
  show okE (hNE cs1 cs2 (ringC ρ (k + 1)) n1 n2 k w s q D') (sumF (mH [cs1, cs2] D') (scA (rhoE (ringC ρ (k + 1))) w s q n1 n1 n2 n2) (k + 1) 0 0) = _
  rw [h.hN, h.rho, h0, ok0]
/-- the other blade's rings -/
theorem ro_at (h : NI cs1 cs2 ρ n1 n2 k w s q D) {t : Nat} (ht : t < k + 1) (hF : FactO ρ t) :
    rhoE (ringC (othF ρ) (k + 1)) (4 * t) = ρ (4 * t) ∧ rhoE (ringC (othF ρ) (k + 1)) (4 * t + 1) = 2 * ρ (4 * t + 1) ∧ rhoE (ringC (othF ρ) (k + 1)) (4 * t + 2) = ρ (4 * t + 2) ∧ 2 * rhoE (ringC (othF ρ) (k + 1)) (4 * t + 3) = ρ (4 * t + 3) := by
  have hr := h.rv ht
  have hc := hr.c
  have hp := hr.p
  rw [rho_ringC _ _ (by omega), rho_ringC _ _ (by omega), rho_ringC _ _ (by omega), rho_ringC _ _ (by omega)]
  have m0 : (4 * t) % 4 = 0 := by omega
  have m1 : (4 * t + 1) % 4 = 1 := by omega
  have m2 : (4 * t + 2) % 4 = 2 := by omega
  have m3 : (4 * t + 3) % 4 = 3 := by omega
  obtain ⟨f1, _⟩ := hF
  have e3 : (ρ (4 * t + 3)).tdiv 2 = ρ (4 * t + 3) / 2 := Int.tdiv_eq_ediv_of_nonneg hp.1
  have e4 : (ρ (4 * t + 3)).tmod 2 = ρ (4 * t + 3) % 2 := Int.tmod_eq_emod_of_nonneg hp.1
  rw [e4] at f1
  refine ⟨?_, ?_, ?_, ?_⟩
  · unfold othF; rw [m0]; rfl
  · unfold othF; rw [m1]; exact wrapF_in (by omega) (by omega)
  · unfold othF; rw [m2]; rfl
  · unfold othF; rw [m3]
    show 2 * IntKind.i64.wrap ((ρ (4 * t + 3)).tdiv 2) = _
    rw [e3, ← wrapF_eq, wrapF_in (by omega) (by omega)]
    omega
theorem sc_oth (h : NI cs1 cs2 ρ n1 n2 k w s q D) {t : Nat} (ht : t < k + 1) (hF : FactO ρ t) :
    scA (rhoE (ringC (othF ρ) (k + 1))) w s q n1 n1 n2 n2 t = AA n1 n2 (ρ (4 * t)) (2 * ρ (4 * t + 1)) (ρ (4 * t + 2)) (rhoE (ringC (othF ρ) (k + 1)) (4 * t + 3)) w s q ∧
    scA ρ w s q n1 n1 n2 n2 t = AA n1 n2 (ρ (4 * t)) (ρ (4 * t + 1)) (ρ (4 * t + 2)) (2 * rhoE (ringC (othF ρ) (k + 1)) (4 * t + 3)) w s q := by
  obtain ⟨e1, e2, e3, e4⟩ := ro_at h ht hF
  rw [sc_AA, sc_AA, e1, e2, e3, e4]
  exact ⟨rfl, rfl⟩
theorem oth_blade (h : NI cs1 cs2 ρ n1 n2 k w s q D) (hF : ∀ t, t < k + 1 → FactO ρ t) : bladeE cs1 n1 cs2 n2 (rhoE (ringC (othF ρ) (k + 1))) (k + 1) = 0 := by
  obtain ⟨hp, hn, hn2, hr⟩ := blade_z h.hb
  unfold bladeE
  rw [if_pos hp, if_neg (by omega), if_neg (by omega), firstF_zero]
  intro t _ ht
  have ht : t < k + 1 := by omega
  obtain ⟨e1, e2, e3, e4⟩ := ro_at h ht (hF t ht)
  have hv := h.rv ht
  obtain ⟨hr1, hr2⟩ := hr t ht
  have hw := (hF t ht).2
  have hc := hv.c
  rw [wrapF_in (by omega) (by omega)] at hw
  have hp' := hv.p
  have h4 : r4E (rhoE (ringC (othF ρ) (k + 1))) t = 0 := by
    unfold r4E
    rw [e1, e2, e3]
    unfold ring4E
    have a1 : rangeE (ρ (4 * t)) 1 200 = 0 := range0 hv.r.1 hv.r.2
    have a2 : rangeE (2 * ρ (4 * t + 1)) 1 100 = 0 := range0 (by omega) (by omega)
    have a3 : rangeE (ρ (4 * t + 2)) (-64) 64 = 0 := range0 hv.t.1 hv.t.2
    have a4 : rangeE (rhoE (ringC (othF ρ) (k + 1)) (4 * t + 3)) 0 256 = 0 := range0 (by omega) (by omega)
    rw [a1, a2, a3, a4]
    rfl
  have hb : rbE (rhoE (ringC (othF ρ) (k + 1))) t = rbE ρ t := by
    cases t with
    | zero => rfl
    | succ u => exact (ro_at h (by omega) (hF u (by omega))).1
  unfold rngE
  rw [if_pos h4, hb, e1, if_neg (by omega)]
theorem okCp_of (h : NI cs1 cs2 ρ n1 n2 k w s q D) (ρ' : Nat → Int) : okCp (argA n1 n2 (k + 1)) cs1 cs2 (ringC ρ' (k + 1)) :=
  ⟨rfl, ⟨h.o1, h.l1⟩, ⟨h.o2, h.l2⟩, h.five, rfl, ringC_self _ _⟩
theorem okFc_of (h : NI cs1 cs2 ρ n1 n2 k w s q D) (ρ' : Nat → Int) (hb : bladeE cs1 n1 cs2 n2 (rhoE (ringC ρ' (k + 1))) (k + 1) = 0) {D' : Int} (hD : 1 ≤ D' ∧ D' ≤ 12) : okFc (AN n1 n2 k w s q D') (cpS cs1 cs2 (ringC ρ' (k + 1)) (k + 1)) :=
  ⟨⟨rfl, ⟨h.o1, h.o2⟩, h.five, rfl, ringC_self _ _⟩, ⟨rfl, rfl⟩, h.h5, show k + 1 ≤ 3 from by have := h.hk; omega, hb, h.hf, hD⟩
theorem ringsN_sel {sc : Nat → ScA} {css : List (List Value)} {err t : VT} : ∀ (m j : Nat), (∀ u, j ≤ u → u < j + m → okBr (sc u, D) css) → (∀ u, j ≤ u → u < j + m → hasB (sc u) css = true → okTors (sc u, bAt (sc u) css D, bDp (sc u) css D) css) →
    (ringsN sc css D err t m j).sel = if hasE sc css m j = 0 then t.sel else err.sel
  | 0, _, _, _ => rfl
  | m + 1, j, h1, h2 => by
    unfold ringsN hasE
    rw [askB_sel (tru_iff.2 (h1 j (Nat.le_refl _) (by omega)))]
    cases hb : hasB (sc j) css with
    | false => rfl
    | true =>
      show (askB _ _).sel = _
      rw [askB_sel (tru_iff.2 (h2 j (Nat.le_refl _) (by omega) hb)), ringsN_sel m (j + 1) (fun u g1 g2 => h1 u (by omega) (by omega)) (fun u g1 g2 => h2 u (by omega) (by omega))]
      rfl
theorem errP_seven : (errP 7 7 7).sel = some (b_ true) := rfl
theorem okPa_zero {t : VT} : (okPa 0 0 t).sel = t.sel := rfl
theorem sameP_self (a b : Int) : sameP a b a b = true := by unfold sameP; simp
theorem cmpT_sel {S0 S1 tLo tHi uLo uHi mLo mHi nLo nHi : Int} {t : VT} (h0 : sameP S0 S1 mLo mHi = true) (h1 : mLo ≤ mHi) (h2 : mLo ≤ nLo) (h3 : nHi ≤ mHi) (h4 : tLo ≤ tHi) (h5 : wrapF .i64 (4 * tLo) ≤ uLo) (h6 : uHi ≤ wrapF .i64 (4 * tHi)) : (cmpT S0 S1 tLo tHi uLo uHi mLo mHi nLo nHi t).sel = t.sel := by
  unfold cmpT
  rw [h0]
  show (VT.br (ltF mHi mLo) _ _).sel = _
  rw [ltF_eq, brD, if_neg (by omega), ltF_eq, brD, if_neg (by omega), ltF_eq, brD, if_neg (by omega), ltF_eq, brD, if_neg (by omega), ltF_eq, brD, if_neg (by omega), ltF_eq, brD, if_neg (by omega)]
theorem othT_sel {t : VT} (n : Nat) : ∀ (m j : Nat), j + m = n → (∀ u, u < j → FactO ρ u) → ((∀ u, u < n → FactO ρ u) → t.sel = some (b_ true)) → (othT ρ t m j).sel = some (b_ true)
  | 0, j, hj, h1, h2 => h2 fun u hu => h1 u (by omega)
  | m + 1, j, hj, h1, h2 => by
    unfold othT
    rw [eqF_d, brN]
    by_cases c1 : (ρ (4 * j + 3)).tmod 2 = 0
    · rw [if_pos c1, ltF_eq, brD]
      by_cases c2 : 100 < wrapF .i64 (2 * ρ (4 * j + 1))
      · rw [if_pos c2]; rfl
      · rw [if_neg c2]
        refine othT_sel n m (j + 1) (by omega) (fun u hu => ?_) h2
        by_cases hu' : u = j
        · subst hu'; exact ⟨c1, by omega⟩
        · exact h1 u (by omega)
    · rw [if_neg c1]; rfl
theorem fin_sel (h : NI cs1 cs2 ρ n1 n2 k w s q D) (h0 : hasE (scA ρ w s q n1 n1 n2 n2) [cs1, cs2] (k + 1) 0 = 0) (hF : ∀ t, t < k + 1 → FactO ρ t) : (finN cs1 cs2 ρ n1 n2 k w s q D).sel = some (b_ true) := by
  have hE : hNE cs1 cs2 (ringC (othF ρ) (k + 1)) n1 n2 k w s q D = 0 := by
    show hasE (scA (rhoE (ringC (othF ρ) (k + 1))) w s q n1 n1 n2 n2) [cs1, cs2] (k + 1) 0 = 0
    rw [← h0]
    refine hasE_congr (k + 1) 0 fun t _ ht => ?_
    obtain ⟨s1, s2⟩ := sc_oth h (t := t) (by omega) (hF t (by omega))
    rw [s1, s2, oth_has]
  have hS : ∀ lo : ScA → Int, (∀ r c t p : Int, lo (AA n1 n2 r (2 * c) t p w s q) = lo (AA n1 n2 r c t (2 * p) w s q)) → sumF lo (scA (rhoE (ringC (othF ρ) (k + 1))) w s q n1 n1 n2 n2) (k + 1) 0 0 = sumF lo (scA ρ w s q n1 n1 n2 n2) (k + 1) 0 0 := by
    intro lo hlo
    refine sumF_congr (k + 1) 0 0 fun t _ ht => ?_
    obtain ⟨s1, s2⟩ := sc_oth h (t := t) (by omega) (hF t (by omega))
    rw [s1, s2, hlo]
  have v1 : tLoE cs1 cs2 (ringC (othF ρ) (k + 1)) n1 n2 k w s q D = tLoE cs1 cs2 (ringC ρ (k + 1)) n1 n2 k w s q D := by
    rw [h.tLo D h0]
    show okE (hNE cs1 cs2 (ringC (othF ρ) (k + 1)) n1 n2 k w s q D) (sumF (tL [cs1, cs2] D) (scA (rhoE (ringC (othF ρ) (k + 1))) w s q n1 n1 n2 n2) (k + 1) 0 0) = _
    rw [hE, ok0, hS _ fun _ _ _ _ => oth_tL]
  have v2 : tHiE cs1 cs2 (ringC (othF ρ) (k + 1)) n1 n2 k w s q D = tHiE cs1 cs2 (ringC ρ (k + 1)) n1 n2 k w s q D := by
    rw [h.tHi D h0]
    show okE (hNE cs1 cs2 (ringC (othF ρ) (k + 1)) n1 n2 k w s q D) (sumF (tH [cs1, cs2] D) (scA (rhoE (ringC (othF ρ) (k + 1))) w s q n1 n1 n2 n2) (k + 1) 0 0) = _
    rw [hE, ok0, hS _ fun _ _ _ _ => oth_tH]
  have v3 : mLoE cs1 cs2 (ringC (othF ρ) (k + 1)) n1 n2 k w s q D = mLoE cs1 cs2 (ringC ρ (k + 1)) n1 n2 k w s q D := by
    rw [h.mLo D h0]
    show okE (hNE cs1 cs2 (ringC (othF ρ) (k + 1)) n1 n2 k w s q D) (sumF (mL [cs1, cs2] D) (scA (rhoE (ringC (othF ρ) (k + 1))) w s q n1 n1 n2 n2) (k + 1) 0 0) = _
    rw [hE, ok0, hS _ fun _ _ _ _ => oth_mL]
  have v4 : mHiE cs1 cs2 (ringC (othF ρ) (k + 1)) n1 n2 k w s q D = mHiE cs1 cs2 (ringC ρ (k + 1)) n1 n2 k w s q D := by
    rw [h.mHi D h0]
    show okE (hNE cs1 cs2 (ringC (othF ρ) (k + 1)) n1 n2 k w s q D) (sumF (mH [cs1, cs2] D) (scA (rhoE (ringC (othF ρ) (k + 1))) w s q n1 n1 n2 n2) (k + 1) 0 0) = _
    rw [hE, ok0, hS _ fun _ _ _ _ => oth_mH]
  unfold finN finT
  rw [v1, v2, v3, v4, hE, sameP_self, sameP_self]
  rfl
theorem preT_sel {cs3 : List Value} {n : Nat} {t : VT} (hL : okLi ⟨argA n1 n2 n, w, s, q, 0, 0, 0⟩ [cs1, cs2, cs3])
    (ht : lightE ⟨argA n1 n2 n, w, s, q, 0, 0, 0⟩ [cs1, cs2, cs3] = true → errB (argA n1 n2 n) [cs1, cs2, cs3] = 0 → flowE w s q = 0 → 1 ≤ D → D ≤ 11 → t.sel = some (b_ true)) : (preT cs1 cs2 cs3 n1 n2 n w s q D t).sel = some (b_ true) := by
  unfold preT
  rw [askB_sel (tru_iff.2 hL), brB]
  cases hl : lightE ⟨argA n1 n2 n, w, s, q, 0, 0, 0⟩ [cs1, cs2, cs3] with
  | false => rfl
  | true =>
    have hs : shE n1 n2 n = true := by
      have h2 := hl
      unfold lightE at h2
      rw [Bool.and_eq_true] at h2
      exact h2.1
    rw [if_neg (by decide), askB_sel (tru_iff.2 (hL.2.2.2 hs)), brB, brB, brB, brB, eqF_d, eqF_d, ltF_eq, leF_eq]
    by_cases h1 : errB (argA n1 n2 n) [cs1, cs2, cs3] = 0
    · by_cases h2 : flowE w s q = 0
      · by_cases h3 : D < 1
        · rw [decide_eq_true h1, decide_eq_true h2, decide_eq_true h3]; rfl
        · by_cases h4 : 12 ≤ D
          · rw [decide_eq_true h1, decide_eq_true h2, decide_eq_false h3, decide_eq_true h4]; rfl
          · rw [decide_eq_true h1, decide_eq_true h2, decide_eq_false h3, decide_eq_false h4]
            exact ht hl h1 h2 (by omega) (by omega)
      · rw [decide_eq_true h1, decide_eq_false h2]; rfl
    · rw [decide_eq_false h1]; rfl
theorem nest_sel (h : NI cs1 cs2 ρ n1 n2 k w s q D) {fin : VT} (hL : okLi ⟨argA n1 n2 (k + 1), w, s, q, 0, 0, 0⟩ [cs1, cs2, ringC ρ (k + 1)])
    (hfin : hasE (scA ρ w s q n1 n1 n2 n2) [cs1, cs2] (k + 1) 0 = 0 → (∀ t, t < k + 1 → FactO ρ t) → fin.sel = some (b_ true)) : (nestT cs1 cs2 ρ n1 n2 k w s q D fin).sel = some (b_ true) := by
  unfold nestT
  have hbE : errB (argA n1 n2 (k + 1)) [cs1, cs2, ringC ρ (k + 1)] = 0 := by
    show bladeE cs1 n1 cs2 n2 (rhoE (ringC ρ (k + 1))) (k + 1) = 0
    rw [h.rho]; exact h.hb
  have hk2 := h.hk
  have hD := h.hD
  have hD2 : wrapF .i64 (D + 1) = D + 1 := wrapF_in (by omega) (by omega)
  obtain ⟨hp, _⟩ := blade_z h.hb
  obtain ⟨_, _, hnn, _⟩ := pol_z hp
  refine preT_sel hL fun _ _ _ _ _ => ?_
  rw [askB_sel (tru_iff.2 (okCp_of h ρ)), askB_sel (tru_iff.2 ⟨rfl, ⟨h.o1, h.o2⟩, h.five, rfl, ringC_self _ _⟩), askFst_sel (by simp)]
  have hz : firstL [errB (argA n1 n2 (k + 1)) [cs1, cs2, ringC ρ (k + 1)], flowE w s q, rangeE D 1 12] = 0 := by
    rw [hbE, h.hf, range0 hD.1 (by omega)]; rfl
  rw [hz, h.hN, h.hN]
  show (ringsN _ _ _ _ _ _ _).sel = _
  rw [ringsN_sel (sc := scA ρ w s q n1 n1 n2 n2) (css := [cs1, cs2]) (D := D) (k + 1) 0 (fun t _ ht => okBr_of (h.rv (t := t) (by omega)) h.o1 h.o2 (by omega)) (fun t _ ht hh => okTors_of (h.rv (t := t) (by omega)) h.o1 h.o2 h.h5 hnn hh (by omega))]
  rcases hasE_cases (scA ρ w s q n1 n1 n2 n2) [cs1, cs2] (k + 1) 0 with h7 | ⟨h0, hall⟩
  · rw [h7, if_neg (by decide)]
    exact errP_seven
  rw [if_pos h0, h0, okPa_zero, h.tLo _ h0, h.tHi _ h0, h.mLo _ h0, h.mHi _ h0, h.tLo _ h0, h.tHi _ h0, h.mLo _ h0, h.mHi _ h0, hD2]
  have hm : ∀ t, 0 ≤ t → t < 0 + (k + 1) → (-1100000000000000000 ≤ mL [cs1, cs2] D (scA ρ w s q n1 n1 n2 n2 t) ∧ mL [cs1, cs2] D (scA ρ w s q n1 n1 n2 n2 t) ≤ mH [cs1, cs2] D (scA ρ w s q n1 n1 n2 n2 t) ∧ mH [cs1, cs2] D (scA ρ w s q n1 n1 n2 n2 t) ≤ 1100000000000000000) := fun t g1 g2 => (lohi (h.rv (t := t) (by omega)) h.drag h.h5 (hall t g1 g2) (by omega)).1
  have hm' : ∀ t, 0 ≤ t → t < 0 + (k + 1) → (-1100000000000000000 ≤ mL [cs1, cs2] (D + 1) (scA ρ w s q n1 n1 n2 n2 t) ∧ mL [cs1, cs2] (D + 1) (scA ρ w s q n1 n1 n2 n2 t) ≤ mH [cs1, cs2] (D + 1) (scA ρ w s q n1 n1 n2 n2 t) ∧ mH [cs1, cs2] (D + 1) (scA ρ w s q n1 n1 n2 n2 t) ≤ 1100000000000000000) := fun t g1 g2 => (lohi (h.rv (t := t) (by omega)) h.drag h.h5 (hall t g1 g2) (by omega)).1
  have hu : ∀ t, 0 ≤ t → t < 0 + (k + 1) → mL [cs1, cs2] D (scA ρ w s q n1 n1 n2 n2 t) ≤ mL [cs1, cs2] (D + 1) (scA ρ w s q n1 n1 n2 n2 t) ∧ mH [cs1, cs2] (D + 1) (scA ρ w s q n1 n1 n2 n2 t) ≤ mH [cs1, cs2] D (scA ρ w s q n1 n1 n2 n2 t) := fun t g1 g2 => tor_up (h.rv (t := t) (by omega)) h.drag h.h5 (hall t g1 g2) hD
  have ht : ∀ t, 0 ≤ t → t < 0 + (k + 1) → (0 ≤ tL [cs1, cs2] D (scA ρ w s q n1 n1 n2 n2 t) ∧ tL [cs1, cs2] D (scA ρ w s q n1 n1 n2 n2 t) ≤ tH [cs1, cs2] D (scA ρ w s q n1 n1 n2 n2 t) ∧ tH [cs1, cs2] D (scA ρ w s q n1 n1 n2 n2 t) ≤ 3435973836800) ∧ (4 * tL [cs1, cs2] D (scA ρ w s q n1 n1 n2 n2 t) ≤ tL [cs1, cs2] (D + 1) (scA ρ w s q n1 n1 n2 n2 t) ∧ tL [cs1, cs2] (D + 1) (scA ρ w s q n1 n1 n2 n2 t) ≤ 3435973836800) ∧ tH [cs1, cs2] (D + 1) (scA ρ w s q n1 n1 n2 n2 t) ≤ 4 * tH [cs1, cs2] D (scA ρ w s q n1 n1 n2 n2 t) ∧ 0 ≤ tH [cs1, cs2] (D + 1) (scA ρ w s q n1 n1 n2 n2 t) := fun t g1 g2 => thr_ring (h.rv (t := t) (by omega)) (hall t g1 g2) hD
  have z0 : ∀ B : Int, -(((0 : Nat) : Int) * B) ≤ 0 ∧ (0 : Int) ≤ 0 ∧ (0 : Int) ≤ ((0 : Nat) : Int) * B := fun B => by simp
  have z1 : ∀ B : Int, -(((0 : Nat) : Int) * B) ≤ 0 ∧ (0 : Int) ≤ ((0 : Nat) : Int) * B := fun B => by simp
  have f1 := sumF_four (lo := tL [cs1, cs2] D) (sc := scA ρ w s q n1 n1 n2 n2) (B := 4000000000000) ⟨by decide, by decide⟩ (k + 1) 0 0 0 (by omega) (fun t g1 g2 => by have := ht t g1 g2; exact ⟨by have := this.1.1; exact Int.le_trans (by decide) this, Int.le_trans (Int.le_trans this.1.2.1 this.1.2.2) (by decide)⟩) (z1 _)
  have f2 := sumF_four (lo := tH [cs1, cs2] D) (sc := scA ρ w s q n1 n1 n2 n2) (B := 4000000000000) ⟨by decide, by decide⟩ (k + 1) 0 0 0 (by omega) (fun t g1 g2 => by have := ht t g1 g2; exact ⟨by have := Int.le_trans this.1.1 this.1.2.1; exact Int.le_trans (by decide) this, Int.le_trans this.1.2.2 (by decide)⟩) (z1 _)
  rw [Int.mul_zero] at f1 f2
  have b1 := sumF_bd (lo := tL [cs1, cs2] D) (sc := scA ρ w s q n1 n1 n2 n2) (B := 4000000000000) ⟨by decide, by decide⟩ (k + 1) 0 0 0 (by omega) (fun t g1 g2 => by have := ht t g1 g2; exact ⟨by have := this.1.1; exact Int.le_trans (by decide) this, Int.le_trans (Int.le_trans this.1.2.1 this.1.2.2) (by decide)⟩) (z1 _)
  have b2 := sumF_bd (lo := tH [cs1, cs2] D) (sc := scA ρ w s q n1 n1 n2 n2) (B := 4000000000000) ⟨by decide, by decide⟩ (k + 1) 0 0 0 (by omega) (fun t g1 g2 => by have := ht t g1 g2; exact ⟨by have := Int.le_trans this.1.1 this.1.2.1; exact Int.le_trans (by decide) this, Int.le_trans this.1.2.2 (by decide)⟩) (z1 _)
  have hkk : ((k + 1 + 0 : Nat) : Int) * 4000000000000 ≤ 12000000000000 := by omega
  rw [cmpT_sel (sameP_self _ _) (sumF_le (B := 1100000000000000000) ⟨by decide, by decide⟩ (k + 1) 0 0 0 0 (by omega) hm (z0 _))
    (sumF_le (B := 1100000000000000000) ⟨by decide, by decide⟩ (k + 1) 0 0 0 0 (by omega) (fun t g1 g2 => ⟨(hm t g1 g2).1, (hu t g1 g2).1, Int.le_trans (hm' t g1 g2).2.1 (hm' t g1 g2).2.2⟩) (z0 _))
    (sumF_le (B := 1100000000000000000) ⟨by decide, by decide⟩ (k + 1) 0 0 0 0 (by omega) (fun t g1 g2 => ⟨Int.le_trans (hm' t g1 g2).1 (hm' t g1 g2).2.1, (hu t g1 g2).2, (hm t g1 g2).2.2⟩) (z0 _))
    (sumF_le (B := 4000000000000) ⟨by decide, by decide⟩ (k + 1) 0 0 0 0 (by omega) (fun t g1 g2 => ⟨Int.le_trans (by decide) (ht t g1 g2).1.1, (ht t g1 g2).1.2.1, Int.le_trans (ht t g1 g2).1.2.2 (by decide)⟩) (z0 _))
    (by
      rw [wrapF_in (by omega) (by omega), ← f1]
      exact sumF_le (B := 400000000000000) ⟨by decide, by decide⟩ (k + 1) 0 0 0 0 (by omega) (fun t g1 g2 => by
        obtain ⟨⟨a1, a2, a3⟩, ⟨a4, a5⟩, a6, a7⟩ := ht t g1 g2
        refine ⟨?_, a4, Int.le_trans a5 (by decide)⟩
        show _ ≤ 4 * tL [cs1, cs2] D _
        exact Int.le_trans (show (-400000000000000 : Int) ≤ 0 by decide) (Int.mul_nonneg (by decide) a1)) (z0 _))
    (by
      rw [wrapF_in (by omega) (by omega), ← f2]
      exact sumF_le (B := 400000000000000) ⟨by decide, by decide⟩ (k + 1) 0 0 0 0 (by omega) (fun t g1 g2 => by
        obtain ⟨⟨a1, a2, a3⟩, ⟨a4, a5⟩, a6, a7⟩ := ht t g1 g2
        refine ⟨Int.le_trans (by decide) a7, a6, ?_⟩
        show 4 * tH [cs1, cs2] D _ ≤ _
        exact Int.le_trans (Int.mul_le_mul_of_nonneg_left a3 (by decide)) (by decide)) (z0 _))]
  rw [askB_sel (tru_iff.2 (okCp_of h ρ))]
  exact othT_sel (k + 1) (k + 1) 0 (by omega) (fun u hu => by omega) fun hF => hfin h0 hF
end
end Go.Proofs.YtbocpikgochioaaDoor.Ways
namespace Go.Proofs.YtbocpikgochioaaDoor.Ways
open Go Go.Ex
section
variable {cs1 cs2 cs3 : List Value} {t1 s1 t2 s2 t3 s3 n1 n2 n : Nat} {w s q D : Int}
theorem ni_of {k : Nat} (hI : LawIn cs1 cs2 cs3 n1 n2 (k + 1)) (hk : k ≤ 2) (hs : shE n1 n2 (k + 1) = true) (hb : errB (argA n1 n2 (k + 1)) [cs1, cs2, cs3] = 0) (hf : flowE w s q = 0) (hD : 1 ≤ D ∧ D ≤ 11) : NI cs1 cs2 (rhoE cs3) n1 n2 k w s q D := by
  have hb' : bladeE cs1 n1 cs2 n2 (rhoE cs3) (k + 1) = 0 := hb
  obtain ⟨hp, _⟩ := blade_z hb'
  obtain ⟨_, p2, _⟩ := pol_z hp
  unfold shE at hs
  rw [decide_eq_true_eq] at hs
  exact ⟨hI.o1, hI.l1, hI.o2, hI.l2, hk, by rw [← hI.r3], by omega, hb', hf, hD⟩
theorem nest_n1 (hI : LawIn cs1 cs2 cs3 n1 n2 1) (h : NI cs1 cs2 (rhoE cs3) n1 n2 0 w s q D) (hL : okLi ⟨argA n1 n2 1, w, s, q, 0, 0, 0⟩ [cs1, cs2, cs3]) :
    ∃ H', Sound Tryd.prog 7 (.call Fn.law03_RotorNested ⟨[blV n1 n1 n2 n2 (sl 6 0 1 1), flV w s q, i D]⟩ (heapL (hpN cs1 t1 s1 cs2 t2 s2 cs3 t3 s3))) (.val (b_ true) H') := by
  have hr : cs3 = ringC (rhoE cs3) 1 := hI.r3
  have hL' : okLi ⟨argA n1 n2 (0 + 1), w, s, q, 0, 0, 0⟩ [cs1, cs2, ringC (rhoE cs3) (0 + 1)] := by
    show okLi ⟨argA n1 n2 1, w, s, q, 0, 0, 0⟩ [cs1, cs2, ringC (rhoE cs3) 1]
    rw [← hr]; exact hL
  have hD := h.hD
  have hD2 : wrapF .i64 (D + 1) = D + 1 := wrapF_in (by omega) (by omega)
  have hb : bladeE cs1 n1 cs2 n2 (rhoE (ringC (rhoE cs3) (0 + 1))) (0 + 1) = 0 := by rw [h.rho]; exact h.hb
  have hT : ∀ G, TSound Tryd.prog G (orT TG2 zT2) := fun G => orT_ok tsG2 zT2_ok
  have hFc := okFc_of h (rhoE cs3) hb (D' := D) (by omega)
  have hFc2 := okFc_of h (rhoE cs3) hb (D' := wrapF .i64 (D + 1)) (by omega)
  by_cases hF : ∀ t, t < 0 + 1 → FactO (rhoE cs3) t
  · have hl := lsK1 (t1 := t1) (s1 := s1) (t2 := t2) (s2 := s2) (t3 := t3) (s3 := s3) h.o1.1 h.o2.1 (okCp_of h (rhoE cs3)) hFc hFc2 (okCp_of h (othF (rhoE cs3))) (okFc_of h (othF (rhoE cs3)) (oth_blade h hF) (by omega))
    have := one_tree (C := CNn1 cs1 cs2 (rhoE cs3) t1 s1 t2 s2 t3 s3 n1 n2 w s q D) (n := 80) _ (hT 7) hl (nfix1 ..) (nrun1 ..) (nest_sel h hL' fun h0 _ => fin_sel h h0 hF)
    rw [← hr] at this
    exact this
  · have hl := lsN6 (t1 := t1) (s1 := s1) (t2 := t2) (s2 := s2) (t3 := t3) (s3 := s3) (k := 0) h.o1.1 h.o2.1 (ringC_flat (rhoE cs3) 1) (okCp_of h (rhoE cs3)) hFc hFc2
    have := one_tree (C := CNb1 cs1 cs2 (rhoE cs3) t1 s1 t2 s2 t3 s3 n1 n2 w s q D) (n := 80) _ (hT 7) hl (nfixb1 ..) (nrunb1 ..) (nest_sel h hL' fun _ hF' => absurd hF' hF)
    rw [← hr] at this
    exact this
theorem nest_n2 (hI : LawIn cs1 cs2 cs3 n1 n2 2) (h : NI cs1 cs2 (rhoE cs3) n1 n2 1 w s q D) (hL : okLi ⟨argA n1 n2 2, w, s, q, 0, 0, 0⟩ [cs1, cs2, cs3]) :
    ∃ H', Sound Tryd.prog 7 (.call Fn.law03_RotorNested ⟨[blV n1 n1 n2 n2 (sl 6 0 2 2), flV w s q, i D]⟩ (heapL (hpN cs1 t1 s1 cs2 t2 s2 cs3 t3 s3))) (.val (b_ true) H') := by
  have hr : cs3 = ringC (rhoE cs3) 2 := hI.r3
  have hL' : okLi ⟨argA n1 n2 (1 + 1), w, s, q, 0, 0, 0⟩ [cs1, cs2, ringC (rhoE cs3) (1 + 1)] := by
    show okLi ⟨argA n1 n2 2, w, s, q, 0, 0, 0⟩ [cs1, cs2, ringC (rhoE cs3) 2]
    rw [← hr]; exact hL
  have hD := h.hD
  have hD2 : wrapF .i64 (D + 1) = D + 1 := wrapF_in (by omega) (by omega)
  have hb : bladeE cs1 n1 cs2 n2 (rhoE (ringC (rhoE cs3) (1 + 1))) (1 + 1) = 0 := by rw [h.rho]; exact h.hb
  have hT : ∀ G, TSound Tryd.prog G (orT TG2 zT2) := fun G => orT_ok tsG2 zT2_ok
  have hFc := okFc_of h (rhoE cs3) hb (D' := D) (by omega)
  have hFc2 := okFc_of h (rhoE cs3) hb (D' := wrapF .i64 (D + 1)) (by omega)
  by_cases hF : ∀ t, t < 1 + 1 → FactO (rhoE cs3) t
  · have hl := lsK2 (t1 := t1) (s1 := s1) (t2 := t2) (s2 := s2) (t3 := t3) (s3 := s3) h.o1.1 h.o2.1 (okCp_of h (rhoE cs3)) hFc hFc2 (okCp_of h (othF (rhoE cs3))) (okFc_of h (othF (rhoE cs3)) (oth_blade h hF) (by omega))
    have := one_tree (C := CNn2 cs1 cs2 (rhoE cs3) t1 s1 t2 s2 t3 s3 n1 n2 w s q D) (n := 80) _ (hT 7) hl (nfix2 ..) (nrun2 ..) (nest_sel h hL' fun h0 _ => fin_sel h h0 hF)
    rw [← hr] at this
    exact this
  · have hl := lsN6 (t1 := t1) (s1 := s1) (t2 := t2) (s2 := s2) (t3 := t3) (s3 := s3) (k := 1) h.o1.1 h.o2.1 (ringC_flat (rhoE cs3) 2) (okCp_of h (rhoE cs3)) hFc hFc2
    have := one_tree (C := CNb2 cs1 cs2 (rhoE cs3) t1 s1 t2 s2 t3 s3 n1 n2 w s q D) (n := 80) _ (hT 7) hl (nfixb2 ..) (nrunb2 ..) (nest_sel h hL' fun _ hF' => absurd hF' hF)
    rw [← hr] at this
    exact this
theorem nest_n3 (hI : LawIn cs1 cs2 cs3 n1 n2 3) (h : NI cs1 cs2 (rhoE cs3) n1 n2 2 w s q D) (hL : okLi ⟨argA n1 n2 3, w, s, q, 0, 0, 0⟩ [cs1, cs2, cs3]) :
    ∃ H', Sound Tryd.prog 7 (.call Fn.law03_RotorNested ⟨[blV n1 n1 n2 n2 (sl 6 0 3 3), flV w s q, i D]⟩ (heapL (hpN cs1 t1 s1 cs2 t2 s2 cs3 t3 s3))) (.val (b_ true) H') := by
  have hr : cs3 = ringC (rhoE cs3) 3 := hI.r3
  have hL' : okLi ⟨argA n1 n2 (2 + 1), w, s, q, 0, 0, 0⟩ [cs1, cs2, ringC (rhoE cs3) (2 + 1)] := by
    show okLi ⟨argA n1 n2 3, w, s, q, 0, 0, 0⟩ [cs1, cs2, ringC (rhoE cs3) 3]
    rw [← hr]; exact hL
  have hD := h.hD
  have hD2 : wrapF .i64 (D + 1) = D + 1 := wrapF_in (by omega) (by omega)
  have hb : bladeE cs1 n1 cs2 n2 (rhoE (ringC (rhoE cs3) (2 + 1))) (2 + 1) = 0 := by rw [h.rho]; exact h.hb
  have hT : ∀ G, TSound Tryd.prog G (orT TG2 zT2) := fun G => orT_ok tsG2 zT2_ok
  have hFc := okFc_of h (rhoE cs3) hb (D' := D) (by omega)
  have hFc2 := okFc_of h (rhoE cs3) hb (D' := wrapF .i64 (D + 1)) (by omega)
  by_cases hF : ∀ t, t < 2 + 1 → FactO (rhoE cs3) t
  · have hl := lsK3 (t1 := t1) (s1 := s1) (t2 := t2) (s2 := s2) (t3 := t3) (s3 := s3) h.o1.1 h.o2.1 (okCp_of h (rhoE cs3)) hFc hFc2 (okCp_of h (othF (rhoE cs3))) (okFc_of h (othF (rhoE cs3)) (oth_blade h hF) (by omega))
    have := one_tree (C := CNn3 cs1 cs2 (rhoE cs3) t1 s1 t2 s2 t3 s3 n1 n2 w s q D) (n := 80) _ (hT 7) hl (nfix3 ..) (nrun3 ..) (nest_sel h hL' fun h0 _ => fin_sel h h0 hF)
    rw [← hr] at this
    exact this
  · have hl := lsN6 (t1 := t1) (s1 := s1) (t2 := t2) (s2 := s2) (t3 := t3) (s3 := s3) (k := 2) h.o1.1 h.o2.1 (ringC_flat (rhoE cs3) 3) (okCp_of h (rhoE cs3)) hFc hFc2
    have := one_tree (C := CNb3 cs1 cs2 (rhoE cs3) t1 s1 t2 s2 t3 s3 n1 n2 w s q D) (n := 80) _ (hT 7) hl (nfixb3 ..) (nrunb3 ..) (nest_sel h hL' fun _ hF' => absurd hF' hF)
    rw [← hr] at this
    exact this
theorem nested_true (f1 : cs1.all Ex.flat = true) (f2 : cs2.all Ex.flat = true) (f3 : cs3.all Ex.flat = true) (hin : five n → n1 ≤ 1000000 → n2 ≤ 1000000 → LawIn cs1 cs2 cs3 n1 n2 n) :
    ∃ H', Sound Tryd.prog 7 (.call Fn.law03_RotorNested ⟨[blV n1 n1 n2 n2 (sl 6 0 n n), flV w s q, i D]⟩ (heapL (hpN cs1 t1 s1 cs2 t2 s2 cs3 t3 s3))) (.val (b_ true) H') := by
  have hI : shE n1 n2 n = true → LawIn cs1 cs2 cs3 n1 n2 n := fun hs => by
    unfold shE at hs
    rw [decide_eq_true_eq] at hs
    have hn : n = 0 ∨ n = 1 ∨ n = 2 ∨ n = 3 ∨ n = 17 := by omega
    exact hin hn (by omega) (by omega)
  have hL : okLi ⟨argA n1 n2 n, w, s, q, 0, 0, 0⟩ [cs1, cs2, cs3] := ⟨rfl, ⟨rfl, rfl, rfl⟩, ⟨f1, f2, f3⟩, fun hs => okB3_in (hI hs)⟩
  have hT : ∀ G, TSound Tryd.prog G (orT TG2 zT2) := fun G => orT_ok tsG2 zT2_ok
  by_cases hall : shE n1 n2 n = true ∧ errB (argA n1 n2 n) [cs1, cs2, cs3] = 0 ∧ flowE w s q = 0 ∧ 1 ≤ D ∧ D ≤ 11
  · obtain ⟨hs, hb, hf, hD⟩ := hall
    have hI := hI hs
    obtain ⟨_, b1, b2, _⟩ := blade_z (show bladeE cs1 n1 cs2 n2 (rhoE cs3) n = 0 from hb)
    have hn : n = 1 ∨ n = 2 ∨ n = 3 := by
      have h5 : n = 0 ∨ n = 1 ∨ n = 2 ∨ n = 3 ∨ n = 17 := hI.f
      omega
    rcases hn with rfl | rfl | rfl
    · exact nest_n1 hI (ni_of (k := 0) hI (by decide) hs hb hf hD) hL
    · exact nest_n2 hI (ni_of (k := 1) hI (by decide) hs hb hf hD) hL
    · exact nest_n3 hI (ni_of (k := 2) hI (by decide) hs hb hf hD) hL
  · exact one_tree (C := CN0_) (n := 80) _ (hT 7) .none (nfixg ..) (nrung ..) (preT_sel hL fun g1 g2 g3 g4 g5 => absurd ⟨by
      unfold lightE at g1
      rw [Bool.and_eq_true] at g1
      exact g1.1, g2, g3, g4, g5⟩ hall)
end
end Go.Proofs.YtbocpikgochioaaDoor.Ways
