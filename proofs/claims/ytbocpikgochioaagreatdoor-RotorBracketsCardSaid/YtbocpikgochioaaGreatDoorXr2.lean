import Derived.Test.YtbocpikgochioaaGreatDoorXr1
import Derived.Test.YtbocpikgochioaaGreatDoorEngOrd2
namespace Go.Proofs.YtbocpikgochioaaGreatDoor.Ways
open Go Go.Ex
/-! ### the table of the law -/
def rdRD : List Value → Option (List Nat × RbA)
  | [.agg ⟨[.slice (some ⟨b1, 0, none⟩) n1 c1, .slice (some ⟨b2, 0, none⟩) n2 c2]⟩, .agg ⟨[.int .i64 r, .int .i64 c, .int .i64 t, .int .i64 p]⟩, .agg ⟨[.int .i64 w, .int .i64 s, .int .i64 q]⟩, .int .i64 d] => some ([b1, b2], ⟨n1, c1, n2, c2, r, c, t, p, w, s, q, 0, d⟩)
  | _ => none
theorem rdRD_ok : ∀ args bs a, rdRD args = some (bs, a) → a.valsF.all (renOk (List.range gl ++ bs) 8) = true ∧ args = a.valsF.map (ren (List.range gl ++ bs) 8) := by
  intro args bs a h
  unfold rdRD at h
  split at h
  · cases h; exact ⟨rfl, rfl⟩
  · cases h
def valF2 (a : RbA) : List (List Value) → Value
  | [cs1, cs2] => rfV a cs1 cs2
  | _ => i 0
theorem f27_all : ∀ a css os, okRB a css → Blks css os → ∃ H', Sound Tryz.prog (gl + css.length) (.call Fn.ref03_Find ⟨a.valsF⟩ (heapL (deads ++ os))) (.val (valF2 a css) H') := by
  intro a css os h hb
  obtain ⟨cs1, t1, s1, e1, cs2, t2, s2, e2, rfl, rfl⟩ := fl2_blks (okRB_fl h) hb
  exact f27_small h
noncomputable def TX : Tb := ext TXg Fn.ref03_Find (rdE rdRD okRB valF2 [] (heapL deads))
theorem tsX {G : Nat} : TSound Tryz.prog G TX :=
  tsXg.ext (rd_ok (fun a => a.valsF) deads_len deads_flat deads_mem rdRD_ok (fun _ _ h => fl2_flat (okRB_fl h)) (fun a css h => by
    unfold okRB at h
    split at h
    · rfl
    · cases h) f27_all)
noncomputable def CX0 : Cfg := ⟨TX, no_, off_, noL⟩
/-! ### the law's regions in which a struct is made beside calls -/
noncomputable def O4a : Array Oper := regOps Tryz.f4 3
noncomputable def O4b : Array Oper := regOps Tryz.f4 5
/-- what comes in -/
structure LA where
  n1 : Nat
  n2 : Nat
  n : Nat
  w : Int
  s : Int
  q : Int
  ring : Int
  a : Int
  d : Int
  x : Int
  D : Int
def LA.F (g : LA) : ArA := ⟨cpA_ g.n1 g.n2 g.n, g.w, g.s, g.q, g.ring, g.D, 0⟩
def LA.R (g : LA) : ArA := ⟨cpA_ g.n1 g.n2 g.n, g.w, g.s, g.q, g.ring, g.a, g.d⟩
def fX (a : ArA) (css : List (List Value)) : Int := okE (fErr (firstE (sE_ a css) (rangeE a.x 1 12)) (hasB (scB a css) (cs12 css))) (brA (scB a css) (cs12 css) (a.x - 1).toNat)
def fY (a : ArA) (css : List (List Value)) : Int := okE (fErr (firstE (sE_ a css) (rangeE a.x 1 12)) (hasB (scB a css) (cs12 css))) a.x
def fZ (a : ArA) (css : List (List Value)) : Int := fErr (firstE (sE_ a css) (rangeE a.x 1 12)) (hasB (scB a css) (cs12 css))
def gX (a : ArA) (css : List (List Value)) : Int := pick3 (checkR a css) a.d 0 (okE (ffE (upA a) css (upA a).x) (brA (scB (upA a) css) (cs12 css) ((upA a).x - 1).toNat)) 0
def gY (a : ArA) (css : List (List Value)) : Int := pick3 (checkR a css) a.d 0 (okE (ffE (upA a) css (upA a).x) (upA a).x) 0
def gZ (a : ArA) (css : List (List Value)) : Int := pick3 (checkR a css) a.d 23 (ffE (upA a) css (upA a).x) (checkR a css)
def cutV (z : Bool) (L n1 n2 n : Nat) : Value := ag [sl L 0 n1 n1, sl (L + 1) 0 n2 n2, cond z nilV (sl (L + 2) 0 n n)]
/-- the blocks that are there -/
noncomputable def base4 (g : LA) (cs1 : List Value) (t1 s1 : Nat) (cs2 : List Value) (t2 s2 : Nat) (cs3 : List Value) (t3 s3 : Nat) : List (CO × Bool) :=
  [(.cells powers 180 1 true, true), (.cells pow10 201 1 true, true), (.cells tab32 208 1 true, true), (.cells tab64 209 1 true, true), (.cells cs1 t1 s1 false, true), (.cells cs2 t2 s2 false, true), (.cells cs3 t3 s3 false, true),
    (.cells [sl 4 0 g.n1 g.n1, sl 5 0 g.n2 g.n2, sl 6 0 g.n g.n] 27 1 true, false), (.cells [i g.w, i g.s, i g.q] 29 1 true, false), (.cells [i g.ring, i g.a, i g.d, i g.x, i g.D] 33 1 true, false)]
def cps (z : Bool) (m j : Nat) (cs1 cs2 cs3 : List Value) : List (CO × Bool) := bitC m j (.cells cs1 3 1 false, true) :: bitC m j (.cells cs2 3 1 false, true) :: cond z [] [bitC m j (.cells cs3 123 4 false, true)]
def gone (z : Bool) : List (CO × Bool) := (.dead, false) :: (.dead, false) :: cond z [] [(.dead, false)]
end Go.Proofs.YtbocpikgochioaaGreatDoor.Ways
namespace Go.Proofs.YtbocpikgochioaaGreatDoor.Ways
open Go Go.Ex
def states4 : List Nat := [0, 1, 3, 4, 5, 7, 8, 9, 11, 12, 13, 15, 24, 25, 27, 28, 29, 31, 32, 33, 35, 36, 37, 39, 40, 41, 43, 44, 45, 47, 56, 57, 59, 60, 61, 63, 96, 97, 99, 100, 101, 103, 104, 105, 107, 108, 109, 111, 120, 121, 123, 124, 125, 127, 255, 511, 1023, 1535, 2047, 2048, 2049, 2051, 2052, 2053, 2055, 2056, 2057, 2059, 2060, 2061, 2063, 2072, 2073, 2075, 2076, 2077, 2079, 2080, 2081, 2083, 2084, 2085, 2087, 2088, 2089, 2091, 2092, 2093, 2095, 2104, 2105, 2107, 2108, 2109, 2111, 2144, 2145, 2147, 2148, 2149, 2151, 2152, 2153, 2155, 2156, 2157, 2159, 2168, 2169, 2171, 2172, 2173, 2175, 2303, 2559, 3071, 3583, 4095, 7167, 8191, 16383]
def ans4 (j : Nat) : List Bool :=
  match j with
  | 1 => [true]
  | 7 => [true]
  | _ => []
def liveAz (cs1 cs2 cs3 : List Value) (t1 s1 t2 s2 t3 s3 n1 n2 : Nat) (w s q ring a d x D : Int) (m : Nat) : List (Nat × Value) := [(3, pt 7 0), (4, pt 8 0), (5, pt 9 0)] ++ bitV m 0 (28, blV n1 n1 n2 n2 (sl 6 0 0 0)) ++ bitV m 1 (29, cutV true 10 n1 n2 0) ++ bitV m 2 (30, flV w s q) ++ bitV m 3 (31, pt 9 0) ++ bitV m 4 (32, i ring) ++ bitV m 5 (33, pt 9 4) ++ bitV m 6 (34, i D) ++ bitV m 7 (35, (tp [ag [i (fX (LA.mk n1 n2 0 w s q ring a d x D).F (cpS cs1 cs2 cs3 0)), i (fY (LA.mk n1 n2 0 w s q ring a d x D).F (cpS cs1 cs2 cs3 0))], i (fZ (LA.mk n1 n2 0 w s q ring a d x D).F (cpS cs1 cs2 cs3 0))])) ++ bitV m 8 (27, (tp [ag [i (fX (LA.mk n1 n2 0 w s q ring a d x D).F (cpS cs1 cs2 cs3 0)), i (fY (LA.mk n1 n2 0 w s q ring a d x D).F (cpS cs1 cs2 cs3 0))], i (fZ (LA.mk n1 n2 0 w s q ring a d x D).F (cpS cs1 cs2 cs3 0))])) ++ bitV m 9 (36, ag [i (fX (LA.mk n1 n2 0 w s q ring a d x D).F (cpS cs1 cs2 cs3 0)), i (fY (LA.mk n1 n2 0 w s q ring a d x D).F (cpS cs1 cs2 cs3 0))]) ++ bitV m 10 (37, i (fZ (LA.mk n1 n2 0 w s q ring a d x D).F (cpS cs1 cs2 cs3 0))) ++ bitV m 11 (7, pt 12 0) ++ bitV m 13 (8, i (fZ (LA.mk n1 n2 0 w s q ring a d x D).F (cpS cs1 cs2 cs3 0)))
noncomputable def hpAz (cs1 cs2 cs3 : List Value) (t1 s1 t2 s2 t3 s3 n1 n2 : Nat) (w s q ring a d x D : Int) (m : Nat) : List (CO × Bool) := base4 (LA.mk n1 n2 0 w s q ring a d x D) cs1 t1 s1 cs2 t2 s2 cs3 t3 s3 ++ cps true m 1 cs1 cs2 cs3 ++ [bitC m 11 (.cells (cond (Nat.testBit m 12) [i (fX (LA.mk n1 n2 0 w s q ring a d x D).F (cpS cs1 cs2 cs3 0)), i (fY (LA.mk n1 n2 0 w s q ring a d x D).F (cpS cs1 cs2 cs3 0))] [i 0, i 0]) 45 1 true, false)]
def rhoAz (j : Nat) : List Nat :=
  match j with
  | 1 => [0, 1, 2, 3, 4, 5, 6, 7, 8, 9, 13, 14, 12]
  | 11 => [0, 1, 2, 3, 4, 5, 6, 7, 8, 9, 10, 11, 13]
  | _ => List.range 13
def lenAz (j : Nat) : Nat :=
  match j with
  | 1 => 15
  | 11 => 14
  | _ => 13
noncomputable def cndAz (cs1 cs2 cs3 : List Value) (t1 s1 t2 s2 t3 s3 n1 n2 : Nat) (w s q ring a d x D : Int) (j : Nat) : List Bool :=
  match j with
  | 1 => [tru (okCp (argA n1 n2 0) cs1 cs2 cs3)]
  | 7 => [tru (okP (LA.mk n1 n2 0 w s q ring a d x D).F (cpS cs1 cs2 cs3 0))]
  | _ => []
theorem fixAz (cs1 cs2 cs3 : List Value) (t1 s1 t2 s2 t3 s3 n1 n2 : Nat) (w s q ring a d x D : Int) : (trsN O4a states4).map (outW (tabW CX0) Tryz.prog 7 CX0 Fn.law03_RotorBrackets O4a 161 (liveAz cs1 cs2 cs3 t1 s1 t2 s2 t3 s3 n1 n2 w s q ring a d x D) (hpAz cs1 cs2 cs3 t1 s1 t2 s2 t3 s3 n1 n2 w s q ring a d x D)) = (trsN O4a states4).map fun t => (outW (tabW CX0) Tryz.prog 7 CX0 Fn.law03_RotorBrackets O4a 161 (liveAz cs1 cs2 cs3 t1 s1 t2 s2 t3 s3 n1 n2 w s q ring a d x D) (hpAz cs1 cs2 cs3 t1 s1 t2 s2 t3 s3 n1 n2 w s q ring a d x D) t).fix := by kernel_rfl
theorem obsAz (cs1 cs2 cs3 : List Value) (t1 s1 t2 s2 t3 s3 n1 n2 : Nat) (w s q ring a d x D : Int) : (trsN O4a states4).map (obsW (tabW CX0) Tryz.prog 7 CX0 Fn.law03_RotorBrackets O4a 161 (liveAz cs1 cs2 cs3 t1 s1 t2 s2 t3 s3 n1 n2 w s q ring a d x D) (hpAz cs1 cs2 cs3 t1 s1 t2 s2 t3 s3 n1 n2 w s q ring a d x D) rhoAz ans4) = (trsN O4a states4).map (expN 161 (liveAz cs1 cs2 cs3 t1 s1 t2 s2 t3 s3 n1 n2 w s q ring a d x D) (hpAz cs1 cs2 cs3 t1 s1 t2 s2 t3 s3 n1 n2 w s q ring a d x D) rhoAz (cndAz cs1 cs2 cs3 t1 s1 t2 s2 t3 s3 n1 n2 w s q ring a d x D) lenAz) := by kernel_rfl
theorem goodAz (cs1 cs2 cs3 : List Value) (t1 s1 t2 s2 t3 s3 n1 n2 : Nat) (w s q ring a d x D : Int) : ((trsN O4a states4).all fun t => goodR 10 (lenAz t.2) (liveAz cs1 cs2 cs3 t1 s1 t2 s2 t3 s3 n1 n2 w s q ring a d x D (t.1 ||| 2 ^ t.2)) (hpAz cs1 cs2 cs3 t1 s1 t2 s2 t3 s3 n1 n2 w s q ring a d x D (t.1 ||| 2 ^ t.2)) (rhoAz t.2)) = true := by kernel_rfl
def liveAs (cs1 cs2 cs3 : List Value) (t1 s1 t2 s2 t3 s3 n1 n2 k : Nat) (w s q ring a d x D : Int) (m : Nat) : List (Nat × Value) := [(3, pt 7 0), (4, pt 8 0), (5, pt 9 0)] ++ bitV m 0 (28, blV n1 n1 n2 n2 (sl 6 0 (k + 1) (k + 1))) ++ bitV m 1 (29, cutV false 10 n1 n2 (k + 1)) ++ bitV m 2 (30, flV w s q) ++ bitV m 3 (31, pt 9 0) ++ bitV m 4 (32, i ring) ++ bitV m 5 (33, pt 9 4) ++ bitV m 6 (34, i D) ++ bitV m 7 (35, (tp [ag [i (fX (LA.mk n1 n2 (k + 1) w s q ring a d x D).F (cpS cs1 cs2 cs3 (k + 1))), i (fY (LA.mk n1 n2 (k + 1) w s q ring a d x D).F (cpS cs1 cs2 cs3 (k + 1)))], i (fZ (LA.mk n1 n2 (k + 1) w s q ring a d x D).F (cpS cs1 cs2 cs3 (k + 1)))])) ++ bitV m 8 (27, (tp [ag [i (fX (LA.mk n1 n2 (k + 1) w s q ring a d x D).F (cpS cs1 cs2 cs3 (k + 1))), i (fY (LA.mk n1 n2 (k + 1) w s q ring a d x D).F (cpS cs1 cs2 cs3 (k + 1)))], i (fZ (LA.mk n1 n2 (k + 1) w s q ring a d x D).F (cpS cs1 cs2 cs3 (k + 1)))])) ++ bitV m 9 (36, ag [i (fX (LA.mk n1 n2 (k + 1) w s q ring a d x D).F (cpS cs1 cs2 cs3 (k + 1))), i (fY (LA.mk n1 n2 (k + 1) w s q ring a d x D).F (cpS cs1 cs2 cs3 (k + 1)))]) ++ bitV m 10 (37, i (fZ (LA.mk n1 n2 (k + 1) w s q ring a d x D).F (cpS cs1 cs2 cs3 (k + 1)))) ++ bitV m 11 (7, pt 13 0) ++ bitV m 13 (8, i (fZ (LA.mk n1 n2 (k + 1) w s q ring a d x D).F (cpS cs1 cs2 cs3 (k + 1))))
noncomputable def hpAs (cs1 cs2 cs3 : List Value) (t1 s1 t2 s2 t3 s3 n1 n2 k : Nat) (w s q ring a d x D : Int) (m : Nat) : List (CO × Bool) := base4 (LA.mk n1 n2 (k + 1) w s q ring a d x D) cs1 t1 s1 cs2 t2 s2 cs3 t3 s3 ++ cps false m 1 cs1 cs2 cs3 ++ [bitC m 11 (.cells (cond (Nat.testBit m 12) [i (fX (LA.mk n1 n2 (k + 1) w s q ring a d x D).F (cpS cs1 cs2 cs3 (k + 1))), i (fY (LA.mk n1 n2 (k + 1) w s q ring a d x D).F (cpS cs1 cs2 cs3 (k + 1)))] [i 0, i 0]) 45 1 true, false)]
def rhoAs (j : Nat) : List Nat :=
  match j with
  | 1 => [0, 1, 2, 3, 4, 5, 6, 7, 8, 9, 14, 15, 16, 13]
  | 11 => [0, 1, 2, 3, 4, 5, 6, 7, 8, 9, 10, 11, 12, 14]
  | _ => List.range 14
def lenAs (j : Nat) : Nat :=
  match j with
  | 1 => 17
  | 11 => 15
  | _ => 14
noncomputable def cndAs (cs1 cs2 cs3 : List Value) (t1 s1 t2 s2 t3 s3 n1 n2 k : Nat) (w s q ring a d x D : Int) (j : Nat) : List Bool :=
  match j with
  | 1 => [tru (okCp (argA n1 n2 (k + 1)) cs1 cs2 cs3)]
  | 7 => [tru (okP (LA.mk n1 n2 (k + 1) w s q ring a d x D).F (cpS cs1 cs2 cs3 (k + 1)))]
  | _ => []
theorem fixAs (cs1 cs2 cs3 : List Value) (t1 s1 t2 s2 t3 s3 n1 n2 k : Nat) (w s q ring a d x D : Int) : (trsN O4a states4).map (outW (tabW CX0) Tryz.prog 7 CX0 Fn.law03_RotorBrackets O4a 161 (liveAs cs1 cs2 cs3 t1 s1 t2 s2 t3 s3 n1 n2 k w s q ring a d x D) (hpAs cs1 cs2 cs3 t1 s1 t2 s2 t3 s3 n1 n2 k w s q ring a d x D)) = (trsN O4a states4).map fun t => (outW (tabW CX0) Tryz.prog 7 CX0 Fn.law03_RotorBrackets O4a 161 (liveAs cs1 cs2 cs3 t1 s1 t2 s2 t3 s3 n1 n2 k w s q ring a d x D) (hpAs cs1 cs2 cs3 t1 s1 t2 s2 t3 s3 n1 n2 k w s q ring a d x D) t).fix := by kernel_rfl
theorem obsAs (cs1 cs2 cs3 : List Value) (t1 s1 t2 s2 t3 s3 n1 n2 k : Nat) (w s q ring a d x D : Int) : (trsN O4a states4).map (obsW (tabW CX0) Tryz.prog 7 CX0 Fn.law03_RotorBrackets O4a 161 (liveAs cs1 cs2 cs3 t1 s1 t2 s2 t3 s3 n1 n2 k w s q ring a d x D) (hpAs cs1 cs2 cs3 t1 s1 t2 s2 t3 s3 n1 n2 k w s q ring a d x D) rhoAs ans4) = (trsN O4a states4).map (expN 161 (liveAs cs1 cs2 cs3 t1 s1 t2 s2 t3 s3 n1 n2 k w s q ring a d x D) (hpAs cs1 cs2 cs3 t1 s1 t2 s2 t3 s3 n1 n2 k w s q ring a d x D) rhoAs (cndAs cs1 cs2 cs3 t1 s1 t2 s2 t3 s3 n1 n2 k w s q ring a d x D) lenAs) := by kernel_rfl
theorem goodAs (cs1 cs2 cs3 : List Value) (t1 s1 t2 s2 t3 s3 n1 n2 k : Nat) (w s q ring a d x D : Int) : ((trsN O4a states4).all fun t => goodR 10 (lenAs t.2) (liveAs cs1 cs2 cs3 t1 s1 t2 s2 t3 s3 n1 n2 k w s q ring a d x D (t.1 ||| 2 ^ t.2)) (hpAs cs1 cs2 cs3 t1 s1 t2 s2 t3 s3 n1 n2 k w s q ring a d x D (t.1 ||| 2 ^ t.2)) (rhoAs t.2)) = true := by kernel_rfl
def liveBz (cs1 cs2 cs3 : List Value) (t1 s1 t2 s2 t3 s3 n1 n2 : Nat) (w s q ring a d x D : Int) (m : Nat) : List (Nat × Value) := [(3, pt 7 0), (4, pt 8 0), (5, pt 9 0), (7, pt 12 0), (8, i (fZ (LA.mk n1 n2 0 w s q ring a d x D).F (cpS cs1 cs2 cs3 0))), (9, i (checkR (LA.mk n1 n2 0 w s q ring a d x D).R (cpS cs1 cs2 cs3 0)))] ++ bitV m 0 (47, blV n1 n1 n2 n2 (sl 6 0 0 0)) ++ bitV m 1 (48, cutV true 15 n1 n2 0) ++ bitV m 2 (49, flV w s q) ++ bitV m 3 (50, pt 9 0) ++ bitV m 4 (51, i ring) ++ bitV m 5 (52, pt 9 1) ++ bitV m 6 (53, ag [i a, i d]) ++ bitV m 7 (54, (tp [ag [i (gX (LA.mk n1 n2 0 w s q ring a d x D).R (cpS cs1 cs2 cs3 0)), i (gY (LA.mk n1 n2 0 w s q ring a d x D).R (cpS cs1 cs2 cs3 0))], i (gZ (LA.mk n1 n2 0 w s q ring a d x D).R (cpS cs1 cs2 cs3 0))])) ++ bitV m 8 (46, (tp [ag [i (gX (LA.mk n1 n2 0 w s q ring a d x D).R (cpS cs1 cs2 cs3 0)), i (gY (LA.mk n1 n2 0 w s q ring a d x D).R (cpS cs1 cs2 cs3 0))], i (gZ (LA.mk n1 n2 0 w s q ring a d x D).R (cpS cs1 cs2 cs3 0))])) ++ bitV m 9 (55, ag [i (gX (LA.mk n1 n2 0 w s q ring a d x D).R (cpS cs1 cs2 cs3 0)), i (gY (LA.mk n1 n2 0 w s q ring a d x D).R (cpS cs1 cs2 cs3 0))]) ++ bitV m 10 (56, i (gZ (LA.mk n1 n2 0 w s q ring a d x D).R (cpS cs1 cs2 cs3 0))) ++ bitV m 11 (10, pt 17 0) ++ bitV m 13 (11, i (gZ (LA.mk n1 n2 0 w s q ring a d x D).R (cpS cs1 cs2 cs3 0)))
noncomputable def hpBz (cs1 cs2 cs3 : List Value) (t1 s1 t2 s2 t3 s3 n1 n2 : Nat) (w s q ring a d x D : Int) (m : Nat) : List (CO × Bool) := base4 (LA.mk n1 n2 0 w s q ring a d x D) cs1 t1 s1 cs2 t2 s2 cs3 t3 s3 ++ gone true ++ [(.cells [i (fX (LA.mk n1 n2 0 w s q ring a d x D).F (cpS cs1 cs2 cs3 0)), i (fY (LA.mk n1 n2 0 w s q ring a d x D).F (cpS cs1 cs2 cs3 0))] 45 1 true, false)] ++ gone true ++ cps true m 1 cs1 cs2 cs3 ++ [bitC m 11 (.cells (cond (Nat.testBit m 12) [i (gX (LA.mk n1 n2 0 w s q ring a d x D).R (cpS cs1 cs2 cs3 0)), i (gY (LA.mk n1 n2 0 w s q ring a d x D).R (cpS cs1 cs2 cs3 0))] [i 0, i 0]) 45 1 true, false)]
def rhoBz (j : Nat) : List Nat :=
  match j with
  | 1 => [0, 1, 2, 3, 4, 5, 6, 7, 8, 9, 10, 11, 12, 13, 14, 18, 19, 17]
  | 11 => [0, 1, 2, 3, 4, 5, 6, 7, 8, 9, 10, 11, 12, 13, 14, 15, 16, 18]
  | _ => List.range 18
def lenBz (j : Nat) : Nat :=
  match j with
  | 1 => 20
  | 11 => 19
  | _ => 18
noncomputable def cndBz (cs1 cs2 cs3 : List Value) (t1 s1 t2 s2 t3 s3 n1 n2 : Nat) (w s q ring a d x D : Int) (j : Nat) : List Bool :=
  match j with
  | 1 => [tru (okCp (argA n1 n2 0) cs1 cs2 cs3)]
  | 7 => [tru (okP (LA.mk n1 n2 0 w s q ring a d x D).R (cpS cs1 cs2 cs3 0))]
  | _ => []
theorem fixBz (cs1 cs2 cs3 : List Value) (t1 s1 t2 s2 t3 s3 n1 n2 : Nat) (w s q ring a d x D : Int) : (trsN O4b states4).map (outW (tabW CX0) Tryz.prog 7 CX0 Fn.law03_RotorBrackets O4b 161 (liveBz cs1 cs2 cs3 t1 s1 t2 s2 t3 s3 n1 n2 w s q ring a d x D) (hpBz cs1 cs2 cs3 t1 s1 t2 s2 t3 s3 n1 n2 w s q ring a d x D)) = (trsN O4b states4).map fun t => (outW (tabW CX0) Tryz.prog 7 CX0 Fn.law03_RotorBrackets O4b 161 (liveBz cs1 cs2 cs3 t1 s1 t2 s2 t3 s3 n1 n2 w s q ring a d x D) (hpBz cs1 cs2 cs3 t1 s1 t2 s2 t3 s3 n1 n2 w s q ring a d x D) t).fix := by kernel_rfl
theorem obsBz (cs1 cs2 cs3 : List Value) (t1 s1 t2 s2 t3 s3 n1 n2 : Nat) (w s q ring a d x D : Int) : (trsN O4b states4).map (obsW (tabW CX0) Tryz.prog 7 CX0 Fn.law03_RotorBrackets O4b 161 (liveBz cs1 cs2 cs3 t1 s1 t2 s2 t3 s3 n1 n2 w s q ring a d x D) (hpBz cs1 cs2 cs3 t1 s1 t2 s2 t3 s3 n1 n2 w s q ring a d x D) rhoBz ans4) = (trsN O4b states4).map (expN 161 (liveBz cs1 cs2 cs3 t1 s1 t2 s2 t3 s3 n1 n2 w s q ring a d x D) (hpBz cs1 cs2 cs3 t1 s1 t2 s2 t3 s3 n1 n2 w s q ring a d x D) rhoBz (cndBz cs1 cs2 cs3 t1 s1 t2 s2 t3 s3 n1 n2 w s q ring a d x D) lenBz) := by kernel_rfl
theorem goodBz (cs1 cs2 cs3 : List Value) (t1 s1 t2 s2 t3 s3 n1 n2 : Nat) (w s q ring a d x D : Int) : ((trsN O4b states4).all fun t => goodR 15 (lenBz t.2) (liveBz cs1 cs2 cs3 t1 s1 t2 s2 t3 s3 n1 n2 w s q ring a d x D (t.1 ||| 2 ^ t.2)) (hpBz cs1 cs2 cs3 t1 s1 t2 s2 t3 s3 n1 n2 w s q ring a d x D (t.1 ||| 2 ^ t.2)) (rhoBz t.2)) = true := by kernel_rfl
def liveBs (cs1 cs2 cs3 : List Value) (t1 s1 t2 s2 t3 s3 n1 n2 k : Nat) (w s q ring a d x D : Int) (m : Nat) : List (Nat × Value) := [(3, pt 7 0), (4, pt 8 0), (5, pt 9 0), (7, pt 13 0), (8, i (fZ (LA.mk n1 n2 (k + 1) w s q ring a d x D).F (cpS cs1 cs2 cs3 (k + 1)))), (9, i (checkR (LA.mk n1 n2 (k + 1) w s q ring a d x D).R (cpS cs1 cs2 cs3 (k + 1))))] ++ bitV m 0 (47, blV n1 n1 n2 n2 (sl 6 0 (k + 1) (k + 1))) ++ bitV m 1 (48, cutV false 17 n1 n2 (k + 1)) ++ bitV m 2 (49, flV w s q) ++ bitV m 3 (50, pt 9 0) ++ bitV m 4 (51, i ring) ++ bitV m 5 (52, pt 9 1) ++ bitV m 6 (53, ag [i a, i d]) ++ bitV m 7 (54, (tp [ag [i (gX (LA.mk n1 n2 (k + 1) w s q ring a d x D).R (cpS cs1 cs2 cs3 (k + 1))), i (gY (LA.mk n1 n2 (k + 1) w s q ring a d x D).R (cpS cs1 cs2 cs3 (k + 1)))], i (gZ (LA.mk n1 n2 (k + 1) w s q ring a d x D).R (cpS cs1 cs2 cs3 (k + 1)))])) ++ bitV m 8 (46, (tp [ag [i (gX (LA.mk n1 n2 (k + 1) w s q ring a d x D).R (cpS cs1 cs2 cs3 (k + 1))), i (gY (LA.mk n1 n2 (k + 1) w s q ring a d x D).R (cpS cs1 cs2 cs3 (k + 1)))], i (gZ (LA.mk n1 n2 (k + 1) w s q ring a d x D).R (cpS cs1 cs2 cs3 (k + 1)))])) ++ bitV m 9 (55, ag [i (gX (LA.mk n1 n2 (k + 1) w s q ring a d x D).R (cpS cs1 cs2 cs3 (k + 1))), i (gY (LA.mk n1 n2 (k + 1) w s q ring a d x D).R (cpS cs1 cs2 cs3 (k + 1)))]) ++ bitV m 10 (56, i (gZ (LA.mk n1 n2 (k + 1) w s q ring a d x D).R (cpS cs1 cs2 cs3 (k + 1)))) ++ bitV m 11 (10, pt 20 0) ++ bitV m 13 (11, i (gZ (LA.mk n1 n2 (k + 1) w s q ring a d x D).R (cpS cs1 cs2 cs3 (k + 1))))
noncomputable def hpBs (cs1 cs2 cs3 : List Value) (t1 s1 t2 s2 t3 s3 n1 n2 k : Nat) (w s q ring a d x D : Int) (m : Nat) : List (CO × Bool) := base4 (LA.mk n1 n2 (k + 1) w s q ring a d x D) cs1 t1 s1 cs2 t2 s2 cs3 t3 s3 ++ gone false ++ [(.cells [i (fX (LA.mk n1 n2 (k + 1) w s q ring a d x D).F (cpS cs1 cs2 cs3 (k + 1))), i (fY (LA.mk n1 n2 (k + 1) w s q ring a d x D).F (cpS cs1 cs2 cs3 (k + 1)))] 45 1 true, false)] ++ gone false ++ cps false m 1 cs1 cs2 cs3 ++ [bitC m 11 (.cells (cond (Nat.testBit m 12) [i (gX (LA.mk n1 n2 (k + 1) w s q ring a d x D).R (cpS cs1 cs2 cs3 (k + 1))), i (gY (LA.mk n1 n2 (k + 1) w s q ring a d x D).R (cpS cs1 cs2 cs3 (k + 1)))] [i 0, i 0]) 45 1 true, false)]
def rhoBs (j : Nat) : List Nat :=
  match j with
  | 1 => [0, 1, 2, 3, 4, 5, 6, 7, 8, 9, 10, 11, 12, 13, 14, 15, 16, 21, 22, 23, 20]
  | 11 => [0, 1, 2, 3, 4, 5, 6, 7, 8, 9, 10, 11, 12, 13, 14, 15, 16, 17, 18, 19, 21]
  | _ => List.range 21
def lenBs (j : Nat) : Nat :=
  match j with
  | 1 => 24
  | 11 => 22
  | _ => 21
noncomputable def cndBs (cs1 cs2 cs3 : List Value) (t1 s1 t2 s2 t3 s3 n1 n2 k : Nat) (w s q ring a d x D : Int) (j : Nat) : List Bool :=
  match j with
  | 1 => [tru (okCp (argA n1 n2 (k + 1)) cs1 cs2 cs3)]
  | 7 => [tru (okP (LA.mk n1 n2 (k + 1) w s q ring a d x D).R (cpS cs1 cs2 cs3 (k + 1)))]
  | _ => []
theorem fixBs (cs1 cs2 cs3 : List Value) (t1 s1 t2 s2 t3 s3 n1 n2 k : Nat) (w s q ring a d x D : Int) : (trsN O4b states4).map (outW (tabW CX0) Tryz.prog 7 CX0 Fn.law03_RotorBrackets O4b 161 (liveBs cs1 cs2 cs3 t1 s1 t2 s2 t3 s3 n1 n2 k w s q ring a d x D) (hpBs cs1 cs2 cs3 t1 s1 t2 s2 t3 s3 n1 n2 k w s q ring a d x D)) = (trsN O4b states4).map fun t => (outW (tabW CX0) Tryz.prog 7 CX0 Fn.law03_RotorBrackets O4b 161 (liveBs cs1 cs2 cs3 t1 s1 t2 s2 t3 s3 n1 n2 k w s q ring a d x D) (hpBs cs1 cs2 cs3 t1 s1 t2 s2 t3 s3 n1 n2 k w s q ring a d x D) t).fix := by kernel_rfl
theorem obsBs (cs1 cs2 cs3 : List Value) (t1 s1 t2 s2 t3 s3 n1 n2 k : Nat) (w s q ring a d x D : Int) : (trsN O4b states4).map (obsW (tabW CX0) Tryz.prog 7 CX0 Fn.law03_RotorBrackets O4b 161 (liveBs cs1 cs2 cs3 t1 s1 t2 s2 t3 s3 n1 n2 k w s q ring a d x D) (hpBs cs1 cs2 cs3 t1 s1 t2 s2 t3 s3 n1 n2 k w s q ring a d x D) rhoBs ans4) = (trsN O4b states4).map (expN 161 (liveBs cs1 cs2 cs3 t1 s1 t2 s2 t3 s3 n1 n2 k w s q ring a d x D) (hpBs cs1 cs2 cs3 t1 s1 t2 s2 t3 s3 n1 n2 k w s q ring a d x D) rhoBs (cndBs cs1 cs2 cs3 t1 s1 t2 s2 t3 s3 n1 n2 k w s q ring a d x D) lenBs) := by kernel_rfl
theorem goodBs (cs1 cs2 cs3 : List Value) (t1 s1 t2 s2 t3 s3 n1 n2 k : Nat) (w s q ring a d x D : Int) : ((trsN O4b states4).all fun t => goodR 17 (lenBs t.2) (liveBs cs1 cs2 cs3 t1 s1 t2 s2 t3 s3 n1 n2 k w s q ring a d x D (t.1 ||| 2 ^ t.2)) (hpBs cs1 cs2 cs3 t1 s1 t2 s2 t3 s3 n1 n2 k w s q ring a d x D (t.1 ||| 2 ^ t.2)) (rhoBs t.2)) = true := by kernel_rfl
theorem closed4a : closedN O4a states4 16383 = true := by kernel_rfl
theorem closed4b : closedN O4b states4 16383 = true := by kernel_rfl
end Go.Proofs.YtbocpikgochioaaGreatDoor.Ways
