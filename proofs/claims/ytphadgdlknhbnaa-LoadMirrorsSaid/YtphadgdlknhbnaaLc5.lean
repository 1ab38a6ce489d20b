import Derived.Test.YtphadgdlknhbnaaLc3
set_option maxRecDepth 10000
noncomputable section
namespace Go.Proofs.Ytphadgdlknhbnaa.Ways
open Go Go.Ex Go.RowKit Go.Turn
def nl : Value := .slice none 0 0
noncomputable def CN : Cfg := ⟨noT, spN, off_, noL⟩
noncomputable def oNN (f : Nat) : Out QRes := execO Try.prog 1 ⟨noT, no_, off_, noL⟩ 60 (.call f ⟨[nl, nl]⟩ (heapL deads))
section
variable (b : List Value) (t s n m c : Nat) (ex : Bool)
noncomputable def oNB (f : Nat) : Out QRes := execO Try.prog 2 CN 60 (.call f ⟨[nl, sl 1 0 m c]⟩ (heapL (deads ++ [.cells b t s ex])))
noncomputable def oBN (f : Nat) : Out QRes := execO Try.prog 2 CN 60 (.call f ⟨[sl 1 0 (n + 1) c, nl]⟩ (heapL (deads ++ [.cells b t s ex])))
noncomputable def oB0 (f : Nat) : Out QRes := execO Try.prog 2 ⟨noT, no_, off_, noL⟩ 60 (.call f ⟨[sl 1 0 0 c, nl]⟩ (heapL (deads ++ [.cells b t s ex])))
end
structure Emp (f : Nat) : Prop where
  nn : (oNN f).vals = .leaf (b_ true) ∧ oNN f = (oNN f).fix
  nb : ∀ b t s m c ex, (oNB b t s m c ex f).vals = .br (!eqF ((0 : Nat) : Int) m) (.leaf (b_ false)) .fail ∧ oNB b t s m c ex f = (oNB b t s m c ex f).fix
  bn : ∀ b t s n c ex, (oBN b t s n c ex f).vals = .br (!eqF ((n + 1 : Nat) : Int) ((0 : Nat) : Int)) (.leaf (b_ false)) .fail ∧ oBN b t s n c ex f = (oBN b t s n c ex f).fix
  b0 : ∀ b t s c ex, (oB0 b t s c ex f).vals = .leaf (b_ true) ∧ oB0 b t s c ex f = (oB0 b t s c ex f).fix
def spS1 (a : List Value) (al : List Value) : Option (Prop × Value) := match al with
  | [.slice (some ⟨1, 0, none⟩) n _, .slice none 0 0] => some (a.all Ex.flat = true, b_ (Nat.beq n 0))
  | [.slice none 0 0, .slice (some ⟨1, 0, none⟩) n _] => some (a.all Ex.flat = true ∧ 1 ≤ n, b_ false)
  | _ => none
def spS0 (al : List Value) : Option (Prop × Value) := match al with
  | [.slice none 0 0, .slice none 0 0] => some (True, b_ true)
  | _ => none
noncomputable def spS (eq : List Value → List Value → Nat → Bool) (ck : List Value → Int → Bool) : ESpec := fun al css => match css with
  | [a, b] => spSame eq ck al [a, b]
  | [a] => spS1 a al
  | [] => spS0 al
  | _ => none
end Go.Proofs.Ytphadgdlknhbnaa.Ways
set_option maxRecDepth 10000
noncomputable section
namespace Go.Proofs.Ytphadgdlknhbnaa.Ways
open Go Go.Ex Go.RowKit Go.Turn
def sp18g (g : Bool) : ESpec := fun al css => match al, css with
  | [.slice (some ⟨1, 0, none⟩) n c], [cs] => cond g (some (BokE cs n c ∧ crE cs n = 0, i 0)) (some (BokE cs n c ∧ crE cs n ≠ 0, i (crE cs n)))
  | _, _ => none
theorem c18g (fn : Nat) (hf : fn = 18 ∨ fn = 20) (g : Bool) : ∀ al css os p v, sp18g g al css = some (p, v) → p → Blks css os → (∀ cs ∈ css, cs.all Ex.flat = true) ∧ clean 6 v = true ∧ ∃ H', Sound Try.prog (gl + css.length) (.call fn ⟨al⟩ (heapL (deads ++ os))) (.val v H') := by
  intro al css os p v hs hp hb
  unfold sp18g at hs
  split at hs
  case h_2 => cases hs
  rename_i n c cs
  have key : BokE cs n c → (∀ x ∈ [cs], x.all Ex.flat = true) ∧ clean 6 (i (crE cs n)) = true ∧ ∃ H', Sound Try.prog (gl + [cs].length) (.call fn ⟨[sl 1 0 n c]⟩ (heapL (deads ++ os))) (.val (i (crE cs n)) H') := fun h => by
    rcases hf with rfl | rfl
    · exact c18 [sl 1 0 n c] [cs] os (BokE cs n c) (i (crE cs n)) rfl h hb
    · exact c20 [sl 1 0 n c] [cs] os (BokE cs n c) (i (crE cs n)) rfl h hb
  cases g with
  | true => cases hs; have h := key hp.1; rwa [hp.2] at h
  | false => cases hs; exact key hp.1
def sp19s : NSpec := fun al css => match al, css with
  | [.slice (some ⟨1, 0, none⟩) (n + 1) c], [cs] => some (CmE cs (n + 1) c, .sl (n + 1) (n + 1) cs 67 2 false)
  | _, _ => none
def sp23s : NSpec := fun al css => match al, css with
  | [.slice (some ⟨1, 0, none⟩) (n + 1) c], [cs] => some (CfE cs (n + 1) c, .sl (n + 1) (n + 1) cs 83 4 false)
  | _, _ => none
def sp24s (f : Bool) : TSpec := fun al css => match al, css with
  | [.slice (some ⟨1, 0, none⟩) (n + 1) c], [cs] => some (P59 f cs (n + 1) c, R24 f cs (n + 1))
  | _, _ => none
noncomputable def TL (g f : Bool) : Tb := ext (ext (ext (ext (ext (ext (ext (ext (ext (ext (ext (ext (ext T14 9 (pureE s9 [] Hd)) 16 (autoE (spS eqP cP) [] (heapL deads))) 17 (newE sp17t [] (heapL deads))) 18 (autoE (sp18g g) [] (heapL deads))) 19 (newE sp19s [] (heapL deads))) 20 (autoE (sp18g g) [] (heapL deads)))
  23 (newE sp23s [] (heapL deads))) 24 (twoE (sp24s f) [] (heapL deads))) 25 (autoE (spS eqF4 cF) [] (heapL deads))) 26 (newE (sp23 69) [] (heapL deads))) 59 (twoE (sp59 f) [] (heapL deads))) 61 (autoE (spS eqF4 cF) [] (heapL deads))) 62 (autoE (spS eqP cP) [] (heapL deads))
def mkT (b : Bool) (l : List (Nat × Nat)) : List (Nat × Nat) := cond b l []
def spL (g f z zc zr : Bool) : Nat → Nat → Split := at_ ([(4, 20), (4, 25), (4, 30)] ++ (mkT (g && (f && !zc)) [(22, 19)] ++ (mkT (g && (!z && !zr)) [(22, 23)] ++ (mkT (g && f) [(4, 60), (4, 74)] ++ (mkT (g && !z) [(4, 65), (4, 80)] ++ mkT (!g) [(21, 11), (4, 51), (4, 69), (4, 85)]))))) .bool (at_ (mkT (!g) [(21, 14), (4, 53)]) (.ints []) no_)
noncomputable def CL (g f z zc zr : Bool) : Cfg := ⟨TL g f, spL g f z zc zr, off_, noL⟩
noncomputable def o4 (g f z zc zr : Bool) (cs ds rs : List Value) (n m k : Nat) (t s t2 s2 t3 s3 : Nat) (ex e2 e3 : Bool) : Out QRes := execO Try.prog 4 (CL g f z zc zr) 80 (.call 4 ⟨[sl 1 0 n n, sl 2 0 m m, sl 3 0 k k]⟩ (heapL (deads ++ [.cells cs t s ex, .cells ds t2 s2 e2, .cells rs t3 s3 e3])))
end Go.Proofs.Ytphadgdlknhbnaa.Ways
set_option maxRecDepth 10000
noncomputable section
namespace Go.Proofs.Ytphadgdlknhbnaa.Ways
open Go Go.Ex Go.RowKit Go.Turn
def nz (b : Bool) (n : Nat) : Nat := cond b 0 (n + 1)
section
variable (f z zc zr : Bool) (cs ds rs : List Value) (n m k : Nat)
noncomputable def cmp1 (A B : Bool) (ok oa ob : Prop) (same : Bool) (Kt Kf : VT) : VT :=
  cond A (cond B (aV (tru True) Kt) (aV (tru ob) Kf)) (cond B (aV (tru oa) Kf) (aV (tru ok) (.br same Kt Kf)))
noncomputable def cmp2 (A B : Bool) (ok oa : Prop) (same : Bool) (Kt Kf : VT) : VT :=
  cond B (aV (tru oa) (cond A Kt Kf)) (aV (tru ok) (.br (!same) Kf Kt))
noncomputable def nnT (K : VT) : VT := aV (tru True) K
noncomputable def ownT (b : Bool) (cs : List Value) (n : Nat) (K : VT) : VT := cond b K (aV (tru (CmE cs n n)) K)
noncomputable def cycT (b : Bool) (ds : List Value) (m : Nat) (K : VT) : VT := cond b K (aV (tru (CfE ds m m)) K)
noncomputable def cntT (K : VT) : VT := cond z K (aV (tru (BokE cs n n ∧ crE cs n = 0)) (aV (tru (P59 f cs n n)) K))
noncomputable def lcN : Nat := (cnt cs n).2.length
noncomputable def lN : Nat := (cnt cs n).1.length
noncomputable def FC : List Value := flatC (cnt cs n).2
noncomputable def RR : List Value := flatP (cnt cs n).1.reverse
noncomputable def stN : List Value := cellO (eO cs n n)
noncomputable def cpN : Nat := capO (eO cs n n)
noncomputable def l2T (e2 two : Int) : VT := cond z (nnT (.leaf (b_ (eqF e2 two))))
  (aV (tru (TokE (stN cs n) (lN cs n) (cpN cs n))) (aV (tru (okX cP (flatP (pts (stN cs n) (lN cs n))) (lN cs n) (lN cs n) ∧ okX cP (RR cs n) (lN cs n) (lN cs n))) (.br (sameE eqP (flatP (pts (stN cs n) (lN cs n))) (RR cs n) (lN cs n) (lN cs n)) (.leaf (b_ (eqF e2 two))) lfU)))
noncomputable def lastT (e2 two : Int) : VT := cond f (aV (tru (CfE (FC cs n) (lcN cs n) (lcN cs n))) (aV (tru (okX cF (FC cs n) (lcN cs n) (lcN cs n) ∧ okX cF (FC cs n) (lcN cs n) (lcN cs n))) (.br (sameE eqF4 (FC cs n) (FC cs n) (lcN cs n) (lcN cs n)) (l2T z cs n e2 two) lfU)))
  (nnT (l2T z cs n e2 two))
noncomputable def refT (e2 : Int) : VT := aV (tru (BokE cs n n ∧ crE cs n = 0)) <| cond z (fun t => t) (aV (tru (P59 f cs n n))) <|
  cmp2 zc (!f) (okX cF ds m m ∧ okX cF (FC cs n) (lcN cs n) (lcN cs n)) (ds.all Ex.flat = true) (sameE eqF4 ds (FC cs n) m (lcN cs n))
    (cmp2 zr z (okX cP rs k k ∧ okX cP (RR cs n) (lN cs n) (lN cs n)) (rs.all Ex.flat = true) (sameE eqP rs (RR cs n) k (lN cs n)) (lastT f z cs n e2 0) (lastT f z cs n e2 22)) (lastT f z cs n e2 22)
noncomputable def finT (e x : Int) (K : Int → VT) : VT := aV (tru (okI [i e, i x] 2 2)) (K (fst2 e x))
noncomputable def goodT : VT := ownT z cs n <| cntT f z cs n <| ownT z cs n <| cycT zc ds m <| ownT zr rs k <| cntT f z cs n <|
  cmp1 zc (!f) (okX cF ds m m ∧ okX cF (FC cs n) (lcN cs n) (lcN cs n)) (ds.all Ex.flat = true) ((FC cs n).all Ex.flat = true ∧ 1 ≤ lcN cs n) (sameE eqF4 ds (FC cs n) m (lcN cs n))
    (cmp1 zr z (okX cP rs k k ∧ okX cP (stN cs n) (lN cs n) (cpN cs n)) (rs.all Ex.flat = true) ((stN cs n).all Ex.flat = true ∧ 1 ≤ lN cs n) (sameE eqP rs (stN cs n) k (lN cs n)) (finT 0 0 (refT f z zc zr cs ds rs n m k)) (finT 0 22 (refT f z zc zr cs ds rs n m k))) (finT 0 22 (refT f z zc zr cs ds rs n m k))
noncomputable def ckT (K : VT) : VT := aV (tru (BokE cs n n ∧ crE cs n ≠ 0)) (.br (!eqF (crE cs n) 0) K .fail)
noncomputable def refB (e2 : Int) : VT := aV (tru (BokE cs n n ∧ crE cs n ≠ 0)) <| .br (eqF (crE cs n) 0) .fail <| .br (eqF (crE cs n) (crE cs n)) (nnT (nnT (.br (eqF e2 (crE cs n)) ltU lfU))) lfU
noncomputable def badT : VT := ownT false cs n <| ckT cs n <| ownT false cs n <| cycT zc ds m <| ownT zr rs k <| ckT cs n <|
  cmp1 zc true True (ds.all Ex.flat = true) True true (cmp1 zr true True (rs.all Ex.flat = true) True true (finT (crE cs n) 0 (refB cs n)) (finT (crE cs n) 22 (refB cs n))) (finT (crE cs n) 22 (refB cs n))
noncomputable def lawT4 (g : Bool) : VT := .br (!leF n 20) ltU (.br (!leF k 20) ltU (.br (ltF 20 m) ltU (cond g (goodT f z zc zr cs ds rs n m k) (badT zc zr cs ds rs n m k))))
variable (t s t2 s2 t3 s3 : Nat) (ex e2 e3 : Bool)
def nok (g f z : Bool) : Bool := cond g (cond z (!f) true) (!f && !z)
theorem w4 : ∀ g f z zc zr, nok g f z = true → (o4 g f z zc zr cs ds rs (nz z n) (nz zc m) (nz zr k) t s t2 s2 t3 s3 ex e2 e3).vals = lawT4 f z zc zr cs ds rs (nz z n) (nz zc m) (nz zr k) g
  | true, true, true, _, _, h => by cases h
  | true, true, false, true, true, _ => by kernel_rfl
  | true, true, false, true, false, _ => by kernel_rfl
  | true, true, false, false, true, _ => by kernel_rfl
  | true, true, false, false, false, _ => by kernel_rfl
  | true, false, true, true, true, _ => by kernel_rfl
  | true, false, true, true, false, _ => by kernel_rfl
  | true, false, true, false, true, _ => by kernel_rfl
  | true, false, true, false, false, _ => by kernel_rfl
  | true, false, false, true, true, _ => by kernel_rfl
  | true, false, false, true, false, _ => by kernel_rfl
  | true, false, false, false, true, _ => by kernel_rfl
  | true, false, false, false, false, _ => by kernel_rfl
  | false, true, true, _, _, h => by cases h
  | false, true, false, _, _, h => by cases h
  | false, false, true, _, _, h => by cases h
  | false, false, false, true, true, _ => by kernel_rfl
  | false, false, false, true, false, _ => by kernel_rfl
  | false, false, false, false, true, _ => by kernel_rfl
  | false, false, false, false, false, _ => by kernel_rfl
end
end Go.Proofs.Ytphadgdlknhbnaa.Ways
set_option maxRecDepth 10000
noncomputable section
namespace Go.Proofs.Ytphadgdlknhbnaa.Ways
open Go Go.Ex Go.RowKit Go.Turn
theorem aP {P : Prop} {t : VT} (h : P) : (aV (tru P) t).sel = t.sel := aV_sel (tru_iff.2 h)
def rawP (rs : List Value) (m : Nat) : Prop := rs.all Ex.flat = true ∧ rs.length = m * 2 ∧ ∀ j, j < m → areCells k2 rs (0 + j * 2) = true
theorem okF_flat (C : List Cy) (h : C.length < 1000000) : okF (flatC C) C.length C.length := by
  refine ⟨flatC_flat C, Nat.le_refl _, by omega, fun j hj => ?_⟩
  have e : C = C.take j ++ C[j] :: C.drop (j + 1) := by rw [List.getElem_cons_drop, List.take_append_drop]
  have e2 : flatC C = flatC (C.take j) ++ (cyL C[j] ++ flatC (C.drop (j + 1))) := by
    have h1 := congrArg flatC e
    rw [flatC_app] at h1
    exact h1
  have hl : 0 + j * 4 = (flatC (C.take j)).length + 0 := by rw [flatC_len, List.length_take]; omega
  rw [hl, e2, areCells_app]; rfl
theorem okP_app {P : List Pt} {J : List Value} {c : Nat} (hf : (flatP P ++ J).all Ex.flat = true) (h : P.length < 1000000) (hc : P.length ≤ c) : okP (flatP P ++ J) P.length c := by
  refine ⟨hf, hc, by omega, fun j hj => ?_⟩
  obtain ⟨h1, h2⟩ := flatP_get P j hj
  rw [show 0 + j * 2 = j * 2 from by omega]
  refine areCells_k2 ?_ ?_
  · rw [List.getElem?_append_left (by rw [flatP_len]; omega), h1]; rfl
  · rw [List.getElem?_append_left (by rw [flatP_len]; omega), h2]; rfl
theorem firstF_congr {e e' : Nat → Int} : ∀ (m j : Nat), (∀ q, j ≤ q → q < j + m → e q = e' q) → firstF e m j = firstF e' m j
  | 0, _, _ => rfl
  | m + 1, j, h => by
    have h0 := h j (Nat.le_refl _) (by omega)
    have ih := firstF_congr m (j + 1) (fun q _ _ => h q (by omega) (by omega))
    show (if e j ≠ 0 then e j else firstF e m (j + 1)) = (if e' j ≠ 0 then e' j else firstF e' m (j + 1))
    rw [h0, ih]
theorem sameE_congr {eq : List Value → List Value → Nat → Bool} {a b b' : List Value} {n m : Nat} (h : n = m → ∀ j, j < n → eq a b j = eq a b' j) : sameE eq a b n m = sameE eq a b' n m := by
  unfold sameE
  by_cases hn : n = m
  · rw [firstF_congr (e := fun j => cond (eq a b j) 0 1) (e' := fun j => cond (eq a b' j) 0 1) n 0 (fun q _ hq => by rw [h hn q (by omega)])]
  · rw [decide_eq_false hn]; rfl
theorem firstF_zero {e : Nat → Int} : ∀ (m j : Nat), (∀ q, e q = 0) → firstF e m j = 0
  | 0, _, _ => rfl
  | m + 1, j, h => by
    show (if e j ≠ 0 then e j else firstF e m (j + 1)) = 0
    rw [h j, firstF_zero m (j + 1) h]; rfl
section
variable {cs : List Value} {n : Nat}
theorem st_all (h : okP cs n n) (hn : n < 999990) : (stN cs n).all Ex.flat = true := by
  obtain ⟨⟨m, hr⟩, _⟩ := eO_rep h hn
  have hgd : GdO (eO cs n n) := runS_good (Good := GdO) goodO (s := TO.z) (by trivial) hr
  unfold stN
  generalize eO cs n n = q at hgd
  cases q with
  | z => rfl
  | s _ _ _ _ => exact hgd
  | b _ _ _ _ _ _ => exact hgd.1
theorem st_ok (h : okP cs n n) (h1 : 1 ≤ n) (hn : n < 999990) : okP (stN cs n) (lN cs n) (cpN cs n) ∧ flatP (pts (stN cs n) (lN cs n)) = RR cs n ∧ ∀ a k, sameE eqP a (stN cs n) k (lN cs n) = sameE eqP a (RR cs n) k (lN cs n) := by
  have hf := st_all h hn
  have hl := cnt_len cs n
  obtain ⟨_, h2, _, J, hJ⟩ := cell_rep h h1 hn
  have hJ' : stN cs n = flatP (cnt cs n).1.reverse ++ J := hJ
  have hlen : (cnt cs n).1.reverse.length = lN cs n := by rw [List.length_reverse]; rfl
  refine ⟨?_, ?_, fun a k => sameE_congr fun hk j hj => ?_⟩
  · rw [hJ', ← hlen]
    exact okP_app (by rw [← hJ']; exact hf) (by rw [List.length_reverse]; omega) (by rw [List.length_reverse]; exact h2)
  · rw [hJ', ← hlen, pts_app _ _ _ (Nat.le_refl _), List.take_length]; rfl
  · have hj' : j < (cnt cs n).1.reverse.length := by rw [hlen]; omega
    have e1 : pA (stN cs n) j = pA (RR cs n) j := by
      unfold pA RR
      rw [hJ', List.getElem?_append_left (by rw [flatP_len]; omega)]
    have e2 : pB (stN cs n) j = pB (RR cs n) j := by
      unfold pB RR
      rw [hJ', List.getElem?_append_left (by rw [flatP_len]; omega)]
    unfold eqP
    rw [e1, e2]
end
def rawF (ds : List Value) (m : Nat) : Prop := ds.all Ex.flat = true ∧ ds.length = m * 4 ∧ ∀ j, j < m → areCells k4 ds (0 + j * 4) = true
section
variable {f z zc zr : Bool} {cs ds rs : List Value} {n m k : Nat}
structure Way (f z zc zr : Bool) (cs ds rs : List Value) (n m k : Nat) : Prop where
  c : rawP cs n
  d : rawF ds m
  r : rawP rs k
  hn : n ≤ 20
  hm : m ≤ 20
  hk : k ≤ 20
  hz : z = true ↔ n = 0
  hzc : zc = true ↔ m = 0
  hzr : zr = true ↔ k = 0
theorem nf {f : Bool} (h : (!f) = false) : f = true := by
  cases f with
  | true => rfl
  | false => cases h
end
end Go.Proofs.Ytphadgdlknhbnaa.Ways
