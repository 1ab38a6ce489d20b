import Derived.Test.YteemponkignnhaaGreatLc3
set_option maxRecDepth 10000
noncomputable section
namespace Go.Proofs.YteemponkignnhaaGreat.Ways
open Go Go.Ex Go.RowKit Go.Turn
def nl : Value := .slice none 0 0
noncomputable def CN : Cfg := ⟨noT, spN, off_, noL⟩
noncomputable def oNN (f : Nat) : Out QRes := execO Tryz.prog 1 ⟨noT, no_, off_, noL⟩ 60 (.call f ⟨[nl, nl]⟩ (heapL deads))
section
variable (b : List Value) (t s n m c : Nat) (ex : Bool)
noncomputable def oNB (f : Nat) : Out QRes := execO Tryz.prog 2 CN 60 (.call f ⟨[nl, sl 1 0 m c]⟩ (heapL (deads ++ [.cells b t s ex])))
noncomputable def oBN (f : Nat) : Out QRes := execO Tryz.prog 2 CN 60 (.call f ⟨[sl 1 0 (n + 1) c, nl]⟩ (heapL (deads ++ [.cells b t s ex])))
noncomputable def oB0 (f : Nat) : Out QRes := execO Tryz.prog 2 ⟨noT, no_, off_, noL⟩ 60 (.call f ⟨[sl 1 0 0 c, nl]⟩ (heapL (deads ++ [.cells b t s ex])))
end
structure Emp (f : Nat) : Prop where
  nn : (oNN f).vals = .leaf (b_ true) ∧ oNN f = (oNN f).fix
  nb : ∀ b t s m c ex, (oNB b t s m c ex f).vals = .br (!eqF ((0 : Nat) : Int) m) (.leaf (b_ false)) .fail ∧ oNB b t s m c ex f = (oNB b t s m c ex f).fix
  bn : ∀ b t s n c ex, (oBN b t s n c ex f).vals = .br (!eqF ((n + 1 : Nat) : Int) ((0 : Nat) : Int)) (.leaf (b_ false)) .fail ∧ oBN b t s n c ex f = (oBN b t s n c ex f).fix
  b0 : ∀ b t s c ex, (oB0 b t s c ex f).vals = .leaf (b_ true) ∧ oB0 b t s c ex f = (oB0 b t s c ex f).fix
end Go.Proofs.YteemponkignnhaaGreat.Ways
set_option maxRecDepth 10000
noncomputable section
namespace Go.Proofs.YteemponkignnhaaGreat.Ways
open Go Go.Ex Go.RowKit Go.Turn
def sp18g (g : Bool) : ESpec := fun al css => match al, css with
  | [.slice (some ⟨1, 0, none⟩) n c], [cs] => cond g (some (BokE cs n c ∧ crE cs n = 0, i 0)) (some (BokE cs n c ∧ crE cs n ≠ 0, i (crE cs n)))
  | _, _ => none
theorem c18g (fn : Nat) (hf : fn = 61 ∨ fn = 14) (g : Bool) : ∀ al css os p v, sp18g g al css = some (p, v) → p → Blks css os → (∀ cs ∈ css, cs.all Ex.flat = true) ∧ clean 6 v = true ∧ ∃ H', Sound Tryz.prog (gl + css.length) (.call fn ⟨al⟩ (heapL (deads ++ os))) (.val v H') := by
  intro al css os p v hs hp hb
  unfold sp18g at hs
  split at hs
  case h_2 => cases hs
  rename_i n c cs
  have key : BokE cs n c → (∀ x ∈ [cs], x.all Ex.flat = true) ∧ clean 6 (i (crE cs n)) = true ∧ ∃ H', Sound Tryz.prog (gl + [cs].length) (.call fn ⟨[sl 1 0 n c]⟩ (heapL (deads ++ os))) (.val (i (crE cs n)) H') := fun h => by
    rcases hf with rfl | rfl
    · exact c18 [sl 1 0 n c] [cs] os (BokE cs n c) (i (crE cs n)) rfl h hb
    · exact c20 [sl 1 0 n c] [cs] os (BokE cs n c) (i (crE cs n)) rfl h hb
  cases g with
  | true => cases hs; have h := key hp.1; rwa [hp.2] at h
  | false => cases hs; exact key hp.1
end Go.Proofs.YteemponkignnhaaGreat.Ways
set_option maxRecDepth 10000
noncomputable section
namespace Go.Proofs.YteemponkignnhaaGreat.Ways
open Go Go.Ex Go.RowKit Go.Turn
section
variable (f z zc zr : Bool) (cs ds rs : List Value) (n m k : Nat)
noncomputable def lN : Nat := (cnt cs n).1.length
noncomputable def RR : List Value := flatP (cnt cs n).1.reverse
noncomputable def stN : List Value := cellO (eO cs n n)
noncomputable def cpN : Nat := capO (eO cs n n)
variable (t s t2 s2 t3 s3 : Nat) (ex e2 e3 : Bool)
end
end Go.Proofs.YteemponkignnhaaGreat.Ways
set_option maxRecDepth 10000
noncomputable section
namespace Go.Proofs.YteemponkignnhaaGreat.Ways
open Go Go.Ex Go.RowKit Go.Turn
def rawP (rs : List Value) (m : Nat) : Prop := rs.all Ex.flat = true ∧ rs.length = m * 2 ∧ ∀ j, j < m → areCells k2 rs (0 + j * 2) = true
theorem okF_flat (C : List Cy) (h : C.length < 1000000) : okF (flatC C) C.length C.length := by
  refine ⟨flatC_flat C, Nat.le_refl _, by omega, fun j hj => ?_⟩
  have e : C = C.take j ++ C[j] :: C.drop (j + 1) := by rw [List.getElem_cons_drop, List.take_append_drop]
  have e2 : flatC C = flatC (C.take j) ++ (cyL C[j] ++ flatC (C.drop (j + 1))) := by
    have h1 := congrArg flatC e
    rw [flatC_app] at h1
    exact h1
  have hl : 0 + j * 4 = (flatC (C.take j)).length + 0 := by rw [flatC_len, List.length_take]; omega
  rw [hl, e2, areCells_app]; rfl
theorem okP_app {P : List Pt} {J : List Value} {c : Nat} (hf : (flatP P ++ J).all Ex.flat = true) (h : P.length < 1000000) (hc : P.length ≤ c) : okP (flatP P ++ J) P.length c := by
  refine ⟨hf, hc, by omega, fun j hj => ?_⟩
  obtain ⟨h1, h2⟩ := flatP_get P j hj
  rw [show 0 + j * 2 = j * 2 from by omega]
  refine areCells_k2 ?_ ?_
  · rw [List.getElem?_append_left (by rw [flatP_len]; omega), h1]; rfl
  · rw [List.getElem?_append_left (by rw [flatP_len]; omega), h2]; rfl
theorem firstF_congr {e e' : Nat → Int} : ∀ (m j : Nat), (∀ q, j ≤ q → q < j + m → e q = e' q) → firstF e m j = firstF e' m j
  | 0, _, _ => rfl
  | m + 1, j, h => by
    have h0 := h j (Nat.le_refl _) (by omega)
    have ih := firstF_congr m (j + 1) (fun q _ _ => h q (by omega) (by omega))
    show (if e j ≠ 0 then e j else firstF e m (j + 1)) = (if e' j ≠ 0 then e' j else firstF e' m (j + 1))
    rw [h0, ih]
theorem sameE_congr {eq : List Value → List Value → Nat → Bool} {a b b' : List Value} {n m : Nat} (h : n = m → ∀ j, j < n → eq a b j = eq a b' j) : sameE eq a b n m = sameE eq a b' n m := by
  unfold sameE
  by_cases hn : n = m
  · rw [firstF_congr (e := fun j => cond (eq a b j) 0 1) (e' := fun j => cond (eq a b' j) 0 1) n 0 (fun q _ hq => by rw [h hn q (by omega)])]
  · rw [decide_eq_false hn]; rfl
theorem firstF_zero {e : Nat → Int} : ∀ (m j : Nat), (∀ q, e q = 0) → firstF e m j = 0
  | 0, _, _ => rfl
  | m + 1, j, h => by
    show (if e j ≠ 0 then e j else firstF e m (j + 1)) = 0
    rw [h j, firstF_zero m (j + 1) h]; rfl
section
variable {cs : List Value} {n : Nat}
theorem st_all (h : okP cs n n) (hn : n < 999990) : (stN cs n).all Ex.flat = true := by
  obtain ⟨⟨m, hr⟩, _⟩ := eO_rep h hn
  have hgd : GdO (eO cs n n) := runS_good (Good := GdO) goodO (s := TO.z) (by trivial) hr
  unfold stN
  generalize eO cs n n = q at hgd
  cases q with
  | z => rfl
  | s _ _ _ _ => exact hgd
  | b _ _ _ _ _ _ => exact hgd.1
theorem st_ok (h : okP cs n n) (h1 : 1 ≤ n) (hn : n < 999990) : okP (stN cs n) (lN cs n) (cpN cs n) ∧ flatP (pts (stN cs n) (lN cs n)) = RR cs n ∧ ∀ a k, sameE eqP a (stN cs n) k (lN cs n) = sameE eqP a (RR cs n) k (lN cs n) := by
  have hf := st_all h hn
  have hl := cnt_len cs n
  obtain ⟨_, h2, _, J, hJ⟩ := cell_rep h h1 hn
  have hJ' : stN cs n = flatP (cnt cs n).1.reverse ++ J := hJ
  have hlen : (cnt cs n).1.reverse.length = lN cs n := by rw [List.length_reverse]; rfl
  refine ⟨?_, ?_, fun a k => sameE_congr fun hk j hj => ?_⟩
  · rw [hJ', ← hlen]
    exact okP_app (by rw [← hJ']; exact hf) (by rw [List.length_reverse]; omega) (by rw [List.length_reverse]; exact h2)
  · rw [hJ', ← hlen, pts_app _ _ _ (Nat.le_refl _), List.take_length]; rfl
  · have hj' : j < (cnt cs n).1.reverse.length := by rw [hlen]; omega
    have e1 : pA (stN cs n) j = pA (RR cs n) j := by
      unfold pA RR
      rw [hJ', List.getElem?_append_left (by rw [flatP_len]; omega)]
    have e2 : pB (stN cs n) j = pB (RR cs n) j := by
      unfold pB RR
      rw [hJ', List.getElem?_append_left (by rw [flatP_len]; omega)]
    unfold eqP
    rw [e1, e2]
end
def rawF (ds : List Value) (m : Nat) : Prop := ds.all Ex.flat = true ∧ ds.length = m * 4 ∧ ∀ j, j < m → areCells k4 ds (0 + j * 4) = true
section
variable {f z zc zr : Bool} {cs ds rs : List Value} {n m k : Nat}
structure Way (f z zc zr : Bool) (cs ds rs : List Value) (n m k : Nat) : Prop where
  c : rawP cs n
  d : rawF ds m
  r : rawP rs k
  hn : n ≤ 20
  hm : m ≤ 20
  hk : k ≤ 20
  hz : z = true ↔ n = 0
  hzc : zc = true ↔ m = 0
  hzr : zr = true ↔ k = 0
theorem nf {f : Bool} (h : (!f) = false) : f = true := by
  cases f with
  | true => rfl
  | false => cases h
end
end Go.Proofs.YteemponkignnhaaGreat.Ways
