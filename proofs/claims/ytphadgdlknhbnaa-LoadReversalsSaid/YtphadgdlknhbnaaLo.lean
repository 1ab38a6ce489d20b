import Derived.Test.YtphadgdlknhbnaaLr3
noncomputable section
namespace Go.Proofs.Ytphadgdlknhbnaa.Ways
open Go Go.Ex Go.RowKit Go.Turn
def mk (g : Bool) (l : List (Nat × Nat)) : List (Nat × Nat) := cond g [] l
noncomputable def spT (g : Bool) : Nat → Nat → Split := at_ ([(3, 14), (3, 18), (3, 23), (3, 61)] ++ mk g [(3, 36), (3, 43), (3, 47)]) .bool (at_ (mk g [(3, 37)]) (.ints []) no_)
noncomputable def CT (g z zr : Bool) : Cfg := ⟨TB g z zr, spT g, off_, noL⟩
noncomputable def o3 (g z zr : Bool) (cs rs : List Value) (t s n t2 s2 m : Nat) (ex e2 : Bool) : Out QRes := execO Try.prog 3 (CT g z zr) 80 (.call 3 ⟨[sl 1 0 n n, sl 2 0 m m]⟩ (heapL (deads ++ [.cells cs t s ex, .cells rs t2 s2 e2])))
def lt : VT := .leaf (b_ true)
def lf : VT := .leaf (b_ false)
section
variable (cs rs : List Value) (n m : Nat)
def P11 (g z : Bool) : Prop := cond g (cond z (RzE cs n n) (RmE cs n n)) (RnoE cs n n)
def P13 (g : Bool) : Prop := cond g (LokE cs n n) (RnoE cs n n)
def P14 (z : Bool) : Prop := cond z (okI cs n n ∧ n = 0) (okI cs n n ∧ n ≠ 0 ∧ n < 1000000)
def P19 (zr : Bool) : Prop := cond zr (CzE rs m m) (CmE rs m m)
noncomputable def tailT (zr : Bool) : VT := aV (tru (P19 rs m zr)) <| cond zr (fun t => t) (aV (tru (BokE rs m m))) <| aV (tru (BokE rs m m)) <| .br (eqF (cond zr 0 (crE rs m)) (crE rs m)) lt lf
noncomputable def mainT (g z zr : Bool) : VT := aV (tru (okC cs n n)) <| aV (tru (P11 cs n g z)) <| aV (tru (P13 cs n g)) <| cond g (aV (tru (P14 cs n z))) (VT.br (eqF (clE cs n) 0) .fail) <| aV (tru (okC cs n n)) <| aV (tru (P13 cs n g)) <|
  cond g (fun t => t) (fun t => .br (eqF (clE cs n) (clE cs n)) (.br (eqF (clE cs n) (clE cs n)) t lf) lf) <|
  cond (g && !z) (fun t => aV (tru (CmE (flatP (rvI cs n)) (rvI cs n).length (rvI cs n).length)) <| aV (tru (SbE (flatP (rvI cs n)) (flatP (rvI cs n)) (rvI cs n).length (rvI cs n).length (rvI cs n).length (rvI cs n).length)) t) (fun t => t) <| tailT rs m zr
noncomputable def lawT (g z zr : Bool) : VT := .br (ltF 40 n) (.br (!eqF n 40001) lt (.br (leF m 20) (mainT cs rs n m g z zr) lt)) (.br (leF m 20) (mainT cs rs n m g z zr) lt)
variable (t s t2 s2 : Nat) (ex e2 : Bool)
theorem w3 : ∀ g z zr, (o3 g z zr cs rs t s n t2 s2 m ex e2).vals = lawT cs rs n m g z zr
  | true, true, true => by kernel_rfl
  | true, true, false => by kernel_rfl
  | true, false, true => by kernel_rfl
  | true, false, false => by kernel_rfl
  | false, true, true => by kernel_rfl
  | false, true, false => by kernel_rfl
  | false, false, true => by kernel_rfl
  | false, false, false => by kernel_rfl
theorem y3 : ∀ g z zr, o3 g z zr cs rs t s n t2 s2 m ex e2 = (o3 g z zr cs rs t s n t2 s2 m ex e2).fix
  | true, true, true => by kernel_rfl
  | true, true, false => by kernel_rfl
  | true, false, true => by kernel_rfl
  | true, false, false => by kernel_rfl
  | false, true, true => by kernel_rfl
  | false, true, false => by kernel_rfl
  | false, false, true => by kernel_rfl
  | false, false, false => by kernel_rfl
end
def rawI (cs : List Value) (n : Nat) : Prop := cs.all Ex.flat = true ∧ cs.length = n ∧ ∀ j, j < n → isCellB (.i .i64) cs[0 + j * 1]? = true
def rawP (rs : List Value) (m : Nat) : Prop := rs.all Ex.flat = true ∧ rs.length = m * 2 ∧ ∀ j, j < m → areCells k2 rs (0 + j * 2) = true
theorem aP {P : Prop} {t : VT} (h : P) : (aV (tru P) t).sel = t.sel := aV_sel (tru_iff.2 h)
theorem rvI_len (cs : List Value) (n : Nat) : (rvI cs n).length ≤ n := by
  have h1 : rvI cs n = RV (flatP (ipts cs n)) n := by
    have := RV_flat (ipts cs n)
    rw [ipts_len] at this
    exact this.symm
  rw [h1, ← fp_RV, List.length_reverse]
  exact fp_len _ _
theorem rvI_pos {cs : List Value} {n : Nat} (h : n ≠ 0) : 1 ≤ (rvI cs n).length := by
  have h1 : rvI cs n = RV (flatP (ipts cs n)) n := by
    have := RV_flat (ipts cs n)
    rw [ipts_len] at this
    exact this.symm
  obtain ⟨k, rfl⟩ : ∃ k, n = k + 1 := ⟨n - 1, by omega⟩
  rw [h1, ← fp_RV, fp_succ]
  obtain ⟨q, o, hq⟩ := ps_cons (fp (flatP (ipts cs (k + 1))) k) (pA (flatP (ipts cs (k + 1))) k, pB (flatP (ipts cs (k + 1))) k)
  rw [hq, List.length_reverse]
  simp
theorem eqP_self (a : List Value) (j : Nat) : eqP a a j = true := by
  unfold eqP
  rw [beq_self_eq_true, beq_self_eq_true]; rfl
theorem main_sel {cs rs : List Value} {n m : Nat} (hc : rawI cs n) (hr : rawP rs m) (hn : n ≤ 40001) (hm : m ≤ 20) {g z zr : Bool} (hg : g = true ↔ clE cs n = 0) (hz : z = true ↔ n = 0) (hzr : zr = true ↔ m = 0) : (mainT cs rs n m g z zr).sel = some (b_ true) := by
  have ng : g = false → clE cs n ≠ 0 := fun h h0 => by rw [hg.2 h0] at h; cases h
  have nz : z = false → n ≠ 0 := fun h h0 => by rw [hz.2 h0] at h; cases h
  have nr : zr = false → m ≠ 0 := fun h h0 => by rw [hzr.2 h0] at h; cases h
  have ci : okI cs n n := ⟨hc.1, Nat.le_refl n, by omega, hc.2.2⟩
  have cc : okC cs n n := ⟨ci, hc.2.1, by omega⟩
  have rp : okP rs m m := ⟨hr.1, Nat.le_refl m, by omega, hr.2.2⟩
  have rb : BokE rs m m := ⟨rp, by omega⟩
  have w11 : P11 cs n g z := by
    cases g with
    | false => exact ⟨ci, ng rfl⟩
    | true =>
      cases z with
      | true => exact ⟨⟨ci, hz.1 rfl⟩, hg.1 rfl⟩
      | false => exact ⟨⟨ci, nz rfl, by omega⟩, hg.1 rfl⟩
  have w13 : P13 cs n g := by
    cases g with
    | false => exact ⟨ci, ng rfl⟩
    | true => exact ⟨ci, hg.1 rfl⟩
  have w14 : P14 cs n z := by
    cases z with
    | true => exact ⟨ci, hz.1 rfl⟩
    | false => exact ⟨ci, nz rfl, by omega⟩
  have w19 : P19 rs m zr := by
    cases zr with
    | true => exact ⟨rp, hzr.1 rfl⟩
    | false => exact ⟨⟨rp, by have := nr rfl; omega, by omega⟩, hr.2.1⟩
  have htail : (tailT rs m zr).sel = some (b_ true) := by
    unfold tailT
    rw [aP w19]
    cases zr with
    | true =>
      have h0 := hzr.1 rfl
      show (aV (tru (BokE rs m m)) _).sel = _
      rw [aP rb]
      show (VT.br (eqF 0 (crE rs m)) lt lf).sel = _
      have hcr : crE rs m = 0 := by rw [h0]; rfl
      rw [hcr]; rfl
    | false =>
      show (aV (tru (BokE rs m m)) (aV (tru (BokE rs m m)) _)).sel = _
      rw [aP rb, aP rb]
      show (VT.br (eqF (crE rs m) (crE rs m)) lt lf).sel = _
      rw [vb_t (by rw [eqF_d, decide_eq_true rfl])]; rfl
  have hl := rvI_len cs n
  have hF : okP (flatP (rvI cs n)) (rvI cs n).length (rvI cs n).length := okP_flat (by omega)
  unfold mainT
  rw [aP cc, aP w11, aP w13]
  cases g with
  | false =>
    have hne := ng rfl
    show (VT.br (eqF (clE cs n) 0) .fail _).sel = _
    rw [vb_f (by rw [eqF_d, decide_eq_false hne]), aP cc, aP w13]
    show (VT.br (eqF (clE cs n) (clE cs n)) (.br (eqF (clE cs n) (clE cs n)) (tailT rs m zr) lf) lf).sel = _
    rw [vb_t (by rw [eqF_d, decide_eq_true rfl]), vb_t (by rw [eqF_d, decide_eq_true rfl]), htail]
  | true =>
    show (aV (tru (P14 cs n z)) _).sel = _
    rw [aP w14, aP cc, aP w13]
    cases z with
    | true => exact htail
    | false =>
      show (aV (tru (CmE (flatP (rvI cs n)) (rvI cs n).length (rvI cs n).length)) (aV (tru (SbE (flatP (rvI cs n)) (flatP (rvI cs n)) (rvI cs n).length (rvI cs n).length (rvI cs n).length (rvI cs n).length)) (tailT rs m zr))).sel = _
      rw [aP ⟨⟨hF, rvI_pos (nz rfl), by omega⟩, flatP_len _⟩, aP ⟨hF, hF, rfl, by omega, fun j _ => eqP_self _ j⟩, htail]
theorem law_sel {cs rs : List Value} {n m : Nat} (hc : rawI cs n) (hr : rawP rs m) {g z zr : Bool} (hg : g = true ↔ clE cs n = 0) (hz : z = true ↔ n = 0) (hzr : zr = true ↔ m = 0) : (lawT cs rs n m g z zr).sel = some (b_ true) := by
  have hM : n ≤ 40001 → (VT.br (leF m 20) (mainT cs rs n m g z zr) lt).sel = some (b_ true) := fun hn => by
    by_cases hm : m ≤ 20
    · rw [vb_t (by rw [leF_eq]; exact decide_eq_true (by omega))]
      exact main_sel hc hr hn hm hg hz hzr
    · rw [vb_f (by rw [leF_eq]; exact decide_eq_false (by omega))]; rfl
  unfold lawT
  by_cases h1 : 40 < n
  · rw [vb_t (by rw [ltF_eq]; exact decide_eq_true (by omega))]
    by_cases h2 : n = 40001
    · rw [vb_f (by rw [eqF_d, decide_eq_true (by omega)]; rfl)]
      exact hM (by omega)
    · rw [vb_t (by rw [eqF_d, decide_eq_false (by omega)]; rfl)]; rfl
  · rw [vb_f (by rw [ltF_eq]; exact decide_eq_false (by omega))]
    exact hM (by omega)
theorem law_true (haw : Pure Try.prog Hd 9 [] (b_ true)) {cs rs : List Value} {n m t s t2 s2 : Nat} {ex e2 : Bool} (hc : rawI cs n) (hr : rawP rs m) :
    ∃ H', Sound Try.prog 3 (.call 3 ⟨[sl 1 0 n n, sl 2 0 m m]⟩ (heapL (deads ++ [.cells cs t s ex, .cells rs t2 s2 e2]))) (.val (b_ true) H') := by
  obtain ⟨H', h'⟩ := Out.vals_sel (y3 cs rs n m t s t2 s2 ex e2 (decide (clE cs n = 0)) (decide (n = 0)) (decide (m = 0))) (v := b_ true) (by
    rw [w3]
    exact law_sel hc hr (by simp) (by simp) (by simp))
  exact ⟨H', execO_sound (C := CT _ _ _) (tsB haw _ _ _) .none 80 _ _ h'⟩
end Go.Proofs.Ytphadgdlknhbnaa.Ways
