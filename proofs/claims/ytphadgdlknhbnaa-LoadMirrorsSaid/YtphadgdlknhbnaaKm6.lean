import Derived.Test.YtphadgdlknhbnaaKm1
import Derived.Test.YtphadgdlknhbnaaZz1
set_option maxRecDepth 10000
noncomputable section
namespace Go.Proofs.Ytphadgdlknhbnaa.Ways
open Go Go.Ex Go.RowKit Go.Turn Go.Ex.Dia
def lstI (g : Nat → Int) (n : Nat) : List Value := (List.range n).map fun j => i (g j)
theorem lst_len (g : Nat → Int) (n : Nat) : (lstI g n).length = n := by unfold lstI; simp
theorem lst_succ (g : Nat → Int) (n : Nat) : lstI g (n + 1) = lstI g n ++ [i (g n)] := by unfold lstI; rw [List.range_succ, List.map_append]; rfl
theorem lst_get {g : Nat → Int} {n j : Nat} (h : j < n) : (lstI g n)[0 + j * 1]? = some (i (g j)) := by
  rw [show 0 + j * 1 = j from by omega]
  unfold lstI
  rw [List.getElem?_map, List.getElem?_range h]; rfl
theorem eI_lst {g : Nat → Int} {n j : Nat} (h : j < n) : eI (lstI g n) j = g j := by unfold eI; rw [lst_get h]; rfl
theorem lst_flat (g : Nat → Int) (n : Nat) : (lstI g n).all Ex.flat = true := by
  refine List.all_eq_true.2 fun x hx => ?_
  unfold lstI at hx
  obtain ⟨j, _, rfl⟩ := List.mem_map.1 hx
  rfl
theorem lst_okI {g : Nat → Int} {n : Nat} (h : n < 1000000) : okI (lstI g n) n n := ⟨lst_flat g n, Nat.le_refl _, by omega, fun j hj => by rw [lst_get hj]; rfl⟩
theorem cl_zero {cs : List Value} {n : Nat} (hn : n ≤ 40000) (h : ∀ j, j < n → -32768 ≤ eI cs j ∧ eI cs j ≤ 32768) : clE cs n = 0 := by
  unfold clE
  rw [if_neg (by omega)]
  exact firstF_zr.2 fun j hj => if_pos (h j hj)
theorem lst_fx {g : Nat → Int} {n : Nat} (h1 : 1 ≤ n) (h2 : n ≤ 24) (h : ∀ j, j < n → -32768 ≤ g j ∧ g j ≤ 32768) : Fx (lstI g n) n 0 :=
  ⟨lst_okI (by omega), lst_len g n, h1, h2, cl_zero (by omega) fun j hj => by rw [eI_lst hj]; exact h j hj, by omega⟩
def smM (cs : List Value) (j : Nat) : Prop := -16384 ≤ eI cs j ∧ eI cs j ≤ 16384
section
variable {cs : List Value} {n : Nat}
theorem bkM_eq {j : Nat} (hj : j < n) (hn : n < 1000000) : bkM n (j : Int) = ((n - 1 - j : Nat) : Int) := by
  unfold bkM
  rw [wrapF_in (n := ((n : Int) - 1)) (by omega) (by omega), wrapF_in (by omega) (by omega)]; omega
theorem ngI_eq {x : Int} (h : -40000 ≤ x ∧ x ≤ 40000) : ngI x = -x := by
  unfold ngI
  rw [IntKind.wrap_i64]; omega
theorem dbI_eq {x : Int} (h : -40000 ≤ x ∧ x ≤ 40000) : dbI x = 2 * x := by
  unfold dbI
  rw [wrapF_in (by omega) (by omega)]
def gB (cs : List Value) (n j : Nat) : Int := eI cs (n - 1 - j)
def gU (cs : List Value) (j : Nat) : Int := ngM cs (j : Int)
def gD (cs : List Value) (j : Nat) : Int := dbM cs (j : Int)
def qM (cs : List Value) (n : Nat) : Nat → KM
  | 0 => .z
  | j + 1 => .m ((j + 1 : Nat) : Int) (j + 1) (lstI (gB cs n) (j + 1)) (lstI (gU cs) (j + 1)) (lstI (gD cs) (j + 1))
theorem fl1_t {l : Nat} {b : List Value} (h : b.length = l) (hl : l < 1000000) : fl1 l b = true := by
  unfold fl1
  rw [decide_eq_true rfl, decide_eq_true (by omega), decide_eq_true (by omega)]; rfl
theorem cB_t {cs : List Value} {n c j : Nat} (h : okI cs n c) (hj : j < n) : cB cs (.i .i64) (j : Int) = true := h.2.2.2 j hj
theorem stM_go (h : okI cs n n) (hn : n < 1000000) {j : Nat} (hj : j < n) (hs : smM cs j) : (stM cs n (qM cs n j)).sel = some (.inl (qM cs n (j + 1))) := by
  have hb := bkM_eq hj hn
  cases j with
  | zero =>
    have hb : bkM n 0 = ((n - 1 - 0 : Nat) : Int) := hb
    have hs : -16384 ≤ eI cs 0 ∧ eI cs 0 ≤ 16384 := hs
    show (stM cs n .z).sel = _
    unfold stM
    rw [hb, br_t (by rw [ltF_eq]; exact decide_eq_true (by omega)), askS_sel (show bnd_ 0 n n = true from bnd_t (j := 0) hj (Nat.le_refl _)), askS_sel (show cB cs (.i .i64) 0 = true from cB_t h hj), br_f (by rw [ltF_eq]; exact decide_eq_false (by omega)), br_f (by rw [ltF_eq]; exact decide_eq_false (by omega)),
      askS_sel (bnd_t (by omega) (Nat.le_refl _)), askS_sel (cB_t h (by omega))]; rfl
  | succ j =>
    have hs : -16384 ≤ eI cs (j + 1) ∧ eI cs (j + 1) ≤ 16384 := hs
    show (stM cs n (.m ((j + 1 : Nat) : Int) (j + 1) _ _ _)).sel = _
    unfold stM
    dsimp only
    rw [hb, show (((j + 1 : Nat) : Int)).toNat = j + 1 from rfl, br_t (by rw [ltF_eq]; exact decide_eq_true (by omega)), askS_sel (bnd_t hj (Nat.le_refl _)), askS_sel (cB_t h hj), br_f (by rw [ltF_eq]; exact decide_eq_false (by omega)), br_f (by rw [ltF_eq]; exact decide_eq_false (by omega)),
      askS_sel (bnd_t (by omega) (Nat.le_refl _)), askS_sel (cB_t h (by omega)), askS_sel (fl1_t (lst_len _ _) (by omega)), askS_sel (fl1_t (lst_len _ _) (by omega)), askS_sel (fl1_t (lst_len _ _) (by omega)), wsucc (by omega)]
    show some (Sum.inl (KM.m ((j + 1 + 1 : Nat) : Int) (j + 1 + 1) (lstI (gB cs n) (j + 1) ++ [i (gB cs n (j + 1))]) (lstI (gU cs) (j + 1) ++ [i (gU cs (j + 1))]) (lstI (gD cs) (j + 1) ++ [i (gD cs (j + 1))]))) = _
    rw [← lst_succ, ← lst_succ, ← lst_succ]; rfl
theorem stM_out (h : okI cs n n) (hn : n < 1000000) {j : Nat} (hj : j < n) (hs : ¬ smM cs j) : (stM cs n (qM cs n j)).sel = some (.inr 1) := by
  cases j with
  | zero =>
    have hs : ¬ (-16384 ≤ eI cs 0 ∧ eI cs 0 ≤ 16384) := hs
    show (stM cs n .z).sel = _
    unfold stM
    rw [br_t (by rw [ltF_eq]; exact decide_eq_true (by omega)), askS_sel (show bnd_ 0 n n = true from bnd_t (j := 0) hj (Nat.le_refl _)), askS_sel (show cB cs (.i .i64) 0 = true from cB_t h hj)]
    by_cases h1 : 16384 < eI cs 0
    · rw [br_t (by rw [ltF_eq]; exact decide_eq_true h1)]; rfl
    · rw [br_f (by rw [ltF_eq]; exact decide_eq_false h1), br_t (by rw [ltF_eq]; exact decide_eq_true (by omega))]; rfl
  | succ j =>
    have hs : ¬ (-16384 ≤ eI cs (j + 1) ∧ eI cs (j + 1) ≤ 16384) := hs
    show (stM cs n (.m ((j + 1 : Nat) : Int) (j + 1) _ _ _)).sel = _
    unfold stM
    dsimp only
    rw [show (((j + 1 : Nat) : Int)).toNat = j + 1 from rfl, br_t (by rw [ltF_eq]; exact decide_eq_true (by omega)), askS_sel (bnd_t hj (Nat.le_refl _)), askS_sel (cB_t h hj)]
    by_cases h1 : 16384 < eI cs (j + 1)
    · rw [br_t (by rw [ltF_eq]; exact decide_eq_true h1)]; rfl
    · rw [br_f (by rw [ltF_eq]; exact decide_eq_false h1), br_t (by rw [ltF_eq]; exact decide_eq_true (by omega))]; rfl
theorem stM_end {j : Nat} (hj : j = n) : (stM cs n (qM cs n j)).sel = some (.inr 0) := by
  subst hj
  cases j with
  | zero => rfl
  | succ j =>
    show (stM cs (j + 1) (.m ((j + 1 : Nat) : Int) (j + 1) _ _ _)).sel = _
    unfold stM
    dsimp only
    rw [br_f (by rw [ltF_eq]; simp)]; rfl
theorem runM_all (h : okI cs n n) (hn : n < 1000000) (hs : ∀ j, j < n → smM cs j) : runS (stM cs n) (n + 1) .z = some (0, qM cs n n) :=
  run_all (step := stM cs n) (st := qM cs n) (a := 0) n (fun j hj => stM_go h hn hj (hs j hj)) (stM_end rfl)
theorem runM_out (h : okI cs n n) (hn : n < 1000000) (hs : ¬ ∀ j, j < n → smM cs j) : ∃ q, runS (stM cs n) (n + 1) .z = some (1, q) := by
  have hd : ∀ j, ¬ smM cs j → @ite Int (smM cs j) (Classical.propDecidable _) 0 1 = 1 := fun j h => if_neg h
  obtain ⟨r, h3, h4⟩ := run_first (step := stM cs n) (e := fun j => @ite Int (smM cs j) (Classical.propDecidable _) 0 1) (st := qM cs n) (a := 0) (b := fun _ => 1) n (fun j hj he => stM_go h hn hj (Classical.byContradiction fun hh => by rw [hd j hh] at he; cases he))
    (fun _ hj he => stM_out h hn hj (fun hh => he (if_pos hh))) (stM_end rfl)
  rcases h4 with ⟨g1, rfl⟩ | ⟨g1, j, _, rfl, _, _⟩
  · refine absurd (fun j hj => ?_) hs
    have := firstF_zr.1 g1 j hj
    exact Classical.byContradiction fun hh => by rw [hd j hh] at this; cases this
  · exact ⟨_, h3⟩
end
end Go.Proofs.Ytphadgdlknhbnaa.Ways
set_option maxRecDepth 10000
noncomputable section
namespace Go.Proofs.Ytphadgdlknhbnaa.Ways
open Go Go.Ex Go.RowKit Go.Turn Go.Ex.Dia
theorem sc_eq (cs : List Value) (n : Nat) : SS_ cs n = (cntR ((ipts cs n).foldl ps [])).1 ∧ CC_ cs n = (cntR ((ipts cs n).foldl ps [])).2 := by
  unfold SS_ CC_
  rw [cnt_rv, rvI_rev]
  exact ⟨rfl, rfl⟩
section
variable {cs : List Value} {n : Nat}
theorem ipts_gp {f : Int → Int} {g : Nat → Int} (h : ∀ j, j < n → g j = f (eI cs j)) : ∀ j, j ≤ n → ipts (lstI g n) j = (ipts cs j).map (gp f)
  | 0, _ => rfl
  | j + 1, hj => by
    show ipts (lstI g n) j ++ [((j : Int), eI (lstI g n) j)] = (ipts cs j ++ [((j : Int), eI cs j)]).map (gp f)
    rw [ipts_gp h j (by omega), eI_lst (by omega), h j (by omega), List.map_append]; rfl
theorem ipts_mem {p : Pt} : ∀ {j : Nat}, p ∈ ipts cs j → ∃ k, k < j ∧ p = ((k : Int), eI cs k)
  | 0, h => by cases h
  | j + 1, h => by
    rcases List.mem_append.1 (show p ∈ ipts cs j ++ [((j : Int), eI cs j)] from h) with h | h
    · obtain ⟨k, h1, h2⟩ := ipts_mem h
      exact ⟨k, by omega, h2⟩
    · exact ⟨j, by omega, List.mem_singleton.1 h⟩
theorem fold_mem {p : Pt} : ∀ {l D : List Pt}, p ∈ l.foldl ps D → p ∈ l ∨ p ∈ D
  | [], _, h => .inr h
  | q :: l, D, h => by
    rcases fold_mem (l := l) (D := ps D q) h with h | h
    · exact .inl (List.mem_cons_of_mem _ h)
    · rcases ps_mem h with h | h
      · exact .inl (by rw [h]; exact List.mem_cons_self ..)
      · exact .inr h
theorem Fx.rev' (h : Fx cs n 0) : Rev ((ipts cs n).foldl ps []) := by
  have := h.rev
  rwa [rvI_rev] at this
theorem map_cnt {f : Int → Int} (hf : MpF f) {g : Nat → Int} (h : Fx cs n 0) (hg : ∀ j, j < n → g j = f (eI cs j)) (hb : ∀ j, j < n → -32768 ≤ f (eI cs j) ∧ f (eI cs j) ≤ 32768) :
    SS_ (lstI g n) n = (SS_ cs n).map (gp f) ∧ CC_ (lstI g n) n = (CC_ cs n).map (gc f) := by
  obtain ⟨e1, e2⟩ := sc_eq (lstI g n) n
  obtain ⟨e3, e4⟩ := sc_eq cs n
  have key := cnt_gp hf h.rev' (fun x hx => by
    rcases fold_mem hx with hx | hx
    · obtain ⟨k, hk, rfl⟩ := ipts_mem hx
      have := hb k hk
      have := h.n24
      exact ⟨by show (0 : Int) ≤ (k : Int); omega, by show ((k : Nat) : Int) ≤ 39999; omega, hb k hk⟩
    · cases hx)
  rw [e1, e2, e3, e4, ipts_gp hg n (Nat.le_refl _), show ((ipts cs n).map (gp f)).foldl ps [] = ((ipts cs n).foldl ps []).map (gp f) from fold_gp hf _ [], key]
  exact ⟨rfl, rfl⟩
theorem vls_ipts : ∀ j, vls (ipts cs j) = (List.range j).map (eI cs)
  | 0 => rfl
  | j + 1 => by
    show (ipts cs j ++ [((j : Int), eI cs j)]).map (·.2) = _
    rw [List.map_append, List.range_succ, List.map_append, ← vls_ipts j]; rfl
theorem vls_back : vls (ipts (lstI (gB cs n) n) n) = (vls (ipts cs n)).reverse := by
  rw [vls_ipts, vls_ipts]
  refine List.ext_getElem (by simp) fun j h1 h2 => ?_
  have hj : j < n := by simpa using h1
  rw [List.getElem_map, List.getElem_range, eI_lst hj, List.getElem_reverse, List.getElem_map, List.getElem_range]
  unfold gB
  simp
theorem Fx.full (h : Fx cs n 0) : Red (vls (ipts cs n)).reverse (cvs (CC_ cs n)) (vls (SS_ cs n)) ∧ NF (vls (SS_ cs n)) := by
  obtain ⟨e3, e4⟩ := sc_eq cs n
  rw [e3, e4]
  exact Ways.full h.rev'
theorem back_cnt (h : Fx cs n 0) (hB : Fx (lstI (gB cs n) n) n 0) : vls (SS_ (lstI (gB cs n) n) n) = (vls (SS_ cs n)).reverse ∧ (cvs (CC_ (lstI (gB cs n) n) n)).Perm (cvs (CC_ cs n)) := by
  obtain ⟨h1, h2⟩ := h.full
  obtain ⟨h3, h4⟩ := hB.full
  rw [vls_back] at h3
  exact h3.uniq h4 h1.rev h2.rev
theorem prs_cvs (C : List Cy) : ∀ j, j ≤ C.length → prsV (flatC C) j = (cvs C).take j
  | 0, _ => rfl
  | j + 1, hj => by
    obtain ⟨_, _, f2, f3⟩ := f_fl (C := C) (j := j) (by omega)
    show prsV (flatC C) j ++ [(f_ (flatC C) (j : Int).toNat 2, f_ (flatC C) (j : Int).toNat 3)] = _
    rw [prs_cvs C j (by omega), show ((j : Nat) : Int).toNat = j from rfl, f2, f3, List.take_add_one, List.getElem?_eq_getElem (show j < (cvs C).length by unfold cvs; rw [List.length_map]; omega)]
    congr 1
    unfold cvs
    rw [List.getElem_map]
    show [(minQ _ _, maxQ _ _)] = [_]
    congr 1
    refine Prod.ext ?_ ?_
    · show (if _ then _ else _) = _
      split <;> omega
    · show (if _ then _ else _) = _
      split <;> omega
theorem so_cvs (C : List Cy) : soV (flatC C) C.length = Ins.sort (cvs C) := by
  unfold soV
  rw [prs_cvs C _ (Nat.le_refl _), List.take_of_length_le (by unfold cvs; simp)]
theorem same_refl {eq : List Value → List Value → Nat → Bool} {a : List Value} {n : Nat} (he : ∀ j, j < n → eq a a j = true) : sameE eq a a n n = true := by
  unfold sameE
  rw [decide_eq_true rfl, show firstF (fun j => cond (eq a a j) 0 1) n 0 = 0 from firstF_zr.2 fun j hj => by rw [he j hj]; rfl]; rfl
theorem eqP_refl (a : List Value) (j : Nat) : eqP a a j = true := by
  unfold eqP
  simp
theorem vals_same {A C : List Cy} (h : (cvs A).Perm (cvs C)) : A.length = C.length ∧ sameE eqP (flatP (soV (flatC A) A.length).reverse) (flatP (soV (flatC C) C.length).reverse) A.length C.length = true := by
  have hl : A.length = C.length := by
    have := h.length_eq
    unfold cvs at this
    simpa using this
  refine ⟨hl, ?_⟩
  rw [so_cvs, so_cvs, Ins.perm_sort h, hl]
  exact same_refl fun j _ => eqP_refl _ j
end
end Go.Proofs.Ytphadgdlknhbnaa.Ways
set_option maxRecDepth 10000
noncomputable section
namespace Go.Proofs.Ytphadgdlknhbnaa.Ways
open Go Go.Ex Go.RowKit Go.Turn Go.Ex.Dia
theorem rev_fold : ∀ (X D : List Pt), Rev D → (∀ p ∈ X, Bd p) → X.Pairwise (fun a b => a.1 < b.1) → (∀ x ∈ D, ∀ p ∈ X, x.1 < p.1) → Rev (X.foldl ps D)
  | [], D, h, _, _, _ => h
  | p :: X, D, h, hb, hx, hd => by
    refine rev_fold X (ps D p) (ps_rev h (hb p (List.mem_cons_self ..)) (fun x hxD => hd x hxD p (List.mem_cons_self ..))) (fun q hq => hb q (List.mem_cons_of_mem _ hq)) (List.pairwise_cons.1 hx).2 fun x hx' q hq => ?_
    rcases ps_mem hx' with rfl | h'
    · exact (List.pairwise_cons.1 hx).1 q hq
    · exact hd x h' q (List.mem_cons_of_mem _ hq)
theorem eJ_zero {X : List Pt} (hb : ∀ p ∈ X, 0 ≤ p.1 ∧ p.1 ≤ 39999) (hx : X.Pairwise (fun a b => a.1 < b.1)) : eJ X = 0 := by
  have h1 : firstF (eIx (flatP X)) X.length 0 = 0 := firstF_zr.2 fun j hj => by
    unfold eIx
    rw [pA_fl hj]
    exact if_pos (hb _ (List.getElem_mem hj))
  have h2 : firstF (eOr (-1) (flatP X)) X.length 0 = 0 := firstF_zr.2 fun j hj => by
    unfold eOr pvA orE
    rw [pA_fl hj]
    have hj0 := (hb _ (List.getElem_mem hj)).1
    by_cases h : j = 0
    · rw [if_pos h, ltF_eq, decide_eq_true (by omega)]; rfl
    · rw [if_neg h, pA_fl (by omega), ltF_eq, decide_eq_true (List.pairwise_iff_getElem.1 hx (j - 1) j (by omega) hj (by omega))]; rfl
  unfold eJ
  rw [h1, h2]; rfl
section
variable {cs : List Value} {n : Nat}
theorem Fx.at_lt (h : Fx cs n 0) {p : Pt} (hp : p ∈ SS_ cs n) : 0 ≤ p.1 ∧ p.1 < n ∧ -32768 ≤ p.2 ∧ p.2 ≤ 32768 := by
  have h1 := h.memS hp
  have h2 : p ∈ (ipts cs n).foldl ps [] := by
    have e : (rvI cs n).reverse = (ipts cs n).foldl ps [] := rvI_rev cs n
    rw [← e]; exact List.mem_reverse.2 h1
  have h3 := h.bd h1
  rcases fold_mem h2 with h4 | h4
  · obtain ⟨k, hk, rfl⟩ := ipts_mem h4
    exact ⟨h3.1, by show ((k : Nat) : Int) < (n : Int); omega, h3.2.2⟩
  · cases h4
theorem Fx.up (h : Fx cs n 0) : (SS_ cs n).reverse.Pairwise (fun a b => a.1 < b.1) := List.pairwise_reverse.2 h.srev.dn
noncomputable def clX (cs : List Value) (n : Nat) : List Pt := JE (DS_ cs n) (DS_ cs n) (LD_ cs n - 1) (LD_ cs n - 1) (dJ (DS_ cs n) (LD_ cs n - 1))
theorem clX_facts (h : Fx cs n 0) (h2 : 2 ≤ LD_ cs n) : (∀ p ∈ clX cs n, Bd p) ∧ (clX cs n).Pairwise (fun a b => a.1 < b.1) ∧ vls (clX cs n) = (vls (SS_ cs n)).reverse ++ (vls (SS_ cs n)).reverse := by
  have hst := h.st.2
  have hl : (SS_ cs n).reverse.length = LD_ cs n := by rw [List.length_reverse]; rfl
  have hn := h.n24
  have hm : LD_ cs n - 1 + 1 = LD_ cs n := by omega
  have hup := h.up
  have hat : ∀ p ∈ (SS_ cs n).reverse, 0 ≤ p.1 ∧ p.1 < n ∧ -32768 ≤ p.2 ∧ p.2 ≤ 32768 := fun p hp => h.at_lt (List.mem_reverse.1 hp)
  unfold clX
  rw [hst]
  generalize hR : (SS_ cs n).reverse = R at hup hat hl
  have hvR : vls R = (vls (SS_ cs n)).reverse := by
    unfold vls
    rw [← hR, List.map_reverse]
  have h0 := hat _ (List.getElem_mem (show 0 < R.length by omega))
  have h1 := hat _ (List.getElem_mem (show LD_ cs n - 1 < R.length by omega))
  have hd : dJ (flatP R) (LD_ cs n - 1) = (R[LD_ cs n - 1]'(by omega)).1 - (R[0]'(by omega)).1 + 1 := by
    unfold dJ sh29
    rw [show ((LD_ cs n - 1 : Nat) : Int).toNat = LD_ cs n - 1 from rfl, pA_fl (show LD_ cs n - 1 < R.length by omega), pA_fl (show 0 < R.length by omega), wrapF_in (n := _ - _) (by omega) (by omega), wrapF_in (by omega) (by omega)]
  have hle : ∀ p ∈ R, (R[0]'(by omega)).1 ≤ p.1 ∧ p.1 ≤ (R[LD_ cs n - 1]'(by omega)).1 := by
    intro p hp
    obtain ⟨k, hk, rfl⟩ := List.getElem_of_mem hp
    have g := List.pairwise_iff_getElem.1 hup
    constructor
    · by_cases hk0 : k = 0
      · subst hk0; exact Int.le_refl _
      · have := g 0 k (by omega) hk (by omega); omega
    · by_cases hk0 : k = LD_ cs n - 1
      · subst hk0; exact Int.le_refl _
      · have := g k (LD_ cs n - 1) hk (by omega) (by omega); omega
  have hpts : pts (flatP R) (LD_ cs n - 1 + 1) = R := by rw [pts_flat _ _ (by omega), List.take_of_length_le (by omega)]
  have hsh : ∀ p ∈ R, shP (dJ (flatP R) (LD_ cs n - 1)) p = (p.1 + dJ (flatP R) (LD_ cs n - 1), p.2) := fun p hp => by
    have := hat p hp
    unfold shP
    rw [hd, wrapF_in (by omega) (by omega)]
  unfold JE
  rw [hpts]
  have hmap : R.map (shP (dJ (flatP R) (LD_ cs n - 1))) = R.map fun p => (p.1 + dJ (flatP R) (LD_ cs n - 1), p.2) := List.map_congr_left hsh
  rw [hmap]
  refine ⟨fun p hp => ?_, List.pairwise_append.2 ⟨hup, ?_, fun a ha b hb => ?_⟩, ?_⟩
  · rcases List.mem_append.1 hp with hp | hp
    · have := hat p hp
      exact ⟨by omega, by omega, this.2.2⟩
    · obtain ⟨q, hq, rfl⟩ := List.mem_map.1 hp
      have h3 := hat q hq
      have h4 := hle q hq
      refine ⟨?_, ?_, h3.2.2⟩
      · show 0 ≤ q.1 + _; omega
      · show q.1 + _ ≤ 39999; omega
  · refine List.pairwise_map.2 (hup.imp fun {a b} hab => ?_)
    show a.1 + _ < b.1 + _
    omega
  · obtain ⟨q, hq, rfl⟩ := List.mem_map.1 hb
    have h3 := hle a ha
    have h4 := hle q hq
    show a.1 < q.1 + _
    omega
  · rw [← hvR]
    unfold vls
    rw [List.map_append, List.map_map]; rfl
theorem cyK_eq (cs : List Value) (n : Nat) : CyK cs n = (cntR ((clX cs n).foldl ps [])).2 := by
  unfold CyK CJ XJ
  rw [cnt_R, pts_flat _ _ (Nat.le_refl _), List.take_length, RV_flat, List.reverse_reverse, ← Turn.same]; rfl
theorem mem_vls {P : List Pt} {x : Int} (h : x ∈ vls P) : ∃ p ∈ P, p.2 = x := by
  unfold vls at h
  obtain ⟨p, h1, h2⟩ := List.mem_map.1 h
  exact ⟨p, h1, h2⟩
theorem gr_ends {P : List Pt} (hb : ∀ p ∈ P, Bd p) (hne : P ≠ []) : ∃ m M : Int, m ∈ vls P ∧ M ∈ vls P ∧ (∀ x ∈ vls P, m ≤ x ∧ x ≤ M) ∧ grE (flatP P) P.length = M - m := by
  obtain ⟨n, hn⟩ : ∃ n, P.length = n + 1 := ⟨P.length - 1, by have := List.length_pos_iff.2 hne; omega⟩
  obtain ⟨j1, h1, g1⟩ := fo_mem (cs := lds (flatP P) P.length) (f := mxI) (fun a b => by unfold mxI; split <;> simp) n
  obtain ⟨j2, h2, g2⟩ := fo_mem (cs := lds (flatP P) P.length) (f := mnI) (fun a b => by unfold mnI; split <;> simp) n
  have b1 : eI (lds (flatP P) P.length) j1 = (P[j1]'(by omega)).2 := by rw [eI_lds (by omega), pB_fl (by omega)]
  have b2 : eI (lds (flatP P) P.length) j2 = (P[j2]'(by omega)).2 := by rw [eI_lds (by omega), pB_fl (by omega)]
  rw [← hn] at g1 g2
  have c1 := (hb _ (List.getElem_mem (show j1 < P.length by omega))).2.2
  have c2 := (hb _ (List.getElem_mem (show j2 < P.length by omega))).2.2
  refine ⟨(P[j2]'(by omega)).2, (P[j1]'(by omega)).2, List.mem_map.2 ⟨_, List.getElem_mem _, rfl⟩, List.mem_map.2 ⟨_, List.getElem_mem _, rfl⟩, fun x hx => ?_, ?_⟩
  · obtain ⟨p, hp, rfl⟩ := mem_vls hx
    obtain ⟨a, ha, rfl⟩ := List.getElem_of_mem hp
    have m1 := fo_le (cs := lds (flatP P) P.length) P.length a ha
    have la : eI (lds (flatP P) P.length) a = P[a].2 := by rw [eI_lds ha, pB_fl ha]
    rw [la, g1.trans b1, g2.trans b2] at m1
    exact ⟨m1.2, m1.1⟩
  · unfold grE
    rw [g1.trans b1, g2.trans b2, wrapF_in (by omega) (by omega)]
theorem Fx.closed (h : Fx cs n 0) (h2 : 2 ≤ LD_ cs n) : P29 (DS_ cs n) (LD_ cs n) (LD_ cs n) ∧ ∃ k, k < (CyK cs n).length ∧ wrapF .i64 (f_ (flatC (CyK cs n)) k 3 - f_ (flatC (CyK cs n)) k 2) = gRm cs n := by
  obtain ⟨x1, x2, x3⟩ := clX_facts h h2
  have hRev : Rev ((clX cs n).foldl ps []) := rev_fold _ _ ⟨fun p h => (by cases h), .nil, trivial⟩ x1 x2 (fun x hx => by cases hx)
  obtain ⟨r1, r2⟩ := Ways.full hRev
  rw [x3, List.reverse_append, List.reverse_reverse, ← cyK_eq] at r1
  obtain ⟨m, M, hm, hM, hw, hg⟩ := gr_ends (P := rvI cs n) (fun _ hp => h.bd hp) (by
    intro he
    have h3 := h.rn.1
    have h4 : RN_ cs n = (rvI cs n).length := rfl
    rw [h4, he] at h3
    exact absurd h3 (by decide))
  obtain ⟨e3, e4⟩ := sc_eq cs n
  have erv : (rvI cs n).reverse = (ipts cs n).foldl ps [] := rvI_rev cs n
  obtain ⟨k1, k2⟩ := red_cnt h.rev'
  rw [← e3, ← e4, ← erv] at k1
  have hwr : Wn m M (vls (rvI cs n).reverse) := fun x hx => hw x (by
    unfold vls at hx ⊢
    rw [List.map_reverse] at hx
    exact List.mem_reverse.1 hx)
  have hin : ∀ x, x ∈ vls (rvI cs n) → x ∈ vls (rvI cs n).reverse := fun x hx => by
    unfold vls at hx ⊢
    rw [List.map_reverse]
    exact List.mem_reverse.2 hx
  have hmS : m ∈ vls (SS_ cs n) := k1.keep (.inl fun y hy => (hwr y hy).1) (hin m hm)
  have hMS : M ∈ vls (SS_ cs n) := k1.keep (.inr fun y hy => (hwr y hy).2) (hin M hM)
  have hwS : Wn m M (vls (SS_ cs n)) := hwr.sub k1.sub
  have hne : m ≠ M := by
    intro he
    have halt := h.srev.alt
    have hl : (SS_ cs n).length = LD_ cs n := rfl
    generalize SS_ cs n = S at hwS halt hl
    match S, hl with
    | [], hl => simp at hl; omega
    | [_], hl => simp at hl; omega
    | p :: q :: S, _ =>
      have g1 := hwS p.2 (by simp [vls])
      have g2 := hwS q.2 (by simp [vls])
      have := halt.ne
      omega
  have hc := Dia.closed r1 (by rw [cyK_eq] at *; exact r2) hwS hmS hMS hne
  unfold cvs at hc
  obtain ⟨q, hq, hq2⟩ := List.mem_map.1 hc
  obtain ⟨k, hk, rfl⟩ := List.getElem_of_mem hq
  obtain ⟨_, _, f2, f3⟩ := f_fl hk
  have hlS : (SS_ cs n).reverse.length = LD_ cs n := by rw [List.length_reverse]; rfl
  have hld : LD_ cs n ≤ 24 := by have := lens cs n; have := h.rn; have := h.n24; omega
  have hm1 : LD_ cs n - 1 + 1 = LD_ cs n := by omega
  refine ⟨⟨rfl, by omega, ⟨(SS_ cs n).reverse, h.st.2, hlS, by omega⟩, by omega, ?_, fun he => ?_⟩, k, hk, ?_⟩
  · unfold e29
    rw [hm1, if_neg (fun hh => hh h.crD)]
    exact eJ_zero (fun p hp => ⟨(x1 p hp).1, (x1 p hp).2.1⟩) x2
  · have e : CyK cs n = [] := he
    have e2 : (CyK cs n).length = 0 := by rw [e]; rfl
    omega
  · have g1 := (Prod.mk.inj hq2).1
    have g2 := (Prod.mk.inj hq2).2
    have b1 : -32768 ≤ m ∧ m ≤ 32768 := by
      obtain ⟨p, hp, rfl⟩ := mem_vls hmS
      exact (h.at_lt hp).2.2
    have b2 : -32768 ≤ M ∧ M ≤ 32768 := by
      obtain ⟨p, hp, rfl⟩ := mem_vls hMS
      exact (h.at_lt hp).2.2
    have e2 : f_ (flatC (CyK cs n)) k 2 = m := by
      rw [f2, ← g1]
      unfold minQ
      split <;> omega
    have e3 : f_ (flatC (CyK cs n)) k 3 = M := by
      rw [f3, ← g2]
      unfold maxQ
      split <;> omega
    rw [e2, e3, wrapF_in (by omega) (by omega)]
    exact hg.symm
end
end Go.Proofs.Ytphadgdlknhbnaa.Ways
set_option maxRecDepth 10000
noncomputable section
namespace Go.Proofs.Ytphadgdlknhbnaa.Ways
open Go Go.Ex Go.RowKit Go.Turn Go.Ex.Dia
theorem aAE_sel {D : List Pt} (hn : D.length < 1000000) {j : Nat} (hj : j < D.length) (u : SS Int) : (aAE (flatP D) D.length (j : Int) u).sel = u.sel := by
  unfold aAE
  rw [askS_sel (bnd_t hj (Nat.le_refl _)), askS_sel (cA_t (okP_flat hn) hj)]
theorem aFE_sel {C : List Cy} (hn : C.length < 1000000) {j : Nat} (hj : j < C.length) (u : SS Int) : (aFE (flatC C) C.length (j : Int) u).sel = u.sel := by
  unfold aFE
  rw [askS_sel (bnd_t hj (Nat.le_refl _)), askS_sel (show cF (flatC C) (j : Int) = true from (okF_flat C hn).2.2.2 j hj)]
structure MDok (m : MD) (R Rb Ru Rd : List Pt) : Prop where
  dc : m.dc = flatP R
  db : m.db = flatP Rb
  du : m.du = flatP Ru
  dd : m.dd = flatP Rd
  lc : m.lc = R.length
  lb : m.lb = R.length
  lu : m.lu = R.length
  ld : m.ld = R.length
  hb : Rb.length = R.length
  hv : vls Rb = (vls R).reverse
  hu : Ru = R.map (gp fun x => -x)
  hd : Rd = R.map (gp fun x => 2 * x)
  bd : ∀ p ∈ R, -32768 ≤ p.2 ∧ p.2 ≤ 32768
  lt : R.length < 1000000
theorem run18m {m : MD} {R Rb Ru Rd : List Pt} (h : MDok m R Rb Ru Rd) (f : Bool) : runS (st18m m f) (R.length + 1) 0 = some (0, (R.length : Int)) := by
  have hlt := h.lt
  refine run_all (step := st18m m f) (st := fun j => ((j : Nat) : Int)) (a := 0) R.length (fun j hj => ?_) ?_
  · have hw : wrapF .i64 (wrapF .i64 ((m.lb : Int) - 1) - (j : Int)) = ((R.length - 1 - j : Nat) : Int) := by
      rw [h.lb, wrapF_in (n := ((R.length : Int) - 1)) (by omega) (by omega), wrapF_in (by omega) (by omega)]; omega
    have hub : Ru.length = R.length := by rw [h.hu, List.length_map]
    have hdb : Rd.length = R.length := by rw [h.hd, List.length_map]
    have hbd := h.bd _ (List.getElem_mem hj)
    have eb : (Rb[R.length - 1 - j]'(by rw [h.hb]; omega)).2 = R[j].2 := by
      have h1 : (vls Rb)[R.length - 1 - j]? = some (R[j].2) := by
        rw [h.hv, List.getElem?_reverse (by unfold vls; rw [List.length_map]; omega)]
        unfold vls
        rw [List.length_map, show R.length - 1 - (R.length - 1 - j) = j from by omega, List.getElem?_map, List.getElem?_eq_getElem hj]; rfl
      unfold vls at h1
      rw [List.getElem?_map, List.getElem?_eq_getElem (by rw [h.hb]; omega)] at h1
      exact Option.some.inj h1
    have eu : Ru[j]'(by omega) = gp (fun x => -x) R[j] := by
      have := h.hu
      subst this
      rw [List.getElem_map]
    have ed : Rd[j]'(by omega) = gp (fun x => 2 * x) R[j] := by
      have := h.hd
      subst this
      rw [List.getElem_map]
    have a1 : ∀ u, (aDE m.db m.lb ((R.length - 1 - j : Nat) : Int) u).sel = u.sel := fun u => by
      have hb := h.hb
      have := aDE_sel (D := Rb) (by omega) (j := R.length - 1 - j) (by omega) u
      rw [h.db, h.lb]
      rwa [hb] at this
    have a2 : ∀ u, (aDE m.dc m.lc (j : Int) u).sel = u.sel := fun u => by rw [h.dc, h.lc]; exact aDE_sel hlt hj u
    have a3 : ∀ u, (aDE m.du m.lu (j : Int) u).sel = u.sel := fun u => by rw [h.du, h.lu, ← hub]; exact aDE_sel (by omega) (by omega) u
    have a4 : ∀ u, (aDE m.dd m.ld (j : Int) u).sel = u.sel := fun u => by rw [h.dd, h.ld, ← hdb]; exact aDE_sel (by omega) (by omega) u
    have a5 : ∀ u, (aAE m.dc m.lc (j : Int) u).sel = u.sel := fun u => by rw [h.dc, h.lc]; exact aAE_sel hlt hj u
    have a6 : ∀ u, (aAE m.du m.lu (j : Int) u).sel = u.sel := fun u => by rw [h.du, h.lu, ← hub]; exact aAE_sel (by omega) (by omega) u
    have a7 : ∀ u, (aAE m.dd m.ld (j : Int) u).sel = u.sel := fun u => by rw [h.dd, h.ld, ← hdb]; exact aAE_sel (by omega) (by omega) u
    have v1 : pB m.db (R.length - 1 - j) = R[j].2 := by rw [h.db, pB_fl (by rw [h.hb]; omega), eb]
    have v2 : pB m.dc j = R[j].2 := by rw [h.dc, pB_fl hj]
    have v3 : pB m.du j = -R[j].2 := by rw [h.du, pB_fl (by omega), eu]; rfl
    have v4 : pB m.dd j = 2 * R[j].2 := by rw [h.dd, pB_fl (by omega), ed]; rfl
    have w2 : pA m.dc j = R[j].1 := by rw [h.dc, pA_fl hj]
    have w3 : pA m.du j = R[j].1 := by rw [h.du, pA_fl (by omega), eu]; rfl
    have w4 : pA m.dd j = R[j].1 := by rw [h.dd, pA_fl (by omega), ed]; rfl
    unfold st18m st18m'
    rw [hw, br_t (by rw [ltF_eq, h.lc]; exact decide_eq_true (by omega)), a1, a2, br_f (by rw [show ((R.length - 1 - j : Nat) : Int).toNat = R.length - 1 - j from rfl, show ((j : Nat) : Int).toNat = j from rfl, v1, v2, eqF_d, decide_eq_true rfl]; rfl),
      a3, a2, br_f (by rw [show ((j : Nat) : Int).toNat = j from rfl, v3, v2, ngI_eq (by omega), eqF_d, decide_eq_true rfl]; rfl), a6, a5, br_f (by rw [show ((j : Nat) : Int).toNat = j from rfl, w3, w2, eqF_d, decide_eq_true rfl]; rfl),
      a4, a2, br_f (by rw [show ((j : Nat) : Int).toNat = j from rfl, v4, v2, dbI_eq (by omega), eqF_d, decide_eq_true rfl]; rfl), a7, a5, br_f (by rw [show ((j : Nat) : Int).toNat = j from rfl, w4, w2, eqF_d, decide_eq_true rfl]; rfl), wsucc (by omega)]; rfl
  · show (st18m m f ((R.length : Nat) : Int)).sel = _
    unfold st18m st18m'
    rw [h.lc, br_f (by rw [ltF_eq]; simp)]; rfl
structure MDcy (m : MD) (C : List Cy) : Prop where
  cy : m.cy = flatC C
  cu : m.cu = flatC (C.map (gc fun x => -x))
  cd : m.cd = flatC (C.map (gc fun x => 2 * x))
  kc : m.kc = C.length
  ku : m.ku = C.length
  kd : m.kd = C.length
  bd : ∀ q ∈ C, (-32768 ≤ q.1.2 ∧ q.1.2 ≤ 32768) ∧ (-32768 ≤ q.2.2 ∧ q.2.2 ≤ 32768)
  lt : C.length < 1000000
theorem run26m {m : MD} {C : List Cy} (h : MDcy m C) : runS (st26m m) (C.length + 1) 0 = some (0, (C.length : Int)) := by
  have hlt := h.lt
  refine run_all (step := st26m m) (st := fun j => ((j : Nat) : Int)) (a := 0) C.length (fun j hj => ?_) ?_
  · have hbd := h.bd _ (List.getElem_mem hj)
    have lu : (C.map (gc fun x => -x)).length = C.length := List.length_map ..
    have ld : (C.map (gc fun x => 2 * x)).length = C.length := List.length_map ..
    have a1 : ∀ u, (aFE m.cy m.kc (j : Int) u).sel = u.sel := fun u => by rw [h.cy, h.kc]; exact aFE_sel hlt hj u
    have a2 : ∀ u, (aFE m.cu m.ku (j : Int) u).sel = u.sel := fun u => by rw [h.cu, h.ku, ← lu]; exact aFE_sel (by omega) (by omega) u
    have a3 : ∀ u, (aFE m.cd m.kd (j : Int) u).sel = u.sel := fun u => by rw [h.cd, h.kd, ← ld]; exact aFE_sel (by omega) (by omega) u
    obtain ⟨f0, f1, f2, f3⟩ := f_fl hj
    obtain ⟨u0, u1, u2, u3⟩ := f_fl (C := C.map (gc fun x => -x)) (j := j) (by omega)
    obtain ⟨d0, d1, d2, d3⟩ := f_fl (C := C.map (gc fun x => 2 * x)) (j := j) (by omega)
    have b2 : -32768 ≤ minQ C[j].1.2 C[j].2.2 ∧ minQ C[j].1.2 C[j].2.2 ≤ 32768 := by unfold minQ; split <;> omega
    have b3 : -32768 ≤ maxQ C[j].1.2 C[j].2.2 ∧ maxQ C[j].1.2 C[j].2.2 ≤ 32768 := by unfold maxQ; split <;> omega
    have eN : eqN m.cu m.cy j = true := by
      unfold eqN
      rw [h.cu, h.cy, f0, f1, f2, f3, u0, u1, u2, u3, ngI_eq (by omega), ngI_eq (by omega), List.getElem_map]
      show (C[j].1.1 == C[j].1.1 && (C[j].2.1 == C[j].2.1 && (minQ (-C[j].1.2) (-C[j].2.2) == -maxQ C[j].1.2 C[j].2.2 && (maxQ (-C[j].1.2) (-C[j].2.2) == -minQ C[j].1.2 C[j].2.2 && true)))) = true
      simp only [beq_self_eq_true, Bool.true_and, Bool.and_true, Bool.and_eq_true, beq_iff_eq]
      unfold minQ maxQ
      constructor <;> (split <;> split <;> omega)
    have eD : eqD m.cd m.cy j = true := by
      unfold eqD
      rw [h.cd, h.cy, f0, f1, f2, f3, d0, d1, d2, d3, dbI_eq (by omega), dbI_eq (by omega), List.getElem_map]
      show (C[j].1.1 == C[j].1.1 && (C[j].2.1 == C[j].2.1 && (minQ (2 * C[j].1.2) (2 * C[j].2.2) == 2 * minQ C[j].1.2 C[j].2.2 && (maxQ (2 * C[j].1.2) (2 * C[j].2.2) == 2 * maxQ C[j].1.2 C[j].2.2 && true)))) = true
      simp only [beq_self_eq_true, Bool.true_and, Bool.and_true, Bool.and_eq_true, beq_iff_eq]
      unfold minQ maxQ
      constructor <;> (split <;> split <;> omega)
    show (st26m m ((j : Nat) : Int)).sel = _
    unfold st26m
    rw [br_t (by rw [ltF_eq, h.kc]; exact decide_eq_true (by omega)), a1, a2, br_f (by rw [show ((j : Nat) : Int).toNat = j from rfl, eN]; rfl), a3, br_f (by rw [show ((j : Nat) : Int).toNat = j from rfl, eD]; rfl), wsucc (by omega)]; rfl
  · show (st26m m ((C.length : Nat) : Int)).sel = _
    unfold st26m
    rw [h.kc, br_f (by rw [ltF_eq]; simp)]; rfl
theorem run39m {C : List Cy} {g : Int} {K : Nat} (hlt : C.length < 1000000) (hk : ∃ k, k < C.length ∧ wrapF .i64 (f_ (flatC C) k 3 - f_ (flatC C) k 2) = g) : ∃ r, runS (st39m K (flatC C) C.length g) (C.length + 1) 0 = some (1, r) := by
  obtain ⟨r, h3, h4⟩ := run_first (step := st39m K (flatC C) C.length g) (e := fun j => if wrapF .i64 (f_ (flatC C) j 3 - f_ (flatC C) j 2) = g then 1 else 0) (st := fun j => ((j : Nat) : Int)) (a := 0) (b := fun _ => 1) C.length (fun j hj he => by
    have he' : wrapF .i64 (f_ (flatC C) j 3 - f_ (flatC C) j 2) ≠ g := fun hh => by rw [if_pos hh] at he; cases he
    unfold st39m
    rw [br_t (by rw [ltF_eq]; exact decide_eq_true (by omega)), aFE_sel hlt hj, br_f (by rw [eqF_d, show ((j : Nat) : Int).toNat = j from rfl]; exact decide_eq_false he'), wsucc (by omega)]; rfl) (fun j hj he => by
    have he' : wrapF .i64 (f_ (flatC C) j 3 - f_ (flatC C) j 2) = g := Classical.byContradiction fun hh => he (if_neg hh)
    unfold st39m
    rw [br_t (by rw [ltF_eq]; exact decide_eq_true (by omega)), aFE_sel hlt hj, br_t (by rw [eqF_d, show ((j : Nat) : Int).toNat = j from rfl]; exact decide_eq_true he')]; rfl) (by
    unfold st39m
    rw [br_f (by rw [ltF_eq]; simp)]; rfl)
  rcases h4 with ⟨g1, rfl⟩ | ⟨g1, j, _, rfl, _, _⟩
  · obtain ⟨k, hk1, hk2⟩ := hk
    have := firstF_zr.1 g1 k hk1
    rw [if_pos hk2] at this
    cases this
  · exact ⟨_, h3⟩
end Go.Proofs.Ytphadgdlknhbnaa.Ways
set_option maxRecDepth 10000
noncomputable section
namespace Go.Proofs.Ytphadgdlknhbnaa.Ways
open Go Go.Ex Go.RowKit Go.Turn Go.Ex.Dia
theorem vP_sel {p : Prop} {t : VT} (h : p) : (vP p t).sel = t.sel := vb_t (tru_iff.2 h)
section
variable {cs : List Value} {n t s : Nat} {ex : Bool}
structure F8 (cs : List Value) (n : Nat) : Prop where
  c : Fx cs n 0
  b : Fx (lstI (gB cs n) n) n 0
  u : Fx (lstI (gU cs) n) n 0
  d : Fx (lstI (gD cs) n) n 0
  vb : vls (SS_ (lstI (gB cs n) n) n) = (vls (SS_ cs n)).reverse
  pb : (cvs (CC_ (lstI (gB cs n) n) n)).Perm (cvs (CC_ cs n))
  su : SS_ (lstI (gU cs) n) n = (SS_ cs n).map (gp fun x => -x)
  cu : CC_ (lstI (gU cs) n) n = (CC_ cs n).map (gc fun x => -x)
  sd : SS_ (lstI (gD cs) n) n = (SS_ cs n).map (gp fun x => 2 * x)
  cd : CC_ (lstI (gD cs) n) n = (CC_ cs n).map (gc fun x => 2 * x)
theorem f8_of (h : Fx cs n 0) (hs : ∀ j, j < n → smM cs j) : F8 cs n := by
  have h1 := h.n1
  have h2 := h.n24
  have e1 : ∀ j, j < n → gU cs j = -(eI cs j) := fun j hj => by
    have := hs j hj
    unfold smM at this
    exact ngI_eq (x := eI cs j) (by omega)
  have e2 : ∀ j, j < n → gD cs j = 2 * eI cs j := fun j hj => by
    have := hs j hj
    unfold smM at this
    exact dbI_eq (x := eI cs j) (by omega)
  have hb : Fx (lstI (gB cs n) n) n 0 := lst_fx h1 h2 fun j hj => by
    have := hs (n - 1 - j) (by omega)
    unfold smM at this
    unfold gB
    omega
  have hu : Fx (lstI (gU cs) n) n 0 := lst_fx h1 h2 fun j hj => by
    have := hs j hj
    unfold smM at this
    rw [e1 j hj]; omega
  have hd : Fx (lstI (gD cs) n) n 0 := lst_fx h1 h2 fun j hj => by
    have := hs j hj
    unfold smM at this
    rw [e2 j hj]; omega
  have k1 := back_cnt h hb
  have k2 := map_cnt mp_neg h e1 (fun j hj => by have := hs j hj; unfold smM at this; omega)
  have k3 := map_cnt mp_two h e2 (fun j hj => by have := hs j hj; unfold smM at this; omega)
  exact ⟨h, hb, hu, hd, k1.1, k1.2, k2.1, k2.2, k3.1, k3.2⟩
theorem F8.lens (h : F8 cs n) : LD_ (lstI (gB cs n) n) n = LD_ cs n ∧ LD_ (lstI (gU cs) n) n = LD_ cs n ∧ LD_ (lstI (gD cs) n) n = LD_ cs n ∧
    (CC_ (lstI (gB cs n) n) n).length = (CC_ cs n).length ∧ (CC_ (lstI (gU cs) n) n).length = (CC_ cs n).length ∧ (CC_ (lstI (gD cs) n) n).length = (CC_ cs n).length := by
  have e : ∀ cs : List Value, LD_ cs n = (SS_ cs n).length := fun _ => rfl
  have e1 : (SS_ (lstI (gB cs n) n) n).length = (SS_ cs n).length := by
    have := congrArg List.length h.vb
    unfold vls at this
    simpa using this
  refine ⟨e1, ?_, ?_, (vals_same h.pb).1, ?_, ?_⟩
  · rw [e, e, h.su, List.length_map]
  · rw [e, e, h.sd, List.length_map]
  · rw [h.cu, List.length_map]
  · rw [h.cd, List.length_map]
theorem F8.flat (h : F8 cs n) : (mdM cs (lstI (gB cs n) n) (lstI (gU cs) n) (lstI (gD cs) n) n t s ex).Flat :=
  ⟨h.c.ok.1, h.c.okD.1, h.b.okD.1, h.u.okD.1, h.d.okD.1, flatC_flat _, flatC_flat _, flatC_flat _⟩
theorem F8.ok18 (h : F8 cs n) : MDok (mdM cs (lstI (gB cs n) n) (lstI (gU cs) n) (lstI (gD cs) n) n t s ex) (SS_ cs n).reverse (SS_ (lstI (gB cs n) n) n).reverse (SS_ (lstI (gU cs) n) n).reverse (SS_ (lstI (gD cs) n) n).reverse := by
  obtain ⟨l1, l2, l3, _⟩ := h.lens
  have hl : (SS_ cs n).reverse.length = LD_ cs n := by rw [List.length_reverse]; rfl
  have hlt := h.c.lt
  refine ⟨h.c.st.2, h.b.st.2, h.u.st.2, h.d.st.2, hl.symm, by rw [hl]; exact l1, by rw [hl]; exact l2, by rw [hl]; exact l3, ?_, ?_, ?_, ?_, fun p hp => (h.c.at_lt (List.mem_reverse.1 hp)).2.2, ?_⟩
  · rw [hl, List.length_reverse]; exact l1
  · have e : ∀ P : List Pt, vls P.reverse = (vls P).reverse := fun P => by unfold vls; rw [List.map_reverse]
    rw [e, e, h.vb]
  · rw [h.su, List.map_reverse]
  · rw [h.sd, List.map_reverse]
  · rw [List.length_reverse]; exact hlt.2.2
theorem F8.ok26 (h : F8 cs n) : MDcy (mdM cs (lstI (gB cs n) n) (lstI (gU cs) n) (lstI (gD cs) n) n t s ex) (CC_ cs n) := by
  obtain ⟨_, _, _, _, l5, l6⟩ := h.lens
  refine ⟨rfl, ?_, ?_, rfl, l5, l6, fun q hq => ?_, h.c.lt.2.1⟩
  · show flatC (CC_ (lstI (gU cs) n) n) = _
    rw [h.cu]
  · show flatC (CC_ (lstI (gD cs) n) n) = _
    rw [h.cd]
  · obtain ⟨m1, m2⟩ := h.c.memC hq
    exact ⟨(h.c.bd m1).2.2, (h.c.bd m2).2.2⟩
theorem e8_sel (h : Fx cs n 0) {r4 : Nat × Int} (h4 : 2 ≤ LD_ cs n → r4.1 = 1) : (e8 cs n r4).sel = some (b_ true) := by
  obtain ⟨k1, k2, k3⟩ := h.lok
  unfold e8
  by_cases h2 : LD_ cs n < 2
  · rw [vb_t (by rw [ltF_eq]; exact decide_eq_true (by omega))]; rfl
  · have h3 := lens cs n
    have hr : 1 < RN_ cs n := by omega
    have h38 := h.s38 hr
    rw [h.rt] at h38
    rw [vb_f (by rw [ltF_eq]; exact decide_eq_false (by omega)), vP_sel h.cD, vP_sel (h.closed (by omega)).1, vP_sel k2, vP_sel k3, vP_sel h38, h4 (by omega)]; rfl
end
end Go.Proofs.Ytphadgdlknhbnaa.Ways
set_option maxRecDepth 10000
noncomputable section
namespace Go.Proofs.Ytphadgdlknhbnaa.Ways
open Go Go.Ex Go.RowKit Go.Turn Go.Ex.Dia
theorem okX_fl {P : List Pt} {k : Nat} (hk : P.length = k) (h : k < 1000000) : okX cP (flatP P) k k := by
  subst hk
  have ho := okP_flat (a := P) h
  exact ⟨ho.1, Nat.le_refl _, by omega, fun j hj => cP_t ho hj⟩
section
variable {cs : List Value} {n t s : Nat} {ex : Bool}
theorem Fx.v40 (h : Fx cs n 0) (hC : CC_ cs n ≠ []) : V40 (flatC (CC_ cs n)) (CC_ cs n).length (CC_ cs n).length := ⟨(h.cf hC).1, (h.cf hC).2.1, by have := lens cs n; have := h.rn; have := h.n24; omega⟩
theorem Fx.so (h : Fx cs n 0) : okX cP (flatP (soV (flatC (CC_ cs n)) (CC_ cs n).length).reverse) (CC_ cs n).length (CC_ cs n).length := okX_fl (by rw [List.length_reverse, so_len]) (h.lt.2.1)
theorem ne_of_len {α β : Type} {a : List α} {b : List β} (h : a.length = b.length) (hb : b ≠ []) : a ≠ [] := fun e => hb (List.eq_nil_of_length_eq_zero (by rw [← h, e]; rfl))
theorem nil_of_len {α β : Type} {a : List α} {b : List β} (h : a.length = b.length) (hb : b = []) : a = [] := List.eq_nil_of_length_eq_zero (by rw [h, hb]; rfl)
theorem sel8A (h : F8 cs n) (hC : CC_ cs n ≠ []) {r4 : Nat × Int} (h4 : 2 ≤ LD_ cs n → r4.1 = 1) : (t8A cs (lstI (gB cs n) n) (lstI (gU cs) n) (lstI (gD cs) n) n r4).sel = some (b_ true) := by
  obtain ⟨l1, l2, l3, l4, l5, l6⟩ := h.lens
  have h24 := h.c.n24
  have nb := ne_of_len l4 hC
  have nu := ne_of_len l5 hC
  have nd := ne_of_len l6 hC
  have hv := (vals_same h.pb).2
  unfold t8A
  rw [vb_f (by rw [ltF_eq]; exact decide_eq_false (by omega)), vP_sel h.c.lok.1, vb_t rfl, vP_sel ⟨rfl, h.c, hC⟩, vP_sel ⟨rfl, h.b, nb⟩, vP_sel ⟨rfl, h.u, nu⟩, vP_sel ⟨rfl, h.d, nd⟩, vP_sel (h.b.v40 nb), vP_sel (h.c.v40 hC), vP_sel ⟨h.b.so, h.c.so⟩,
    vb_f (by rw [hv]; rfl), vb_f (by rw [l1, eqF_d, decide_eq_true rfl]; rfl), vb_f (by rw [l2, eqF_d, decide_eq_true rfl]; rfl), vb_f (by rw [l3, eqF_d, decide_eq_true rfl]; rfl), vb_t rfl, vb_f (by rw [l5, eqF_d, decide_eq_true rfl]; rfl), vb_f (by rw [l6, eqF_d, decide_eq_true rfl]; rfl), vb_t rfl]
  exact e8_sel h.c h4
theorem sel8N (h : F8 cs n) (hC : CC_ cs n = []) {r4 : Nat × Int} (h4 : 2 ≤ LD_ cs n → r4.1 = 1) : (t8N cs (lstI (gB cs n) n) (lstI (gU cs) n) (lstI (gD cs) n) n r4).sel = some (b_ true) := by
  obtain ⟨l1, l2, l3, l4, l5, l6⟩ := h.lens
  have h24 := h.c.n24
  have nb := nil_of_len l4 hC
  have nu := nil_of_len l5 hC
  have nd := nil_of_len l6 hC
  unfold t8N
  rw [vb_f (by rw [ltF_eq]; exact decide_eq_false (by omega)), vP_sel h.c.lok.1, vb_t rfl, vP_sel ⟨rfl, h.c, hC⟩, vP_sel ⟨rfl, h.b, nb⟩, vP_sel ⟨rfl, h.u, nu⟩, vP_sel ⟨rfl, h.d, nd⟩,
    vb_f (by rfl), vb_f (by rw [l1, eqF_d, decide_eq_true rfl]; rfl), vb_f (by rw [l2, eqF_d, decide_eq_true rfl]; rfl), vb_f (by rw [l3, eqF_d, decide_eq_true rfl]; rfl), vb_t rfl, vb_f (by rfl), vb_f (by rfl)]
  exact e8_sel h.c h4
theorem run39g {C : List Cy} {g : Int} {K : Nat} (hlt : C.length < 1000000) : ∃ r : Nat × Int, runS (st39m K (flatC C) C.length g) (C.length + 1) 0 = some r ∧ (r.1 = 0 ∨ r.1 = 1) := by
  by_cases hk : ∃ k, k < C.length ∧ wrapF .i64 (f_ (flatC C) k 3 - f_ (flatC C) k 2) = g
  · obtain ⟨r, hr⟩ := run39m (K := K) hlt hk
    exact ⟨_, hr, .inr rfl⟩
  · refine ⟨_, run_all (step := st39m K (flatC C) C.length g) (st := fun j => ((j : Nat) : Int)) (a := 0) C.length (fun j hj => ?_) ?_, .inl rfl⟩
    · have he' : wrapF .i64 (f_ (flatC C) j 3 - f_ (flatC C) j 2) ≠ g := fun hh => hk ⟨j, hj, hh⟩
      unfold st39m
      rw [br_t (by rw [ltF_eq]; exact decide_eq_true (by omega)), aFE_sel hlt hj, br_f (by rw [eqF_d, show ((j : Nat) : Int).toNat = j from rfl]; exact decide_eq_false he'), wsucc (by omega)]; rfl
    · unfold st39m
      rw [br_f (by rw [ltF_eq]; simp)]; rfl
theorem cyK_lt (h : Fx cs n 0) : (CyK cs n).length < 1000000 := by
  have h1 : (CyK cs n).length ≤ (clX cs n).length := by
    rw [cyK_eq]
    have h2 := cnt_len (flatP ((clX cs n).foldl ps []).reverse) ((clX cs n).foldl ps []).reverse.length
    rw [cnt_R, pts_flat _ _ (Nat.le_refl _), List.take_length, List.reverse_reverse, List.length_reverse] at h2
    have h3 : ∀ (l D : List Pt), (l.foldl ps D).length ≤ D.length + l.length := fun l => by
      induction l with
      | nil => intro D; exact Nat.le_refl _
      | cons p l ih =>
        intro D
        have g1 := ih (ps D p)
        have g2 := ps_len D p
        simp only [List.foldl_cons, List.length_cons]
        omega
    have := h3 (clX cs n) []
    simp only [List.length_nil] at this
    omega
  have h4 : (clX cs n).length ≤ 2 * (LD_ cs n) + 2 := by
    unfold clX JE
    rw [List.length_append, List.length_map, pts_len]; omega
  have := lens cs n
  have := h.rn
  have := h.n24
  omega
theorem run39x (h : Fx cs n 0) (K : Nat) : ∃ r : Nat × Int, (2 ≤ LD_ cs n → r.1 = 1) ∧ ∃ m, runS (st39m K (flatC (CyK cs n)) (CyK cs n).length (gRm cs n)) m 0 = some r := by
  by_cases h2 : 2 ≤ LD_ cs n
  · obtain ⟨r, hr⟩ := run39m (K := K) (cyK_lt h) (h.closed h2).2
    exact ⟨_, fun _ => rfl, _, hr⟩
  · obtain ⟨r, hr, _⟩ := run39g (g := gRm cs n) (K := K) (cyK_lt h)
    exact ⟨r, fun hh => absurd hh h2, _, hr⟩
theorem qM_pos (h : 1 ≤ n) : qM cs n n = .m n n (lstI (gB cs n) n) (lstI (gU cs) n) (lstI (gD cs) n) := by
  obtain ⟨k, rfl⟩ : ∃ k, n = k + 1 := ⟨n - 1, by omega⟩
  rfl
theorem ls81 (haw : Pure Try.prog Hd 9 [] (b_ true)) (h : Fx cs n 0) (hs : ∀ j, j < n → smM cs j) : LSound Try.prog 2 (L81 cs n t s ex (0, .m n n (lstI (gB cs n) n) (lstI (gU cs) n) (lstI (gD cs) n))) := by
  have h24 := h.n24
  have hr := runM_all h.ok (by omega) hs
  rw [qM_pos h.n1] at hr
  exact (LM1 (t := t) (s := s) (ex := ex) haw h.ok.1).table (id := 5) (s0 := .z) .none (by decide) trivial hr (by kernel_rfl) [0, 1]
theorem ls82 (haw : Pure Try.prog Hd 9 [] (b_ true)) (h : F8 cs n) (f : Bool) {L : LTab} (hL : LSound Try.prog 2 L) : LSound Try.prog 2 (L82 cs (lstI (gB cs n) n) (lstI (gU cs) n) (lstI (gD cs) n) n t s ex f (0, ((SS_ cs n).reverse.length : Int)) L) :=
  (LM18 (m := mdM cs (lstI (gB cs n) n) (lstI (gU cs) n) (lstI (gD cs) n) n t s ex) haw h.flat f).table (id := 18) hL (by cases f <;> decide) trivial (run18m h.ok18 f) (by cases f <;> kernel_rfl) [0]
theorem ls83 (haw : Pure Try.prog Hd 9 [] (b_ true)) (h : F8 cs n) {L : LTab} (hL : LSound Try.prog 2 L) : LSound Try.prog 2 (L83 cs (lstI (gB cs n) n) (lstI (gU cs) n) (lstI (gD cs) n) n t s ex (0, ((CC_ cs n).length : Int)) L) :=
  (LM26 (m := mdM cs (lstI (gB cs n) n) (lstI (gU cs) n) (lstI (gD cs) n) n t s ex) haw h.flat).table (id := 26) hL (by decide) trivial (run26m h.ok26) (by kernel_rfl) [0]
theorem law_true8 (haw : Pure Try.prog Hd 9 [] (b_ true)) (hc : rawI cs n) :
    ∃ H', Sound Try.prog 2 (.call 8 ⟨[sl 1 0 n n]⟩ (heapL (deads ++ [.cells cs t s ex]))) (.val (b_ true) H') := by
  have hB : 24 < n ∨ (okI cs n n ∧ clE cs n = 3) → ∃ H', Sound Try.prog 2 (.call 8 ⟨[sl 1 0 n n]⟩ (heapL (deads ++ [.cells cs t s ex]))) (.val (b_ true) H') := fun hh => by
    obtain ⟨H', h'⟩ := Out.vals_sel (x8b cs n t s ex) (v := b_ true) (by
      rw [v8b]
      by_cases h : 24 < n
      · rw [vb_t (by rw [ltF_eq]; exact decide_eq_true (by omega))]; rfl
      · rw [vb_f (by rw [ltF_eq]; exact decide_eq_false (by omega)), aP (hh.resolve_left h)]; rfl)
    exact ⟨H', execO_sound (C := C8b) ((tsm9 haw).auto c13b) .none 80 _ _ h'⟩
  by_cases h24 : 24 < n
  · exact hB (.inl h24)
  have hok : okI cs n n := ⟨hc.1, Nat.le_refl _, by omega, hc.2.2⟩
  by_cases hcl : clE cs n = 0
  case neg =>
    refine hB (.inr ⟨hok, ?_⟩)
    unfold clE at hcl ⊢
    rw [if_neg (by omega)] at hcl ⊢
    have hor : ∀ j, eLd cs j = 0 ∨ eLd cs j = 3 := fun j => by
      show ldE (eI cs j) = 0 ∨ ldE (eI cs j) = 3
      unfold ldE rgE
      split <;> simp
    refine firstF_one (fun _ _ => hor _) ?_
    exact Classical.byContradiction fun hne => hcl (firstF_z0 fun j hj => Classical.byContradiction fun h0 => hne ⟨j, hj, h0⟩)
  by_cases hs : ∀ j, j < n → smM cs j
  case neg =>
    obtain ⟨q, hq⟩ := runM_out hok (by omega) hs
    have hL : LSound Try.prog 2 (L8e cs n t s ex) := (LM1 (t := t) (s := s) (ex := ex) haw hok.1).table (id := 5) (s0 := .z) .none (by decide) trivial hq (by kernel_rfl) [1]
    obtain ⟨H', h'⟩ := Out.vals_sel (x8e cs n t s ex) (v := b_ true) (by
      rw [v8e, vb_f (by rw [ltF_eq]; exact decide_eq_false (by omega)), aP ⟨hok, hcl⟩, aV_sel rfl]; rfl)
    exact ⟨H', execO_sound (C := C8e cs n t s ex) ((tsm9 haw).auto (c13g 13 (.inl rfl) true)) hL 80 _ _ h'⟩
  by_cases h0 : n = 0
  · subst h0
    have hcn : cs = [] := List.eq_nil_of_length_eq_zero hc.2.1
    subst hcn
    have z1 : okC [] 0 0 := ⟨hok, rfl, by omega⟩
    have z2 : RzE [] 0 0 := ⟨⟨hok, rfl⟩, hcl⟩
    obtain ⟨H', h'⟩ := Out.vals_sel (x8z [] t s ex) (v := b_ true) (by
      rw [v8z, aP ⟨hok, hcl⟩, aP z1, aP z2, aP z2, aP z2, aP z2]; rfl)
    exact ⟨H', execO_sound (C := C8z) ((((tsm9 haw).new (f' := 11) (c11 true true)).x c12).auto (c13g 13 (.inl rfl) true)) .none 200 _ _ h'⟩
  have F : Fx cs n 0 := ⟨hok, hc.2.1, by omega, by omega, hcl, by omega⟩
  have F8' := f8_of F hs
  by_cases hC : CC_ cs n = []
  · obtain ⟨r4, h4, m, hr⟩ := run39x F 13
    have hL := (LM39N (ck := flatC (CyK cs n)) (lk := (CyK cs n).length) (g := gRm cs n) haw (flatC_flat _)).table (id := 39) (s0 := (0 : Int)) (ls82 (t := t) (s := s) (ex := ex) haw F8' false (ls81 (t := t) (s := s) (ex := ex) haw F hs)) (by decide) trivial hr (by kernel_rfl) [0, 1]
    obtain ⟨H', h'⟩ := Out.vals_sel (x8N cs (lstI (gB cs n) n) (lstI (gU cs) n) (lstI (gD cs) n) n t s ex ((SS_ cs n).reverse.length : Int) r4) (v := b_ true) (by rw [v8N]; exact sel8N F8' hC h4)
    exact ⟨H', execO_sound (C := C8N cs (lstI (gB cs n) n) (lstI (gU cs) n) (lstI (gD cs) n) n t s ex ((SS_ cs n).reverse.length : Int) r4) (tsm8 haw false) hL 120 _ _ h'⟩
  · obtain ⟨r4, h4, m, hr⟩ := run39x F 19
    have hL := (LM39A (ck := flatC (CyK cs n)) (lk := (CyK cs n).length) (g := gRm cs n) haw (flatC_flat _)).table (id := 39) (s0 := (0 : Int)) (ls83 (t := t) (s := s) (ex := ex) haw F8' (ls82 (t := t) (s := s) (ex := ex) haw F8' true (ls81 (t := t) (s := s) (ex := ex) haw F hs))) (by decide) trivial hr (by kernel_rfl) [0, 1]
    obtain ⟨H', h'⟩ := Out.vals_sel (x8A cs (lstI (gB cs n) n) (lstI (gU cs) n) (lstI (gD cs) n) n t s ex ((SS_ cs n).reverse.length : Int) ((CC_ cs n).length : Int) r4) (v := b_ true) (by rw [v8A]; exact sel8A F8' hC h4)
    exact ⟨H', execO_sound (C := C8A cs (lstI (gB cs n) n) (lstI (gU cs) n) (lstI (gD cs) n) n t s ex ((SS_ cs n).reverse.length : Int) ((CC_ cs n).length : Int) r4) (tsm8 haw true) hL 120 _ _ h'⟩
end
end Go.Proofs.Ytphadgdlknhbnaa.Ways
