import Derived.Test.YteemponkignnhaaGreatKm1
import Derived.Test.YteemponkignnhaaGreatZz1
set_option maxRecDepth 10000
noncomputable section
namespace Go.Proofs.YteemponkignnhaaGreat.Ways
open Go Go.Ex Go.RowKit Go.Turn Go.Ex.Dia
def lstI (g : Nat → Int) (n : Nat) : List Value := (List.range n).map fun j => i (g j)
theorem lst_len (g : Nat → Int) (n : Nat) : (lstI g n).length = n := by unfold lstI; simp
theorem lst_succ (g : Nat → Int) (n : Nat) : lstI g (n + 1) = lstI g n ++ [i (g n)] := by unfold lstI; rw [List.range_succ, List.map_append]; rfl
theorem lst_flat (g : Nat → Int) (n : Nat) : (lstI g n).all Ex.flat = true := by
  refine List.all_eq_true.2 fun x hx => ?_
  unfold lstI at hx
  obtain ⟨j, _, rfl⟩ := List.mem_map.1 hx
  rfl
section
variable {cs : List Value} {n : Nat}
def gB (cs : List Value) (n j : Nat) : Int := eI cs (n - 1 - j)
def gU (cs : List Value) (j : Nat) : Int := ngM cs (j : Int)
def gD (cs : List Value) (j : Nat) : Int := dbM cs (j : Int)
theorem fl1_t {l : Nat} {b : List Value} (h : b.length = l) (hl : l < 1000000) : fl1 l b = true := by
  unfold fl1
  rw [decide_eq_true rfl, decide_eq_true (by omega), decide_eq_true (by omega)]; rfl
theorem cB_t {cs : List Value} {n c j : Nat} (h : okI cs n c) (hj : j < n) : cB cs (.i .i64) (j : Int) = true := h.2.2.2 j hj
end
end Go.Proofs.YteemponkignnhaaGreat.Ways
set_option maxRecDepth 10000
noncomputable section
namespace Go.Proofs.YteemponkignnhaaGreat.Ways
open Go Go.Ex Go.RowKit Go.Turn Go.Ex.Dia
theorem sc_eq (cs : List Value) (n : Nat) : SS_ cs n = (cntR ((ipts cs n).foldl ps [])).1 ∧ CC_ cs n = (cntR ((ipts cs n).foldl ps [])).2 := by
  unfold SS_ CC_
  rw [cnt_rv, rvI_rev]
  exact ⟨rfl, rfl⟩
section
variable {cs : List Value} {n : Nat}
theorem ipts_mem {p : Pt} : ∀ {j : Nat}, p ∈ ipts cs j → ∃ k, k < j ∧ p = ((k : Int), eI cs k)
  | 0, h => by cases h
  | j + 1, h => by
    rcases List.mem_append.1 (show p ∈ ipts cs j ++ [((j : Int), eI cs j)] from h) with h | h
    · obtain ⟨k, h1, h2⟩ := ipts_mem h
      exact ⟨k, by omega, h2⟩
    · exact ⟨j, by omega, List.mem_singleton.1 h⟩
theorem fold_mem {p : Pt} : ∀ {l D : List Pt}, p ∈ l.foldl ps D → p ∈ l ∨ p ∈ D
  | [], _, h => .inr h
  | q :: l, D, h => by
    rcases fold_mem (l := l) (D := ps D q) h with h | h
    · exact .inl (List.mem_cons_of_mem _ h)
    · rcases ps_mem h with h | h
      · exact .inl (by rw [h]; exact List.mem_cons_self ..)
      · exact .inr h
theorem Fx.rev' (h : Fx cs n 0) : Rev ((ipts cs n).foldl ps []) := by
  have := h.rev
  rwa [rvI_rev] at this
theorem Fx.full (h : Fx cs n 0) : Red (vls (ipts cs n)).reverse (cvs (CC_ cs n)) (vls (SS_ cs n)) ∧ NF (vls (SS_ cs n)) := by
  obtain ⟨e3, e4⟩ := sc_eq cs n
  rw [e3, e4]
  exact Ways.full h.rev'
theorem prs_cvs (C : List Cy) : ∀ j, j ≤ C.length → prsV (flatC C) j = (cvs C).take j
  | 0, _ => rfl
  | j + 1, hj => by
    obtain ⟨_, _, f2, f3⟩ := f_fl (C := C) (j := j) (by omega)
    show prsV (flatC C) j ++ [(f_ (flatC C) (j : Int).toNat 2, f_ (flatC C) (j : Int).toNat 3)] = _
    rw [prs_cvs C j (by omega), show ((j : Nat) : Int).toNat = j from rfl, f2, f3, List.take_add_one, List.getElem?_eq_getElem (show j < (cvs C).length by unfold cvs; rw [List.length_map]; omega)]
    congr 1
    unfold cvs
    rw [List.getElem_map]
    show [(minQ _ _, maxQ _ _)] = [_]
    congr 1
    refine Prod.ext ?_ ?_
    · show (if _ then _ else _) = _
      split <;> omega
    · show (if _ then _ else _) = _
      split <;> omega
theorem so_cvs (C : List Cy) : soV (flatC C) C.length = Ins.sort (cvs C) := by
  unfold soV
  rw [prs_cvs C _ (Nat.le_refl _), List.take_of_length_le (by unfold cvs; simp)]
theorem same_refl {eq : List Value → List Value → Nat → Bool} {a : List Value} {n : Nat} (he : ∀ j, j < n → eq a a j = true) : sameE eq a a n n = true := by
  unfold sameE
  rw [decide_eq_true rfl, show firstF (fun j => cond (eq a a j) 0 1) n 0 = 0 from firstF_zr.2 fun j hj => by rw [he j hj]; rfl]; rfl
theorem eqP_refl (a : List Value) (j : Nat) : eqP a a j = true := by
  unfold eqP
  simp
theorem vals_same {A C : List Cy} (h : (cvs A).Perm (cvs C)) : A.length = C.length ∧ sameE eqP (flatP (soV (flatC A) A.length).reverse) (flatP (soV (flatC C) C.length).reverse) A.length C.length = true := by
  have hl : A.length = C.length := by
    have := h.length_eq
    unfold cvs at this
    simpa using this
  refine ⟨hl, ?_⟩
  rw [so_cvs, so_cvs, Ins.perm_sort h, hl]
  exact same_refl fun j _ => eqP_refl _ j
end
end Go.Proofs.YteemponkignnhaaGreat.Ways
set_option maxRecDepth 10000
noncomputable section
namespace Go.Proofs.YteemponkignnhaaGreat.Ways
open Go Go.Ex Go.RowKit Go.Turn Go.Ex.Dia
theorem rev_fold : ∀ (X D : List Pt), Rev D → (∀ p ∈ X, Bd p) → X.Pairwise (fun a b => a.1 < b.1) → (∀ x ∈ D, ∀ p ∈ X, x.1 < p.1) → Rev (X.foldl ps D)
  | [], D, h, _, _, _ => h
  | p :: X, D, h, hb, hx, hd => by
    refine rev_fold X (ps D p) (ps_rev h (hb p (List.mem_cons_self ..)) (fun x hxD => hd x hxD p (List.mem_cons_self ..))) (fun q hq => hb q (List.mem_cons_of_mem _ hq)) (List.pairwise_cons.1 hx).2 fun x hx' q hq => ?_
    rcases ps_mem hx' with rfl | h'
    · exact (List.pairwise_cons.1 hx).1 q hq
    · exact hd x h' q (List.mem_cons_of_mem _ hq)
theorem eJ_zero {X : List Pt} (hb : ∀ p ∈ X, 0 ≤ p.1 ∧ p.1 ≤ 39999) (hx : X.Pairwise (fun a b => a.1 < b.1)) : eJ X = 0 := by
  have h1 : firstF (eIx (flatP X)) X.length 0 = 0 := firstF_zr.2 fun j hj => by
    unfold eIx
    rw [pA_fl hj]
    exact if_pos (hb _ (List.getElem_mem hj))
  have h2 : firstF (eOr (-1) (flatP X)) X.length 0 = 0 := firstF_zr.2 fun j hj => by
    unfold eOr pvA orE
    rw [pA_fl hj]
    have hj0 := (hb _ (List.getElem_mem hj)).1
    by_cases h : j = 0
    · rw [if_pos h, ltF_eq, decide_eq_true (by omega)]; rfl
    · rw [if_neg h, pA_fl (by omega), ltF_eq, decide_eq_true (List.pairwise_iff_getElem.1 hx (j - 1) j (by omega) hj (by omega))]; rfl
  unfold eJ
  rw [h1, h2]; rfl
section
variable {cs : List Value} {n : Nat}
theorem Fx.at_lt (h : Fx cs n 0) {p : Pt} (hp : p ∈ SS_ cs n) : 0 ≤ p.1 ∧ p.1 < n ∧ -32768 ≤ p.2 ∧ p.2 ≤ 32768 := by
  have h1 := h.memS hp
  have h2 : p ∈ (ipts cs n).foldl ps [] := by
    have e : (rvI cs n).reverse = (ipts cs n).foldl ps [] := rvI_rev cs n
    rw [← e]; exact List.mem_reverse.2 h1
  have h3 := h.bd h1
  rcases fold_mem h2 with h4 | h4
  · obtain ⟨k, hk, rfl⟩ := ipts_mem h4
    exact ⟨h3.1, by show ((k : Nat) : Int) < (n : Int); omega, h3.2.2⟩
  · cases h4
theorem Fx.up (h : Fx cs n 0) : (SS_ cs n).reverse.Pairwise (fun a b => a.1 < b.1) := List.pairwise_reverse.2 h.srev.dn
noncomputable def clX (cs : List Value) (n : Nat) : List Pt := JE (DS_ cs n) (DS_ cs n) (LD_ cs n - 1) (LD_ cs n - 1) (dJ (DS_ cs n) (LD_ cs n - 1))
theorem clX_facts (h : Fx cs n 0) (h2 : 2 ≤ LD_ cs n) : (∀ p ∈ clX cs n, Bd p) ∧ (clX cs n).Pairwise (fun a b => a.1 < b.1) ∧ vls (clX cs n) = (vls (SS_ cs n)).reverse ++ (vls (SS_ cs n)).reverse := by
  have hst := h.st.2
  have hl : (SS_ cs n).reverse.length = LD_ cs n := by rw [List.length_reverse]; rfl
  have hn := h.n24
  have hm : LD_ cs n - 1 + 1 = LD_ cs n := by omega
  have hup := h.up
  have hat : ∀ p ∈ (SS_ cs n).reverse, 0 ≤ p.1 ∧ p.1 < n ∧ -32768 ≤ p.2 ∧ p.2 ≤ 32768 := fun p hp => h.at_lt (List.mem_reverse.1 hp)
  unfold clX
  rw [hst]
  generalize hR : (SS_ cs n).reverse = R at hup hat hl
  have hvR : vls R = (vls (SS_ cs n)).reverse := by
    unfold vls
    rw [← hR, List.map_reverse]
  have h0 := hat _ (List.getElem_mem (show 0 < R.length by omega))
  have h1 := hat _ (List.getElem_mem (show LD_ cs n - 1 < R.length by omega))
  have hd : dJ (flatP R) (LD_ cs n - 1) = (R[LD_ cs n - 1]'(by omega)).1 - (R[0]'(by omega)).1 + 1 := by
    unfold dJ sh29
    rw [show ((LD_ cs n - 1 : Nat) : Int).toNat = LD_ cs n - 1 from rfl, pA_fl (show LD_ cs n - 1 < R.length by omega), pA_fl (show 0 < R.length by omega), wrapF_in (n := _ - _) (by omega) (by omega), wrapF_in (by omega) (by omega)]
  have hle : ∀ p ∈ R, (R[0]'(by omega)).1 ≤ p.1 ∧ p.1 ≤ (R[LD_ cs n - 1]'(by omega)).1 := by
    intro p hp
    obtain ⟨k, hk, rfl⟩ := List.getElem_of_mem hp
    have g := List.pairwise_iff_getElem.1 hup
    constructor
    · by_cases hk0 : k = 0
      · subst hk0; exact Int.le_refl _
      · have := g 0 k (by omega) hk (by omega); omega
    · by_cases hk0 : k = LD_ cs n - 1
      · subst hk0; exact Int.le_refl _
      · have := g k (LD_ cs n - 1) hk (by omega) (by omega); omega
  have hpts : pts (flatP R) (LD_ cs n - 1 + 1) = R := by rw [pts_flat _ _ (by omega), List.take_of_length_le (by omega)]
  have hsh : ∀ p ∈ R, shP (dJ (flatP R) (LD_ cs n - 1)) p = (p.1 + dJ (flatP R) (LD_ cs n - 1), p.2) := fun p hp => by
    have := hat p hp
    unfold shP
    rw [hd, wrapF_in (by omega) (by omega)]
  unfold JE
  rw [hpts]
  have hmap : R.map (shP (dJ (flatP R) (LD_ cs n - 1))) = R.map fun p => (p.1 + dJ (flatP R) (LD_ cs n - 1), p.2) := List.map_congr_left hsh
  rw [hmap]
  refine ⟨fun p hp => ?_, List.pairwise_append.2 ⟨hup, ?_, fun a ha b hb => ?_⟩, ?_⟩
  · rcases List.mem_append.1 hp with hp | hp
    · have := hat p hp
      exact ⟨by omega, by omega, this.2.2⟩
    · obtain ⟨q, hq, rfl⟩ := List.mem_map.1 hp
      have h3 := hat q hq
      have h4 := hle q hq
      refine ⟨?_, ?_, h3.2.2⟩
      · show 0 ≤ q.1 + _; omega
      · show q.1 + _ ≤ 39999; omega
  · refine List.pairwise_map.2 (hup.imp fun {a b} hab => ?_)
    show a.1 + _ < b.1 + _
    omega
  · obtain ⟨q, hq, rfl⟩ := List.mem_map.1 hb
    have h3 := hle a ha
    have h4 := hle q hq
    show a.1 < q.1 + _
    omega
  · rw [← hvR]
    unfold vls
    rw [List.map_append, List.map_map]; rfl
theorem cyK_eq (cs : List Value) (n : Nat) : CyK cs n = (cntR ((clX cs n).foldl ps [])).2 := by
  unfold CyK CJ XJ
  rw [cnt_R, pts_flat _ _ (Nat.le_refl _), List.take_length, RV_flat, List.reverse_reverse, ← Turn.same]; rfl
theorem mem_vls {P : List Pt} {x : Int} (h : x ∈ vls P) : ∃ p ∈ P, p.2 = x := by
  unfold vls at h
  obtain ⟨p, h1, h2⟩ := List.mem_map.1 h
  exact ⟨p, h1, h2⟩
theorem gr_ends {P : List Pt} (hb : ∀ p ∈ P, Bd p) (hne : P ≠ []) : ∃ m M : Int, m ∈ vls P ∧ M ∈ vls P ∧ (∀ x ∈ vls P, m ≤ x ∧ x ≤ M) ∧ grE (flatP P) P.length = M - m := by
  obtain ⟨n, hn⟩ : ∃ n, P.length = n + 1 := ⟨P.length - 1, by have := List.length_pos_iff.2 hne; omega⟩
  obtain ⟨j1, h1, g1⟩ := fo_mem (cs := lds (flatP P) P.length) (f := mxI) (fun a b => by unfold mxI; split <;> simp) n
  obtain ⟨j2, h2, g2⟩ := fo_mem (cs := lds (flatP P) P.length) (f := mnI) (fun a b => by unfold mnI; split <;> simp) n
  have b1 : eI (lds (flatP P) P.length) j1 = (P[j1]'(by omega)).2 := by rw [eI_lds (by omega), pB_fl (by omega)]
  have b2 : eI (lds (flatP P) P.length) j2 = (P[j2]'(by omega)).2 := by rw [eI_lds (by omega), pB_fl (by omega)]
  rw [← hn] at g1 g2
  have c1 := (hb _ (List.getElem_mem (show j1 < P.length by omega))).2.2
  have c2 := (hb _ (List.getElem_mem (show j2 < P.length by omega))).2.2
  refine ⟨(P[j2]'(by omega)).2, (P[j1]'(by omega)).2, List.mem_map.2 ⟨_, List.getElem_mem _, rfl⟩, List.mem_map.2 ⟨_, List.getElem_mem _, rfl⟩, fun x hx => ?_, ?_⟩
  · obtain ⟨p, hp, rfl⟩ := mem_vls hx
    obtain ⟨a, ha, rfl⟩ := List.getElem_of_mem hp
    have m1 := fo_le (cs := lds (flatP P) P.length) P.length a ha
    have la : eI (lds (flatP P) P.length) a = P[a].2 := by rw [eI_lds ha, pB_fl ha]
    rw [la, g1.trans b1, g2.trans b2] at m1
    exact ⟨m1.2, m1.1⟩
  · unfold grE
    rw [g1.trans b1, g2.trans b2, wrapF_in (by omega) (by omega)]
theorem Fx.closed (h : Fx cs n 0) (h2 : 2 ≤ LD_ cs n) : P29 (DS_ cs n) (LD_ cs n) (LD_ cs n) ∧ ∃ k, k < (CyK cs n).length ∧ wrapF .i64 (f_ (flatC (CyK cs n)) k 3 - f_ (flatC (CyK cs n)) k 2) = gRm cs n := by
  obtain ⟨x1, x2, x3⟩ := clX_facts h h2
  have hRev : Rev ((clX cs n).foldl ps []) := rev_fold _ _ ⟨fun p h => (by cases h), .nil, trivial⟩ x1 x2 (fun x hx => by cases hx)
  obtain ⟨r1, r2⟩ := Ways.full hRev
  rw [x3, List.reverse_append, List.reverse_reverse, ← cyK_eq] at r1
  obtain ⟨m, M, hm, hM, hw, hg⟩ := gr_ends (P := rvI cs n) (fun _ hp => h.bd hp) (by
    intro he
    have h3 := h.rn.1
    have h4 : RN_ cs n = (rvI cs n).length := rfl
    rw [h4, he] at h3
    exact absurd h3 (by decide))
  obtain ⟨e3, e4⟩ := sc_eq cs n
  have erv : (rvI cs n).reverse = (ipts cs n).foldl ps [] := rvI_rev cs n
  obtain ⟨k1, k2⟩ := red_cnt h.rev'
  rw [← e3, ← e4, ← erv] at k1
  have hwr : Wn m M (vls (rvI cs n).reverse) := fun x hx => hw x (by
    unfold vls at hx ⊢
    rw [List.map_reverse] at hx
    exact List.mem_reverse.1 hx)
  have hin : ∀ x, x ∈ vls (rvI cs n) → x ∈ vls (rvI cs n).reverse := fun x hx => by
    unfold vls at hx ⊢
    rw [List.map_reverse]
    exact List.mem_reverse.2 hx
  have hmS : m ∈ vls (SS_ cs n) := k1.keep (.inl fun y hy => (hwr y hy).1) (hin m hm)
  have hMS : M ∈ vls (SS_ cs n) := k1.keep (.inr fun y hy => (hwr y hy).2) (hin M hM)
  have hwS : Wn m M (vls (SS_ cs n)) := hwr.sub k1.sub
  have hne : m ≠ M := by
    intro he
    have halt := h.srev.alt
    have hl : (SS_ cs n).length = LD_ cs n := rfl
    generalize SS_ cs n = S at hwS halt hl
    match S, hl with
    | [], hl => simp at hl; omega
    | [_], hl => simp at hl; omega
    | p :: q :: S, _ =>
      have g1 := hwS p.2 (by simp [vls])
      have g2 := hwS q.2 (by simp [vls])
      have := halt.ne
      omega
  have hc := Dia.closed r1 (by rw [cyK_eq] at *; exact r2) hwS hmS hMS hne
  unfold cvs at hc
  obtain ⟨q, hq, hq2⟩ := List.mem_map.1 hc
  obtain ⟨k, hk, rfl⟩ := List.getElem_of_mem hq
  obtain ⟨_, _, f2, f3⟩ := f_fl hk
  have hlS : (SS_ cs n).reverse.length = LD_ cs n := by rw [List.length_reverse]; rfl
  have hld : LD_ cs n ≤ 24 := by have := lens cs n; have := h.rn; have := h.n24; omega
  have hm1 : LD_ cs n - 1 + 1 = LD_ cs n := by omega
  refine ⟨⟨rfl, by omega, ⟨(SS_ cs n).reverse, h.st.2, hlS, by omega⟩, by omega, ?_, fun he => ?_⟩, k, hk, ?_⟩
  · unfold e29
    rw [hm1, if_neg (fun hh => hh h.crD)]
    exact eJ_zero (fun p hp => ⟨(x1 p hp).1, (x1 p hp).2.1⟩) x2
  · have e : CyK cs n = [] := he
    have e2 : (CyK cs n).length = 0 := by rw [e]; rfl
    omega
  · have g1 := (Prod.mk.inj hq2).1
    have g2 := (Prod.mk.inj hq2).2
    have b1 : -32768 ≤ m ∧ m ≤ 32768 := by
      obtain ⟨p, hp, rfl⟩ := mem_vls hmS
      exact (h.at_lt hp).2.2
    have b2 : -32768 ≤ M ∧ M ≤ 32768 := by
      obtain ⟨p, hp, rfl⟩ := mem_vls hMS
      exact (h.at_lt hp).2.2
    have e2 : f_ (flatC (CyK cs n)) k 2 = m := by
      rw [f2, ← g1]
      unfold minQ
      split <;> omega
    have e3 : f_ (flatC (CyK cs n)) k 3 = M := by
      rw [f3, ← g2]
      unfold maxQ
      split <;> omega
    rw [e2, e3, wrapF_in (by omega) (by omega)]
    exact hg.symm
end
end Go.Proofs.YteemponkignnhaaGreat.Ways
set_option maxRecDepth 10000
noncomputable section
namespace Go.Proofs.YteemponkignnhaaGreat.Ways
open Go Go.Ex Go.RowKit Go.Turn Go.Ex.Dia
structure MDok (m : MD) (R Rb Ru Rd : List Pt) : Prop where
  dc : m.dc = flatP R
  db : m.db = flatP Rb
  du : m.du = flatP Ru
  dd : m.dd = flatP Rd
  lc : m.lc = R.length
  lb : m.lb = R.length
  lu : m.lu = R.length
  ld : m.ld = R.length
  hb : Rb.length = R.length
  hv : vls Rb = (vls R).reverse
  hu : Ru = R.map (gp fun x => -x)
  hd : Rd = R.map (gp fun x => 2 * x)
  bd : ∀ p ∈ R, -32768 ≤ p.2 ∧ p.2 ≤ 32768
  lt : R.length < 1000000
structure MDcy (m : MD) (C : List Cy) : Prop where
  cy : m.cy = flatC C
  cu : m.cu = flatC (C.map (gc fun x => -x))
  cd : m.cd = flatC (C.map (gc fun x => 2 * x))
  kc : m.kc = C.length
  ku : m.ku = C.length
  kd : m.kd = C.length
  bd : ∀ q ∈ C, (-32768 ≤ q.1.2 ∧ q.1.2 ≤ 32768) ∧ (-32768 ≤ q.2.2 ∧ q.2.2 ≤ 32768)
  lt : C.length < 1000000
end Go.Proofs.YteemponkignnhaaGreat.Ways
set_option maxRecDepth 10000
noncomputable section
namespace Go.Proofs.YteemponkignnhaaGreat.Ways
open Go Go.Ex Go.RowKit Go.Turn Go.Ex.Dia
theorem vP_sel {p : Prop} {t : VT} (h : p) : (vP p t).sel = t.sel := vb_t (tru_iff.2 h)
section
variable {cs : List Value} {n t s : Nat} {ex : Bool}
structure F8 (cs : List Value) (n : Nat) : Prop where
  c : Fx cs n 0
  b : Fx (lstI (gB cs n) n) n 0
  u : Fx (lstI (gU cs) n) n 0
  d : Fx (lstI (gD cs) n) n 0
  vb : vls (SS_ (lstI (gB cs n) n) n) = (vls (SS_ cs n)).reverse
  pb : (cvs (CC_ (lstI (gB cs n) n) n)).Perm (cvs (CC_ cs n))
  su : SS_ (lstI (gU cs) n) n = (SS_ cs n).map (gp fun x => -x)
  cu : CC_ (lstI (gU cs) n) n = (CC_ cs n).map (gc fun x => -x)
  sd : SS_ (lstI (gD cs) n) n = (SS_ cs n).map (gp fun x => 2 * x)
  cd : CC_ (lstI (gD cs) n) n = (CC_ cs n).map (gc fun x => 2 * x)
theorem F8.lens (h : F8 cs n) : LD_ (lstI (gB cs n) n) n = LD_ cs n ∧ LD_ (lstI (gU cs) n) n = LD_ cs n ∧ LD_ (lstI (gD cs) n) n = LD_ cs n ∧
    (CC_ (lstI (gB cs n) n) n).length = (CC_ cs n).length ∧ (CC_ (lstI (gU cs) n) n).length = (CC_ cs n).length ∧ (CC_ (lstI (gD cs) n) n).length = (CC_ cs n).length := by
  have e : ∀ cs : List Value, LD_ cs n = (SS_ cs n).length := fun _ => rfl
  have e1 : (SS_ (lstI (gB cs n) n) n).length = (SS_ cs n).length := by
    have := congrArg List.length h.vb
    unfold vls at this
    simpa using this
  refine ⟨e1, ?_, ?_, (vals_same h.pb).1, ?_, ?_⟩
  · rw [e, e, h.su, List.length_map]
  · rw [e, e, h.sd, List.length_map]
  · rw [h.cu, List.length_map]
  · rw [h.cd, List.length_map]
theorem F8.flat (h : F8 cs n) : (mdM cs (lstI (gB cs n) n) (lstI (gU cs) n) (lstI (gD cs) n) n t s ex).Flat :=
  ⟨h.c.ok.1, h.c.okD.1, h.b.okD.1, h.u.okD.1, h.d.okD.1, flatC_flat _, flatC_flat _, flatC_flat _⟩
end
end Go.Proofs.YteemponkignnhaaGreat.Ways
set_option maxRecDepth 10000
noncomputable section
namespace Go.Proofs.YteemponkignnhaaGreat.Ways
open Go Go.Ex Go.RowKit Go.Turn Go.Ex.Dia
theorem okX_fl {P : List Pt} {k : Nat} (hk : P.length = k) (h : k < 1000000) : okX cP (flatP P) k k := by
  subst hk
  have ho := okP_flat (a := P) h
  exact ⟨ho.1, Nat.le_refl _, by omega, fun j hj => cP_t ho hj⟩
section
variable {cs : List Value} {n t s : Nat} {ex : Bool}
theorem Fx.so (h : Fx cs n 0) : okX cP (flatP (soV (flatC (CC_ cs n)) (CC_ cs n).length).reverse) (CC_ cs n).length (CC_ cs n).length := okX_fl (by rw [List.length_reverse, so_len]) (h.lt.2.1)
end
end Go.Proofs.YteemponkignnhaaGreat.Ways
