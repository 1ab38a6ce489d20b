import Derived.Test.YtphadgdlknhbnaaJf1
import Derived.Test.YtphadgdlknhbnaaKm6
import Derived.Test.YtphadgdlknhbnaaJi1
set_option maxRecDepth 10000
noncomputable section
namespace Go.Proofs.Ytphadgdlknhbnaa.Ways
open Go Go.Ex Go.RowKit Go.Turn Go.Ex.Dia
def JVx (X : List Pt) : List Pt := RV (flatP X) X.length
def LJx (X : List Pt) : Nat := (JVx X).length
def JCx (X : List Pt) : List Value := ((flatP (JVx X)).drop 0).take (LJx X * 2)
def XCx (X : List Pt) : List Cy := (cnt (JCx X) (LJx X)).2
def LYx (X : List Pt) : Nat := (cnt (JCx X) (LJx X)).1.length
noncomputable def YCx (X : List Pt) : List Value := cellO (eO (JCx X) (LJx X) (LJx X))
noncomputable def YKx (X : List Pt) : Nat := capO (eO (JCx X) (LJx X) (LJx X))
def SYx (X : List Pt) : List Pt := (cntR (X.foldl ps [])).1
structure JX (X : List Pt) : Prop where
  bd : ∀ p ∈ X, Bd p
  up : X.Pairwise (fun a b => a.1 < b.1)
  n1 : 1 ≤ X.length
  n24 : X.length ≤ 24
section
variable {X : List Pt}
theorem JX.rev (h : JX X) : Rev (X.foldl ps []) := rev_fold _ _ ⟨fun p h => (by cases h), .nil, trivial⟩ h.bd h.up (fun x hx => by cases hx)
theorem JV_rev (X : List Pt) : (JVx X).reverse = X.foldl ps [] := by
  unfold JVx
  rw [RV_flat, List.reverse_reverse, ← Turn.same]
theorem JC_eq (X : List Pt) : JCx X = flatP (JVx X) := by
  unfold JCx LJx
  rw [List.drop_zero, List.take_of_length_le (by rw [flatP_len]; exact Nat.le_refl _)]
theorem JX.lj (h : JX X) : 1 ≤ LJx X ∧ LJx X ≤ 24 := by
  have h1 := RV_len (cs := flatP X) (n := X.length) h.n1
  have := h.n24
  exact ⟨h1.1, Nat.le_trans h1.2 this⟩
theorem JX.ok (h : JX X) : okP (JCx X) (LJx X) (LJx X) := by
  rw [JC_eq]
  exact okP_flat (by have := h.lj; show LJx X < 1000000; omega)
theorem JX.cr (h : JX X) : crE (JCx X) (LJx X) = 0 := by
  rw [JC_eq]
  refine (cr_flat (by have := h.lj; show LJx X ≤ 40000; omega)).2 ?_
  rw [JV_rev]
  exact h.rev
theorem cntJ (X : List Pt) : cnt (JCx X) (LJx X) = cntR (X.foldl ps []) := by
  rw [cnt_R, JC_eq]
  unfold LJx
  rw [pts_flat _ _ (Nat.le_refl _), List.take_length, JV_rev]
theorem JX.full (h : JX X) : Red (vls X).reverse (cvs (XCx X)) (vls (SYx X)) ∧ NF (vls (SYx X)) := by
  have := Ways.full h.rev
  unfold XCx SYx
  rw [cntJ]
  exact this
theorem JX.lens (h : JX X) : LYx X + 2 * (XCx X).length = LJx X ∧ LYx X = (SYx X).length ∧ 1 ≤ LYx X := by
  refine ⟨cnt_len _ _, by unfold LYx SYx; rw [cntJ], ?_⟩
  have := cnt_ne (JCx X) h.lj.1
  unfold LYx
  cases hq : (cnt (JCx X) (LJx X)).1 with
  | nil => exact absurd hq this
  | cons _ _ => simp
theorem JX.yc (h : JX X) : okP (YCx X) (LYx X) (YKx X) ∧ ∃ J, YCx X = flatP (SYx X).reverse ++ J := by
  have hl := h.lj
  have h1 := (st_ok h.ok hl.1 (by omega)).1
  obtain ⟨_, _, _, J, hJ⟩ := cell_rep h.ok hl.1 (by omega)
  refine ⟨h1, J, ?_⟩
  unfold SYx
  rw [← cntJ]
  exact hJ
theorem JX.yp (h : JX X) : pts (YCx X) (LYx X) = (SYx X).reverse := by
  obtain ⟨_, J, hJ⟩ := h.yc
  rw [hJ, h.lens.2.1, ← List.length_reverse, pts_app _ _ _ (Nat.le_refl _), List.take_length]
theorem JX.yy (h : JX X) : ((YCx X).drop 0).take (LYx X * 2) = flatP (SYx X).reverse := by
  obtain ⟨_, J, hJ⟩ := h.yc
  have hl : (flatP (SYx X).reverse).length = LYx X * 2 := by rw [flatP_len, List.length_reverse, h.lens.2.1]
  rw [hJ, List.drop_zero, ← hl, List.take_left]
theorem JX.ci (h : JX X) : CI (X.foldl ps []) (SYx X) (XCx X) := by
  have := (cntR_inv h.rev).1
  unfold SYx XCx
  rw [cntJ]
  exact this
theorem JX.sy (h : JX X) : Rev (SYx X) := ⟨fun p hp => h.rev.bd p (h.ci.sub.subset hp), h.rev.dn.sublist h.ci.sub, h.ci.alt⟩
theorem JX.gc (h : JX X) : GcE (flatC (XCx X)) (XCx X).length (XCx X).length := by
  have h1 := h.lens
  have h2 := h.lj
  refine ⟨okF_flat _ (by omega), by omega, fun j hj => ?_⟩
  obtain ⟨f0, f1, f2, f3⟩ := f_fl hj
  have hm := List.getElem_mem hj
  obtain ⟨c1, c2⟩ := h.ci.cyc _ hm
  obtain ⟨a0, a1, a2, a3⟩ := h.rev.bd _ (h.ci.perm.subset (List.mem_append_right _ (both_mem hm).1))
  obtain ⟨b0, b1, b2, b3⟩ := h.rev.bd _ (h.ci.perm.subset (List.mem_append_right _ (both_mem hm).2))
  refine ⟨by rw [f0]; exact ⟨a0, a1⟩, by rw [f1]; exact ⟨b0, b1⟩, ?_, ?_, by rw [f0, f1]; exact c1, ?_⟩
  · rw [f2]; unfold minQ; split <;> omega
  · rw [f3]; unfold maxQ; split <;> omega
  · rw [f2, f3]; unfold minQ maxQ; split <;> split <;> omega
theorem JX.ycr (h : JX X) : crE (flatP (SYx X).reverse) (LYx X) = 0 := by
  have h1 := h.lens
  have h2 := h.lj
  have hl : (SYx X).reverse.length = LYx X := by rw [List.length_reverse]; exact h1.2.1.symm
  rw [← hl]
  exact (cr_flat (by rw [hl]; omega)).2 (by rw [List.reverse_reverse]; exact h.sy)
theorem JX.ybd (h : JX X) {j : Nat} (hj : j < LYx X) : -32768 ≤ pB (flatP (SYx X).reverse) j ∧ pB (flatP (SYx X).reverse) j ≤ 32768 := by
  have hl : (SYx X).reverse.length = LYx X := by rw [List.length_reverse]; exact h.lens.2.1.symm
  rw [pB_fl (by omega)]
  exact (h.sy.bd _ (List.mem_reverse.1 (List.getElem_mem _))).2.2
end
theorem rgs_cvs (C : List Cy) : rgs (flatC C) C.length = (cvs C).map fun q => szC q.1 q.2 := by
  unfold rgs cvs
  rw [List.map_map]
  refine List.ext_getElem (by simp) fun j h1 h2 => ?_
  have hj : j < C.length := by simpa using h1
  obtain ⟨_, _, f2, f3⟩ := f_fl hj
  rw [List.getElem_map, List.getElem_range, List.getElem_map]
  show szC (f_ (flatC C) j 2) (f_ (flatC C) j 3) = szC (min C[j].1.2 C[j].2.2) (max C[j].1.2 C[j].2.2)
  rw [f2, f3]
  congr 1
  · unfold minQ; split <;> omega
  · unfold maxQ; split <;> omega
theorem dfs_congr {a b : List Value} {n : Nat} (h : ∀ j, j < n + 1 → pB a j = pB b j) : dfs a n = dfs b n := by
  unfold dfs
  refine List.map_congr_left fun j hj => ?_
  have hj := List.mem_range.1 hj
  unfold dfI
  rw [h j (by omega), h (j + 1) (by omega)]
end Go.Proofs.Ytphadgdlknhbnaa.Ways
set_option maxRecDepth 10000
noncomputable section
namespace Go.Proofs.Ytphadgdlknhbnaa.Ways
open Go Go.Ex Go.RowKit Go.Turn Go.Ex.Dia
def Sd (A : List Value) (n : Nat) : Prop := (n = 0 ∧ A = []) ∨ (Fx A n 0 ∧ n ≤ 12)
def XgJ (A B : List Value) (na nb : Nat) : List Pt := (SS_ A na).reverse ++ (SS_ B nb).reverse.map (shP (na : Int))
section
variable {A B : List Value} {na nb : Nat}
theorem Sd.len (h : Sd A na) : A.length = na ∧ na ≤ 12 := by
  rcases h with ⟨rfl, rfl⟩ | ⟨h, h2⟩
  · exact ⟨rfl, by omega⟩
  · exact ⟨h.len, h2⟩
theorem Sd.full (h : Sd A na) : Red (vls (ipts A na)).reverse (cvs (CC_ A na)) (vls (SS_ A na)) := by
  rcases h with ⟨rfl, rfl⟩ | ⟨h, _⟩
  · exact .nil _
  · exact h.full.1
theorem Sd.at_ (h : Sd A na) {p : Pt} (hp : p ∈ SS_ A na) : 0 ≤ p.1 ∧ p.1 < na ∧ -32768 ≤ p.2 ∧ p.2 ≤ 32768 := by
  rcases h with ⟨rfl, rfl⟩ | ⟨h, _⟩
  · cases hp
  · exact h.at_lt hp
theorem Sd.up (h : Sd A na) : (SS_ A na).reverse.Pairwise (fun a b => a.1 < b.1) := by
  rcases h with ⟨rfl, rfl⟩ | ⟨h, _⟩
  · exact .nil
  · exact h.up
theorem Sd.sl (h : Sd A na) : (SS_ A na).length ≤ na := by
  rcases h with ⟨rfl, rfl⟩ | ⟨h, _⟩
  · exact Nat.le_refl _
  · have := lens A na
    have := h.rn
    show LD_ A na ≤ na
    omega
theorem Sd.ok (h : Sd A na) : ∀ j, j < na → isCellB (.i .i64) A[0 + j * 1]? = true := by
  rcases h with ⟨rfl, rfl⟩ | ⟨h, _⟩
  · exact fun j hj => absurd hj (by omega)
  · exact h.ok.2.2.2
theorem Sd.fl (h : Sd A na) : A.all Ex.flat = true := by
  rcases h with ⟨rfl, rfl⟩ | ⟨h, _⟩
  · rfl
  · exact h.ok.1
theorem Sd.bd (h : Sd A na) : ∀ j, j < na → -32768 ≤ eI A j ∧ eI A j ≤ 32768 := by
  rcases h with ⟨rfl, rfl⟩ | ⟨h, _⟩
  · exact fun j hj => absurd hj (by omega)
  · exact fun j hj => cl_bd (by have := h.n24; omega) h.cl hj
theorem eI_app1 {j : Nat} (h : j < A.length) : eI (A ++ B) j = eI A j := by
  unfold eI
  rw [List.getElem?_append_left (by omega)]
theorem eI_app2 {j : Nat} : eI (A ++ B) (A.length + j) = eI B j := by
  unfold eI
  rw [List.getElem?_append_right (by omega), show 0 + (A.length + j) * 1 - A.length = 0 + j * 1 from by omega]
theorem both_fx (ha : Sd A na) (hb : Sd B nb) (hn : 1 ≤ na + nb) : Fx (A ++ B) (na + nb) 0 := by
  obtain ⟨la, na12⟩ := ha.len
  obtain ⟨lb, nb12⟩ := hb.len
  have hcell : ∀ j, j < na + nb → isCellB (.i .i64) (A ++ B)[0 + j * 1]? = true := fun j hj => by
    by_cases h : j < na
    · rw [List.getElem?_append_left (by omega)]; exact ha.ok j h
    · rw [List.getElem?_append_right (by omega), show 0 + j * 1 - A.length = 0 + (j - na) * 1 from by omega]; exact hb.ok (j - na) (by omega)
  refine ⟨⟨app_flat ha.fl hb.fl, Nat.le_refl _, by omega, hcell⟩, by rw [List.length_append]; omega, hn, by omega, cl_zero (by omega) fun j hj => ?_, by omega⟩
  by_cases h : j < na
  · rw [eI_app1 (by omega)]; exact ha.bd j h
  · have e : j = A.length + (j - na) := by omega
    rw [e, eI_app2]; exact hb.bd (j - na) (by omega)
theorem vls_both (ha : A.length = na) : vls (ipts (A ++ B) (na + nb)) = vls (ipts A na) ++ vls (ipts B nb) := by
  rw [vls_ipts, vls_ipts, vls_ipts, List.range_add, List.map_append, List.map_map]
  congr 1
  · exact List.map_congr_left fun j hj => eI_app1 (by have := List.mem_range.1 hj; omega)
  · refine List.map_congr_left fun j _ => ?_
    subst ha
    exact eI_app2
theorem Xg_jx (ha : Sd A na) (hb : Sd B nb) (hx : 1 ≤ (SS_ A na).length + (SS_ B nb).length) : JX (XgJ A B na nb) ∧ vls (XgJ A B na nb) = (vls (SS_ A na)).reverse ++ (vls (SS_ B nb)).reverse := by
  have h1 := ha.len
  have h2 := hb.len
  have s1 := ha.sl
  have s2 := hb.sl
  have hat := fun p (hp : p ∈ (SS_ A na).reverse) => ha.at_ (List.mem_reverse.1 hp)
  have hbt := fun p (hp : p ∈ (SS_ B nb).reverse) => hb.at_ (List.mem_reverse.1 hp)
  have hsh : ∀ p ∈ (SS_ B nb).reverse, shP (na : Int) p = (p.1 + na, p.2) := fun p hp => by
    have := hbt p hp
    unfold shP
    rw [wrapF_in (by omega) (by omega)]
  have hmap : (SS_ B nb).reverse.map (shP (na : Int)) = (SS_ B nb).reverse.map fun p => (p.1 + (na : Int), p.2) := List.map_congr_left hsh
  unfold XgJ
  rw [hmap]
  refine ⟨⟨fun p hp => ?_, List.pairwise_append.2 ⟨ha.up, ?_, fun a haa b hbb => ?_⟩, ?_, ?_⟩, ?_⟩
  · rcases List.mem_append.1 hp with hp | hp
    · have := hat p hp
      exact ⟨by omega, by omega, this.2.2⟩
    · obtain ⟨q, hq, rfl⟩ := List.mem_map.1 hp
      have := hbt q hq
      exact ⟨by show 0 ≤ q.1 + (na : Int); omega, by show q.1 + (na : Int) ≤ 39999; omega, this.2.2⟩
  · refine List.pairwise_map.2 (hb.up.imp fun {a b} hab => ?_)
    show a.1 + (na : Int) < b.1 + (na : Int)
    omega
  · obtain ⟨q, hq, rfl⟩ := List.mem_map.1 hbb
    have h3 := hat a haa
    have h4 := hbt q hq
    show a.1 < q.1 + (na : Int)
    omega
  · rw [List.length_append, List.length_map, List.length_reverse, List.length_reverse]; exact hx
  · rw [List.length_append, List.length_map, List.length_reverse, List.length_reverse]; omega
  · unfold vls
    rw [List.map_append, List.map_map, List.map_reverse, ← List.map_reverse (l := SS_ B nb)]; rfl
theorem joins (ha : Sd A na) (hb : Sd B nb) (hx : 1 ≤ (SS_ A na).length + (SS_ B nb).length) (hn : 1 ≤ na + nb) :
    vls (SS_ (A ++ B) (na + nb)) = vls (SYx (XgJ A B na nb)) ∧ (cvs (CC_ (A ++ B) (na + nb))).Perm (cvs (CC_ A na ++ (CC_ B nb ++ XCx (XgJ A B na nb)))) := by
  obtain ⟨hX, hv⟩ := Xg_jx ha hb hx
  have h := both_fx ha hb hn
  obtain ⟨f1, f2⟩ := h.full
  rw [vls_both ha.len.1, List.reverse_append] at f1
  have g1 := (hb.full.app (vls (ipts A na)).reverse).trans (ha.full.pre (vls (SS_ B nb)))
  obtain ⟨k1, k2⟩ := hX.full
  rw [hv, List.reverse_append, List.reverse_reverse, List.reverse_reverse] at k1
  have g2 := g1.trans k1
  obtain ⟨e1, e2⟩ := f1.uniq f2 g2 k2
  refine ⟨e1, e2.trans ?_⟩
  rw [cvs_app, cvs_app, ← List.append_assoc]
  exact List.perm_append_comm.append_right _
end
end Go.Proofs.Ytphadgdlknhbnaa.Ways
set_option maxRecDepth 10000
noncomputable section
namespace Go.Proofs.Ytphadgdlknhbnaa.Ways
open Go Go.Ex Go.RowKit Go.Turn Go.Ex.Dia
theorem vC_sel {f : Bool} {g : VT → VT} {t : VT} (h : f = true → (g t).sel = t.sel) : (vC f g t).sel = t.sel := by
  cases f with
  | true => exact h rfl
  | false => rfl
structure Cyc (f : Bool) (C : List Cy) : Prop where
  fl : if f = true then C ≠ [] else C = []
  le : C.length ≤ 24
  gc : GcE (flatC C) C.length C.length
section
variable {f fa fb fx : Bool} {C ca cb cx : List Cy}
theorem Cyc.nil (h : Cyc false C) : C = [] := h.fl
theorem Cyc.pos (h : Cyc true C) : 1 ≤ C.length := by
  have := h.fl
  cases C with
  | nil => exact absurd rfl this
  | cons _ _ => simp
theorem take_C (C : List Cy) : ((flatC C).drop 0).take (C.length * 4) = flatC C := by rw [List.drop_zero, List.take_of_length_le (by rw [flatC_len]; exact Nat.le_refl _)]
theorem apK_C (h : Cyc true C) : apK C.length C.length 4 0 (flatC C) = true := by
  have h1 := h.pos
  have h2 := h.le
  unfold apK
  rw [flatC_len]
  simp only [Bool.and_eq_true, Bool.not_eq_true', decide_eq_true_eq, decide_eq_false_iff_not]
  omega
theorem Cyc.okF (h : Cyc f C) : okF (flatC C) C.length C.length := okF_flat _ (by have := h.le; omega)
theorem Cyc.cf (h : Cyc true C) : CfE (flatC C) C.length C.length := ⟨h.okF, h.pos, by have := h.le; omega, flatC_len _⟩
theorem oneC : ∀ C : List Cy, (flatC C).all oneB = true
  | [] => rfl
  | q :: C => by
    show ([_, _, _, _] ++ flatC C).all oneB = true
    rw [List.all_append, oneC C]; rfl
theorem fullC {D : List Cy} (h : Cyc true C) {l : Nat} (hl : l = D.length) (hD : l ≤ 1000) : fullB C.length C.length l l 4 0 (flatC C) (flatC D) = true := by
  have h1 := h.pos
  have h2 := h.le
  subst hl
  unfold fullB
  rw [take_C, oneC, flatC_len, flatC_len]
  simp only [Bool.and_eq_true, Bool.not_eq_true', decide_eq_true_eq, decide_eq_false_iff_not, and_true, true_and]
  omega
theorem e1_C (h : Cyc fa ca) : e1J fa ca = flatC ca := by
  cases fa with
  | true => exact take_C ca
  | false => rw [h.nil]; rfl
theorem e2_C (ha : Cyc fa ca) (hb : Cyc fb cb) : e2J fa fb ca cb = flatC (ca ++ cb) := by
  unfold e2J
  rw [e1_C ha, flatC_app]
  cases fb with
  | true => rw [take_C]; rfl
  | false => rw [hb.nil]; exact (List.append_nil _).symm
theorem e3_C (ha : Cyc fa ca) (hb : Cyc fb cb) (hx : Cyc fx cx) : e3J fa fb fx ca cb cx = flatC (ca ++ (cb ++ cx)) := by
  unfold e3J
  rw [e2_C ha hb, ← List.append_assoc, flatC_app (ca ++ cb)]
  cases fx with
  | true => rw [take_C]; rfl
  | false => rw [hx.nil]; exact (List.append_nil _).symm
theorem l2_C (ha : Cyc fa ca) (hb : Cyc fb cb) : l2J fa fb ca cb = (ca ++ cb).length := by
  unfold l2J
  rw [List.length_append]
  cases fa with
  | true =>
    cases fb with
    | true => rfl
    | false => rw [hb.nil]; rfl
  | false =>
    cases fb with
    | true => rw [ha.nil]; exact (Nat.zero_add _).symm
    | false => rw [ha.nil, hb.nil]; rfl
theorem l3_C (ha : Cyc fa ca) (hb : Cyc fb cb) (hx : Cyc fx cx) : l3J fa fb fx ca cb cx = (ca ++ (cb ++ cx)).length := by
  unfold l3J
  rw [l2_C ha hb, ← List.append_assoc, @List.length_append _ (ca ++ cb)]
  cases fx with
  | true =>
    cases hab : (fa || fb) with
    | true => rfl
    | false =>
      obtain ⟨rfl, rfl⟩ := Bool.or_eq_false_iff.1 hab
      rw [ha.nil, hb.nil]; exact (Nat.zero_add _).symm
  | false => rw [hx.nil]; rfl
theorem qAll_sel (ha : Cyc fa ca) (hb : Cyc fb cb) (hx : Cyc fx cx) (t : VT) : (qAll fa fb fx ca cb cx t).sel = t.sel := by
  have la := ha.le
  have lb := hb.le
  unfold qAll
  rw [vC_sel fun h => by subst h; exact aV_sel (apK_C ha)]
  refine Eq.trans (b := (vC fx (vP (CfE (flatC cx) cx.length cx.length)) <| (fun u => cond (fa || fb) (cond fx (aV (fullB cx.length cx.length (l2J fa fb ca cb) (l2J fa fb ca cb) 4 0 (flatC cx) (e2J fa fb ca cb)) u) (aV (decide (l2J fa fb ca cb ≤ l2J fa fb ca cb)) u)) (vC fx (aV (apK cx.length cx.length 4 0 (flatC cx))) u)) t).sel) ?_ ?_
  · cases fa with
    | true =>
      cases fb with
      | true => exact aV_sel (by rw [e1_C ha]; exact fullC hb rfl (by omega))
      | false => exact aV_sel (decide_eq_true (Nat.le_refl _))
    | false => exact vC_sel fun h => by subst h; exact aV_sel (apK_C hb)
  · rw [vC_sel fun h => by subst h; exact vP_sel hx.cf]
    dsimp only
    cases hab : (fa || fb) with
    | true =>
      cases fx with
      | true => exact aV_sel (by rw [e2_C ha hb]; exact fullC hx (l2_C ha hb) (by rw [l2_C ha hb, List.length_append]; omega))
      | false => exact aV_sel (decide_eq_true (Nat.le_refl _))
    | false => exact vC_sel fun h => by subst h; exact aV_sel (apK_C hx)
theorem qVal_sel {fc : Bool} {cc ce : List Cy} {e : List Value} {l : Nat} (hc : Cyc fc cc) (he : e = flatC ce) (hl : l = ce.length) (hp : (cvs cc).Perm (cvs ce)) (t : VT) : (qVal fc cc e l t).sel = t.sel := by
  subst he hl
  obtain ⟨h1, h2⟩ := vals_same hp
  have hle := hc.le
  unfold qVal
  cases fc with
  | true =>
    have hpo := hc.pos
    show (vP _ _).sel = _
    rw [vP_sel ⟨hc.okF, hpo, by omega⟩, vP_sel ⟨okF_flat _ (by omega), by omega, by omega⟩, vP_sel ⟨okX_fl (by rw [List.length_reverse, so_len]) (by omega), okX_fl (by rw [List.length_reverse, so_len]) (by omega)⟩, vb_f (by rw [h2]; rfl)]
  | false => exact vb_f rfl
theorem qDm_sel {e : Int} (h : Cyc f C) (he : ex3 e) (t : VT) : (qDm f C e t).sel = t.sel := by
  have hle := h.le
  unfold qDm
  rw [vC_sel fun hf => by subst hf; exact vP_sel h.cf]
  cases f with
  | true => exact vP_sel ⟨h.gc, by omega, he⟩
  | false => exact vP_sel he
theorem xc_C (h : Cyc fx cx) : xcJ fx cx = flatC cx ∧ cond fx cx.length 0 = cx.length := by
  cases fx with
  | true => exact ⟨take_C _, rfl⟩
  | false => rw [h.nil]; exact ⟨rfl, rfl⟩
theorem vDm_C {e : Int} (h : Cyc f C) : vDm f C e = sL e (rgs (flatC C) C.length) := by
  cases f with
  | true => rfl
  | false => rw [h.nil]; rfl
theorem sL_bd {e : Int} : ∀ {l : List Int}, (∀ x ∈ l, 0 ≤ x ∧ x ≤ 65536) → 0 ≤ sL e l ∧ sL e l ≤ 281474976710656 * l.length
  | [], _ => ⟨Int.le_refl _, Int.le_refl _⟩
  | x :: l, h => by
    have h1 := sL_bd (e := e) fun y hy => h y (List.mem_cons_of_mem _ hy)
    have h2 := pwI_bd (e := e) (h x (List.mem_cons_self ..))
    show 0 ≤ pwI x e + sL e l ∧ pwI x e + sL e l ≤ 281474976710656 * ((l.length + 1 : Nat) : Int)
    omega
theorem sL_rgs {e : Int} (h : Cyc f C) : 0 ≤ sL e (rgs (flatC C) C.length) ∧ sL e (rgs (flatC C) C.length) ≤ 281474976710656 * 24 := by
  have := sL_bd (e := e) (rgs_bd h.gc)
  rw [rgs_len] at this
  have := h.le
  omega
end
end Go.Proofs.Ytphadgdlknhbnaa.Ways
set_option maxRecDepth 10000
noncomputable section
namespace Go.Proofs.Ytphadgdlknhbnaa.Ways
open Go Go.Ex Go.RowKit Go.Turn Go.Ex.Dia
noncomputable def YYx (X : List Pt) : List Value := ((YCx X).drop 0).take (LYx X * 2)
noncomputable def tlB (fa fb fx : Bool) (ca cb : List Cy) (AB : List Value) (N : Nat) (X : List Pt) (e : Int) : VT :=
  qDm fa ca e <| qDm fb cb e <| vC fx (aV (apK (XCx X).length (XCx X).length 4 0 (flatC (XCx X)))) <|
  vP (GcE (xcJ fx (XCx X)) (cond fx (XCx X).length 0) (cond fx (XCx X).length 0) ∧ cond fx (XCx X).length 0 ≤ 100 ∧ ex3 e) <|
  aV (apK (LYx X) (YKx X) 2 0 (YCx X)) <| vP (BokE (YYx X) (LYx X) (LYx X) ∧ crE (YYx X) (LYx X) = 0 ∧ ex3 e ∧ 1 ≤ LYx X ∧ LYx X ≤ 100 ∧ ∀ j, j < LYx X → -32768 ≤ pB (YYx X) j ∧ pB (YYx X) j ≤ 32768) <|
  .leaf (b_ (eqF (vT AB N e) (wrapF .i64 (wrapF .i64 (wrapF .i64 (wrapF .i64 (2 * vDm fa ca e) + wrapF .i64 (2 * vDm fb cb e)) + wrapF .i64 (2 * sL e (rgs (xcJ fx (XCx X)) (cond fx (XCx X).length 0)))) + sL e (dfs (YYx X) (LYx X - 1))))))
noncomputable def tlA (fa fb fx : Bool) (ca cb : List Cy) (AB : List Value) (N : Nat) (X : List Pt) (e : Int) (ap : VT → VT) : VT :=
  aV (apK (LJx X) (LJx X) 2 0 (flatP (JVx X))) <| vP (BokE (JCx X) (LJx X) (LJx X) ∧ crE (JCx X) (LJx X) = 0) <|
  vP (P59 fx (JCx X) (LJx X) (LJx X)) <| .br (ltF 24 (cond fx (XCx X).length 0 : Nat)) lfF <|
  qAll fa fb fx ca cb (XCx X) <| qVal (fa || (fb || fx)) (CC_ AB N) (e3J fa fb fx ca cb (XCx X)) (l3J fa fb fx ca cb (XCx X)) <|
  vP (TokE (DS_ AB N) (LD_ AB N) (LD_ AB N)) <| vP (TokE (YCx X) (LYx X) (YKx X)) <|
  vP (TokE (flatP (pts (YCx X) (LYx X))) (LYx X) (LYx X)) <|
  vP (okI (lstI (pB (DS_ AB N)) (LD_ AB N)) (LD_ AB N) (LD_ AB N) ∧ okI (lstI (pB (flatP (pts (YCx X) (LYx X)))) (LYx X)) (LYx X) (LYx X) ∧
    LD_ AB N = LYx X ∧ LD_ AB N < 1000000 ∧ ∀ j, j < LD_ AB N → eI (lstI (pB (DS_ AB N)) (LD_ AB N)) j = eI (lstI (pB (flatP (pts (YCx X) (LYx X)))) (LYx X)) j) <|
  ap <| vP (N = N ∧ Fx AB N 0 ∧ ex3 e) <| tlB fa fb fx ca cb AB N X e
section
variable {fa fb fx : Bool} {ca cb : List Cy} {AB : List Value} {N : Nat} {X : List Pt} {e : Int}
structure TJw (fa fb fx : Bool) (ca cb : List Cy) (AB : List Value) (N : Nat) (X : List Pt) : Prop where
  ab : Fx AB N 0
  x : JX X
  a : Cyc fa ca
  b : Cyc fb cb
  f : if fx = true then XCx X ≠ [] else XCx X = []
  v : vls (SS_ AB N) = vls (SYx X)
  p : (cvs (CC_ AB N)).Perm (cvs (ca ++ (cb ++ XCx X)))
theorem TJw.cx (h : TJw fa fb fx ca cb AB N X) : Cyc fx (XCx X) := ⟨h.f, by have := h.x.lens; have := h.x.lj; omega, h.x.gc⟩
theorem TJw.cc (h : TJw fa fb fx ca cb AB N X) : Cyc (fa || (fb || fx)) (CC_ AB N) := by
  refine ⟨?_, by have := h.ab.sz; omega, h.ab.gc⟩
  have hl := h.p.length_eq
  unfold cvs at hl
  simp only [List.length_map, List.length_append] at hl
  have hc := h.cx
  cases fa with
  | true =>
    have := h.a.pos
    exact fun hh => by rw [hh] at hl; simp only [List.length_nil] at hl; omega
  | false =>
    cases fb with
    | true =>
      have := h.b.pos
      exact fun hh => by rw [hh] at hl; simp only [List.length_nil] at hl; omega
    | false =>
      cases fx with
      | true =>
        have := hc.pos
        exact fun hh => by rw [hh] at hl; simp only [List.length_nil] at hl; omega
      | false =>
        rw [h.a.nil, h.b.nil, hc.nil] at hl
        exact List.eq_nil_of_length_eq_zero hl
theorem TJw.ld (h : TJw fa fb fx ca cb AB N X) : LD_ AB N = LYx X := by
  have h1 := congrArg List.length h.v
  unfold vls at h1
  simp only [List.length_map] at h1
  rw [h.x.lens.2.1]
  exact h1
theorem TJw.pb (h : TJw fa fb fx ca cb AB N X) {j : Nat} (hj : j < LYx X) : pB (DS_ AB N) j = pB (flatP (SYx X).reverse) j := by
  have hl := h.ld
  have l1 : (SS_ AB N).reverse.length = LYx X := by rw [List.length_reverse, ← hl]; rfl
  have l2 : (SYx X).reverse.length = LYx X := by rw [List.length_reverse, h.x.lens.2.1]
  have hv : vls (SS_ AB N).reverse = vls (SYx X).reverse := by
    unfold vls
    rw [List.map_reverse, List.map_reverse]
    exact congrArg List.reverse h.v
  rw [h.ab.st.2, pB_fl (by omega), pB_fl (by omega)]
  have h2 : (vls (SS_ AB N).reverse)[j]? = (vls (SYx X).reverse)[j]? := by rw [hv]
  unfold vls at h2
  rw [List.getElem?_map, List.getElem?_map, List.getElem?_eq_getElem (by omega), List.getElem?_eq_getElem (by omega)] at h2
  exact Option.some.inj h2
theorem TJw.yy (h : TJw fa fb fx ca cb AB N X) : YYx X = flatP (SYx X).reverse := h.x.yy
theorem TJw.okY (h : TJw fa fb fx ca cb AB N X) : okP (flatP (SYx X).reverse) (LYx X) (LYx X) := by
  have h1 := h.x.lens
  have h2 := h.x.lj
  have := okP_flat (a := (SYx X).reverse) (by rw [List.length_reverse]; omega)
  rw [List.length_reverse, ← h1.2.1] at this
  exact this
theorem TJw.df (h : TJw fa fb fx ca cb AB N X) : dfs (ST_ AB N) (LD_ AB N - 1) = dfs (YYx X) (LYx X - 1) := by
  have h1 := h.x.lens
  rw [h.yy, h.ld]
  refine dfs_congr fun j hj => ?_
  rw [← st_pB (by rw [h.ld]; omega)]
  exact h.pb (by omega)
theorem TJw.rg (h : TJw fa fb fx ca cb AB N X) : sL e (rgC AB N) = sL e (rgs (flatC ca) ca.length) + (sL e (rgs (flatC cb) cb.length) + sL e (rgs (flatC (XCx X)) (XCx X).length)) := by
  unfold rgC
  rw [rgs_cvs, sL_perm (h.p.map _), cvs_app, cvs_app, List.map_append, List.map_append, sL_app, sL_app, ← rgs_cvs, ← rgs_cvs, ← rgs_cvs]
theorem TJw.vt (h : TJw fa fb fx ca cb AB N X) : eqF (vT AB N e) (wrapF .i64 (wrapF .i64 (wrapF .i64 (wrapF .i64 (2 * vDm fa ca e) + wrapF .i64 (2 * vDm fb cb e)) + wrapF .i64 (2 * sL e (rgs (xcJ fx (XCx X)) (cond fx (XCx X).length 0)))) + sL e (dfs (YYx X) (LYx X - 1)))) = true := by
  obtain ⟨x1, x2⟩ := xc_C h.cx
  have b1 := sL_rgs (e := e) h.a
  have b2 := sL_rgs (e := e) h.b
  have b3 := sL_rgs (e := e) h.cx
  have hb4 := sL_bd (e := e) h.ab.df_bd
  have hs := h.ab.sz
  rw [dfC_len] at hb4
  have b4 : 0 ≤ sL e (dfs (YYx X) (LYx X - 1)) ∧ sL e (dfs (YYx X) (LYx X - 1)) ≤ 281474976710656 * 24 := by
    rw [← h.df]
    show 0 ≤ sL e (dfC AB N) ∧ sL e (dfC AB N) ≤ _
    omega
  rw [vDm_C h.a, vDm_C h.b, x1, x2, eqF_d]
  refine decide_eq_true ?_
  unfold vT
  rw [h.rg, h.df]
  generalize sL e (rgs (flatC ca) ca.length) = a at *
  generalize sL e (rgs (flatC cb) cb.length) = b at *
  generalize sL e (rgs (flatC (XCx X)) (XCx X).length) = c at *
  generalize sL e (dfs (YYx X) (LYx X - 1)) = d at *
  rw [wrapF_in (n := 2 * a) (by omega) (by omega), wrapF_in (n := 2 * b) (by omega) (by omega), wrapF_in (n := 2 * c) (by omega) (by omega), wrapF_in (n := 2 * a + 2 * b) (by omega) (by omega), wrapF_in (n := 2 * a + 2 * b + 2 * c) (by omega) (by omega), wrapF_in (by omega) (by omega)]
  omega
theorem apK_P {cs J : List Value} {n c : Nat} {S : List Pt} (h : cs = flatP S ++ J) (hn : n = S.length) (h1 : 1 ≤ n) (h2 : n ≤ 1000) (hc : n ≤ c) : apK n c 2 0 cs = true := by
  subst h hn
  unfold apK
  rw [List.length_append, flatP_len]
  simp only [Bool.and_eq_true, Bool.not_eq_true', decide_eq_true_eq, decide_eq_false_iff_not]
  omega
theorem tlB_sel (h : TJw fa fb fx ca cb AB N X) (he : ex3 e) : (tlB fa fb fx ca cb AB N X e).sel = some (b_ true) := by
  have hx := h.cx
  obtain ⟨x1, x2⟩ := xc_C hx
  have hl := h.x.lens
  have hj := h.x.lj
  have hle := hx.le
  obtain ⟨hy, J, hJ⟩ := h.x.yc
  unfold tlB
  rw [qDm_sel h.a he, qDm_sel h.b he, vC_sel fun hf => by subst hf; exact aV_sel (apK_C hx), vP_sel (by rw [x1, x2]; exact ⟨hx.gc, by omega, he⟩), aV_sel (apK_P hJ (by rw [List.length_reverse]; exact hl.2.1) hl.2.2 (by omega) hy.2.1),
    vP_sel (by rw [h.yy]; exact ⟨⟨h.okY, by omega⟩, h.x.ycr, he, hl.2.2, by omega, fun j hj => h.x.ybd hj⟩), h.vt]; rfl
theorem tlA_sel (h : TJw fa fb fx ca cb AB N X) (he : ex3 e) {ap : VT → VT} (hap : ∀ t, (ap t).sel = t.sel) : (tlA fa fb fx ca cb AB N X e ap).sel = some (b_ true) := by
  have hx := h.cx
  obtain ⟨x1, x2⟩ := xc_C hx
  have hl := h.x.lens
  have hj := h.x.lj
  have hle := hx.le
  have hld := h.ld
  have hyp := h.x.yp
  unfold tlA
  rw [aV_sel (show apK (LJx X) (LJx X) 2 0 (flatP (JVx X)) = true from apK_P (List.append_nil _).symm rfl hj.1 (by omega) (Nat.le_refl _)), vP_sel ⟨⟨h.x.ok, by omega⟩, h.x.cr⟩, vP_sel ⟨h.x.ok, hj.1, by omega, h.f⟩, vb_f (by rw [ltF_eq]; exact decide_eq_false (by rw [x2]; omega)),
    qAll_sel h.a h.b hx, qVal_sel h.cc (e3_C h.a h.b hx) (l3_C h.a h.b hx) h.p, vP_sel h.ab.cD.1, vP_sel ⟨h.x.yc.1, hl.2.2, by omega⟩, vP_sel (by rw [hyp]; exact ⟨h.okY, hl.2.2, by omega⟩),
    vP_sel (by rw [hyp]; exact ⟨lst_okI (by omega), lst_okI (by omega), hld, by omega, fun j hj => by rw [eI_lst hj, eI_lst (by omega)]; exact h.pb (by omega)⟩), hap, vP_sel ⟨rfl, h.ab, he⟩]
  exact tlB_sel h he
end
end Go.Proofs.Ytphadgdlknhbnaa.Ways
set_option maxRecDepth 10000
noncomputable section
namespace Go.Proofs.Ytphadgdlknhbnaa.Ways
open Go Go.Ex Go.RowKit Go.Turn Go.Ex.Dia
theorem tJ7_eq (za zb fa fb fx : Bool) (A B : List Value) (p m : Nat) (x : Int) : tJ7 za zb fa fb fx A B p m x =
    (.br (ltF 12 (lnJ za p)) lfT <| .br (ltF 12 (lnJ zb m)) lfT <| vP (LokE A (lnJ za p) (lnJ za p)) <| vP (LokE B (lnJ zb m) (lnJ zb m)) <| vP (okC A (lnJ za p) (lnJ za p)) <| apJ za zb A B p m <|
      q36 (za && zb) (fa || (fb || fx)) (ABJ zb A B m) (NABJ za zb p m) <| q36 za fa A (lnJ za p) <| q36 zb fb B (lnJ zb m) <|
      vC (!za) (vP (CmE (DS_ A (lnJ za p)) (LD_ A (lnJ za p)) (LD_ A (lnJ za p)))) <| vC (!zb) (vP (CmE (DS_ B (lnJ zb m)) (LD_ B (lnJ zb m)) (LD_ B (lnJ zb m)))) <| q28 za zb A B p m <|
      tlA fa fb fx (CC_ A (lnJ za p)) (CC_ B (lnJ zb m)) (ABJ zb A B m) (NABJ za zb p m) (XJ7 za zb A B p m) (e7 x) (fun t => vP (okC A (lnJ za p) (lnJ za p)) <| apJ za zb A B p m t)) := rfl
theorem one_cell {v : Option Value} (h : isCellB (.i .i64) v = true) : ∃ w, v = some w ∧ oneB w = true := by
  cases v with
  | none => cases h
  | some w => exact ⟨w, rfl, by cases w <;> first | rfl | cases h⟩
section
variable {A B : List Value} {na nb : Nat}
theorem Sd.lok (h : Sd A na) : LokE A na na ∧ okC A na na := by
  rcases h with ⟨rfl, rfl⟩ | ⟨h, _⟩
  · have hok : okI [] 0 0 := ⟨rfl, Nat.le_refl _, by omega, fun j hj => absurd hj (by omega)⟩
    exact ⟨⟨hok, rfl⟩, hok, rfl, by omega⟩
  · exact ⟨h.lok.1, h.lok.2.1⟩
theorem Sd.one (h : Sd A na) : A.all oneB = true := by
  refine List.all_eq_true.2 fun v hv => ?_
  obtain ⟨j, hj, rfl⟩ := List.mem_iff_getElem.1 hv
  obtain ⟨w, h1, h2⟩ := one_cell (h.ok j (by rw [← h.len.1]; exact hj))
  rw [show 0 + j * 1 = j from by omega, List.getElem?_eq_getElem hj] at h1
  rw [Option.some.inj h1]; exact h2
theorem Sd.cyc (h : Sd A na) {f : Bool} (hf : if f = true then CC_ A na ≠ [] else CC_ A na = []) : Cyc f (CC_ A na) := by
  rcases h with ⟨rfl, rfl⟩ | ⟨h, _⟩
  · exact ⟨hf, Nat.zero_le _, ⟨⟨rfl, Nat.le_refl _, by show (0 : Nat) < _; omega, fun j hj => absurd hj (Nat.not_lt_zero _)⟩, Nat.zero_le _, fun j hj => absurd hj (Nat.not_lt_zero _)⟩⟩
  · exact ⟨hf, by have := h.sz; omega, h.gc⟩
theorem Sd.nil0 (h : Sd A 0) : A = [] := List.eq_nil_of_length_eq_zero h.len.1
theorem Sd.fx {k : Nat} (h : Sd A (k + 1)) : Fx A (k + 1) 0 := by
  rcases h with ⟨h, _⟩ | ⟨h, _⟩
  · cases h
  · exact h
theorem e28_zero {a b d : Int} {X : List Pt} (ha : a = 0) (hb : b = 0) (hd : 0 ≤ d ∧ d ≤ 40000) (hx : JX X) : e28 a b d X = 0 := by
  subst ha hb
  have h1 : F28 0 0 d = 0 := by
    unfold F28
    rw [show rgE d 0 40000 = 0 from if_pos hd]; rfl
  unfold e28
  rw [if_neg (fun h => h h1)]
  exact eJ_zero (fun p hp => ⟨(hx.bd p hp).1, (hx.bd p hp).2.1⟩) hx.up
theorem Fx.ptD (h : Fx A na 0) : pts (DS_ A na) (LD_ A na) = (SS_ A na).reverse := by
  rw [h.st.2, pts_flat _ _ (by rw [List.length_reverse]; exact Nat.le_refl _), List.take_of_length_le (by rw [List.length_reverse]; exact Nat.le_refl _)]
theorem Fx.row (h : Fx A na 0) : RowE (DS_ A na) (LD_ A na) := ⟨_, h.st.2, by rw [List.length_reverse]; rfl, by have := h.sz; omega⟩
end
section
variable {A B : List Value} {p m : Nat} {x : Int}
theorem ex7 (h : 0 ≤ x ∧ x ≤ 255) : ex3 (e7 x) := by
  have hw : IntKind.i64.wrap x = x := by
    have := wrapF_in (n := x) (by omega) (by omega)
    rwa [wrapF_eq] at this
  have h1 := Int.tmod_nonneg 3 h.1
  have h2 := Int.tmod_lt_of_pos x (b := 3) (by omega)
  unfold e7 ex3
  rw [hw, wrapF_in (by omega) (by omega)]
  omega
theorem okAB (za zb : Bool) (hb : Sd B (lnJ zb m)) : ABJ zb A B m = A ++ B ∧ NABJ za zb p m = lnJ za p + lnJ zb m := by
  cases zb with
  | true => exact ⟨by rw [hb.nil0]; exact (List.append_nil _).symm, rfl⟩
  | false =>
    refine ⟨?_, rfl⟩
    have hl := hb.len.1
    show A ++ ((B.drop 0).take (lnJ false m * 1)) = _
    rw [List.drop_zero, List.take_of_length_le (by rw [hl]; omega)]
theorem apJ_sel (za zb : Bool) (ha : Sd A (lnJ za p)) (hb : Sd B (lnJ zb m)) (t : VT) : (apJ za zb A B p m t).sel = t.sel := by
  cases zb with
  | true => exact aV_sel (by rw [decide_eq_true (Nat.le_refl (lnJ za p))]; rfl)
  | false =>
    have hl := hb.len
    have hl2 := ha.len
    refine aV_sel ?_
    have hone : ((B.drop 0).take (lnJ false m * 1)).all oneB = true := by rw [List.drop_zero, List.take_of_length_le (by omega)]; exact hb.one
    have hp : lnJ false m = m + 1 := rfl
    unfold fullB
    rw [hone, hl.1, hl2.1]
    simp only [Bool.and_eq_true, Bool.not_eq_true', decide_eq_true_eq, decide_eq_false_iff_not, and_true, true_and]
    omega
end
end Go.Proofs.Ytphadgdlknhbnaa.Ways
set_option maxRecDepth 10000
noncomputable section
namespace Go.Proofs.Ytphadgdlknhbnaa.Ways
open Go Go.Ex Go.RowKit Go.Turn Go.Ex.Dia
section
variable {A B : List Value} {p m : Nat} {x : Int} {za zb fa fb fx : Bool}
theorem q36_sel {z f : Bool} {cs : List Value} {n : Nat} (h0 : z = true → cs = []) (h1 : z = false → P36 f cs n) (t : VT) : (q36 z f cs n t).sel = t.sel := by
  cases z with
  | true => exact vP_sel (h0 rfl)
  | false => exact vP_sel ⟨rfl, h1 rfl⟩
theorem XJ7_eq (hz : (za && zb) = false) (ha : Sd A (lnJ za p)) (hb : Sd B (lnJ zb m)) : XJ7 za zb A B p m = XgJ A B (lnJ za p) (lnJ zb m) := by
  cases za with
  | true =>
    cases zb with
    | true => cases hz
    | false =>
      have hA := ha.nil0
      subst hA
      show (pts (DS_ B (m + 1)) (LD_ B (m + 1))).map (shP ((0 : Nat) : Int)) = _
      rw [hb.fx.ptD]; rfl
  | false =>
    cases zb with
    | true =>
      have hB := hb.nil0
      subst hB
      show pts (DS_ A (p + 1)) (LD_ A (p + 1)) = _
      rw [ha.fx.ptD]
      exact (List.append_nil _).symm
    | false =>
      have h1 := ha.fx.ld
      have h2 := hb.fx.ld
      show pts (DS_ A (p + 1)) (LD_ A (p + 1) - 1 + 1) ++ (pts (DS_ B (m + 1)) (LD_ B (m + 1) - 1 + 1)).map (shP ((p + 1 : Nat) : Int)) = _
      rw [show LD_ A (p + 1) - 1 + 1 = LD_ A (p + 1) from by omega, show LD_ B (m + 1) - 1 + 1 = LD_ B (m + 1) from by omega, ha.fx.ptD, hb.fx.ptD]; rfl
theorem q28_sel (hz : (za && zb) = false) (ha : Sd A (lnJ za p)) (hb : Sd B (lnJ zb m)) (hx : JX (XJ7 za zb A B p m)) (t : VT) : (q28 za zb A B p m t).sel = t.sel := by
  have l1 := ha.len.2
  cases za with
  | true =>
    cases zb with
    | true => cases hz
    | false => exact vP_sel ⟨rfl, hb.fx.ld, hb.fx.row, by have := hb.fx.sz; show LD_ B (m + 1) < _; omega, e28_zero rfl hb.fx.crD (by show (0 : Int) ≤ ((0 : Nat) : Int) ∧ ((0 : Nat) : Int) ≤ 40000; omega) hx⟩
  | false =>
    have l2 : p + 1 ≤ 12 := l1
    cases zb with
    | true => exact vP_sel ⟨rfl, ha.fx.ld, ha.fx.row, by have := ha.fx.sz; show LD_ A (p + 1) < _; omega, e28_zero ha.fx.crD rfl (by show (0 : Int) ≤ ((p + 1 : Nat) : Int) ∧ ((p + 1 : Nat) : Int) ≤ 40000; omega) hx⟩
    | false => exact vP_sel ⟨rfl, rfl, ha.fx.ld, hb.fx.ld, ha.fx.row, hb.fx.row, by have := ha.fx.sz; have := hb.fx.sz; show LD_ A (p + 1) + LD_ B (m + 1) < _; omega, e28_zero ha.fx.crD hb.fx.crD (by show (0 : Int) ≤ ((p + 1 : Nat) : Int) ∧ ((p + 1 : Nat) : Int) ≤ 40000; omega) hx⟩
theorem hn7 (hz : (za && zb) = false) (ha : Sd A (lnJ za p)) (hb : Sd B (lnJ zb m)) : 1 ≤ (SS_ A (lnJ za p)).length + (SS_ B (lnJ zb m)).length ∧ 1 ≤ lnJ za p + lnJ zb m := by
  cases za with
  | true =>
    cases zb with
    | true => cases hz
    | false =>
      have : 1 ≤ (SS_ B (m + 1)).length := hb.fx.ld
      exact ⟨Nat.le_trans this (Nat.le_add_left _ _), by show 1 ≤ 0 + (m + 1); omega⟩
  | false =>
    have : 1 ≤ (SS_ A (p + 1)).length := ha.fx.ld
    exact ⟨Nat.le_trans this (Nat.le_add_right _ _), by show 1 ≤ p + 1 + _; omega⟩
theorem sel7 (hz : (za && zb) = false) (ha : Sd A (lnJ za p)) (hb : Sd B (lnJ zb m)) (hfa : if fa = true then CC_ A (lnJ za p) ≠ [] else CC_ A (lnJ za p) = []) (hfb : if fb = true then CC_ B (lnJ zb m) ≠ [] else CC_ B (lnJ zb m) = [])
    (hfx : if fx = true then XCx (XgJ A B (lnJ za p) (lnJ zb m)) ≠ [] else XCx (XgJ A B (lnJ za p) (lnJ zb m)) = []) (hx : 0 ≤ x ∧ x ≤ 255) : (tJ7 za zb fa fb fx A B p m x).sel = some (b_ true) := by
  obtain ⟨hn, hn2⟩ := hn7 hz ha hb
  obtain ⟨a1, a2⟩ := ha.lok
  obtain ⟨b1, b2⟩ := hb.lok
  obtain ⟨k1, k2⟩ := okAB za zb hb
  have kX := XJ7_eq hz ha hb
  obtain ⟨j1, j2⟩ := joins ha hb hn hn2
  have hW : TJw fa fb fx (CC_ A (lnJ za p)) (CC_ B (lnJ zb m)) (A ++ B) (lnJ za p + lnJ zb m) (XgJ A B (lnJ za p) (lnJ zb m)) := ⟨both_fx ha hb hn2, (Xg_jx ha hb hn).1, ha.cyc hfa, hb.cyc hfb, hfx, j1, j2⟩
  have l1 := ha.len.2
  have l2 := hb.len.2
  have hJX : JX (XJ7 za zb A B p m) := by rw [kX]; exact hW.x
  rw [tJ7_eq, vb_f (by rw [ltF_eq]; exact decide_eq_false (by omega)), vb_f (by rw [ltF_eq]; exact decide_eq_false (by omega)), vP_sel a1, vP_sel b1, vP_sel a2, apJ_sel za zb ha hb,
    q36_sel (fun h => absurd (h.symm.trans hz) (by decide)) (fun _ => by rw [k1, k2]; exact ⟨hW.ab, hW.cc.fl⟩),
    q36_sel (fun h => by subst h; exact ha.nil0) (fun h => by subst h; exact ⟨ha.fx, hfa⟩), q36_sel (fun h => by subst h; exact hb.nil0) (fun h => by subst h; exact ⟨hb.fx, hfb⟩),
    vC_sel fun h => (by cases za with
      | true => cases h
      | false => exact vP_sel ha.fx.cD), vC_sel fun h => (by cases zb with
      | true => cases h
      | false => exact vP_sel hb.fx.cD), q28_sel hz ha hb hJX, k1, k2, kX]
  exact tlA_sel hW (ex7 hx) fun t => (vP_sel a2).trans (apJ_sel za zb ha hb t)
theorem flag_ex (L : List Cy) : ∃ f : Bool, if f = true then L ≠ [] else L = [] := by
  cases L with
  | nil => exact ⟨false, rfl⟩
  | cons _ _ => exact ⟨true, List.cons_ne_nil _ _⟩
end
noncomputable def T7b : Tb := ext TM9 13 (autoE sp13 [] (heapL deads))
noncomputable def C7b : Cfg := ⟨T7b, at_ [(7, 38), (7, 43), (7, 48), (7, 53)] .bool (at_ [(7, 57)] (.ints []) no_), off_, noL⟩
section
variable (A B : List Value) (n k t s t2 s2 : Nat) (ex e2 : Bool) (x : Int)
noncomputable def o7b : Out QRes := execO Try.prog 3 C7b 80 (.call 7 ⟨[sl 1 0 n n, sl 2 0 k k, .int .u8 x]⟩ (heapL (deads ++ [.cells A t s ex, .cells B t2 s2 e2])))
theorem v7b : (o7b A B n k t s t2 s2 ex e2 x).vals = (.br (ltF 12 n) lfT <| .br (ltF 12 k) lfT <| vP (okI A n n) <| .br (!eqF (clE A n) 0) lfT <| vP (okI B k k) <| .br (!eqF (clE B k) 0) lfT .fail) := by kernel_rfl
theorem x7b : o7b A B n k t s t2 s2 ex e2 x = (o7b A B n k t s t2 s2 ex e2 x).fix := by kernel_rfl
end
section
variable {A B : List Value} {na nb t s t2 s2 : Nat} {ex e2 : Bool} {x : Int}
theorem sd_of (h : rawI A na) (h12 : na ≤ 12) (hc : clE A na = 0) : Sd A na := by
  by_cases h0 : na = 0
  · subst h0
    exact .inl ⟨rfl, List.eq_nil_of_length_eq_zero h.2.1⟩
  · exact .inr ⟨⟨⟨h.1, Nat.le_refl _, by omega, h.2.2⟩, h.2.1, by omega, by omega, hc, by omega⟩, h12⟩
theorem law_true7 (haw : Pure Try.prog Hd 9 [] (b_ true)) (hA : rawI A na) (hB : rawI B nb) (hx : 0 ≤ x ∧ x ≤ 255) :
    ∃ H', Sound Try.prog 3 (.call 7 ⟨[sl 1 0 na na, sl 2 0 nb nb, .int .u8 x]⟩ (heapL (deads ++ [.cells A t s ex, .cells B t2 s2 e2]))) (.val (b_ true) H') := by
  have fin : (o7b A B na nb t s t2 s2 ex e2 x).vals.sel = some (b_ true) → ∃ H', Sound Try.prog 3 (.call 7 ⟨[sl 1 0 na na, sl 2 0 nb nb, .int .u8 x]⟩ (heapL (deads ++ [.cells A t s ex, .cells B t2 s2 e2]))) (.val (b_ true) H') := fun hs => by
    obtain ⟨H', h'⟩ := Out.vals_sel (x7b A B na nb t s t2 s2 ex e2 x) hs
    exact ⟨H', execO_sound (C := C7b) ((tsm9 haw).auto c13) .none 80 _ _ h'⟩
  by_cases n1 : 12 < na
  · exact fin (by rw [v7b, vb_t (by rw [ltF_eq]; exact decide_eq_true (by omega))]; rfl)
  by_cases n2 : 12 < nb
  · exact fin (by rw [v7b, vb_f (by rw [ltF_eq]; exact decide_eq_false (by omega)), vb_t (by rw [ltF_eq]; exact decide_eq_true (by omega))]; rfl)
  have okA : okI A na na := ⟨hA.1, Nat.le_refl _, by omega, hA.2.2⟩
  have okB : okI B nb nb := ⟨hB.1, Nat.le_refl _, by omega, hB.2.2⟩
  by_cases c1 : clE A na = 0
  case neg => exact fin (by rw [v7b, vb_f (by rw [ltF_eq]; exact decide_eq_false (by omega)), vb_f (by rw [ltF_eq]; exact decide_eq_false (by omega)), vP_sel okA, vb_t (by rw [eqF_d, decide_eq_false c1]; rfl)]; rfl)
  by_cases c2 : clE B nb = 0
  case neg => exact fin (by rw [v7b, vb_f (by rw [ltF_eq]; exact decide_eq_false (by omega)), vb_f (by rw [ltF_eq]; exact decide_eq_false (by omega)), vP_sel okA, vb_f (by rw [eqF_d, decide_eq_true c1]; rfl), vP_sel okB, vb_t (by rw [eqF_d, decide_eq_false c2]; rfl)]; rfl)
  have sA := sd_of hA (by omega) c1
  have sB := sd_of hB (by omega) c2
  have he := ex7 hx
  obtain ⟨fx, hfx⟩ := flag_ex (XCx (XgJ A B na nb))
  have go : ∀ {za zb fa fb : Bool} {p m : Nat}, (za && zb) = false → na = lnJ za p → nb = lnJ zb m → (if fa = true then CC_ A na ≠ [] else CC_ A na = []) → (if fb = true then CC_ B nb ≠ [] else CC_ B nb = []) →
      (o7 A B p m t s t2 s2 ex e2 x za zb fa fb fx).vals = tJ7 za zb fa fb fx A B p m x → o7 A B p m t s t2 s2 ex e2 x za zb fa fb fx = (o7 A B p m t s t2 s2 ex e2 x za zb fa fb fx).fix →
      ∃ H', Sound Try.prog 3 (.call 7 ⟨[sl 1 0 na na, sl 2 0 nb nb, .int .u8 x]⟩ (heapL (deads ++ [.cells A t s ex, .cells B t2 s2 e2]))) (.val (b_ true) H') := by
    intro za zb fa fb p m hz ea eb hfa hfb hv hf
    subst ea eb
    obtain ⟨H', h'⟩ := Out.vals_sel hf (v := b_ true) (by rw [hv]; exact sel7 hz sA sB hfa hfb hfx hx)
    exact ⟨H', execO_sound (C := C7 za zb fa fb fx) (tsJ2 haw za zb fa fb fx) .none 150 _ _ h'⟩
  obtain ⟨fa, hfa⟩ := flag_ex (CC_ A na)
  obtain ⟨fb, hfb⟩ := flag_ex (CC_ B nb)
  cases na with
  | zero =>
    have hA0 := sA.nil0
    subst hA0
    cases nb with
    | zero =>
      have hB0 := sB.nil0
      subst hB0
      obtain ⟨a1, a2⟩ := sA.lok
      have g0 : GcE [] 0 0 := ⟨⟨rfl, Nat.le_refl _, by omega, fun j hj => absurd hj (Nat.not_lt_zero _)⟩, Nat.zero_le _, fun j hj => absurd hj (Nat.not_lt_zero _)⟩
      have b0 : BokE [] 0 0 ∧ crE [] 0 = 0 := ⟨⟨⟨rfl, Nat.le_refl _, by omega, fun j hj => absurd hj (Nat.not_lt_zero _)⟩, by omega⟩, rfl⟩
      obtain ⟨H', h'⟩ := Out.vals_sel (x7e t s t2 s2 ex e2 x) (v := b_ true) (by
        rw [v7e, vP_sel a1, vP_sel a1, vP_sel a2, vP_sel rfl, vP_sel rfl, vP_sel rfl, vP_sel (okI3 _ _ _), vP_sel (okI2 _ _), vP_sel b0, vP_sel a2, vP_sel a1.1, vP_sel he, vP_sel (okI2 _ _), vP_sel he, vP_sel he, vP_sel ⟨g0, by omega, he⟩, vP_sel b0, vP_sel he, vP_sel (okI2 _ _)]; rfl)
      exact ⟨H', execO_sound (C := C7e) (tsJe haw) .none 300 _ _ h'⟩
    | succ m => exact go (za := true) (zb := false) (fa := false) (fb := fb) (p := 0) (m := m) rfl rfl rfl rfl hfb (v7tf [] B 0 m t s t2 s2 ex e2 x fb fx) (x7tf [] B 0 m t s t2 s2 ex e2 x fb fx)
  | succ p =>
    cases nb with
    | zero =>
      have hB0 := sB.nil0
      subst hB0
      exact go (za := false) (zb := true) (fa := fa) (fb := false) (p := p) (m := 0) rfl rfl rfl hfa rfl (v7ft A [] p 0 t s t2 s2 ex e2 x fa fx) (x7ft A [] p 0 t s t2 s2 ex e2 x fa fx)
    | succ m => exact go (za := false) (zb := false) (fa := fa) (fb := fb) (p := p) (m := m) rfl rfl rfl hfa hfb (v7ff A B p m t s t2 s2 ex e2 x fa fb fx) (x7ff A B p m t s t2 s2 ex e2 x fa fb fx)
end
end Go.Proofs.Ytphadgdlknhbnaa.Ways
