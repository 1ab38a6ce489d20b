import Derived.Test.YtphadgdlknhbnaaLc3
set_option maxRecDepth 10000
noncomputable section
namespace Go.Proofs.Ytphadgdlknhbnaa.Ways
open Go Go.Ex Go.RowKit Go.Turn
noncomputable def BuO : Code := bodyL Try.f24 4
noncomputable def BuI : Code := bodyL Try.f24 7
def spU : Nat → Nat → Split := at_ [(24, 13), (24, 26)] .bool no_
def syUm : Nat → Nat → Bool := on_ [(24, 56), (24, 300056)]
inductive RI where
  | e (l : Nat) (st : List Value)
  | o (l : Nat) (st : List Value) (lc : Nat) (cy : List Value)
  | f (l : Nat) (st : List Value) (lc : Nat) (cy : List Value)
def cycR (st : List Value) (l : Nat) : List Value := [i (pA st (w3 l).toNat), i (pA st (w2 l).toNat), i (minQ (pB st (w3 l).toNat) (pB st (w2 l).toNat)), i (maxQ (pB st (w3 l).toNat) (pB st (w2 l).toNat))]
def nxR (st : List Value) (l lc : Nat) (cy : List Value) : RI := .f ((w3 l).toNat + 1) (X6 st (w3 l).toNat ++ el st (w1 l)) lc cy
noncomputable def stR : RI → SS RI
  | .e l st => askS (tru (BokE st l l)) <| .br (clB st l) (askS (ok9e st l) <| askS (ok11e st l) <| .next 16 [0, 1, 2, 3, 4, 5, 6, 7, 15, 11] (nxR st l 1 (cycR st l))) (.done 8 (List.range 8) 0)
  | .o l st lc cy => askS (tru (BokE st l l)) <| .br (clB st l) (askS (ok9o st l) <| askS (full4 lc cy) <| askS (ok11e st l) <| .next 16 [0, 1, 2, 3, 4, 5, 6, 7, 15, 11] (nxR st l (lc + 1) (cy ++ cycR st l))) (.done 8 (List.range 8) 0)
  | .f l st lc cy => askS (tru (BokE st l l)) <| .br (clB st l) (askS (ok9f st l) <| askS (full4 lc cy) <| askS (ok11f st l) <| .next 18 [0, 1, 2, 3, 4, 5, 6, 7, 17, 13] (nxR st l (lc + 1) (cy ++ cycR st l))) (.done 10 (List.range 10) 0)
def GdR (b : Bool) : RI → Prop
  | .e _ st => b = false ∧ st.all Ex.flat = true
  | .o _ st _ cy => b = true ∧ st.all Ex.flat = true ∧ cy.all Ex.flat = true
  | .f _ st _ cy => st.all Ex.flat = true ∧ cy.all Ex.flat = true
theorem nxR_good {b : Bool} {st cy : List Value} {l lc : Nat} (h : st.all Ex.flat = true) (h2 : cy.all Ex.flat = true) : GdR b (nxR st l lc cy) := ⟨app_flat (x6_flat h) rfl, h2⟩
theorem goodR_ {b : Bool} : ∀ q q', GdR b q → (stR q).sel = some (.inl q') → GdR b q' := by
  intro q q' hg h
  cases q with
  | e l st =>
    rcases br_or' (ask_or' h) with h | h
    · have h := ask_or' (ask_or' h); cases h; exact nxR_good hg.2 rfl
    · cases h
  | o l st lc cy =>
    rcases br_or' (ask_or' h) with h | h
    · have h := ask_or' (ask_or' (ask_or' h)); cases h; exact nxR_good hg.2.1 (app_flat hg.2.2 rfl)
    · cases h
  | f l st lc cy =>
    rcases br_or' (ask_or' h) with h | h
    · have h := ask_or' (ask_or' (ask_or' h)); cases h; exact nxR_good hg.1 (app_flat hg.2 rfl)
    · cases h
section
variable (cs : List Value) (n c : Nat) (j : Int) (t s : Nat) (ex : Bool)
def stkR (st : List Value) : CO × Bool := (.cells st 70 2 false, true)
def cyR_ (cy : List Value) : CO × Bool := (.cells cy 69 4 false, true)
def tdR : RI → Go.Ex.Told
  | .e l st => ⟨[(0, sl 1 0 n c), (4, sl 7 0 l l), (5, .slice none 0 0), (6, i j)], [ddQ, (.cells cs t s ex, true), ddQ, ddQ, ddQ, ddQ, ddQ, stkR st]⟩
  | .o l st lc cy => ⟨[(0, sl 1 0 n c), (4, sl 7 0 l l), (5, sl 3 0 lc lc), (6, i j)], [ddQ, (.cells cs t s ex, true), ddQ, cyR_ cy, ddQ, ddQ, ddQ, stkR st]⟩
  | .f l st lc cy => ⟨[(0, sl 1 0 n c), (4, sl 8 0 l l), (5, sl 9 0 lc lc), (6, i j)], [ddQ, (.cells cs t s ex, true), ddQ, ddQ, ddQ, ddQ, ddQ, ddQ, stkR st, cyR_ cy]⟩
def ShR : Shape RI := ⟨72, tdR cs n c j t s ex, fun _ q => (.exit 2, tdR cs n c j t s ex q)⟩
noncomputable def CcR : RI → Cfg
  | .e l st => ⟨TU, spU, off_, L11e cs st (cycR st l) n c l 1 j t s ex (L9e cs st n c l j t s ex noL)⟩
  | .o l st lc cy => ⟨TU, spU, syUm, L11e cs st (cy ++ cycR st l) n c l (lc + 1) j t s ex (L9o cs st cy n c l lc j t s ex noL)⟩
  | .f l st lc cy => ⟨TU, spU, syUm, L11f cs st (cy ++ cycR st l) n c l (lc + 1) j t s ex (L9f cs st cy n c l lc j t s ex noL)⟩
end
section
variable {cs : List Value} {n c : Nat} {j : Int} {t s : Nat} {ex b : Bool}
theorem tdR_flat (h : cs.all Ex.flat = true) {q : RI} (hq : GdR b q) : (tdR cs n c j t s ex q).flat := by
  intro o ho
  cases q
  all_goals (simp [tdR, stkR, ddQ, cyR_] at ho)
  · rcases ho with rfl | rfl
    · exact fun y hy => List.all_eq_true.1 h y hy
    · exact fun y hy => List.all_eq_true.1 hq.2 y hy
  · rcases ho with rfl | rfl | rfl
    · exact fun y hy => List.all_eq_true.1 h y hy
    · exact fun y hy => List.all_eq_true.1 hq.2.2 y hy
    · exact fun y hy => List.all_eq_true.1 hq.2.1 y hy
  · rcases ho with rfl | rfl | rfl
    · exact fun y hy => List.all_eq_true.1 h y hy
    · exact fun y hy => List.all_eq_true.1 hq.1 y hy
    · exact fun y hy => List.all_eq_true.1 hq.2 y hy
theorem LuI (h : cs.all Ex.flat = true) : Loop1 Try.prog 2 24 BuI (ShR cs n c j t s ex) 8 stR (GdR b) :=
  .mk' (C := CcR cs n c j t s ex) (n := 60) (fun q _ => by cases q <;> exact tsU) (fun q hq => by
    cases q with
    | e _ _ => exact ls11e (ls9e .none h hq.2) h hq.2 rfl
    | o _ _ _ _ => exact ls11e (ls9o .none h hq.2.2 hq.2.1) h hq.2.1 (app_flat hq.2.2 rfl)
    | f _ _ _ _ => exact ls11f (ls9f .none h hq.1 hq.2) h hq.1 (app_flat hq.2 rfl)) (fun q ro _ => by cases q <;> kernel_rfl) (fun q ro _ => by cases q <;> kernel_rfl) (fun q => by cases q <;> kernel_rfl)
    goodR_ (fun _ hq => tdR_flat h hq) (fun _ _ hq _ => ⟨tdR_flat h hq, fun h => by cases h⟩)
end
end Go.Proofs.Ytphadgdlknhbnaa.Ways
set_option maxRecDepth 10000
noncomputable section
namespace Go.Proofs.Ytphadgdlknhbnaa.Ways
open Go Go.Ex Go.RowKit Go.Turn
def isR : RI → Bool
  | .f _ _ _ _ => true
  | _ => false
def lR : RI → Nat
  | .e l _ => l
  | .o l _ _ _ => l
  | .f l _ _ _ => l
def stR_ : RI → List Value
  | .e _ st => st
  | .o _ st _ _ => st
  | .f _ st _ _ => st
def lcR : RI → Nat
  | .e _ _ => 0
  | .o _ _ lc _ => lc
  | .f _ _ lc _ => lc
def cyR : RI → List Value
  | .e _ _ => []
  | .o _ _ _ cy => cy
  | .f _ _ _ cy => cy
noncomputable def fin1 (S : Shape RI) (q : RI) : Out QRes := .leaf (.ex (S.fin 0 q).1 ((S.fin 0 q).2.tm S.N) (S.fin 0 q).2.heap [])
noncomputable def outR (S : Shape RI) (s0 : RI) (b : Bool) : Out QRes :=
  .br (tru (endP stR s0)) (.br (isR (endE stR s0)) (fin1 S (.f (lR (endE stR s0)) (stR_ (endE stR s0)) (lcR (endE stR s0)) (cyR (endE stR s0))))
    (cond b (fin1 S (.o (lR (endE stR s0)) (stR_ (endE stR s0)) (lcR (endE stR s0)) (cyR (endE stR s0)))) (fin1 S (.e (lR (endE stR s0)) (stR_ (endE stR s0)))))) .fail
theorem outR_sel {S : Shape RI} {s0 : RI} {b : Bool} {r : QRes} (hg : GdR b s0) (h : (outR S s0 b).sel = some r) : endP stR s0 ∧ r = .ex (S.fin 0 (endE stR s0)).1 ((S.fin 0 (endE stR s0)).2.tm S.N) (S.fin 0 (endE stR s0)).2.heap [] := by
  unfold outR at h
  rw [Out.sel_br] at h
  cases hp : tru (endP stR s0) with
  | false => rw [hp] at h; cases h
  | true =>
    rw [hp] at h
    refine ⟨tru_iff.1 hp, ?_⟩
    have hge := endE_good (Good := GdR b) goodR_ hg
    have h' : (Out.br (isR (endE stR s0)) (fin1 S (.f (lR (endE stR s0)) (stR_ (endE stR s0)) (lcR (endE stR s0)) (cyR (endE stR s0))))
      (cond b (fin1 S (.o (lR (endE stR s0)) (stR_ (endE stR s0)) (lcR (endE stR s0)) (cyR (endE stR s0)))) (fin1 S (.e (lR (endE stR s0)) (stR_ (endE stR s0)))))).sel = some r := h
    generalize endE stR s0 = u at h' hge
    cases u with
    | e l st =>
      obtain ⟨rfl, _⟩ := hge
      exact (Option.some.inj h').symm
    | o l st lc cy =>
      obtain ⟨rfl, _⟩ := hge
      exact (Option.some.inj h').symm
    | f _ _ _ _ => exact (Option.some.inj h').symm
theorem _root_.Go.Ex.Loop1.tableR {P : Program} {G f id : Nat} {b : Code} {S : Shape RI} {k : Nat} {L : LTab} {bb : Bool} (h : Loop1 P G f b S k stR (GdR bb)) (hL : LSound P G L) (hG : G ≤ k) {s0 : RI} (hg : GdR bb s0)
    (hgood : goodR k k (S.st s0).live (S.st s0).hp (List.range k) = true) : LSound P G (loopE L f id S.N k b (S.st s0).live (S.st s0).hp (outR S s0 bb)) := by
  refine hL.loop hgood (h.flat s0 hg) fun q hq ro tm0 H0 hk hst => ?_
  obtain ⟨hp, rfl⟩ := outR_sel hg hq
  obtain ⟨m, hm⟩ := endE_run hp
  exact h.run hG hg hm ro hk hst
inductive RO where
  | z
  | s (j : Int) (l : Nat) (st : List Value)
  | b (j : Int) (l : Nat) (st : List Value) (lc : Nat) (cy : List Value)
def GdU : RO → Prop
  | .z => True
  | .s _ _ st => st.all Ex.flat = true
  | .b _ _ st _ cy => st.all Ex.flat = true ∧ cy.all Ex.flat = true
def sE0 (cs st : List Value) (j : Int) (l : Nat) : RI := .e (l + 1) (X6 st l ++ el cs j)
def sO0 (cs st : List Value) (j : Int) (l lc : Nat) (cy : List Value) : RI := .o (l + 1) (X6 st l ++ el cs j) lc cy
section
variable (cs : List Value) (n c : Nat) (t s : Nat) (ex : Bool)
noncomputable def CcU : RO → Cfg
  | .z => ⟨TU, spU, off_, L6z cs n c t s ex noL⟩
  | .s j l st => ⟨TU, spU, off_, loopE (L6s cs st n c l j t s ex noL) 24 7 72 8 BuI ((ShR cs n c j t s ex).st (sE0 cs st j l)).live ((ShR cs n c j t s ex).st (sE0 cs st j l)).hp (outR (ShR cs n c j t s ex) (sE0 cs st j l) false)⟩
  | .b j l st lc cy => ⟨TU, spU, off_, loopE (L6b cs st cy n c l lc j t s ex noL) 24 7 72 8 BuI ((ShR cs n c j t s ex).st (sO0 cs st j l lc cy)).live ((ShR cs n c j t s ex).st (sO0 cs st j l lc cy)).hp (outR (ShR cs n c j t s ex) (sO0 cs st j l lc cy) true)⟩
def tdU : RO → Go.Ex.Told
  | .z => ⟨[(0, sl 1 0 n c), (4, .slice none 0 0), (5, .slice none 0 0), (6, i 0)], [ddQ, (.cells cs t s ex, true)]⟩
  | .s j l st => ⟨[(0, sl 1 0 n c), (4, sl 2 0 l l), (5, .slice none 0 0), (6, i j)], [ddQ, (.cells cs t s ex, true), stkR st, ddQ]⟩
  | .b j l st lc cy => ⟨[(0, sl 1 0 n c), (4, sl 2 0 l l), (5, sl 3 0 lc lc), (6, i j)], [ddQ, (.cells cs t s ex, true), stkR st, cyR_ cy]⟩
def fdU : RO → Go.Ex.Told
  | .z => ⟨[(4, .slice none 0 0), (5, .slice none 0 0)], [ddQ, (.cells cs t s ex, true)]⟩
  | .s _ l st => ⟨[(4, sl 2 0 l l), (5, .slice none 0 0)], [ddQ, (.cells cs t s ex, true), stkR st, ddQ]⟩
  | .b _ l st lc cy => ⟨[(4, sl 2 0 l l), (5, sl 3 0 lc lc)], [ddQ, (.cells cs t s ex, true), stkR st, cyR_ cy]⟩
def ShU : Shape RO := ⟨72, tdU cs n c t s ex, fun _ q => (.exit 0, fdU cs t s ex q)⟩
noncomputable def bhR (s0 : RI) (b : Bool) (j : Int) : SS RO :=
  askS (tru (endP stR s0)) <| .br (isR (endE stR s0)) (.next 10 [0, 1, 8, 9] (.b (wrapF .i64 (j + 1)) (lR (endE stR s0)) (stR_ (endE stR s0)) (lcR (endE stR s0)) (cyR (endE stR s0))))
    (cond b (.next 8 [0, 1, 7, 3] (.b (wrapF .i64 (j + 1)) (lR (endE stR s0)) (stR_ (endE stR s0)) (lcR (endE stR s0)) (cyR (endE stR s0)))) (.next 8 [0, 1, 7, 4] (.s (wrapF .i64 (j + 1)) (lR (endE stR s0)) (stR_ (endE stR s0)))))
noncomputable def stU : RO → SS RO
  | .z => .br (ltF 0 n) (askS (ok6z cs n c) <| askS (tru (BokE (el cs 0) 1 1)) <| .br (clB (el cs 0) 1) .fail (.next 5 [0, 1, 4, 2] (.s 1 1 (el cs 0)))) (.done 2 [0, 1] 0)
  | .s j l st => .br (ltF j n) (askS (ok6s cs st n c l j) <| bhR (sE0 cs st j l) false j) (.done 4 [0, 1, 2, 3] 0)
  | .b j l st lc cy => .br (ltF j n) (askS (ok6b cs st n c l j) <| bhR (sO0 cs st j l lc cy) true j) (.done 4 [0, 1, 2, 3] 0)
end
section
variable {cs : List Value} {n c : Nat} {t s : Nat} {ex : Bool}
theorem tdU_flat (h : cs.all Ex.flat = true) {q : RO} (hq : GdU q) : (tdU cs n c t s ex q).flat := by
  intro o ho
  cases q
  all_goals (simp [tdU, stkR, ddQ, cyR_] at ho)
  · subst ho; exact fun y hy => List.all_eq_true.1 h y hy
  · rcases ho with rfl | rfl
    · exact fun y hy => List.all_eq_true.1 h y hy
    · exact fun y hy => List.all_eq_true.1 hq y hy
  · rcases ho with rfl | rfl | rfl
    · exact fun y hy => List.all_eq_true.1 h y hy
    · exact fun y hy => List.all_eq_true.1 hq.1 y hy
    · exact fun y hy => List.all_eq_true.1 hq.2 y hy
theorem fdU_flat (h : cs.all Ex.flat = true) {q : RO} (hq : GdU q) : (fdU cs t s ex q).flat := by
  intro o ho
  cases q
  all_goals (simp [fdU, stkR, ddQ, cyR_] at ho)
  · subst ho; exact fun y hy => List.all_eq_true.1 h y hy
  · rcases ho with rfl | rfl
    · exact fun y hy => List.all_eq_true.1 h y hy
    · exact fun y hy => List.all_eq_true.1 hq y hy
  · rcases ho with rfl | rfl | rfl
    · exact fun y hy => List.all_eq_true.1 h y hy
    · exact fun y hy => List.all_eq_true.1 hq.1 y hy
    · exact fun y hy => List.all_eq_true.1 hq.2 y hy
theorem sE0_good {j : Int} {l : Nat} {st : List Value} (h : st.all Ex.flat = true) : GdR false (sE0 cs st j l) := ⟨rfl, app_flat (x6_flat h) rfl⟩
theorem sO0_good {j : Int} {l lc : Nat} {st cy : List Value} (h : st.all Ex.flat = true) (h2 : cy.all Ex.flat = true) : GdR true (sO0 cs st j l lc cy) := ⟨rfl, app_flat (x6_flat h) rfl, h2⟩
theorem gr_st {b : Bool} {q : RI} (h : GdR b q) : (stR_ q).all Ex.flat = true := by
  cases q with
  | e _ _ => exact h.2
  | o _ _ _ _ => exact h.2.1
  | f _ _ _ _ => exact h.1
theorem gr_cy {b : Bool} {q : RI} (h : GdR b q) : (cyR q).all Ex.flat = true := by
  cases q with
  | e _ _ => rfl
  | o _ _ _ _ => exact h.2.2
  | f _ _ _ _ => exact h.2
theorem bhR_good {s0 : RI} {b : Bool} {j : Int} {q' : RO} (h0 : GdR b s0) (h : (bhR s0 b j).sel = some (.inl q')) : GdU q' := by
  have hg := endE_good (Good := GdR b) goodR_ h0
  have h := ask_or' h
  rcases br_or' h with h | h
  · cases h; exact ⟨gr_st hg, gr_cy hg⟩
  · cases b with
    | true => cases h; exact ⟨gr_st hg, gr_cy hg⟩
    | false => cases h; exact gr_st hg
theorem goodU : ∀ q q', GdU q → (stU cs n c q).sel = some (.inl q') → GdU q' := by
  intro q q' hg h
  cases q with
  | z =>
    rcases br_or' h with h | h
    · rcases br_or' (ask_or' (ask_or' h)) with h | h
      · cases h
      · cases h; rfl
    · cases h
  | s j l st =>
    rcases br_or' h with h | h
    · exact bhR_good (sE0_good hg) (ask_or' h)
    · cases h
  | b j l st lc cy =>
    rcases br_or' h with h | h
    · exact bhR_good (sO0_good hg.1 hg.2) (ask_or' h)
    · cases h
theorem LuO (h : cs.all Ex.flat = true) : Loop1 Try.prog 2 24 BuO (ShU cs n c t s ex) 2 (stU cs n c) GdU :=
  .mk' (C := CcU cs n c t s ex) (n := 60) (fun q _ => by cases q <;> exact tsU) (fun q hq => by
    cases q with
    | z => exact ls6z .none h
    | s j _ _ => exact (LuI (n := n) (c := c) (j := j) (t := t) (s := s) (ex := ex) h).tableR (id := 7) (ls6s .none h hq) (by decide) (sE0_good hq) (by kernel_rfl)
    | b j _ _ _ _ => exact (LuI (n := n) (c := c) (j := j) (t := t) (s := s) (ex := ex) h).tableR (id := 7) (ls6b .none h hq.1 hq.2) (by decide) (sO0_good hq.1 hq.2) (by kernel_rfl))
    (fun q ro _ => by cases q <;> kernel_rfl) (fun q ro _ => by cases q <;> kernel_rfl) (fun q => by cases q <;> kernel_rfl)
    goodU (fun _ hq => tdU_flat h hq) (fun _ _ hq _ => ⟨fdU_flat h hq, fun h => by cases h⟩)
end
end Go.Proofs.Ytphadgdlknhbnaa.Ways
set_option maxRecDepth 10000
noncomputable section
namespace Go.Proofs.Ytphadgdlknhbnaa.Ways
open Go Go.Ex Go.RowKit Go.Turn
theorem pA_app (P : List Pt) (Q : List Value) (k : Nat) : pA (flatP P ++ Q) (P.length + k) = pA Q k := by
  unfold pA
  rw [List.getElem?_append_right (by rw [flatP_len]; omega), flatP_len, show 0 + (P.length + k) * 2 - P.length * 2 = 0 + k * 2 from by omega]
theorem pB_app (P : List Pt) (Q : List Value) (k : Nat) : pB (flatP P ++ Q) (P.length + k) = pB Q k := by
  unfold pB
  rw [List.getElem?_append_right (by rw [flatP_len]; omega), flatP_len, show 0 + (P.length + k) * 2 + 1 - P.length * 2 = 0 + k * 2 + 1 from by omega]
theorem X6_app (P Q : List Pt) : X6 (flatP (P ++ Q)) P.length = flatP P := by
  unfold X6
  rw [List.drop_zero, flatP_app, ← flatP_len, List.take_left]
theorem X6_all (P : List Pt) : X6 (flatP P) P.length = flatP P := by
  have := X6_app P []
  rwa [List.append_nil] at this
theorem w3_eq (m : Nat) (h : m < 1000000) : w3 (m + 4) = ((m + 1 : Nat) : Int) := by
  unfold w3
  rw [wrapF_in (by omega) (by omega)]; omega
theorem w2_eq (m : Nat) (h : m < 1000000) : w2 (m + 4) = ((m + 2 : Nat) : Int) := by
  unfold w2
  rw [wrapF_in (by omega) (by omega)]; omega
theorem w1_eq (m : Nat) (h : m < 1000000) : w1 (m + 4) = ((m + 3 : Nat) : Int) := by
  unfold w1
  rw [wrapF_in (by omega) (by omega)]; omega
theorem apN_t {P : List Pt} {k : Nat} (h : k ≠ 0) (h2 : k ≤ P.length) (h3 : P.length < 1000000) : apN k P.length (flatP P) = true := by
  unfold apN
  rw [decide_eq_false h, decide_eq_true h2, decide_eq_true (by omega), flatP_len, decide_eq_true (by omega)]; rfl
section
variable {a b x d : Pt} {T : List Pt}
def V4 (a b x d : Pt) : List Value := [i a.1, i a.2, i b.1, i b.2, i x.1, i x.2, i d.1, i d.2]
theorem fl4 : flatP (d :: x :: b :: a :: T).reverse = flatP T.reverse ++ V4 a b x d := by
  have := flat4 a b x d T []
  rwa [List.append_nil] at this
theorem pA4 (k : Nat) : pA (flatP (d :: x :: b :: a :: T).reverse) (T.length + k) = pA (V4 a b x d) k := by
  rw [fl4]
  have := pA_app T.reverse (V4 a b x d) k
  rwa [List.length_reverse] at this
theorem pB4 (k : Nat) : pB (flatP (d :: x :: b :: a :: T).reverse) (T.length + k) = pB (V4 a b x d) k := by
  rw [fl4]
  have := pB_app T.reverse (V4 a b x d) k
  rwa [List.length_reverse] at this
theorem cl4 : clB (flatP (d :: x :: b :: a :: T).reverse) (T.length + 4) = nst a b x d := by
  unfold clB clQ
  rw [decide_eq_true (by omega), Bool.true_and, Nat.add_sub_cancel]
  have e0 := pB4 (a := a) (b := b) (x := x) (d := d) (T := T) 0
  rw [Nat.add_zero] at e0
  rw [e0, pB4 1, pB4 2, pB4 3, ad_eq, ad_eq, ad_eq, ← leF_min]; rfl
theorem cyc4 (h : T.length < 1000000) : cycR (flatP (d :: x :: b :: a :: T).reverse) (T.length + 4) = cyL (b, x) := by
  unfold cycR
  rw [w3_eq _ h, w2_eq _ h, show ((T.length + 1 : Nat) : Int).toNat = T.length + 1 from rfl, show ((T.length + 2 : Nat) : Int).toNat = T.length + 2 from rfl, pA4 1, pA4 2, pB4 1, pB4 2]; rfl
theorem nx4 (h : T.length < 1000000) : X6 (flatP (d :: x :: b :: a :: T).reverse) (w3 (T.length + 4)).toNat ++ el (flatP (d :: x :: b :: a :: T).reverse) (w1 (T.length + 4)) = flatP (d :: a :: T).reverse := by
  have e1 : (d :: x :: b :: a :: T).reverse = (a :: T).reverse ++ [b, x, d] := by simp
  have e2 : X6 (flatP (d :: x :: b :: a :: T).reverse) (w3 (T.length + 4)).toNat = flatP (a :: T).reverse := by
    rw [e1, w3_eq _ h]
    have := X6_app (a :: T).reverse [b, x, d]
    rwa [List.length_reverse] at this
  have e3 : el (flatP (d :: x :: b :: a :: T).reverse) (w1 (T.length + 4)) = flatP [d] := by
    rw [w1_eq _ h]
    show [i (pA _ (T.length + 3)), i (pB _ (T.length + 3))] = _
    rw [pA4 3, pB4 3]; rfl
  rw [e2, e3, ← flatP_app, List.reverse_cons (a := d)]
theorem okP_rev {R : List Pt} (h : R.length < 1000000) : okP (flatP R.reverse) R.length R.length := by
  have := okP_flat (a := R.reverse) (by rw [List.length_reverse]; exact h)
  rwa [List.length_reverse] at this
theorem ok9_t (h : T.length + 4 < 1000000) : ok9e (flatP (d :: x :: b :: a :: T).reverse) (T.length + 4) = true := by
  have ho := okP_rev (R := d :: x :: b :: a :: T) (by exact h)
  unfold ok9e
  rw [w3_eq _ (by omega), w2_eq _ (by omega), bnd_t (by omega) (Nat.le_refl _), cP_t ho (show T.length + 1 < T.length + 4 by omega), bnd_t (by omega) (Nat.le_refl _), cP_t ho (show T.length + 2 < T.length + 4 by omega)]; rfl
theorem ok11_t (h : T.length + 4 < 1000000) : ok11e (flatP (d :: x :: b :: a :: T).reverse) (T.length + 4) = true := by
  have ho := okP_rev (R := d :: x :: b :: a :: T) (by exact h)
  have e1 : (d :: x :: b :: a :: T).reverse = (a :: T).reverse ++ [b, x, d] := by simp
  have e2 : X6 (flatP (d :: x :: b :: a :: T).reverse) (T.length + 1) = flatP (a :: T).reverse := by
    rw [e1]
    have := X6_app (a :: T).reverse [b, x, d]
    rwa [List.length_reverse] at this
  have ha := apN_t (P := (d :: x :: b :: a :: T).reverse) (k := T.length + 1) (by omega) (by simp <;> omega) (by simp <;> omega)
  rw [List.length_reverse] at ha
  unfold ok11e
  rw [w3_eq _ (by omega), w1_eq _ (by omega), show ((T.length + 1 : Nat) : Int).toNat = T.length + 1 from rfl, bnd_t (by omega) (Nat.le_refl _), cP_t ho (show T.length + 3 < T.length + 4 by omega), e2,
    full2_t (by rw [flatP_len, List.length_reverse]; rfl) (by omega)]
  have hs : slN ((T.length + 1 : Nat) : Int) (T.length + 4) = true := by
    unfold slN
    rw [leF_eq, leF_eq, leF_eq, decide_eq_true (by omega), decide_eq_true (by omega), decide_eq_true (by omega)]; rfl
  rw [hs]
  show (true && (apN (T.length + 1) (d :: x :: b :: a :: T).length (flatP (d :: x :: b :: a :: T).reverse) && true)) = true
  rw [ha]; rfl
end
def RepI (b : Bool) (R : List Pt) (C : List Cy) : RI → Prop
  | .e l st => b = false ∧ R.length = l ∧ st = flatP R.reverse ∧ C = []
  | .o l st lc cy => b = true ∧ R.length = l ∧ st = flatP R.reverse ∧ C ≠ [] ∧ lc = C.length ∧ cy = flatC C
  | .f l st lc cy => R.length = l ∧ st = flatP R.reverse ∧ C ≠ [] ∧ lc = C.length ∧ cy = flatC C
theorem stop {b : Bool} {R : List Pt} {C : List Cy} {q : RI} (hq : RepI b R C q) (hR : R.length < 1000000) (h : clB (flatP R.reverse) R.length = false) : (stR q).sel = some (.inr 0) := by
  have ho : tru (BokE (flatP R.reverse) R.length R.length) = true := tru_iff.2 ⟨okP_rev hR, hR⟩
  cases q with
  | e l st =>
    obtain ⟨_, rfl, rfl, _⟩ := hq
    unfold stR
    rw [askS_sel ho, br_f h]; rfl
  | o l st lc cy =>
    obtain ⟨_, rfl, rfl, _⟩ := hq
    unfold stR
    rw [askS_sel ho, br_f h]; rfl
  | f l st lc cy =>
    obtain ⟨rfl, rfl, _⟩ := hq
    unfold stR
    rw [askS_sel ho, br_f h]; rfl
theorem go_on {bb : Bool} {a b x d : Pt} {T : List Pt} {C : List Cy} {q : RI} (hq : RepI bb (d :: x :: b :: a :: T) C q) (hR : T.length + 4 < 1000000) (hC : C.length < 1000000) (h : nst a b x d = true) :
    (stR q).sel = some (.inl (.f (T.length + 2) (flatP (d :: a :: T).reverse) (C.length + 1) (flatC (C ++ [(b, x)])))) := by
  have ho : tru (BokE (flatP (d :: x :: b :: a :: T).reverse) (T.length + 4) (T.length + 4)) = true := tru_iff.2 ⟨okP_rev (R := d :: x :: b :: a :: T) hR, hR⟩
  have hc : clB (flatP (d :: x :: b :: a :: T).reverse) (T.length + 4) = true := by rw [cl4]; exact h
  have hf : full4 C.length (flatC C) = true := full4_t (flatC_len C) hC
  have hn : ∀ lc cy, nxR (flatP (d :: x :: b :: a :: T).reverse) (T.length + 4) lc cy = .f (T.length + 2) (flatP (d :: a :: T).reverse) lc cy := fun lc cy => by
    unfold nxR
    rw [nx4 (by omega), w3_eq _ (by omega)]; rfl
  have h9 := ok9_t (a := a) (b := b) (x := x) (d := d) hR
  have h11 := ok11_t (a := a) (b := b) (x := x) (d := d) hR
  have hcy : flatC (C ++ [(b, x)]) = flatC C ++ cycR (flatP (d :: x :: b :: a :: T).reverse) (T.length + 4) := by
    rw [flatC_app, cyc4 (by omega)]
    show _ = flatC C ++ cyL (b, x)
    rw [show flatC [(b, x)] = cyL (b, x) from rfl]
  rw [hcy]
  cases q with
  | e l st =>
    obtain ⟨_, rfl, rfl, rfl⟩ := hq
    show (stR (.e (T.length + 4) _)).sel = _
    unfold stR
    rw [askS_sel ho, br_t hc, askS_sel h9, askS_sel h11, hn]; rfl
  | o l st lc cy =>
    obtain ⟨_, rfl, rfl, _, rfl, rfl⟩ := hq
    show (stR (.o (T.length + 4) _ _ _)).sel = _
    unfold stR
    rw [askS_sel ho, br_t hc, askS_sel (show ok9o _ _ = true from h9), askS_sel hf, askS_sel h11, hn]; rfl
  | f l st lc cy =>
    obtain ⟨rfl, rfl, _, rfl, rfl⟩ := hq
    show (stR (.f (T.length + 4) _ _ _)).sel = _
    unfold stR
    rw [askS_sel ho, br_t hc, askS_sel (show ok9f _ _ = true from h9), askS_sel hf, askS_sel (show ok11f _ _ = true from h11), hn]; rfl
theorem innerR (bb : Bool) (p : Pt) : ∀ (n : Nat) (S : List Pt) (C : List Cy) (q : RI), S.length ≤ n → RepI bb (p :: S) C q → S.length + 1 < 1000000 → S.length + 2 * C.length < 1000000 →
    ∃ m q', runS stR m q = some (0, q') ∧ RepI bb (p :: (rd p S C).1) (rd p S C).2 q'
  | n, S, C, q, hn, hq, hS, hC => by
    have short : S.length < 3 → rd p S C = (S, C) → ∃ m q', runS stR m q = some (0, q') ∧ RepI bb (p :: (rd p S C).1) (rd p S C).2 q' := by
      intro hs hr
      refine ⟨1, q, runD (stop hq hS ?_), by rw [hr]; exact hq⟩
      unfold clB
      rw [decide_eq_false (by simp; omega)]; rfl
    match S, hn, hq, hS, hC, short with
    | [], _, _, _, _, short => exact short (by simp) rfl
    | [_], _, _, _, _, short => exact short (by simp) rfl
    | [_, _], _, _, _, _, short => exact short (by simp) rfl
    | x :: b :: a :: T, hn, hq, hS, hC, _ =>
      have hS' : T.length + 4 < 1000000 := by simp at hS; omega
      have hC' : C.length < 1000000 := by simp at hC; omega
      have hrd : rd p (x :: b :: a :: T) C = cond (nst a b x p) (rd p (a :: T) (C ++ [(b, x)])) (x :: b :: a :: T, C) := by rw [rd]
      cases hns : nst a b x p with
      | false =>
        rw [hns] at hrd
        refine ⟨1, q, runD (stop hq hS ?_), by rw [hrd]; exact hq⟩
        show clB (flatP (p :: x :: b :: a :: T).reverse) (T.length + 4) = false
        rw [cl4]; exact hns
      | true =>
        rw [hns] at hrd
        have hrd' : rd p (x :: b :: a :: T) C = rd p (a :: T) (C ++ [(b, x)]) := hrd
        match n, hn with
        | 0, hn => simp at hn
        | n + 1, hn =>
          obtain ⟨m, q', g1, g2⟩ := innerR bb p n (a :: T) (C ++ [(b, x)]) (.f (T.length + 2) (flatP (p :: a :: T).reverse) (C.length + 1) (flatC (C ++ [(b, x)]))) (by simp at hn ⊢; omega) ⟨rfl, rfl, by simp, by simp, rfl⟩ (by simp at hS ⊢; omega) (by simp at hC ⊢; omega)
          exact ⟨m + 1, q', runN (go_on hq hS' hC' hns) g1, by rw [hrd']; exact g2⟩
def RepV (cs : List Value) (j : Nat) : RO → Prop
  | .z => j = 0
  | .s j' l st => j' = (j : Int) ∧ 1 ≤ j ∧ (cnt cs j).1.length = l ∧ st = flatP (cnt cs j).1.reverse ∧ (cnt cs j).2 = []
  | .b j' l st lc cy => j' = (j : Int) ∧ 1 ≤ j ∧ (cnt cs j).1.length = l ∧ st = flatP (cnt cs j).1.reverse ∧ (cnt cs j).2 ≠ [] ∧ lc = (cnt cs j).2.length ∧ cy = flatC (cnt cs j).2
section
variable {cs : List Value} {n c : Nat}
theorem pushR {j : Nat} {s0 : RI} {bb : Bool} (hT : RepI bb ((pA cs j, pB cs j) :: (cnt cs j).1) (cnt cs j).2 s0) (hj : j < 999990) :
    ∃ q', (bhR s0 bb (j : Int)).sel = some (.inl q') ∧ RepV cs (j + 1) q' := by
  have hl := cnt_len cs j
  obtain ⟨m, q, hrun, hq⟩ := innerR bb (pA cs j, pB cs j) _ (cnt cs j).1 (cnt cs j).2 s0 (Nat.le_refl _) hT (by omega) (by omega)
  obtain ⟨g1, g2⟩ := endE_eq hrun
  have hw := wsucc (j := j) (by omega)
  unfold bhR
  rw [askS_sel (tru_iff.2 g1), g2]
  cases q with
  | e l st =>
    obtain ⟨rfl, a1, a2, a3⟩ := hq
    exact ⟨_, rfl, hw, by omega, a1, a2, a3⟩
  | o l st lc cy =>
    obtain ⟨rfl, a1, a2, a3, a4, a5⟩ := hq
    exact ⟨_, rfl, hw, by omega, a1, a2, a3, a4, a5⟩
  | f l st lc cy =>
    obtain ⟨a1, a2, a3, a4, a5⟩ := hq
    exact ⟨_, rfl, hw, by omega, a1, a2, a3, a4, a5⟩
theorem ok6_t (h : okP cs n c) {j : Nat} (hj : j < n) {R : List Pt} (hR : R.length < 1000000) (h0 : R ≠ []) : ok6s cs (flatP R.reverse) n c R.length (j : Int) = true ∧ X6 (flatP R.reverse) R.length ++ el cs (j : Int) = flatP ((pA cs j, pB cs j) :: R).reverse := by
  have hne : R.length ≠ 0 := fun hh => h0 (List.length_eq_zero_iff.1 hh)
  have e1 : X6 (flatP R.reverse) R.length = flatP R.reverse := by
    have := X6_all R.reverse
    rwa [List.length_reverse] at this
  have ha := apN_t (P := R.reverse) (k := R.length) hne (by rw [List.length_reverse]; omega) (by rw [List.length_reverse]; exact hR)
  rw [List.length_reverse] at ha
  refine ⟨?_, ?_⟩
  · unfold ok6s
    rw [ha, bnd_t hj h.2.1, cP_t h hj, e1, full2_t (by rw [flatP_len, List.length_reverse]) hR]; rfl
  · rw [e1, List.reverse_cons, flatP_app]; rfl
theorem cnt_ne (cs : List Value) {j : Nat} (h : 1 ≤ j) : (cnt cs j).1 ≠ [] := by
  obtain ⟨k, rfl⟩ : ∃ k, j = k + 1 := ⟨j - 1, by omega⟩
  exact List.cons_ne_nil _ _
theorem stepU (h : okP cs n c) (hn : n < 999990) {j : Nat} {q : RO} (hj : j < n) (hq : RepV cs j q) : ∃ q', (stU cs n c q).sel = some (.inl q') ∧ RepV cs (j + 1) q' := by
  have hc := h.2.1
  have hl := cnt_len cs j
  cases q with
  | z =>
    have hj0 : j = 0 := hq
    subst hj0
    refine ⟨.s 1 1 (el cs 0), ?_, rfl, by omega, rfl, rfl, rfl⟩
    have h6 : ok6z cs n c = true := by
      unfold ok6z
      rw [show bnd_ 0 n c = true from bnd_t (j := 0) hj hc, show cP cs 0 = true from cP_t (j := 0) h hj]; rfl
    have hb : BokE (el cs 0) 1 1 := ⟨okP_flat (a := [(pA cs 0, pB cs 0)]) (show 1 < 1000000 by decide), by decide⟩
    unfold stU
    rw [br_t (by rw [ltF_eq]; exact decide_eq_true (by omega)), askS_sel h6, askS_sel (tru_iff.2 hb), br_f (by rfl)]; rfl
  | s j' l st =>
    obtain ⟨rfl, h1, rfl, rfl, h3⟩ := hq
    obtain ⟨g1, g2⟩ := ok6_t h hj (R := (cnt cs j).1) (by omega) (cnt_ne cs h1)
    unfold stU
    dsimp only
    rw [br_t (by rw [ltF_eq]; exact decide_eq_true (by omega)), askS_sel g1]
    exact pushR (bb := false) ⟨rfl, rfl, g2, h3⟩ (by omega)
  | b j' l st lc cy =>
    obtain ⟨rfl, h1, rfl, rfl, h3, rfl, rfl⟩ := hq
    obtain ⟨g1, g2⟩ := ok6_t h hj (R := (cnt cs j).1) (by omega) (cnt_ne cs h1)
    unfold stU
    dsimp only
    rw [br_t (by rw [ltF_eq]; exact decide_eq_true (by omega)), askS_sel (show ok6b _ _ _ _ _ _ = true from g1)]
    exact pushR (bb := true) ⟨rfl, rfl, g2, h3, rfl, rfl⟩ (by omega)
theorem lastU {q : RO} (hq : RepV cs n q) : (stU cs n c q).sel = some (.inr 0) := by
  cases q with
  | z =>
    have : n = 0 := hq
    subst this; rfl
  | s j' l st =>
    obtain ⟨rfl, _⟩ := hq
    unfold stU
    dsimp only
    rw [br_f (by rw [ltF_eq]; simp)]; rfl
  | b j' l st lc cy =>
    obtain ⟨rfl, _⟩ := hq
    unfold stU
    dsimp only
    rw [br_f (by rw [ltF_eq]; simp)]; rfl
theorem runU (h : okP cs n c) (hn : n < 999990) : ∀ (d j : Nat) (q : RO), j + d = n → RepV cs j q → ∃ m r, runS (stU cs n c) m q = some (0, r) ∧ RepV cs n r
  | 0, j, q, hd, hq => by
    have : j = n := by omega
    subst this
    exact ⟨1, q, runD (lastU hq), hq⟩
  | d + 1, j, q, hd, hq => by
    obtain ⟨q', h1, h2⟩ := stepU h hn (by omega) hq
    obtain ⟨m, r, h3, h4⟩ := runU h hn d (j + 1) q' (by omega) h2
    exact ⟨m + 1, r, runN h1 h3, h4⟩
end
section
variable (cs : List Value) (t s n c : Nat) (ex : Bool)
noncomputable def K24 (q : RO) : Cfg := ⟨TU, no_, off_, loopE noL 24 4 72 2 BuO ((ShU cs n c t s ex).st .z).live ((ShU cs n c t s ex).st .z).hp (finO (ShU cs n c t s ex) (0, q) [0])⟩
noncomputable def o24 (q : RO) : Out QRes := execO Try.prog 2 (K24 cs t s n c ex q) 60 (.call 24 ⟨[sl 1 0 n c]⟩ (heapL (deads ++ [.cells cs t s ex])))
theorem v24s (j : Int) (l : Nat) (st : List Value) : (o24 cs t s n c ex (.s j l st)).twos [2] = .br true (.leaf (tp [.slice none 0 0, sl 2 0 l l]) [some (.cells st 70 2 false)]) .fail := by kernel_rfl
theorem x24s (j : Int) (l : Nat) (st : List Value) : o24 cs t s n c ex (.s j l st) = (o24 cs t s n c ex (.s j l st)).fix := by kernel_rfl
theorem v24b (j : Int) (l : Nat) (st : List Value) (lc : Nat) (cy : List Value) : (o24 cs t s n c ex (.b j l st lc cy)).twos [3, 2] = .br true (.leaf (tp [sl 3 0 lc lc, sl 2 0 l l]) [some (.cells cy 69 4 false), some (.cells st 70 2 false)]) .fail := by kernel_rfl
theorem x24b (j : Int) (l : Nat) (st : List Value) (lc : Nat) (cy : List Value) : o24 cs t s n c ex (.b j l st lc cy) = (o24 cs t s n c ex (.b j l st lc cy)).fix := by kernel_rfl
end
def R24 (f : Bool) (cs : List Value) (n : Nat) : List NC := cond f
  [.s (cnt cs n).2.length (cnt cs n).2.length (flatC (cnt cs n).2) 69 4 false, .s (cnt cs n).1.length (cnt cs n).1.length (flatP (cnt cs n).1.reverse) 70 2 false]
  [.v (.slice none 0 0), .s (cnt cs n).1.length (cnt cs n).1.length (flatP (cnt cs n).1.reverse) 70 2 false]
def sp24 (f : Bool) : TSpec := fun al css => match al, css with
  | [.slice (some ⟨1, 0, none⟩) n c], [cs] => some (P59 f cs n c, R24 f cs n)
  | _, _ => none
theorem c24 (f : Bool) : ∀ al css os p v, sp24 f al css = some (p, v) → p → Blks css os → (∀ cs ∈ css, cs.all Ex.flat = true) ∧ NC.Ok Try.prog 24 al deads os (gl + css.length) v := by
  intro al css os p v hs hp hb
  unfold sp24 at hs
  split at hs
  case h_2 => cases hs
  rename_i n c cs
  cases hs
  obtain ⟨t, s, ex, rfl⟩ := blks1 hb
  obtain ⟨p1, p2, p3, p4⟩ := hp
  refine ⟨by simpa using p1.1, ?_⟩
  obtain ⟨m, q, hr, hrep⟩ := runU p1 p3 n 0 .z (by omega) rfl
  unfold R24
  cases q with
  | z =>
    have : n = 0 := hrep
    omega
  | s j l st =>
    obtain ⟨rfl, _, rfl, rfl, h2⟩ := hrep
    have hL := (LuO (t := t) (s := s) (ex := ex) (n := n) (c := c) p1.1).table (id := 4) (s0 := .z) .none (by decide) (by trivial) hr (by kernel_rfl) [0]
    cases f with
    | true => exact absurd h2 p4
    | false =>
      refine twos_ok (C := K24 cs t s n c ex (.s (n : Int) _ _)) (n := 60) (κ := [2]) tsU hL (x24s cs t s n c ex _ _ _) ?_ rfl (by decide) (show ∀ c ∈ [2], 2 ≤ c by decide) ?_
      · exact (congrArg TT.sel (v24s cs t s n c ex _ _ _)).trans rfl
      · show ((flatP (cnt cs n).1.reverse).all flat && true) = true
        rw [flatP_flat]; rfl
  | b j l st lc cy =>
    obtain ⟨rfl, _, rfl, rfl, h2, rfl, rfl⟩ := hrep
    have hL := (LuO (t := t) (s := s) (ex := ex) (n := n) (c := c) p1.1).table (id := 4) (s0 := .z) .none (by decide) (by trivial) hr (by kernel_rfl) [0]
    cases f with
    | false => exact absurd p4 h2
    | true =>
      refine twos_ok (C := K24 cs t s n c ex (.b (n : Int) _ _ _ _)) (n := 60) (κ := [3, 2]) tsU hL (x24b cs t s n c ex _ _ _ _ _) ?_ rfl (by decide) (show ∀ c ∈ [3, 2], 2 ≤ c by decide) ?_
      · exact (congrArg TT.sel (v24b cs t s n c ex _ _ _ _ _)).trans rfl
      · show ((flatC (cnt cs n).2).all flat && ((flatP (cnt cs n).1.reverse).all flat && true)) = true
        rw [flatP_flat, flatC_flat]; rfl
end Go.Proofs.Ytphadgdlknhbnaa.Ways
