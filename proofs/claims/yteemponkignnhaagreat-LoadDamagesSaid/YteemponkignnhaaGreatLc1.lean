import Derived.Test.YteemponkignnhaaGreatLr3
import Derived.Test.YteemponkignnhaaGreatLr6
import Derived.Test.YteemponkignnhaaGreatEngTi
import Derived.Test.YteemponkignnhaaGreatLr2
set_option maxRecDepth 10000
noncomputable section
namespace Go.Proofs.YteemponkignnhaaGreat.Ways
open Go Go.Ex Go.RowKit
noncomputable def BcO : Code := bodyL Tryz.f91 4
noncomputable def BcI : Code := bodyL Tryz.f91 7
noncomputable def spQ : Nat → Nat → Split := at_ [(91, 14), (91, 23), (91, 37)] .bool no_
def mkQ : List (Nat × Nat) := [(91, 15), (91, 16), (91, 30), (91, 31), (91, 32), (91, 45), (91, 48), (91, 200048), (91, 300048)]
def syQz : Nat → Nat → Bool := on_ mkQ
def syQm : Nat → Nat → Bool := on_ ([(91, 41), (91, 300041)] ++ mkQ)
inductive TI where
  | e (l c : Nat) (st : List Value)
  | f (l c : Nat) (st : List Value) (lc : Nat) (cy : List Value)
def boQ (l : Nat) : Int := wrapF .i64 ((l : Int) - 4)
def ofQ (l : Nat) : Nat := 0 + (boQ l).toNat * 2
def tpQ (l : Nat) : Int := wrapF .i64 (boQ l + 1)
def g1Q (l c : Nat) : Bool := leF 0 (boQ l) && (leF (boQ l) l && leF l c)
def g2Q (l c : Nat) : Bool := decide (4 ≤ l - (boQ l).toNat ∧ 1 ≤ 4 ∧ 1 ≤ c - (boQ l).toNat)
def g3Q (l : Nat) (st : List Value) : Bool := areCells (repK 4 k2) st (ofQ l)
def x_ (st : List Value) (o k : Nat) : Int := intO st[o + k]?
def nestQ (l : Nat) (st : List Value) : Bool := leF (difQ (x_ st (ofQ l) 3) (x_ st (ofQ l) 5)) (minQ (difQ (x_ st (ofQ l) 1) (x_ st (ofQ l) 3)) (difQ (x_ st (ofQ l) 5) (x_ st (ofQ l) 7)))
def cycQ (l : Nat) (st : List Value) : List Value := [i (x_ st (ofQ l) 2), i (x_ st (ofQ l) 4), i (minQ (x_ st (ofQ l) 3) (x_ st (ofQ l) 5)), i (maxQ (x_ st (ofQ l) 3) (x_ st (ofQ l) 5))]
def g4Q (l c : Nat) : Bool := leF 0 0 && (leF 0 (tpQ l) && leF (tpQ l) c)
def lnQ (l : Nat) : Nat := (tpQ l).toNat + 1
def setQ (st : List Value) (o : Nat) (a b : Value) : List Value := (st.set o a).set (o + 1) b
def g5Q (st : List Value) (o : Nat) (a : Value) : Bool := decide (o < st.length) && (decide (o + 1 < (st.set o a).length) && true)
def full4 (l : Nat) (out : List Value) : Bool := decide (l = l) && (decide (out.length = l * 4) && decide (l + 1 ≤ 1048576))
def ask4 (e0 : Option (Nat × List Value)) (t : SS TI) : SS TI := match e0 with
  | none => t
  | some q => askS (full4 q.1 q.2) t
def nxQ (e0 : Option (Nat × List Value)) (l c : Nat) (st : List Value) (a b : Int) : TI := match e0 with
  | none => .f (lnQ l) c (setQ st ((tpQ l).toNat * 2) (i a) (i b)) 1 (cycQ l st)
  | some q => .f (lnQ l) c (setQ st ((tpQ l).toNat * 2) (i a) (i b)) (q.1 + 1) (q.2 ++ cycQ l st)
def rdQ (k lz : Nat) (rz : List Nat) (e0 : Option (Nat × List Value)) (l c : Nat) (st : List Value) (a b : Int) : SS TI :=
  .br (leF 4 l) (askS (g1Q l c) <| askS (g2Q l c) <| askS (g3Q l st) <| .br (!nestQ l st) (.done (k + 1) (List.range k) 1) (ask4 e0 <| askS (g4Q l c) <| .br (decide ((tpQ l).toNat + 1 ≤ c)) (askS (g5Q st ((tpQ l).toNat * 2) (i a)) <| .next lz rz (nxQ e0 l c st a b)) .fail)) (.done k (List.range k) 0)
def stQ (k : Nat) (e0 : Option (Nat × List Value)) (a b : Int) : TI → SS TI
  | .e l c st => rdQ k (k + 4) (List.range k ++ [k + 2]) e0 l c st a b
  | .f l c st lc cy => rdQ (k + 1) (k + 5) (List.range k ++ [k + 3]) (some (lc, cy)) l c st a b
def GdT : TI → Prop
  | .e _ _ st => st.all Ex.flat = true
  | .f _ _ st _ cy => st.all Ex.flat = true ∧ cy.all Ex.flat = true
theorem setQ_flat {st : List Value} {o : Nat} {a b : Int} (h : st.all Ex.flat = true) : (setQ st o (i a) (i b)).all Ex.flat = true := by
  have key : ∀ {l : List Value} {k : Nat} {v : Value}, l.all Ex.flat = true → Ex.flat v = true → (l.set k v).all Ex.flat = true := fun h hv => by
    refine List.all_eq_true.2 fun x hx => ?_
    rcases List.mem_or_eq_of_mem_set hx with h1 | rfl
    · exact List.all_eq_true.1 h x h1
    · exact hv
  exact key (key h rfl) rfl
theorem ask4_or {e0 : Option (Nat × List Value)} {t : SS TI} {r : TI ⊕ Nat} (h : (ask4 e0 t).sel = some r) : t.sel = some r := by
  cases e0 with
  | none => exact h
  | some _ => exact ask_or' h
theorem rdQ_good {k lz : Nat} {rz : List Nat} {e0 : Option (Nat × List Value)} {l c : Nat} {st : List Value} {a b : Int} {q' : TI} (h1 : st.all Ex.flat = true) (h2 : ∀ q, e0 = some q → q.2.all Ex.flat = true) (h : (rdQ k lz rz e0 l c st a b).sel = some (.inl q')) : GdT q' := by
  rcases br_or' h with h | h
  · have h := ask_or' (ask_or' (ask_or' h))
    rcases br_or' h with h | h
    · cases h
    · have h := ask_or' (ask4_or h)
      rcases br_or' h with h | h
      · have h := ask_or' h
        cases e0 with
        | none => cases h; exact ⟨setQ_flat h1, rfl⟩
        | some q => cases h; exact ⟨setQ_flat h1, app_flat (h2 q rfl) rfl⟩
      · cases h
  · cases h
theorem goodQ {k : Nat} {e0 : Option (Nat × List Value)} {a b : Int} (he : ∀ q, e0 = some q → q.2.all Ex.flat = true) : ∀ q q', GdT q → (stQ k e0 a b q).sel = some (.inl q') → GdT q' := by
  intro q q' hg h
  cases q with
  | e _ _ _ => exact rdQ_good hg he h
  | f _ _ _ _ _ => exact rdQ_good hg.1 (fun q hq => by cases hq; exact hg.2) h
section
variable (cs cy0 : List Value) (n c0 lc0 : Nat) (j a b : Int) (t s : Nat) (x : Bool)
def rcQ : CO × Bool := (.cells [i a, i b] 114 1 true, true)
def lvQ (cyc stk : Value) (q : Nat) : List (Nat × Value) := [(4, cyc), (5, stk), (7, pt q 0), (11, sl 1 0 n c0), (12, i n), (13, i j)]
def h0Q : List (CO × Bool) := [(.dead, false), (.cells cs t s x, true)]
def stkQ (st : List Value) : CO × Bool := (.cells st 114 2 false, true)
def cyQ_ (cy : List Value) : CO × Bool := (.cells cy 89 4 false, true)
def ddQ : CO × Bool := (.dead, false)
def tdS (I : Bool) (q : TI) : Go.Ex.Told := match I, q with
  | true, .e l c st => ⟨lvQ n c0 j (.slice none 0 0) (sl 2 0 l c) 3, h0Q cs t s x ++ [stkQ st, rcQ a b, ddQ]⟩
  | true, .f l c st lc cy => ⟨lvQ n c0 j (sl 5 0 lc lc) (sl 2 0 l c) 3, h0Q cs t s x ++ [stkQ st, rcQ a b, ddQ, cyQ_ cy]⟩
  | false, .e l c st => ⟨lvQ n c0 j (.slice none 0 0) (sl 5 0 l c) 3, h0Q cs t s x ++ [ddQ, rcQ a b, ddQ, stkQ st]⟩
  | false, .f l c st lc cy => ⟨lvQ n c0 j (sl 6 0 lc lc) (sl 5 0 l c) 3, h0Q cs t s x ++ [ddQ, rcQ a b, ddQ, stkQ st, cyQ_ cy]⟩
def tdB (I : Bool) (q : TI) : Go.Ex.Told := match I, q with
  | true, .e l c st => ⟨lvQ n c0 j (sl 3 0 lc0 lc0) (sl 2 0 l c) 4, h0Q cs t s x ++ [stkQ st, cyQ_ cy0, rcQ a b, ddQ]⟩
  | true, .f l c st lc cy => ⟨lvQ n c0 j (sl 6 0 lc lc) (sl 2 0 l c) 4, h0Q cs t s x ++ [stkQ st, ddQ, rcQ a b, ddQ, cyQ_ cy]⟩
  | false, .e l c st => ⟨lvQ n c0 j (sl 3 0 lc0 lc0) (sl 6 0 l c) 4, h0Q cs t s x ++ [ddQ, cyQ_ cy0, rcQ a b, ddQ, stkQ st]⟩
  | false, .f l c st lc cy => ⟨lvQ n c0 j (sl 7 0 lc lc) (sl 6 0 l c) 4, h0Q cs t s x ++ [ddQ, ddQ, rcQ a b, ddQ, stkQ st, cyQ_ cy]⟩
def finQ_ (k : Nat) (T : Go.Ex.Told) : CX × Go.Ex.Told := (match k with
  | 0 => .exit 2
  | _ => .exit 1, T)
def ShS (I : Bool) : Shape TI := ⟨52, tdS cs n c0 j a b t s x I, fun k q => finQ_ k (tdS cs n c0 j a b t s x I q)⟩
def ShB (I : Bool) : Shape TI := ⟨52, tdB cs cy0 n c0 lc0 j a b t s x I, fun k q => finQ_ k (tdB cs cy0 n c0 lc0 j a b t s x I q)⟩
noncomputable def CcI (b : Bool) : TI → Cfg
  | .e _ _ _ => ⟨TQ, spQ, cond b syQm syQz, noL⟩
  | .f _ _ _ _ _ => ⟨TQ, spQ, syQm, noL⟩
end
theorem tdS_flat {cs : List Value} {n c0 : Nat} {j a b : Int} {t s : Nat} {x I : Bool} (h : cs.all Ex.flat = true) {q : TI} (hq : GdT q) : (tdS cs n c0 j a b t s x I q).flat := by
  intro o ho
  cases I <;> cases q
  all_goals (simp [tdS, h0Q, stkQ, rcQ, ddQ, cyQ_] at ho)
  · rcases ho with rfl | rfl | rfl
    · exact fun y hy => List.all_eq_true.1 h y hy
    · exact fun y hy => List.all_eq_true.1 (by rfl) y hy
    · exact fun y hy => List.all_eq_true.1 hq y hy
  · rcases ho with rfl | rfl | rfl | rfl
    · exact fun y hy => List.all_eq_true.1 h y hy
    · exact fun y hy => List.all_eq_true.1 (by rfl) y hy
    · exact fun y hy => List.all_eq_true.1 hq.1 y hy
    · exact fun y hy => List.all_eq_true.1 hq.2 y hy
  · rcases ho with rfl | rfl | rfl
    · exact fun y hy => List.all_eq_true.1 h y hy
    · exact fun y hy => List.all_eq_true.1 hq y hy
    · exact fun y hy => List.all_eq_true.1 (by rfl) y hy
  · rcases ho with rfl | rfl | rfl | rfl
    · exact fun y hy => List.all_eq_true.1 h y hy
    · exact fun y hy => List.all_eq_true.1 hq.1 y hy
    · exact fun y hy => List.all_eq_true.1 (by rfl) y hy
    · exact fun y hy => List.all_eq_true.1 hq.2 y hy
theorem tdB_flat {cs cy0 : List Value} {n c0 lc0 : Nat} {j a b : Int} {t s : Nat} {x I : Bool} (h : cs.all Ex.flat = true) (h2 : cy0.all Ex.flat = true) {q : TI} (hq : GdT q) : (tdB cs cy0 n c0 lc0 j a b t s x I q).flat := by
  intro o ho
  cases I <;> cases q
  all_goals (simp [tdB, h0Q, stkQ, rcQ, ddQ, cyQ_] at ho)
  · rcases ho with rfl | rfl | rfl | rfl
    · exact fun y hy => List.all_eq_true.1 h y hy
    · exact fun y hy => List.all_eq_true.1 h2 y hy
    · exact fun y hy => List.all_eq_true.1 (by rfl) y hy
    · exact fun y hy => List.all_eq_true.1 hq y hy
  · rcases ho with rfl | rfl | rfl | rfl
    · exact fun y hy => List.all_eq_true.1 h y hy
    · exact fun y hy => List.all_eq_true.1 (by rfl) y hy
    · exact fun y hy => List.all_eq_true.1 hq.1 y hy
    · exact fun y hy => List.all_eq_true.1 hq.2 y hy
  · rcases ho with rfl | rfl | rfl | rfl
    · exact fun y hy => List.all_eq_true.1 h y hy
    · exact fun y hy => List.all_eq_true.1 hq y hy
    · exact fun y hy => List.all_eq_true.1 h2 y hy
    · exact fun y hy => List.all_eq_true.1 (by rfl) y hy
  · rcases ho with rfl | rfl | rfl | rfl
    · exact fun y hy => List.all_eq_true.1 h y hy
    · exact fun y hy => List.all_eq_true.1 hq.1 y hy
    · exact fun y hy => List.all_eq_true.1 (by rfl) y hy
    · exact fun y hy => List.all_eq_true.1 hq.2 y hy
section
variable {cs cy0 : List Value} {n c0 lc0 : Nat} {j a b : Int} {t s : Nat} {x : Bool}
theorem finQ_ne (k : Nat) (T : Go.Ex.Told) : (finQ_ k T).1 ≠ .normal := by
  unfold finQ_
  cases k <;> exact fun h => by cases h
theorem LsI (h : cs.all Ex.flat = true) : Loop1 Tryz.prog 2 91 BcI (ShS cs n c0 j a b t s x true) 5 (stQ 5 none a b) GdT :=
  .mk' (C := CcI false) (n := 60) (fun q _ => by cases q <;> exact tsQ) (fun q _ => by cases q <;> exact .none) (fun q ro _ => by cases q <;> kernel_rfl) (fun q ro _ => by cases q <;> kernel_rfl) (fun q => by cases q <;> kernel_rfl)
    (goodQ fun _ h => by cases h) (fun _ hq => tdS_flat h hq) (fun _ _ hq _ => ⟨tdS_flat h hq, finQ_ne _ _⟩)
theorem LsG (h : cs.all Ex.flat = true) : Loop1 Tryz.prog 2 91 BcI (ShS cs n c0 j a b t s x false) 6 (stQ 6 none a b) GdT :=
  .mk' (C := CcI false) (n := 60) (fun q _ => by cases q <;> exact tsQ) (fun q _ => by cases q <;> exact .none) (fun q ro _ => by cases q <;> kernel_rfl) (fun q ro _ => by cases q <;> kernel_rfl) (fun q => by cases q <;> kernel_rfl)
    (goodQ fun _ h => by cases h) (fun _ hq => tdS_flat h hq) (fun _ _ hq _ => ⟨tdS_flat h hq, finQ_ne _ _⟩)
theorem LbI (h : cs.all Ex.flat = true) (h2 : cy0.all Ex.flat = true) : Loop1 Tryz.prog 2 91 BcI (ShB cs cy0 n c0 lc0 j a b t s x true) 6 (stQ 6 (some (lc0, cy0)) a b) GdT :=
  .mk' (C := CcI true) (n := 60) (fun q _ => by cases q <;> exact tsQ) (fun q _ => by cases q <;> exact .none) (fun q ro _ => by cases q <;> kernel_rfl) (fun q ro _ => by cases q <;> kernel_rfl) (fun q => by cases q <;> kernel_rfl)
    (goodQ fun _ h => by cases h; exact h2) (fun _ hq => tdB_flat h h2 hq) (fun _ _ hq _ => ⟨tdB_flat h h2 hq, finQ_ne _ _⟩)
theorem LbG (h : cs.all Ex.flat = true) (h2 : cy0.all Ex.flat = true) : Loop1 Tryz.prog 2 91 BcI (ShB cs cy0 n c0 lc0 j a b t s x false) 7 (stQ 7 (some (lc0, cy0)) a b) GdT :=
  .mk' (C := CcI true) (n := 60) (fun q _ => by cases q <;> exact tsQ) (fun q _ => by cases q <;> exact .none) (fun q ro _ => by cases q <;> kernel_rfl) (fun q ro _ => by cases q <;> kernel_rfl) (fun q => by cases q <;> kernel_rfl)
    (goodQ fun _ h => by cases h; exact h2) (fun _ hq => tdB_flat h h2 hq) (fun _ _ hq _ => ⟨tdB_flat h h2 hq, finQ_ne _ _⟩)
end
end Go.Proofs.YteemponkignnhaaGreat.Ways
set_option maxRecDepth 10000
namespace Go.Ex
variable {σ : Type}
def endP2 (step : σ → SS σ) (s : σ) : Prop := ∃ m r, runS step m s = some r
noncomputable def endE2 (step : σ → SS σ) (s : σ) : Nat × σ := @dite _ (endP2 step s) (Classical.propDecidable _) (fun h => h.choose_spec.choose) (fun _ => (0, s))
theorem endE2_run {step : σ → SS σ} {s : σ} (h : endP2 step s) : ∃ m, runS step m s = some (endE2 step s) := by
  refine ⟨h.choose, ?_⟩
  unfold endE2
  rw [dif_pos h]
  exact h.choose_spec.choose_spec
theorem endE2_eq {step : σ → SS σ} {s : σ} {r : Nat × σ} {m : Nat} (h : runS step m s = some r) : endP2 step s ∧ endE2 step s = r := by
  have hp : endP2 step s := ⟨m, r, h⟩
  obtain ⟨k, hk⟩ := endE2_run hp
  refine ⟨hp, ?_⟩
  have h1 := runS_le (Nat.le_max_left m k) h
  have h2 := runS_le (Nat.le_max_right m k) hk
  rw [h1] at h2
  exact (Option.some.inj h2).symm
theorem endE2_good {step : σ → SS σ} {Good : σ → Prop} (h : ∀ s s', Good s → (step s).sel = some (.inl s') → Good s') {s : σ} (hs : Good s) : Good (endE2 step s).2 := by
  by_cases hp : endP2 step s
  · obtain ⟨k, hk⟩ := endE2_run hp
    exact runS_good h hs hk
  · unfold endE2
    rw [dif_neg hp]
    exact hs
end Go.Ex
noncomputable section
namespace Go.Proofs.YteemponkignnhaaGreat.Ways
open Go Go.Ex Go.RowKit
def isF : TI → Bool
  | .e _ _ _ => false
  | .f _ _ _ _ _ => true
def lT : TI → Nat
  | .e l _ _ => l
  | .f l _ _ _ _ => l
def cT : TI → Nat
  | .e _ c _ => c
  | .f _ c _ _ _ => c
def stT : TI → List Value
  | .e _ _ st => st
  | .f _ _ st _ _ => st
def lcT : TI → Nat
  | .e _ _ _ => 0
  | .f _ _ _ lc _ => lc
def cyT : TI → List Value
  | .e _ _ _ => []
  | .f _ _ _ _ cy => cy
noncomputable def fin2 (S : Shape TI) (q : TI) (k : Nat) : Out QRes :=
  .br (Nat.beq k 0) (.leaf (.ex (S.fin 0 q).1 ((S.fin 0 q).2.tm S.N) (S.fin 0 q).2.heap [])) (.br (Nat.beq k 1) (.leaf (.ex (S.fin 1 q).1 ((S.fin 1 q).2.tm S.N) (S.fin 1 q).2.heap [])) .fail)
noncomputable def outT (S : Shape TI) (step : TI → SS TI) (s0 : TI) : Out QRes :=
  .br (tru (endP2 step s0)) (.br (isF (endE2 step s0).2) (fin2 S (.f (lT (endE2 step s0).2) (cT (endE2 step s0).2) (stT (endE2 step s0).2) (lcT (endE2 step s0).2) (cyT (endE2 step s0).2)) (endE2 step s0).1)
    (fin2 S (.e (lT (endE2 step s0).2) (cT (endE2 step s0).2) (stT (endE2 step s0).2)) (endE2 step s0).1)) .fail
theorem fin2_sel {S : Shape TI} {q : TI} {k : Nat} {r : QRes} (h : (fin2 S q k).sel = some r) : r = .ex (S.fin k q).1 ((S.fin k q).2.tm S.N) (S.fin k q).2.heap [] := by
  have h' : cond (Nat.beq k 0) (some (QRes.ex (S.fin 0 q).1 ((S.fin 0 q).2.tm S.N) (S.fin 0 q).2.heap [])) (cond (Nat.beq k 1) (some (QRes.ex (S.fin 1 q).1 ((S.fin 1 q).2.tm S.N) (S.fin 1 q).2.heap [])) none) = some r := h
  cases h0 : Nat.beq k 0 with
  | true =>
    rw [h0] at h'
    rw [Nat.eq_of_beq_eq_true h0]
    exact (Option.some.inj h').symm
  | false =>
    rw [h0] at h'
    cases h1 : Nat.beq k 1 with
    | true =>
      rw [h1] at h'
      rw [Nat.eq_of_beq_eq_true h1]
      exact (Option.some.inj h').symm
    | false => rw [h1] at h'; cases h'
theorem outT_sel {S : Shape TI} {step : TI → SS TI} {s0 : TI} {r : QRes} (h : (outT S step s0).sel = some r) : endP2 step s0 ∧ r = .ex (S.fin (endE2 step s0).1 (endE2 step s0).2).1 ((S.fin (endE2 step s0).1 (endE2 step s0).2).2.tm S.N) (S.fin (endE2 step s0).1 (endE2 step s0).2).2.heap [] := by
  unfold outT at h
  rw [Out.sel_br] at h
  cases hp : tru (endP2 step s0) with
  | false => rw [hp] at h; cases h
  | true =>
    rw [hp] at h
    refine ⟨tru_iff.1 hp, ?_⟩
    have h' : (Out.br (isF (endE2 step s0).2) (fin2 S (.f (lT (endE2 step s0).2) (cT (endE2 step s0).2) (stT (endE2 step s0).2) (lcT (endE2 step s0).2) (cyT (endE2 step s0).2)) (endE2 step s0).1)
      (fin2 S (.e (lT (endE2 step s0).2) (cT (endE2 step s0).2) (stT (endE2 step s0).2)) (endE2 step s0).1)).sel = some r := h
    generalize endE2 step s0 = u at h'
    obtain ⟨k, q⟩ := u
    cases q with
    | e _ _ _ => exact fin2_sel h'
    | f _ _ _ _ _ => exact fin2_sel h'
theorem _root_.Go.Ex.Loop1.tableT {P : Program} {G f id : Nat} {b : Code} {S : Shape TI} {k : Nat} {step : TI → SS TI} {Good : TI → Prop} {L : LTab} (h : Loop1 P G f b S k step Good) (hL : LSound P G L) (hG : G ≤ k) {s0 : TI} (hg : Good s0)
    (hgood : goodR k k (S.st s0).live (S.st s0).hp (List.range k) = true) : LSound P G (loopE L f id S.N k b (S.st s0).live (S.st s0).hp (outT S step s0)) := by
  refine hL.loop hgood (h.flat s0 hg) fun q hq ro tm0 H0 hk hst => ?_
  obtain ⟨hp, rfl⟩ := outT_sel hq
  obtain ⟨m, hm⟩ := endE2_run hp
  exact h.run hG hg hm ro hk hst
inductive TO where
  | z
  | s (j : Int) (l c : Nat) (st : List Value)
  | b (j : Int) (l c : Nat) (st : List Value) (lc : Nat) (cy : List Value)
def GdO : TO → Prop
  | .z => True
  | .s _ _ _ st => st.all Ex.flat = true
  | .b _ _ _ st _ cy => st.all Ex.flat = true ∧ cy.all Ex.flat = true
def sI0 (cs : List Value) (j : Int) (l c : Nat) (st : List Value) : TI := .e (l + 1) c (setQ st (l * 2) (i (pA cs j.toNat)) (i (pB cs j.toNat)))
def sG0 (cs : List Value) (j : Int) (l : Nat) (st : List Value) : TI := .e (l + 1) (l + 1) (st.take (l * 2) ++ el cs j)
section
variable (cs : List Value) (n c0 : Nat) (t s : Nat) (x : Bool)
noncomputable def CcO : TO → Cfg
  | .z => ⟨TQ, at_ [(91, 14)] .bool no_, syQz, noL⟩
  | .s j l c st => ⟨TQ, spQ, on_ ([(91, 20), (91, 200020), (91, 300020)] ++ mkQ),
    loopE (loopE noL 91 7 52 5 BcI ((ShS cs n c0 j (pA cs j.toNat) (pB cs j.toNat) t s x true).st (sI0 cs j l c st)).live ((ShS cs n c0 j (pA cs j.toNat) (pB cs j.toNat) t s x true).st (sI0 cs j l c st)).hp (outT (ShS cs n c0 j (pA cs j.toNat) (pB cs j.toNat) t s x true) (stQ 5 none (pA cs j.toNat) (pB cs j.toNat)) (sI0 cs j l c st)))
      91 7 52 6 BcI ((ShS cs n c0 j (pA cs j.toNat) (pB cs j.toNat) t s x false).st (sG0 cs j l st)).live ((ShS cs n c0 j (pA cs j.toNat) (pB cs j.toNat) t s x false).st (sG0 cs j l st)).hp (outT (ShS cs n c0 j (pA cs j.toNat) (pB cs j.toNat) t s x false) (stQ 6 none (pA cs j.toNat) (pB cs j.toNat)) (sG0 cs j l st))⟩
  | .b j l c st lc cy => ⟨TQ, spQ, on_ ([(91, 20), (91, 200020), (91, 300020)] ++ mkQ),
    loopE (loopE noL 91 7 52 6 BcI ((ShB cs cy n c0 lc j (pA cs j.toNat) (pB cs j.toNat) t s x true).st (sI0 cs j l c st)).live ((ShB cs cy n c0 lc j (pA cs j.toNat) (pB cs j.toNat) t s x true).st (sI0 cs j l c st)).hp (outT (ShB cs cy n c0 lc j (pA cs j.toNat) (pB cs j.toNat) t s x true) (stQ 6 (some (lc, cy)) (pA cs j.toNat) (pB cs j.toNat)) (sI0 cs j l c st)))
      91 7 52 7 BcI ((ShB cs cy n c0 lc j (pA cs j.toNat) (pB cs j.toNat) t s x false).st (sG0 cs j l st)).live ((ShB cs cy n c0 lc j (pA cs j.toNat) (pB cs j.toNat) t s x false).st (sG0 cs j l st)).hp (outT (ShB cs cy n c0 lc j (pA cs j.toNat) (pB cs j.toNat) t s x false) (stQ 7 (some (lc, cy)) (pA cs j.toNat) (pB cs j.toNat)) (sG0 cs j l st))⟩
def loQ (cyc stk : Value) (j : Int) : List (Nat × Value) := [(4, cyc), (5, stk), (11, sl 1 0 n c0), (12, i n), (13, i j)]
def tdO : TO → Go.Ex.Told
  | .z => ⟨loQ n c0 (.slice none 0 0) (.slice none 0 0) 0, h0Q cs t s x⟩
  | .s j l c st => ⟨loQ n c0 (.slice none 0 0) (sl 2 0 l c) j, h0Q cs t s x ++ [stkQ st]⟩
  | .b j l c st lc cy => ⟨loQ n c0 (sl 3 0 lc lc) (sl 2 0 l c) j, h0Q cs t s x ++ [stkQ st, cyQ_ cy]⟩
def fdO : TO → Go.Ex.Told
  | .z => ⟨[(4, .slice none 0 0), (5, .slice none 0 0)], h0Q cs t s x⟩
  | .s _ l c st => ⟨[(4, .slice none 0 0), (5, sl 2 0 l c)], h0Q cs t s x ++ [stkQ st]⟩
  | .b _ l c st lc cy => ⟨[(4, sl 3 0 lc lc), (5, sl 2 0 l c)], h0Q cs t s x ++ [stkQ st, cyQ_ cy]⟩
def ShO : Shape TO := ⟨52, tdO cs n c0 t s x, fun _ q => (.exit 0, fdO cs t s x q)⟩
def two_ (k : Nat) (u : SS TO) : SS TO := .br (Nat.beq k 0) u (.br (Nat.beq k 1) u .fail)
noncomputable def bhQ (step : TI → SS TI) (s0 : TI) (lenE : Nat) (rE : List Nat) (lenF : Nat) (rF : List Nat) (e0 : Option (Nat × List Value)) (j : Int) : SS TO :=
  askS (tru (endP2 step s0)) <| .br (isF (endE2 step s0).2) (two_ (endE2 step s0).1 (.next lenF rF (.b (wrapF .i64 (j + 1)) (lT (endE2 step s0).2) (cT (endE2 step s0).2) (stT (endE2 step s0).2) (lcT (endE2 step s0).2) (cyT (endE2 step s0).2))))
    (two_ (endE2 step s0).1 (.next lenE rE (match e0 with
      | none => .s (wrapF .i64 (j + 1)) (lT (endE2 step s0).2) (cT (endE2 step s0).2) (stT (endE2 step s0).2)
      | some q => .b (wrapF .i64 (j + 1)) (lT (endE2 step s0).2) (cT (endE2 step s0).2) (stT (endE2 step s0).2) q.1 q.2)))
def grQ (l c : Nat) (st : List Value) : Bool := decide (l ≤ c) && (decide (st.length = c * 2) && decide (l + 1 ≤ 1048576))
noncomputable def stO : TO → SS TO
  | .z => .br (ltF 0 n) (askS (bnd_ 0 n c0) <| askS (cP cs 0) <| (.next 5 [0, 1, 4] (.s 1 1 1 (el cs 0)))) (.done 2 [0, 1] 0)
  | .s j l c st => .br (ltF j n) (askS (bnd_ j n c0) <| askS (cP cs j) <| .br (decide (l + 1 ≤ c)) (askS (g5Q st (l * 2) (i (pA cs j.toNat))) <| bhQ (stQ 5 none (pA cs j.toNat) (pB cs j.toNat)) (sI0 cs j l c st) 5 [0, 1, 2] 6 [0, 1, 2, 5] none j)
      (askS (grQ l c st) <| bhQ (stQ 6 none (pA cs j.toNat) (pB cs j.toNat)) (sG0 cs j l st) 6 [0, 1, 5] 7 [0, 1, 5, 6] none j)) (.done 3 [0, 1, 2] 0)
  | .b j l c st lc cy => .br (ltF j n) (askS (bnd_ j n c0) <| askS (cP cs j) <| .br (decide (l + 1 ≤ c)) (askS (g5Q st (l * 2) (i (pA cs j.toNat))) <| bhQ (stQ 6 (some (lc, cy)) (pA cs j.toNat) (pB cs j.toNat)) (sI0 cs j l c st) 6 [0, 1, 2, 3] 7 [0, 1, 2, 6] (some (lc, cy)) j)
      (askS (grQ l c st) <| bhQ (stQ 7 (some (lc, cy)) (pA cs j.toNat) (pB cs j.toNat)) (sG0 cs j l st) 7 [0, 1, 6, 3] 8 [0, 1, 6, 7] (some (lc, cy)) j)) (.done 4 [0, 1, 2, 3] 0)
end
section
variable {cs : List Value} {n c0 : Nat} {t s : Nat} {x : Bool}
theorem tdO_flat (h : cs.all Ex.flat = true) {q : TO} (hq : GdO q) : (tdO cs n c0 t s x q).flat := by
  intro o ho
  cases q
  all_goals (simp [tdO, h0Q, stkQ, cyQ_] at ho)
  · subst ho; exact fun y hy => List.all_eq_true.1 h y hy
  · rcases ho with rfl | rfl
    · exact fun y hy => List.all_eq_true.1 h y hy
    · exact fun y hy => List.all_eq_true.1 hq y hy
  · rcases ho with rfl | rfl | rfl
    · exact fun y hy => List.all_eq_true.1 h y hy
    · exact fun y hy => List.all_eq_true.1 hq.1 y hy
    · exact fun y hy => List.all_eq_true.1 hq.2 y hy
theorem fdO_flat (h : cs.all Ex.flat = true) {q : TO} (hq : GdO q) : (fdO cs t s x q).flat := by
  intro o ho
  cases q
  all_goals (simp [fdO, h0Q, stkQ, cyQ_] at ho)
  · subst ho; exact fun y hy => List.all_eq_true.1 h y hy
  · rcases ho with rfl | rfl
    · exact fun y hy => List.all_eq_true.1 h y hy
    · exact fun y hy => List.all_eq_true.1 hq y hy
  · rcases ho with rfl | rfl | rfl
    · exact fun y hy => List.all_eq_true.1 h y hy
    · exact fun y hy => List.all_eq_true.1 hq.1 y hy
    · exact fun y hy => List.all_eq_true.1 hq.2 y hy
theorem sI0_good {j : Int} {l c : Nat} {st : List Value} (h : st.all Ex.flat = true) : GdT (sI0 cs j l c st) := setQ_flat h
theorem sG0_good {j : Int} {l : Nat} {st : List Value} (h : st.all Ex.flat = true) : GdT (sG0 cs j l st) :=
  app_flat (List.all_eq_true.2 fun y hy => List.all_eq_true.1 h y (List.mem_of_mem_take hy)) rfl
theorem gd_st {q : TI} (h : GdT q) : (stT q).all Ex.flat = true := by
  cases q with
  | e _ _ _ => exact h
  | f _ _ _ _ _ => exact h.1
theorem gd_cy {q : TI} (h : GdT q) : (cyT q).all Ex.flat = true := by
  cases q with
  | e _ _ _ => rfl
  | f _ _ _ _ _ => exact h.2
theorem two_or {k : Nat} {u : SS TO} {r : TO ⊕ Nat} (h : (two_ k u).sel = some r) : u.sel = some r := by
  rcases br_or' h with h | h
  · exact h
  · rcases br_or' h with h | h
    · exact h
    · cases h
theorem bhQ_good {step : TI → SS TI} {s0 : TI} {lenE lenF : Nat} {rE rF : List Nat} {e0 : Option (Nat × List Value)} {j : Int} {q' : TO} (hs : ∀ q q', GdT q → (step q).sel = some (.inl q') → GdT q') (h0 : GdT s0) (he : ∀ q, e0 = some q → q.2.all Ex.flat = true) (h : (bhQ step s0 lenE rE lenF rF e0 j).sel = some (.inl q')) : GdO q' := by
  have hg := endE2_good (Good := GdT) hs h0
  have h := ask_or' h
  rcases br_or' h with h | h
  · have h := two_or h
    cases h
    exact ⟨gd_st hg, gd_cy hg⟩
  · have h := two_or h
    cases e0 with
    | none => cases h; exact gd_st hg
    | some q => cases h; exact ⟨gd_st hg, he q rfl⟩
theorem goodO : ∀ q q', GdO q → (stO cs n c0 q).sel = some (.inl q') → GdO q' := by
  intro q q' hg h
  cases q with
  | z =>
    rcases br_or' h with h | h
    · have h := ask_or' (ask_or' h)
      cases h; rfl
    · cases h
  | s j l c st =>
    rcases br_or' h with h | h
    · have h := ask_or' (ask_or' h)
      rcases br_or' h with h | h
      · exact bhQ_good (goodQ fun _ h => by cases h) (sI0_good hg) (fun _ h => by cases h) (ask_or' h)
      · exact bhQ_good (goodQ fun _ h => by cases h) (sG0_good hg) (fun _ h => by cases h) (ask_or' h)
    · cases h
  | b j l c st lc cy =>
    rcases br_or' h with h | h
    · have h := ask_or' (ask_or' h)
      rcases br_or' h with h | h
      · exact bhQ_good (goodQ fun _ h => by cases h; exact hg.2) (sI0_good hg.1) (fun _ h => by cases h; exact hg.2) (ask_or' h)
      · exact bhQ_good (goodQ fun _ h => by cases h; exact hg.2) (sG0_good hg.1) (fun _ h => by cases h; exact hg.2) (ask_or' h)
    · cases h
theorem LcO (h : cs.all Ex.flat = true) : Loop1 Tryz.prog 2 91 BcO (ShO cs n c0 t s x) 2 (stO cs n c0) GdO :=
  .mk' (C := CcO cs n c0 t s x) (n := 60) (fun q _ => by cases q <;> exact tsQ) (fun q hq => by
    cases q with
    | z => exact .none
    | s j _ _ _ => exact (LsG (n := n) (c0 := c0) (j := j) (t := t) (s := s) (x := x) h).tableT (id := 7) ((LsI (n := n) (c0 := c0) (j := j) (t := t) (s := s) (x := x) h).tableT (id := 7) .none (by decide) (sI0_good hq) (by kernel_rfl)) (by decide) (sG0_good hq) (by kernel_rfl)
    | b j _ _ _ lc _ => exact (LbG (n := n) (c0 := c0) (lc0 := lc) (j := j) (t := t) (s := s) (x := x) h hq.2).tableT (id := 7) ((LbI (n := n) (c0 := c0) (lc0 := lc) (j := j) (t := t) (s := s) (x := x) h hq.2).tableT (id := 7) .none (by decide) (sI0_good hq.1) (by kernel_rfl)) (by decide) (sG0_good hq.1) (by kernel_rfl))
    (fun q ro _ => by cases q <;> kernel_rfl) (fun q ro _ => by cases q <;> kernel_rfl) (fun q => by cases q <;> kernel_rfl)
    goodO (fun _ hq => tdO_flat h hq) (fun _ _ hq _ => ⟨fdO_flat h hq, fun h => by cases h⟩)
end
end Go.Proofs.YteemponkignnhaaGreat.Ways
set_option maxRecDepth 10000
noncomputable section
namespace Go.Proofs.YteemponkignnhaaGreat.Ways
open Go Go.Ex Go.RowKit Go.Turn
abbrev Cy := Pt × Pt
def cyL (q : Cy) : List Value := [i q.1.1, i q.2.1, i (minQ q.1.2 q.2.2), i (maxQ q.1.2 q.2.2)]
def flatC : List Cy → List Value
  | [] => []
  | q :: r => cyL q ++ flatC r
theorem flatC_app : ∀ a b : List Cy, flatC (a ++ b) = flatC a ++ flatC b
  | [], _ => rfl
  | q :: r, b => by
    show cyL q ++ flatC (r ++ b) = cyL q ++ flatC r ++ flatC b
    rw [flatC_app r b, List.append_assoc]
theorem flatC_len : ∀ a : List Cy, (flatC a).length = a.length * 4
  | [] => rfl
  | q :: r => by
    show (cyL q ++ flatC r).length = (r.length + 1) * 4
    rw [List.length_append, flatC_len r]
    show 4 + _ = _
    omega
theorem flatC_flat : ∀ a : List Cy, (flatC a).all Ex.flat = true
  | [] => rfl
  | _ :: r => flatC_flat r
def nst (a b c d : Pt) : Bool := leF (difQ b.2 c.2) (minQ (difQ a.2 b.2) (difQ c.2 d.2))
def rd (p : Pt) : List Pt → List Cy → List Pt × List Cy
  | c :: b :: a :: T, C => cond (nst a b c p) (rd p (a :: T) (C ++ [(b, c)])) (c :: b :: a :: T, C)
  | [c, b], C => ([c, b], C)
  | [c], C => ([c], C)
  | [], C => ([], C)
theorem runN {σ : Type} {step : σ → SS σ} {s s' : σ} {m : Nat} {r : Nat × σ} (h : (step s).sel = some (.inl s')) (h2 : runS step m s' = some r) : runS step (m + 1) s = some r := by
  unfold runS
  rw [h]
  exact h2
theorem runD {σ : Type} {step : σ → SS σ} {s : σ} {j : Nat} (h : (step s).sel = some (.inr j)) : runS step 1 s = some (j, s) := by
  unfold runS
  rw [h]
def Rep (l c : Nat) (st : List Value) (R : List Pt) : Prop := R.length = l ∧ l ≤ c ∧ st.length = c * 2 ∧ ∃ J, st = flatP R.reverse ++ J
def EC (e0 : Option (Nat × List Value)) (C : List Cy) : Prop := match e0 with
  | none => C = []
  | some q => q = (C.length, flatC C)
theorem x_app (P Q : List Value) (k : Nat) : x_ (P ++ Q) P.length k = intO Q[k]? := by
  unfold x_
  rw [List.getElem?_append_right (by omega), Nat.add_sub_cancel_left]
theorem areCells_app (P Q : List Value) : ∀ (ks : List CK) (o : Nat), areCells ks (P ++ Q) (P.length + o) = areCells ks Q o
  | [], _ => rfl
  | k :: ks, o => by
    show (isCellB k (P ++ Q)[P.length + o]? && areCells ks (P ++ Q) (P.length + o + 1)) = (isCellB k Q[o]? && areCells ks Q (o + 1))
    rw [List.getElem?_append_right (by omega), Nat.add_sub_cancel_left, Nat.add_assoc, areCells_app P Q ks (o + 1)]
theorem setQ_app (P : List Value) (x y a b : Value) (J : List Value) : setQ (P ++ x :: y :: J) P.length a b = P ++ a :: b :: J := by
  unfold setQ
  rw [List.set_append_right _ _ (Nat.le_refl _), Nat.sub_self]
  show (P ++ a :: y :: J).set (P.length + 1) b = _
  rw [List.set_append_right _ _ (by omega), Nat.add_sub_cancel_left]; rfl
theorem flat4 (a b x d : Pt) (T : List Pt) (J : List Value) : flatP (d :: x :: b :: a :: T).reverse ++ J = flatP T.reverse ++ (i a.1 :: i a.2 :: i b.1 :: i b.2 :: i x.1 :: i x.2 :: i d.1 :: i d.2 :: J) := by
  simp [flatP_app, flatP]
theorem boQ_eq (m : Nat) (h : m < 1000000) : boQ (m + 4) = (m : Int) := by
  unfold boQ
  rw [wrapF_in (by omega) (by omega)]; omega
theorem tpQ_eq (m : Nat) (h : m < 1000000) : tpQ (m + 4) = ((m + 1 : Nat) : Int) := by
  unfold tpQ
  rw [boQ_eq m h, wsucc (by omega)]
section
variable {k lz : Nat} {rz : List Nat} {e0 : Option (Nat × List Value)} {c : Nat} {st : List Value} {a b x d : Pt} {T : List Pt} {C : List Cy}
theorem rdQ_in (h : Rep (T.length + 4) c st (d :: x :: b :: a :: T)) (hl : T.length + 4 < 1000000) :
    (rdQ k lz rz e0 (T.length + 4) c st d.1 d.2).sel = (SS.br (!nst a b x d) (.done (k + 1) (List.range k) 1) (ask4 e0 <| askS (g4Q (T.length + 4) c) <| .br (decide ((tpQ (T.length + 4)).toNat + 1 ≤ c)) (askS (g5Q st ((tpQ (T.length + 4)).toNat * 2) (i d.1)) <| .next lz rz (nxQ e0 (T.length + 4) c st d.1 d.2)) .fail)).sel := by
  obtain ⟨_, hc, hs, J, hJ⟩ := h
  have hb := boQ_eq T.length (by omega)
  rw [flat4] at hJ
  have hof : ofQ (T.length + 4) = (flatP T.reverse).length := by
    unfold ofQ
    rw [hb, flatP_len, List.length_reverse, show ((T.length : Nat) : Int).toNat = T.length from rfl]; omega
  have h1 : g1Q (T.length + 4) c = true := by
    unfold g1Q
    rw [hb, leF_eq, leF_eq, leF_eq, decide_eq_true (by omega), decide_eq_true (by omega), decide_eq_true (by omega)]; rfl
  have h2 : g2Q (T.length + 4) c = true := by
    unfold g2Q
    rw [hb, show ((T.length : Nat) : Int).toNat = T.length from rfl]
    exact decide_eq_true ⟨by omega, by omega, by omega⟩
  have h3 : g3Q (T.length + 4) st = true := by
    unfold g3Q
    rw [hof, hJ]
    exact areCells_app _ _ (repK 4 k2) 0
  have hn : nestQ (T.length + 4) st = nst a b x d := by
    unfold nestQ
    rw [hof, hJ, x_app, x_app, x_app, x_app]; rfl
  unfold rdQ
  rw [br_t (by rw [leF_eq]; exact decide_eq_true (by omega)), askS_sel h1, askS_sel h2, askS_sel h3, hn]
theorem rdQ_miss (h : Rep (T.length + 4) c st (d :: x :: b :: a :: T)) (hl : T.length + 4 < 1000000) (hn : nst a b x d = false) : (rdQ k lz rz e0 (T.length + 4) c st d.1 d.2).sel = some (.inr 1) := by
  rw [rdQ_in h hl, hn]; rfl
theorem rdQ_hit (h : Rep (T.length + 4) c st (d :: x :: b :: a :: T)) (he : EC e0 C) (hC : C.length < 1000000) (hl : T.length + 4 < 1000000) (hn : nst a b x d = true) :
    (rdQ k lz rz e0 (T.length + 4) c st d.1 d.2).sel = some (.inl (.f (T.length + 2) c (setQ st ((T.length + 1) * 2) (i d.1) (i d.2)) (C.length + 1) (flatC (C ++ [(b, x)])))) := by
  rw [rdQ_in h hl, hn]
  obtain ⟨_, hc, hs, J, hJ⟩ := h
  have hb := boQ_eq T.length (by omega)
  have ht := tpQ_eq T.length (by omega)
  rw [flat4] at hJ
  have hof : ofQ (T.length + 4) = (flatP T.reverse).length := by
    unfold ofQ
    rw [hb, flatP_len, List.length_reverse, show ((T.length : Nat) : Int).toNat = T.length from rfl]; omega
  have hcy : cycQ (T.length + 4) st = cyL (b, x) := by
    unfold cycQ
    rw [hof, hJ, x_app, x_app, x_app, x_app]; rfl
  have h4 : g4Q (T.length + 4) c = true := by
    unfold g4Q
    rw [ht, leF_eq, leF_eq, leF_eq, decide_eq_true (by omega), decide_eq_true (by omega), decide_eq_true (by omega)]; rfl
  have h5 : g5Q st ((T.length + 1) * 2) (i d.1) = true := by
    unfold g5Q
    rw [List.length_set, hs, decide_eq_true (by omega), decide_eq_true (by omega)]; rfl
  have h6 : ∀ t : SS TI, (ask4 e0 t).sel = t.sel := by
    intro t
    cases e0 with
    | none => rfl
    | some q =>
      cases he
      refine askS_sel ?_
      unfold full4
      rw [decide_eq_true rfl, decide_eq_true (flatC_len C), decide_eq_true (by omega)]; rfl
  show (ask4 e0 _).sel = _
  rw [h6, askS_sel h4, ht, show ((T.length + 1 : Nat) : Int).toNat = T.length + 1 from rfl, br_t (decide_eq_true (by omega)), askS_sel h5]
  show some (Sum.inl (nxQ e0 (T.length + 4) c st d.1 d.2)) = _
  have hln : lnQ (T.length + 4) = T.length + 2 := by
    unfold lnQ
    rw [ht]; rfl
  cases e0 with
  | none =>
    have he' : C = [] := he
    subst he'
    show some (Sum.inl (TI.f (lnQ (T.length + 4)) c (setQ st ((tpQ (T.length + 4)).toNat * 2) (i d.1) (i d.2)) 1 (cycQ (T.length + 4) st))) = _
    rw [hln, ht, hcy]; rfl
  | some q =>
    cases he
    show some (Sum.inl (TI.f (lnQ (T.length + 4)) c (setQ st ((tpQ (T.length + 4)).toNat * 2) (i d.1) (i d.2)) (C.length + 1) (flatC C ++ cycQ (T.length + 4) st))) = _
    rw [hln, ht, hcy, flatC_app]; rfl
end
theorem rep_red {c : Nat} {st : List Value} {a b x d : Pt} {T : List Pt} (h : Rep (T.length + 4) c st (d :: x :: b :: a :: T)) : Rep (T.length + 2) c (setQ st ((T.length + 1) * 2) (i d.1) (i d.2)) (d :: a :: T) := by
  obtain ⟨_, hc, hs, J, hJ⟩ := h
  refine ⟨rfl, by omega, by unfold setQ; rw [List.length_set, List.length_set, hs], i x.1 :: i x.2 :: i d.1 :: i d.2 :: J, ?_⟩
  have e : flatP (d :: x :: b :: a :: T).reverse ++ J = flatP (a :: T).reverse ++ (i b.1 :: i b.2 :: i x.1 :: i x.2 :: i d.1 :: i d.2 :: J) := by simp [flatP_app, flatP]
  have hlen : (T.length + 1) * 2 = (flatP (a :: T).reverse).length := by rw [flatP_len, List.length_reverse]; rfl
  rw [hJ, e, hlen, setQ_app]
  simp [flatP_app, flatP]
theorem rep_in {l c : Nat} {st : List Value} {R : List Pt} {p : Pt} (h : Rep l c st R) (hlt : l + 1 ≤ c) : Rep (l + 1) c (setQ st (l * 2) (i p.1) (i p.2)) (p :: R) := by
  obtain ⟨hl, hc, hs, J, hJ⟩ := h
  have hlen : l * 2 = (flatP R.reverse).length := by rw [flatP_len, List.length_reverse, hl]
  have hJl : J.length = c * 2 - l * 2 := by
    have := congrArg List.length hJ
    rw [hs, List.length_append, ← hlen] at this
    omega
  match J, hJl, hJ with
  | [], hJl, _ => simp at hJl; omega
  | [u], hJl, _ => simp at hJl; omega
  | u :: v :: J, _, hJ =>
    refine ⟨by rw [← hl]; rfl, by omega, by unfold setQ; rw [List.length_set, List.length_set, hs], J, ?_⟩
    rw [hJ, hlen, setQ_app]
    simp [flatP_app, flatP]
theorem rep_gr {l c : Nat} {st : List Value} {R : List Pt} {p : Pt} (h : Rep l c st R) : Rep (l + 1) (l + 1) (st.take (l * 2) ++ [i p.1, i p.2]) (p :: R) := by
  obtain ⟨hl, hc, hs, J, hJ⟩ := h
  have hlen : l * 2 = (flatP R.reverse).length := by rw [flatP_len, List.length_reverse, hl]
  have ht : st.take (l * 2) = flatP R.reverse := by rw [hJ, hlen, List.take_left]
  refine ⟨by rw [← hl]; rfl, Nat.le_refl _, ?_, [], ?_⟩
  · rw [ht, List.length_append, ← hlen]
    show l * 2 + 2 = _
    omega
  · rw [ht]
    simp [flatP_app, flatP]
def RepT (e0 : Option (Nat × List Value)) (c : Nat) (R : List Pt) (C : List Cy) : TI → Prop
  | .e l c' st => c' = c ∧ Rep l c st R ∧ EC e0 C
  | .f l c' st lc cy => c' = c ∧ Rep l c st R ∧ C ≠ [] ∧ lc = C.length ∧ cy = flatC C
theorem inner (k : Nat) (e0 : Option (Nat × List Value)) (c : Nat) (p : Pt) : ∀ (n : Nat) (S : List Pt) (C : List Cy) (q : TI), S.length ≤ n → RepT e0 c (p :: S) C q → S.length + 1 < 1000000 → S.length + 2 * C.length < 1000000 →
    ∃ m j q', j < 2 ∧ runS (stQ k e0 p.1 p.2) m q = some (j, q') ∧ RepT e0 c (p :: (rd p S C).1) (rd p S C).2 q'
  | n, S, C, q, hn, hq, hS, hC => by
    have short : S.length < 3 → rd p S C = (S, C) → ∃ m j q', j < 2 ∧ runS (stQ k e0 p.1 p.2) m q = some (j, q') ∧ RepT e0 c (p :: (rd p S C).1) (rd p S C).2 q' := by
      intro hs hr
      refine ⟨1, 0, q, by omega, ?_, by rw [hr]; exact hq⟩
      have : (stQ k e0 p.1 p.2 q).sel = some (.inr 0) := by
        cases q with
        | e l c' st =>
          obtain ⟨rfl, h, _⟩ := hq
          have hl : l = S.length + 1 := h.1.symm
          show (rdQ _ _ _ _ _ _ _ _ _).sel = _
          unfold rdQ
          rw [br_f (by rw [leF_eq]; exact decide_eq_false (by omega))]; rfl
        | f l c' st lc cy =>
          obtain ⟨rfl, h, _⟩ := hq
          have hl : l = S.length + 1 := h.1.symm
          show (rdQ _ _ _ _ _ _ _ _ _).sel = _
          unfold rdQ
          rw [br_f (by rw [leF_eq]; exact decide_eq_false (by omega))]; rfl
      exact runD this
    match S, hn, hq, hS, hC, short with
    | [], _, _, _, _, short => exact short (by simp) rfl
    | [_], _, _, _, _, short => exact short (by simp) rfl
    | [_, _], _, _, _, _, short => exact short (by simp) rfl
    | x :: b :: a :: T, hn, hq, hS, hC, _ =>
      have hS' : T.length + 4 < 1000000 := by simp at hS; omega
      have hC' : C.length < 1000000 := by simp at hC; omega
      have hrd : rd p (x :: b :: a :: T) C = cond (nst a b x p) (rd p (a :: T) (C ++ [(b, x)])) (x :: b :: a :: T, C) := by rw [rd]
      cases hns : nst a b x p with
      | false =>
        rw [hns] at hrd
        have : (stQ k e0 p.1 p.2 q).sel = some (.inr 1) := by
          cases q with
          | e l c' st =>
            obtain ⟨rfl, h, _⟩ := hq
            have hl : l = T.length + 4 := h.1.symm
            subst hl
            exact rdQ_miss h hS' hns
          | f l c' st lc cy =>
            obtain ⟨rfl, h, _⟩ := hq
            have hl : l = T.length + 4 := h.1.symm
            subst hl
            exact rdQ_miss h hS' hns
        refine ⟨1, 1, q, by omega, ?_, by rw [hrd]; exact hq⟩
        exact runD this
      | true =>
        rw [hns] at hrd
        have hrd' : rd p (x :: b :: a :: T) C = rd p (a :: T) (C ++ [(b, x)]) := hrd
        have : ∃ st, Rep (T.length + 2) c st (p :: a :: T) ∧ (stQ k e0 p.1 p.2 q).sel = some (.inl (.f (T.length + 2) c st (C.length + 1) (flatC (C ++ [(b, x)])))) := by
          cases q with
          | e l c' st =>
            obtain ⟨rfl, h, he⟩ := hq
            have hl : l = T.length + 4 := h.1.symm
            subst hl
            exact ⟨_, rep_red h, rdQ_hit h he hC' hS' hns⟩
          | f l c' st lc cy =>
            obtain ⟨rfl, h, _, rfl, rfl⟩ := hq
            have hl : l = T.length + 4 := h.1.symm
            subst hl
            exact ⟨_, rep_red h, rdQ_hit (e0 := some (C.length, flatC C)) h rfl hC' hS' hns⟩
        obtain ⟨st, h1, h2⟩ := this
        match n, hn with
        | 0, hn => simp at hn
        | n + 1, hn =>
          obtain ⟨m, j, q', g0, g1, g2⟩ := inner k e0 c p n (a :: T) (C ++ [(b, x)]) (.f (T.length + 2) c st (C.length + 1) (flatC (C ++ [(b, x)]))) (by simp at hn ⊢; omega) ⟨rfl, h1, by simp, by simp, rfl⟩ (by simp at hS ⊢; omega) (by simp at hC ⊢; omega)
          refine ⟨m + 1, j, q', g0, ?_, by rw [hrd']; exact g2⟩
          exact runN h2 g1
end Go.Proofs.YteemponkignnhaaGreat.Ways
set_option maxRecDepth 10000
noncomputable section
namespace Go.Proofs.YteemponkignnhaaGreat.Ways
open Go Go.Ex Go.RowKit Go.Turn
def psh (X : List Pt × List Cy) (p : Pt) : List Pt × List Cy := (p :: (rd p X.1 X.2).1, (rd p X.1 X.2).2)
def cnt (cs : List Value) : Nat → List Pt × List Cy
  | 0 => ([], [])
  | j + 1 => psh (cnt cs j) (pA cs j, pB cs j)
theorem rd_len (p : Pt) : ∀ (n : Nat) (S : List Pt) (C : List Cy), S.length ≤ n → (rd p S C).1.length + 2 * (rd p S C).2.length = S.length + 2 * C.length
  | _, [], _, _ => rfl
  | _, [_], _, _ => rfl
  | _, [_, _], _, _ => rfl
  | 0, _ :: _ :: _ :: _, _, h => by simp at h
  | n + 1, c :: b :: a :: T, C, h => by
    rw [rd]
    cases nst a b c p with
    | false => rfl
    | true =>
      have := rd_len p n (a :: T) (C ++ [(b, c)]) (by simp at h ⊢; omega)
      refine Eq.trans this ?_
      simp
      omega
theorem cnt_len (cs : List Value) : ∀ j, (cnt cs j).1.length + 2 * (cnt cs j).2.length = j
  | 0 => rfl
  | j + 1 => by
    have h1 := rd_len (pA cs j, pB cs j) _ (cnt cs j).1 (cnt cs j).2 (Nat.le_refl _)
    have h2 := cnt_len cs j
    show (rd (pA cs j, pB cs j) (cnt cs j).1 (cnt cs j).2).1.length + 1 + 2 * (rd (pA cs j, pB cs j) (cnt cs j).1 (cnt cs j).2).2.length = j + 1
    omega
def RepO (cs : List Value) (j : Nat) : TO → Prop
  | .z => j = 0
  | .s j' l c st => j' = (j : Int) ∧ 1 ≤ j ∧ Rep l c st (cnt cs j).1 ∧ (cnt cs j).2 = []
  | .b j' l c st lc cy => j' = (j : Int) ∧ 1 ≤ j ∧ Rep l c st (cnt cs j).1 ∧ (cnt cs j).2 ≠ [] ∧ lc = (cnt cs j).2.length ∧ cy = flatC (cnt cs j).2
theorem two_sel {k : Nat} {u : SS TO} (h : k < 2) : (two_ k u).sel = u.sel := by
  match k, h with
  | 0, _ => rfl
  | 1, _ => rfl
def nxO (j : Int) (e0 : Option (Nat × List Value)) : TI → TO
  | .f l c st lc cy => .b (wrapF .i64 (j + 1)) l c st lc cy
  | .e l c st => match e0 with
    | none => .s (wrapF .i64 (j + 1)) l c st
    | some u => .b (wrapF .i64 (j + 1)) l c st u.1 u.2
theorem bhQ_sel {step : TI → SS TI} {s0 q : TI} {lenE lenF : Nat} {rE rF : List Nat} {e0 : Option (Nat × List Value)} {j : Int} {jj : Nat} (h1 : endP2 step s0) (h2 : endE2 step s0 = (jj, q)) (h3 : jj < 2) :
    (bhQ step s0 lenE rE lenF rF e0 j).sel = some (.inl (nxO j e0 q)) := by
  unfold bhQ
  rw [askS_sel (tru_iff.2 h1), h2]
  cases q with
  | f _ _ _ _ _ => exact two_sel h3
  | e _ _ _ => cases e0 <;> exact two_sel h3
section
variable {cs : List Value} {n c0 : Nat}
theorem push {k lenE lenF : Nat} {rE rF : List Nat} {e0 : Option (Nat × List Value)} {c j : Nat} {s0 : TI} (hT : RepT e0 c ((pA cs j, pB cs j) :: (cnt cs j).1) (cnt cs j).2 s0) (h0 : ∀ u, e0 = some u → (cnt cs j).2 ≠ []) (he : EC e0 (cnt cs j).2) (hj : j < 999990) :
    ∃ q', (bhQ (stQ k e0 (pA cs j) (pB cs j)) s0 lenE rE lenF rF e0 (j : Int)).sel = some (.inl q') ∧ RepO cs (j + 1) q' := by
  have hl := cnt_len cs j
  obtain ⟨m, jj, q, hjj, hrun, hq⟩ := inner k e0 c (pA cs j, pB cs j) _ (cnt cs j).1 (cnt cs j).2 s0 (Nat.le_refl _) hT (by omega) (by omega)
  obtain ⟨g1, g2⟩ := endE2_eq hrun
  refine ⟨_, bhQ_sel g1 g2 hjj, ?_⟩
  have hw := wsucc (j := j) (by omega)
  cases q with
  | f l c' st lc cy =>
    obtain ⟨rfl, a1, a2, a3, a4⟩ := hq
    exact ⟨hw, by omega, a1, a2, a3, a4⟩
  | e l c' st =>
    obtain ⟨rfl, a1, a2⟩ := hq
    cases e0 with
    | none => exact ⟨hw, by omega, a1, a2⟩
    | some u =>
      have h5 := h0 u rfl
      have a2' : u = ((rd (pA cs j, pB cs j) (cnt cs j).1 (cnt cs j).2).2.length, flatC (rd (pA cs j, pB cs j) (cnt cs j).1 (cnt cs j).2).2) := a2
      have he' : u = ((cnt cs j).2.length, flatC (cnt cs j).2) := he
      refine ⟨hw, by omega, a1, fun h6 => h5 ?_, by rw [a2']; rfl, by rw [a2']; rfl⟩
      have h7 : (cnt cs j).2.length = (rd (pA cs j, pB cs j) (cnt cs j).1 (cnt cs j).2).2.length := by
        rw [a2'] at he'
        exact ((Prod.mk.inj he').1).symm
      have h8 : (rd (pA cs j, pB cs j) (cnt cs j).1 (cnt cs j).2).2 = [] := h6
      rw [h8] at h7
      exact List.length_eq_zero_iff.1 h7
theorem g5Q_t {l c : Nat} {st : List Value} {a : Value} (hs : st.length = c * 2) (h : l + 1 ≤ c) : g5Q st (l * 2) a = true := by
  unfold g5Q
  rw [List.length_set, hs, decide_eq_true (by omega), decide_eq_true (by omega)]; rfl
theorem grQ_t {l c : Nat} {st : List Value} (hs : st.length = c * 2) (h : l ≤ c) (hl : l < 1000000) : grQ l c st = true := by
  unfold grQ
  rw [decide_eq_true h, decide_eq_true hs, decide_eq_true (by omega)]; rfl
theorem stepO (h : okP cs n c0) (hn : n < 999990) {j : Nat} {q : TO} (hj : j < n) (hq : RepO cs j q) : ∃ q', (stO cs n c0 q).sel = some (.inl q') ∧ RepO cs (j + 1) q' := by
  have hc := h.2.1
  cases q with
  | z =>
    have hj0 : j = 0 := hq
    subst hj0
    refine ⟨.s 1 1 1 (el cs 0), ?_, rfl, by omega, ⟨rfl, Nat.le_refl _, rfl, [], rfl⟩, rfl⟩
    unfold stO
    rw [br_t (by rw [ltF_eq]; exact decide_eq_true (by omega)), askS_sel (show bnd_ 0 n c0 = true from bnd_t (j := 0) hj hc), askS_sel (show cP cs 0 = true from cP_t (j := 0) h hj)]; rfl
  | s j' l c st =>
    obtain ⟨rfl, h1, h2, h3⟩ := hq
    have hlen := cnt_len cs j
    have hl := h2.1
    have h4 : (stO cs n c0 (.s (j : Int) l c st)).sel = (SS.br (decide (l + 1 ≤ c)) (askS (g5Q st (l * 2) (i (pA cs j))) <| bhQ (stQ 5 none (pA cs j) (pB cs j)) (sI0 cs (j : Int) l c st) 5 [0, 1, 2] 6 [0, 1, 2, 5] none (j : Int))
      (askS (grQ l c st) <| bhQ (stQ 6 none (pA cs j) (pB cs j)) (sG0 cs (j : Int) l st) 6 [0, 1, 5] 7 [0, 1, 5, 6] none (j : Int))).sel := by
      unfold stO
      dsimp only
      rw [br_t (by rw [ltF_eq]; exact decide_eq_true (by omega)), askS_sel (bnd_t hj hc), askS_sel (cP_t h hj)]; rfl
    rw [h4]
    by_cases h5 : l + 1 ≤ c
    · rw [br_t (decide_eq_true h5), askS_sel (g5Q_t h2.2.2.1 h5)]
      exact push (c := c) ⟨rfl, rep_in h2 h5, h3⟩ (fun _ hu => by cases hu) h3 (by omega)
    · rw [br_f (decide_eq_false h5), askS_sel (grQ_t h2.2.2.1 h2.2.1 (by omega))]
      exact push (c := l + 1) ⟨rfl, rep_gr h2, h3⟩ (fun _ hu => by cases hu) h3 (by omega)
  | b j' l c st lc cy =>
    obtain ⟨rfl, h1, h2, h3, rfl, rfl⟩ := hq
    have hlen := cnt_len cs j
    have hl := h2.1
    have h4 : (stO cs n c0 (.b (j : Int) l c st (cnt cs j).2.length (flatC (cnt cs j).2))).sel = (SS.br (decide (l + 1 ≤ c)) (askS (g5Q st (l * 2) (i (pA cs j))) <| bhQ (stQ 6 (some ((cnt cs j).2.length, flatC (cnt cs j).2)) (pA cs j) (pB cs j)) (sI0 cs (j : Int) l c st) 6 [0, 1, 2, 3] 7 [0, 1, 2, 6] (some ((cnt cs j).2.length, flatC (cnt cs j).2)) (j : Int))
      (askS (grQ l c st) <| bhQ (stQ 7 (some ((cnt cs j).2.length, flatC (cnt cs j).2)) (pA cs j) (pB cs j)) (sG0 cs (j : Int) l st) 7 [0, 1, 6, 3] 8 [0, 1, 6, 7] (some ((cnt cs j).2.length, flatC (cnt cs j).2)) (j : Int))).sel := by
      unfold stO
      dsimp only
      rw [br_t (by rw [ltF_eq]; exact decide_eq_true (by omega)), askS_sel (bnd_t hj hc), askS_sel (cP_t h hj)]; rfl
    rw [h4]
    by_cases h5 : l + 1 ≤ c
    · rw [br_t (decide_eq_true h5), askS_sel (g5Q_t h2.2.2.1 h5)]
      exact push (c := c) ⟨rfl, rep_in h2 h5, rfl⟩ (fun _ _ => h3) rfl (by omega)
    · rw [br_f (decide_eq_false h5), askS_sel (grQ_t h2.2.2.1 h2.2.1 (by omega))]
      exact push (c := l + 1) ⟨rfl, rep_gr h2, rfl⟩ (fun _ _ => h3) rfl (by omega)
theorem lastO {q : TO} (hq : RepO cs n q) : (stO cs n c0 q).sel = some (.inr 0) := by
  cases q with
  | z =>
    have : n = 0 := hq
    subst this; rfl
  | s j' l c st =>
    obtain ⟨rfl, _⟩ := hq
    unfold stO
    dsimp only
    rw [br_f (by rw [ltF_eq]; simp)]; rfl
  | b j' l c st lc cy =>
    obtain ⟨rfl, _⟩ := hq
    unfold stO
    dsimp only
    rw [br_f (by rw [ltF_eq]; simp)]; rfl
theorem runO (h : okP cs n c0) (hn : n < 999990) : ∀ (d j : Nat) (q : TO), j + d = n → RepO cs j q → ∃ m r, runS (stO cs n c0) m q = some (0, r) ∧ RepO cs n r
  | 0, j, q, hd, hq => by
    have : j = n := by omega
    subst this
    exact ⟨1, q, runD (lastO hq), hq⟩
  | d + 1, j, q, hd, hq => by
    obtain ⟨q', h1, h2⟩ := stepO h hn (by omega) hq
    obtain ⟨m, r, h3, h4⟩ := runO h hn d (j + 1) q' (by omega) h2
    exact ⟨m + 1, r, runN h1 h3, h4⟩
end
noncomputable def eO (cs : List Value) (n c0 : Nat) : TO := endE (stO cs n c0) .z
theorem eO_rep {cs : List Value} {n c0 : Nat} (h : okP cs n c0) (hn : n < 999990) : (∃ m, runS (stO cs n c0) m .z = some (0, eO cs n c0)) ∧ RepO cs n (eO cs n c0) := by
  obtain ⟨m, r, h1, h2⟩ := runO h hn n 0 .z (by omega) rfl
  obtain ⟨h3, h4⟩ := endE_eq h1
  have h5 : eO cs n c0 = r := h4
  rw [h5]
  exact ⟨⟨m, h1⟩, h2⟩
def capO : TO → Nat
  | .z => 0
  | .s _ _ c _ => c
  | .b _ _ c _ _ _ => c
def cellO : TO → List Value
  | .z => []
  | .s _ _ _ st => st
  | .b _ _ _ st _ _ => st
section
variable (cs : List Value) (t s n c : Nat) (ex : Bool)
noncomputable def K59 (q : TO) : Cfg := ⟨TQ, no_, off_, loopE noL 91 4 52 2 BcO ((ShO cs n c t s ex).st .z).live ((ShO cs n c t s ex).st .z).hp (finO (ShO cs n c t s ex) (0, q) [0])⟩
noncomputable def o59 (q : TO) : Out QRes := execO Tryz.prog 2 (K59 cs t s n c ex q) 60 (.call 91 ⟨[sl 1 0 n c]⟩ (heapL (deads ++ [.cells cs t s ex])))
theorem v59s (j : Int) (l k : Nat) (st : List Value) : (o59 cs t s n c ex (.s j l k st)).twos [2] = .br true (.leaf (tp [.slice none 0 0, sl 2 0 l k]) [some (.cells st 114 2 false)]) .fail := by kernel_rfl
theorem x59s (j : Int) (l k : Nat) (st : List Value) : o59 cs t s n c ex (.s j l k st) = (o59 cs t s n c ex (.s j l k st)).fix := by kernel_rfl
theorem v59b (j : Int) (l k : Nat) (st : List Value) (lc : Nat) (cy : List Value) : (o59 cs t s n c ex (.b j l k st lc cy)).twos [3, 2] = .br true (.leaf (tp [sl 3 0 lc lc, sl 2 0 l k]) [some (.cells cy 89 4 false), some (.cells st 114 2 false)]) .fail := by kernel_rfl
theorem x59b (j : Int) (l k : Nat) (st : List Value) (lc : Nat) (cy : List Value) : o59 cs t s n c ex (.b j l k st lc cy) = (o59 cs t s n c ex (.b j l k st lc cy)).fix := by kernel_rfl
end
end Go.Proofs.YteemponkignnhaaGreat.Ways
set_option maxRecDepth 10000
noncomputable section
namespace Go.Proofs.YteemponkignnhaaGreat.Ways
open Go Go.Ex Go.RowKit Go.Turn
def P59 (f : Bool) (cs : List Value) (n c : Nat) : Prop := okP cs n c ∧ 1 ≤ n ∧ n < 999990 ∧ (if f = true then (cnt cs n).2 ≠ [] else (cnt cs n).2 = [])
noncomputable def R59 (f : Bool) (cs : List Value) (n c : Nat) : List NC := cond f
  [.s (cnt cs n).2.length (cnt cs n).2.length (flatC (cnt cs n).2) 89 4 false, .s (cnt cs n).1.length (capO (eO cs n c)) (cellO (eO cs n c)) 114 2 false]
  [.v (.slice none 0 0), .s (cnt cs n).1.length (capO (eO cs n c)) (cellO (eO cs n c)) 114 2 false]
noncomputable def sp59 (f : Bool) : TSpec := fun al css => match al, css with
  | [.slice (some ⟨1, 0, none⟩) n c], [cs] => some (P59 f cs n c, R59 f cs n c)
  | _, _ => none
theorem c59 (f : Bool) : ∀ al css os p v, sp59 f al css = some (p, v) → p → Blks css os → (∀ cs ∈ css, cs.all Ex.flat = true) ∧ NC.Ok Tryz.prog 91 al deads os (gl + css.length) v := by
  intro al css os p v hs hp hb
  unfold sp59 at hs
  split at hs
  case h_2 => cases hs
  rename_i n c cs
  cases hs
  obtain ⟨t, s, ex, rfl⟩ := blks1 hb
  obtain ⟨p1, p2, p3, p4⟩ := hp
  refine ⟨by simpa using p1.1, ?_⟩
  obtain ⟨⟨m, hr⟩, hrep⟩ := eO_rep p1 p3
  have hgd : GdO (eO cs n c) := runS_good (Good := GdO) goodO (s := TO.z) (by trivial) hr
  unfold R59
  generalize eO cs n c = q at hr hrep hgd
  cases q with
  | z =>
    have : n = 0 := hrep
    omega
  | s j l k st =>
    obtain ⟨rfl, _, h1, h2⟩ := hrep
    have hL := (LcO (t := t) (s := s) (x := ex) (n := n) (c0 := c) p1.1).table (id := 4) (s0 := .z) .none (by decide) (by trivial) hr (by kernel_rfl) [0]
    cases f with
    | true => exact absurd h2 p4
    | false =>
      refine twos_ok (C := K59 cs t s n c ex (.s (n : Int) l k st)) (n := 60) (κ := [2]) tsQ hL (x59s cs t s n c ex _ l k st) ?_ rfl (by decide) (show ∀ c ∈ [2], 2 ≤ c by decide) ?_
      · refine (congrArg TT.sel (v59s cs t s n c ex _ l k st)).trans ?_
        rw [h1.1]; rfl
      · show (st.all flat && true) = true
        rw [hgd]; rfl
  | b j l k st lc cy =>
    obtain ⟨rfl, _, h1, h2, rfl, rfl⟩ := hrep
    have hL := (LcO (t := t) (s := s) (x := ex) (n := n) (c0 := c) p1.1).table (id := 4) (s0 := .z) .none (by decide) (by trivial) hr (by kernel_rfl) [0]
    cases f with
    | false => exact absurd p4 h2
    | true =>
      refine twos_ok (C := K59 cs t s n c ex (.b (n : Int) l k st (cnt cs n).2.length (flatC (cnt cs n).2))) (n := 60) (κ := [3, 2]) tsQ hL (x59b cs t s n c ex _ l k st _ _) ?_ rfl (by decide) (show ∀ c ∈ [3, 2], 2 ≤ c by decide) ?_
      · refine (congrArg TT.sel (v59b cs t s n c ex _ l k st _ _)).trans ?_
        rw [h1.1]; rfl
      · show ((flatC (cnt cs n).2).all flat && (st.all flat && true)) = true
        rw [hgd.1, flatC_flat]; rfl
theorem pts_app (P : List Pt) (J : List Value) : ∀ j, j ≤ P.length → pts (flatP P ++ J) j = P.take j
  | 0, _ => rfl
  | j + 1, h => by
    have h1 := pts_app P J j (by omega)
    obtain ⟨g1, g2⟩ := flatP_get P j (by omega)
    have e1 : pA (flatP P ++ J) j = (Turn.at_ P j).1 := by
      unfold pA
      rw [List.getElem?_append_left (by rw [flatP_len]; omega), show 0 + j * 2 = j * 2 from by omega, g1]; rfl
    have e2 : pB (flatP P ++ J) j = (Turn.at_ P j).2 := by
      unfold pB
      rw [List.getElem?_append_left (by rw [flatP_len]; omega), show 0 + j * 2 + 1 = j * 2 + 1 from by omega, g2]; rfl
    show pts (flatP P ++ J) j ++ [(pA (flatP P ++ J) j, pB (flatP P ++ J) j)] = _
    rw [h1, e1, e2, List.take_add_one]
    congr 1
    unfold Turn.at_
    rw [List.getD_eq_getElem?_getD, List.getElem?_eq_getElem (by omega)]; rfl
theorem cell_rep {cs : List Value} {n c : Nat} (h : okP cs n c) (h1 : 1 ≤ n) (hn : n < 999990) : Rep (cnt cs n).1.length (capO (eO cs n c)) (cellO (eO cs n c)) (cnt cs n).1 := by
  obtain ⟨_, hrep⟩ := eO_rep h hn
  generalize eO cs n c = q at hrep
  cases q with
  | z =>
    have : n = 0 := hrep
    omega
  | s _ _ _ _ => obtain ⟨_, _, g1, _⟩ := hrep; rw [g1.1]; exact g1
  | b _ _ _ _ _ _ => obtain ⟨_, _, g1, _⟩ := hrep; rw [g1.1]; exact g1
end Go.Proofs.YteemponkignnhaaGreat.Ways
