/- Part of the proof. -/
import Derived.Test.YteemponkignnhaaGreatEngPl
noncomputable section
namespace Go.Ex
open Go.RowKit
structure Told where
  live : List (Nat × Value)
  hp : List (CO × Bool)
def Told.tm (T : Told) (N : Nat) : TM := tmL N T.live
def Told.heap (T : Told) : CH := heapL (T.hp.map (·.1))
def Told.flat (T : Told) : Prop := ∀ o, (o, true) ∈ T.hp → FlatO o
inductive SS (σ : Type) where
  | fail
  | next (len : Nat) (ρ : List Nat) (s : σ)
  | done (len : Nat) (ρ : List Nat) (j : Nat)
  | br (b : Bool) (t e : SS σ)
variable {σ : Type}
def SS.sel : SS σ → Option (σ ⊕ Nat)
  | .fail => none
  | .next _ _ s => some (.inl s)
  | .done _ _ j => some (.inr j)
  | .br b t e => cond b t.sel e.sel
structure Shape (σ : Type) where
  N : Nat
  st : σ → Told
  fin : Nat → σ → CX × Told
inductive VW where
  | fail
  | leaf (o : Option (CX × Nat × Nat × List Nat × List Value × List (Option CO)))
  | br (b : Bool) (t e : VW)
def viewL (S : Shape σ) (s0 : σ) (r : QRes) (t : SS σ) : VW :=
  match t with
  | .next _ ρ s => .leaf (obs (S.st s).live (S.st s).hp ρ r)
  | .done _ ρ j => .leaf (obs (S.fin j s0).2.live (S.fin j s0).2.hp ρ r)
  | _ => .fail
def viewB (b : Bool) (t e : SS σ → VW) (x : SS σ) : VW :=
  match x with
  | .br _ t' e' => .br b (t t') (e e')
  | _ => .fail
noncomputable def Out.view (S : Shape σ) (s0 : σ) (o : Out QRes) : SS σ → VW :=
  Out.rec (motive := fun _ => SS σ → VW) (fun _ => .fail) (fun r t => viewL S s0 r t) (fun b _ _ t e x => viewB b t e x) (fun _ _ k x => k x) (fun _ _ _ k x => k x) o
noncomputable def SS.view (S : Shape σ) (s0 : σ) (t : SS σ) : VW :=
  SS.rec (motive := fun _ => VW) .fail (fun len ρ s => .leaf (expect .normal S.N len [] (S.st s).live (S.st s).hp ρ))
    (fun len ρ j => .leaf (expect (S.fin j s0).1 S.N len [] (S.fin j s0).2.live (S.fin j s0).2.hp ρ)) (fun b _ _ t e => .br b t e) t
noncomputable def SS.good (S : Shape σ) (s0 : σ) (k : Nat) (t : SS σ) : Bool :=
  SS.rec (motive := fun _ => Bool) true (fun len ρ s => goodR k len (S.st s).live (S.st s).hp ρ) (fun len ρ j => goodR k len (S.fin j s0).2.live (S.fin j s0).2.hp ρ) (fun _ _ _ t e => t && e) t
def endOf (S : Shape σ) (s0 : σ) (c : σ ⊕ Nat) : CX × Told :=
  match c with
  | .inl s => (.normal, S.st s)
  | .inr j => S.fin j s0
theorem leaf_restate {k N : Nat} {x : CX} {len : Nat} {T : Told} {ρ : List Nat} {r : QRes} (h : obs T.live T.hp ρ r = expect x N len [] T.live T.hp ρ) (hg : goodR k len T.live T.hp ρ = true) (hf : T.flat) :
    ∃ tm1 H1, r = .ex x tm1 H1 [] ∧ Restate k (absT tm1) H1 (absT (T.tm N)) T.heap := by
  cases r with
  | val v H' => cases h
  | ex x' tm1 H1 df' =>
    unfold obs expect at h
    simp only [Option.some.injEq, Prod.mk.injEq] at h
    obtain ⟨rfl, hN, hlen, rfl, hlive, hheap⟩ := h
    unfold goodR at hg
    simp only [Bool.and_eq_true, beq_iff_eq, decide_eq_true_eq] at hg
    obtain ⟨g1, g2, g3, g4, g5, g6, g7⟩ := hg
    refine ⟨tm1, H1, rfl, restate_of ρ T.live T.hp hN (Nat.eq_of_beq_eq_true g1) (Nat.le_of_ble_eq_true g2) g3 g4 (fun c hc => ?_) hlive g6 hheap g7 hf⟩
    rw [hlen]
    exact blt_lt (List.all_eq_true.1 g5 c hc)
theorem view_sel {S : Shape σ} {s0 : σ} {k : Nat} {o : Out QRes} : ∀ {t : SS σ} {c : σ ⊕ Nat}, o = o.fix → o.view S s0 t = t.view S s0 → t.good S s0 k = true → t.sel = some c → (endOf S s0 c).2.flat →
    ∃ tm1 H1, o.sel = some (.ex (endOf S s0 c).1 tm1 H1 []) ∧ Restate k (absT tm1) H1 (absT ((endOf S s0 c).2.tm S.N)) (endOf S s0 c).2.heap := by
  induction o with
  | fail =>
    intro t c _ h _ hs _
    cases t with
    | fail => cases hs
    | next len ρ s => cases h
    | done len ρ j => cases h
    | br b t e => cases h
  | leaf r =>
    intro t c _ h hg hs hf
    cases t with
    | fail => cases hs
    | next len ρ s =>
      cases hs
      have h' : VW.leaf (obs (S.st s).live (S.st s).hp ρ r) = .leaf (expect .normal S.N len [] (S.st s).live (S.st s).hp ρ) := h
      injection h' with h'
      obtain ⟨tm1, H1, rfl, hr⟩ := leaf_restate h' hg hf
      exact ⟨tm1, H1, rfl, hr⟩
    | done len ρ j =>
      cases hs
      have h' : VW.leaf (obs (S.fin j s0).2.live (S.fin j s0).2.hp ρ r) = .leaf (expect (S.fin j s0).1 S.N len [] (S.fin j s0).2.live (S.fin j s0).2.hp ρ) := h
      injection h' with h'
      obtain ⟨tm1, H1, rfl, hr⟩ := leaf_restate h' hg hf
      exact ⟨tm1, H1, rfl, hr⟩
    | br b t e => cases h
  | br b ot oe iht ihe =>
    intro t c hfx h hg hs hf
    cases t with
    | fail => cases hs
    | next len ρ s => cases h
    | done len ρ j => cases h
    | br b' t e =>
      have h' : VW.br b (ot.view S s0 t) (oe.view S s0 e) = .br b' (t.view S s0) (e.view S s0) := h
      injection h' with h1 h2 h3
      subst h1
      injection hfx with _ f1 f2
      have hg' : (t.good S s0 k && e.good S s0 k) = true := hg
      rw [Bool.and_eq_true] at hg'
      have hs' : cond b t.sel e.sel = some c := hs
      cases b with
      | true => exact iht f1 h2 hg'.1 hs' hf
      | false => exact ihe f2 h3 hg'.2 hs' hf
  | same l kk ih =>
    intro t c hfx h hg hs hf
    injection hfx with f1 f2
    obtain ⟨tm1, H1, e1, e2⟩ := ih f2 h hg hs hf
    exact ⟨tm1, H1, (ifSame_of (same_of_fix f1)).trans e1, e2⟩
  | code a b kk ih =>
    intro t c hfx h hg hs hf
    injection hfx with _ f1 f2
    obtain ⟨tm1, H1, e1, e2⟩ := ih f2 h hg hs hf
    exact ⟨tm1, H1, (ifCode_of f1.symm).trans e1, e2⟩
def runS (step : σ → SS σ) : Nat → σ → Option (Nat × σ)
  | 0, _ => none
  | n + 1, s => match (step s).sel with
    | some (.inl s') => runS step n s'
    | some (.inr j) => some (j, s)
    | none => none
structure Loop1 (P : Program) (G : Nat) (f : Nat) (b : Code) (S : Shape σ) (k : Nat) (step : σ → SS σ) (Good : σ → Prop) : Prop where
  round : ∀ (s : σ) (ro : Option Nat), Good s → ∀ c, (step s).sel = some c → (endOf S s c).2.flat → ∃ tm1 H1, Sound P G (.code b ro (absT ((S.st s).tm S.N)) (S.st s).heap []) (.ex (endOf S s c).1 tm1 H1 []) ∧ Restate k tm1 H1 (absT ((endOf S s c).2.tm S.N)) (endOf S s c).2.heap
  good : ∀ s s', Good s → (step s).sel = some (.inl s') → Good s'
  flat : ∀ s, Good s → (S.st s).flat
  flatF : ∀ s j, Good s → (step s).sel = some (.inr j) → (S.fin j s).2.flat ∧ (S.fin j s).1 ≠ .normal
theorem Loop1.mk' {P : Program} {G f n : Nat} {b : Code} {S : Shape σ} {k : Nat} {step : σ → SS σ} {Good : σ → Prop} {C : σ → Cfg} (hT : ∀ s, Good s → TSound P G (C s).T) (hL : ∀ s, Good s → LSound P G (C s).L)
    (hfix : ∀ s ro, Good s → execO P G (C s) n (.code f b ro ((S.st s).tm S.N) (S.st s).heap []) = (execO P G (C s) n (.code f b ro ((S.st s).tm S.N) (S.st s).heap [])).fix)
    (hview : ∀ s ro, Good s → (execO P G (C s) n (.code f b ro ((S.st s).tm S.N) (S.st s).heap [])).view S s (step s) = (step s).view S s)
    (hgood : ∀ s, (step s).good S s k = true) (good : ∀ s s', Good s → (step s).sel = some (.inl s') → Good s') (flat : ∀ s, Good s → (S.st s).flat)
    (flatF : ∀ s j, Good s → (step s).sel = some (.inr j) → (S.fin j s).2.flat ∧ (S.fin j s).1 ≠ .normal) : Loop1 P G f b S k step Good := by
  refine ⟨fun s ro hg c hc hf => ?_, good, flat, flatF⟩
  obtain ⟨tm1, H1, e1, e2⟩ := view_sel (hfix s ro hg) (hview s ro hg) (hgood s) hc hf
  exact ⟨absT tm1, H1, execO_sound (hT s hg) (hL s hg) n _ _ e1, e2⟩
theorem Loop1.run {P : Program} {G f : Nat} {b : Code} {S : Shape σ} {k : Nat} {step : σ → SS σ} {Good : σ → Prop} (h : Loop1 P G f b S k step Good) (hG : G ≤ k) {m : Nat} {s0 : σ} {r : Nat × σ} (hg : Good s0) (hr : runS step m s0 = some r)
    (ro : Option Nat) {tm0 : Array Value} {H0 : CH} (hk : H0.length = k) (hst : Restate k tm0 H0 (absT ((S.st s0).tm S.N)) (S.st s0).heap) :
    Sound P G (.code (.loop b) ro tm0 H0 []) (.ex (S.fin r.1 r.2).1 (absT ((S.fin r.1 r.2).2.tm S.N)) (S.fin r.1 r.2).2.heap []) := by
  subst hk
  refine loop_sound (σ := Nat × σ) (tm := fun q => absT ((S.st q.2).tm S.N)) (H := fun q => (S.st q.2).heap) (fun q => q.1) (fun q => Good q.2 ∧ runS step q.1 q.2 = some r) ro (m, s0) hG (fun _ h => by cases h) ⟨hg, hr⟩ hst ?_
  intro _ q ⟨g1, g2⟩
  obtain ⟨n, s⟩ := q
  cases n with
  | zero => cases g2
  | succ n =>
    have g2' : (match (step s).sel with
      | some (.inl s') => runS step n s'
      | some (.inr j) => some (j, s)
      | none => none) = some r := g2
    split at g2'
    · rename_i s' hs'
      have hg' := h.good s s' g1 hs'
      obtain ⟨tm1, H1, e1, e2⟩ := h.round s ro g1 _ hs' (h.flat s' hg')
      exact .inl ⟨(n, s'), tm1, H1, ⟨hg', g2'⟩, Nat.lt_succ_self n, e1, e2⟩
    · rename_i j hj
      cases g2'
      obtain ⟨f1, f2⟩ := h.flatF s j g1 hj
      obtain ⟨tm1, H1, e1, e2⟩ := h.round s ro g1 _ hj f1
      exact .inr ⟨f2, tm1, H1, e1, e2⟩
    · cases g2'
def finO (S : Shape σ) (r : Nat × σ) : List Nat → Out QRes
  | [] => .fail
  | j :: l => .br (Nat.beq r.1 j) (.leaf (.ex (S.fin j r.2).1 ((S.fin j r.2).2.tm S.N) (S.fin j r.2).2.heap [])) (finO S r l)
theorem finO_sel {S : Shape σ} {r : Nat × σ} : ∀ {l : List Nat} {q : QRes}, (finO S r l).sel = some q → q = .ex (S.fin r.1 r.2).1 ((S.fin r.1 r.2).2.tm S.N) (S.fin r.1 r.2).2.heap []
  | [], q, h => by cases h
  | j :: l, q, h => by
    have h' : cond (Nat.beq r.1 j) (some (QRes.ex (S.fin j r.2).1 ((S.fin j r.2).2.tm S.N) (S.fin j r.2).2.heap [])) (finO S r l).sel = some q := h
    cases hb : Nat.beq r.1 j with
    | true =>
      rw [hb] at h'
      cases h'
      rw [Nat.eq_of_beq_eq_true hb]
    | false =>
      rw [hb] at h'
      exact finO_sel h'
theorem Loop1.table {P : Program} {G f id : Nat} {b : Code} {S : Shape σ} {k : Nat} {step : σ → SS σ} {Good : σ → Prop} {L : LTab} (h : Loop1 P G f b S k step Good) (hL : LSound P G L) (hG : G ≤ k) {m : Nat} {s0 : σ} {r : Nat × σ} (hg : Good s0) (hr : runS step m s0 = some r)
    (hgood : goodR k k (S.st s0).live (S.st s0).hp (List.range k) = true) (js : List Nat) : LSound P G (loopE L f id S.N k b (S.st s0).live (S.st s0).hp (finO S r js)) := by
  refine hL.loop hgood (h.flat s0 hg) fun q hq ro tm0 H0 hk hst => ?_
  rw [finO_sel hq]
  exact h.run hG hg hr ro hk hst
theorem runS_next {step : σ → SS σ} {m : Nat} {s s' : σ} (h : (step s).sel = some (.inl s')) : runS step (m + 1) s = runS step m s' := by
  show (match (step s).sel with
    | some (.inl s') => runS step m s'
    | some (.inr j) => some (j, s)
    | none => none) = _
  rw [h]
theorem runS_done {step : σ → SS σ} {m j : Nat} {s : σ} (h : (step s).sel = some (.inr j)) : runS step (m + 1) s = some (j, s) := by
  show (match (step s).sel with
    | some (.inl s') => runS step m s'
    | some (.inr j) => some (j, s)
    | none => none) = _
  rw [h]
def askS (b : Bool) (t : SS σ) : SS σ := .br b t .fail
theorem askS_sel {b : Bool} {t : SS σ} (h : b = true) : (askS b t).sel = t.sel := by rw [h]; rfl
theorem br_t {b : Bool} {t e : SS σ} (h : b = true) : (SS.br b t e).sel = t.sel := by rw [h]; rfl
theorem br_f {b : Bool} {t e : SS σ} (h : b = false) : (SS.br b t e).sel = e.sel := by rw [h]; rfl
end Go.Ex
