/- Engine, part 24: regions and statements over a tree of temporaries. -/
import Derived.Test.YtdnogbdfiahcaaaGreatEngQuick
noncomputable section
namespace Go.Ex
open Go.RowKit

def guardQ (ops : Array Oper) (tm : TM) (j : Nat) (w : Bool) : Bool :=
  match (ops[j]?).bind (·.dst) with
  | some d => boolIs (tval tm d) w
  | none => false
def wantQ (ops : Array Oper) (tm : TM) (o : Oper) : Bool :=
  match o.guard with
  | none => true
  | some (j, w) => guardQ ops tm j w
theorem wantQ_eq (ops : Array Oper) (tm : TM) (o : Oper) : wantQ ops tm o = Region.wanted o (yielded ops (absT tm)) := by
  rw [← wantF_eq]
  unfold wantQ wantF
  cases o.guard with
  | none => rfl
  | some g =>
    show guardQ ops tm _ _ = guardF ops (absT tm) _ _
    unfold guardQ guardF
    cases (ops[g.1]?).bind (·.dst) with
    | none => rfl
    | some d =>
      show boolIs (tval tm d) _ = boolIs (getL (absL tm) d) _
      rw [tval_eq]

def gkQ (ops : Array Oper) (tm : TM) (o : Oper) : Bool :=
  match o.guard with
  | none => true
  | some g => match (ops[g.1]?).bind (·.dst) with
    | some d => nw (tval tm d)
    | none => true
theorem gkQ_eq (ops : Array Oper) (tm : TM) (o : Oper) : gkQ ops tm o = gk ops (absT tm) o := by
  unfold gkQ gk
  cases o.guard with
  | none => rfl
  | some g =>
    dsimp only
    cases (ops[g.1]?).bind (·.dst) with
    | none => rfl
    | some d =>
      dsimp only
      rw [tval_eq, getL_eq]
      rfl

section
variable (op : TM → CH → Oper → Option (Value × CH)) (ops : Array Oper)
def afterQ (o : Oper) (ih : TM → CH → Option (TM × CH)) (tm : TM) (r : Option (Value × CH)) : Option (TM × CH) :=
  match r with
  | some (v, H') => ih (putH tm o.dst v) H'
  | none => none
def opsStepQ (o : Oper) (ih : TM → CH → Option (TM × CH)) (tm : TM) (H : CH) : Option (TM × CH) :=
  cond (wantQ ops tm o) (afterQ o ih tm (op tm H o)) (cond (gkQ ops tm o) (ih (putH tm o.dst undef) H) none)
noncomputable def opsQ (l : List Oper) : TM → CH → Option (TM × CH) :=
  List.rec (motive := fun _ => TM → CH → Option (TM × CH)) (fun tm H => some (tm, H)) (fun o _ ih tm H => opsStepQ op ops o ih tm H) l
abbrev TrQ := List (TM × CH × Value) × TM × CH
def consQ (tm : TM) (H : CH) (v : Value) (r : Option TrQ) : Option TrQ :=
  match r with
  | some (tr, tm', H') => some ((tm, H, v) :: tr, tm', H')
  | none => none
def afterTQ (o : Oper) (ih : TM → CH → Option TrQ) (tm : TM) (H : CH) (r : Option (Value × CH)) : Option TrQ :=
  match r with
  | some (v, H') => consQ tm H v (ih (putH tm o.dst v) H')
  | none => none
def trStepQ (o : Oper) (ih : TM → CH → Option TrQ) (tm : TM) (H : CH) : Option TrQ :=
  cond (wantQ ops tm o) (afterTQ o ih tm H (op tm H o)) (cond (gkQ ops tm o) (consQ tm H undef (ih (putH tm o.dst undef) H)) none)
noncomputable def trQ (l : List Oper) : TM → CH → Option TrQ :=
  List.rec (motive := fun _ => TM → CH → Option TrQ) (fun tm H => some ([], tm, H)) (fun o _ ih tm H => trStepQ op ops o ih tm H) l
def heapQ (tr : List (TM × CH × Value)) (H' : CH) (p : Nat) : CH :=
  match tr[p]? with
  | some (_, H, _) => H
  | none => H'
def checkQ (P : Program) (A : List Nat) (tr : List (TM × CH × Value)) (H' : CH) (i : Nat) (o : Oper) (tm : TM) (v : Value) : Bool :=
  kindOf P o.op != 1 || (!wantQ ops tm o || (alts P ops A i).all fun p => sameAs (op tm (heapQ tr H' p) o) v)
def recheckQ (P : Program) (A : List Nat) (tr : List (TM × CH × Value)) (H' : CH) : Bool :=
  (List.range ops.size).all fun i => match ops[i]?, tr[i]? with
    | some o, some (tm, _, v) => checkQ op ops P A tr H' i o tm v
    | _, _ => false
def drawEndQ (P : Program) (r : Option TrQ) : Option (TM × CH) :=
  match r with
  | some (tr, tm', H') => cond (recheckQ op ops P (ancs ops) tr H') (some (tm', H')) none
  | none => none
noncomputable def drawQ (P : Program) (tm : TM) (H : CH) : Option (TM × CH) :=
  cond (P.follows .mixedOrders && ordOk P ops (ancs ops)) (drawEndQ op ops P (trQ op ops ops.toList tm H)) none
end

def absE (x : TM × CH × Value) : Array Value × CH × Value := (absT x.1, x.2.1, x.2.2)

theorem heapQ_eq (tr : List (TM × CH × Value)) (H' : CH) (p : Nat) : heapAt (tr.map absE) H' p = heapQ tr H' p := by
  unfold heapAt heapQ
  rw [List.getElem?_map]
  cases tr[p]? <;> rfl
section
variable {q : QTask → Option QRes} {self : Task → Option Res} {P : Program} {G : Nat} {ops : Array Oper}
theorem opsQ_sound (hq : SelfQ q self) : ∀ (l : List Oper) (tm : TM) (H : CH) (tm' : TM) (H' : CH), opsQ (opQ q P G) ops l tm H = some (tm', H') → opsG (opX self P G) ops l (absT tm) H = some (absT tm', H')
  | [], tm, H, tm', H', h => by cases h; rfl
  | o :: r, tm, H, tm', H', h => by
    have h' : opsStepQ (opQ q P G) ops o (opsQ (opQ q P G) ops r) tm H = some (tm', H') := h
    show opsStep (opX self P G) ops o (opsG (opX self P G) ops r) (absT tm) H = _
    unfold opsStepQ at h'
    unfold opsStep
    rw [wantF_eq, ← wantQ_eq]
    cases hw : wantQ ops tm o with
    | true =>
      rw [hw] at h'
      have h'' : afterQ o (opsQ (opQ q P G) ops r) tm (opQ q P G tm H o) = some (tm', H') := h'
      show afterF o (opsG (opX self P G) ops r) (absT tm) (opX self P G (absT tm) H o) = _
      unfold afterQ at h''
      split at h''
      · rename_i v H1 hop
        rw [opQ_sound hq hop]
        show opsG (opX self P G) ops r (put (absT tm) o.dst v) H1 = _
        rw [← putH_abs]
        exact opsQ_sound hq r _ _ _ _ h''
      · cases h''
    | false =>
      rw [hw] at h'
      cases hg : gkQ ops tm o with
      | false => rw [hg] at h'; cases h'
      | true =>
      rw [hg] at h'
      show cond (gk ops (absT tm) o) (opsG (opX self P G) ops r (put (absT tm) o.dst undef) H) none = _
      rw [← gkQ_eq, hg, ← putH_abs]
      exact opsQ_sound hq r _ _ _ _ h'
theorem trQ_sound (hq : SelfQ q self) : ∀ (l : List Oper) (tm : TM) (H : CH) (tr : List (TM × CH × Value)) (tm' : TM) (H' : CH), trQ (opQ q P G) ops l tm H = some (tr, tm', H') → textRun self P G ops l (absT tm) H = some (tr.map absE, absT tm', H')
  | [], tm, H, tr, tm', H', h => by cases h; rfl
  | o :: r, tm, H, tr, tm', H', h => by
    have h' : trStepQ (opQ q P G) ops o (trQ (opQ q P G) ops r) tm H = some (tr, tm', H') := h
    have fin : ∀ (v : Value) (H1 : CH), consQ tm H v (trQ (opQ q P G) ops r (putH tm o.dst v) H1) = some (tr, tm', H') →
        ∃ tr1, textRun self P G ops r (put (absT tm) o.dst v) H1 = some (tr1, absT tm', H') ∧ (absT tm, H, v) :: tr1 = tr.map absE := by
      intro v H1 hc
      unfold consQ at hc
      split at hc
      · rename_i tr1 tm1 H2 hr
        cases hc
        have := trQ_sound hq r _ _ _ _ _ hr
        rw [putH_abs] at this
        exact ⟨_, this, rfl⟩
      · cases hc
    unfold trStepQ at h'
    simp only [textRun]
    rw [← wantQ_eq]
    cases hw : wantQ ops tm o with
    | true =>
      rw [hw] at h'
      have h'' : afterTQ o (trQ (opQ q P G) ops r) tm H (opQ q P G tm H o) = some (tr, tm', H') := h'
      unfold afterTQ at h''
      split at h''
      · rename_i v H1 hop
        obtain ⟨tr1, h1, h2⟩ := fin v H1 h''
        rw [if_pos rfl, opQ_sound hq hop]
        dsimp only
        rw [h1, ← h2]
      · cases h''
    | false =>
      rw [hw] at h'
      cases hg : gkQ ops tm o with
      | false => rw [hg] at h'; cases h'
      | true =>
      rw [hg] at h'
      obtain ⟨tr1, h1, h2⟩ := fin undef H h'
      rw [if_neg (by simp), if_pos (by rw [← gkQ_eq]; exact hg), h1, ← h2]
theorem recheckQ_sound (hq : SelfQ q self) {A : List Nat} {tr : List (TM × CH × Value)} {H' : CH} (h : recheckQ (opQ q P G) ops P A tr H' = true) : recheck self P G ops A (tr.map absE) H' = true := by
  unfold recheck
  rw [List.all_eq_true]
  intro i hi
  have h1 := List.all_eq_true.1 h i hi
  rw [List.getElem?_map]
  cases ho : ops[i]? with
  | none => rw [ho] at h1; cases h1
  | some o =>
    rw [ho] at h1
    cases ht : tr[i]? with
    | none => rw [ht] at h1; cases h1
    | some t =>
      rw [ht] at h1
      obtain ⟨tm, H, v⟩ := t
      have h2 : checkQ (opQ q P G) ops P A tr H' i o tm v = true := h1
      unfold checkQ at h2
      show (kindOf P o.op != 1 || !Region.wanted o (yielded ops (absT tm)) || (alts P ops A i).all fun p => sameAs (opX self P G (absT tm) (heapAt (tr.map absE) H' p) o) v) = true
      rw [← wantQ_eq, Bool.or_assoc]
      rw [Bool.or_eq_true, Bool.or_eq_true] at h2 ⊢
      rcases h2 with h2 | h2 | h2
      · exact .inl h2
      · exact .inr (.inl h2)
      · refine .inr (.inr ?_)
        rw [List.all_eq_true] at h2 ⊢
        intro p hp
        have h3 := h2 p hp
        rw [heapQ_eq]
        unfold sameAs at h3
        split at h3
        · rename_i v' H2 hop
          rw [opQ_sound hq hop]
          exact h3
        · cases h3
theorem drawQ_sound (hq : SelfQ q self) {tm tm' : TM} {H H' : CH} (h : drawQ (opQ q P G) ops P tm H = some (tm', H')) : drawX self P G ops (absT tm) H = some (absT tm', H') := by
  unfold drawQ at h
  rw [cond_eq] at h
  split at h
  case isFalse => cases h
  rename_i hc
  unfold drawX
  rw [if_pos hc]
  unfold drawEndQ at h
  split at h
  · rename_i tr tm1 H1 hr
    rw [cond_eq] at h
    split at h
    case isFalse => cases h
    rename_i hre
    cases h
    rw [trQ_sound hq _ _ _ _ _ _ hr]
    dsimp only
    rw [if_pos (recheckQ_sound hq hre)]
  · cases h
end
end Go.Ex
