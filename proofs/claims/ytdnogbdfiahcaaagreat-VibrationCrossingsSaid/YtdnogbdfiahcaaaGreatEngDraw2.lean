/- Engine, part 15: what is checked of a region whose order is left open. -/
import Derived.Test.YtdnogbdfiahcaaaGreatEngDraw
noncomputable section
namespace Go.Ex
open Go.RowKit

def anB (A : List Nat) (i j : Nat) : Bool := Nat.testBit (A.getD i 0) j
def maskOf (A : List Nat) (o : Oper) : Nat :=
  o.after.toList.foldl (fun s e => if Region.binds .any e then s ||| (2 ^ e.on ||| A.getD e.on 0) else s) 0
def ancsGo : List Oper → List Nat → List Nat
  | [], acc => acc
  | o :: r, acc => ancsGo r (acc ++ [maskOf acc o])
def ancs (ops : Array Oper) : List Nat := ancsGo ops.toList []

def pairOk (P : Program) (ops : Array Oper) (A : List Nat) (i k : Nat) (oi ok : Oper) : Bool :=
  (match ok.dst with
   | none => true
   | some d => oi.dst != some d && (!(oi.looksAt ops).contains d || (if k < i then anB A i k else anB A k i))) &&
  (!(decide (k < i) && kindOf P oi.op == 2 && kindOf P ok.op == 2) || anB A i k)
def ordOk (P : Program) (ops : Array Oper) (A : List Nat) : Bool :=
  (List.range ops.size).all fun i => match ops[i]? with
    | none => false
    | some oi => A.getD i 0 == maskOf A oi && oi.after.toList.all (fun e => !Region.binds .any e || decide (e.on < i)) &&
      (List.range ops.size).all fun k => k == i || match ops[k]? with
        | none => false
        | some ok => pairOk P ops A i k oi ok

structure Ordered (P : Program) (ops : Array Oper) (A : List Nat) : Prop where
  back : ∀ (i : Nat) (o : Oper), ops[i]? = some o → ∀ e ∈ o.after, Region.binds .any e = true → e.on < i
  anc : ∀ (i : Nat) (o : Oper) (j : Nat), ops[i]? = some o → anB A i j = true → ∃ e ∈ o.after, Region.binds .any e = true ∧ (j = e.on ∨ anB A e.on j = true)
  one : ∀ (i k : Nat) (oi ok : Oper) (d : Tmp), ops[i]? = some oi → ops[k]? = some ok → k ≠ i → ok.dst = some d → oi.dst ≠ some d
  looks : ∀ (i k : Nat) (oi ok : Oper) (d : Tmp), ops[i]? = some oi → ops[k]? = some ok → k ≠ i → ok.dst = some d → d ∈ oi.looksAt ops → (k < i → anB A i k = true) ∧ (i < k → anB A k i = true)
  effs : ∀ (i k : Nat) (oi ok : Oper), ops[i]? = some oi → ops[k]? = some ok → k < i → kindOf P oi.op = 2 → kindOf P ok.op = 2 → anB A i k = true

theorem fold_mask (A : List Nat) (j : Nat) : ∀ (l : List Edge) (s : Nat), Nat.testBit (l.foldl (fun s e => if Region.binds .any e then s ||| (2 ^ e.on ||| A.getD e.on 0) else s) s) j = true →
    Nat.testBit s j = true ∨ ∃ e ∈ l, Region.binds .any e = true ∧ (j = e.on ∨ anB A e.on j = true)
  | [], s, h => .inl h
  | e :: l, s, h => by
    rw [List.foldl_cons] at h
    rcases fold_mask A j l _ h with h | ⟨e', he', hb⟩
    · split at h
      · rename_i hbe
        rw [Nat.testBit_or, Nat.testBit_or, Bool.or_eq_true, Bool.or_eq_true] at h
        rcases h with h | h | h
        · exact .inl h
        · refine .inr ⟨e, List.mem_cons_self, hbe, .inl ?_⟩
          rw [Nat.testBit_two_pow] at h
          exact (of_decide_eq_true h).symm
        · exact .inr ⟨e, List.mem_cons_self, hbe, .inr h⟩
      · exact .inl h
    · exact .inr ⟨e', List.mem_cons_of_mem _ he', hb⟩

theorem ordOk_spec {P : Program} {ops : Array Oper} {A : List Nat} (h : ordOk P ops A = true) : Ordered P ops A := by
  have hi : ∀ (i : Nat) (oi : Oper), ops[i]? = some oi → A.getD i 0 = maskOf A oi ∧ (∀ e ∈ oi.after, Region.binds .any e = true → e.on < i) ∧
      ∀ (k : Nat) (ok : Oper), ops[k]? = some ok → k ≠ i → pairOk P ops A i k oi ok = true := by
    intro i oi hoi
    have hlt : i < ops.size := (Array.getElem?_eq_some_iff.1 hoi).1
    have h1 := List.all_eq_true.1 h i (List.mem_range.2 hlt)
    rw [hoi] at h1
    simp only [Bool.and_eq_true, beq_iff_eq] at h1
    refine ⟨h1.1.1, fun e he hb => ?_, fun k ok hok hne => ?_⟩
    · have := List.all_eq_true.1 h1.1.2 e (by simpa using he)
      rw [hb] at this
      simpa using this
    · have hk := List.all_eq_true.1 h1.2 k (List.mem_range.2 (Array.getElem?_eq_some_iff.1 hok).1)
      rw [hok] at hk
      simpa [hne] using hk
  refine ⟨fun i o ho => (hi i o ho).2.1, ?_, ?_, ?_, ?_⟩
  · intro i o j ho hj
    unfold anB at hj
    rw [(hi i o ho).1] at hj
    rcases fold_mask A j _ _ hj with h0 | ⟨e, he, hb⟩
    · simp at h0
    · exact ⟨e, by simpa using he, hb⟩
  · intro i k oi ok d hoi hok hne hd
    have := (hi i oi hoi).2.2 k ok hok hne
    unfold pairOk at this
    rw [hd] at this
    simp only [Bool.and_eq_true, bne_iff_ne] at this
    exact this.1.1
  · intro i k oi ok d hoi hok hne hd hl
    have := (hi i oi hoi).2.2 k ok hok hne
    unfold pairOk at this
    rw [hd] at this
    simp only [Bool.and_eq_true, Bool.or_eq_true, Bool.not_eq_true'] at this
    rcases this.1.2 with h2 | h2
    · have h3 : (oi.looksAt ops).contains d = true := by simpa using hl
      rw [h2] at h3; cases h3
    · refine ⟨fun hlt => ?_, fun hlt => ?_⟩
      · rw [if_pos hlt] at h2; exact h2
      · rw [if_neg (by omega)] at h2; exact h2
  · intro i k oi ok hoi hok hlt h1 h2
    have := (hi i oi hoi).2.2 k ok hok (by omega)
    unfold pairOk at this
    simp only [Bool.and_eq_true, Bool.or_eq_true, Bool.not_eq_true'] at this
    rcases this.2 with h3 | h3
    · rw [h1, h2] at h3; simp [hlt] at h3
    · exact h3

/-! ### the run in the order of the text -/
section
variable (self : Task → Option Res) (P : Program) (G : Nat) (ops : Array Oper)

def textRun : List Oper → Array Value → CH → Option (List (Array Value × CH × Value) × Array Value × CH)
  | [], tm, H => some ([], tm, H)
  | o :: r, tm, H =>
    if Region.wanted o (yielded ops tm) then match opX self P G tm H o with
      | some (v, H1) => match textRun r (put tm o.dst v) H1 with
        | some (tr, tm', H') => some ((tm, H, v) :: tr, tm', H')
        | none => none
      | none => none
    else if gk ops tm o then match textRun r (put tm o.dst undef) H with
      | some (tr, tm', H') => some ((tm, H, undef) :: tr, tm', H')
      | none => none
    else none

def effIdx : List Nat := (List.range ops.size).filter fun i => match ops[i]? with
  | some o => kindOf P o.op == 2
  | none => false
def alts (A : List Nat) (i : Nat) : List Nat :=
  (effIdx P ops ++ [ops.size]).filter fun p => !anB A i p && (effIdx P ops).all fun k => !decide (k < p) || !anB A k i
def heapAt (tr : List (Array Value × CH × Value)) (H' : CH) (p : Nat) : CH :=
  match tr[p]? with
  | some (_, H, _) => H
  | none => H'
def sameAs (r : Option (Value × CH)) (v : Value) : Bool :=
  match r with
  | some (v', _) => eqV 6 v' v
  | none => false
def recheck (A : List Nat) (tr : List (Array Value × CH × Value)) (H' : CH) : Bool :=
  (List.range ops.size).all fun i => match ops[i]?, tr[i]? with
    | some o, some (tm, _, v) => kindOf P o.op != 1 || !Region.wanted o (yielded ops tm) || (alts P ops A i).all fun p =>
        sameAs (opX self P G tm (heapAt tr H' p) o) v
    | _, _ => false
def drawX (tm : Array Value) (H : CH) : Option (Array Value × CH) :=
  if P.follows .mixedOrders && ordOk P ops (ancs ops) then match textRun self P G ops ops.toList tm H with
    | some (tr, tm', H') => if recheck self P G ops (ancs ops) tr H' then some (tm', H') else none
    | none => none
  else none
end

structure Stp (sf : Task → Option Res) (P : Program) (G : Nat) (ops : Array Oper) (tmF : Nat → Array Value) (HF : Nat → CH) (vF : Nat → Value) (i : Nat) (o : Oper) : Prop where
  tm : tmF (i + 1) = put (tmF i) o.dst (vF i)
  known : gk ops (tmF i) o = true
  run : (Region.wanted o (yielded ops (tmF i)) = true ∧ opX sf P G (tmF i) (HF i) o = some (vF i, HF (i + 1))) ∨ (Region.wanted o (yielded ops (tmF i)) = false ∧ vF i = undef ∧ HF (i + 1) = HF i)

theorem textRun_spec {self : Task → Option Res} {P : Program} {G : Nat} {ops : Array Oper} : ∀ (l : List Oper) (tm : Array Value) (H : CH) (tr : List (Array Value × CH × Value)) (tm' : Array Value) (H' : CH),
    textRun self P G ops l tm H = some (tr, tm', H') → ∃ (tmF : Nat → Array Value) (HF : Nat → CH) (vF : Nat → Value), tmF 0 = tm ∧ HF 0 = H ∧ tmF l.length = tm' ∧ HF l.length = H' ∧ tr.length = l.length ∧
      ∀ (i : Nat) (o : Oper), l[i]? = some o → tr[i]? = some (tmF i, HF i, vF i) ∧ Stp self P G ops tmF HF vF i o
  | [], tm, H, tr, tm', H', h => by
    cases h
    exact ⟨fun _ => tm, fun _ => H, fun _ => undef, rfl, rfl, rfl, rfl, rfl, fun i o ho => by simp at ho⟩
  | o :: r, tm, H, tr, tm', H', h => by
    simp only [textRun] at h
    have fin : ∀ (v : Value) (H1 : CH), gk ops tm o = true → ((Region.wanted o (yielded ops tm) = true ∧ opX self P G tm H o = some (v, H1)) ∨ (Region.wanted o (yielded ops tm) = false ∧ v = undef ∧ H1 = H)) →
        (match textRun self P G ops r (put tm o.dst v) H1 with
          | some (tr, tm', H') => some ((tm, H, v) :: tr, tm', H')
          | none => none) = some (tr, tm', H') → ∃ (tmF : Nat → Array Value) (HF : Nat → CH) (vF : Nat → Value), tmF 0 = tm ∧ HF 0 = H ∧ tmF (o :: r).length = tm' ∧ HF (o :: r).length = H' ∧ tr.length = (o :: r).length ∧
      ∀ (i : Nat) (o' : Oper), (o :: r)[i]? = some o' → tr[i]? = some (tmF i, HF i, vF i) ∧ Stp self P G ops tmF HF vF i o' := by
      intro v H1 hkn hv hr
      split at hr
      case h_2 => cases hr
      rename_i tr1 tm1 H2 hrun
      cases hr
      obtain ⟨tmF, HF, vF, h1, h2, h3, h4, h5, h6⟩ := textRun_spec r _ _ _ _ _ hrun
      refine ⟨fun | 0 => tm | i + 1 => tmF i, fun | 0 => H | i + 1 => HF i, fun | 0 => v | i + 1 => vF i, rfl, rfl, h3, h4, by simp [h5], fun i o' ho => ?_⟩
      cases i with
      | zero =>
        cases ho
        refine ⟨rfl, ⟨h1, hkn, ?_⟩⟩
        rcases hv with ⟨a, b⟩ | ⟨a, b, c⟩
        · exact .inl ⟨a, by show _ = some (v, HF 0); rw [h2]; exact b⟩
        · exact .inr ⟨a, b, by show HF 0 = H; rw [h2]; exact c⟩
      | succ i =>
        obtain ⟨p, q⟩ := h6 i o' ho
        exact ⟨p, ⟨q.tm, q.known, q.run⟩⟩
    split at h
    · rename_i hw
      split at h
      · rename_i v H1 hop
        exact fin v H1 (wanted_gk hw) (.inl ⟨hw, hop⟩) h
      · cases h
    · rename_i hw
      split at h
      case isFalse => cases h
      rename_i hk
      exact fin undef H hk (.inr ⟨by simpa using hw, rfl, rfl⟩) h
end Go.Ex
