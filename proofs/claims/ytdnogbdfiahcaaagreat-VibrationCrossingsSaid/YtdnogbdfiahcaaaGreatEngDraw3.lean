/- Engine, part 16: a region whose order is left open ends as the text's order does. -/
import Derived.Test.YtdnogbdfiahcaaaGreatEngDraw2
noncomputable section
namespace Go.Ex
open Go.RowKit

/-- the block's heap does not turn between operations that touch none -/
theorem heap_const {self : Task → Option Res} {P : Program} {G : Nat} {ops : Array Oper} {tmF : Nat → Array Value} {HF : Nat → CH} {vF : Nat → Value} (hst : ∀ i o, ops[i]? = some o → Stp self P G ops tmF HF vF i o)
    (i : Nat) : ∀ (d : Nat), i + d ≤ ops.size → (∀ k o, i ≤ k → k < i + d → ops[k]? = some o → kindOf P o.op ≠ 2) → HF (i + d) = HF i
  | 0, _, _ => rfl
  | d + 1, hd, hk => by
    rw [← Nat.add_assoc]
    have hlt : i + d < ops.size := by omega
    obtain ⟨o, ho⟩ : ∃ o, ops[i + d]? = some o := ⟨_, Array.getElem?_eq_getElem hlt⟩
    have hs := hst (i + d) o ho
    have ih := heap_const hst i d (by omega) (fun k o h1 h2 h3 => hk k o h1 (by omega) h3)
    have hkd : kindOf P o.op ≠ 2 := hk _ o (by omega) (by omega) ho
    rcases hs.run with ⟨_, hr⟩ | ⟨_, _, hr⟩
    · have : kindOf P o.op = 0 ∨ kindOf P o.op = 1 ∨ kindOf P o.op = 2 := by
        have : kindOf P o.op ≤ 2 := kind_le P o.op
        omega
      rcases this with h0 | h1 | h2
      · obtain ⟨r, h⟩ := kind_pure (self := self) (P := P) (G := G) (tm := tmF (i + d)) h0
        rw [h] at hr
        obtain ⟨z, _, hz⟩ := map_some' hr
        rw [← (Prod.mk.inj hz).2, ih]
      · rw [kind_read h1 hr, ih]
      · exact absurd h2 hkd
    · rw [hr, ih]

theorem put_get {tm : Array Value} {dst : Option Tmp} {v : Value} {t : Nat} : (put tm dst v)[t]? = if dst = some t ∧ t < tm.size then some v else tm[t]? := by
  cases dst with
  | none => simp [put]
  | some d =>
    show (⟨setL tm.toList d v⟩ : Array Value)[t]? = _
    rw [setL_eq]
    simp only [Array.toArray_toList, Array.getElem?_setIfInBounds, Option.some.injEq]
    by_cases h : d = t
    · subst h; simp
      split
      · rfl
      · rename_i hh; simp; omega
    · simp [h]
theorem put_size {tm : Array Value} {dst : Option Tmp} {v : Value} : (put tm dst v).size = tm.size := by
  cases dst with
  | none => rfl
  | some d =>
    show (⟨setL tm.toList d v⟩ : Array Value).size = _
    rw [setL_eq]; simp

/-- who wrote a temporary last -/
theorem tm_at {self : Task → Option Res} {P : Program} {G : Nat} {ops : Array Oper} {tmF : Nat → Array Value} {HF : Nat → CH} {vF : Nat → Value} (hst : ∀ i o, ops[i]? = some o → Stp self P G ops tmF HF vF i o) (t : Nat) (ht : t < (tmF 0).size) :
    ∀ (i : Nat), i ≤ ops.size → (tmF i).size = (tmF 0).size ∧ ((∃ k o, k < i ∧ ops[k]? = some o ∧ o.dst = some t ∧ (tmF i)[t]? = some (vF k)) ∨ ((∀ k o, k < i → ops[k]? = some o → o.dst ≠ some t) ∧ (tmF i)[t]? = (tmF 0)[t]?))
  | 0, _ => ⟨rfl, .inr ⟨fun k o hk => by omega, rfl⟩⟩
  | i + 1, hi => by
    have hlt : i < ops.size := by omega
    obtain ⟨o, ho⟩ : ∃ o, ops[i]? = some o := ⟨_, Array.getElem?_eq_getElem hlt⟩
    have hs := hst i o ho
    obtain ⟨hsz, hh⟩ := tm_at hst t ht i (by omega)
    refine ⟨by rw [hs.tm, put_size, hsz], ?_⟩
    rw [hs.tm, put_get]
    by_cases hd : o.dst = some t
    · exact .inl ⟨i, o, by omega, ho, hd, by rw [if_pos ⟨hd, by rw [hsz]; exact ht⟩]⟩
    · rw [if_neg (fun x => hd x.1)]
      rcases hh with ⟨k, ok, h1, h2, h3, h4⟩ | ⟨h1, h2⟩
      · exact .inl ⟨k, ok, by omega, h2, h3, h4⟩
      · refine .inr ⟨fun k ok hk hok => ?_, h2⟩
        by_cases hki : k = i
        · subst hki; rw [ho] at hok; cases hok; exact hd
        · exact h1 k ok (by omega) hok

def inD (listed : Array Bool) (i : Nat) : Prop := listed.getD i false = true
instance (listed : Array Bool) (i : Nat) : Decidable (inD listed i) := inferInstanceAs (Decidable (_ = true))

structure Jv (P : Program) (G : Nat) (ops : Array Oper) (A : List Nat) (tmF : Nat → Array Value) (HF : Nat → CH) (vF : Nat → Value) (w0 : World) (d0 : List Deferred) (E : Env) (listed : Array Bool) (a : Act) (w : World) : Prop where
  size : listed.size = ops.size
  clos : ∀ i j, inD listed i → anB A i j = true → inD listed j
  tsz : a.tmps.size = (tmF 0).size
  done : ∀ k o d, inD listed k → ops[k]? = some o → o.dst = some d → d < (tmF 0).size → ∃ x', a.tmps[d]? = some x' ∧ VR E (vF k) x'
  still : ∀ t x, (tmF 0)[t]? = some x → (∀ k o, inD listed k → ops[k]? = some o → o.dst ≠ some t) → ∃ x', a.tmps[t]? = some x' ∧ VR E x x'
  heap : ∃ p, p ≤ ops.size ∧ (p = ops.size ∨ ∃ o, ops[p]? = some o ∧ kindOf P o.op = 2) ∧ (∀ k o, ops[k]? = some o → kindOf P o.op = 2 → (inD listed k ↔ k < p)) ∧ WR w0 G E (HF p) w
  dfr : a.defers = d0

theorem inD_set {listed : Array Bool} {i j : Nat} (hi : i < listed.size) : inD (listed.setIfInBounds i true) j ↔ j = i ∨ inD listed j := by
  unfold inD
  by_cases h : i = j
  · subst h; simp [hi]
  · rw [getD_set_ne false h]
    constructor
    · exact .inr
    · rintro (h' | h')
      · exact absurd h'.symm h
      · exact h'
theorem inD_lt {listed : Array Bool} {i : Nat} (h : inD listed i) : i < listed.size := by
  unfold inD at h
  rcases Nat.lt_or_ge i listed.size with h' | h'
  · exact h'
  · simp [Array.getElem?_eq_none h'] at h
theorem not_inD {listed : Array Bool} {i : Nat} (h : listed.getD i true = false) : ¬ inD listed i := by
  unfold inD
  intro h'
  rcases Nat.lt_or_ge i listed.size with h2 | h2
  · simp [h2] at h h'; rw [h] at h'; cases h'
  · simp [Array.getElem?_eq_none h2] at h

theorem Act.put_get {a : Act} {dst : Option Tmp} {v : Value} {t : Nat} : (a.put dst v).tmps[t]? = if dst = some t ∧ t < a.tmps.size then some v else a.tmps[t]? := by
  cases dst with
  | none => simp [Act.put]
  | some d =>
    simp only [Act.put, Array.getElem?_setIfInBounds, Option.some.injEq]
    by_cases h : d = t
    · subst h; simp
      split
      · rfl
      · rename_i hh; simp; omega
    · simp [h]
theorem Act.put_size {a : Act} {dst : Option Tmp} {v : Value} : (a.put dst v).tmps.size = a.tmps.size := by cases dst <;> simp [Act.put]
theorem Act.put_dfr {a : Act} {dst : Option Tmp} {v : Value} : (a.put dst v).defers = a.defers := by cases dst <;> rfl

section
variable {self : Task → Option Res} {P : Program} {G : Nat} {ops : Array Oper} {A : List Nat} {tmF : Nat → Array Value} {HF : Nat → CH} {vF : Nat → Value} {w0 : World} {d0 : List Deferred} {E : Env} {listed : Array Bool} {a : Act} {w : World}

theorem agree (hO : Ordered P ops A) (hst : ∀ i o, ops[i]? = some o → Stp self P G ops tmF HF vF i o) (J : Jv P G ops A tmF HF vF w0 d0 E listed a w) {i : Nat} {o : Oper} (ho : ops[i]? = some o)
    (hni : ¬ inD listed i) (hanc : ∀ j, anB A i j = true → inD listed j) {t : Tmp} (ht : t ∈ o.looksAt ops) :
    (∃ x x', (tmF i)[t]? = some x ∧ a.tmps[t]? = some x' ∧ VR E x x') ∨ ((tmF i)[t]? = none ∧ a.tmps[t]? = none) := by
  have hlt : i < ops.size := (Array.getElem?_eq_some_iff.1 ho).1
  have hsz : (tmF i).size = (tmF 0).size := by
    have : ∀ j, j ≤ ops.size → (tmF j).size = (tmF 0).size := by
      intro j
      induction j with
      | zero => intro _; rfl
      | succ j ih =>
        intro hj
        have hj' : j < ops.size := by omega
        rw [(hst j _ (Array.getElem?_eq_getElem hj')).tm, Ex.put_size, ih (by omega)]
    exact this i (by omega)
  by_cases htl : t < (tmF 0).size
  · left
    rcases (tm_at hst t htl i (by omega)).2 with ⟨k, ok, h1, h2, h3, h4⟩ | ⟨h1, h2⟩
    · have hk := hanc k ((hO.looks i k o ok t ho h2 (by omega) h3 ht).1 h1)
      obtain ⟨x', hx', hr⟩ := J.done k ok t hk h2 h3 htl
      exact ⟨_, x', h4, hx', hr⟩
    · obtain ⟨x, hx⟩ : ∃ x, (tmF 0)[t]? = some x := ⟨_, Array.getElem?_eq_getElem htl⟩
      obtain ⟨x', hx', hr⟩ := J.still t x hx fun k ok hk hok hd => by
        rcases Nat.lt_trichotomy k i with hki | hki | hki
        · exact h1 k ok hki hok hd
        · subst hki; exact hni hk
        · exact hni (J.clos k i hk ((hO.looks i k o ok t ho hok (by omega) hd ht).2 hki))
      exact ⟨x, x', by rw [h2]; exact hx, hx', hr⟩
  · right
    exact ⟨Array.getElem?_eq_none (by rw [hsz]; exact Nat.le_of_not_lt htl), Array.getElem?_eq_none (by rw [J.tsz]; exact Nat.le_of_not_lt htl)⟩

theorem agree_ev (hO : Ordered P ops A) (hst : ∀ i o, ops[i]? = some o → Stp self P G ops tmF HF vF i o) (J : Jv P G ops A tmF HF vF w0 d0 E listed a w) {H : CH} (hw : WR w0 G E H w) {i : Nat} {o : Oper} (ho : ops[i]? = some o)
    (hni : ¬ inD listed i) (hanc : ∀ j, anB A i j = true → inD listed j) {x : Operand} (hx : x ∈ o.op.operands) (hok : okOpd G x = true) : VR E (ev (tmF i) x) (a.eval x) := by
  cases x with
  | tmp t =>
    have ht : t ∈ o.looksAt ops := List.mem_append_left _ (List.mem_filterMap.2 ⟨.tmp t, by simpa using hx, rfl⟩)
    show VR E (getL (tmF i).toList t) (a.tmps.getD t undef)
    rw [getL_eq, Array.toArray_toList, Array.getD_eq_getD_getElem?, Array.getD_eq_getD_getElem?]
    rcases agree hO hst J ho hni hanc ht with ⟨x, x', h1, h2, h3⟩ | ⟨h1, h2⟩
    · rw [h1, h2]; exact h3
    · rw [h1, h2]; exact VR.undef E
  | const v => exact VR.of_clean E 6 v hok
  | global g => exact ev_rel (a := { a with tmps := #[] }) (tm := #[]) hw (VRs.nil E) (x := .global g) hok
  | func f => exact .flat rfl

theorem agree_wanted (hO : Ordered P ops A) (hst : ∀ i o, ops[i]? = some o → Stp self P G ops tmF HF vF i o) (J : Jv P G ops A tmF HF vF w0 d0 E listed a w) {i : Nat} {o : Oper} (ho : ops[i]? = some o)
    (hni : ¬ inD listed i) (hanc : ∀ j, anB A i j = true → inD listed j) : Region.wanted o (yielded ops a.tmps) = Region.wanted o (yielded ops (tmF i)) := by
  have hk := (hst i o ho).known
  unfold gk at hk
  unfold Region.wanted
  cases hg : o.guard with
  | none => rfl
  | some gw =>
    obtain ⟨g, want⟩ := gw
    rw [hg] at hk
    dsimp only at hk
    have hy : yielded ops a.tmps g = yielded ops (tmF i) g := by
      unfold yielded
      cases hd : (ops[g]?).bind (·.dst) with
      | none => rfl
      | some d =>
        have ht : d ∈ o.looksAt ops := by simp [Oper.looksAt, hg, hd]
        simp only [Option.bind_some]
        rcases agree hO hst J ho hni hanc ht with ⟨x, x', h1, h2, h3⟩ | ⟨h1, h2⟩
        · rw [hd] at hk
          dsimp only at hk
          rw [Array.getD_eq_getD_getElem?, h1] at hk
          rw [h1, h2]
          cases h3 <;> first | rfl | (cases hk; done)
        · rw [h1, h2]
    simp only [hy]

theorem next_eff (P : Program) (ops : Array Oper) : ∀ (d i : Nat), ops.size - i = d → i ≤ ops.size → ∃ p, i ≤ p ∧ p ≤ ops.size ∧ (p = ops.size ∨ ∃ o, ops[p]? = some o ∧ kindOf P o.op = 2) ∧ ∀ k o, i ≤ k → k < p → ops[k]? = some o → kindOf P o.op ≠ 2
  | 0, i, hd, hi => ⟨i, Nat.le_refl _, hi, .inl (by omega), fun k o h1 h2 => by omega⟩
  | d + 1, i, hd, hi => by
    have hlt : i < ops.size := by omega
    by_cases hk : kindOf P (ops[i]).op = 2
    · exact ⟨i, Nat.le_refl _, hi, .inr ⟨_, Array.getElem?_eq_getElem hlt, hk⟩, fun k o h1 h2 => by omega⟩
    · obtain ⟨p, h1, h2, h3, h4⟩ := next_eff P ops d (i + 1) (by omega) (by omega)
      refine ⟨p, by omega, h2, h3, fun k o h5 h6 h7 => ?_⟩
      by_cases hki : k = i
      · subst hki; rw [Array.getElem?_eq_getElem hlt] at h7; cases h7; exact hk
      · exact h4 k o (by omega) h6 h7
end
end Go.Ex
