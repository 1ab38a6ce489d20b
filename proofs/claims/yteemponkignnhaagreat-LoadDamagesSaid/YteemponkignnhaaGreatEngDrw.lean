/- Part of the proof. -/
import Derived.Test.YteemponkignnhaaGreatEngSnd
noncomputable section
namespace Go.Ex
open Go.RowKit
def eqV : Nat → Value → Value → Bool
  | _, .bool a, .bool b => a == b
  | _, .int k a, .int l b => decide (k = l) && decide (a = b)
  | _, .float k a, .float l b => decide (k = l) && Nat.beq a b
  | _, .complex k a b, .complex l c d => decide (k = l) && (Nat.beq a c && Nat.beq b d)
  | _, .string a, .string b => decide (a.data.toList = b.data.toList)
  | _, .pointer a, .pointer b => decide (a = b)
  | _, .slice a l c, .slice b m d => decide (a = b) && Nat.beq l m && Nat.beq c d
  | _, .map a, .map b => decide (a = b)
  | _, .nilFunc, .nilFunc => true
  | _, .nilIface, .nilIface => true
  | n + 1, .agg a, .agg b => Nat.beq a.size b.size && (a.toList.zip b.toList).all fun (x, y) => eqV n x y
  | n + 1, .tuple a, .tuple b => Nat.beq a.size b.size && (a.toList.zip b.toList).all fun (x, y) => eqV n x y
  | n + 1, .func (.func f) a c, .func (.func g) b d => decide (f = g) && (Nat.beq a.size b.size && (a.toList.zip b.toList).all fun (x, y) => eqV n x y) && (Nat.beq c.size d.size && (c.toList.zip d.toList).all fun (x, y) => eqV n x y)
  | n + 1, .iface t x, .iface u y => decide (t = u) && eqV n x y
  | _, _, _ => false
theorem zip_all_eq {p : Value → Value → Bool} (hp : ∀ x y, p x y = true → x = y) : ∀ (a b : List Value), a.length = b.length → (a.zip b).all (fun (x, y) => p x y) = true → a = b
  | [], [], _, _ => rfl
  | [], _ :: _, h, _ => by simp at h
  | _ :: _, [], h, _ => by simp at h
  | x :: a, y :: b, h, hh => by
    simp only [List.zip_cons_cons, List.all_cons, Bool.and_eq_true] at hh
    rw [hp x y hh.1, zip_all_eq hp a b (by simpa using h) hh.2]
theorem eqV_sound : ∀ (n : Nat) (a b : Value), eqV n a b = true → a = b := by
  have key : ∀ (n : Nat), (∀ m, n = m + 1 → ∀ a b, eqV m a b = true → a = b) → ∀ a b, eqV n a b = true → a = b := by
    intro n ih a b h
    unfold eqV at h
    split at h <;> first
      | (cases h; done)
      | rfl
      | (simp only [Bool.and_eq_true, decide_eq_true_eq, beq_iff_eq, Nat.beq_eq] at h; simp [h]; done)
      | skip
    · rename_i a b
      have : a.data = b.data := by simpa [← Array.toList_inj] using h
      cases a; cases b; simp at this; rw [this]
    · rename_i m a b
      simp only [Bool.and_eq_true, Nat.beq_eq] at h
      have := zip_all_eq (ih m rfl) a.toList b.toList (by simpa using h.1) h.2
      rw [Array.toList_inj.1 this]
    · rename_i m a b
      simp only [Bool.and_eq_true, Nat.beq_eq] at h
      have := zip_all_eq (ih m rfl) a.toList b.toList (by simpa using h.1) h.2
      rw [Array.toList_inj.1 this]
    · rename_i m f a c g b d
      simp only [Bool.and_eq_true, Nat.beq_eq, decide_eq_true_eq] at h
      have h1 := zip_all_eq (ih m rfl) a.toList b.toList (by simpa using h.1.2.1) h.1.2.2
      have h2 := zip_all_eq (ih m rfl) c.toList d.toList (by simpa using h.2.1) h.2.2
      rw [Array.toList_inj.1 h1, Array.toList_inj.1 h2, h.1.1]
    · rename_i m t x u y
      simp only [Bool.and_eq_true, decide_eq_true_eq] at h
      rw [h.1, ih m rfl _ _ h.2]
  intro n
  induction n with
  | zero => exact key 0 (fun m hm => by cases hm)
  | succ n ih => exact key (n + 1) (fun m hm => by cases hm; exact ih)
def kindOf (P : Program) : Op → Nat
  | .move _ | .assign _ | .pick .. | .build .. | .nilCheck _ | .fieldAddr .. | .indexAddr .. | .field .. | .index .. | .extract .. | .makeInterface .. | .unOp .. | .makeFunc (.func _) _ _ => 0
  | .binOp _ t _ _ _ => match P.underlying t with
    | some (.slice _) => 1
    | _ => 0
  | .convert _ d _ => match P.underlying d with
    | some (.int _) | some (.float _) => 0
    | _ => 2
  | .load .. | .lookup .. | .slice _ _ _ _ none => 1
  | .call { callee := .builtin .len, .. } | .call { callee := .builtin .min, .. } | .call { callee := .builtin .max, .. } | .call { callee := .builtin .cap, .. } | .call { callee := .builtin .unsafeSliceData, .. } => 1
  | _ => 2
theorem kind_le (P : Program) (o : Op) : kindOf P o ≤ 2 := by
  unfold kindOf
  split <;> first | omega | (split <;> omega)
theorem kind_call {P : Program} {c : Call} : kindOf P (.call c) ≠ 0 := by
  obtain ⟨callee, args, ts⟩ := c
  cases callee with
  | value f => intro h; cases h
  | invoke r m => intro h; cases h
  | builtin b => cases b <;> (intro h; cases h)
theorem kind_slice {P : Program} {t : TypeId} {x : Operand} {a b c : Option Operand} : kindOf P (.slice t x a b c) ≠ 0 := by
  cases c <;> (intro h; cases h)
theorem kind_pure {self : Task → Option Res} {P : Program} {G : Nat} {tm : Array Value} {o : Oper} (hk : kindOf P o.op = 0) : ∃ r : Option Value, ∀ H, opX self P G tm H o = r.map (·, H) := by
  obtain ⟨dst, op, type, pos, after, guard⟩ := o
  have h0 : ∃ r : Option Value, ∀ H, opS P G H (ev tm) ⟨dst, op, type, pos, after, guard⟩ = r.map (·, H) := by
    cases op <;> first
      | (cases hk; done)
      | exact ⟨_, fun H => rfl⟩
      | (refine ⟨some _, fun H => rfl⟩; done)
      | exact absurd hk kind_call
      | exact absurd hk kind_slice
      | skip
    case makeFunc fn first cap =>
      cases fn <;> first
        | (cases hk; done)
        | exact ⟨some _, fun H => rfl⟩
    case pick c a b =>
      refine ⟨(opS P G Hp.nil (ev tm) ⟨dst, .pick c a b, type, pos, after, guard⟩).map (·.1), fun H => ?_⟩
      simp only [opS]
      generalize ev tm c = x
      cases x <;> rfl
    case nilCheck x =>
      refine ⟨(opS P G Hp.nil (ev tm) ⟨dst, .nilCheck x, type, pos, after, guard⟩).map (·.1), fun H => ?_⟩
      simp only [opS]
      generalize ev tm x = x
      cases x with
      | pointer a =>
        cases a with
        | none => rfl
        | some a => obtain ⟨b, off, spot⟩ := a; cases spot <;> rfl
      | func f a c => cases f <;> rfl
      | _ => rfl
    case indexAddr t x i =>
      refine ⟨(opS P G Hp.nil (ev tm) ⟨dst, .indexAddr t x i, type, pos, after, guard⟩).map (·.1), fun H => ?_⟩
      simp only [opS]
      generalize ev tm i = y
      cases y with
      | int k n => dsimp only; cases indexAtS P t (ev tm x) n <;> rfl
      | _ => rfl
    case index t x i =>
      refine ⟨(opS P G Hp.nil (ev tm) ⟨dst, .index t x i, type, pos, after, guard⟩).map (·.1), fun H => ?_⟩
      simp only [opS]
      have hp : ∀ y : Option Value, y.map (·, H) = ((y.map (·, (Hp.nil : CH))).map (·.1)).map (·, H) := fun y => by cases y <;> rfl
      generalize ev tm x = y
      cases y with
      | agg a =>
        dsimp only
        generalize ev tm i = y
        cases y with
        | int k n => exact hp _
        | _ => rfl
      | _ => exact hp _
    case binOp op t x y ty =>
      refine ⟨(opS P G Hp.nil (ev tm) ⟨dst, .binOp op t x y ty, type, pos, after, guard⟩).map (·.1), fun H => ?_⟩
      simp only [opS]
      generalize aggEq P op t (ev tm x) (ev tm y) = q
      cases q with
      | some b => rfl
      | none =>
      dsimp only
      generalize pureS P (ev tm) _ = z
      cases z with
      | some v => rfl
      | none =>
        dsimp only
        have hsp : ∀ H, samePt P H t (ev tm x) (ev tm y) = samePt P Hp.nil t (ev tm x) (ev tm y) := by
          intro H
          unfold samePt nilEq
          simp only [kindOf] at hk
          split at hk
          · cases hk
          · rename_i hns
            congr 1
            split <;> first
              | rfl
              | (rename_i hu1 hu2 hu3; exact (hns _ hu1).elim)
              | (rename_i hu1 hu2; exact (hns _ hu1).elim)
        rw [hsp]
        generalize samePt P Hp.nil t (ev tm x) (ev tm y) = u
        generalize nanS op (ev tm x) (ev tm y) = z
        cases op <;> first | rfl | (cases u <;> rfl) | (cases z <;> rfl)
    case convert s d x =>
      have hd : (∃ k, P.underlying d = some (.int k)) ∨ (∃ k, P.underlying d = some (.float k)) := by
        simp only [kindOf] at hk
        split at hk
        · rename_i k hu; exact .inl ⟨k, hu⟩
        · rename_i k hu; exact .inr ⟨k, hu⟩
        · cases hk
      have h1 : ∀ H, convPtrS P H s d (ev tm x) = none := by
        intro H
        cases hc : convPtrS P H s d (ev tm x) with
        | none => rfl
        | some v =>
          exfalso
          unfold convPtrS at hc
          split at hc
          · split at hc
            · rename_i _ hu _ _
              rcases hd with ⟨k, hd⟩ | ⟨k, hd⟩ <;> simp_all
            · rename_i _ hu _ _
              rcases hd with ⟨k, hd⟩ | ⟨k, hd⟩ <;> simp_all
            · cases hc
          · cases hc
      have h2 : ∀ H, strBytesS P H s d (ev tm x) = none := by
        intro H
        cases hc : strBytesS P H s d (ev tm x) with
        | none => rfl
        | some v =>
          exfalso
          unfold strBytesS at hc
          split at hc
          · split at hc
            · rcases hd with ⟨k, hd⟩ | ⟨k, hd⟩ <;> simp_all
            · cases hc
          · cases hc
      have h3 : ∀ H, markS P G H s d (ev tm x) = none := by
        intro H
        cases hc : markS P G H s d (ev tm x) with
        | none => rfl
        | some v =>
          exfalso
          unfold markS at hc
          split at hc
          · split at hc
            · rcases hd with ⟨k, hd⟩ | ⟨k, hd⟩ <;> simp_all
            · cases hc
          · cases hc
      have h4 : ∀ H, strOfS P H s d (ev tm x) = none := by
        intro H
        cases hc : strOfS P H s d (ev tm x) with
        | none => rfl
        | some v =>
          exfalso
          unfold strOfS at hc
          split at hc
          · split at hc
            · rcases hd with ⟨k, hd⟩ | ⟨k, hd⟩ <;> simp_all
            · cases hc
          · cases hc
      refine ⟨(opS P G Hp.nil (ev tm) ⟨dst, .convert s d x, type, pos, after, guard⟩).map (·.1), fun H => ?_⟩
      simp only [opS, h1, h2, h3, h4]
      cases pureS P (ev tm) _ with
      | some v => rfl
      | none =>
        dsimp only
        cases (P.underlying s).isSome with
        | false => rfl
        | true =>
          simp only [cond]
          generalize nanC P d (ev tm x) = z
          cases z <;> rfl
    case extract x i =>
      refine ⟨(opS P G Hp.nil (ev tm) ⟨dst, .extract x i, type, pos, after, guard⟩).map (·.1), fun H => ?_⟩
      simp only [opS]
      generalize ev tm x = y
      cases y with
      | tuple vs => dsimp only; cases vs[i]? <;> rfl
      | _ => rfl
    case makeInterface t x =>
      refine ⟨(opS P G Hp.nil (ev tm) ⟨dst, .makeInterface t x, type, pos, after, guard⟩).map (·.1), fun H => ?_⟩
      simp only [opS]
      generalize P.underlying t = u
      cases u with
      | none => rfl
      | some d => cases d <;> rfl
  obtain ⟨r, hr⟩ := h0
  by_cases hall : (op.operands.toList.all (okOpd G)) = true
  · refine ⟨r, fun H => ?_⟩
    unfold opX
    rw [if_pos hall]
    cases op <;> first | (cases hk; done) | exact absurd hk kind_call | exact hr H
  · refine ⟨none, fun H => ?_⟩
    unfold opX
    rw [if_neg hall]
    rfl
theorem builtinS_keep {P : Program} {G : Nat} {H H' : CH} {b : Builtin} {ts : Array TypeId} {args : Array Value} {v : Value} (h1 : b ≠ .append) (h2 : b ≠ .copy) (h3 : b ≠ .clear) (h4 : b ≠ .unsafeString) (hb : builtinS P G H b ts args = some (v, H')) : H' = H := by
  unfold builtinS at hb
  split at hb
  · exact absurd rfl h1
  · exact absurd rfl h2
  · split at hb
    · cases hb; rfl
    · cases hb
  · split at hb
    · cases hb; rfl
    · cases hb
  · exact absurd rfl h3
  · obtain ⟨u, _, hq⟩ := map_some' hb
    cases hq; rfl
  · exact absurd rfl h4
  · cases hb
theorem kind_read {self : Task → Option Res} {P : Program} {G : Nat} {tm : Array Value} {H H' : CH} {o : Oper} {v : Value} (hk : kindOf P o.op = 1) (h : opX self P G tm H o = some (v, H')) : H' = H := by
  obtain ⟨hok, hnd, hs⟩ := opX_opS h
  obtain ⟨dst, op, type, pos, after, guard⟩ := o
  have mp : ∀ {x : Option Value}, x.map (·, H) = some (v, H') → H' = H := fun hx => by
    obtain ⟨z, _, hz⟩ := map_some' hx
    cases hz; rfl
  rcases hs with hs | ⟨f, args, ts, hop, _⟩
  · cases op <;> first
      | (cases hk; done)
      | skip
    case convert s d x =>
      exfalso
      simp only [kindOf] at hk
      split at hk <;> cases hk
    case makeFunc fn first cap => cases fn <;> cases hk
    case binOp op t x y ty =>
      simp only [opS] at hs
      split at hs
      · cases hs; rfl
      · split at hs
        · cases hs; rfl
        · split at hs
          · obtain ⟨z, _, hz⟩ := map_some' hs
            cases hz; rfl
          · obtain ⟨z, _, hz⟩ := map_some' hs
            cases hz; rfl
          · exact mp hs
    case load t x =>
      simp only [opS] at hs
      split at hs
      · exact mp hs
      · cases hs
    case lookup t m k ok => exact mp hs
    case slice t x lo hi mx =>
      cases mx with
      | some _ => cases hk
      | none =>
        simp only [opS] at hs
        split at hs
        · split at hs
          · cases hs; rfl
          · exact mp hs
        · cases hs
    case call c =>
      obtain ⟨callee, args, ts⟩ := c
      cases callee with
      | value f => cases hk
      | invoke r m => cases hk
      | builtin b =>
        simp only [opS] at hs
        split at hs
        · rename_i r hb
          cases hs
          refine builtinS_keep (fun hb => ?_) (fun hb => ?_) (fun hb => ?_) (fun hb => ?_) hb
          · subst hb; cases hk
          · subst hb; cases hk
          · subst hb; cases hk
          · subst hb; cases hk
        · exact mp hs
  · change op = _ at hop
    subst hop
    cases hk
end Go.Ex
/- Engine, part 15: what is checked of a region whose order is left open. -/
noncomputable section
namespace Go.Ex
open Go.RowKit
def anB (A : List Nat) (i j : Nat) : Bool := Nat.testBit (A.getD i 0) j
def maskOf (A : List Nat) (o : Oper) : Nat :=
  o.after.toList.foldl (fun s e => if Region.binds .any e then s ||| (2 ^ e.on ||| A.getD e.on 0) else s) 0
def ancsGo : List Oper → List Nat → List Nat
  | [], acc => acc
  | o :: r, acc => ancsGo r (acc ++ [maskOf acc o])
def ancs (ops : Array Oper) : List Nat := ancsGo ops.toList []
def pairOk (P : Program) (ops : Array Oper) (A : List Nat) (i k : Nat) (oi ok : Oper) : Bool :=
  (match ok.dst with
   | none => true
   | some d => oi.dst != some d && (!(oi.looksAt ops).contains d || (if k < i then anB A i k else anB A k i))) &&
  (!(decide (k < i) && kindOf P oi.op == 2 && kindOf P ok.op == 2) || anB A i k)
def ordOk (P : Program) (ops : Array Oper) (A : List Nat) : Bool :=
  (List.range ops.size).all fun i => match ops[i]? with
    | none => false
    | some oi => A.getD i 0 == maskOf A oi && oi.after.toList.all (fun e => !Region.binds .any e || decide (e.on < i)) &&
      (List.range ops.size).all fun k => k == i || match ops[k]? with
        | none => false
        | some ok => pairOk P ops A i k oi ok
structure Ordered (P : Program) (ops : Array Oper) (A : List Nat) : Prop where
  back : ∀ (i : Nat) (o : Oper), ops[i]? = some o → ∀ e ∈ o.after, Region.binds .any e = true → e.on < i
  anc : ∀ (i : Nat) (o : Oper) (j : Nat), ops[i]? = some o → anB A i j = true → ∃ e ∈ o.after, Region.binds .any e = true ∧ (j = e.on ∨ anB A e.on j = true)
  one : ∀ (i k : Nat) (oi ok : Oper) (d : Tmp), ops[i]? = some oi → ops[k]? = some ok → k ≠ i → ok.dst = some d → oi.dst ≠ some d
  looks : ∀ (i k : Nat) (oi ok : Oper) (d : Tmp), ops[i]? = some oi → ops[k]? = some ok → k ≠ i → ok.dst = some d → d ∈ oi.looksAt ops → (k < i → anB A i k = true) ∧ (i < k → anB A k i = true)
  effs : ∀ (i k : Nat) (oi ok : Oper), ops[i]? = some oi → ops[k]? = some ok → k < i → kindOf P oi.op = 2 → kindOf P ok.op = 2 → anB A i k = true
theorem fold_mask (A : List Nat) (j : Nat) : ∀ (l : List Edge) (s : Nat), Nat.testBit (l.foldl (fun s e => if Region.binds .any e then s ||| (2 ^ e.on ||| A.getD e.on 0) else s) s) j = true →
    Nat.testBit s j = true ∨ ∃ e ∈ l, Region.binds .any e = true ∧ (j = e.on ∨ anB A e.on j = true)
  | [], s, h => .inl h
  | e :: l, s, h => by
    rw [List.foldl_cons] at h
    rcases fold_mask A j l _ h with h | ⟨e', he', hb⟩
    · split at h
      · rename_i hbe
        rw [Nat.testBit_or, Nat.testBit_or, Bool.or_eq_true, Bool.or_eq_true] at h
        rcases h with h | h | h
        · exact .inl h
        · refine .inr ⟨e, List.mem_cons_self, hbe, .inl ?_⟩
          rw [Nat.testBit_two_pow] at h
          exact (of_decide_eq_true h).symm
        · exact .inr ⟨e, List.mem_cons_self, hbe, .inr h⟩
      · exact .inl h
    · exact .inr ⟨e', List.mem_cons_of_mem _ he', hb⟩
theorem ordOk_spec {P : Program} {ops : Array Oper} {A : List Nat} (h : ordOk P ops A = true) : Ordered P ops A := by
  have hi : ∀ (i : Nat) (oi : Oper), ops[i]? = some oi → A.getD i 0 = maskOf A oi ∧ (∀ e ∈ oi.after, Region.binds .any e = true → e.on < i) ∧
      ∀ (k : Nat) (ok : Oper), ops[k]? = some ok → k ≠ i → pairOk P ops A i k oi ok = true := by
    intro i oi hoi
    have hlt : i < ops.size := (Array.getElem?_eq_some_iff.1 hoi).1
    have h1 := List.all_eq_true.1 h i (List.mem_range.2 hlt)
    rw [hoi] at h1
    simp only [Bool.and_eq_true, beq_iff_eq] at h1
    refine ⟨h1.1.1, fun e he hb => ?_, fun k ok hok hne => ?_⟩
    · have := List.all_eq_true.1 h1.1.2 e (by simpa using he)
      rw [hb] at this
      simpa using this
    · have hk := List.all_eq_true.1 h1.2 k (List.mem_range.2 (Array.getElem?_eq_some_iff.1 hok).1)
      rw [hok] at hk
      simpa [hne] using hk
  refine ⟨fun i o ho => (hi i o ho).2.1, ?_, ?_, ?_, ?_⟩
  · intro i o j ho hj
    unfold anB at hj
    rw [(hi i o ho).1] at hj
    rcases fold_mask A j _ _ hj with h0 | ⟨e, he, hb⟩
    · simp at h0
    · exact ⟨e, by simpa using he, hb⟩
  · intro i k oi ok d hoi hok hne hd
    have := (hi i oi hoi).2.2 k ok hok hne
    unfold pairOk at this
    rw [hd] at this
    simp only [Bool.and_eq_true, bne_iff_ne] at this
    exact this.1.1
  · intro i k oi ok d hoi hok hne hd hl
    have := (hi i oi hoi).2.2 k ok hok hne
    unfold pairOk at this
    rw [hd] at this
    simp only [Bool.and_eq_true, Bool.or_eq_true, Bool.not_eq_true'] at this
    rcases this.1.2 with h2 | h2
    · have h3 : (oi.looksAt ops).contains d = true := by simpa using hl
      rw [h2] at h3; cases h3
    · refine ⟨fun hlt => ?_, fun hlt => ?_⟩
      · rw [if_pos hlt] at h2; exact h2
      · rw [if_neg (by omega)] at h2; exact h2
  · intro i k oi ok hoi hok hlt h1 h2
    have := (hi i oi hoi).2.2 k ok hok (by omega)
    unfold pairOk at this
    simp only [Bool.and_eq_true, Bool.or_eq_true, Bool.not_eq_true'] at this
    rcases this.2 with h3 | h3
    · rw [h1, h2] at h3; simp [hlt] at h3
    · exact h3
section
variable (self : Task → Option Res) (P : Program) (G : Nat) (ops : Array Oper)
def textRun : List Oper → Array Value → CH → Option (List (Array Value × CH × Value) × Array Value × CH)
  | [], tm, H => some ([], tm, H)
  | o :: r, tm, H =>
    if Region.wanted o (yielded ops tm) then match opX self P G tm H o with
      | some (v, H1) => match textRun r (put tm o.dst v) H1 with
        | some (tr, tm', H') => some ((tm, H, v) :: tr, tm', H')
        | none => none
      | none => none
    else if gk ops tm o then match textRun r (put tm o.dst undef) H with
      | some (tr, tm', H') => some ((tm, H, undef) :: tr, tm', H')
      | none => none
    else none
def effIdx : List Nat := (List.range ops.size).filter fun i => match ops[i]? with
  | some o => kindOf P o.op == 2
  | none => false
def alts (A : List Nat) (i : Nat) : List Nat :=
  (effIdx P ops ++ [ops.size]).filter fun p => !anB A i p && (effIdx P ops).all fun k => !decide (k < p) || !anB A k i
def heapAt (tr : List (Array Value × CH × Value)) (H' : CH) (p : Nat) : CH :=
  match tr[p]? with
  | some (_, H, _) => H
  | none => H'
def sameAs (r : Option (Value × CH)) (v : Value) : Bool :=
  match r with
  | some (v', _) => eqV 6 v' v
  | none => false
def recheck (A : List Nat) (tr : List (Array Value × CH × Value)) (H' : CH) : Bool :=
  (List.range ops.size).all fun i => match ops[i]?, tr[i]? with
    | some o, some (tm, _, v) => kindOf P o.op != 1 || !Region.wanted o (yielded ops tm) || (alts P ops A i).all fun p =>
        sameAs (opX self P G tm (heapAt tr H' p) o) v
    | _, _ => false
def drawX (tm : Array Value) (H : CH) : Option (Array Value × CH) :=
  if P.follows .mixedOrders && ordOk P ops (ancs ops) then match textRun self P G ops ops.toList tm H with
    | some (tr, tm', H') => if recheck self P G ops (ancs ops) tr H' then some (tm', H') else none
    | none => none
  else none
end
structure Stp (sf : Task → Option Res) (P : Program) (G : Nat) (ops : Array Oper) (tmF : Nat → Array Value) (HF : Nat → CH) (vF : Nat → Value) (i : Nat) (o : Oper) : Prop where
  tm : tmF (i + 1) = put (tmF i) o.dst (vF i)
  known : gk ops (tmF i) o = true
  run : (Region.wanted o (yielded ops (tmF i)) = true ∧ opX sf P G (tmF i) (HF i) o = some (vF i, HF (i + 1))) ∨ (Region.wanted o (yielded ops (tmF i)) = false ∧ vF i = undef ∧ HF (i + 1) = HF i)
theorem textRun_spec {self : Task → Option Res} {P : Program} {G : Nat} {ops : Array Oper} : ∀ (l : List Oper) (tm : Array Value) (H : CH) (tr : List (Array Value × CH × Value)) (tm' : Array Value) (H' : CH),
    textRun self P G ops l tm H = some (tr, tm', H') → ∃ (tmF : Nat → Array Value) (HF : Nat → CH) (vF : Nat → Value), tmF 0 = tm ∧ HF 0 = H ∧ tmF l.length = tm' ∧ HF l.length = H' ∧ tr.length = l.length ∧
      ∀ (i : Nat) (o : Oper), l[i]? = some o → tr[i]? = some (tmF i, HF i, vF i) ∧ Stp self P G ops tmF HF vF i o
  | [], tm, H, tr, tm', H', h => by
    cases h
    exact ⟨fun _ => tm, fun _ => H, fun _ => undef, rfl, rfl, rfl, rfl, rfl, fun i o ho => by simp at ho⟩
  | o :: r, tm, H, tr, tm', H', h => by
    simp only [textRun] at h
    have fin : ∀ (v : Value) (H1 : CH), gk ops tm o = true → ((Region.wanted o (yielded ops tm) = true ∧ opX self P G tm H o = some (v, H1)) ∨ (Region.wanted o (yielded ops tm) = false ∧ v = undef ∧ H1 = H)) →
        (match textRun self P G ops r (put tm o.dst v) H1 with
          | some (tr, tm', H') => some ((tm, H, v) :: tr, tm', H')
          | none => none) = some (tr, tm', H') → ∃ (tmF : Nat → Array Value) (HF : Nat → CH) (vF : Nat → Value), tmF 0 = tm ∧ HF 0 = H ∧ tmF (o :: r).length = tm' ∧ HF (o :: r).length = H' ∧ tr.length = (o :: r).length ∧
      ∀ (i : Nat) (o' : Oper), (o :: r)[i]? = some o' → tr[i]? = some (tmF i, HF i, vF i) ∧ Stp self P G ops tmF HF vF i o' := by
      intro v H1 hkn hv hr
      split at hr
      case h_2 => cases hr
      rename_i tr1 tm1 H2 hrun
      cases hr
      obtain ⟨tmF, HF, vF, h1, h2, h3, h4, h5, h6⟩ := textRun_spec r _ _ _ _ _ hrun
      refine ⟨fun | 0 => tm | i + 1 => tmF i, fun | 0 => H | i + 1 => HF i, fun | 0 => v | i + 1 => vF i, rfl, rfl, h3, h4, by simp [h5], fun i o' ho => ?_⟩
      cases i with
      | zero =>
        cases ho
        refine ⟨rfl, ⟨h1, hkn, ?_⟩⟩
        rcases hv with ⟨a, b⟩ | ⟨a, b, c⟩
        · exact .inl ⟨a, by show _ = some (v, HF 0); rw [h2]; exact b⟩
        · exact .inr ⟨a, b, by show HF 0 = H; rw [h2]; exact c⟩
      | succ i =>
        obtain ⟨p, q⟩ := h6 i o' ho
        exact ⟨p, ⟨q.tm, q.known, q.run⟩⟩
    split at h
    · rename_i hw
      split at h
      · rename_i v H1 hop
        exact fin v H1 (wanted_gk hw) (.inl ⟨hw, hop⟩) h
      · cases h
    · rename_i hw
      split at h
      case isFalse => cases h
      rename_i hk
      exact fin undef H hk (.inr ⟨by simpa using hw, rfl, rfl⟩) h
end Go.Ex
/- Engine, part 16: a region whose order is left open ends as the text's order does. -/
noncomputable section
namespace Go.Ex
open Go.RowKit
theorem heap_const {self : Task → Option Res} {P : Program} {G : Nat} {ops : Array Oper} {tmF : Nat → Array Value} {HF : Nat → CH} {vF : Nat → Value} (hst : ∀ i o, ops[i]? = some o → Stp self P G ops tmF HF vF i o)
    (i : Nat) : ∀ (d : Nat), i + d ≤ ops.size → (∀ k o, i ≤ k → k < i + d → ops[k]? = some o → kindOf P o.op ≠ 2) → HF (i + d) = HF i
  | 0, _, _ => rfl
  | d + 1, hd, hk => by
    rw [← Nat.add_assoc]
    have hlt : i + d < ops.size := by omega
    obtain ⟨o, ho⟩ : ∃ o, ops[i + d]? = some o := ⟨_, Array.getElem?_eq_getElem hlt⟩
    have hs := hst (i + d) o ho
    have ih := heap_const hst i d (by omega) (fun k o h1 h2 h3 => hk k o h1 (by omega) h3)
    have hkd : kindOf P o.op ≠ 2 := hk _ o (by omega) (by omega) ho
    rcases hs.run with ⟨_, hr⟩ | ⟨_, _, hr⟩
    · have : kindOf P o.op = 0 ∨ kindOf P o.op = 1 ∨ kindOf P o.op = 2 := by
        have : kindOf P o.op ≤ 2 := kind_le P o.op
        omega
      rcases this with h0 | h1 | h2
      · obtain ⟨r, h⟩ := kind_pure (self := self) (P := P) (G := G) (tm := tmF (i + d)) h0
        rw [h] at hr
        obtain ⟨z, _, hz⟩ := map_some' hr
        rw [← (Prod.mk.inj hz).2, ih]
      · rw [kind_read h1 hr, ih]
      · exact absurd h2 hkd
    · rw [hr, ih]
theorem put_get {tm : Array Value} {dst : Option Tmp} {v : Value} {t : Nat} : (put tm dst v)[t]? = if dst = some t ∧ t < tm.size then some v else tm[t]? := by
  cases dst with
  | none => simp [put]
  | some d =>
    show (⟨setL tm.toList d v⟩ : Array Value)[t]? = _
    rw [setL_eq]
    simp only [Array.toArray_toList, Array.getElem?_setIfInBounds, Option.some.injEq]
    by_cases h : d = t
    · subst h; simp
      split
      · rfl
      · rename_i hh; simp; omega
    · simp [h]
theorem put_size {tm : Array Value} {dst : Option Tmp} {v : Value} : (put tm dst v).size = tm.size := by
  cases dst with
  | none => rfl
  | some d =>
    show (⟨setL tm.toList d v⟩ : Array Value).size = _
    rw [setL_eq]; simp
theorem tm_at {self : Task → Option Res} {P : Program} {G : Nat} {ops : Array Oper} {tmF : Nat → Array Value} {HF : Nat → CH} {vF : Nat → Value} (hst : ∀ i o, ops[i]? = some o → Stp self P G ops tmF HF vF i o) (t : Nat) (ht : t < (tmF 0).size) :
    ∀ (i : Nat), i ≤ ops.size → (tmF i).size = (tmF 0).size ∧ ((∃ k o, k < i ∧ ops[k]? = some o ∧ o.dst = some t ∧ (tmF i)[t]? = some (vF k)) ∨ ((∀ k o, k < i → ops[k]? = some o → o.dst ≠ some t) ∧ (tmF i)[t]? = (tmF 0)[t]?))
  | 0, _ => ⟨rfl, .inr ⟨fun k o hk => by omega, rfl⟩⟩
  | i + 1, hi => by
    have hlt : i < ops.size := by omega
    obtain ⟨o, ho⟩ : ∃ o, ops[i]? = some o := ⟨_, Array.getElem?_eq_getElem hlt⟩
    have hs := hst i o ho
    obtain ⟨hsz, hh⟩ := tm_at hst t ht i (by omega)
    refine ⟨by rw [hs.tm, put_size, hsz], ?_⟩
    rw [hs.tm, put_get]
    by_cases hd : o.dst = some t
    · exact .inl ⟨i, o, by omega, ho, hd, by rw [if_pos ⟨hd, by rw [hsz]; exact ht⟩]⟩
    · rw [if_neg (fun x => hd x.1)]
      rcases hh with ⟨k, ok, h1, h2, h3, h4⟩ | ⟨h1, h2⟩
      · exact .inl ⟨k, ok, by omega, h2, h3, h4⟩
      · refine .inr ⟨fun k ok hk hok => ?_, h2⟩
        by_cases hki : k = i
        · subst hki; rw [ho] at hok; cases hok; exact hd
        · exact h1 k ok (by omega) hok
def inD (listed : Array Bool) (i : Nat) : Prop := listed.getD i false = true
instance (listed : Array Bool) (i : Nat) : Decidable (inD listed i) := inferInstanceAs (Decidable (_ = true))
structure Jv (P : Program) (G : Nat) (ops : Array Oper) (A : List Nat) (tmF : Nat → Array Value) (HF : Nat → CH) (vF : Nat → Value) (w0 : World) (d0 : List Deferred) (E : Env) (listed : Array Bool) (a : Act) (w : World) : Prop where
  size : listed.size = ops.size
  clos : ∀ i j, inD listed i → anB A i j = true → inD listed j
  tsz : a.tmps.size = (tmF 0).size
  done : ∀ k o d, inD listed k → ops[k]? = some o → o.dst = some d → d < (tmF 0).size → ∃ x', a.tmps[d]? = some x' ∧ VR E (vF k) x'
  still : ∀ t x, (tmF 0)[t]? = some x → (∀ k o, inD listed k → ops[k]? = some o → o.dst ≠ some t) → ∃ x', a.tmps[t]? = some x' ∧ VR E x x'
  heap : ∃ p, p ≤ ops.size ∧ (p = ops.size ∨ ∃ o, ops[p]? = some o ∧ kindOf P o.op = 2) ∧ (∀ k o, ops[k]? = some o → kindOf P o.op = 2 → (inD listed k ↔ k < p)) ∧ WR w0 G E (HF p) w
  dfr : a.defers = d0
theorem inD_set {listed : Array Bool} {i j : Nat} (hi : i < listed.size) : inD (listed.setIfInBounds i true) j ↔ j = i ∨ inD listed j := by
  unfold inD
  by_cases h : i = j
  · subst h; simp [hi]
  · rw [getD_set_ne false h]
    constructor
    · exact .inr
    · rintro (h' | h')
      · exact absurd h'.symm h
      · exact h'
theorem inD_lt {listed : Array Bool} {i : Nat} (h : inD listed i) : i < listed.size := by
  unfold inD at h
  rcases Nat.lt_or_ge i listed.size with h' | h'
  · exact h'
  · simp [Array.getElem?_eq_none h'] at h
theorem not_inD {listed : Array Bool} {i : Nat} (h : listed.getD i true = false) : ¬ inD listed i := by
  unfold inD
  intro h'
  rcases Nat.lt_or_ge i listed.size with h2 | h2
  · simp [h2] at h h'; rw [h] at h'; cases h'
  · simp [Array.getElem?_eq_none h2] at h
theorem Act.put_get {a : Act} {dst : Option Tmp} {v : Value} {t : Nat} : (a.put dst v).tmps[t]? = if dst = some t ∧ t < a.tmps.size then some v else a.tmps[t]? := by
  cases dst with
  | none => simp [Act.put]
  | some d =>
    simp only [Act.put, Array.getElem?_setIfInBounds, Option.some.injEq]
    by_cases h : d = t
    · subst h; simp
      split
      · rfl
      · rename_i hh; simp; omega
    · simp [h]
theorem Act.put_size {a : Act} {dst : Option Tmp} {v : Value} : (a.put dst v).tmps.size = a.tmps.size := by cases dst <;> simp [Act.put]
theorem Act.put_dfr {a : Act} {dst : Option Tmp} {v : Value} : (a.put dst v).defers = a.defers := by cases dst <;> rfl
section
variable {self : Task → Option Res} {P : Program} {G : Nat} {ops : Array Oper} {A : List Nat} {tmF : Nat → Array Value} {HF : Nat → CH} {vF : Nat → Value} {w0 : World} {d0 : List Deferred} {E : Env} {listed : Array Bool} {a : Act} {w : World}
theorem agree (hO : Ordered P ops A) (hst : ∀ i o, ops[i]? = some o → Stp self P G ops tmF HF vF i o) (J : Jv P G ops A tmF HF vF w0 d0 E listed a w) {i : Nat} {o : Oper} (ho : ops[i]? = some o)
    (hni : ¬ inD listed i) (hanc : ∀ j, anB A i j = true → inD listed j) {t : Tmp} (ht : t ∈ o.looksAt ops) :
    (∃ x x', (tmF i)[t]? = some x ∧ a.tmps[t]? = some x' ∧ VR E x x') ∨ ((tmF i)[t]? = none ∧ a.tmps[t]? = none) := by
  have hlt : i < ops.size := (Array.getElem?_eq_some_iff.1 ho).1
  have hsz : (tmF i).size = (tmF 0).size := by
    have : ∀ j, j ≤ ops.size → (tmF j).size = (tmF 0).size := by
      intro j
      induction j with
      | zero => intro _; rfl
      | succ j ih =>
        intro hj
        have hj' : j < ops.size := by omega
        rw [(hst j _ (Array.getElem?_eq_getElem hj')).tm, Ex.put_size, ih (by omega)]
    exact this i (by omega)
  by_cases htl : t < (tmF 0).size
  · left
    rcases (tm_at hst t htl i (by omega)).2 with ⟨k, ok, h1, h2, h3, h4⟩ | ⟨h1, h2⟩
    · have hk := hanc k ((hO.looks i k o ok t ho h2 (by omega) h3 ht).1 h1)
      obtain ⟨x', hx', hr⟩ := J.done k ok t hk h2 h3 htl
      exact ⟨_, x', h4, hx', hr⟩
    · obtain ⟨x, hx⟩ : ∃ x, (tmF 0)[t]? = some x := ⟨_, Array.getElem?_eq_getElem htl⟩
      obtain ⟨x', hx', hr⟩ := J.still t x hx fun k ok hk hok hd => by
        rcases Nat.lt_trichotomy k i with hki | hki | hki
        · exact h1 k ok hki hok hd
        · subst hki; exact hni hk
        · exact hni (J.clos k i hk ((hO.looks i k o ok t ho hok (by omega) hd ht).2 hki))
      exact ⟨x, x', by rw [h2]; exact hx, hx', hr⟩
  · right
    exact ⟨Array.getElem?_eq_none (by rw [hsz]; exact Nat.le_of_not_lt htl), Array.getElem?_eq_none (by rw [J.tsz]; exact Nat.le_of_not_lt htl)⟩
theorem agree_ev (hO : Ordered P ops A) (hst : ∀ i o, ops[i]? = some o → Stp self P G ops tmF HF vF i o) (J : Jv P G ops A tmF HF vF w0 d0 E listed a w) {H : CH} (hw : WR w0 G E H w) {i : Nat} {o : Oper} (ho : ops[i]? = some o)
    (hni : ¬ inD listed i) (hanc : ∀ j, anB A i j = true → inD listed j) {x : Operand} (hx : x ∈ o.op.operands) (hok : okOpd G x = true) : VR E (ev (tmF i) x) (a.eval x) := by
  cases x with
  | tmp t =>
    have ht : t ∈ o.looksAt ops := List.mem_append_left _ (List.mem_filterMap.2 ⟨.tmp t, by simpa using hx, rfl⟩)
    show VR E (getL (tmF i).toList t) (a.tmps.getD t undef)
    rw [getL_eq, Array.toArray_toList, Array.getD_eq_getD_getElem?, Array.getD_eq_getD_getElem?]
    rcases agree hO hst J ho hni hanc ht with ⟨x, x', h1, h2, h3⟩ | ⟨h1, h2⟩
    · rw [h1, h2]; exact h3
    · rw [h1, h2]; exact VR.undef E
  | const v => exact VR.of_clean E 6 v hok
  | global g => exact ev_rel (a := { a with tmps := #[] }) (tm := #[]) hw (VRs.nil E) (x := .global g) hok
  | func f => exact .flat rfl
theorem agree_wanted (hO : Ordered P ops A) (hst : ∀ i o, ops[i]? = some o → Stp self P G ops tmF HF vF i o) (J : Jv P G ops A tmF HF vF w0 d0 E listed a w) {i : Nat} {o : Oper} (ho : ops[i]? = some o)
    (hni : ¬ inD listed i) (hanc : ∀ j, anB A i j = true → inD listed j) : Region.wanted o (yielded ops a.tmps) = Region.wanted o (yielded ops (tmF i)) := by
  have hk := (hst i o ho).known
  unfold gk at hk
  unfold Region.wanted
  cases hg : o.guard with
  | none => rfl
  | some gw =>
    obtain ⟨g, want⟩ := gw
    rw [hg] at hk
    dsimp only at hk
    have hy : yielded ops a.tmps g = yielded ops (tmF i) g := by
      unfold yielded
      cases hd : (ops[g]?).bind (·.dst) with
      | none => rfl
      | some d =>
        have ht : d ∈ o.looksAt ops := by simp [Oper.looksAt, hg, hd]
        simp only [Option.bind_some]
        rcases agree hO hst J ho hni hanc ht with ⟨x, x', h1, h2, h3⟩ | ⟨h1, h2⟩
        · rw [hd] at hk
          dsimp only at hk
          rw [Array.getD_eq_getD_getElem?, h1] at hk
          rw [h1, h2]
          cases h3 <;> first | rfl | (cases hk; done)
        · rw [h1, h2]
    simp only [hy]
theorem next_eff (P : Program) (ops : Array Oper) : ∀ (d i : Nat), ops.size - i = d → i ≤ ops.size → ∃ p, i ≤ p ∧ p ≤ ops.size ∧ (p = ops.size ∨ ∃ o, ops[p]? = some o ∧ kindOf P o.op = 2) ∧ ∀ k o, i ≤ k → k < p → ops[k]? = some o → kindOf P o.op ≠ 2
  | 0, i, hd, hi => ⟨i, Nat.le_refl _, hi, .inl (by omega), fun k o h1 h2 => by omega⟩
  | d + 1, i, hd, hi => by
    have hlt : i < ops.size := by omega
    by_cases hk : kindOf P (ops[i]).op = 2
    · exact ⟨i, Nat.le_refl _, hi, .inr ⟨_, Array.getElem?_eq_getElem hlt, hk⟩, fun k o h1 h2 => by omega⟩
    · obtain ⟨p, h1, h2, h3, h4⟩ := next_eff P ops d (i + 1) (by omega) (by omega)
      refine ⟨p, by omega, h2, h3, fun k o h5 h6 h7 => ?_⟩
      by_cases hki : k = i
      · subst hki; rw [Array.getElem?_eq_getElem hlt] at h7; cases h7; exact hk
      · exact h4 k o (by omega) h6 h7
end
end Go.Ex
/- Engine, part 17: a region whose order is left open ends as the text's order does (the induction). -/
noncomputable section
namespace Go.Ex
open Go.RowKit
theorem countP_lt {f g : Nat → Bool} {i : Nat} (hle : ∀ x, g x = true → f x = true) (hf : f i = true) (hg : g i = false) : ∀ (l : List Nat), i ∈ l → l.countP g < l.countP f
  | [], h => by cases h
  | x :: l, h => by
    have hmono : l.countP g ≤ l.countP f := List.countP_mono_left fun y _ hy => hle y hy
    rw [List.countP_cons, List.countP_cons]
    rcases List.mem_cons.1 h with rfl | h
    · rw [hf, hg]; simp; omega
    · have := countP_lt hle hf hg l h
      by_cases hx : g x = true
      · rw [hx, hle x hx]; simp; omega
      · rw [Bool.eq_false_iff.2 hx]; simp; split <;> omega
def un (n : Nat) (listed : Array Bool) : Nat := (List.range n).countP fun i => !listed.getD i false
section
variable {self : Task → Option Res} {P : Program} {G : Nat} {ops : Array Oper} {A : List Nat} {tmF : Nat → Array Value} {HF : Nat → CH} {vF : Nat → Value} {w0 : World} {d0 : List Deferred}
theorem un_set {listed : Array Bool} {i : Nat} (hs : listed.size = ops.size) (hi : i < ops.size) (hn : ¬ inD listed i) : un ops.size (listed.setIfInBounds i true) < un ops.size listed := by
  refine countP_lt (i := i) (fun x hx => ?_) ?_ ?_ _ (List.mem_range.2 hi)
  · by_cases h : i = x
    · subst h; simpa [inD] using hn
    · rw [getD_set_ne false h] at hx; exact hx
  · simpa [inD] using hn
  · have : inD (listed.setIfInBounds i true) i := (inD_set (by omega)).2 (.inl rfl)
    unfold inD at this
    rw [this]; rfl
theorem all_in {listed : Array Bool} (hO : Ordered P ops A) (hs : listed.size = ops.size) (hr : Region.ready .any ops listed = []) : ∀ i, i < ops.size → inD listed i := by
  intro i
  induction i using Nat.strongRecOn with
  | ind i ih =>
    intro hi
    apply Decidable.byContradiction
    intro hn
    have : i ∈ Region.ready .any ops listed := by
      rw [mem_ready]
      refine ⟨?_, ops[i], Array.getElem?_eq_getElem hi, fun e he hb => ?_⟩
      · unfold inD at hn
        have hi' : i < listed.size := by omega
        simp [hi'] at hn ⊢
        exact hn
      · have := hO.back i _ (Array.getElem?_eq_getElem hi) e he hb
        exact ih e.on this (by omega)
    rw [hr] at this
    cases this
theorem sizes (hst : ∀ i o, ops[i]? = some o → Stp self P G ops tmF HF vF i o) : ∀ j, j ≤ ops.size → (tmF j).size = (tmF 0).size
  | 0, _ => rfl
  | j + 1, hj => by
    have hj' : j < ops.size := by omega
    rw [(hst j _ (Array.getElem?_eq_getElem hj')).tm, Ex.put_size, sizes hst j (by omega)]
theorem jv_end (hst : ∀ i o, ops[i]? = some o → Stp self P G ops tmF HF vF i o) {E : Env} {listed : Array Bool} {a : Act} {w : World} (J : Jv P G ops A tmF HF vF w0 d0 E listed a w)
    (hall : ∀ i, i < ops.size → inD listed i) : WR w0 G E (HF ops.size) w ∧ VRs E (tmF ops.size) a.tmps := by
  constructor
  · obtain ⟨p, h1, h2, h3, h4⟩ := J.heap
    rcases h2 with rfl | ⟨o, ho, hk⟩
    · exact h4
    · have hp := (Array.getElem?_eq_some_iff.1 ho).1
      have := (h3 p o ho hk).1 (hall p hp)
      omega
  · have hsz := sizes hst ops.size (Nat.le_refl _)
    refine ⟨by rw [hsz, J.tsz], fun t x x' hx hx' => ?_⟩
    have ht : t < (tmF 0).size := by rw [← hsz]; exact (Array.getElem?_eq_some_iff.1 hx).1
    rcases (tm_at hst t ht ops.size (Nat.le_refl _)).2 with ⟨k, ok, h1, h2, h3, h4⟩ | ⟨h1, h2⟩
    · obtain ⟨y, hy, hr⟩ := J.done k ok t (hall k h1) h2 h3 ht
      rw [h4] at hx; cases hx
      rw [hy] at hx'; cases hx'
      exact hr
    · rw [h2] at hx
      obtain ⟨y, hy, hr⟩ := J.still t x hx fun k ok hk hok => h1 k ok (Array.getElem?_eq_some_iff.1 hok).1 hok
      rw [hy] at hx'; cases hx'
      exact hr
theorem jv_step (hO : Ordered P ops A) {E : Env} {listed : Array Bool} {a : Act} {w : World} (J : Jv P G ops A tmF HF vF w0 d0 E listed a w) {i : Nat} {o : Oper} (ho : ops[i]? = some o) (hni : ¬ inD listed i) (hanc : ∀ j, anB A i j = true → inD listed j)
    {F : Env} {v' : Value} {w' : World} (hv : VR (E ++ F) (vF i) v')
    (hh : ∃ p, p ≤ ops.size ∧ (p = ops.size ∨ ∃ o, ops[p]? = some o ∧ kindOf P o.op = 2) ∧ (∀ k o, ops[k]? = some o → kindOf P o.op = 2 → (k = i ∨ inD listed k ↔ k < p)) ∧ WR w0 G (E ++ F) (HF p) w') :
    Jv P G ops A tmF HF vF w0 d0 (E ++ F) (listed.setIfInBounds i true) (a.put o.dst v') w' := by
  have hlt : i < listed.size := by rw [J.size]; exact (Array.getElem?_eq_some_iff.1 ho).1
  refine ⟨by simp [J.size], ?_, by rw [Act.put_size, J.tsz], ?_, ?_, ?_, by rw [Act.put_dfr, J.dfr]⟩
  · intro x j hx hj
    rw [inD_set hlt] at hx ⊢
    rcases hx with rfl | hx
    · exact .inr (hanc j hj)
    · exact .inr (J.clos x j hx hj)
  · intro k ok d hk hok hd hdl
    rw [inD_set hlt] at hk
    rw [Act.put_get]
    by_cases hki : k = i
    · subst hki
      rw [ho] at hok; cases hok
      exact ⟨v', by rw [if_pos ⟨hd, by rw [J.tsz]; exact hdl⟩], hv⟩
    · rw [if_neg (fun x => hO.one i k o ok d ho hok hki hd x.1)]
      obtain ⟨x', h1, h2⟩ := J.done k ok d (hk.resolve_left hki) hok hd hdl
      exact ⟨x', h1, h2.mono F⟩
  · intro t x hx hnot
    rw [Act.put_get, if_neg (fun y => hnot i o ((inD_set hlt).2 (.inl rfl)) ho y.1)]
    obtain ⟨x', h1, h2⟩ := J.still t x hx fun k ok hk hok => hnot k ok ((inD_set hlt).2 (.inr hk)) hok
    exact ⟨x', h1, h2.mono F⟩
  · obtain ⟨p, h1, h2, h3, h4⟩ := hh
    exact ⟨p, h1, h2, fun k ok hok hk => by rw [inD_set hlt]; exact h3 k ok hok hk, h4⟩
theorem draw_any (hself : SelfSound P G self) (hO : Ordered P ops A) (hst : ∀ i o, ops[i]? = some o → Stp self P G ops tmF HF vF i o)
    (hre : ∀ i o, ops[i]? = some o → kindOf P o.op = 1 → Region.wanted o (yielded ops (tmF i)) = true → ∀ p, p ∈ alts P ops A i → ∃ H', opX self P G (tmF i) (HF p) o = some (vF i, H'))
    {E0 : Env} (ro' : Option Nat) (n : Nat) {Q : Exit → Act → World → Prop}
    (hq : ∀ F a' w', WR w0 G (E0 ++ F) (HF ops.size) w' → VRs (E0 ++ F) (tmF ops.size) a'.tmps → a'.defers = d0 → Q .normal a' w') :
    ∀ (fuel : Nat) (listed : Array Bool) (E : Env) (a : Act) (w : World), (∃ F, E = E0 ++ F) → Jv P G ops A tmF HF vF w0 d0 E listed a w → un ops.size listed ≤ fuel → wpAnyIn (FW ro') n P .any ops Q fuel listed a w := by
  have hend : ∀ (listed : Array Bool) (E : Env) (a : Act) (w : World), (∃ F, E = E0 ++ F) → Jv P G ops A tmF HF vF w0 d0 E listed a w → Region.ready .any ops listed = [] → Q .normal a w := by
    intro listed E a w hF J hr
    obtain ⟨F, rfl⟩ := hF
    obtain ⟨h1, h2⟩ := jv_end hst J (all_in hO J.size hr)
    exact hq F a w h1 h2 J.dfr
  intro fuel
  induction fuel with
  | zero =>
    intro listed E a w hF J hu
    have hr : Region.ready .any ops listed = [] := by
      apply List.eq_nil_iff_forall_not_mem.2
      intro i hi
      rw [mem_ready] at hi
      obtain ⟨h0, o, ho, _⟩ := hi
      have := un_set J.size (Array.getElem?_eq_some_iff.1 ho).1 (not_inD h0)
      omega
    exact ⟨hr, hend listed E a w hF J hr⟩
  | succ fuel ih =>
    intro listed E a w hF J hu
    refine ⟨hend listed E a w hF J, fun i hi => ?_⟩
    obtain ⟨h0, o, ho, hedges⟩ := mem_ready.1 hi
    have hlt : i < ops.size := (Array.getElem?_eq_some_iff.1 ho).1
    have hni := not_inD h0
    have hanc : ∀ j, anB A i j = true → inD listed j := by
      intro j hj
      obtain ⟨e, he, hb, h | h⟩ := hO.anc i o j ho hj
      · subst h; exact hedges e he hb
      · exact J.clos e.on j (hedges e he hb) h
    have hun : un ops.size (listed.setIfInBounds i true) ≤ fuel := by
      have := un_set J.size hlt hni
      omega
    have hs := hst i o ho
    obtain ⟨p, hp1, hp2, hp3, hw⟩ := J.heap
    have key : ∃ H1, (Region.wanted o (yielded ops (tmF i)) = true → opX self P G (tmF i) (HF p) o = some (vF i, H1)) ∧ (Region.wanted o (yielded ops (tmF i)) = false → H1 = HF p) ∧
        ∃ p', p' ≤ ops.size ∧ (p' = ops.size ∨ ∃ o, ops[p']? = some o ∧ kindOf P o.op = 2) ∧ (∀ k o, ops[k]? = some o → kindOf P o.op = 2 → (k = i ∨ inD listed k ↔ k < p')) ∧ H1 = HF p' := by
      by_cases hk : kindOf P o.op = 2
      · have hpi : p = i := by
          have h1 : ¬ i < p := fun h => hni ((hp3 i o ho hk).2 h)
          apply Decidable.byContradiction
          intro hne
          have hlt' : p < i := by omega
          rcases hp2 with rfl | ⟨op, hop, hkp⟩
          · omega
          · have := (hp3 p op hop hkp).1 (hanc p (hO.effs i p o op ho hop hlt' hk hkp))
            omega
        subst hpi
        obtain ⟨p', h1, h2, h3, h4⟩ := next_eff P ops _ (p + 1) rfl (by omega)
        have hH : HF p' = HF (p + 1) := by
          have := heap_const hst (p + 1) (p' - (p + 1)) (by omega) (fun k ok a1 a2 a3 => h4 k ok a1 (by omega) a3)
          rwa [show p + 1 + (p' - (p + 1)) = p' from by omega] at this
        refine ⟨HF p', ?_, ?_, p', h2, h3, ?_, rfl⟩
        · intro hwant
          rcases hs.run with ⟨_, hr⟩ | ⟨hr, _⟩
          · rw [hH]; exact hr
          · rw [hwant] at hr; cases hr
        · intro hwant
          rcases hs.run with ⟨hr, _⟩ | ⟨_, _, hr⟩
          · rw [hwant] at hr; cases hr
          · rw [hH, hr]
        · intro k ok hok hkk
          rw [hp3 k ok hok hkk]
          constructor
          · intro h; omega
          · intro h
            apply Decidable.byContradiction
            intro hne
            exact h4 k ok (by omega) h hok hkk
      · refine ⟨HF p, ?_, fun _ => rfl, p, hp1, hp2, ?_, rfl⟩
        · intro hwant
          have h01 : kindOf P o.op = 0 ∨ kindOf P o.op = 1 := by
            have : kindOf P o.op ≤ 2 := kind_le P o.op
            omega
          have hrun : opX self P G (tmF i) (HF i) o = some (vF i, HF (i + 1)) := by
            rcases hs.run with ⟨_, hr⟩ | ⟨hr, _⟩
            · exact hr
            · rw [hwant] at hr; cases hr
          rcases h01 with hk0 | hk1
          · obtain ⟨r, hr⟩ := kind_pure (self := self) (P := P) (G := G) (tm := tmF i) hk0
            rw [hr] at hrun
            obtain ⟨z, hz, hz2⟩ := map_some' hrun
            rw [hr, hz, ← (Prod.mk.inj hz2).1]; rfl
          · have halt : p ∈ alts P ops A i := by
              unfold alts
              rw [List.mem_filter]
              refine ⟨?_, ?_⟩
              · rcases hp2 with h | ⟨op, hop, hkp⟩
                · rw [h]; simp
                · refine List.mem_append_left _ ?_
                  unfold effIdx
                  rw [List.mem_filter]
                  exact ⟨List.mem_range.2 (Array.getElem?_eq_some_iff.1 hop).1, by rw [hop]; simpa using hkp⟩
              · rw [Bool.and_eq_true]
                constructor
                · rw [Bool.not_eq_true']
                  apply Bool.eq_false_iff.2
                  intro hb
                  have hD := hanc p hb
                  rcases hp2 with h | ⟨op, hop, hkp⟩
                  · have := inD_lt hD; rw [J.size] at this; omega
                  · have := (hp3 p op hop hkp).1 hD; omega
                · rw [List.all_eq_true]
                  intro k hk'
                  unfold effIdx at hk'
                  rw [List.mem_filter] at hk'
                  obtain ⟨hkr, hkk⟩ := hk'
                  have hkl := List.mem_range.1 hkr
                  rw [Array.getElem?_eq_getElem hkl] at hkk
                  rw [Bool.or_eq_true]
                  by_cases hkp : k < p
                  · right
                    rw [Bool.not_eq_true']
                    apply Bool.eq_false_iff.2
                    intro hb
                    exact hni (J.clos k i ((hp3 k _ (Array.getElem?_eq_getElem hkl) (by simpa using hkk)).2 hkp) hb)
                  · left; simp [hkp]
            obtain ⟨H', hH⟩ := hre i o ho hk1 hwant p halt
            rw [hH, kind_read hk1 hH]
        · intro k ok hok hkk
          rw [← hp3 k ok hok hkk]
          constructor
          · rintro (h | h)
            · subst h; rw [ho] at hok; cases hok; exact absurd hkk hk
            · exact h
          · exact .inr
    obtain ⟨H1, hrun, hskip, p', hq1, hq2, hq3, hq4⟩ := key
    have next : ∀ (F : Env) (v' : Value) (w' : World), WR w0 G (E ++ F) H1 w' → VR (E ++ F) (vF i) v' → wpAnyIn (FW ro') n P .any ops Q fuel (listed.setIfInBounds i true) (a.put o.dst v') w' := by
      intro F v' w' h1 h2
      refine ih _ (E ++ F) _ _ ?_ (jv_step hO J ho hni hanc h2 ⟨p', hq1, hq2, hq3, hq4 ▸ h1⟩) hun
      obtain ⟨F0, rfl⟩ := hF
      exact ⟨F0 ++ F, by simp⟩
    unfold wpOpIn
    rw [ho]
    dsimp only
    rw [agree_wanted hO hst J ho hni hanc]
    split
    · rename_i hwant
      exact opX_soundρ hself (hrun hwant) ro' n hw (fun x hx hok => agree_ev hO hst J hw ho hni hanc hx hok) next
    · rename_i hwant
      refine ⟨fun _ _ => trivial, ?_⟩
      have hv : vF i = undef := by
        rcases hs.run with ⟨hr, _⟩ | ⟨_, hr, _⟩
        · exact absurd hr hwant
        · exact hr
      exact next [] undef w (by rw [hskip (by simpa using hwant)]; simpa using hw) (by rw [hv]; exact .undef _)
end
theorem drawX_sound {self : Task → Option Res} {P : Program} {G : Nat} (hself : SelfSound P G self) : DrawSound P G (drawX self P G) := by
  intro ops tm tm' H H' h w0 E a w ro' n id Q hw ht hq
  unfold drawX at h
  split at h
  case isFalse => cases h
  rename_i hm
  rw [Bool.and_eq_true] at hm
  split at h
  case h_2 => cases h
  rename_i tr tm1 H1 hrun
  split at h
  case isFalse => cases h
  rename_i hre
  cases h
  have hO := ordOk_spec hm.2
  obtain ⟨tmF, HF, vF, e1, e2, e3, e4, e5, e6⟩ := textRun_spec _ _ _ _ _ _ hrun
  rw [Array.length_toList] at e3 e4
  have hst : ∀ i o, ops[i]? = some o → tr[i]? = some (tmF i, HF i, vF i) ∧ Stp self P G ops tmF HF vF i o := fun i o ho => e6 i o (by simpa using ho)
  have hat : ∀ p, p ≤ ops.size → heapAt tr H' p = HF p := by
    intro p hp
    unfold heapAt
    rcases Nat.lt_or_ge p ops.size with hl | hl
    · rw [(hst p _ (Array.getElem?_eq_getElem hl)).1]
    · have : p = ops.size := by omega
      subst this
      rw [List.getElem?_eq_none (by have := e5; simp at this; omega), e4]
  refine wpIn_region_any hm.1 ?_
  refine draw_any (A := ancs ops) (tmF := tmF) (HF := HF) (vF := vF) (d0 := a.defers) (w0 := w0) (E0 := E) hself hO (fun i o ho => (hst i o ho).2) ?_ ro' n ?_ _ _ E a _ ⟨[], by simp⟩ ?_ ?_
  · intro i o ho hk hwant p hp
    have hlt : i < ops.size := (Array.getElem?_eq_some_iff.1 ho).1
    have hr := List.all_eq_true.1 hre i (List.mem_range.2 hlt)
    rw [ho, (hst i o ho).1] at hr
    dsimp only at hr
    rw [hk, hwant] at hr
    have hr2 : ((alts P ops (ancs ops) i).all fun p => sameAs (opX self P G (tmF i) (heapAt tr H' p) o) (vF i)) = true := by simpa using hr
    have hr3 := List.all_eq_true.1 hr2 p hp
    have hple : p ≤ ops.size := by
      unfold alts at hp
      rw [List.mem_filter] at hp
      rcases List.mem_append.1 hp.1 with h | h
      · unfold effIdx at h
        rw [List.mem_filter] at h
        exact Nat.le_of_lt (List.mem_range.1 h.1)
      · simp at h; omega
    rw [hat p hple] at hr3
    unfold sameAs at hr3
    split at hr3
    · rename_i v' H2 hop
      rw [eqV_sound 6 _ _ hr3] at hop
      exact ⟨H2, hop⟩
    · cases hr3
  · intro F a' w' h1 h2 h3
    rw [e4] at h1
    rw [e3] at h2
    exact hq F a' w' h1 h2 h3
  · have hno : ∀ i, ¬ inD (Array.replicate ops.size false) i := by
      intro i hi
      unfold inD at hi
      have := inD_lt (listed := Array.replicate ops.size false) hi
      simp at this
      simp [this] at hi
    obtain ⟨p, h1, h2, h3, h4⟩ := next_eff P ops _ 0 rfl (Nat.zero_le _)
    refine ⟨by simp, fun i j hi => absurd hi (hno i), by rw [e1]; exact ht.size.symm, fun k o d hk => absurd hk (hno k), ?_, ⟨p, h2, h3, ?_, ?_⟩, rfl⟩
    · intro t x hx _
      rw [e1] at hx
      exact ht.get hx
    · intro k o hok hk
      constructor
      · intro hd; exact absurd hd (hno k)
      · intro hkp; exact absurd hk (h4 k o (Nat.zero_le _) hkp hok)
    · have : HF p = HF 0 := by
        have := heap_const (fun i o ho => (hst i o ho).2) 0 p (by omega) (fun k ok a1 a2 a3 => h4 k ok a1 (by omega) a3)
        rwa [Nat.zero_add] at this
      rw [this, e2]
      exact hw.draws _
  · unfold un
    have : ((List.range ops.size).countP fun i => !(Array.replicate ops.size false).getD i false) ≤ (List.range ops.size).length := List.countP_le_length
    simpa using this
end Go.Ex
