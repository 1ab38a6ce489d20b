/- Part of the proof. -/
import Derived.Test.YteemponkignnhaaGreatEngTop
noncomputable section
namespace Go.Ex
open Go.RowKit
def wrapF (k : IntKind) (n : Int) : Int :=
  match k, n with
  | .i64, .ofNat m => cond (Nat.ble m 9223372036854775807) (.ofNat m) (IntKind.wrap .i64 (.ofNat m))
  | k, n => IntKind.wrap k n
theorem wrapF_eq (k : IntKind) (n : Int) : wrapF k n = k.wrap n := by
  unfold wrapF
  split
  · rename_i m
    cases h : Nat.ble m 9223372036854775807 with
    | false => rfl
    | true =>
      have := Nat.le_of_ble_eq_true h
      show Int.ofNat m = IntKind.wrap .i64 (Int.ofNat m)
      rw [IntKind.wrap_i64]
      simp only [Int.ofNat_eq_natCast]
      omega
  · rfl
def ltF (a b : Int) : Bool :=
  match a, b with
  | .ofNat m, .ofNat n => Nat.blt m n
  | a, b => decide (a < b)
theorem ltF_eq (a b : Int) : ltF a b = decide (a < b) := by
  unfold ltF
  split
  · rename_i m n
    rw [Bool.eq_iff_iff, decide_eq_true_eq]
    show Nat.ble (m + 1) n = true ↔ (m : Int) < (n : Int)
    rw [Nat.ble_eq]; omega
  · rfl
def leF (a b : Int) : Bool :=
  match a, b with
  | .ofNat m, .ofNat n => Nat.ble m n
  | a, b => decide (a ≤ b)
theorem leF_eq (a b : Int) : leF a b = decide (a ≤ b) := by
  unfold leF
  split
  · rename_i m n
    rw [Bool.eq_iff_iff, decide_eq_true_eq, Nat.ble_eq]
    show m ≤ n ↔ (m : Int) ≤ (n : Int)
    omega
  · rfl
def eqF (a b : Int) : Bool :=
  match a, b with
  | .ofNat m, .ofNat n => Nat.beq m n
  | a, b => a == b
theorem eqF_eq (a b : Int) : eqF a b = (a == b) := by
  unfold eqF
  split
  · rename_i m n
    rw [Bool.eq_iff_iff, Nat.beq_eq, beq_iff_eq]
    exact ⟨fun h => by rw [h], fun h => by injection h⟩
  · rfl
def intF (op : BinOp) (k : IntKind) (a b : Int) : Option Value :=
  match op with
  | .add => some (.int k (wrapF k (a + b)))
  | .sub => some (.int k (wrapF k (a - b)))
  | .mul => some (.int k (wrapF k (a * b)))
  | .eql => some (.bool (eqF a b))
  | .neq => some (.bool (!eqF a b))
  | .lss => some (.bool (ltF a b))
  | .leq => some (.bool (leF a b))
  | .gtr => some (.bool (ltF b a))
  | .geq => some (.bool (leF b a))
  | _ => none
def sameKind (k l : IntKind) : Bool := decide (k = l)
def binF (op : BinOp) (x y : Value) : Option Value :=
  match x with
  | .int k a => match y with
    | .int l b => cond (sameKind k l) (intF op k a b) none
    | _ => none
  | _ => none
theorem binF_eq {P : Program} {ρ : Operand → Value} {dst : Option Tmp} {op : BinOp} {t ty2 type : TypeId} {x y : Operand} {pos : String} {after : Array Edge} {guard : Option (Nat × Bool)} {v : Value}
    (h : binF op (ρ x) (ρ y) = some v) : pureS P ρ ⟨dst, .binOp op t x y ty2, type, pos, after, guard⟩ = some v := by
  unfold binF at h
  split at h
  case h_2 => cases h
  rename_i k a hx
  split at h
  case h_2 => cases h
  rename_i l b hy
  cases hk : sameKind k l with
  | false => rw [hk] at h; cases h
  | true =>
    rw [hk] at h
    have hkl : k = l := of_decide_eq_true hk
    subst hkl
    have hc : ([x, y].all fun x => clean 6 (ρ x)) = true := by simp [hx, hy, clean]
    have key : evalPure P (execOp ρ ⟨dst, .binOp op t x y ty2, type, pos, after, guard⟩) = some (.value v) → clean 6 v = true → pureS P ρ ⟨dst, .binOp op t x y ty2, type, pos, after, guard⟩ = some v := by
      intro h1 h2
      unfold pureS
      show (if ([x, y].all fun x => clean 6 (ρ x)) = true then match evalPure P (execOp ρ ⟨dst, .binOp op t x y ty2, type, pos, after, guard⟩) with
        | some (.value v) => if clean 6 v then some v else none
        | _ => none else none) = some v
      rw [if_pos hc, h1]
      simp [h2]
    have hr : ∀ u, evalPure P (do eqGuard op t x y (.int k a) (.int k b); binOp op t (.int k a) (.int k b)) = some u → evalPure P (execOp ρ ⟨dst, .binOp op t x y ty2, type, pos, after, guard⟩) = some (.value u) := by
      intro u hu
      have bind_some : ∀ {α β : Type} (s : Sem α) (f : α → β) (u : α), evalPure P s = some u → evalPure P (do pure (f (← s))) = some (f u) := by
        intro α β s f u hs
        induction s with
        | pure x => cases hs; rfl
        | program k ih => exact ih P hs
        | mark m k ih => exact ih hs
        | choose q k ih =>
          simp only [evalPure] at hs
          split at hs
          · rename_i hq
            show (if q.forced then evalPure P ((k 0).bind _) else none) = _
            rw [if_pos hq]
            exact ih 0 hs
          · cases hs
        | _ => cases hs
      have hu' := hu
      rw [← hx, ← hy] at hu'
      exact bind_some (do eqGuard op t x y (ρ x) (ρ y); binOp op t (ρ x) (ρ y)) Next.value u hu'
    cases op <;> first
      | (cases h; done)
      | skip
    all_goals
      simp only [cond, intF, wrapF_eq, eqF_eq, ltF_eq, leF_eq, Option.some.injEq] at h
      subst h
      refine key (hr _ ?_) rfl
      cases k <;> rfl
def divF (op : BinOp) (k : IntKind) (a b : Int) : Option (Bool × Value) :=
  match op with
  | .quo => some (!eqF b 0, .int k (wrapF k (a.tdiv b)))
  | .rem => some (!eqF b 0, .int k (a.tmod b))
  | _ => none
theorem divF_eq {P : Program} {ρ : Operand → Value} {dst : Option Tmp} {op : BinOp} {t ty2 type : TypeId} {x y : Operand} {pos : String} {after : Array Edge} {guard : Option (Nat × Bool)} {v : Value} {k : IntKind} {a b : Int}
    (hx : ρ x = .int k a) (hy : ρ y = .int k b) (h : divF op k a b = some (true, v)) : pureS P ρ ⟨dst, .binOp op t x y ty2, type, pos, after, guard⟩ = some v := by
  have hc : ([x, y].all fun x => clean 6 (ρ x)) = true := by simp [hx, hy, clean]
  have key : evalPure P (execOp ρ ⟨dst, .binOp op t x y ty2, type, pos, after, guard⟩) = some (.value v) → clean 6 v = true → pureS P ρ ⟨dst, .binOp op t x y ty2, type, pos, after, guard⟩ = some v := by
    intro h1 h2
    unfold pureS
    show (if ([x, y].all fun x => clean 6 (ρ x)) = true then match evalPure P (execOp ρ ⟨dst, .binOp op t x y ty2, type, pos, after, guard⟩) with
      | some (.value v) => if clean 6 v then some v else none
      | _ => none else none) = some v
    rw [if_pos hc, h1]
    simp [h2]
  have hr : ∀ u, evalPure P (do eqGuard op t x y (.int k a) (.int k b); binOp op t (.int k a) (.int k b)) = some u → evalPure P (execOp ρ ⟨dst, .binOp op t x y ty2, type, pos, after, guard⟩) = some (.value u) := by
    intro u hu
    have bind_some : ∀ {α β : Type} (s : Sem α) (f : α → β) (u : α), evalPure P s = some u → evalPure P (do pure (f (← s))) = some (f u) := by
      intro α β s f u hs
      induction s with
      | pure x => cases hs; rfl
      | program k ih => exact ih P hs
      | mark m k ih => exact ih hs
      | choose q k ih =>
        simp only [evalPure] at hs
        split at hs
        · rename_i hq
          show (if q.forced then evalPure P ((k 0).bind _) else none) = _
          rw [if_pos hq]
          exact ih 0 hs
        · cases hs
      | _ => cases hs
    have hu' := hu
    rw [← hx, ← hy] at hu'
    exact bind_some (do eqGuard op t x y (ρ x) (ρ y); binOp op t (ρ x) (ρ y)) Next.value u hu'
  cases op <;> first
    | (cases h; done)
    | skip
  all_goals
    simp only [divF, Option.some.injEq, Prod.mk.injEq, eqF_eq, wrapF_eq, Bool.not_eq_true', beq_eq_false_iff_ne, ne_eq] at h
    obtain ⟨hb, rfl⟩ := h
    refine key (hr _ ?_) rfl
  · have hd : evalPure P (Op.intDiv .quo k a b) = some (.int k (k.wrap (a.tdiv b))) := by
      unfold Op.intDiv
      rw [if_neg hb]
      rfl
    cases k <;> exact hd
  · have hd : evalPure P (Op.intDiv .rem k a b) = some (.int k (a.tmod b)) := by
      unfold Op.intDiv
      rw [if_neg hb]
      rfl
    cases k <;> exact hd
section
variable (self : Task → Option Res) (P : Program) (G : Nat)
def moveF (tm : Array Value) (H : CH) (x : Operand) : Option (Value × CH) := cond (okOpd G x) (some (ev tm x, H)) none
def pickF (tm : Array Value) (H : CH) (c a b : Operand) : Option (Value × CH) :=
  cond (okOpd G c && (okOpd G a && okOpd G b)) (match ev tm c with
    | .bool t => some (cond t (ev tm a) (ev tm b), H)
    | _ => none) none
def slowF (tm : Array Value) (H : CH) (o : Oper) : Option (Value × CH) := opX self P G tm H o
def binOpF (tm : Array Value) (H : CH) (o : Oper) (op : BinOp) (x y : Operand) : Option (Value × CH) :=
  match binF op (ev tm x) (ev tm y) with
  | some v => cond (okOpd G x && okOpd G y) (some (v, H)) none
  | none => slowF self P G tm H o
def loadAtF (H : CH) (t : TypeId) (v : Value) : Option (Value × CH) :=
  match v with
  | .pointer (some ⟨b, off, none⟩) => (loadS P H t b off).map (·, H)
  | _ => none
def loadF (tm : Array Value) (H : CH) (t : TypeId) (x : Operand) : Option (Value × CH) := cond (okOpd G x) (loadAtF P H t (ev tm x)) none
def fieldAddrF (tm : Array Value) (H : CH) (t : TypeId) (x : Operand) (f : Nat) : Option (Value × CH) := cond (okOpd G x) ((fieldAtS P t (ev tm x) f).map (·, H)) none
def indexAddrF (tm : Array Value) (H : CH) (t : TypeId) (x i : Operand) : Option (Value × CH) :=
  cond (okOpd G x && okOpd G i) (match ev tm i with
    | .int _ n => (indexAtS P t (ev tm x) n).map (·, H)
    | _ => none) none
def extractF (tm : Array Value) (H : CH) (x : Operand) (i : Nat) : Option (Value × CH) :=
  cond (okOpd G x) (match ev tm x with
    | .tuple vs => vs[i]?.map (·, H)
    | _ => none) none
def valOf (r : Option Res) : Option (Value × CH) :=
  match r with
  | some (.val v H') => some (v, H')
  | _ => none
def callFnF (tm : Array Value) (H : CH) (o : Oper) (g : FuncId) (first cap : Array Value) (args : Array Operand) (fn : Func) : Option (Value × CH) :=
  match fn.body with
  | none => slowF self P G tm H o
  | some _ => cond (fn.name == "runtime.NumGoroutine") none (cond (args.toList.all (okOpd G)) (valOf (self (.call g ⟨first.toList ++ ((args.toList.map (ev tm)) ++ cap.toList)⟩ H))) none)
def callF (tm : Array Value) (H : CH) (o : Oper) (f : Operand) (args : Array Operand) : Option (Value × CH) :=
  cond (okOpd G f) (match ev tm f with
    | .func (.func g) first cap => match P.funcs[g]? with
      | some fn => callFnF self P G tm H o g first cap args fn
      | none => none
    | _ => slowF self P G tm H o) none
def opF (tm : Array Value) (H : CH) (o : Oper) : Option (Value × CH) :=
  match o.op with
  | .move x => moveF G tm H x
  | .assign x => moveF G tm H x
  | .pick c a b => pickF G tm H c a b
  | .binOp op _ x y _ => binOpF self P G tm H o op x y
  | .load t x => loadF P G tm H t x
  | .fieldAddr t x f => fieldAddrF P G tm H t x f
  | .indexAddr t x i => indexAddrF P G tm H t x i
  | .extract x i => extractF G tm H x i
  | .call { callee := .value f, args, argTypes := _ } => callF self P G tm H o f args
  | _ => slowF self P G tm H o
theorem opX_all {tm : Array Value} {H : CH} {o : Oper} (h : ¬ (o.op.operands.toList.all (okOpd G)) = true) : opX self P G tm H o = none := by
  unfold opX; rw [if_neg h]
theorem opX_ok {tm : Array Value} {H : CH} {o : Oper} (h : (o.op.operands.toList.all (okOpd G)) = true) (h1 : ∀ c, o.op ≠ .defer c) (h2 : ∀ c, o.op ≠ .call c) : opX self P G tm H o = opS P G H (ev tm) o := by
  unfold opX; rw [if_pos h]
  split
  · rename_i c hc; exact absurd hc (h1 c)
  · rename_i f args ts hc; exact absurd hc (h2 _)
  · rfl
theorem cond_eq {α : Type} (b : Bool) (x y : α) : cond b x y = if b = true then x else y := by cases b <;> rfl
theorem opF_eq (tm : Array Value) (H : CH) (o : Oper) : opF self P G tm H o = opX self P G tm H o := by
  obtain ⟨dst, op, type, pos, after, guard⟩ := o
  have one : ∀ (x : Operand) (r : Option (Value × CH)), op.operands = #[x] → (∀ c, op ≠ .defer c) → (∀ c, op ≠ .call c) → opS P G H (ev tm) ⟨dst, op, type, pos, after, guard⟩ = r → cond (okOpd G x) r none = opX self P G tm H ⟨dst, op, type, pos, after, guard⟩ := by
    intro x r ho h1 h2 hr
    cases hx : okOpd G x with
    | true => rw [opX_ok self P G (by simp [ho, hx]) h1 h2, hr]; rfl
    | false => rw [opX_all self P G (by simp [ho, hx])]; rfl
  have two : ∀ (x y : Operand) (r : Option (Value × CH)), op.operands = #[x, y] → (∀ c, op ≠ .defer c) → (∀ c, op ≠ .call c) → opS P G H (ev tm) ⟨dst, op, type, pos, after, guard⟩ = r → cond (okOpd G x && okOpd G y) r none = opX self P G tm H ⟨dst, op, type, pos, after, guard⟩ := by
    intro x y r ho h1 h2 hr
    cases hx : okOpd G x && okOpd G y with
    | true => rw [opX_ok self P G (by simpa [ho] using hx) h1 h2, hr]; rfl
    | false => rw [opX_all self P G (by rw [ho]; simpa using hx)]; rfl
  cases op <;> first
    | rfl
    | skip
  case move x => exact one x _ rfl (fun _ h => by cases h) (fun _ h => by cases h) rfl
  case assign x => exact one x _ rfl (fun _ h => by cases h) (fun _ h => by cases h) rfl
  case load t x => exact one x _ rfl (fun _ h => by cases h) (fun _ h => by cases h) rfl
  case fieldAddr t x f => exact one x _ rfl (fun _ h => by cases h) (fun _ h => by cases h) rfl
  case extract x i => exact one x _ rfl (fun _ h => by cases h) (fun _ h => by cases h) rfl
  case indexAddr t x i => exact two x i _ rfl (fun _ h => by cases h) (fun _ h => by cases h) rfl
  case pick c a b =>
    show pickF G tm H c a b = _
    unfold pickF
    cases hx : okOpd G c && (okOpd G a && okOpd G b) with
    | true =>
      rw [opX_ok self P G (by simpa [Op.operands] using hx) (fun _ h => by cases h) (fun _ h => by cases h)]
      simp only [opS, cond]
      generalize ev tm c = y
      cases y with
      | bool t => cases t <;> rfl
      | _ => rfl
    | false => rw [opX_all self P G (by simpa [Op.operands] using hx)]; rfl
  case binOp op t x y ty2 =>
    show binOpF self P G tm H _ op x y = _
    unfold binOpF
    cases hb : binF op (ev tm x) (ev tm y) with
    | none => rfl
    | some v =>
      refine two x y _ rfl (fun _ h => by cases h) (fun _ h => by cases h) ?_
      have := binF_eq (P := P) (dst := dst) (t := t) (ty2 := ty2) (type := type) (pos := pos) (after := after) (guard := guard) hb
      have hag : aggEq P op t (ev tm x) (ev tm y) = none := by
        unfold binF at hb
        split at hb
        · rename_i h1; rw [h1]; rfl
        · cases hb
      simp only [opS, this, hag]
  case call c =>
    obtain ⟨callee, args, ts⟩ := c
    cases callee with
    | value f =>
      show callF self P G tm H _ f args = _
      unfold callF
      cases hf : okOpd G f with
      | false => rw [opX_all self P G (by simp [Op.operands, Call.operands, hf])]; rfl
      | true =>
        show (match ev tm f with
          | .func (.func g) first cap => match P.funcs[g]? with
            | some fn => callFnF self P G tm H _ g first cap args fn
            | none => none
          | _ => slowF self P G tm H _) = _
        split
        · rename_i g first cap hev
          cases hfn : P.funcs[g]? with
          | none =>
            by_cases hall : ((Op.call { callee := .value f, args := args, argTypes := ts }).operands.toList.all (okOpd G)) = true
            · unfold opX
              rw [if_pos hall]
              simp only [hev, hfn]
            · rw [opX_all self P G hall]
          | some fn =>
            dsimp only
            unfold callFnF
            cases hb : fn.body with
            | none => rfl
            | some c =>
              dsimp only
              cases hn : (fn.name == "runtime.NumGoroutine") with
              | true =>
                by_cases hall : ((Op.call { callee := .value f, args := args, argTypes := ts }).operands.toList.all (okOpd G)) = true
                · unfold opX
                  rw [if_pos hall]
                  simp only [hev, hfn, hn, if_true]
                  rfl
                · rw [opX_all self P G hall]; rfl
              | false =>
                cases ha : args.toList.all (okOpd G) with
                | false => rw [opX_all self P G (by simp only [Op.operands, Call.operands, Array.toList_append, List.all_append, ha]; simp)]; rfl
                | true =>
                  unfold opX
                  rw [if_pos (by simp only [Op.operands, Call.operands, Array.toList_append, List.all_append, ha]; simp [hf])]
                  simp only [hev, hfn, hn, hb, Option.isNone, Bool.false_eq_true, if_false]
                  have : (⟨first.toList ++ ((args.toList.map (ev tm)) ++ cap.toList)⟩ : Array Value) = first ++ args.map (ev tm) ++ cap := by
                    apply Array.toList_inj.1
                    simp
                  rw [this]
                  rfl
        · rfl
    | invoke r m => rfl
    | builtin b => rfl
end
end Go.Ex
