import Derived.Test.YtbocpikgochioaaGreatDoorEngTop
/- Engine, part 19: the same executor, in small pieces that the kernel runs quickly. -/
noncomputable section
namespace Go.Ex
open Go.RowKit

/-! ### integers -/
def wrapF (k : IntKind) (n : Int) : Int :=
  match k, n with
  | .i64, .ofNat m => cond (Nat.ble m 9223372036854775807) (.ofNat m) (IntKind.wrap .i64 (.ofNat m))
  | k, n => IntKind.wrap k n
theorem wrapF_eq (k : IntKind) (n : Int) : wrapF k n = k.wrap n := by
  unfold wrapF
  split
  · rename_i m
    cases h : Nat.ble m 9223372036854775807 with
    | false => rfl
    | true =>
      have := Nat.le_of_ble_eq_true h
      show Int.ofNat m = IntKind.wrap .i64 (Int.ofNat m)
      rw [IntKind.wrap_i64]
      simp only [Int.ofNat_eq_natCast]
      omega
  · rfl
def ltF (a b : Int) : Bool :=
  match a, b with
  | .ofNat m, .ofNat n => Nat.blt m n
  | a, b => decide (a < b)
theorem ltF_eq (a b : Int) : ltF a b = decide (a < b) := by
  unfold ltF
  split
  · rename_i m n
    rw [Bool.eq_iff_iff, decide_eq_true_eq]
    show Nat.ble (m + 1) n = true ↔ (m : Int) < (n : Int)
    rw [Nat.ble_eq]; omega
  · rfl
def leF (a b : Int) : Bool :=
  match a, b with
  | .ofNat m, .ofNat n => Nat.ble m n
  | a, b => decide (a ≤ b)
theorem leF_eq (a b : Int) : leF a b = decide (a ≤ b) := by
  unfold leF
  split
  · rename_i m n
    rw [Bool.eq_iff_iff, decide_eq_true_eq, Nat.ble_eq]
    show m ≤ n ↔ (m : Int) ≤ (n : Int)
    omega
  · rfl
def eqF (a b : Int) : Bool :=
  match a, b with
  | .ofNat m, .ofNat n => Nat.beq m n
  | a, b => a == b
theorem eqF_eq (a b : Int) : eqF a b = (a == b) := by
  unfold eqF
  split
  · rename_i m n
    rw [Bool.eq_iff_iff, Nat.beq_eq, beq_iff_eq]
    exact ⟨fun h => by rw [h], fun h => by injection h⟩
  · rfl
def intF (op : BinOp) (k : IntKind) (a b : Int) : Option Value :=
  match op with
  | .add => some (.int k (wrapF k (a + b)))
  | .sub => some (.int k (wrapF k (a - b)))
  | .mul => some (.int k (wrapF k (a * b)))
  | .eql => some (.bool (eqF a b))
  | .neq => some (.bool (!eqF a b))
  | .lss => some (.bool (ltF a b))
  | .leq => some (.bool (leF a b))
  | .gtr => some (.bool (ltF b a))
  | .geq => some (.bool (leF b a))
  | _ => none
def sameKind (k l : IntKind) : Bool := decide (k = l)
def binF (op : BinOp) (x y : Value) : Option Value :=
  match x with
  | .int k a => match y with
    | .int l b => cond (sameKind k l) (intF op k a b) none
    | _ => none
  | _ => none
theorem binF_eq {P : Program} {ρ : Operand → Value} {dst : Option Tmp} {op : BinOp} {t ty2 type : TypeId} {x y : Operand} {pos : String} {after : Array Edge} {guard : Option (Nat × Bool)} {v : Value}
    (h : binF op (ρ x) (ρ y) = some v) : pureS P ρ ⟨dst, .binOp op t x y ty2, type, pos, after, guard⟩ = some v := by
  unfold binF at h
  split at h
  case h_2 => cases h
  rename_i k a hx
  split at h
  case h_2 => cases h
  rename_i l b hy
  cases hk : sameKind k l with
  | false => rw [hk] at h; cases h
  | true =>
    rw [hk] at h
    have hkl : k = l := of_decide_eq_true hk
    subst hkl
    have hc : ([x, y].all fun x => clean 6 (ρ x)) = true := by simp [hx, hy, clean]
    have key : evalPure P (execOp ρ ⟨dst, .binOp op t x y ty2, type, pos, after, guard⟩) = some (.value v) → clean 6 v = true → pureS P ρ ⟨dst, .binOp op t x y ty2, type, pos, after, guard⟩ = some v := by
      intro h1 h2
      unfold pureS
      show (if ([x, y].all fun x => clean 6 (ρ x)) = true then match evalPure P (execOp ρ ⟨dst, .binOp op t x y ty2, type, pos, after, guard⟩) with
        | some (.value v) => if clean 6 v then some v else none
        | _ => none else none) = some v
      rw [if_pos hc, h1]
      simp [h2]
    have hr : ∀ u, evalPure P (do eqGuard op t x y (.int k a) (.int k b); binOp op t (.int k a) (.int k b)) = some u → evalPure P (execOp ρ ⟨dst, .binOp op t x y ty2, type, pos, after, guard⟩) = some (.value u) := by
      intro u hu
      have bind_some : ∀ {α β : Type} (s : Sem α) (f : α → β) (u : α), evalPure P s = some u → evalPure P (do pure (f (← s))) = some (f u) := by
        intro α β s f u hs
        induction s with
        | pure x => cases hs; rfl
        | program k ih => exact ih P hs
        | mark m k ih => exact ih hs
        | choose q k ih =>
          simp only [evalPure] at hs
          split at hs
          · rename_i hq
            show (if q.forced then evalPure P ((k 0).bind _) else none) = _
            rw [if_pos hq]
            exact ih 0 hs
          · cases hs
        | _ => cases hs
      have hu' := hu
      rw [← hx, ← hy] at hu'
      exact bind_some (do eqGuard op t x y (ρ x) (ρ y); binOp op t (ρ x) (ρ y)) Next.value u hu'
    cases op <;> first
      | (cases h; done)
      | skip
    all_goals
      simp only [cond, intF, wrapF_eq, eqF_eq, ltF_eq, leF_eq, Option.some.injEq] at h
      subst h
      refine key (hr _ ?_) rfl
      cases k <;> rfl
/-- quotients: what must hold, the value -/
def divF (op : BinOp) (k : IntKind) (a b : Int) : Option (Bool × Value) :=
  match op with
  | .quo => some (!eqF b 0, .int k (wrapF k (a.tdiv b)))
  | .rem => some (!eqF b 0, .int k (a.tmod b))
  | _ => none
theorem divF_eq {P : Program} {ρ : Operand → Value} {dst : Option Tmp} {op : BinOp} {t ty2 type : TypeId} {x y : Operand} {pos : String} {after : Array Edge} {guard : Option (Nat × Bool)} {v : Value} {k : IntKind} {a b : Int}
    (hx : ρ x = .int k a) (hy : ρ y = .int k b) (h : divF op k a b = some (true, v)) : pureS P ρ ⟨dst, .binOp op t x y ty2, type, pos, after, guard⟩ = some v := by
  have hc : ([x, y].all fun x => clean 6 (ρ x)) = true := by simp [hx, hy, clean]
  have key : evalPure P (execOp ρ ⟨dst, .binOp op t x y ty2, type, pos, after, guard⟩) = some (.value v) → clean 6 v = true → pureS P ρ ⟨dst, .binOp op t x y ty2, type, pos, after, guard⟩ = some v := by
    intro h1 h2
    unfold pureS
    show (if ([x, y].all fun x => clean 6 (ρ x)) = true then match evalPure P (execOp ρ ⟨dst, .binOp op t x y ty2, type, pos, after, guard⟩) with
      | some (.value v) => if clean 6 v then some v else none
      | _ => none else none) = some v
    rw [if_pos hc, h1]
    simp [h2]
  have hr : ∀ u, evalPure P (do eqGuard op t x y (.int k a) (.int k b); binOp op t (.int k a) (.int k b)) = some u → evalPure P (execOp ρ ⟨dst, .binOp op t x y ty2, type, pos, after, guard⟩) = some (.value u) := by
    intro u hu
    have bind_some : ∀ {α β : Type} (s : Sem α) (f : α → β) (u : α), evalPure P s = some u → evalPure P (do pure (f (← s))) = some (f u) := by
      intro α β s f u hs
      induction s with
      | pure x => cases hs; rfl
      | program k ih => exact ih P hs
      | mark m k ih => exact ih hs
      | choose q k ih =>
        simp only [evalPure] at hs
        split at hs
        · rename_i hq
          show (if q.forced then evalPure P ((k 0).bind _) else none) = _
          rw [if_pos hq]
          exact ih 0 hs
        · cases hs
      | _ => cases hs
    have hu' := hu
    rw [← hx, ← hy] at hu'
    exact bind_some (do eqGuard op t x y (ρ x) (ρ y); binOp op t (ρ x) (ρ y)) Next.value u hu'
  cases op <;> first
    | (cases h; done)
    | skip
  all_goals
    simp only [divF, Option.some.injEq, Prod.mk.injEq, eqF_eq, wrapF_eq, Bool.not_eq_true', beq_eq_false_iff_ne, ne_eq] at h
    obtain ⟨hb, rfl⟩ := h
    refine key (hr _ ?_) rfl
  · have hd : evalPure P (Op.intDiv .quo k a b) = some (.int k (k.wrap (a.tdiv b))) := by
      unfold Op.intDiv
      rw [if_neg hb]
      rfl
    cases k <;> exact hd
  · have hd : evalPure P (Op.intDiv .rem k a b) = some (.int k (a.tmod b)) := by
      unfold Op.intDiv
      rw [if_neg hb]
      rfl
    cases k <;> exact hd
def notF (x : Value) : Option Value :=
  match x with
  | .bool b => some (.bool (!b))
  | _ => none

/-! ### the operations that come most -/
section
variable (self : Task → Option Res) (P : Program) (G : Nat)

def moveF (tm : Array Value) (H : CH) (x : Operand) : Option (Value × CH) := cond (okOpd G x) (some (ev tm x, H)) none
def pickF (tm : Array Value) (H : CH) (c a b : Operand) : Option (Value × CH) :=
  cond (okOpd G c && (okOpd G a && okOpd G b)) (match ev tm c with
    | .bool t => some (cond t (ev tm a) (ev tm b), H)
    | _ => none) none
def slowF (tm : Array Value) (H : CH) (o : Oper) : Option (Value × CH) := opX self P G tm H o
def binOpF (tm : Array Value) (H : CH) (o : Oper) (op : BinOp) (x y : Operand) : Option (Value × CH) :=
  match binF op (ev tm x) (ev tm y) with
  | some v => cond (okOpd G x && okOpd G y) (some (v, H)) none
  | none => slowF self P G tm H o
def loadAtF (H : CH) (t : TypeId) (v : Value) : Option (Value × CH) :=
  match v with
  | .pointer (some ⟨b, off, none⟩) => (loadS P H t b off).map (·, H)
  | _ => none
def loadF (tm : Array Value) (H : CH) (t : TypeId) (x : Operand) : Option (Value × CH) := cond (okOpd G x) (loadAtF P H t (ev tm x)) none
def fieldAddrF (tm : Array Value) (H : CH) (t : TypeId) (x : Operand) (f : Nat) : Option (Value × CH) := cond (okOpd G x) ((fieldAtS P t (ev tm x) f).map (·, H)) none
def indexAddrF (tm : Array Value) (H : CH) (t : TypeId) (x i : Operand) : Option (Value × CH) :=
  cond (okOpd G x && okOpd G i) (match ev tm i with
    | .int _ n => (indexAtS P t (ev tm x) n).map (·, H)
    | _ => none) none
def extractF (tm : Array Value) (H : CH) (x : Operand) (i : Nat) : Option (Value × CH) :=
  cond (okOpd G x) (match ev tm x with
    | .tuple vs => vs[i]?.map (·, H)
    | _ => none) none
def valOf (r : Option Res) : Option (Value × CH) :=
  match r with
  | some (.val v H') => some (v, H')
  | _ => none
def callFnF (tm : Array Value) (H : CH) (o : Oper) (g : FuncId) (first cap : Array Value) (args : Array Operand) (fn : Func) : Option (Value × CH) :=
  match fn.body with
  | none => slowF self P G tm H o
  | some _ => cond (fn.name == "runtime.NumGoroutine") none (cond (args.toList.all (okOpd G)) (valOf (self (.call g ⟨first.toList ++ ((args.toList.map (ev tm)) ++ cap.toList)⟩ H))) none)
def callF (tm : Array Value) (H : CH) (o : Oper) (f : Operand) (args : Array Operand) : Option (Value × CH) :=
  cond (okOpd G f) (match ev tm f with
    | .func (.func g) first cap => match P.funcs[g]? with
      | some fn => callFnF self P G tm H o g first cap args fn
      | none => none
    | _ => slowF self P G tm H o) none
def opF (tm : Array Value) (H : CH) (o : Oper) : Option (Value × CH) :=
  match o.op with
  | .move x => moveF G tm H x
  | .assign x => moveF G tm H x
  | .pick c a b => pickF G tm H c a b
  | .binOp op _ x y _ => binOpF self P G tm H o op x y
  | .load t x => loadF P G tm H t x
  | .fieldAddr t x f => fieldAddrF P G tm H t x f
  | .indexAddr t x i => indexAddrF P G tm H t x i
  | .extract x i => extractF G tm H x i
  | .call { callee := .value f, args, argTypes := _ } => callF self P G tm H o f args
  | _ => slowF self P G tm H o

theorem opX_all {tm : Array Value} {H : CH} {o : Oper} (h : ¬ (o.op.operands.toList.all (okOpd G)) = true) : opX self P G tm H o = none := by
  unfold opX; rw [if_neg h]
theorem opX_ok {tm : Array Value} {H : CH} {o : Oper} (h : (o.op.operands.toList.all (okOpd G)) = true) (h1 : ∀ c, o.op ≠ .defer c) (h2 : ∀ c, o.op ≠ .call c) : opX self P G tm H o = opS P G H (ev tm) o := by
  unfold opX; rw [if_pos h]
  split
  · rename_i c hc; exact absurd hc (h1 c)
  · rename_i f args ts hc; exact absurd hc (h2 _)
  · rfl
theorem cond_eq {α : Type} (b : Bool) (x y : α) : cond b x y = if b = true then x else y := by cases b <;> rfl

theorem opF_eq (tm : Array Value) (H : CH) (o : Oper) : opF self P G tm H o = opX self P G tm H o := by
  obtain ⟨dst, op, type, pos, after, guard⟩ := o
  have one : ∀ (x : Operand) (r : Option (Value × CH)), op.operands = #[x] → (∀ c, op ≠ .defer c) → (∀ c, op ≠ .call c) → opS P G H (ev tm) ⟨dst, op, type, pos, after, guard⟩ = r → cond (okOpd G x) r none = opX self P G tm H ⟨dst, op, type, pos, after, guard⟩ := by
    intro x r ho h1 h2 hr
    cases hx : okOpd G x with
    | true => rw [opX_ok self P G (by simp [ho, hx]) h1 h2, hr]; rfl
    | false => rw [opX_all self P G (by simp [ho, hx])]; rfl
  have two : ∀ (x y : Operand) (r : Option (Value × CH)), op.operands = #[x, y] → (∀ c, op ≠ .defer c) → (∀ c, op ≠ .call c) → opS P G H (ev tm) ⟨dst, op, type, pos, after, guard⟩ = r → cond (okOpd G x && okOpd G y) r none = opX self P G tm H ⟨dst, op, type, pos, after, guard⟩ := by
    intro x y r ho h1 h2 hr
    cases hx : okOpd G x && okOpd G y with
    | true => rw [opX_ok self P G (by simpa [ho] using hx) h1 h2, hr]; rfl
    | false => rw [opX_all self P G (by rw [ho]; simpa using hx)]; rfl
  cases op <;> first
    | rfl
    | skip
  case move x => exact one x _ rfl (fun _ h => by cases h) (fun _ h => by cases h) rfl
  case assign x => exact one x _ rfl (fun _ h => by cases h) (fun _ h => by cases h) rfl
  case load t x => exact one x _ rfl (fun _ h => by cases h) (fun _ h => by cases h) rfl
  case fieldAddr t x f => exact one x _ rfl (fun _ h => by cases h) (fun _ h => by cases h) rfl
  case extract x i => exact one x _ rfl (fun _ h => by cases h) (fun _ h => by cases h) rfl
  case indexAddr t x i => exact two x i _ rfl (fun _ h => by cases h) (fun _ h => by cases h) rfl
  case pick c a b =>
    show pickF G tm H c a b = _
    unfold pickF
    cases hx : okOpd G c && (okOpd G a && okOpd G b) with
    | true =>
      rw [opX_ok self P G (by simpa [Op.operands] using hx) (fun _ h => by cases h) (fun _ h => by cases h)]
      simp only [opS, cond]
      generalize ev tm c = y
      cases y with
      | bool t => cases t <;> rfl
      | _ => rfl
    | false => rw [opX_all self P G (by simpa [Op.operands] using hx)]; rfl
  case binOp op t x y ty2 =>
    show binOpF self P G tm H _ op x y = _
    unfold binOpF
    cases hb : binF op (ev tm x) (ev tm y) with
    | none => rfl
    | some v =>
      refine two x y _ rfl (fun _ h => by cases h) (fun _ h => by cases h) ?_
      have := binF_eq (P := P) (dst := dst) (t := t) (ty2 := ty2) (type := type) (pos := pos) (after := after) (guard := guard) hb
      have hag : aggEq P op t (ev tm x) (ev tm y) = none := by
        unfold binF at hb
        split at hb
        · rename_i h1; rw [h1]; rfl
        · cases hb
      simp only [opS, this, hag]
  case call c =>
    obtain ⟨callee, args, ts⟩ := c
    cases callee with
    | value f =>
      show callF self P G tm H _ f args = _
      unfold callF
      cases hf : okOpd G f with
      | false => rw [opX_all self P G (by simp [Op.operands, Call.operands, hf])]; rfl
      | true =>
        show (match ev tm f with
          | .func (.func g) first cap => match P.funcs[g]? with
            | some fn => callFnF self P G tm H _ g first cap args fn
            | none => none
          | _ => slowF self P G tm H _) = _
        split
        · rename_i g first cap hev
          cases hfn : P.funcs[g]? with
          | none =>
            by_cases hall : ((Op.call { callee := .value f, args := args, argTypes := ts }).operands.toList.all (okOpd G)) = true
            · unfold opX
              rw [if_pos hall]
              simp only [hev, hfn]
            · rw [opX_all self P G hall]
          | some fn =>
            dsimp only
            unfold callFnF
            cases hb : fn.body with
            | none => rfl
            | some c =>
              dsimp only
              cases hn : (fn.name == "runtime.NumGoroutine") with
              | true =>
                by_cases hall : ((Op.call { callee := .value f, args := args, argTypes := ts }).operands.toList.all (okOpd G)) = true
                · unfold opX
                  rw [if_pos hall]
                  simp only [hev, hfn, hn, if_true]
                  rfl
                · rw [opX_all self P G hall]; rfl
              | false =>
                cases ha : args.toList.all (okOpd G) with
                | false => rw [opX_all self P G (by simp only [Op.operands, Call.operands, Array.toList_append, List.all_append, ha]; simp)]; rfl
                | true =>
                  unfold opX
                  rw [if_pos (by simp only [Op.operands, Call.operands, Array.toList_append, List.all_append, ha]; simp [hf])]
                  simp only [hev, hfn, hn, hb, Option.isNone, Bool.false_eq_true, if_false]
                  have : (⟨first.toList ++ ((args.toList.map (ev tm)) ++ cap.toList)⟩ : Array Value) = first ++ args.map (ev tm) ++ cap := by
                    apply Array.toList_inj.1
                    simp
                  rw [this]
                  rfl
        · rfl
    | invoke r m => rfl
    | builtin b => rfl
end
end Go.Ex
/- Engine, part 20: the same executor, in small pieces. -/
namespace Go.Ex
open Go.RowKit

def boolIs (v : Value) (w : Bool) : Bool :=
  match v with
  | .bool b => b == w
  | _ => false
def guardF (ops : Array Oper) (tm : Array Value) (j : Nat) (w : Bool) : Bool :=
  match (ops[j]?).bind (·.dst) with
  | some d => boolIs (getL tm.toList d) w
  | none => false
def wantF (ops : Array Oper) (tm : Array Value) (o : Oper) : Bool :=
  match o.guard with
  | none => true
  | some (j, w) => guardF ops tm j w
theorem wantF_eq (ops : Array Oper) (tm : Array Value) (o : Oper) : wantF ops tm o = Region.wanted o (yielded ops tm) := by
  unfold wantF Region.wanted
  cases o.guard with
  | none => rfl
  | some gw =>
    obtain ⟨j, w⟩ := gw
    show guardF ops tm j w = (yielded ops tm j == some w)
    unfold guardF yielded
    cases (ops[j]?).bind (·.dst) with
    | none => rfl
    | some d =>
      simp only [Option.bind_some]
      rw [getL_eq, Array.toArray_toList, Array.getD_eq_getD_getElem?]
      cases tm[d]? with
      | none => rfl
      | some x => cases x <;> rfl

section
variable (op : Array Value → CH → Oper → Option (Value × CH)) (ops : Array Oper)
def afterF (o : Oper) (ih : Array Value → CH → Option (Array Value × CH)) (tm : Array Value) (r : Option (Value × CH)) : Option (Array Value × CH) :=
  match r with
  | some (v, H') => ih (put tm o.dst v) H'
  | none => none
def opsStep (o : Oper) (ih : Array Value → CH → Option (Array Value × CH)) (tm : Array Value) (H : CH) : Option (Array Value × CH) :=
  cond (wantF ops tm o) (afterF o ih tm (op tm H o)) (cond (gk ops tm o) (ih (put tm o.dst undef) H) none)
noncomputable def opsG (l : List Oper) : Array Value → CH → Option (Array Value × CH) :=
  List.rec (motive := fun _ => Array Value → CH → Option (Array Value × CH)) (fun tm H => some (tm, H)) (fun o _ ih tm H => opsStep op ops o ih tm H) l

abbrev Trc := List (Array Value × CH × Value) × Array Value × CH
def consTr (tm : Array Value) (H : CH) (v : Value) (r : Option Trc) : Option Trc :=
  match r with
  | some (tr, tm', H') => some ((tm, H, v) :: tr, tm', H')
  | none => none
def afterT (o : Oper) (ih : Array Value → CH → Option Trc) (tm : Array Value) (H : CH) (r : Option (Value × CH)) : Option Trc :=
  match r with
  | some (v, H') => consTr tm H v (ih (put tm o.dst v) H')
  | none => none
def trStep (o : Oper) (ih : Array Value → CH → Option Trc) (tm : Array Value) (H : CH) : Option Trc :=
  cond (wantF ops tm o) (afterT o ih tm H (op tm H o)) (cond (gk ops tm o) (consTr tm H undef (ih (put tm o.dst undef) H)) none)
noncomputable def trG (l : List Oper) : Array Value → CH → Option Trc :=
  List.rec (motive := fun _ => Array Value → CH → Option Trc) (fun tm H => some ([], tm, H)) (fun o _ ih tm H => trStep op ops o ih tm H) l
end

theorem opsG_eq {self : Task → Option Res} {P : Program} {G : Nat} {ops : Array Oper} : ∀ (l : List Oper) (i : Nat), ops.toList.drop i = l → ∀ (tm : Array Value) (H : CH),
    opsG (opX self P G) ops l tm H = opsX self P G ops (List.range' i l.length) tm H
  | [], i, _, tm, H => rfl
  | o :: r, i, hd, tm, H => by
    have ho : ops[i]? = some o := by
      have : (ops.toList.drop i)[0]? = some o := by rw [hd]; rfl
      rw [List.getElem?_drop] at this
      simpa using this
    have hr : ops.toList.drop (i + 1) = r := by
      rw [← List.drop_drop, hd]; rfl
    show opsStep (opX self P G) ops o (opsG (opX self P G) ops r) tm H = opsX self P G ops (i :: List.range' (i + 1) r.length) tm H
    have ih := opsG_eq (self := self) (P := P) (G := G) r (i + 1) hr
    simp only [opsX, ho, opsStep, wantF_eq]
    cases hw : Region.wanted o (yielded ops tm) with
    | true =>
      simp only [cond, if_true]
      unfold afterF
      cases opX self P G tm H o with
      | none => rfl
      | some vh => obtain ⟨v, H'⟩ := vh; exact ih _ _
    | false =>
      cases hg : gk ops tm o with
      | true =>
        simp only [cond, Bool.false_eq_true, if_false, if_true]
        exact ih _ _
      | false => simp only [cond, Bool.false_eq_true, if_false]
theorem trG_eq {self : Task → Option Res} {P : Program} {G : Nat} {ops : Array Oper} : ∀ (l : List Oper) (tm : Array Value) (H : CH), trG (opX self P G) ops l tm H = textRun self P G ops l tm H
  | [], tm, H => rfl
  | o :: r, tm, H => by
    show trStep (opX self P G) ops o (trG (opX self P G) ops r) tm H = _
    have ih := trG_eq (self := self) (P := P) (G := G) (ops := ops) r
    simp only [textRun, trStep, wantF_eq]
    cases hw : Region.wanted o (yielded ops tm) with
    | true =>
      simp only [cond, if_true]
      unfold afterT
      cases opX self P G tm H o with
      | none => rfl
      | some vh =>
        obtain ⟨v, H'⟩ := vh
        dsimp only
        rw [ih]
        rfl
    | false =>
      cases hg : gk ops tm o with
      | true =>
        simp only [cond, Bool.false_eq_true, if_false, if_true, ih]
        rfl
      | false => simp only [cond, Bool.false_eq_true, if_false]

section
variable (self : Task → Option Res) (P : Program) (G : Nat)
def checkF (op : Array Value → CH → Oper → Option (Value × CH)) (ops : Array Oper) (A : List Nat) (tr : List (Array Value × CH × Value)) (H' : CH) (i : Nat) (o : Oper) (tm : Array Value) (v : Value) : Bool :=
  kindOf P o.op != 1 || (!wantF ops tm o || (alts P ops A i).all fun p => sameAs (op tm (heapAt tr H' p) o) v)
def recheckF (op : Array Value → CH → Oper → Option (Value × CH)) (ops : Array Oper) (A : List Nat) (tr : List (Array Value × CH × Value)) (H' : CH) : Bool :=
  (List.range ops.size).all fun i => match ops[i]?, tr[i]? with
    | some o, some (tm, _, v) => checkF P op ops A tr H' i o tm v
    | _, _ => false
theorem recheckF_eq (ops : Array Oper) (A : List Nat) (tr : List (Array Value × CH × Value)) (H' : CH) : recheckF P (opX self P G) ops A tr H' = recheck self P G ops A tr H' := by
  unfold recheckF recheck
  congr 1
  funext i
  cases ops[i]? with
  | none => rfl
  | some o =>
    cases tr[i]? with
    | none => rfl
    | some t =>
      obtain ⟨tm, H, v⟩ := t
      simp only [checkF, wantF_eq, Bool.or_assoc]
def drawEnd (ops : Array Oper) (r : Option Trc) : Option (Array Value × CH) :=
  match r with
  | some (tr, tm', H') => cond (recheckF P (opF self P G) ops (ancs ops) tr H') (some (tm', H')) none
  | none => none
noncomputable def drawF (ops : Array Oper) (tm : Array Value) (H : CH) : Option (Array Value × CH) :=
  cond (P.follows .mixedOrders && ordOk P ops (ancs ops)) (drawEnd self P G ops (trG (opF self P G) ops ops.toList tm H)) none
theorem opF_fun : opF self P G = opX self P G := by
  funext tm H o; exact opF_eq self P G tm H o
theorem drawF_eq : drawF self P G = drawX self P G := by
  funext ops tm H
  unfold drawF drawX drawEnd
  rw [opF_fun, trG_eq, cond_eq]
  split
  · cases textRun self P G ops ops.toList tm H with
    | none => rfl
    | some r =>
      obtain ⟨tr, tm', H'⟩ := r
      dsimp only
      rw [recheckF_eq, cond_eq]
  · rfl

/-! ### statements -/
def seqF (b : Code) (ro : Option Nat) (r : Option Res) : Option Res :=
  match r with
  | some (.ex .normal tm1 H1 df1) => self (.code b ro tm1 H1 df1)
  | r => r
def condF (x y : Code) (ro : Option Nat) (tm : Array Value) (H : CH) (df : List Nat) (v : Value) : Option Res :=
  match v with
  | .bool b => self (.code (cond b x y) ro tm H df)
  | _ => none
def blockF (id : Nat) (r : Option Res) : Option Res :=
  match r with
  | some (.ex (.exit id') tm1 H1 df1) => some (.ex (if id' = id then .normal else .exit id') tm1 H1 df1)
  | r => r
def normalF (df : List Nat) (r : Option (Array Value × CH)) : Option Res :=
  match r with
  | some (tm1, H1) => some (.ex .normal tm1 H1 df)
  | none => none
noncomputable def regionF (ops : Array Oper) (d : Bool) (tm : Array Value) (H : CH) : Option (Array Value × CH) :=
  cond d (drawF self P G ops tm H) (opsG (opF self P G) ops ops.toList tm H)
noncomputable def codeF (c : Code) (ro : Option Nat) (tm : Array Value) (H : CH) (df : List Nat) : Option Res :=
  match c with
  | .skip => some (.ex .normal tm H df)
  | .label _ => some (.ex .normal tm H df)
  | .seq a b => seqF self b ro (self (.code a ro tm H df))
  | .cond o x y => cond (okOpd G o) (condF self x y ro tm H df (ev tm o)) none
  | .block id b => blockF id (self (.code b ro tm H df))
  | .loop b => seqF self (.loop b) ro (self (.code b ro tm H df))
  | .scope b => self (.code b ro tm H df)
  | .exit id => some (.ex (.exit id) tm H df)
  | .ret => some (.ex .ret tm H df)
  | .region _ ops d => normalF df (regionF self P G ops d tm H)
  | .rangeFunc g ps assign body => rangeX self P G 0 g ps assign body ro tm H df
  | _ => none
def valF (fn : Func) (tm : Array Value) (H : Option CH) : Option Res :=
  match H with
  | some H2 => (resultsS P tm H2 fn.results.toList).map fun vs => .val (oneOrTuple vs) H2
  | none => none
def endF (fn : Func) (r : Option Res) : Option Res :=
  match r with
  | some (.ex x tm H1 df) => match x with
    | .exit _ => none
    | _ => valF P fn tm (closeS G H1 df)
  | _ => none
def enterF (fn : Func) (args : Array Value) (H : CH) : Option Res :=
  match fn.body with
  | some c => endF P G fn (self (.code c none ⟨args.toList ++ List.replicate (fn.ntmps - args.toList.length) undef⟩ H []))
  | none => none
def callXF (f : FuncId) (args : Array Value) (H : CH) : Option Res :=
  match P.funcs[f]? with
  | some fn => enterF self P G fn args H
  | none => none
noncomputable def stepF (t : Task) : Option Res :=
  match t with
  | .code c ro tm H df => codeF self P G c ro tm H df
  | .call f args H => callXF self P G f args H
  | .round l args H => roundX self G l args H

theorem callXF_eq (f : FuncId) (args : Array Value) (H : CH) : callXF self P G f args H = callX self P G f args H := by
  unfold callXF callX
  cases P.funcs[f]? with
  | none => rfl
  | some fn =>
    dsimp only
    unfold enterF
    cases fn.body with
    | none => rfl
    | some c =>
      dsimp only
      have : (⟨args.toList ++ List.replicate (fn.ntmps - args.toList.length) undef⟩ : Array Value) = args ++ Array.replicate (fn.ntmps - args.size) undef := by
        apply Array.toList_inj.1
        simp
      rw [this]
      unfold endF
      cases self (.code c none (args ++ Array.replicate (fn.ntmps - args.size) undef) H []) with
      | none => rfl
      | some r =>
        cases r with
        | val v H' => rfl
        | ex x tm H1 df =>
          cases x with
          | exit _ => rfl
          | normal => dsimp only; unfold valF; cases closeS G H1 df <;> rfl
          | ret => dsimp only; unfold valF; cases closeS G H1 df <;> rfl
theorem stepF_eq (t : Task) : stepF self P G t = step self P G (drawX self P G) t := by
  cases t with
  | call f args H => exact callXF_eq self P G f args H
  | round l args H => rfl
  | code c ro tm H df =>
    show codeF self P G c ro tm H df = _
    cases c <;> first | rfl | skip
    case code.cond o x y =>
      show cond (okOpd G o) (condF self x y ro tm H df (ev tm o)) none = _
      simp only [step, cond_eq]
      split
      · unfold condF
        generalize ev tm o = v
        cases v with
        | bool b => cases b <;> rfl
        | _ => rfl
      · rfl
    case code.region id ops d =>
      show normalF df (regionF self P G ops d tm H) = _
      simp only [step]
      have : regionF self P G ops d tm H = (if d then drawX self P G ops tm H else opsX self P G ops (List.range ops.size) tm H) := by
        unfold regionF
        rw [drawF_eq, opF_fun, cond_eq]
        cases d with
        | true => rfl
        | false =>
          simp only [Bool.false_eq_true, if_false]
          rw [opsG_eq ops.toList 0 rfl, List.range_eq_range']
          simp
      rw [this]
      unfold normalF
      split <;> simp_all
end

noncomputable def execF (P : Program) (G : Nat) (n : Nat) : Task → Option Res :=
  Nat.rec (motive := fun _ => Task → Option Res) (fun _ => none) (fun _ f => stepF f P G) n
theorem execF_eq (P : Program) (G : Nat) : ∀ n, execF P G n = execS P G n
  | 0 => rfl
  | n + 1 => by
    funext t
    show stepF (execF P G n) P G t = step (execS P G n) P G (drawX (execS P G n) P G) t
    rw [execF_eq P G n, stepF_eq]
end Go.Ex
/- Engine, part 21: rows at once; the operations by a number. -/
namespace Go.Ex
open Go.RowKit

/-! ### rows at once -/
def rowOf (cs : List Value) (off n : Nat) : Option (List Value) :=
  cond (Nat.ble n (cs.drop off).length) (some ((cs.drop off).take n)) none
def rowF (H : CH) (b off n : Nat) : Option (List Value) :=
  match H[b]? with
  | some (.cells cs _ _ _) => rowOf cs off n
  | _ => none
theorem row_eq {H : CH} {b : Nat} {cs : List Value} {t : TypeId} {s : Nat} {ex : Bool} (h : H[b]? = some (.cells cs t s ex)) : ∀ (n off : Nat) (xs : List Value), n ≤ (cs.drop off).length → (cs.drop off).take n = xs → H.row? b off n = some xs
  | 0, off, xs, _, hx => by simp at hx; subst hx; rfl
  | n + 1, off, xs, hn, hx => by
    rw [List.length_drop] at hn
    have hlt : off < cs.length := by omega
    have hc : H.cell? b off = some cs[off] := by
      unfold CH.cell?
      rw [h]
      exact List.getElem?_eq_getElem hlt
    simp only [CH.row?, hc]
    have := row_eq h n (off + 1) ((cs.drop (off + 1)).take n) (by rw [List.length_drop]; omega) rfl
    rw [this]
    rw [List.drop_eq_getElem_cons hlt, List.take_succ_cons] at hx
    rw [← hx]; rfl
theorem rowF_sound {H : CH} {b off n : Nat} {xs : List Value} (h : rowF H b off n = some xs) : H.row? b off n = some xs := by
  unfold rowF at h
  split at h
  case h_2 => cases h
  rename_i cs t s ex hb
  unfold rowOf at h
  rw [cond_eq] at h
  split at h
  case isFalse => cases h
  rename_i hn
  cases h
  exact row_eq hb n off _ (Nat.le_of_ble_eq_true hn) rfl
def aggF (r : Option (List Value)) : Option Value :=
  match r with
  | some xs => some (.agg ⟨xs⟩)
  | none => none
def loadSF (P : Program) (H : CH) (t : TypeId) (b off : Nat) : Option Value :=
  match aggB P t with
  | some true => match P.info? t with
    | some i => aggF (rowF H b off i.size)
    | none => none
  | some false => H.cell? b off
  | none => none
theorem loadSF_sound {P : Program} {H : CH} {t : TypeId} {b off : Nat} {v : Value} (h : loadSF P H t b off = some v) : loadS P H t b off = some v := by
  unfold loadSF at h
  unfold loadS
  split at h
  · rename_i ha
    rw [ha]
    dsimp only
    split at h
    · rename_i i hi
      rw [hi]
      dsimp only
      unfold aggF at h
      split at h
      · rename_i xs hx
        cases h
        rw [rowF_sound hx]; rfl
      · cases h
    · cases h
  · rename_i ha; rw [ha]; exact h
  · cases h

/-! ### stores at once -/
theorem Tr.set_set {α : Type} (x y : α) : ∀ (f : Nat) (t : Tr α) (n : Nat), Tr.setf x f (Tr.setf y f t n) n = Tr.setf x f t n
  | 0, _, _ => rfl
  | f + 1, t, 0 => rfl
  | f + 1, t, n + 1 => by
    rw [Tr.setf_succ, Tr.setf_succ, Tr.setf_succ]
    cases Nat.beq (n % 2) 0 with
    | true =>
      simp only [cond]
      show Tr.node (Tr.setf x f (Tr.setf y f t.left (n / 2)) (n / 2)) t.val t.right = _
      rw [Tr.set_set x y f]
    | false =>
      simp only [cond]
      show Tr.node t.left t.val (Tr.setf x f (Tr.setf y f t.right (n / 2)) (n / 2)) = _
      rw [Tr.set_set x y f]
theorem Hp.set_set {α : Type} (h : Hp α) (i : Nat) (x y : α) : (h.set i y).set i x = h.set i x := by
  unfold Hp.set
  simp only [Tr.set_set]
theorem storeRow_at {G : Nat} {b : Nat} (hG : G ≤ b) {t : TypeId} {s : Nat} {ex : Bool} : ∀ (v : Value) (vs : List Value) (H : CH) (off : Nat) (cs : List Value), H[b]? = some (.cells cs t s ex) → off + (v :: vs).length ≤ cs.length → (v :: vs).all oneB = true →
    storeRow G H b off (v :: vs) = some (H.set b (.cells (cs.take off ++ (v :: vs) ++ cs.drop (off + (v :: vs).length)) t s ex))
  | v, vs, H, off, cs, hb, hl, ha => by
    rw [List.all_cons, Bool.and_eq_true] at ha
    rw [List.length_cons] at hl
    have h1 : H.set? G b off v = some (H.set b (.cells (cs.set off v) t s ex)) := by
      unfold CH.set?
      rw [if_pos hG, hb]
      dsimp only
      rw [if_pos (by omega)]
    have hset : cs.set off v = cs.take off ++ v :: cs.drop (off + 1) := by
      rw [List.set_eq_take_append_cons_drop, if_pos (by omega)]
    simp only [storeRow, ha.1, if_true, h1]
    cases vs with
    | nil =>
      simp only [storeRow]
      rw [hset]
      simp
    | cons u us =>
      have hb1 : (H.set b (.cells (cs.set off v) t s ex))[b]? = some (.cells (cs.set off v) t s ex) := by
        rw [Hp.get_set, if_pos rfl, if_pos (Hp.lt hb)]
      rw [storeRow_at hG u us _ (off + 1) (cs.set off v) hb1 (by rw [List.length_set]; simp only [List.length_cons] at hl ⊢; omega) ha.2, Hp.set_set]
      congr 3
      have hlen : (cs.take off).length = off := by rw [List.length_take]; omega
      rw [hset]
      have e1 : (cs.take off).take (off + 1) = cs.take off := List.take_of_length_le (by rw [hlen]; omega)
      have e2 : (cs.take off).drop (off + 1 + (u :: us).length) = [] := List.drop_eq_nil_of_le (by rw [hlen]; omega)
      have e3 : (v :: cs.drop (off + 1)).drop (off + 1 + (u :: us).length - off) = cs.drop (off + (v :: u :: us).length) := by
        rw [show off + 1 + (u :: us).length - off = (u :: us).length + 1 from by omega, List.drop_succ_cons, List.drop_drop]
        congr 1
        simp only [List.length_cons]; omega
      rw [List.take_append, hlen, List.drop_append, hlen, e1, e2, e3, show off + 1 - off = 1 from by omega]
      simp
def spliceF (H : CH) (b : Nat) (vs cs : List Value) (off : Nat) (t : TypeId) (s : Nat) (ex : Bool) : Option CH :=
  cond (Nat.ble (off + vs.length) cs.length && vs.all oneB) (some (H.set b (.cells (cs.take off ++ vs ++ cs.drop (off + vs.length)) t s ex))) none
def storeRowF (G : Nat) (H : CH) (b off : Nat) (vs : List Value) : Option CH :=
  match vs with
  | [] => none
  | [_] => none
  | vs => cond (Nat.ble G b) (match H[b]? with
    | some (.cells cs t s ex) => spliceF H b vs cs off t s ex
    | _ => none) none
theorem storeRowF_sound {G : Nat} {H H' : CH} {b off : Nat} {vs : List Value} (h : storeRowF G H b off vs = some H') : storeRow G H b off vs = some H' := by
  unfold storeRowF at h
  split at h
  · cases h
  · cases h
  · rename_i hne _
    rw [cond_eq] at h
    split at h
    case isFalse => cases h
    rename_i hG
    split at h
    case h_2 => cases h
    rename_i cs t s ex hb
    unfold spliceF at h
    rw [cond_eq] at h
    split at h
    case isFalse => cases h
    rename_i hc
    rw [Bool.and_eq_true] at hc
    cases h
    cases vs with
    | nil => exact absurd rfl hne
    | cons v vs => exact storeRow_at (Nat.le_of_ble_eq_true hG) v vs H off cs hb (Nat.le_of_ble_eq_true hc.1) hc.2
def storeSF (P : Program) (G : Nat) (H : CH) (t : TypeId) (b off : Nat) (v : Value) : Option CH :=
  match P.info? t with
  | some i => cond (Nat.beq v.cells.toList.length i.size) (match storeRowF G H b off v.cells.toList with
    | some H' => some H'
    | none => storeRow G H b off v.cells.toList) none
  | none => none
theorem storeSF_sound {P : Program} {G : Nat} {H H' : CH} {t : TypeId} {b off : Nat} {v : Value} (h : storeSF P G H t b off v = some H') : storeS P G H t b off v = some H' := by
  unfold storeSF at h
  unfold storeS
  cases hi : P.info? t with
  | none => rw [hi] at h; cases h
  | some i =>
    rw [hi] at h
    dsimp only at h ⊢
    rw [cond_eq] at h
    split at h
    case isFalse => cases h
    rename_i hs
    rw [if_pos (by have := Nat.eq_of_beq_eq_true hs; simpa using this)]
    split at h
    · rename_i H1 h1
      cases h
      exact storeRowF_sound h1
    · exact h

/-! ### parts -/
def partF (P : Program) (t : TypeId) (cs : List Value) (off : Nat) : Option Value :=
  match aggB P t with
  | some true => match P.info? t with
    | some i => some (.agg ⟨(cs.drop off).take i.size⟩)
    | none => none
  | some false => cs[off]?
  | none => none
theorem partF_eq (P : Program) (t : TypeId) (cs : Array Value) (off : Nat) : partF P t cs.toList off = partS P t cs off := by
  unfold partF partS
  cases aggB P t with
  | none => rfl
  | some g =>
    cases g with
    | false => simp
    | true =>
      cases P.info? t with
      | none => rfl
      | some i =>
        dsimp only
        congr 2
        apply Array.toList_inj.1
        simp
def indexVF (P : Program) (H : CH) (t : TypeId) (cs : Array Value) (n : Int) : Option (Value × CH) :=
  match P.underlying t with
  | some (.array m e) => cond (leF 0 n && ltF n (.ofNat m)) (match P.info? e with
    | some j => (partF P e cs.toList (n.toNat * j.size)).map (·, H)
    | none => none) none
  | _ => none
theorem indexVF_eq (P : Program) (H : CH) (t : TypeId) (cs : Array Value) (n : Int) : indexVF P H t cs n = (indexS P t (.agg cs) n).map (·, H) := by
  unfold indexVF indexS
  dsimp only
  cases P.underlying t with
  | none => rfl
  | some d =>
    cases d with
    | array m e =>
      dsimp only
      simp only [leF_eq, ltF_eq, cond_eq, Bool.and_eq_true, decide_eq_true_eq, partF_eq]
      by_cases hc : 0 ≤ n ∧ n < Int.ofNat m
      · have hc' : 0 ≤ n ∧ n < (m : Int) := hc
        rw [if_pos hc, if_pos hc']
        cases P.info? e <;> rfl
      · have hc' : ¬ (0 ≤ n ∧ n < (m : Int)) := hc
        rw [if_neg hc, if_neg hc']; rfl
    | _ => rfl

section
variable (self : Task → Option Res) (P : Program) (G : Nat)
def loadAtF2 (H : CH) (t : TypeId) (v : Value) : Option (Value × CH) :=
  match v with
  | .pointer (some ⟨b, off, none⟩) => (loadSF P H t b off).map (·, H)
  | _ => none
def storeAtF (H : CH) (t : TypeId) (v y : Value) : Option (Value × CH) :=
  match v with
  | .pointer (some ⟨b, off, none⟩) => (storeSF P G H t b off y).map (undef, ·)
  | _ => none
def indexF (tm : Array Value) (H : CH) (o : Oper) (t : TypeId) (x i : Operand) : Option (Value × CH) :=
  match ev tm x with
  | .agg cs => cond (okOpd G x && okOpd G i) (match ev tm i with
    | .int _ n => indexVF P H t cs n
    | _ => none) none
  | _ => slowF self P G tm H o

def tagOf (o : Op) : Nat :=
  match o with
  | .move _ => 0
  | .assign _ => 0
  | .binOp .. => 1
  | .pick .. => 2
  | .load .. => 3
  | .fieldAddr .. => 4
  | .indexAddr .. => 5
  | .extract .. => 6
  | .call { callee := .value _, .. } => 7
  | .index .. => 8
  | .store .. => 9
  | _ => 10
def dummy : Operand := .const undef
def arg1 (o : Op) : Operand :=
  match o with
  | .move x => x
  | .assign x => x
  | .binOp _ _ x _ _ => x
  | .pick c _ _ => c
  | .load _ x => x
  | .fieldAddr _ x _ => x
  | .indexAddr _ x _ => x
  | .extract x _ => x
  | .call { callee := .value f, .. } => f
  | .index _ x _ => x
  | .store _ x _ => x
  | _ => dummy
def arg2 (o : Op) : Operand :=
  match o with
  | .binOp _ _ _ y _ => y
  | .pick _ a _ => a
  | .indexAddr _ _ i => i
  | .index _ _ i => i
  | .store _ _ y => y
  | _ => dummy
def arg3 (o : Op) : Operand :=
  match o with
  | .pick _ _ b => b
  | _ => dummy
def typeOf (o : Op) : TypeId :=
  match o with
  | .load t _ => t
  | .fieldAddr t _ _ => t
  | .indexAddr t _ _ => t
  | .index t _ _ => t
  | .store t _ _ => t
  | _ => 0
def numOf (o : Op) : Nat :=
  match o with
  | .fieldAddr _ _ f => f
  | .extract _ i => i
  | _ => 0
def binOf (o : Op) : BinOp :=
  match o with
  | .binOp op _ _ _ _ => op
  | _ => .add
def argsOf (o : Op) : Array Operand :=
  match o with
  | .call { args, .. } => args
  | _ => #[]
def quickOr (q s : Option (Value × CH)) : Option (Value × CH) :=
  match q with
  | some r => some r
  | none => s
def opT3 (tm : Array Value) (H : CH) (o : Oper) (n : Nat) : Option (Value × CH) :=
  cond (Nat.beq n 4) (fieldAddrF P G tm H (typeOf o.op) (arg1 o.op) (numOf o.op))
    (cond (Nat.beq n 6) (extractF G tm H (arg1 o.op) (numOf o.op))
      (cond (Nat.beq n 8) (indexF self P G tm H o (typeOf o.op) (arg1 o.op) (arg2 o.op))
        (cond (Nat.beq n 9) (quickOr (cond (okOpd G (arg1 o.op) && okOpd G (arg2 o.op)) (storeAtF P G H (typeOf o.op) (ev tm (arg1 o.op)) (ev tm (arg2 o.op))) none) (slowF self P G tm H o))
          (slowF self P G tm H o))))
def opT2 (tm : Array Value) (H : CH) (o : Oper) (n : Nat) : Option (Value × CH) :=
  cond (Nat.beq n 3) (quickOr (cond (okOpd G (arg1 o.op)) (loadAtF2 P H (typeOf o.op) (ev tm (arg1 o.op))) none) (slowF self P G tm H o))
    (cond (Nat.beq n 5) (indexAddrF P G tm H (typeOf o.op) (arg1 o.op) (arg2 o.op))
      (cond (Nat.beq n 7) (callF self P G tm H o (arg1 o.op) (argsOf o.op))
        (cond (Nat.beq n 2) (pickF G tm H (arg1 o.op) (arg2 o.op) (arg3 o.op)) (opT3 self P G tm H o n))))
def opT1 (tm : Array Value) (H : CH) (o : Oper) (n : Nat) : Option (Value × CH) :=
  cond (Nat.beq n 0) (moveF G tm H (arg1 o.op))
    (cond (Nat.beq n 1) (binOpF self P G tm H o (binOf o.op) (arg1 o.op) (arg2 o.op)) (opT2 self P G tm H o n))
def opT (tm : Array Value) (H : CH) (o : Oper) : Option (Value × CH) := opT1 self P G tm H o (tagOf o.op)

theorem opT_eq (tm : Array Value) (H : CH) (o : Oper) : opT self P G tm H o = opF self P G tm H o := by
  obtain ⟨dst, op, type, pos, after, guard⟩ := o
  have quick : ∀ (q s : Option (Value × CH)), (∀ r, q = some r → s = some r) → quickOr q s = s := by
    intro q s h
    cases q with
    | none => rfl
    | some r => exact (h r rfl).symm
  cases op <;> first
    | rfl
    | skip
  case load t x =>
    refine (quick _ _ fun r hr => ?_).trans (opF_eq self P G tm H _).symm
    show opX self P G tm H ⟨dst, .load t x, type, pos, after, guard⟩ = some r
    rw [← opF_eq]
    show loadF P G tm H t x = some r
    unfold loadF
    rw [cond_eq] at hr ⊢
    split at hr
    case isFalse => cases hr
    rename_i hx
    have hx' : okOpd G x = true := hx
    rw [if_pos hx']
    have hr' : loadAtF2 P H t (ev tm x) = some r := hr
    unfold loadAtF2 at hr'
    unfold loadAtF
    split at hr'
    · rename_i b off hv
      rw [hv]
      obtain ⟨u, hu, rfl⟩ := map_some' hr'
      simp only [loadSF_sound hu]; rfl
    · cases hr'
  case store t x y =>
    refine (quick _ _ fun r hr => ?_).trans (opF_eq self P G tm H _).symm
    show opX self P G tm H ⟨dst, .store t x y, type, pos, after, guard⟩ = some r
    rw [cond_eq] at hr
    split at hr
    case isFalse => cases hr
    rename_i hx
    have hx' : (okOpd G x && okOpd G y) = true := hx
    rw [opX_ok self P G (by simpa [Op.operands] using hx') (fun _ h => by cases h) (fun _ h => by cases h)]
    have hr' : storeAtF P G H t (ev tm x) (ev tm y) = some r := hr
    unfold storeAtF at hr'
    simp only [opS]
    split at hr'
    · rename_i b off hv
      rw [hv]
      obtain ⟨u, hu, rfl⟩ := map_some' hr'
      simp only [storeSF_sound hu]; rfl
    · cases hr'
  case index t x i =>
    show indexF self P G tm H _ t x i = slowF self P G tm H _
    unfold indexF
    split
    · rename_i cs hv
      show _ = opX self P G tm H _
      cases hx : okOpd G x && okOpd G i with
      | false => rw [opX_all self P G (by simpa [Op.operands] using hx)]; rfl
      | true =>
        rw [opX_ok self P G (by simpa [Op.operands] using hx) (fun _ h => by cases h) (fun _ h => by cases h)]
        simp only [opS, cond, hv, indexVF_eq]
        generalize ev tm i = y
        cases y <;> rfl
    · rfl
  case call c =>
    obtain ⟨callee, args, ts⟩ := c
    cases callee <;> rfl
end
theorem opT_fun (self : Task → Option Res) (P : Program) (G : Nat) : opT self P G = opF self P G := by
  funext tm H o; exact opT_eq self P G tm H o

/-! ### the executor, by these -/
section
variable (self : Task → Option Res) (P : Program) (G : Nat)
def drawEndT (ops : Array Oper) (r : Option Trc) : Option (Array Value × CH) :=
  match r with
  | some (tr, tm', H') => cond (recheckF P (opT self P G) ops (ancs ops) tr H') (some (tm', H')) none
  | none => none
noncomputable def drawT (ops : Array Oper) (tm : Array Value) (H : CH) : Option (Array Value × CH) :=
  cond (P.follows .mixedOrders && ordOk P ops (ancs ops)) (drawEndT self P G ops (trG (opT self P G) ops ops.toList tm H)) none
noncomputable def regionT (ops : Array Oper) (d : Bool) (tm : Array Value) (H : CH) : Option (Array Value × CH) :=
  cond d (drawT self P G ops tm H) (opsG (opT self P G) ops ops.toList tm H)
theorem regionT_eq (ops : Array Oper) (d : Bool) (tm : Array Value) (H : CH) : regionT self P G ops d tm H = regionF self P G ops d tm H := by
  have h : ∀ r, drawEndT self P G ops r = drawEnd self P G ops r := by
    intro r
    unfold drawEndT drawEnd
    rw [opT_fun]
    cases r <;> rfl
  unfold regionT regionF drawT drawF
  rw [h, opT_fun]
noncomputable def codeT (c : Code) (ro : Option Nat) (tm : Array Value) (H : CH) (df : List Nat) : Option Res :=
  match c with
  | .seq a b => seqF self b ro (self (.code a ro tm H df))
  | .cond o x y => cond (okOpd G o) (condF self x y ro tm H df (ev tm o)) none
  | .region _ ops d => normalF df (regionT self P G ops d tm H)
  | c => codeF self P G c ro tm H df
noncomputable def stepT (t : Task) : Option Res :=
  match t with
  | .code c ro tm H df => codeT self P G c ro tm H df
  | .call f args H => callXF self P G f args H
  | .round l args H => roundX self G l args H
theorem stepT_eq (t : Task) : stepT self P G t = stepF self P G t := by
  cases t with
  | code c ro tm H df =>
    cases c <;> first | rfl | skip
    case region id ops d =>
      show normalF df (regionT self P G ops d tm H) = normalF df (regionF self P G ops d tm H)
      rw [regionT_eq]
  | _ => rfl
end
noncomputable def execT (P : Program) (G : Nat) (n : Nat) : Task → Option Res :=
  Nat.rec (motive := fun _ => Task → Option Res) (fun _ => none) (fun _ f => stepT f P G) n
theorem execT_eq (P : Program) (G : Nat) : ∀ n, execT P G n = execS P G n
  | 0 => rfl
  | n + 1 => by
    rw [← execF_eq]
    funext t
    show stepT (execT P G n) P G t = stepF (execF P G n) P G t
    rw [execT_eq P G n, execF_eq, stepT_eq]
end Go.Ex
