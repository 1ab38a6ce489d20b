/- Part of the proof. -/
import Derived.Test.YteemponkignnhaaGreatEngTm
noncomputable section
namespace Go.Ex
open Go.RowKit
inductive QTask where
  | code (c : Code) (ro : Option Nat) (tm : TM) (H : CH) (df : List Nat)
  | call (f : FuncId) (args : Array Value) (H : CH)
  | round (l : Nat) (args : Array Value) (H : CH)
inductive QRes where
  | ex (x : CX) (tm : TM) (H : CH) (df : List Nat)
  | val (v : Value) (H : CH)
def QTask.abs : QTask → Task
  | .code c ro tm H df => .code c ro (absT tm) H df
  | .call f args H => .call f args H
  | .round l args H => .round l args H
def QRes.abs : QRes → Res
  | .ex x tm H df => .ex x (absT tm) H df
  | .val v H => .val v H
def SelfQ (q : QTask → Option QRes) (self : Task → Option Res) : Prop := ∀ t r, q t = some r → self t.abs = some r.abs
section
variable (P : Program) (G : Nat)
def binE (slow : Option (Value × CH)) (e : Operand → Value) (H : CH) (op : BinOp) (x y : Operand) : Option (Value × CH) :=
  match binF op (e x) (e y) with
  | some v => cond (okOpd G x && okOpd G y) (some (v, H)) none
  | none => slow
def moveE (e : Operand → Value) (H : CH) (x : Operand) : Option (Value × CH) := cond (okOpd G x) (some (e x, H)) none
def pickV (e : Operand → Value) (H : CH) (a b : Operand) (v : Value) : Option (Value × CH) :=
  match v with
  | .bool t => some (cond t (e a) (e b), H)
  | _ => none
def pickE (e : Operand → Value) (H : CH) (c a b : Operand) : Option (Value × CH) := cond (okOpd G c && (okOpd G a && okOpd G b)) (pickV e H a b (e c)) none
def fieldAddrE (e : Operand → Value) (H : CH) (t : TypeId) (x : Operand) (f : Nat) : Option (Value × CH) := cond (okOpd G x) ((fieldAtS P t (e x) f).map (·, H)) none
def indexAddrV (H : CH) (t : TypeId) (v i : Value) : Option (Value × CH) :=
  match i with
  | .int _ n => (indexAtS P t v n).map (·, H)
  | _ => none
def indexAddrE (e : Operand → Value) (H : CH) (t : TypeId) (x i : Operand) : Option (Value × CH) := cond (okOpd G x && okOpd G i) (indexAddrV P H t (e x) (e i)) none
def extractV (H : CH) (i : Nat) (v : Value) : Option (Value × CH) :=
  match v with
  | .tuple vs => vs[i]?.map (·, H)
  | _ => none
def extractE (e : Operand → Value) (H : CH) (x : Operand) (i : Nat) : Option (Value × CH) := cond (okOpd G x) (extractV H i (e x)) none
def indexI (H : CH) (t : TypeId) (cs : Array Value) (i : Value) : Option (Value × CH) :=
  match i with
  | .int _ n => indexVF P H t cs n
  | _ => none
def indexE (slow : Option (Value × CH)) (e : Operand → Value) (H : CH) (t : TypeId) (x i : Operand) : Option (Value × CH) :=
  match e x with
  | .agg cs => cond (okOpd G x && okOpd G i) (indexI P H t cs (e i)) none
  | _ => slow
def opE3 (slow : Option (Value × CH)) (e : Operand → Value) (H : CH) (o : Op) (n : Nat) : Option (Value × CH) :=
  cond (Nat.beq n 4) (fieldAddrE P G e H (typeOf o) (arg1 o) (numOf o))
    (cond (Nat.beq n 6) (extractE G e H (arg1 o) (numOf o))
      (cond (Nat.beq n 8) (indexE P G slow e H (typeOf o) (arg1 o) (arg2 o))
        (cond (Nat.beq n 9) (quickOr (cond (okOpd G (arg1 o) && okOpd G (arg2 o)) (storeAtF P G H (typeOf o) (e (arg1 o)) (e (arg2 o))) none) slow)
          slow)))
def opE2 (slow call : Option (Value × CH)) (e : Operand → Value) (H : CH) (o : Op) (n : Nat) : Option (Value × CH) :=
  cond (Nat.beq n 3) (quickOr (cond (okOpd G (arg1 o)) (loadAtF2 P H (typeOf o) (e (arg1 o))) none) slow)
    (cond (Nat.beq n 5) (indexAddrE P G e H (typeOf o) (arg1 o) (arg2 o))
      (cond (Nat.beq n 7) call
        (cond (Nat.beq n 2) (pickE G e H (arg1 o) (arg2 o) (arg3 o)) (opE3 P G slow e H o n))))
def opE1 (slow call : Option (Value × CH)) (e : Operand → Value) (H : CH) (o : Op) (n : Nat) : Option (Value × CH) :=
  cond (Nat.beq n 0) (moveE G e H (arg1 o))
    (cond (Nat.beq n 1) (binE G slow e H (binOf o) (arg1 o) (arg2 o)) (opE2 P G slow call e H o n))
theorem cond_mono {α : Type} {b : Bool} {x y x' y' : Option α} (hx : ∀ r, x = some r → x' = some r) (hy : ∀ r, y = some r → y' = some r) (r : α) (h : cond b x y = some r) : cond b x' y' = some r := by
  cases b with
  | true => exact hx r h
  | false => exact hy r h
theorem quickOr_mono {q s s' : Option (Value × CH)} (h : ∀ r, s = some r → s' = some r) (r : Value × CH) (hq : quickOr q s = some r) : quickOr q s' = some r := by
  cases q with
  | none => exact h r hq
  | some u => exact hq
theorem opE1_mono {slow slow' call call' : Option (Value × CH)} (hs : ∀ r, slow = some r → slow' = some r) (hc : ∀ r, call = some r → call' = some r) {e : Operand → Value} {H : CH} {o : Op} {n : Nat} (r : Value × CH)
    (h : opE1 P G slow call e H o n = some r) : opE1 P G slow' call' e H o n = some r := by
  revert h
  unfold opE1
  refine cond_mono (fun _ h => h) (cond_mono ?_ ?_) r
  · intro r h
    unfold binE at h ⊢
    split at h
    · exact h
    · exact hs r h
  · unfold opE2
    refine cond_mono (quickOr_mono hs) (cond_mono (fun _ h => h) (cond_mono hc (cond_mono (fun _ h => h) ?_)))
    unfold opE3
    refine cond_mono (fun _ h => h) (cond_mono (fun _ h => h) (cond_mono ?_ (cond_mono (quickOr_mono hs) hs)))
    intro r h
    unfold indexE at h ⊢
    split at h
    · exact h
    · exact hs r h
theorem opE1_eq (self : Task → Option Res) (tm : Array Value) (H : CH) (o : Oper) : opE1 P G (slowF self P G tm H o) (opX self P G tm H o) (ev tm) H o.op (tagOf o.op) = opX self P G tm H o := by
  rw [← opF_eq, ← opT_eq]
  obtain ⟨dst, op, type, pos, after, guard⟩ := o
  cases op <;> first
    | rfl
    | skip
  case call c =>
    obtain ⟨callee, args, ts⟩ := c
    cases callee with
    | value f => rfl
    | invoke r m => rfl
    | builtin b => rfl
end
theorem opX_none_mono {self : Task → Option Res} {P : Program} {G : Nat} {tm : Array Value} {H : CH} {o : Oper} {r : Value × CH} (h : opX (fun _ => none) P G tm H o = some r) : opX self P G tm H o = some r := by
  unfold opX at h ⊢
  split at h
  case isFalse => cases h
  rename_i hall
  rw [if_pos hall]
  split at h
  · cases h
  · rename_i f args ts hop
    split at h
    · rename_i g first cap hf
      cases hfn : P.funcs[g]? with
      | none => rw [hfn] at h; cases h
      | some fn =>
        rw [hfn] at h
        dsimp only at h ⊢
        split at h
        · cases h
        · rename_i hn
          rw [if_neg hn]
          split at h
          · rename_i hb; rw [if_pos hb]; exact h
          · cases h
    · split at h <;> cases h
    · cases h
  · exact h
section
variable (q : QTask → Option QRes) (P : Program) (G : Nat)
def valOfQ (r : Option QRes) : Option (Value × CH) :=
  match r with
  | some (.val v H') => some (v, H')
  | _ => none
def externE (e : Operand → Value) (H : CH) (o : Oper) (f : Operand) (args : Array Operand) : Option (Value × CH) :=
  match e f with
  | .func (.func g) first cap => match P.funcs[g]? with
    | some fn => if fn.name == "runtime.NumGoroutine" then none
      else if fn.body.isNone then match pureS P e o with
        | some v => some (v, H)
        | none => if fn.name == "internal/abi.NoEscape" && fn.origin == "" && (first.isEmpty && cap.isEmpty) then match args.toList with
            | [x] => some (e x, H)
            | _ => none
          else none
      else none
    | none => none
  | _ => none
def slowE (e : Operand → Value) (H : CH) (o : Oper) : Option (Value × CH) :=
  cond (o.op.operands.toList.all (okOpd G)) (match o.op with
    | .defer _ => none
    | .call { callee := .value f, args, argTypes := _ } => externE P e H o f args
    | _ => opS P G H e o) none
theorem slowE_sound {tm : Array Value} {H : CH} {o : Oper} {r : Value × CH} (h : slowE P G (ev tm) H o = some r) : opX (fun _ => none) P G tm H o = some r := by
  obtain ⟨dst, op, type, pos, after, guard⟩ := o
  unfold slowE at h
  rw [cond_eq] at h
  split at h
  case isFalse => cases h
  rename_i hall
  unfold opX
  rw [if_pos hall]
  cases op <;> first
    | exact h
    | skip
  case call c =>
    obtain ⟨callee, args, ts⟩ := c
    cases callee with
    | builtin b => exact h
    | invoke r m => exact h
    | value f =>
      have h2 : externE P (ev tm) H ⟨dst, .call { callee := .value f, args := args, argTypes := ts }, type, pos, after, guard⟩ f args = some r := h
      unfold externE at h2
      dsimp only
      split at h2
      · rename_i g first cap hev
        simp only [hev]
        split at h2
        · rename_i fn hfn
          simp only [hfn]
          split at h2
          · cases h2
          · rename_i hn
            rw [if_neg hn]
            split at h2
            · rename_i hb
              rw [if_pos hb]
              exact h2
            · cases h2
        · cases h2
      · cases h2
def slowQ (tm : TM) (H : CH) (o : Oper) : Option (Value × CH) := slowE P G (evH tm) H o
theorem slowQ_sound {tm : TM} {H : CH} {o : Oper} {r : Value × CH} (h : slowQ P G tm H o = some r) : opX (fun _ => none) P G (absT tm) H o = some r := by
  unfold slowQ at h
  rw [evH_fun] at h
  exact slowE_sound P G h
def callFnQ (tm : TM) (H : CH) (o : Oper) (g : FuncId) (first cap : Array Value) (args : Array Operand) (fn : Func) : Option (Value × CH) :=
  match fn.body with
  | none => slowQ P G tm H o
  | some _ => cond (fn.name == "runtime.NumGoroutine") none (cond (args.toList.all (okOpd G)) (valOfQ (q (.call g ⟨first.toList ++ ((args.toList.map (evH tm)) ++ cap.toList)⟩ H))) none)
def callVQ (tm : TM) (H : CH) (o : Oper) (args : Array Operand) (v : Value) : Option (Value × CH) :=
  match v with
  | .func (.func g) first cap => match P.funcs[g]? with
    | some fn => callFnQ q P G tm H o g first cap args fn
    | none => none
  | .func (.yield l) first cap => cond (first.isEmpty && (cap.isEmpty && args.toList.all (okOpd G))) (valOfQ (q (.round l ⟨args.toList.map (evH tm)⟩ H))) none
  | _ => none
def callQ (tm : TM) (H : CH) (o : Oper) : Option (Value × CH) := cond (okOpd G (arg1 o.op)) (callVQ q P G tm H o (argsOf o.op) (evH tm (arg1 o.op))) none
def opQ (tm : TM) (H : CH) (o : Oper) : Option (Value × CH) := opE1 P G (slowQ P G tm H o) (callQ q P G tm H o) (evH tm) H o.op (tagOf o.op)
end
theorem valOfQ_abs {q : QTask → Option QRes} {self : Task → Option Res} (hq : SelfQ q self) {t : QTask} {v : Value} {H : CH} (h : valOfQ (q t) = some (v, H)) : self t.abs = some (.val v H) := by
  unfold valOfQ at h
  split at h
  · rename_i v' H' ht
    cases h
    exact hq _ _ ht
  · cases h
theorem callQ_sound {q : QTask → Option QRes} {self : Task → Option Res} (hq : SelfQ q self) {P : Program} {G : Nat} {tm : TM} {H : CH} {o : Oper} {f : Operand} {args : Array Operand} {ts : Array TypeId} (ho : o.op = .call { callee := .value f, args := args, argTypes := ts })
    {r : Value × CH} (h : callQ q P G tm H o = some r) : opX self P G (absT tm) H o = some r := by
  obtain ⟨dst, op, type, pos, after, guard⟩ := o
  change op = _ at ho
  subst ho
  have h' : cond (okOpd G f) (callVQ q P G tm H ⟨dst, .call { callee := .value f, args := args, argTypes := ts }, type, pos, after, guard⟩ args (evH tm f)) none = some r := h
  rw [cond_eq] at h'
  split at h'
  case isFalse => cases h'
  rename_i hf
  rw [evH_fun] at h'
  unfold callVQ at h'
  have hall : args.toList.all (okOpd G) = true → ((Op.call { callee := .value f, args := args, argTypes := ts }).operands.toList.all (okOpd G)) = true := by
    intro ha
    simp only [Op.operands, Call.operands, Array.toList_append, List.all_append, ha]; simp [hf]
  split at h'
  · rename_i g first cap hev
    split at h'
    case h_2 => cases h'
    rename_i fn hfn
    unfold callFnQ at h'
    split at h'
    · exact opX_none_mono (slowQ_sound P G h')
    · rename_i c hb
      rw [cond_eq] at h'
      split at h'
      case isTrue => cases h'
      rename_i hn
      rw [cond_eq] at h'
      split at h'
      case isFalse => cases h'
      rename_i ha
      obtain ⟨v, H'⟩ := r
      have hs := valOfQ_abs hq h'
      unfold opX
      rw [if_pos (hall ha)]
      simp only [hev, hfn]
      rw [if_neg hn, if_neg (by rw [hb]; simp)]
      have : (⟨first.toList ++ ((args.toList.map (evH tm)) ++ cap.toList)⟩ : Array Value) = first ++ args.map (ev (absT tm)) ++ cap := by
        apply Array.toList_inj.1
        rw [evH_fun]
        simp
      rw [← this]
      have hs' : self (.call g ⟨first.toList ++ ((args.toList.map (evH tm)) ++ cap.toList)⟩ H) = some (.val v H') := hs
      rw [hs']
  · rename_i l first cap hev
    rw [cond_eq] at h'
    split at h'
    case isFalse => cases h'
    rename_i hc
    rw [Bool.and_eq_true, Bool.and_eq_true] at hc
    obtain ⟨v, H'⟩ := r
    have hs := valOfQ_abs hq h'
    unfold opX
    rw [if_pos (hall hc.2.2)]
    simp only [hev]
    rw [if_pos (by rw [hc.1, hc.2.1]; rfl)]
    have : (⟨args.toList.map (evH tm)⟩ : Array Value) = args.map (ev (absT tm)) := by
      apply Array.toList_inj.1
      rw [evH_fun]
      simp
    rw [← this]
    have hs' : self (.round l ⟨args.toList.map (evH tm)⟩ H) = some (.val v H') := hs
    rw [hs']
  · cases h'
theorem opQ_sound {q : QTask → Option QRes} {self : Task → Option Res} (hq : SelfQ q self) {P : Program} {G : Nat} {tm : TM} {H : CH} {o : Oper} {r : Value × CH} (h : opQ q P G tm H o = some r) : opX self P G (absT tm) H o = some r := by
  unfold opQ at h
  by_cases hc : ∃ f args ts, o.op = .call { callee := .value f, args := args, argTypes := ts }
  · obtain ⟨f, args, ts, ho⟩ := hc
    have : opE1 P G (slowQ P G tm H o) (callQ q P G tm H o) (evH tm) H o.op (tagOf o.op) = callQ q P G tm H o := by
      rw [ho]; rfl
    rw [this] at h
    exact callQ_sound hq ho h
  · rw [evH_fun] at h
    rw [← opE1_eq]
    have htag : tagOf o.op ≠ 7 := by
      intro ht
      apply hc
      obtain ⟨dst, op, type, pos, after, guard⟩ := o
      cases op <;> first
        | (simp [tagOf] at ht; done)
        | skip
      case call c =>
        obtain ⟨callee, args, ts⟩ := c
        cases callee with
        | value f => exact ⟨f, args, ts, rfl⟩
        | invoke r m => simp [tagOf] at ht
        | builtin b => simp [tagOf] at ht
    have h7 : Nat.beq (tagOf o.op) 7 = false := by
      cases hb : Nat.beq (tagOf o.op) 7 with
      | false => rfl
      | true => exact absurd (Nat.eq_of_beq_eq_true hb) htag
    have swap : ∀ c1 c2 : Option (Value × CH), opE1 P G (slowQ P G tm H o) c1 (ev (absT tm)) H o.op (tagOf o.op) = opE1 P G (slowQ P G tm H o) c2 (ev (absT tm)) H o.op (tagOf o.op) := by
      intro c1 c2
      unfold opE1 opE2
      rw [h7]
      rfl
    rw [swap _ (opX self P G (absT tm) H o)] at h
    exact opE1_mono P G (fun r hr => opX_none_mono (slowQ_sound P G hr)) (fun r hr => hr) r h
end Go.Ex
/- Engine, part 24: regions and statements over a tree of temporaries. -/
noncomputable section
namespace Go.Ex
open Go.RowKit
def guardQ (ops : Array Oper) (tm : TM) (j : Nat) (w : Bool) : Bool :=
  match (ops[j]?).bind (·.dst) with
  | some d => boolIs (tval tm d) w
  | none => false
def wantQ (ops : Array Oper) (tm : TM) (o : Oper) : Bool :=
  match o.guard with
  | none => true
  | some (j, w) => guardQ ops tm j w
theorem wantQ_eq (ops : Array Oper) (tm : TM) (o : Oper) : wantQ ops tm o = Region.wanted o (yielded ops (absT tm)) := by
  rw [← wantF_eq]
  unfold wantQ wantF
  cases o.guard with
  | none => rfl
  | some g =>
    show guardQ ops tm _ _ = guardF ops (absT tm) _ _
    unfold guardQ guardF
    cases (ops[g.1]?).bind (·.dst) with
    | none => rfl
    | some d =>
      show boolIs (tval tm d) _ = boolIs (getL (absL tm) d) _
      rw [tval_eq]
def gkQ (ops : Array Oper) (tm : TM) (o : Oper) : Bool :=
  match o.guard with
  | none => true
  | some g => match (ops[g.1]?).bind (·.dst) with
    | some d => nw (tval tm d)
    | none => true
theorem gkQ_eq (ops : Array Oper) (tm : TM) (o : Oper) : gkQ ops tm o = gk ops (absT tm) o := by
  unfold gkQ gk
  cases o.guard with
  | none => rfl
  | some g =>
    dsimp only
    cases (ops[g.1]?).bind (·.dst) with
    | none => rfl
    | some d =>
      dsimp only
      rw [tval_eq, getL_eq]
      rfl
section
variable (op : TM → CH → Oper → Option (Value × CH)) (ops : Array Oper)
def afterQ (o : Oper) (ih : TM → CH → Option (TM × CH)) (tm : TM) (r : Option (Value × CH)) : Option (TM × CH) :=
  match r with
  | some (v, H') => ih (putH tm o.dst v) H'
  | none => none
def opsStepQ (o : Oper) (ih : TM → CH → Option (TM × CH)) (tm : TM) (H : CH) : Option (TM × CH) :=
  cond (wantQ ops tm o) (afterQ o ih tm (op tm H o)) (cond (gkQ ops tm o) (ih (putH tm o.dst undef) H) none)
noncomputable def opsQ (l : List Oper) : TM → CH → Option (TM × CH) :=
  List.rec (motive := fun _ => TM → CH → Option (TM × CH)) (fun tm H => some (tm, H)) (fun o _ ih tm H => opsStepQ op ops o ih tm H) l
abbrev TrQ := List (TM × CH × Value) × TM × CH
def consQ (tm : TM) (H : CH) (v : Value) (r : Option TrQ) : Option TrQ :=
  match r with
  | some (tr, tm', H') => some ((tm, H, v) :: tr, tm', H')
  | none => none
def afterTQ (o : Oper) (ih : TM → CH → Option TrQ) (tm : TM) (H : CH) (r : Option (Value × CH)) : Option TrQ :=
  match r with
  | some (v, H') => consQ tm H v (ih (putH tm o.dst v) H')
  | none => none
def trStepQ (o : Oper) (ih : TM → CH → Option TrQ) (tm : TM) (H : CH) : Option TrQ :=
  cond (wantQ ops tm o) (afterTQ o ih tm H (op tm H o)) (cond (gkQ ops tm o) (consQ tm H undef (ih (putH tm o.dst undef) H)) none)
noncomputable def trQ (l : List Oper) : TM → CH → Option TrQ :=
  List.rec (motive := fun _ => TM → CH → Option TrQ) (fun tm H => some ([], tm, H)) (fun o _ ih tm H => trStepQ op ops o ih tm H) l
def heapQ (tr : List (TM × CH × Value)) (H' : CH) (p : Nat) : CH :=
  match tr[p]? with
  | some (_, H, _) => H
  | none => H'
def checkQ (P : Program) (A : List Nat) (tr : List (TM × CH × Value)) (H' : CH) (i : Nat) (o : Oper) (tm : TM) (v : Value) : Bool :=
  kindOf P o.op != 1 || (!wantQ ops tm o || (alts P ops A i).all fun p => sameAs (op tm (heapQ tr H' p) o) v)
def recheckQ (P : Program) (A : List Nat) (tr : List (TM × CH × Value)) (H' : CH) : Bool :=
  (List.range ops.size).all fun i => match ops[i]?, tr[i]? with
    | some o, some (tm, _, v) => checkQ op ops P A tr H' i o tm v
    | _, _ => false
def drawEndQ (P : Program) (r : Option TrQ) : Option (TM × CH) :=
  match r with
  | some (tr, tm', H') => cond (recheckQ op ops P (ancs ops) tr H') (some (tm', H')) none
  | none => none
noncomputable def drawQ (P : Program) (tm : TM) (H : CH) : Option (TM × CH) :=
  cond (P.follows .mixedOrders && ordOk P ops (ancs ops)) (drawEndQ op ops P (trQ op ops ops.toList tm H)) none
end
def absE (x : TM × CH × Value) : Array Value × CH × Value := (absT x.1, x.2.1, x.2.2)
theorem heapQ_eq (tr : List (TM × CH × Value)) (H' : CH) (p : Nat) : heapAt (tr.map absE) H' p = heapQ tr H' p := by
  unfold heapAt heapQ
  rw [List.getElem?_map]
  cases tr[p]? <;> rfl
section
variable {q : QTask → Option QRes} {self : Task → Option Res} {P : Program} {G : Nat} {ops : Array Oper}
theorem opsQ_sound (hq : SelfQ q self) : ∀ (l : List Oper) (tm : TM) (H : CH) (tm' : TM) (H' : CH), opsQ (opQ q P G) ops l tm H = some (tm', H') → opsG (opX self P G) ops l (absT tm) H = some (absT tm', H')
  | [], tm, H, tm', H', h => by cases h; rfl
  | o :: r, tm, H, tm', H', h => by
    have h' : opsStepQ (opQ q P G) ops o (opsQ (opQ q P G) ops r) tm H = some (tm', H') := h
    show opsStep (opX self P G) ops o (opsG (opX self P G) ops r) (absT tm) H = _
    unfold opsStepQ at h'
    unfold opsStep
    rw [wantF_eq, ← wantQ_eq]
    cases hw : wantQ ops tm o with
    | true =>
      rw [hw] at h'
      have h'' : afterQ o (opsQ (opQ q P G) ops r) tm (opQ q P G tm H o) = some (tm', H') := h'
      show afterF o (opsG (opX self P G) ops r) (absT tm) (opX self P G (absT tm) H o) = _
      unfold afterQ at h''
      split at h''
      · rename_i v H1 hop
        rw [opQ_sound hq hop]
        show opsG (opX self P G) ops r (put (absT tm) o.dst v) H1 = _
        rw [← putH_abs]
        exact opsQ_sound hq r _ _ _ _ h''
      · cases h''
    | false =>
      rw [hw] at h'
      cases hg : gkQ ops tm o with
      | false => rw [hg] at h'; cases h'
      | true =>
      rw [hg] at h'
      show cond (gk ops (absT tm) o) (opsG (opX self P G) ops r (put (absT tm) o.dst undef) H) none = _
      rw [← gkQ_eq, hg, ← putH_abs]
      exact opsQ_sound hq r _ _ _ _ h'
theorem trQ_sound (hq : SelfQ q self) : ∀ (l : List Oper) (tm : TM) (H : CH) (tr : List (TM × CH × Value)) (tm' : TM) (H' : CH), trQ (opQ q P G) ops l tm H = some (tr, tm', H') → textRun self P G ops l (absT tm) H = some (tr.map absE, absT tm', H')
  | [], tm, H, tr, tm', H', h => by cases h; rfl
  | o :: r, tm, H, tr, tm', H', h => by
    have h' : trStepQ (opQ q P G) ops o (trQ (opQ q P G) ops r) tm H = some (tr, tm', H') := h
    have fin : ∀ (v : Value) (H1 : CH), consQ tm H v (trQ (opQ q P G) ops r (putH tm o.dst v) H1) = some (tr, tm', H') →
        ∃ tr1, textRun self P G ops r (put (absT tm) o.dst v) H1 = some (tr1, absT tm', H') ∧ (absT tm, H, v) :: tr1 = tr.map absE := by
      intro v H1 hc
      unfold consQ at hc
      split at hc
      · rename_i tr1 tm1 H2 hr
        cases hc
        have := trQ_sound hq r _ _ _ _ _ hr
        rw [putH_abs] at this
        exact ⟨_, this, rfl⟩
      · cases hc
    unfold trStepQ at h'
    simp only [textRun]
    rw [← wantQ_eq]
    cases hw : wantQ ops tm o with
    | true =>
      rw [hw] at h'
      have h'' : afterTQ o (trQ (opQ q P G) ops r) tm H (opQ q P G tm H o) = some (tr, tm', H') := h'
      unfold afterTQ at h''
      split at h''
      · rename_i v H1 hop
        obtain ⟨tr1, h1, h2⟩ := fin v H1 h''
        rw [if_pos rfl, opQ_sound hq hop]
        dsimp only
        rw [h1, ← h2]
      · cases h''
    | false =>
      rw [hw] at h'
      cases hg : gkQ ops tm o with
      | false => rw [hg] at h'; cases h'
      | true =>
      rw [hg] at h'
      obtain ⟨tr1, h1, h2⟩ := fin undef H h'
      rw [if_neg (by simp), if_pos (by rw [← gkQ_eq]; exact hg), h1, ← h2]
theorem recheckQ_sound (hq : SelfQ q self) {A : List Nat} {tr : List (TM × CH × Value)} {H' : CH} (h : recheckQ (opQ q P G) ops P A tr H' = true) : recheck self P G ops A (tr.map absE) H' = true := by
  unfold recheck
  rw [List.all_eq_true]
  intro i hi
  have h1 := List.all_eq_true.1 h i hi
  rw [List.getElem?_map]
  cases ho : ops[i]? with
  | none => rw [ho] at h1; cases h1
  | some o =>
    rw [ho] at h1
    cases ht : tr[i]? with
    | none => rw [ht] at h1; cases h1
    | some t =>
      rw [ht] at h1
      obtain ⟨tm, H, v⟩ := t
      have h2 : checkQ (opQ q P G) ops P A tr H' i o tm v = true := h1
      unfold checkQ at h2
      show (kindOf P o.op != 1 || !Region.wanted o (yielded ops (absT tm)) || (alts P ops A i).all fun p => sameAs (opX self P G (absT tm) (heapAt (tr.map absE) H' p) o) v) = true
      rw [← wantQ_eq, Bool.or_assoc]
      rw [Bool.or_eq_true, Bool.or_eq_true] at h2 ⊢
      rcases h2 with h2 | h2 | h2
      · exact .inl h2
      · exact .inr (.inl h2)
      · refine .inr (.inr ?_)
        rw [List.all_eq_true] at h2 ⊢
        intro p hp
        have h3 := h2 p hp
        rw [heapQ_eq]
        unfold sameAs at h3
        split at h3
        · rename_i v' H2 hop
          rw [opQ_sound hq hop]
          exact h3
        · cases h3
theorem drawQ_sound (hq : SelfQ q self) {tm tm' : TM} {H H' : CH} (h : drawQ (opQ q P G) ops P tm H = some (tm', H')) : drawX self P G ops (absT tm) H = some (absT tm', H') := by
  unfold drawQ at h
  rw [cond_eq] at h
  split at h
  case isFalse => cases h
  rename_i hc
  unfold drawX
  rw [if_pos hc]
  unfold drawEndQ at h
  split at h
  · rename_i tr tm1 H1 hr
    rw [cond_eq] at h
    split at h
    case isFalse => cases h
    rename_i hre
    cases h
    rw [trQ_sound hq _ _ _ _ _ _ hr]
    dsimp only
    rw [if_pos (recheckQ_sound hq hre)]
  · cases h
end
end Go.Ex
/- Engine, part 25: the executor over trees of temporaries. -/
noncomputable section
namespace Go.Ex
open Go.RowKit
section
variable {s1 s2 : Task → Option Res} {P : Program} {G : Nat}
theorem rangeX_mono (hm : ∀ t r, s1 t = some r → s2 t = some r) {fn0 : FuncId} {g : Operand} {ps : Array Tmp} {assign body : Code} {ro : Option Nat} {tm : Array Value} {H : CH} {df : List Nat} {r : Res} (h : rangeX s1 P G fn0 g ps assign body ro tm H df = some r) : rangeX s2 P G fn0 g ps assign body ro tm H df = some r := by
  unfold rangeX at h ⊢
  dsimp only at h ⊢
  split at h
  case h_1 => cases h
  rename_i H1 df1 d hst
  try rw [hst]
  try dsimp only
  split at h
  case isFalse => cases h
  rename_i hok
  try rw [if_pos hok]
  split at h
  case h_2 => cases h
  rename_i k first cap hev
  try rw [hev]
  try dsimp only
  split at h
  case h_2 => cases h
  rename_i fn hfn
  try rw [hfn]
  try dsimp only
  split at h
  case isTrue => cases h
  rename_i hn
  try rw [if_neg hn]
  split at h
  case isTrue => cases h
  rename_i hb
  try rw [if_neg hb]
  split at h
  case h_2 => cases h
  rename_i v3 H3 hc
  try rw [hm _ _ hc]
  try dsimp only
  split at h
  case h_2 => cases h
  rename_i r3 hr3
  try rw [hr3]
  try dsimp only
  split at h
  case isTrue => cases h
  rename_i hbusy
  try rw [if_neg hbusy]
  split at h
  · exact h
  · exact hm _ _ h
theorem roundX_mono (hm : ∀ t r, s1 t = some r → s2 t = some r) {l : Nat} {args : Array Value} {H : CH} {r : Res} (h : roundX s1 G l args H = some r) : roundX s2 G l args H = some r := by
  unfold roundX at h ⊢
  split at h
  case isFalse => cases h
  rename_i hG
  try rw [if_pos hG]
  split at h
  case h_2 => cases h
  rename_i r0 hr0
  try rw [hr0]
  try dsimp only
  split at h
  case isFalse => cases h
  rename_i hsz
  try rw [if_pos hsz]
  split at h
  case h_2 => cases h
  rename_i tm1 H1 df1 ha
  try rw [hm _ _ ha]
  try dsimp only
  split at h
  case h_2 => cases h
  rename_i r1 hr1
  try rw [hr1]
  try dsimp only
  split at h
  case isFalse => cases h
  rename_i hready
  try rw [if_pos hready]
  split at h
  case h_2 => cases h
  rename_i x tm2 H3 df3 hb
  try rw [hm _ _ hb]
  exact h
end
section
variable (q : QTask → Option QRes) (P : Program) (G : Nat)
def absO (r : Option QRes) : Option Res :=
  match r with
  | some r => some r.abs
  | none => none
def selfA (t : Task) : Option Res :=
  match t with
  | .code c ro tm H df => absO (q (.code c ro (ofArr tm) H df))
  | .call f args H => absO (q (.call f args H))
  | .round l args H => absO (q (.round l args H))
def toQ (r : Option Res) : Option QRes :=
  match r with
  | some (.ex x tm H df) => some (.ex x (ofArr tm) H df)
  | some (.val v H) => some (.val v H)
  | none => none
def seqQ (b : Code) (ro : Option Nat) (r : Option QRes) : Option QRes :=
  match r with
  | some (.ex .normal tm1 H1 df1) => q (.code b ro tm1 H1 df1)
  | r => r
def condQ (x y : Code) (ro : Option Nat) (tm : TM) (H : CH) (df : List Nat) (v : Value) : Option QRes :=
  match v with
  | .bool b => q (.code (cond b x y) ro tm H df)
  | _ => none
def blockQ (id : Nat) (r : Option QRes) : Option QRes :=
  match r with
  | some (.ex (.exit id') tm1 H1 df1) => some (.ex (if id' = id then .normal else .exit id') tm1 H1 df1)
  | r => r
def normalQ (df : List Nat) (r : Option (TM × CH)) : Option QRes :=
  match r with
  | some (tm1, H1) => some (.ex .normal tm1 H1 df)
  | none => none
noncomputable def regionQ (ops : Array Oper) (d : Bool) (tm : TM) (H : CH) : Option (TM × CH) :=
  cond d (drawQ (opQ q P G) ops P tm H) (opsQ (opQ q P G) ops ops.toList tm H)
noncomputable def codeQ (c : Code) (ro : Option Nat) (tm : TM) (H : CH) (df : List Nat) : Option QRes :=
  match c with
  | .skip => some (.ex .normal tm H df)
  | .label _ => some (.ex .normal tm H df)
  | .seq a b => seqQ q b ro (q (.code a ro tm H df))
  | .cond o x y => cond (okOpd G o) (condQ q x y ro tm H df (evH tm o)) none
  | .block id b => blockQ id (q (.code b ro tm H df))
  | .loop b => seqQ q (.loop b) ro (q (.code b ro tm H df))
  | .scope b => q (.code b ro tm H df)
  | .exit id => some (.ex (.exit id) tm H df)
  | .ret => some (.ex .ret tm H df)
  | .region _ ops d => normalQ df (regionQ q P G ops d tm H)
  | .rangeFunc g ps assign body => toQ (rangeX (selfA q) P G 0 g ps assign body ro (absT tm) H df)
  | _ => none
def resultQ (tm : TM) (H : CH) (r : ResultVar) : Option Value :=
  match r with
  | .tmp t => some (tval tm t)
  | .cell a t => match tval tm a with
    | .pointer (some ⟨b, off, none⟩) => loadS P H t b off
    | _ => none
def resultsQ (tm : TM) (H : CH) : List ResultVar → Option (List Value)
  | [] => some []
  | r :: rs => match resultQ P tm H r with
    | some v => (resultsQ tm H rs).map (v :: ·)
    | none => none
def valQ (fn : Func) (tm : TM) (H : Option CH) : Option QRes :=
  match H with
  | some H2 => (resultsQ P tm H2 fn.results.toList).map fun vs => .val (oneOrTuple vs) H2
  | none => none
def endQ (fn : Func) (r : Option QRes) : Option QRes :=
  match r with
  | some (.ex x tm H1 df) => match x with
    | .exit _ => none
    | _ => valQ P fn tm (closeS G H1 df)
  | _ => none
def enterQ (fn : Func) (args : Array Value) (H : CH) : Option QRes :=
  match fn.body with
  | some c => endQ P G fn (q (.code c none (ofArgs args.toList fn.ntmps) H []))
  | none => none
def callXQ (f : FuncId) (args : Array Value) (H : CH) : Option QRes :=
  match P.funcs[f]? with
  | some fn => enterQ q P G fn args H
  | none => none
noncomputable def stepQ (t : QTask) : Option QRes :=
  match t with
  | .code c ro tm H df => codeQ q P G c ro tm H df
  | .call f args H => callXQ q P G f args H
  | .round l args H => toQ (roundX (selfA q) G l args H)
end
theorem toQ_abs {r : Option Res} {u : QRes} (h : toQ r = some u) : r = some u.abs := by
  unfold toQ at h
  split at h
  · cases h
    show _ = some (Res.ex _ (absT (ofArr _)) _ _)
    rw [ofArr_abs]
  · cases h; rfl
  · cases h
theorem result_eq (P : Program) (tm : TM) (H : CH) (r : ResultVar) : resultS P (absT tm) H r = resultQ P tm H r := by
  have hv : ∀ t : Nat, (absT tm).getD t undef = tval tm t := by
    intro t
    rw [tval_eq, getL_eq]
    rfl
  cases r with
  | tmp t => show some ((absT tm).getD t undef) = some (tval tm t); rw [hv]
  | cell a t =>
    show (match (absT tm).getD a undef with
      | .pointer (some ⟨b, off, none⟩) => loadS P H t b off
      | _ => none) = _
    rw [hv]
    rfl
theorem results_eq (P : Program) (tm : TM) (H : CH) : ∀ l : List ResultVar, resultsS P (absT tm) H l = resultsQ P tm H l
  | [] => rfl
  | r :: rs => by
    simp only [resultsS, resultsQ]
    rw [result_eq, results_eq P tm H rs]
    cases resultQ P tm H r <;> rfl
section
variable {q : QTask → Option QRes} {self : Task → Option Res} {P : Program} {G : Nat}
theorem absO_sound (hq : SelfQ q self) {t : QTask} {r : Res} (h : absO (q t) = some r) : self t.abs = some r := by
  unfold absO at h
  split at h
  · rename_i u hu
    cases h
    exact hq _ _ hu
  · cases h
theorem selfA_sound (hq : SelfQ q self) : ∀ t r, selfA q t = some r → self t = some r := by
  intro t r h
  cases t with
  | code c ro tm H df =>
    have := absO_sound hq (t := .code c ro (ofArr tm) H df) h
    have h2 : self (.code c ro (absT (ofArr tm)) H df) = some r := this
    rw [ofArr_abs] at h2
    exact h2
  | call f args H => exact absO_sound hq (t := .call f args H) h
  | round l args H => exact absO_sound hq (t := .round l args H) h
theorem regionQ_sound (hq : SelfQ q self) {ops : Array Oper} {d : Bool} {tm tm' : TM} {H H' : CH} (h : regionQ q P G ops d tm H = some (tm', H')) :
    (if d then drawX self P G ops (absT tm) H else opsX self P G ops (List.range ops.size) (absT tm) H) = some (absT tm', H') := by
  unfold regionQ at h
  cases d with
  | true => exact drawQ_sound hq h
  | false =>
    have h' : opsQ (opQ q P G) ops ops.toList tm H = some (tm', H') := h
    have := opsQ_sound hq _ _ _ _ _ h'
    rw [opsG_eq ops.toList 0 rfl] at this
    rw [if_neg (by simp), List.range_eq_range']
    simpa using this
theorem stepQ_sound (hq : SelfQ q self) : SelfQ (stepQ q P G) (step self P G (drawX self P G)) := by
  intro t r h
  cases t with
  | round l args H =>
    show roundX self G l args H = some r.abs
    exact roundX_mono (selfA_sound hq) (toQ_abs h)
  | call f args H =>
    show callX self P G f args H = some r.abs
    rw [← callXF_eq]
    have h' : callXQ q P G f args H = some r := h
    unfold callXQ at h'
    unfold callXF
    split at h'
    case h_2 => cases h'
    rename_i fn hfn
    rw [hfn]
    dsimp only
    unfold enterQ at h'
    unfold enterF
    split at h'
    case h_2 => cases h'
    rename_i c hc
    rw [hc]
    dsimp only
    unfold endQ at h'
    split at h'
    case h_2 => cases h'
    rename_i x tm H1 df hr
    have hs := hq _ _ hr
    have hs' : self (.code c none (absT (ofArgs args.toList fn.ntmps)) H []) = some (.ex x (absT tm) H1 df) := hs
    rw [ofArgs_abs] at hs'
    rw [hs']
    unfold endF
    have fin : ∀ Ho : Option CH, valQ P fn tm Ho = some r → valF P fn (absT tm) Ho = some r.abs := by
      intro Ho hv
      unfold valQ at hv
      unfold valF
      split at hv
      · obtain ⟨vs, h1, h2⟩ := map_some' hv
        subst h2
        dsimp only
        rw [results_eq, h1]; rfl
      · cases hv
    cases x with
    | exit id => cases h'
    | normal => exact fin _ h'
    | ret => exact fin _ h'
  | code c ro tm H df =>
    have h' : codeQ q P G c ro tm H df = some r := h
    show step self P G (drawX self P G) (.code c ro (absT tm) H df) = some r.abs
    have seqS : ∀ (a b : Code), seqQ q b ro (q (.code a ro tm H df)) = some r → seqF self b ro (self (.code a ro (absT tm) H df)) = some r.abs := by
      intro a b hs
      cases hu : q (.code a ro tm H df) with
      | none => rw [hu] at hs; cases hs
      | some u =>
        rw [hu] at hs
        have ha := hq _ _ hu
        have ha' : self (.code a ro (absT tm) H df) = some u.abs := ha
        rw [ha']
        cases u with
        | val v H' => cases hs; rfl
        | ex x tm1 H1 df1 =>
          cases x with
          | normal => exact hq _ _ hs
          | exit id => cases hs; rfl
          | ret => cases hs; rfl
    rw [← stepF_eq]
    cases c with
    | skip => cases h'; rfl
    | label l => cases h'; rfl
    | exit id => cases h'; rfl
    | ret => cases h'; rfl
    | seq a b => exact seqS a b h'
    | loop b => exact seqS b (.loop b) h'
    | scope b => exact hq _ _ h'
    | cond o x y =>
      have h2 : cond (okOpd G o) (condQ q x y ro tm H df (evH tm o)) none = some r := h'
      show cond (okOpd G o) (condF self x y ro (absT tm) H df (ev (absT tm) o)) none = some r.abs
      rw [cond_eq] at h2 ⊢
      split at h2
      case isFalse => cases h2
      rename_i hok
      rw [if_pos hok, ← evH_fun]
      unfold condQ at h2
      unfold condF
      split at h2
      · rename_i b hv
        rw [hv]
        exact hq _ _ h2
      · cases h2
    | block id b =>
      have h2 : blockQ id (q (.code b ro tm H df)) = some r := h'
      show blockF id (self (.code b ro (absT tm) H df)) = some r.abs
      cases hu : q (.code b ro tm H df) with
      | none => rw [hu] at h2; cases h2
      | some u =>
        rw [hu] at h2
        have ha : self (.code b ro (absT tm) H df) = some u.abs := hq _ _ hu
        rw [ha]
        cases u with
        | val v H' => cases h2; rfl
        | ex x tm1 H1 df1 =>
          cases x with
          | normal => cases h2; rfl
          | exit id => cases h2; rfl
          | ret => cases h2; rfl
    | region id ops d =>
      have h2 : normalQ df (regionQ q P G ops d tm H) = some r := h'
      rw [stepF_eq]
      simp only [step]
      unfold normalQ at h2
      split at h2
      · rename_i tm1 H1 hr
        cases h2
        rw [regionQ_sound hq hr]
        rfl
      · cases h2
    | rangeFunc g ps assign body =>
      show rangeX self P G 0 g ps assign body ro (absT tm) H df = some r.abs
      exact rangeX_mono (selfA_sound hq) (toQ_abs h')
    | _ => cases h'
end
noncomputable def execQ (P : Program) (G : Nat) (n : Nat) : QTask → Option QRes :=
  Nat.rec (motive := fun _ => QTask → Option QRes) (fun _ => none) (fun _ f => stepQ f P G) n
theorem execQ_sound (P : Program) (G : Nat) : ∀ n, SelfQ (execQ P G n) (execS P G n)
  | 0 => fun t r h => by cases h
  | n + 1 => stepQ_sound (execQ_sound P G n)
end Go.Ex
