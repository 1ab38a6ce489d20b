/- Engine, part 23: operations and regions over a tree of temporaries. -/
import Derived.Test.YtdnogbdfiahcaaaGreatEngTm
noncomputable section
namespace Go.Ex
open Go.RowKit

inductive QTask where
  | code (c : Code) (ro : Option Nat) (tm : TM) (H : CH) (df : List Nat)
  | call (f : FuncId) (args : Array Value) (H : CH)
  | round (l : Nat) (args : Array Value) (H : CH)
inductive QRes where
  | ex (x : CX) (tm : TM) (H : CH) (df : List Nat)
  | val (v : Value) (H : CH)
def QTask.abs : QTask → Task
  | .code c ro tm H df => .code c ro (absT tm) H df
  | .call f args H => .call f args H
  | .round l args H => .round l args H
def QRes.abs : QRes → Res
  | .ex x tm H df => .ex x (absT tm) H df
  | .val v H => .val v H
def SelfQ (q : QTask → Option QRes) (self : Task → Option Res) : Prop := ∀ t r, q t = some r → self t.abs = some r.abs

/-! ### one operation -/
section
variable (P : Program) (G : Nat)
def binE (slow : Option (Value × CH)) (e : Operand → Value) (H : CH) (op : BinOp) (x y : Operand) : Option (Value × CH) :=
  match binF op (e x) (e y) with
  | some v => cond (okOpd G x && okOpd G y) (some (v, H)) none
  | none => slow
def moveE (e : Operand → Value) (H : CH) (x : Operand) : Option (Value × CH) := cond (okOpd G x) (some (e x, H)) none
def pickV (e : Operand → Value) (H : CH) (a b : Operand) (v : Value) : Option (Value × CH) :=
  match v with
  | .bool t => some (cond t (e a) (e b), H)
  | _ => none
def pickE (e : Operand → Value) (H : CH) (c a b : Operand) : Option (Value × CH) := cond (okOpd G c && (okOpd G a && okOpd G b)) (pickV e H a b (e c)) none
def fieldAddrE (e : Operand → Value) (H : CH) (t : TypeId) (x : Operand) (f : Nat) : Option (Value × CH) := cond (okOpd G x) ((fieldAtS P t (e x) f).map (·, H)) none
def indexAddrV (H : CH) (t : TypeId) (v i : Value) : Option (Value × CH) :=
  match i with
  | .int _ n => (indexAtS P t v n).map (·, H)
  | _ => none
def indexAddrE (e : Operand → Value) (H : CH) (t : TypeId) (x i : Operand) : Option (Value × CH) := cond (okOpd G x && okOpd G i) (indexAddrV P H t (e x) (e i)) none
def extractV (H : CH) (i : Nat) (v : Value) : Option (Value × CH) :=
  match v with
  | .tuple vs => vs[i]?.map (·, H)
  | _ => none
def extractE (e : Operand → Value) (H : CH) (x : Operand) (i : Nat) : Option (Value × CH) := cond (okOpd G x) (extractV H i (e x)) none
def indexI (H : CH) (t : TypeId) (cs : Array Value) (i : Value) : Option (Value × CH) :=
  match i with
  | .int _ n => indexVF P H t cs n
  | _ => none
def indexE (slow : Option (Value × CH)) (e : Operand → Value) (H : CH) (t : TypeId) (x i : Operand) : Option (Value × CH) :=
  match e x with
  | .agg cs => cond (okOpd G x && okOpd G i) (indexI P H t cs (e i)) none
  | _ => slow
def opE3 (slow : Option (Value × CH)) (e : Operand → Value) (H : CH) (o : Op) (n : Nat) : Option (Value × CH) :=
  cond (Nat.beq n 4) (fieldAddrE P G e H (typeOf o) (arg1 o) (numOf o))
    (cond (Nat.beq n 6) (extractE G e H (arg1 o) (numOf o))
      (cond (Nat.beq n 8) (indexE P G slow e H (typeOf o) (arg1 o) (arg2 o))
        (cond (Nat.beq n 9) (quickOr (cond (okOpd G (arg1 o) && okOpd G (arg2 o)) (storeAtF P G H (typeOf o) (e (arg1 o)) (e (arg2 o))) none) slow)
          slow)))
def opE2 (slow call : Option (Value × CH)) (e : Operand → Value) (H : CH) (o : Op) (n : Nat) : Option (Value × CH) :=
  cond (Nat.beq n 3) (quickOr (cond (okOpd G (arg1 o)) (loadAtF2 P H (typeOf o) (e (arg1 o))) none) slow)
    (cond (Nat.beq n 5) (indexAddrE P G e H (typeOf o) (arg1 o) (arg2 o))
      (cond (Nat.beq n 7) call
        (cond (Nat.beq n 2) (pickE G e H (arg1 o) (arg2 o) (arg3 o)) (opE3 P G slow e H o n))))
def opE1 (slow call : Option (Value × CH)) (e : Operand → Value) (H : CH) (o : Op) (n : Nat) : Option (Value × CH) :=
  cond (Nat.beq n 0) (moveE G e H (arg1 o))
    (cond (Nat.beq n 1) (binE G slow e H (binOf o) (arg1 o) (arg2 o)) (opE2 P G slow call e H o n))

theorem cond_mono {α : Type} {b : Bool} {x y x' y' : Option α} (hx : ∀ r, x = some r → x' = some r) (hy : ∀ r, y = some r → y' = some r) (r : α) (h : cond b x y = some r) : cond b x' y' = some r := by
  cases b with
  | true => exact hx r h
  | false => exact hy r h
theorem quickOr_mono {q s s' : Option (Value × CH)} (h : ∀ r, s = some r → s' = some r) (r : Value × CH) (hq : quickOr q s = some r) : quickOr q s' = some r := by
  cases q with
  | none => exact h r hq
  | some u => exact hq
theorem opE1_mono {slow slow' call call' : Option (Value × CH)} (hs : ∀ r, slow = some r → slow' = some r) (hc : ∀ r, call = some r → call' = some r) {e : Operand → Value} {H : CH} {o : Op} {n : Nat} (r : Value × CH)
    (h : opE1 P G slow call e H o n = some r) : opE1 P G slow' call' e H o n = some r := by
  revert h
  unfold opE1
  refine cond_mono (fun _ h => h) (cond_mono ?_ ?_) r
  · intro r h
    unfold binE at h ⊢
    split at h
    · exact h
    · exact hs r h
  · unfold opE2
    refine cond_mono (quickOr_mono hs) (cond_mono (fun _ h => h) (cond_mono hc (cond_mono (fun _ h => h) ?_)))
    unfold opE3
    refine cond_mono (fun _ h => h) (cond_mono (fun _ h => h) (cond_mono ?_ (cond_mono (quickOr_mono hs) hs)))
    intro r h
    unfold indexE at h ⊢
    split at h
    · exact h
    · exact hs r h

/-- over an array, with the call as it is -/
theorem opE1_eq (self : Task → Option Res) (tm : Array Value) (H : CH) (o : Oper) : opE1 P G (slowF self P G tm H o) (opX self P G tm H o) (ev tm) H o.op (tagOf o.op) = opX self P G tm H o := by
  rw [← opF_eq, ← opT_eq]
  obtain ⟨dst, op, type, pos, after, guard⟩ := o
  cases op <;> first
    | rfl
    | skip
  case call c =>
    obtain ⟨callee, args, ts⟩ := c
    cases callee with
    | value f => rfl
    | invoke r m => rfl
    | builtin b => rfl
end

theorem opX_none_mono {self : Task → Option Res} {P : Program} {G : Nat} {tm : Array Value} {H : CH} {o : Oper} {r : Value × CH} (h : opX (fun _ => none) P G tm H o = some r) : opX self P G tm H o = some r := by
  unfold opX at h ⊢
  split at h
  case isFalse => cases h
  rename_i hall
  rw [if_pos hall]
  split at h
  · cases h
  · rename_i f args ts hop
    split at h
    · rename_i g first cap hf
      cases hfn : P.funcs[g]? with
      | none => rw [hfn] at h; cases h
      | some fn =>
        rw [hfn] at h
        dsimp only at h ⊢
        split at h
        · cases h
        · rename_i hn
          rw [if_neg hn]
          split at h
          · rename_i hb; rw [if_pos hb]; exact h
          · cases h
    · split at h <;> cases h
    · cases h
  · exact h

section
variable (q : QTask → Option QRes) (P : Program) (G : Nat)
def valOfQ (r : Option QRes) : Option (Value × CH) :=
  match r with
  | some (.val v H') => some (v, H')
  | _ => none
def externE (e : Operand → Value) (H : CH) (o : Oper) (f : Operand) (args : Array Operand) : Option (Value × CH) :=
  match e f with
  | .func (.func g) first cap => match P.funcs[g]? with
    | some fn => if fn.name == "runtime.NumGoroutine" then none
      else if fn.body.isNone then match pureS P e o with
        | some v => some (v, H)
        | none => if fn.name == "internal/abi.NoEscape" && fn.origin == "" && (first.isEmpty && cap.isEmpty) then match args.toList with
            | [x] => some (e x, H)
            | _ => none
          else none
      else none
    | none => none
  | _ => none
def slowE (e : Operand → Value) (H : CH) (o : Oper) : Option (Value × CH) :=
  cond (o.op.operands.toList.all (okOpd G)) (match o.op with
    | .defer _ => none
    | .call { callee := .value f, args, argTypes := _ } => externE P e H o f args
    | _ => opS P G H e o) none
theorem slowE_sound {tm : Array Value} {H : CH} {o : Oper} {r : Value × CH} (h : slowE P G (ev tm) H o = some r) : opX (fun _ => none) P G tm H o = some r := by
  obtain ⟨dst, op, type, pos, after, guard⟩ := o
  unfold slowE at h
  rw [cond_eq] at h
  split at h
  case isFalse => cases h
  rename_i hall
  unfold opX
  rw [if_pos hall]
  cases op <;> first
    | exact h
    | skip
  case call c =>
    obtain ⟨callee, args, ts⟩ := c
    cases callee with
    | builtin b => exact h
    | invoke r m => exact h
    | value f =>
      have h2 : externE P (ev tm) H ⟨dst, .call { callee := .value f, args := args, argTypes := ts }, type, pos, after, guard⟩ f args = some r := h
      unfold externE at h2
      dsimp only
      split at h2
      · rename_i g first cap hev
        simp only [hev]
        split at h2
        · rename_i fn hfn
          simp only [hfn]
          split at h2
          · cases h2
          · rename_i hn
            rw [if_neg hn]
            split at h2
            · rename_i hb
              rw [if_pos hb]
              exact h2
            · cases h2
        · cases h2
      · cases h2
def slowQ (tm : TM) (H : CH) (o : Oper) : Option (Value × CH) := slowE P G (evH tm) H o
theorem slowQ_sound {tm : TM} {H : CH} {o : Oper} {r : Value × CH} (h : slowQ P G tm H o = some r) : opX (fun _ => none) P G (absT tm) H o = some r := by
  unfold slowQ at h
  rw [evH_fun] at h
  exact slowE_sound P G h
def callFnQ (tm : TM) (H : CH) (o : Oper) (g : FuncId) (first cap : Array Value) (args : Array Operand) (fn : Func) : Option (Value × CH) :=
  match fn.body with
  | none => slowQ P G tm H o
  | some _ => cond (fn.name == "runtime.NumGoroutine") none (cond (args.toList.all (okOpd G)) (valOfQ (q (.call g ⟨first.toList ++ ((args.toList.map (evH tm)) ++ cap.toList)⟩ H))) none)
def callVQ (tm : TM) (H : CH) (o : Oper) (args : Array Operand) (v : Value) : Option (Value × CH) :=
  match v with
  | .func (.func g) first cap => match P.funcs[g]? with
    | some fn => callFnQ q P G tm H o g first cap args fn
    | none => none
  | .func (.yield l) first cap => cond (first.isEmpty && (cap.isEmpty && args.toList.all (okOpd G))) (valOfQ (q (.round l ⟨args.toList.map (evH tm)⟩ H))) none
  | _ => none
def callQ (tm : TM) (H : CH) (o : Oper) : Option (Value × CH) := cond (okOpd G (arg1 o.op)) (callVQ q P G tm H o (argsOf o.op) (evH tm (arg1 o.op))) none
def opQ (tm : TM) (H : CH) (o : Oper) : Option (Value × CH) := opE1 P G (slowQ P G tm H o) (callQ q P G tm H o) (evH tm) H o.op (tagOf o.op)
end

theorem valOfQ_abs {q : QTask → Option QRes} {self : Task → Option Res} (hq : SelfQ q self) {t : QTask} {v : Value} {H : CH} (h : valOfQ (q t) = some (v, H)) : self t.abs = some (.val v H) := by
  unfold valOfQ at h
  split at h
  · rename_i v' H' ht
    cases h
    exact hq _ _ ht
  · cases h

theorem callQ_sound {q : QTask → Option QRes} {self : Task → Option Res} (hq : SelfQ q self) {P : Program} {G : Nat} {tm : TM} {H : CH} {o : Oper} {f : Operand} {args : Array Operand} {ts : Array TypeId} (ho : o.op = .call { callee := .value f, args := args, argTypes := ts })
    {r : Value × CH} (h : callQ q P G tm H o = some r) : opX self P G (absT tm) H o = some r := by
  obtain ⟨dst, op, type, pos, after, guard⟩ := o
  change op = _ at ho
  subst ho
  have h' : cond (okOpd G f) (callVQ q P G tm H ⟨dst, .call { callee := .value f, args := args, argTypes := ts }, type, pos, after, guard⟩ args (evH tm f)) none = some r := h
  rw [cond_eq] at h'
  split at h'
  case isFalse => cases h'
  rename_i hf
  rw [evH_fun] at h'
  unfold callVQ at h'
  have hall : args.toList.all (okOpd G) = true → ((Op.call { callee := .value f, args := args, argTypes := ts }).operands.toList.all (okOpd G)) = true := by
    intro ha
    simp only [Op.operands, Call.operands, Array.toList_append, List.all_append, ha]; simp [hf]
  split at h'
  · rename_i g first cap hev
    split at h'
    case h_2 => cases h'
    rename_i fn hfn
    unfold callFnQ at h'
    split at h'
    · exact opX_none_mono (slowQ_sound P G h')
    · rename_i c hb
      rw [cond_eq] at h'
      split at h'
      case isTrue => cases h'
      rename_i hn
      rw [cond_eq] at h'
      split at h'
      case isFalse => cases h'
      rename_i ha
      obtain ⟨v, H'⟩ := r
      have hs := valOfQ_abs hq h'
      unfold opX
      rw [if_pos (hall ha)]
      simp only [hev, hfn]
      rw [if_neg hn, if_neg (by rw [hb]; simp)]
      have : (⟨first.toList ++ ((args.toList.map (evH tm)) ++ cap.toList)⟩ : Array Value) = first ++ args.map (ev (absT tm)) ++ cap := by
        apply Array.toList_inj.1
        rw [evH_fun]
        simp
      rw [← this]
      have hs' : self (.call g ⟨first.toList ++ ((args.toList.map (evH tm)) ++ cap.toList)⟩ H) = some (.val v H') := hs
      rw [hs']
  · rename_i l first cap hev
    rw [cond_eq] at h'
    split at h'
    case isFalse => cases h'
    rename_i hc
    rw [Bool.and_eq_true, Bool.and_eq_true] at hc
    obtain ⟨v, H'⟩ := r
    have hs := valOfQ_abs hq h'
    unfold opX
    rw [if_pos (hall hc.2.2)]
    simp only [hev]
    rw [if_pos (by rw [hc.1, hc.2.1]; rfl)]
    have : (⟨args.toList.map (evH tm)⟩ : Array Value) = args.map (ev (absT tm)) := by
      apply Array.toList_inj.1
      rw [evH_fun]
      simp
    rw [← this]
    have hs' : self (.round l ⟨args.toList.map (evH tm)⟩ H) = some (.val v H') := hs
    rw [hs']
  · cases h'

theorem opQ_sound {q : QTask → Option QRes} {self : Task → Option Res} (hq : SelfQ q self) {P : Program} {G : Nat} {tm : TM} {H : CH} {o : Oper} {r : Value × CH} (h : opQ q P G tm H o = some r) : opX self P G (absT tm) H o = some r := by
  unfold opQ at h
  by_cases hc : ∃ f args ts, o.op = .call { callee := .value f, args := args, argTypes := ts }
  · obtain ⟨f, args, ts, ho⟩ := hc
    have : opE1 P G (slowQ P G tm H o) (callQ q P G tm H o) (evH tm) H o.op (tagOf o.op) = callQ q P G tm H o := by
      rw [ho]; rfl
    rw [this] at h
    exact callQ_sound hq ho h
  · rw [evH_fun] at h
    rw [← opE1_eq]
    have htag : tagOf o.op ≠ 7 := by
      intro ht
      apply hc
      obtain ⟨dst, op, type, pos, after, guard⟩ := o
      cases op <;> first
        | (simp [tagOf] at ht; done)
        | skip
      case call c =>
        obtain ⟨callee, args, ts⟩ := c
        cases callee with
        | value f => exact ⟨f, args, ts, rfl⟩
        | invoke r m => simp [tagOf] at ht
        | builtin b => simp [tagOf] at ht
    have h7 : Nat.beq (tagOf o.op) 7 = false := by
      cases hb : Nat.beq (tagOf o.op) 7 with
      | false => rfl
      | true => exact absurd (Nat.eq_of_beq_eq_true hb) htag
    have swap : ∀ c1 c2 : Option (Value × CH), opE1 P G (slowQ P G tm H o) c1 (ev (absT tm)) H o.op (tagOf o.op) = opE1 P G (slowQ P G tm H o) c2 (ev (absT tm)) H o.op (tagOf o.op) := by
      intro c1 c2
      unfold opE1 opE2
      rw [h7]
      rfl
    rw [swap _ (opX self P G (absT tm) H o)] at h
    exact opE1_mono P G (fun r hr => opX_none_mono (slowQ_sound P G hr)) (fun r hr => hr) r h
end Go.Ex
