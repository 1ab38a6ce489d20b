/- Part of the proof. -/
import Derived.Test.YteemponkignnhaaGreatEngFast
noncomputable section
namespace Go.Ex
open Go.RowKit
def boolIs (v : Value) (w : Bool) : Bool :=
  match v with
  | .bool b => b == w
  | _ => false
def guardF (ops : Array Oper) (tm : Array Value) (j : Nat) (w : Bool) : Bool :=
  match (ops[j]?).bind (·.dst) with
  | some d => boolIs (getL tm.toList d) w
  | none => false
def wantF (ops : Array Oper) (tm : Array Value) (o : Oper) : Bool :=
  match o.guard with
  | none => true
  | some (j, w) => guardF ops tm j w
theorem wantF_eq (ops : Array Oper) (tm : Array Value) (o : Oper) : wantF ops tm o = Region.wanted o (yielded ops tm) := by
  unfold wantF Region.wanted
  cases o.guard with
  | none => rfl
  | some gw =>
    obtain ⟨j, w⟩ := gw
    show guardF ops tm j w = (yielded ops tm j == some w)
    unfold guardF yielded
    cases (ops[j]?).bind (·.dst) with
    | none => rfl
    | some d =>
      simp only [Option.bind_some]
      rw [getL_eq, Array.toArray_toList, Array.getD_eq_getD_getElem?]
      cases tm[d]? with
      | none => rfl
      | some x => cases x <;> rfl
section
variable (op : Array Value → CH → Oper → Option (Value × CH)) (ops : Array Oper)
def afterF (o : Oper) (ih : Array Value → CH → Option (Array Value × CH)) (tm : Array Value) (r : Option (Value × CH)) : Option (Array Value × CH) :=
  match r with
  | some (v, H') => ih (put tm o.dst v) H'
  | none => none
def opsStep (o : Oper) (ih : Array Value → CH → Option (Array Value × CH)) (tm : Array Value) (H : CH) : Option (Array Value × CH) :=
  cond (wantF ops tm o) (afterF o ih tm (op tm H o)) (cond (gk ops tm o) (ih (put tm o.dst undef) H) none)
noncomputable def opsG (l : List Oper) : Array Value → CH → Option (Array Value × CH) :=
  List.rec (motive := fun _ => Array Value → CH → Option (Array Value × CH)) (fun tm H => some (tm, H)) (fun o _ ih tm H => opsStep op ops o ih tm H) l
abbrev Trc := List (Array Value × CH × Value) × Array Value × CH
def consTr (tm : Array Value) (H : CH) (v : Value) (r : Option Trc) : Option Trc :=
  match r with
  | some (tr, tm', H') => some ((tm, H, v) :: tr, tm', H')
  | none => none
def afterT (o : Oper) (ih : Array Value → CH → Option Trc) (tm : Array Value) (H : CH) (r : Option (Value × CH)) : Option Trc :=
  match r with
  | some (v, H') => consTr tm H v (ih (put tm o.dst v) H')
  | none => none
def trStep (o : Oper) (ih : Array Value → CH → Option Trc) (tm : Array Value) (H : CH) : Option Trc :=
  cond (wantF ops tm o) (afterT o ih tm H (op tm H o)) (cond (gk ops tm o) (consTr tm H undef (ih (put tm o.dst undef) H)) none)
noncomputable def trG (l : List Oper) : Array Value → CH → Option Trc :=
  List.rec (motive := fun _ => Array Value → CH → Option Trc) (fun tm H => some ([], tm, H)) (fun o _ ih tm H => trStep op ops o ih tm H) l
end
theorem opsG_eq {self : Task → Option Res} {P : Program} {G : Nat} {ops : Array Oper} : ∀ (l : List Oper) (i : Nat), ops.toList.drop i = l → ∀ (tm : Array Value) (H : CH),
    opsG (opX self P G) ops l tm H = opsX self P G ops (List.range' i l.length) tm H
  | [], i, _, tm, H => rfl
  | o :: r, i, hd, tm, H => by
    have ho : ops[i]? = some o := by
      have : (ops.toList.drop i)[0]? = some o := by rw [hd]; rfl
      rw [List.getElem?_drop] at this
      simpa using this
    have hr : ops.toList.drop (i + 1) = r := by
      rw [← List.drop_drop, hd]; rfl
    show opsStep (opX self P G) ops o (opsG (opX self P G) ops r) tm H = opsX self P G ops (i :: List.range' (i + 1) r.length) tm H
    have ih := opsG_eq (self := self) (P := P) (G := G) r (i + 1) hr
    simp only [opsX, ho, opsStep, wantF_eq]
    cases hw : Region.wanted o (yielded ops tm) with
    | true =>
      simp only [cond, if_true]
      unfold afterF
      cases opX self P G tm H o with
      | none => rfl
      | some vh => obtain ⟨v, H'⟩ := vh; exact ih _ _
    | false =>
      cases hg : gk ops tm o with
      | true =>
        simp only [cond, Bool.false_eq_true, if_false, if_true]
        exact ih _ _
      | false => simp only [cond, Bool.false_eq_true, if_false]
theorem trG_eq {self : Task → Option Res} {P : Program} {G : Nat} {ops : Array Oper} : ∀ (l : List Oper) (tm : Array Value) (H : CH), trG (opX self P G) ops l tm H = textRun self P G ops l tm H
  | [], tm, H => rfl
  | o :: r, tm, H => by
    show trStep (opX self P G) ops o (trG (opX self P G) ops r) tm H = _
    have ih := trG_eq (self := self) (P := P) (G := G) (ops := ops) r
    simp only [textRun, trStep, wantF_eq]
    cases hw : Region.wanted o (yielded ops tm) with
    | true =>
      simp only [cond, if_true]
      unfold afterT
      cases opX self P G tm H o with
      | none => rfl
      | some vh =>
        obtain ⟨v, H'⟩ := vh
        dsimp only
        rw [ih]
        rfl
    | false =>
      cases hg : gk ops tm o with
      | true =>
        simp only [cond, Bool.false_eq_true, if_false, if_true, ih]
        rfl
      | false => simp only [cond, Bool.false_eq_true, if_false]
section
variable (self : Task → Option Res) (P : Program) (G : Nat)
def checkF (op : Array Value → CH → Oper → Option (Value × CH)) (ops : Array Oper) (A : List Nat) (tr : List (Array Value × CH × Value)) (H' : CH) (i : Nat) (o : Oper) (tm : Array Value) (v : Value) : Bool :=
  kindOf P o.op != 1 || (!wantF ops tm o || (alts P ops A i).all fun p => sameAs (op tm (heapAt tr H' p) o) v)
def recheckF (op : Array Value → CH → Oper → Option (Value × CH)) (ops : Array Oper) (A : List Nat) (tr : List (Array Value × CH × Value)) (H' : CH) : Bool :=
  (List.range ops.size).all fun i => match ops[i]?, tr[i]? with
    | some o, some (tm, _, v) => checkF P op ops A tr H' i o tm v
    | _, _ => false
theorem recheckF_eq (ops : Array Oper) (A : List Nat) (tr : List (Array Value × CH × Value)) (H' : CH) : recheckF P (opX self P G) ops A tr H' = recheck self P G ops A tr H' := by
  unfold recheckF recheck
  congr 1
  funext i
  cases ops[i]? with
  | none => rfl
  | some o =>
    cases tr[i]? with
    | none => rfl
    | some t =>
      obtain ⟨tm, H, v⟩ := t
      simp only [checkF, wantF_eq, Bool.or_assoc]
def drawEnd (ops : Array Oper) (r : Option Trc) : Option (Array Value × CH) :=
  match r with
  | some (tr, tm', H') => cond (recheckF P (opF self P G) ops (ancs ops) tr H') (some (tm', H')) none
  | none => none
noncomputable def drawF (ops : Array Oper) (tm : Array Value) (H : CH) : Option (Array Value × CH) :=
  cond (P.follows .mixedOrders && ordOk P ops (ancs ops)) (drawEnd self P G ops (trG (opF self P G) ops ops.toList tm H)) none
theorem opF_fun : opF self P G = opX self P G := by
  funext tm H o; exact opF_eq self P G tm H o
theorem drawF_eq : drawF self P G = drawX self P G := by
  funext ops tm H
  unfold drawF drawX drawEnd
  rw [opF_fun, trG_eq, cond_eq]
  split
  · cases textRun self P G ops ops.toList tm H with
    | none => rfl
    | some r =>
      obtain ⟨tr, tm', H'⟩ := r
      dsimp only
      rw [recheckF_eq, cond_eq]
  · rfl
def seqF (b : Code) (ro : Option Nat) (r : Option Res) : Option Res :=
  match r with
  | some (.ex .normal tm1 H1 df1) => self (.code b ro tm1 H1 df1)
  | r => r
def condF (x y : Code) (ro : Option Nat) (tm : Array Value) (H : CH) (df : List Nat) (v : Value) : Option Res :=
  match v with
  | .bool b => self (.code (cond b x y) ro tm H df)
  | _ => none
def blockF (id : Nat) (r : Option Res) : Option Res :=
  match r with
  | some (.ex (.exit id') tm1 H1 df1) => some (.ex (if id' = id then .normal else .exit id') tm1 H1 df1)
  | r => r
def normalF (df : List Nat) (r : Option (Array Value × CH)) : Option Res :=
  match r with
  | some (tm1, H1) => some (.ex .normal tm1 H1 df)
  | none => none
noncomputable def regionF (ops : Array Oper) (d : Bool) (tm : Array Value) (H : CH) : Option (Array Value × CH) :=
  cond d (drawF self P G ops tm H) (opsG (opF self P G) ops ops.toList tm H)
noncomputable def codeF (c : Code) (ro : Option Nat) (tm : Array Value) (H : CH) (df : List Nat) : Option Res :=
  match c with
  | .skip => some (.ex .normal tm H df)
  | .label _ => some (.ex .normal tm H df)
  | .seq a b => seqF self b ro (self (.code a ro tm H df))
  | .cond o x y => cond (okOpd G o) (condF self x y ro tm H df (ev tm o)) none
  | .block id b => blockF id (self (.code b ro tm H df))
  | .loop b => seqF self (.loop b) ro (self (.code b ro tm H df))
  | .scope b => self (.code b ro tm H df)
  | .exit id => some (.ex (.exit id) tm H df)
  | .ret => some (.ex .ret tm H df)
  | .region _ ops d => normalF df (regionF self P G ops d tm H)
  | .rangeFunc g ps assign body => rangeX self P G 0 g ps assign body ro tm H df
  | _ => none
def valF (fn : Func) (tm : Array Value) (H : Option CH) : Option Res :=
  match H with
  | some H2 => (resultsS P tm H2 fn.results.toList).map fun vs => .val (oneOrTuple vs) H2
  | none => none
def endF (fn : Func) (r : Option Res) : Option Res :=
  match r with
  | some (.ex x tm H1 df) => match x with
    | .exit _ => none
    | _ => valF P fn tm (closeS G H1 df)
  | _ => none
def enterF (fn : Func) (args : Array Value) (H : CH) : Option Res :=
  match fn.body with
  | some c => endF P G fn (self (.code c none ⟨args.toList ++ List.replicate (fn.ntmps - args.toList.length) undef⟩ H []))
  | none => none
def callXF (f : FuncId) (args : Array Value) (H : CH) : Option Res :=
  match P.funcs[f]? with
  | some fn => enterF self P G fn args H
  | none => none
noncomputable def stepF (t : Task) : Option Res :=
  match t with
  | .code c ro tm H df => codeF self P G c ro tm H df
  | .call f args H => callXF self P G f args H
  | .round l args H => roundX self G l args H
theorem callXF_eq (f : FuncId) (args : Array Value) (H : CH) : callXF self P G f args H = callX self P G f args H := by
  unfold callXF callX
  cases P.funcs[f]? with
  | none => rfl
  | some fn =>
    dsimp only
    unfold enterF
    cases fn.body with
    | none => rfl
    | some c =>
      dsimp only
      have : (⟨args.toList ++ List.replicate (fn.ntmps - args.toList.length) undef⟩ : Array Value) = args ++ Array.replicate (fn.ntmps - args.size) undef := by
        apply Array.toList_inj.1
        simp
      rw [this]
      unfold endF
      cases self (.code c none (args ++ Array.replicate (fn.ntmps - args.size) undef) H []) with
      | none => rfl
      | some r =>
        cases r with
        | val v H' => rfl
        | ex x tm H1 df =>
          cases x with
          | exit _ => rfl
          | normal => dsimp only; unfold valF; cases closeS G H1 df <;> rfl
          | ret => dsimp only; unfold valF; cases closeS G H1 df <;> rfl
theorem stepF_eq (t : Task) : stepF self P G t = step self P G (drawX self P G) t := by
  cases t with
  | call f args H => exact callXF_eq self P G f args H
  | round l args H => rfl
  | code c ro tm H df =>
    show codeF self P G c ro tm H df = _
    cases c <;> first | rfl | skip
    case code.cond o x y =>
      show cond (okOpd G o) (condF self x y ro tm H df (ev tm o)) none = _
      simp only [step, cond_eq]
      split
      · unfold condF
        generalize ev tm o = v
        cases v with
        | bool b => cases b <;> rfl
        | _ => rfl
      · rfl
    case code.region id ops d =>
      show normalF df (regionF self P G ops d tm H) = _
      simp only [step]
      have : regionF self P G ops d tm H = (if d then drawX self P G ops tm H else opsX self P G ops (List.range ops.size) tm H) := by
        unfold regionF
        rw [drawF_eq, opF_fun, cond_eq]
        cases d with
        | true => rfl
        | false =>
          simp only [Bool.false_eq_true, if_false]
          rw [opsG_eq ops.toList 0 rfl, List.range_eq_range']
          simp
      rw [this]
      unfold normalF
      split <;> simp_all
end
end Go.Ex
