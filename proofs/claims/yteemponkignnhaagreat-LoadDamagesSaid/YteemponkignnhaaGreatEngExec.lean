/- Part of the proof. -/
import Derived.Test.YteemponkignnhaaGreatEngStep
import Derived.RangeFuncIn
import Derived.RangeFuncLeaves
import Derived.OrdersIn
noncomputable section
namespace Go.Ex
open Go.RowKit
inductive CX where
  | normal
  | exit (id : Nat)
  | ret
def CX.toExit : CX → Exit
  | .normal => .normal
  | .exit id => .exit id
  | .ret => .ret
inductive Task where
  | code (c : Code) (ro : Option Nat) (tm : Array Value) (H : CH) (df : List Nat)
  | call (f : FuncId) (args : Array Value) (H : CH)
  | round (l : Nat) (args : Array Value) (H : CH)
inductive Res where
  | ex (x : CX) (tm : Array Value) (H : CH) (df : List Nat)
  | val (v : Value) (H : CH)
def put (tm : Array Value) (dst : Option Tmp) (v : Value) : Array Value :=
  match dst with
  | some d => ⟨setL tm.toList d v⟩
  | none => tm
section
variable (self : Task → Option Res) (P : Program) (G : Nat)
def opX (tm : Array Value) (H : CH) (o : Oper) : Option (Value × CH) :=
  if o.op.operands.toList.all (okOpd G) then
    match o.op with
    | .defer _ => none
    | .call { callee := .value f, args, argTypes := _ } => match ev tm f with
      | .func (.func g) first cap => match P.funcs[g]? with
        | some fn => if fn.name == "runtime.NumGoroutine" then none
          else if fn.body.isNone then match pureS P (ev tm) o with
            | some v => some (v, H)
            | none => if fn.name == "internal/abi.NoEscape" && fn.origin == "" && (first.isEmpty && cap.isEmpty) then match args.toList with
                | [x] => some (ev tm x, H)
                | _ => none
              else none
          else match self (.call g (first ++ args.map (ev tm) ++ cap) H) with
            | some (.val v H') => some (v, H')
            | _ => none
        | none => none
      | .func (.yield l) first cap => if first.isEmpty && cap.isEmpty then match self (.round l (args.map (ev tm)) H) with
          | some (.val v H') => some (v, H')
          | _ => none
        else none
      | _ => none
    | _ => opS P G H (ev tm) o
  else none
def gk (ops : Array Oper) (tm : Array Value) (o : Oper) : Bool :=
  match o.guard with
  | none => true
  | some g => match (ops[g.1]?).bind (·.dst) with
    | some d => nw (tm.getD d undef)
    | none => true
def opsX (ops : Array Oper) : List Nat → Array Value → CH → Option (Array Value × CH)
  | [], tm, H => some (tm, H)
  | i :: r, tm, H => match ops[i]? with
    | none => none
    | some o => if Region.wanted o (yielded ops tm) then match opX self P G tm H o with
        | some (v, H') => opsX ops r (put tm o.dst v) H'
        | none => none
      else if gk ops tm o then opsX ops r (put tm o.dst undef) H else none
def closeS (H : CH) : List Nat → Option CH
  | [] => some H
  | r :: df => if G ≤ r then match H[r]? with
    | some (.dfr false) => closeS (H.set r (.dfr true)) df
    | _ => none
    else none
def resultS (tm : Array Value) (H : CH) : ResultVar → Option Value
  | .tmp t => some (tm.getD t undef)
  | .cell a t => match tm.getD a undef with
    | .pointer (some ⟨b, off, none⟩) => loadS P H t b off
    | _ => none
def resultsS (tm : Array Value) (H : CH) : List ResultVar → Option (List Value)
  | [] => some []
  | r :: rs => match resultS P tm H r with
    | some v => (resultsS tm H rs).map (v :: ·)
    | none => none
def oneOrTuple (vs : List Value) : Value :=
  match vs with
  | [v] => v
  | _ => .tuple vs.toArray
def callX (f : FuncId) (args : Array Value) (H : CH) : Option Res :=
  match P.funcs[f]? with
  | some fn => match fn.body with
    | some c => match self (.code c none (args ++ Array.replicate (fn.ntmps - args.size) undef) H []) with
      | some (.ex x tm H1 df) => match x with
        | .exit _ => none
        | _ => match closeS G H1 df with
          | some H2 => (resultsS P tm H2 fn.results.toList).map fun vs => .val (oneOrTuple vs) H2
          | none => none
      | _ => none
    | none => none
  | none => none
def jumpOf : CX → Option Code
  | .normal => none
  | .exit id => some (.exit id)
  | .ret => some .ret
def roundX (l : Nat) (args : Array Value) (H : CH) : Option Res :=
  if G ≤ l then match H[l]? with
    | some (.loop r) => if args.size = r.params.size then
        match self (.code r.assign (some l) ((r.params.zip args).foldl (fun tmps (t, a) => tmps.setIfInBounds t a) r.tmps) H []) with
        | some (.ex .normal tm1 H1 df1) => match H1[l]? with
          | some (.loop r1) => if r1.state = .ready then
              match self (.code r.body (some l) tm1 (H1.set l (.loop { r1 with state := .busy })) df1) with
              | some (.ex x _ H3 _) => match H3[l]? with
                | some (.loop r3) => some (.val (.bool (jumpOf x).isNone) (H3.set l (.loop { r3 with state := if (jumpOf x).isNone then .ready else .done, pending := jumpOf x })))
                | _ => none
              | _ => none
            else none
          | _ => none
        | _ => none
      else none
    | _ => none
  else none
def startO (ro : Option Nat) (H : CH) (df : List Nat) : Option (CH × List Nat × Nat) :=
  match ro with
  | none => some (H.push (.dfr false), H.length :: df, H.length)
  | some l => match H[l]? with
    | some (.loop r) => some (H, df, r.defers)
    | _ => none
def rangeX (fn0 : FuncId) (g : Operand) (ps : Array Tmp) (assign body : Code) (ro : Option Nat) (tm : Array Value) (H : CH) (df : List Nat) : Option Res :=
  match startO ro H df with
  | none => none
  | some (H1, df1, d) =>
    if okOpd G g then match ev tm g with
      | .func (.func k) first cap => match P.funcs[k]? with
        | some fn => if fn.name == "runtime.NumGoroutine" then none else if fn.body.isNone then none else
          match self (.call k (first ++ #[.func (.yield H1.length) #[] #[]] ++ cap) (H1.push (.loop { state := .ready, pending := none, fn := fn0, tmps := tm, params := ps, assign, body, defers := d }))) with
          | some (.val _ H3) => match H3[H1.length]? with
            | some (.loop r3) => if r3.state = .busy then none else
                let H4 := H3.set H1.length (.loop { r3 with state := .exhausted })
                match r3.pending with
                | none => some (.ex .normal tm H4 df1)
                | some c => self (.code c ro tm H4 df1)
            | _ => none
          | _ => none
        | none => none
      | _ => none
    else none
def step (draw : Array Oper → Array Value → CH → Option (Array Value × CH)) : Task → Option Res
  | .code c ro tm H df => match c with
    | .skip | .label _ => some (.ex .normal tm H df)
    | .seq a b => match self (.code a ro tm H df) with
      | some (.ex .normal tm1 H1 df1) => self (.code b ro tm1 H1 df1)
      | r => r
    | .cond o x y => if okOpd G o then match ev tm o with
        | .bool b => self (.code (if b then x else y) ro tm H df)
        | _ => none
      else none
    | .block id b => match self (.code b ro tm H df) with
      | some (.ex (.exit id') tm1 H1 df1) => some (.ex (if id' = id then .normal else .exit id') tm1 H1 df1)
      | r => r
    | .loop b => match self (.code b ro tm H df) with
      | some (.ex .normal tm1 H1 df1) => self (.code (.loop b) ro tm1 H1 df1)
      | r => r
    | .scope b => self (.code b ro tm H df)
    | .exit id => some (.ex (.exit id) tm H df)
    | .ret => some (.ex .ret tm H df)
    | .region _ ops d => match (if d then draw ops tm H else opsX self P G ops (List.range ops.size) tm H) with
      | some (tm1, H1) => some (.ex .normal tm1 H1 df)
      | none => none
    | .rangeFunc g ps assign body => rangeX self P G 0 g ps assign body ro tm H df
    | _ => none
  | .call f args H => callX self P G f args H
  | .round l args H => roundX self G l args H
end
inductive DR (E : Env) : List Nat → List Deferred → Prop
  | nil : DR E [] []
  | cons {r : Nat} {e : En} {df : List Nat} {ds : List Deferred} (he : E[r]? = some e) (h : DR E df ds) : DR E (r :: df) ({ target := .collected e.blk, args := #[] } :: ds)
theorem DR.mono {E : Env} (F : Env) {df : List Nat} {ds : List Deferred} (h : DR E df ds) : DR (E ++ F) df ds := by
  induction h with
  | nil => exact .nil
  | cons he _ ih => exact .cons (Env.get_mono he) ih
def RR (E : Env) : Option Nat → Option Nat → Prop
  | none, none => True
  | some l, some b => ∃ e, E[l]? = some e ∧ b = e.blk
  | _, _ => False
theorem RR.mono {E : Env} (F : Env) {a b : Option Nat} (h : RR E a b) : RR (E ++ F) a b := by
  cases a <;> cases b <;> simp only [RR] at h ⊢
  obtain ⟨e, h1, h2⟩ := h
  exact ⟨e, Env.get_mono h1, h2⟩
def FW (ro : Option Nat) : Fence := { Fence.wide with round := ro }
theorem fw_fn (ro : Option Nat) (f : FuncId) : (FW ro).fn f := trivial
def LoopWp (F : Fence) (n : Nat) (P : Program) (c : Code) (Q : Exit → Act → World → Prop) (a : Act) (w : World) : Prop :=
  ∀ (b : Frame) (k : List Item) (cs : List Frame), b.roundOf = F.round → F.fn b.fn → F.room (cs.length + 1 + n) →
    ∃ e a' w', Q e a' w' ∧ ArrivesIn (Machine.fenced P F) P (lone (b.atR a (.code c :: .inLoop c :: k)) cs w) b k cs e a' w'
theorem LoopWp.loop {F : Fence} {n : Nat} {P : Program} {c : Code} {Q : Exit → Act → World → Prop} {a : Act} {w : World} (h : LoopWp F n P c Q a w) : (Code.loop c).wpIn F n P Q a w :=
  fun b k cs hro hb hr => let ⟨e, a', w', hq, harr⟩ := h b k cs hro hb hr
    ⟨e, a', w', hq, .of_steps (.one (fenced_calm hb hr rfl) stepR_loop) harr⟩
theorem LoopWp.of_body {F : Fence} {n : Nat} {P : Program} {c : Code} {Q : Exit → Act → World → Prop} {a : Act} {w : World}
    (h : c.wpIn F n P (Exit.then (fun a w => LoopWp F n P c Q a w) Q) a w) : LoopWp F n P c Q a w := by
  intro b k cs hro hb hr
  obtain ⟨e, a₁, w₁, hq, harr⟩ := h b (.inLoop c :: k) cs hro hb hr
  cases e with
  | normal =>
    obtain ⟨e₂, a₂, w₂, hq₂, harr₂⟩ := hq b k cs hro hb hr
    exact ⟨e₂, a₂, w₂, hq₂, .of_steps (StepsIn.trans harr (.one (fenced_calm hb hr rfl) stepR_inLoop)) harr₂⟩
  | exit id => exact ⟨_, a₁, w₁, hq, .pass (x := .inLoop c) rfl (fun _ _ => .inl (by simp)) harr⟩
  | goto l => exact ⟨_, a₁, w₁, hq, .pass (x := .inLoop c) rfl (fun _ _ => .inl (by simp)) harr⟩
  | ret => exact ⟨_, a₁, w₁, hq, .pass (x := .inLoop c) rfl (fun _ _ => .inl (by simp)) harr⟩
  | panic ch => exact ⟨_, a₁, w₁, hq, .pass (x := .inLoop c) rfl (fun _ _ => .inl (by simp)) harr⟩
  | outgrown => exact ⟨_, a₁, w₁, hq, .pass (x := .inLoop c) rfl (fun _ _ => .inl (by simp)) harr⟩
section
variable {P : Program} {b : Frame} {a : Act} {k : List Item} {cs : List Frame} {w : World}
theorem stepR_scope {c : Code} : Go.step P (lone (b.atR a (.code (.scope c) :: k)) cs w) = .next (lone (b.atR a (.code c :: .inScope c :: k)) cs w) :=
  step_lone_go (by simp [stepG, stepG.exec, Frame.atR])
theorem stepR_inScope {c : Code} : Go.step P (lone (b.atR a (.inScope c :: k)) cs w) = .next (lone (b.atR a k) cs w) :=
  step_lone_go (by simp [stepG, stepG.exec, Frame.atR])
end
theorem wpIn_scope' {F : Fence} {n : Nat} {P : Program} {c : Code} {Q : Exit → Act → World → Prop} {a : Act} {w : World} (h : c.wpIn F n P (fun e a w => Q e a w ∧ ∀ l, e ≠ .goto l) a w) : (Code.scope c).wpIn F n P Q a w := by
  intro b k cs hro hb hr
  have h0 : (lone (b.atR a (.code (.scope c) :: k)) cs w).fenced P F := fenced_calm hb hr rfl
  obtain ⟨e, a₁, w₁, ⟨hq, hg⟩, harr⟩ := h b (.inScope c :: k) cs hro hb hr
  cases e with
  | normal => exact ⟨.normal, a₁, w₁, hq, .head h0 stepR_scope (StepsIn.trans harr (.one (fenced_calm hb hr rfl) stepR_inScope))⟩
  | exit id =>
    have hx : exitTo id (.inScope c :: k) = exitTo id k := by simp [exitTo]
    exact ⟨.exit id, a₁, w₁, hq, fun k' hk => .head h0 stepR_scope (harr.1 k' (by rw [hx]; exact hk)),
      fun hr' hk => let ⟨k₁, h1, h2⟩ := harr.2 hr' (by rw [hx]; exact hk); ⟨k₁, h1, .head h0 stepR_scope h2⟩⟩
  | goto l => exact absurd rfl (hg l)
  | ret => exact ⟨_, a₁, w₁, hq, .of_steps (.one h0 stepR_scope) harr⟩
  | panic ch => exact ⟨_, a₁, w₁, hq, .of_steps (.one h0 stepR_scope) harr⟩
  | outgrown => exact ⟨_, a₁, w₁, hq, .of_steps (.one h0 stepR_scope) harr⟩
def Sound (P : Program) (G : Nat) : Task → Res → Prop
  | .code c ro tm H df, .ex x tm' H' df' =>
    ∀ (w0 : World) (E : Env) (a : Act) (w : World) (ro' : Option Nat) (n : Nat) (Q : Exit → Act → World → Prop),
      WR w0 G E H w → VRs E tm a.tmps → DR E df a.defers → RR E ro ro' →
      (∀ F a' w', WR w0 G (E ++ F) H' w' → VRs (E ++ F) tm' a'.tmps → DR (E ++ F) df' a'.defers → Q x.toExit a' w') →
      c.wpIn (FW ro') n P Q a w ∧ (∀ b, c = .loop b → LoopWp (FW ro') n P b Q a w)
  | .call f args H, .val v H' =>
    ∀ (w0 : World) (E : Env) (args' : Array Value) (w : World) (ro' : Option Nat) (n : Nat) (R : Ending → World → Prop),
      WR w0 G E H w → VRs E args args' → (∀ F v' w', WR w0 G (E ++ F) H' w' → VR (E ++ F) v v' → R (.returned v') w') → CallsIn (FW ro') n P f args' w R
  | .round l args H, .val v H' =>
    ∀ (w0 : World) (E : Env) (e : En) (args' : Array Value) (w : World) (ro' : Option Nat) (n : Nat) (R : Ending → World → Prop),
      E[l]? = some e → WR w0 G E H w → VRs E args args' → (∀ F v' w', WR w0 G (E ++ F) H' w' → VR (E ++ F) v v' → R (.returned v') w') →
      ∃ (f : FuncId) (tmps : Array Value) (assign body : Code), (Instr.yield e.blk args').run P w = .ok (.round e.blk f tmps assign body) w ∧ RoundIn (FW ro') n P e.blk f tmps assign body w R
  | _, _ => False
def SelfSound (P : Program) (G : Nat) (self : Task → Option Res) : Prop := ∀ t r, self t = some r → Sound P G t r
theorem wanted_gk {ops : Array Oper} {tm : Array Value} {o : Oper} (h : Region.wanted o (yielded ops tm) = true) : gk ops tm o = true := by
  unfold gk
  unfold Region.wanted at h
  cases hg : o.guard with
  | none => rfl
  | some g =>
    rw [hg] at h
    dsimp only at h ⊢
    have h' : (yielded ops tm g.1 == some g.2) = true := by simpa using h
    unfold yielded at h'
    cases hd : (ops[g.1]?).bind (·.dst) with
    | none => rfl
    | some d =>
      rw [hd] at h'
      simp only [Option.bind_some] at h'
      dsimp only
      rw [Array.getD_eq_getD_getElem?]
      cases hx : tm[d]? with
      | none => rfl
      | some x =>
        rw [hx] at h'
        cases x <;> first
          | rfl
          | (exact absurd h' (by simp))
theorem wanted_rel {E : Env} {tm tm' : Array Value} (h : VRs E tm tm') (ops : Array Oper) (o : Oper) (hk : gk ops tm o = true) : Region.wanted o (yielded ops tm') = Region.wanted o (yielded ops tm) := by
  unfold gk at hk
  unfold Region.wanted
  cases hg : o.guard with
  | none => rfl
  | some g =>
    rw [hg] at hk
    dsimp only at hk
    have hy : yielded ops tm' g.1 = yielded ops tm g.1 := by
      unfold yielded
      cases hd : (ops[g.1]?).bind (·.dst) with
      | none => rfl
      | some d =>
        rw [hd] at hk
        dsimp only at hk
        simp only [Option.bind_some]
        rw [Array.getD_eq_getD_getElem?] at hk
        cases hx : tm[d]? with
        | none =>
          have : tm'[d]? = none := by
            rw [Array.getElem?_eq_none_iff] at hx ⊢
            have := h.size; omega
          rw [this]
        | some x =>
          obtain ⟨x', hx', hr⟩ := h.get hx
          rw [hx']
          rw [hx] at hk
          cases hr <;> first | rfl | (cases hk; done)
    simp only [hy]
theorem put_rel {E : Env} {tm : Array Value} {a : Act} (h : VRs E tm a.tmps) (dst : Option Tmp) {v v' : Value} (hv : VR E v v') : VRs E (put tm dst v) (a.put dst v').tmps ∧ (a.put dst v').defers = a.defers := by
  cases dst with
  | none => exact ⟨h, rfl⟩
  | some d =>
    refine ⟨?_, rfl⟩
    show VRs E ⟨setL tm.toList d v⟩ _
    rw [setL_eq]
    exact h.set d hv
end Go.Ex
