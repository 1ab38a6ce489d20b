/- Part of the proof. -/
import Derived.Test.YteemponkignnhaaGreatEngEq
import Derived.Orders
noncomputable section
namespace Go.Ex
open Go.RowKit
def getLx : List Value → Nat → Value
  | [], _ => undef
  | v :: _, 0 => v
  | _ :: r, n + 1 => getLx r n
noncomputable def getL (l : List Value) : Nat → Value := List.rec (motive := fun _ => Nat → Value) (fun _ => undef) (fun v _ ih n => Nat.rec (motive := fun _ => Value) v (fun m _ => ih m) n) l
theorem getL_x : @getL = @getLx := by
  funext l
  induction l with
  | nil => funext n; rfl
  | cons v r ih =>
    funext n
    cases n with
    | zero => rfl
    | succ n => show getL r n = getLx r n; rw [ih]
theorem getL_eq (l : List Value) (n : Nat) : getL l n = l.toArray.getD n undef := by
  rw [getL_x]
  induction l generalizing n with
  | nil => simp [getLx]
  | cons v r ih =>
    cases n with
    | zero => simp [getLx]
    | succ n => simp [getLx, ih]
def setLx : List Value → Nat → Value → List Value
  | [], _, _ => []
  | _ :: r, 0, x => x :: r
  | v :: r, n + 1, x => v :: setLx r n x
noncomputable def setL (l : List Value) : Nat → Value → List Value := List.rec (motive := fun _ => Nat → Value → List Value) (fun _ _ => []) (fun v r ih n x => Nat.rec (motive := fun _ => List Value) (x :: r) (fun m _ => v :: ih m x) n) l
theorem setL_x : @setL = @setLx := by
  funext l
  induction l with
  | nil => funext n x; rfl
  | cons v r ih =>
    funext n x
    cases n with
    | zero => rfl
    | succ n => show v :: setL r n x = v :: setLx r n x; rw [ih]
theorem setL_eq (l : List Value) (n : Nat) (x : Value) : (⟨setL l n x⟩ : Array Value) = l.toArray.setIfInBounds n x := by
  have : setL l n x = l.set n x := by
    rw [setL_x]
    induction l generalizing n with
    | nil => rfl
    | cons v r ih => cases n with
      | zero => rfl
      | succ n => simp [setLx, ih]
  rw [this]; simp
def ev (tm : Array Value) : Operand → Value
  | .tmp t => getL tm.toList t
  | .const v => v
  | .global g => .pointer (some ⟨g, 0, none⟩)
  | .func f => .func (.func f) #[] #[]
def okOpd (_ : Nat) : Operand → Bool
  | .const v => clean 6 v
  | .global g => decide (g < gl)
  | _ => true
theorem ev_rel {w0 : World} {G : Nat} {E : Env} {H : CH} {w : World} (h : WR w0 G E H w) {tm : Array Value} {a : Act} (ht : VRs E tm a.tmps) {x : Operand} (hx : okOpd G x = true) : VR E (ev tm x) (a.eval x) := by
  cases x with
  | tmp t =>
    show VR E (getL tm.toList t) _
    rw [getL_eq]
    exact ht.getD t
  | const v => exact VR.of_clean E 6 v hx
  | global g =>
    have hg : g < gl := by simpa [okOpd] using hx
    have hl : g < E.length := by have := h.glen; have := h.old.1; omega
    have he : E[g]? = some E[g] := List.getElem?_eq_getElem hl
    have h0 := h.old.2 g _ hg he
    have := VR.ptr (off := 0) he
    rw [h0] at this
    exact this
  | func f => exact .flat rfl
def listS (ρ : Operand → Value) (ps : Array (Nat × Operand)) : List (Nat × Value) := (ps.map fun (i, x) => (i, ρ x)).toList
def pureS (P : Program) (ρ : Operand → Value) (o : Oper) : Option Value :=
  match o.op with
  | .select _ _ => none
  | _ => if o.op.operands.toList.all fun x => clean 6 (ρ x) then
      match evalPure P (execOp ρ o) with
      | some (.value v) => if clean 6 v then some v else none
      | _ => none
    else none
theorem run_pureS {E : Env} {P : Program} {ρ ρ' : Operand → Value} {o : Oper} {v : Value} (hρ : ∀ x ∈ o.op.operands, VR E (ρ x) (ρ' x)) (hs : pureS P ρ o = some v) (w : World) :
    (execOp ρ' o).run P w = .ok (.value v) w ∧ VR E v v := by
  have hsel : ∀ cs b, o.op ≠ .select cs b := fun cs b hh => by unfold pureS at hs; rw [hh] at hs; cases hs
  have hs' : (if o.op.operands.toList.all fun x => clean 6 (ρ x) then
      match evalPure P (execOp ρ o) with
      | some (.value v) => if clean 6 v then some v else none
      | _ => none
    else none) = some v := by
    unfold pureS at hs
    split at hs
    · cases hs
    · exact hs
  split at hs'
  case isFalse => cases hs'
  rename_i hcl
  have heq : execOp ρ' o = execOp ρ o := execOp_congr o hsel fun x hx => (hρ x hx).eq_of_clean 6 (List.all_eq_true.1 hcl x (by simpa using hx))
  split at hs'
  case h_2 => cases hs'
  rename_i u hu
  split at hs'
  case isFalse => cases hs'
  rename_i hcv
  cases hs'
  rw [heq]
  exact ⟨evalPure_run w hu, VR.of_clean E 6 v hcv⟩
def builtinS (P : Program) (G : Nat) (H : CH) (b : Builtin) (ts : Array TypeId) (args : Array Value) : Option (Value × CH) :=
  match b, ts.toList, args.toList with
  | .append, [t, tx], [s, x] => match appendS P G H t tx s x with
    | some r => some r
    | none => appendZ P H t tx s x
  | .copy, [t, _], [d, x] => copyS P G H t d x
  | .len, [t], [.slice _ n _] => match P.underlying t with
    | some (.slice _) => some (goInt n, H)
    | _ => none
  | .len, [t], [.map (some b)] => match P.underlying t, H[b]? with
    | some (.map _ _), some (.map es _) => some (goInt es.length, H)
    | _, _ => none
  | .clear, [t], [x] => clearS P G H t x
  | .unsafeSliceData, [_], [x] => (sliceDataS x).map (·, H)
  | .unsafeString, [pt, _], [p, n] => unsafeStringS P G H pt p n
  | _, _, _ => none
def nilEq (P : Program) (H : CH) (t : TypeId) (a b : Value) : Option Bool :=
  match P.underlying t, a, b with
  | some (.slice _), .slice (some _) _ (_ + 1), .slice none _ _ => some false
  | some (.slice _), .slice none _ _, .slice (some _) _ (_ + 1) => some false
  | some (.slice _), .slice (some ⟨k, _, none⟩) _ 0, .slice none _ _ => match H[k]? with
    | some (.cells _ _ _ true) => some false
    | _ => none
  | some (.map _ _), .map (some _), .map none => some false
  | some (.map _ _), .map none, .map (some _) => some false
  | some (.pointer _), .pointer (some _), .pointer none => some false
  | some (.pointer _), .pointer none, .pointer (some _) => some false
  | some (.func _ _ _), .func _ _ _, .nilFunc => some false
  | some (.func _ _ _), .nilFunc, .func _ _ _ => some false
  | _, _, _ => none
def samePt (P : Program) (H : CH) (t : TypeId) (a b : Value) : Option Bool :=
  match nilEq P H t a b with
  | some r => some r
  | none => ptrEq P t a b
def isInt (ρ : Operand → Value) (x : Operand) : Bool :=
  match ρ x with
  | .int _ _ => true
  | _ => false
theorem isInt_eq {E : Env} {ρ ρ' : Operand → Value} {x : Operand} (h : isInt ρ x = true) (hr : VR E (ρ x) (ρ' x)) : ρ' x = ρ x := by
  unfold isInt at h
  split at h
  · rename_i k n hx
    rw [hx] at hr ⊢
    exact hr.int_inv
  · cases h
def arithB : BinOp → Bool
  | .add | .sub | .mul | .quo => true
  | _ => false
def nanS (op : BinOp) (a b : Value) : Option Value :=
  match a, b with
  | .float k _, .float l _ => cond (arithB op && decide (k = l)) (some (.chan (some 0))) none
  | .complex k _ _, .complex l _ _ => match op with
    | .add | .sub | .mul => cond (decide (k = l)) (some (.chan (some 0))) none
    | _ => none
  | _, _ => none
def nanC (P : Program) (d : TypeId) (x : Value) : Option Value :=
  match P.underlying d, x with
  | some (.float _), .float _ _ => some (.chan (some 0))
  | some (.int _), .float _ _ => some (.chan (some 0))
  | some (.complex _), .complex _ _ _ => some (.chan (some 0))
  | _, _ => none
def opS (P : Program) (G : Nat) (H : CH) (ρ : Operand → Value) (o : Oper) : Option (Value × CH) :=
  match o.op with
  | .move x | .assign x => some (ρ x, H)
  | .pick c a b => match ρ c with
    | .bool t => some (if t then ρ a else ρ b, H)
    | _ => none
  | .alloc t => allocS P H t
  | .box t x => cond (nw (ρ x)) (some (boxS H t (ρ x))) none
  | .build t ps => (buildS P t (listS ρ ps)).map (·, H)
  | .buildSlice t n ps => buildSliceS P H t n (listS ρ ps)
  | .load t x => match ρ x with
    | .pointer (some ⟨b, off, none⟩) => (loadS P H t b off).map (·, H)
    | _ => none
  | .store t x y => match ρ x with
    | .pointer (some ⟨b, off, none⟩) => (storeS P G H t b off (ρ y)).map (undef, ·)
    | _ => none
  | .nilCheck x => match ρ x with
    | .pointer (some ⟨b, off, none⟩) => some (.pointer (some ⟨b, off, none⟩), H)
    | .func (.func f) a c => some (.func (.func f) a c, H)
    | .func (.yield l) a c => some (.func (.yield l) a c, H)
    | _ => none
  | .slice t x lo hi none => if lo.all (isInt ρ) && hi.all (isInt ρ) then match sliceS P H t (ρ x) (lo.map ρ) (hi.map ρ) with
      | some v => some (v, H)
      | none => (pureS P ρ o).map (·, H)
    else none
  | .sliceToArrayPointer t x => match arrPtrS P t (ρ x) with
    | some v => some (v, H)
    | none => (pureS P ρ o).map (·, H)
  | .slice t x (some lo) (some hi) (some mx) => match slice3S P H t (ρ x) (ρ lo) (ρ hi) (ρ mx) with
    | some v => some (v, H)
    | none => (pureS P ρ o).map (·, H)
  | .fieldAddr t x f => (fieldAtS P t (ρ x) f).map (·, H)
  | .indexAddr t x i => match ρ i with
    | .int _ n => (indexAtS P t (ρ x) n).map (·, H)
    | _ => none
  | .field t x f => (fieldS P t (ρ x) f).map (·, H)
  | .index t x i => match ρ x with
    | .agg _ => match ρ i with
      | .int _ n => (indexS P t (ρ x) n).map (·, H)
      | _ => none
    | _ => (pureS P ρ o).map (·, H)
  | .makeFunc (.func f) first cap => some (.func (.func f) (first.map ρ) (cap.map ρ), H)
  | .extract x i => match ρ x with
    | .tuple vs => vs[i]?.map (·, H)
    | _ => none
  | .makeSlice t l c => makeSliceS P H t (ρ l) (ρ c)
  | .makeMap _ none => makeMapS H none
  | .lookup t m k ok => (lookupS P H t (ρ m) (ρ k) ok).map (·, H)
  | .mapUpdate t m k v | .insert t m k v => (mapUpdateS P G H t (ρ m) (ρ k) (ρ v)).map (undef, ·)
  | .range t x => rangeS P H t (ρ x)
  | .next it true => nextS G H (ρ it)
  | .makeInterface t x => match P.underlying t with
    | some (.interface _) | none => none
    | some _ => some (.iface t (ρ x), H)
  | .convert s d x => match pureS P ρ o with
    | some v => some (v, H)
    | none => match convPtrS P H s d (ρ x) with
      | some v => some (v, H)
      | none => match strBytesS P H s d (ρ x) with
        | some r => some r
        | none => match markS P G H s d (ρ x) with
          | some r => some r
          | none => match strOfS P H s d (ρ x) with
            | some v => some (v, H)
            | none => cond (P.underlying s).isSome ((nanC P d (ρ x)).map (·, H)) none
  | .binOp op t x y _ => match aggEq P op t (ρ x) (ρ y) with
    | some b => some (.bool b, H)
    | none => match pureS P ρ o with
      | some v => some (v, H)
      | none => match op with
        | .eql => (samePt P H t (ρ x) (ρ y)).map fun b => (.bool b, H)
        | .neq => (samePt P H t (ρ x) (ρ y)).map fun b => (.bool !b, H)
        | _ => (nanS op (ρ x) (ρ y)).map (·, H)
  | .call { callee := .builtin b, args, argTypes } => match builtinS P G H b argTypes (args.map ρ) with
    | some r => some r
    | none => (pureS P ρ o).map (·, H)
  | _ => (pureS P ρ o).map (·, H)
theorem run_eq_of {P : Program} {w : World} {t : TypeId} {a b : Value} {r : Bool} (h : ∀ d, (Op.equalIn (d + 1) t a b).run P w = .ok r w) (h1 : binOp .eql t a b = (do pure (.bool (← Op.equal t a b)))) (h2 : binOp .neq t a b = (do pure (.bool (!(← Op.equal t a b))))) :
    (binOp .eql t a b).run P w = .ok (.bool r) w ∧ (binOp .neq t a b).run P w = .ok (.bool !r) w := by
  have h3 : (Op.equal t a b).run P w = .ok r w := h 9999
  rw [h1, h2]
  simp only [Sem.run_bind, h3, Result.andThen_ok, Sem.run_pure]
  exact ⟨trivial, trivial⟩
theorem run_nilEq {w0 : World} {G : Nat} {E : Env} {H : CH} {P : Program} {t : TypeId} {a a' b b' : Value} {r : Bool} {w : World} (hw : WR w0 G E H w) (ha : VR E a a') (hb : VR E b b') (hs : nilEq P H t a b = some r) (x y : Operand) :
    (∀ op, (eqGuard op t x y a' b').run P w = .ok () w) ∧ (binOp .eql t a' b').run P w = .ok (.bool r) w ∧ (binOp .neq t a' b').run P w = .ok (.bool !r) w := by
  unfold nilEq at hs
  split at hs <;> first
    | (cases hs; done)
    | (split at hs
       case h_2 => cases hs
       rename_i hu _ _ _ _ hk
       cases hs
       cases ha with
       | flat hh => cases hh
       | nils he h0 =>
         obtain ⟨_, _, _, _, _, _, hex⟩ := (hw.obj _ _ _ hk he).there (.inr rfl)
         have := (hex rfl).2.1
         omega
       | slice he ho =>
         cases hb with
         | flat hh =>
           refine ⟨fun op => by cases op <;> rfl, run_eq_of (fun d => ?_) rfl rfl⟩
           simp only [Op.equalIn, Sem.run_bind, run_underlying' hu, Result.andThen_ok]
           rfl)
    | (rename_i hu
       cases hs
       cases ha <;> cases hb <;> first
         | (rename_i hh; cases hh; done)
         | (rename_i hh _; cases hh; done)
         | (refine ⟨fun op => by cases op <;> rfl, run_eq_of (fun d => ?_) rfl rfl⟩
            simp only [Op.equalIn, Sem.run_bind, run_underlying' hu, Result.andThen_ok]
            rfl))
theorem run_samePt {w0 : World} {G : Nat} {E : Env} {H : CH} {P : Program} {t : TypeId} {a a' b b' : Value} {r : Bool} {w : World} (hw : WR w0 G E H w) (ha : VR E a a') (hb : VR E b b') (hs : samePt P H t a b = some r) (x y : Operand) :
    (∀ op, (eqGuard op t x y a' b').run P w = .ok () w) ∧ (binOp .eql t a' b').run P w = .ok (.bool r) w ∧ (binOp .neq t a' b').run P w = .ok (.bool !r) w := by
  unfold samePt at hs
  split at hs
  · rename_i r' hr
    cases hs
    exact run_nilEq hw ha hb hr x y
  · exact run_ptrEq ha hb hs w x y
structure OpOut (P : Program) (w0 : World) (G : Nat) (E : Env) (H' : CH) (w : World) (ρ' : Operand → Value) (o : Oper) (v : Value) : Prop where
  out : ∃ F v' w', ((execOp ρ' o).run P w = .ok (.value v') w' ∨ ((execOp ρ' o).run P w = .ok .skip w' ∧ v' = undef)) ∧ VR (E ++ F) v v' ∧ WR w0 G (E ++ F) H' w'
theorem OpOut.of_value {P : Program} {w0 : World} {G : Nat} {E : Env} {H' : CH} {w : World} {ρ' : Operand → Value} {o : Oper} {v : Value}
    {s : Sem Value} (hex : execOp ρ' o = (do pure (.value (← s)))) (h : ∃ F v' w', s.run P w = .ok v' w' ∧ VR (E ++ F) v v' ∧ WR w0 G (E ++ F) H' w') : OpOut P w0 G E H' w ρ' o v := by
  obtain ⟨F, v', w', h1, h2, h3⟩ := h
  exact ⟨F, v', w', .inl (by rw [hex, Sem.run_bind, h1]; rfl), h2, h3⟩
theorem OpOut.of_quiet {P : Program} {w0 : World} {G : Nat} {E : Env} {H : CH} {w : World} (hw : WR w0 G E H w) {ρ' : Operand → Value} {o : Oper} {v : Value}
    {s : Sem Value} (hex : execOp ρ' o = (do pure (.value (← s)))) (h : ∃ v', s.run P w = .ok v' w ∧ VR E v v') : OpOut P w0 G E H w ρ' o v := by
  obtain ⟨v', h1, h2⟩ := h
  exact .of_value hex ⟨[], v', w, h1, by simpa using h2, by simpa using hw⟩
theorem OpOut.of_unit {P : Program} {w0 : World} {G : Nat} {E : Env} {H' : CH} {w : World} {ρ' : Operand → Value} {o : Oper}
    {s : Sem Unit} (hex : execOp ρ' o = (do s; pure .skip)) (h : ∃ w', s.run P w = .ok () w' ∧ WR w0 G E H' w') : OpOut P w0 G E H' w ρ' o undef := by
  obtain ⟨w', h1, h3⟩ := h
  exact ⟨[], undef, w', .inr ⟨by rw [hex, Sem.run_bind, h1]; rfl, rfl⟩, .undef _, by simpa using h3⟩
theorem OpOut.of_pure {P : Program} {w0 : World} {G : Nat} {E : Env} {H : CH} {w : World} (hw : WR w0 G E H w) {ρ ρ' : Operand → Value} {o : Oper} {v : Value} (hρ : ∀ x ∈ o.op.operands, VR E (ρ x) (ρ' x)) (hs : pureS P ρ o = some v) :
    OpOut P w0 G E H w ρ' o v := by
  obtain ⟨h1, h2⟩ := run_pureS hρ hs w
  exact ⟨[], v, w, .inl h1, by simpa using h2, by simpa using hw⟩
def Quiet {α : Type} (P : Program) (s : Sem α) (Q : α → Prop) : Prop := ∀ w : World, ∃ a n, s.run P w = .ok a { w with drawn := n } ∧ Q a
theorem Quiet.pure {α : Type} {P : Program} {a : α} {Q : α → Prop} (h : Q a) : Quiet P (Pure.pure a : Sem α) Q := fun w => ⟨a, w.drawn, rfl, h⟩
theorem Quiet.bind {α β : Type} {P : Program} {s : Sem α} {f : α → Sem β} {Q : α → Prop} {R : β → Prop} (h : Quiet P s Q) (k : ∀ a, Q a → Quiet P (f a) R) : Quiet P (s >>= f) R := by
  intro w
  obtain ⟨a, n, ha, hq⟩ := h w
  obtain ⟨b, m, hb, hr⟩ := k a hq { w with drawn := n }
  exact ⟨b, m, by rw [Sem.run_bind, ha]; exact hb, hr⟩
theorem Quiet.choose {P : Program} (q : Question) : Quiet P (choose q) fun _ => True := by
  intro w
  by_cases h : q.forced = true
  · exact ⟨0, w.drawn, by simp only [Go.choose, Sem.run, h, if_true], trivial⟩
  · exact ⟨_, w.drawn + 1, by simp only [Go.choose, Sem.run, h]; rfl, trivial⟩
theorem quiet_floatArith {P : Program} {op : BinOp} (k : FloatKind) (x y : Nat) (h : arithB op = true) : Quiet P (Op.floatArith op k x y) fun v => ∃ r, v = .float k r := by
  have fin : ∀ o : Option Nat, Quiet P (match o with
      | some r => (Pure.pure (.float k r) : Sem Value)
      | none => do Pure.pure (.float k (← choose (.nanBits k x y)))) fun v => ∃ r, v = .float k r := by
    intro o
    cases o with
    | some r => exact .pure ⟨r, rfl⟩
    | none => exact (Quiet.choose _).bind fun a _ => .pure ⟨a, rfl⟩
  unfold Op.floatArith
  cases op <;> first
    | (cases h; done)
    | exact (Quiet.pure (Q := fun _ => True) trivial).bind fun a _ => fin a
theorem quiet_arith {P : Program} {op : BinOp} (k : FloatKind) (x y : Nat) (h : arithB op = true) : Quiet P (Op.Complex.arith op k x y) fun _ => True := by
  unfold Op.Complex.arith
  refine (quiet_floatArith k x y h).bind fun a ha => ?_
  obtain ⟨r, rfl⟩ := ha
  exact .pure trivial
theorem quiet_f2f {P : Program} (k : FloatKind) (x : Nat) (d : FloatKind) : Quiet P (Conv.floatToFloat k x d) fun v => ∃ r, v = .float d r := by
  unfold Conv.floatToFloat
  split
  · exact .pure ⟨x, rfl⟩
  · split
    · exact (Quiet.choose _).bind fun a _ => .pure ⟨a, rfl⟩
    · exact .pure ⟨_, rfl⟩
    · dsimp only
      split
      · exact (Quiet.choose _).bind fun a _ => .pure ⟨a, rfl⟩
      · exact .pure ⟨_, rfl⟩
theorem quiet_f2i {P : Program} (k : FloatKind) (x : Nat) (d : IntKind) : Quiet P (Conv.floatToInt k x d) fun _ => True := by
  unfold Conv.floatToInt
  dsimp only
  split
  · split
    · exact .pure trivial
    · exact (Quiet.choose _).bind fun a _ => .pure trivial
  · exact (Quiet.choose _).bind fun a _ => .pure trivial
theorem quiet_conv {P : Program} (k : FloatKind) (x : Nat) (d : FloatKind) : Quiet P (Op.Complex.conv k x d) fun _ => True := by
  unfold Op.Complex.conv
  split
  · exact .pure trivial
  · refine (quiet_f2f k x d).bind fun a ha => ?_
    obtain ⟨r, rfl⟩ := ha
    exact .pure trivial
theorem quiet_c2c {P : Program} (k : FloatKind) (x y : Nat) (d : FloatKind) : Quiet P (Conv.complexToComplex k x y d) fun _ => True := by
  unfold Conv.complexToComplex
  refine (quiet_f2f k x d).bind fun a ha => ?_
  obtain ⟨r, rfl⟩ := ha
  refine (quiet_f2f k y d).bind fun a ha => ?_
  obtain ⟨r, rfl⟩ := ha
  exact .pure trivial
theorem quiet_complex {P : Program} {op : BinOp} (k : FloatKind) (a b c d : Nat) (h : op = .add ∨ op = .sub ∨ op = .mul) : Quiet P (Op.complexOp op k a b c d) fun _ => True := by
  rcases h with rfl | rfl | rfl
  · exact (quiet_arith k a c rfl).bind fun x _ => (quiet_arith k b d rfl).bind fun y _ => .pure trivial
  · exact (quiet_arith k a c rfl).bind fun x _ => (quiet_arith k b d rfl).bind fun y _ => .pure trivial
  · refine (quiet_conv k a .f64).bind fun a _ => (quiet_conv k b .f64).bind fun b _ => (quiet_conv k c .f64).bind fun c _ => (quiet_conv k d .f64).bind fun d _ => ?_
    refine Quiet.bind (Q := fun _ => True) ?_ fun e _ => ?_
    · show Quiet P (Op.Complex.product a b c d) _
      unfold Op.Complex.product
      exact (quiet_arith .f64 a c rfl).bind fun x _ => (quiet_arith .f64 b d rfl).bind fun y _ => (quiet_arith .f64 x y rfl).bind fun z _ =>
        (quiet_arith .f64 a d rfl).bind fun x _ => (quiet_arith .f64 b c rfl).bind fun y _ => (quiet_arith .f64 x y rfl).bind fun u _ => .pure trivial
    · exact (quiet_conv .f64 _ k).bind fun x _ => (quiet_conv .f64 _ k).bind fun y _ => .pure trivial
theorem OpOut.of_quietly {P : Program} {w0 : World} {G : Nat} {E : Env} {H : CH} {w : World} (hw : WR w0 G E H w) {ρ' : Operand → Value} {o : Oper} {s : Sem Value} {Q : Value → Prop} (hex : execOp ρ' o = (do pure (.value (← s)))) (h : Quiet P s Q) :
    OpOut P w0 G E H w ρ' o (.chan (some 0)) := by
  obtain ⟨a, n, ha, _⟩ := h w
  exact .of_value hex ⟨[], a, { w with drawn := n }, ha, .wild, by rw [List.append_nil]; exact hw.draws n⟩
theorem VR.float_inv {E : Env} {k : FloatKind} {n : Nat} {v' : Value} (h : VR E (.float k n) v') : v' = .float k n := by cases h; rfl
theorem VR.complex_inv {E : Env} {k : FloatKind} {n m : Nat} {v' : Value} (h : VR E (.complex k n m) v') : v' = .complex k n m := by cases h; rfl
theorem eqGuard_arith {op : BinOp} (h : arithB op = true) (t : TypeId) (x y : Operand) (a b : Value) : eqGuard op t x y a b = (pure () : Sem Unit) := by
  cases op <;> first
    | (cases h; done)
    | rfl
theorem run_nanS {P : Program} {E : Env} {op : BinOp} {a a' b b' : Value} {v : Value} (ha : VR E a a') (hb : VR E b b') (hs : nanS op a b = some v) (t : TypeId) (x y : Operand) :
    v = .chan (some 0) ∧ Quiet P (do eqGuard op t x y a' b'; binOp op t a' b') fun _ => True := by
  have fl : ∀ k n l m, nanS op (.float k n) (.float l m) = some v → VR E (.float k n) a' → VR E (.float l m) b' → v = .chan (some 0) ∧ Quiet P (do eqGuard op t x y a' b'; binOp op t a' b') fun _ => True := by
    intro k n l m hs ha hb
    have hs' : cond (arithB op && decide (k = l)) (some (Value.chan (some 0))) none = some v := hs
    cases hc : arithB op && decide (k = l) with
    | false => rw [hc] at hs'; cases hs'
    | true =>
      rw [hc] at hs'
      cases hs'
      rw [Bool.and_eq_true, decide_eq_true_eq] at hc
      obtain ⟨h1, rfl⟩ := hc
      rw [ha.float_inv, hb.float_inv, eqGuard_arith h1]
      refine ⟨rfl, (Quiet.pure (Q := fun _ => True) trivial).bind fun _ _ => ?_⟩
      intro w
      obtain ⟨a, n1, h, _⟩ := quiet_floatArith (P := P) k n m h1 w
      refine ⟨a, n1, ?_, trivial⟩
      rw [← h]
      cases op <;> first
        | (cases h1; done)
        | simp [binOp]
  have cx : ∀ k n n2 l m m2, nanS op (.complex k n n2) (.complex l m m2) = some v → VR E (.complex k n n2) a' → VR E (.complex l m m2) b' → v = .chan (some 0) ∧ Quiet P (do eqGuard op t x y a' b'; binOp op t a' b') fun _ => True := by
    intro k n n2 l m m2 hs ha hb
    have hop : (op = .add ∨ op = .sub ∨ op = .mul) ∧ cond (decide (k = l)) (some (Value.chan (some 0))) none = some v := by
      cases op <;> first
        | (cases hs; done)
        | exact ⟨.inl rfl, hs⟩
        | exact ⟨.inr (.inl rfl), hs⟩
        | exact ⟨.inr (.inr rfl), hs⟩
    obtain ⟨h1, hs'⟩ := hop
    cases hc : decide (k = l) with
    | false => rw [hc] at hs'; cases hs'
    | true =>
      rw [hc] at hs'
      cases hs'
      have : k = l := by simpa using hc
      subst this
      have ha2 : arithB op = true := by rcases h1 with rfl | rfl | rfl <;> rfl
      rw [ha.complex_inv, hb.complex_inv, eqGuard_arith ha2]
      refine ⟨rfl, (Quiet.pure (Q := fun _ => True) trivial).bind fun _ _ => ?_⟩
      intro w
      obtain ⟨a, n1, h, _⟩ := quiet_complex (P := P) k n n2 m m2 h1 w
      refine ⟨a, n1, ?_, trivial⟩
      rw [← h]
      rcases h1 with rfl | rfl | rfl <;> simp [binOp]
  cases a <;> first
    | (cases hs; done)
    | skip
  · cases b <;> first
      | (cases hs; done)
      | exact fl _ _ _ _ hs ha hb
  · cases b <;> first
      | (cases hs; done)
      | exact cx _ _ _ _ _ _ hs ha hb
theorem run_nanC {P : Program} {E : Env} {s d : TypeId} {x x' : Value} {v : Value} (hx : VR E x x') (hs : nanC P d x = some v) (hu : (P.underlying s).isSome = true) :
    v = .chan (some 0) ∧ Quiet P (convert s d x') fun _ => True := by
  obtain ⟨u, hu⟩ := Option.isSome_iff_exists.1 hu
  unfold nanC at hs
  split at hs
  · rename_i k l b hd
    cases hs
    rw [hx.float_inv]
    refine ⟨rfl, fun w => ?_⟩
    obtain ⟨a, n, h, _⟩ := quiet_f2f (P := P) l b k w
    refine ⟨a, n, ?_, trivial⟩
    rw [← h]
    simp [convert, run_underlying' hu, run_underlying' hd]
  · rename_i k l b hd
    cases hs
    rw [hx.float_inv]
    refine ⟨rfl, fun w => ?_⟩
    obtain ⟨a, n, h, _⟩ := quiet_f2i (P := P) l b k w
    refine ⟨a, n, ?_, trivial⟩
    rw [← h]
    simp [convert, run_underlying' hu, run_underlying' hd]
  · rename_i k l b c hd
    cases hs
    rw [hx.complex_inv]
    refine ⟨rfl, fun w => ?_⟩
    obtain ⟨a, n, h, _⟩ := quiet_c2c (P := P) l b c k w
    refine ⟨a, n, ?_, trivial⟩
    rw [← h]
    simp [convert, run_underlying' hu, run_underlying' hd]
  · cases hs
theorem list_two {α : Type} {a : Array α} {x y : α} (h : a.toList = [x, y]) : a = #[x, y] := by
  rw [← Array.toArray_toList (xs := a), h]
theorem list_one {α : Type} {a : Array α} {x : α} (h : a.toList = [x]) : a = #[x] := by
  rw [← Array.toArray_toList (xs := a), h]
theorem run_builtinS {P : Program} {w0 : World} {G : Nat} {E : Env} {H H' : CH} {w : World} (hw : WR w0 G E H w) {ρ ρ' : Operand → Value} {dst : Option Tmp} {b : Builtin} {args : Array Operand} {ts : Array TypeId} {type : TypeId} {pos : String} {after : Array Edge}
    {guard : Option (Nat × Bool)} {v : Value} (hρ : ∀ x ∈ (Op.call { callee := .builtin b, args := args, argTypes := ts }).operands, VR E (ρ x) (ρ' x)) (hs : builtinS P G H b ts (args.map ρ) = some (v, H')) :
    OpOut P w0 G E H' w ρ' { dst := dst, op := .call { callee := .builtin b, args := args, argTypes := ts }, type := type, pos := pos, after := after, guard := guard } v := by
  have hx : ∀ x ∈ args, VR E (ρ x) (ρ' x) := fun x hx => hρ x (by simpa [Op.operands, Call.operands] using hx)
  have hv := VRs.map args ρ ρ' hx
  generalize hA : args.map ρ = A at hs hv
  generalize hA' : args.map ρ' = A' at hv
  have hex : ∀ (s : Sem Value), (builtin b ts type (args.map fun | .const _ => true | _ => false) A' = do pure (.value (← s))) →
      execOp ρ' { dst := dst, op := .call { callee := .builtin b, args := args, argTypes := ts }, type := type, pos := pos, after := after, guard := guard } = (do pure (.value (← s))) := by
    intro s h
    rw [← h, ← hA']
    rfl
  unfold builtinS at hs
  split at hs
  · rename_i t tx s x ht ha
    cases list_two ht
    cases list_two ha
    have hsz := hv.size
    obtain ⟨s', h1, r1⟩ := hv.get (i := 0) (x := s) rfl
    obtain ⟨x', h2, r2⟩ := hv.get (i := 1) (x := x) rfl
    have hA2 : A' = #[s', x'] := by
      apply Array.ext
      · simpa using hsz.symm
      · intro i h3 h4
        match i, h4 with
        | 0, _ => simpa using (Array.getElem?_eq_some_iff.1 h1).2
        | 1, _ => simpa using (Array.getElem?_eq_some_iff.1 h2).2
        | i + 2, h4 => simp at h4; omega
    subst hA2
    split at hs
    · rename_i r hr
      cases hs
      exact .of_value (hex _ rfl) (run_appendS hw r1 r2 hr)
    · exact .of_value (hex _ rfl) (run_appendZ hw r1 r2 hs)
  · rename_i t tx s x ht ha
    cases list_two ht
    cases list_two ha
    have hsz := hv.size
    obtain ⟨s', h1, r1⟩ := hv.get (i := 0) (x := s) rfl
    obtain ⟨x', h2, r2⟩ := hv.get (i := 1) (x := x) rfl
    have hA2 : A' = #[s', x'] := by
      apply Array.ext
      · simpa using hsz.symm
      · intro i h3 h4
        match i, h4 with
        | 0, _ => simpa using (Array.getElem?_eq_some_iff.1 h1).2
        | 1, _ => simpa using (Array.getElem?_eq_some_iff.1 h2).2
        | i + 2, h4 => simp at h4; omega
    subst hA2
    exact .of_value (hex _ rfl) (run_copyS hw r1 r2 hs)
  · rename_i t a n c ht ha
    cases list_one ht
    cases list_one ha
    have hsz := hv.size
    obtain ⟨s', h1, r1⟩ := hv.get (i := 0) (x := .slice a n c) rfl
    have hA2 : A' = #[s'] := by
      apply Array.ext
      · simpa using hsz.symm
      · intro i h3 h4
        match i, h4 with
        | 0, _ => simpa using (Array.getElem?_eq_some_iff.1 h1).2
        | i + 1, h4 => simp at h4
    subst hA2
    split at hs
    case h_2 => cases hs
    rename_i e hu
    cases hs
    refine .of_value (hex _ rfl) ⟨[], goInt n, w, ?_, .flat rfl, by simpa using hw⟩
    have : ∃ a' c', s' = .slice a' n c' := by
      cases r1 with
      | flat _ => exact ⟨_, _, rfl⟩
      | slice _ _ => exact ⟨_, _, rfl⟩
      | nils _ _ => exact ⟨_, _, rfl⟩
    obtain ⟨a', c', rfl⟩ := this
    simp only [Builtin.len_, List.getElem?_toArray, List.getElem?_cons_zero, Sem.run_bind, run_underlying' hu, Result.andThen_ok, Sem.run_pure]
  · rename_i t b ht ha
    cases list_one ht
    cases list_one ha
    have hsz := hv.size
    obtain ⟨s', h1, r1⟩ := hv.get (i := 0) (x := .map (some b)) rfl
    have hA2 : A' = #[s'] := by
      apply Array.ext
      · simpa using hsz.symm
      · intro i h3 h4
        match i, h4 with
        | 0, _ => simpa using (Array.getElem?_eq_some_iff.1 h1).2
        | i + 1, h4 => simp at h4
    subst hA2
    split at hs
    case h_2 => cases hs
    rename_i k e es clock hu hH
    cases hs
    obtain ⟨en, he, rfl⟩ := r1.map_inv
    obtain ⟨es', ho, hsz', _⟩ := hw.obj b _ en hH he
    refine .of_value (hex _ rfl) ⟨[], goInt es.length, w, ?_, .flat rfl, by simpa using hw⟩
    simp only [Builtin.len_, List.getElem?_toArray, List.getElem?_cons_zero, Sem.run_bind, run_underlying' hu, Result.andThen_ok, Sem.run_pure, run_getObj' (P := P) ho (fun _ _ _ x => by cases x), hsz']
  · rename_i t x ht ha
    cases list_one ht
    cases list_one ha
    have hsz := hv.size
    obtain ⟨x', h1, r1⟩ := hv.get (i := 0) (x := x) rfl
    have hA2 : A' = #[x'] := by
      apply Array.ext
      · simpa using hsz.symm
      · intro i h3 h4
        match i, h4 with
        | 0, _ => simpa using (Array.getElem?_eq_some_iff.1 h1).2
        | i + 1, h4 => simp at h4
    subst hA2
    exact .of_value (hex _ rfl) (run_clearS hw r1 hs)
  · rename_i t x ht ha
    cases list_one ht
    cases list_one ha
    have hsz := hv.size
    obtain ⟨x', h1, r1⟩ := hv.get (i := 0) (x := x) rfl
    have hA2 : A' = #[x'] := by
      apply Array.ext
      · simpa using hsz.symm
      · intro i h3 h4
        match i, h4 with
        | 0, _ => simpa using (Array.getElem?_eq_some_iff.1 h1).2
        | i + 1, h4 => simp at h4
    subst hA2
    obtain ⟨u, hu, hq⟩ := map_some' hs
    cases hq
    exact .of_quiet hw (hex _ rfl) (run_sliceDataS r1 hu w)
  · rename_i pt it p n ht ha
    cases list_two ht
    cases list_two ha
    have hsz := hv.size
    obtain ⟨s', h1, r1⟩ := hv.get (i := 0) (x := p) rfl
    obtain ⟨x', h2, r2⟩ := hv.get (i := 1) (x := n) rfl
    have hA2 : A' = #[s', x'] := by
      apply Array.ext
      · simpa using hsz.symm
      · intro i h3 h4
        match i, h4 with
        | 0, _ => simpa using (Array.getElem?_eq_some_iff.1 h1).2
        | 1, _ => simpa using (Array.getElem?_eq_some_iff.1 h2).2
        | i + 2, h4 => simp at h4; omega
    subst hA2
    exact .of_value (hex _ rfl) (run_unsafeStringS hw r1 r2 hs)
  · cases hs
theorem run_opS {P : Program} {w0 : World} {G : Nat} {E : Env} {H H' : CH} {w : World} (hw : WR w0 G E H w) {ρ ρ' : Operand → Value} {o : Oper} {v : Value} (hρ : ∀ x ∈ o.op.operands, VR E (ρ x) (ρ' x))
    (hs : opS P G H ρ o = some (v, H')) : OpOut P w0 G E H' w ρ' o v := by
  obtain ⟨dst, op, type, pos, after, guard⟩ := o
  have hpairs : ∀ ps : Array (Nat × Operand), (∀ x ∈ ps.toList.map (·.2), VR E (ρ x) (ρ' x)) → ∀ x, (∃ i, (i, x) ∈ ps.toList) → VR E (ρ x) (ρ' x) := fun ps hp x ⟨i, hi⟩ => hp x (List.mem_map.2 ⟨(i, x), hi, rfl⟩)
  cases op with
  | move x => cases hs; exact ⟨[], ρ' x, w, .inl rfl, by simpa using hρ x (by simp [Op.operands]), by simpa using hw⟩
  | assign x => cases hs; exact ⟨[], ρ' x, w, .inl rfl, by simpa using hρ x (by simp [Op.operands]), by simpa using hw⟩
  | pick c a b =>
    simp only [opS] at hs
    split at hs
    case h_2 => cases hs
    rename_i t hc
    cases hs
    have h1 := hρ c (by simp [Op.operands])
    rw [hc] at h1
    have h2 := h1.bool_inv
    refine ⟨[], if t then ρ' a else ρ' b, w, .inl ?_, ?_, by simpa using hw⟩
    · simp only [execOp, h2, asBool, Sem.run_bind, Sem.run_pure, Result.andThen_ok]
    · rw [List.append_nil]
      cases t
      · exact hρ b (by simp [Op.operands])
      · exact hρ a (by simp [Op.operands])
  | alloc t => exact .of_value rfl (run_allocS hw hs _)
  | box t x =>
    simp only [opS] at hs
    cases hn : nw (ρ x) with
    | false => rw [hn] at hs; cases hs
    | true =>
      rw [hn] at hs
      cases hs
      exact .of_value rfl (run_boxS P hw t (hρ x (by simp [Op.operands])) hn)
  | build t ps =>
    obtain ⟨u, hu, hq⟩ := map_some' hs
    cases hq
    exact .of_quiet hw rfl (run_buildS (by simp) (parts_rel ps (hpairs ps fun x hx => hρ x (by simpa [Op.operands] using hx))) hu w)
  | buildSlice t n ps => exact .of_value rfl (run_buildSliceS hw (by simp) (parts_rel ps (hpairs ps fun x hx => hρ x (by simpa [Op.operands] using hx))) hs)
  | load t x =>
    simp only [opS] at hs
    split at hs
    case h_2 => cases hs
    rename_i b off hx
    obtain ⟨u, hu, hq⟩ := map_some' hs
    cases hq
    have h1 := hρ x (by simp [Op.operands])
    rw [hx] at h1
    obtain ⟨e, he, h2⟩ := h1.ptr_inv
    refine .of_quiet hw rfl ?_
    rw [h2]
    obtain ⟨v', h3, h4⟩ := run_loadVar hw he hu
    exact ⟨v', by simp only [Instr.loadAt, Instr.sureAddr, Sem.run_bind, Sem.run_pure, Result.andThen_ok]; exact h3, h4⟩
  | store t x y =>
    simp only [opS] at hs
    split at hs
    case h_2 => cases hs
    rename_i b off hx
    obtain ⟨u, hu, hq⟩ := map_some' hs
    cases hq
    have h1 := hρ x (by simp [Op.operands])
    rw [hx] at h1
    obtain ⟨e, he, h2⟩ := h1.ptr_inv
    refine .of_unit rfl ?_
    rw [h2]
    obtain ⟨w', h3, h4⟩ := run_storeVar hw he (hρ y (by simp [Op.operands])) hu
    exact ⟨w', by simp only [Instr.storeAt, Instr.sureAddr, Sem.run_bind, Sem.run_pure, Result.andThen_ok]; exact h3, h4⟩
  | nilCheck x =>
    have h1 := hρ x (by simp [Op.operands])
    simp only [opS] at hs
    split at hs
    · rename_i b off hx
      cases hs
      rw [hx] at h1
      obtain ⟨e, he, h2⟩ := h1.ptr_inv
      refine ⟨[], ρ' x, w, .inl ?_, by rw [List.append_nil]; exact h1, by simpa using hw⟩
      simp only [execOp, h2, Sem.run_pure]
    · rename_i f a c hx
      cases hs
      rw [hx] at h1
      obtain ⟨a', c', h2, _, _⟩ := h1.func_inv
      refine ⟨[], ρ' x, w, .inl ?_, by rw [List.append_nil]; exact h1, by simpa using hw⟩
      simp only [execOp, h2, Sem.run_pure]
    · rename_i l a c hx
      cases hs
      rw [hx] at h1
      refine ⟨[], ρ' x, w, .inl ?_, by rw [List.append_nil]; exact h1, by simpa using hw⟩
      obtain ⟨e, he⟩ : ∃ e : En, ρ' x = .func (.yield e.blk) #[] #[] := by
        generalize ρ' x = y at h1
        cases h1 with
        | flat hh => cases hh
        | yield hh => exact ⟨_, rfl⟩
      simp only [execOp, he, Sem.run_pure]
    · cases hs
  | sliceToArrayPointer t x =>
    simp only [opS] at hs
    split at hs
    · rename_i u hu
      cases hs
      exact .of_quiet hw (s := Instr.arrayAt t (ρ' x)) rfl (run_arrPtrS (hρ x (by simp [Op.operands])) hu w)
    · obtain ⟨u, hu, hq⟩ := map_some' hs
      cases hq
      exact .of_pure hw hρ hu
  | slice t x lo hi mx =>
    cases mx with
    | some m =>
      cases lo with
      | none =>
        simp only [opS] at hs
        obtain ⟨u, hu, hq⟩ := map_some' hs
        cases hq
        exact .of_pure hw hρ hu
      | some l =>
        cases hi with
        | none =>
          simp only [opS] at hs
          obtain ⟨u, hu, hq⟩ := map_some' hs
          cases hq
          exact .of_pure hw hρ hu
        | some h =>
          simp only [opS] at hs
          split at hs
          · rename_i u hu
            cases hs
            exact .of_quiet hw (s := Instr.sliceAt t (ρ' x) (some (ρ' l)) (some (ρ' h)) (some (ρ' m))) rfl
              (run_slice3S hw (hρ x (by simp [Op.operands])) (hρ l (by simp [Op.operands])) (hρ h (by simp [Op.operands])) (hρ m (by simp [Op.operands])) hu)
          · obtain ⟨u, hu, hq⟩ := map_some' hs
            cases hq
            exact .of_pure hw hρ hu
    | none =>
      simp only [opS] at hs
      have h1 := hρ x (by simp [Op.operands])
      split at hs
      case isFalse => cases hs
      rename_i hb
      rw [Bool.and_eq_true] at hb
      have hlo : lo.map ρ' = lo.map ρ := by
        cases lo with
        | none => rfl
        | some y => simp only [Option.map_some]; rw [isInt_eq (by simpa using hb.1) (hρ y (by simp [Op.operands]))]
      have hhi : hi.map ρ' = hi.map ρ := by
        cases hi with
        | none => rfl
        | some y => simp only [Option.map_some]; rw [isInt_eq (by simpa using hb.2) (hρ y (by simp [Op.operands]))]
      split at hs
      · rename_i u hu
        cases hs
        refine .of_quiet hw (s := Instr.sliceAt t (ρ' x) (lo.map ρ') (hi.map ρ') none) rfl ?_
        rw [hlo, hhi]
        exact run_sliceS hw h1 hu
      · obtain ⟨u, hu, hq⟩ := map_some' hs
        cases hq
        exact .of_pure hw hρ hu
  | fieldAddr t x f =>
    obtain ⟨u, hu, hq⟩ := map_some' hs
    cases hq
    exact .of_quiet hw rfl (run_fieldAtS (hρ x (by simp [Op.operands])) hu w)
  | indexAddr t x i =>
    simp only [opS] at hs
    split at hs
    case h_2 => cases hs
    rename_i k n hi
    obtain ⟨u, hu, hq⟩ := map_some' hs
    cases hq
    have h1 := hρ i (by simp [Op.operands])
    rw [hi] at h1
    refine .of_quiet hw rfl ?_
    rw [h1.int_inv]
    exact run_indexAtS (hρ x (by simp [Op.operands])) hu w
  | field t x f =>
    obtain ⟨u, hu, hq⟩ := map_some' hs
    cases hq
    exact .of_quiet hw rfl (run_fieldS (hρ x (by simp [Op.operands])) hu w)
  | index t x i =>
    simp only [opS] at hs
    have h1 := hρ x (by simp [Op.operands])
    split at hs
    · rename_i cs hx
      split at hs
      case h_2 => cases hs
      rename_i k n hi
      obtain ⟨u, hu, hq⟩ := map_some' hs
      cases hq
      have h2 := hρ i (by simp [Op.operands])
      rw [hi] at h2
      refine .of_quiet hw (s := Instr.index t (ρ' x) (ρ' i)) rfl ?_
      rw [h2.int_inv]
      exact run_indexS h1 hu w
    · obtain ⟨u, hu, hq⟩ := map_some' hs
      cases hq
      exact .of_pure hw hρ hu
  | makeFunc fn first cap =>
    cases fn with
    | func f =>
      cases hs
      have ha : VRs E (first.map ρ) (first.map ρ') := VRs.map first ρ ρ' fun x hx => hρ x (by simp [Op.operands, hx])
      have hc : VRs E (cap.map ρ) (cap.map ρ') := VRs.map cap ρ ρ' fun x hx => hρ x (by simp [Op.operands, hx])
      exact ⟨[], .func (.func f) (first.map ρ') (cap.map ρ'), w, .inl rfl, by rw [List.append_nil]; exact .func ha.size hc.size ha.at_ hc.at_, by simpa using hw⟩
    | _ =>
      obtain ⟨u, hu, hq⟩ := map_some' hs
      cases hq
      exact .of_pure hw hρ hu
  | extract x i =>
    simp only [opS] at hs
    have h1 := hρ x (by simp [Op.operands])
    split at hs
    case h_2 => cases hs
    rename_i vs hx
    obtain ⟨u, hu, hq⟩ := map_some' hs
    cases hq
    rw [hx] at h1
    obtain ⟨vs', h2, h3⟩ := h1.tuple_inv
    obtain ⟨u', h4, h5⟩ := h3.get hu
    refine .of_quiet hw (s := Instr.extract (ρ' x) i) rfl ⟨u', ?_, h5⟩
    simp only [Instr.extract, h2, h4, Sem.run_pure]
  | makeSlice t l c => exact .of_value rfl (run_makeSliceS hw (hρ l (by simp [Op.operands])) (hρ c (by simp [Op.operands])) hs)
  | makeMap t r =>
    cases r with
    | none => exact .of_value rfl (run_makeMapS hw hs)
    | some r =>
      obtain ⟨u, hu, hq⟩ := map_some' hs
      cases hq
      exact .of_pure hw hρ hu
  | lookup t m k ok =>
    obtain ⟨u, hu, hq⟩ := map_some' hs
    cases hq
    exact .of_quiet hw rfl (run_lookupS hw (hρ m (by simp [Op.operands])) (hρ k (by simp [Op.operands])) hu)
  | mapUpdate t m k x =>
    obtain ⟨u, hu, hq⟩ := map_some' hs
    cases hq
    exact .of_unit rfl (run_mapUpdateS hw (hρ m (by simp [Op.operands])) (hρ k (by simp [Op.operands])) (hρ x (by simp [Op.operands])) hu)
  | insert t m k x =>
    obtain ⟨u, hu, hq⟩ := map_some' hs
    cases hq
    exact .of_unit rfl (run_mapUpdateS hw (hρ m (by simp [Op.operands])) (hρ k (by simp [Op.operands])) (hρ x (by simp [Op.operands])) hu)
  | range t x => exact .of_value rfl (run_rangeS hw (hρ x (by simp [Op.operands])) hs)
  | next it b =>
    cases b with
    | true => exact .of_value rfl (run_nextS hw (hρ it (by simp [Op.operands])) hs)
    | false =>
      obtain ⟨u, hu, hq⟩ := map_some' hs
      cases hq
      exact .of_pure hw hρ hu
  | makeInterface t x =>
    simp only [opS] at hs
    split at hs
    · cases hs
    · cases hs
    · rename_i d hne hu
      cases hs
      have h1 := hρ x (by simp [Op.operands])
      refine .of_quiet hw (s := Instr.makeInterface t (ρ' x)) rfl ⟨.iface t (ρ' x), ?_, .iface h1⟩
      simp only [Instr.makeInterface, Sem.run_bind, run_underlying' hu, Result.andThen_ok]
      cases d <;> first | rfl | (exact absurd hu (hne _))
  | convert s d x =>
    simp only [opS] at hs
    have hx := hρ x (by simp [Op.operands])
    split at hs
    · rename_i u hu
      cases hs
      exact .of_pure hw hρ hu
    · split at hs
      · rename_i u hu
        cases hs
        obtain ⟨h1, h2⟩ := run_convPtrS hw hx hu
        exact .of_quiet hw (s := convert s d (ρ' x)) rfl ⟨ρ' x, h1, h2⟩
      · split at hs
        · rename_i r hr
          cases hs
          exact .of_value (s := convert s d (ρ' x)) rfl (run_strBytesS hw hx hr)
        · split at hs
          · rename_i r hr
            cases hs
            exact .of_value (s := convert s d (ρ' x)) rfl (run_markS hw hx hr)
          · split at hs
            · rename_i u hu
              cases hs
              exact .of_quiet hw (s := convert s d (ρ' x)) rfl (run_strOfS hw hx hu)
            · cases hu : (P.underlying s).isSome with
              | false => rw [hu] at hs; cases hs
              | true =>
                rw [hu] at hs
                obtain ⟨v, hv, hq⟩ := map_some' hs
                cases hq
                obtain ⟨rfl, h2⟩ := run_nanC hx hv hu
                exact .of_quietly hw (s := convert s d (ρ' x)) rfl h2
  | binOp op t x y yt =>
    simp only [opS] at hs
    split at hs
    · rename_i u hu
      cases hs
      obtain ⟨g1, g2⟩ := run_aggEq (hρ x (by simp [Op.operands])) (hρ y (by simp [Op.operands])) hu w x y
      refine .of_quiet hw (s := do eqGuard op t x y (ρ' x) (ρ' y); binOp op t (ρ' x) (ρ' y)) rfl ⟨.bool u, ?_, .flat rfl⟩
      simp only [Sem.run_bind, g1, Result.andThen_ok]
      exact g2
    split at hs
    · rename_i u hu
      cases hs
      exact .of_pure hw hρ hu
    · have hx := hρ x (by simp [Op.operands])
      have hy := hρ y (by simp [Op.operands])
      cases op <;> first
        | (cases hs; done)
        | (obtain ⟨r, hr, hq⟩ := map_some' hs
           cases hq
           obtain ⟨g1, g2, g3⟩ := run_samePt hw hx hy hr x y
           refine .of_quiet hw (s := do eqGuard _ t x y (ρ' x) (ρ' y); binOp _ t (ρ' x) (ρ' y)) rfl ⟨.bool _, ?_, .flat rfl⟩
           simp only [Sem.run_bind, g1, Result.andThen_ok]
           first | exact g2 | exact g3)
        | (obtain ⟨v, hv, hq⟩ := map_some' hs
           cases hq
           obtain ⟨rfl, h2⟩ := run_nanS (P := P) hx hy hv t x y
           exact .of_quietly hw (s := do eqGuard _ t x y (ρ' x) (ρ' y); binOp _ t (ρ' x) (ρ' y)) rfl h2)
  | call c =>
    obtain ⟨callee, args, argTypes⟩ := c
    cases callee with
    | builtin b =>
      simp only [opS] at hs
      split at hs
      · rename_i r hr
        cases hs
        exact run_builtinS hw hρ hr
      · obtain ⟨u, hu, hq⟩ := map_some' hs
        cases hq
        exact .of_pure hw hρ hu
    | _ =>
      obtain ⟨u, hu, hq⟩ := map_some' hs
      cases hq
      exact .of_pure hw hρ hu
  | _ =>
    simp only [opS] at hs
    obtain ⟨u, hu, hq⟩ := map_some' hs
    cases hq
    exact .of_pure hw hρ hu
end Go.Ex
