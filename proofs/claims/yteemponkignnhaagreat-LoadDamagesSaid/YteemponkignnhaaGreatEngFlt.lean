/- Part of the proof. -/
import Derived.Test.YteemponkignnhaaGreatEngSym
import Derived.Laws.FloatArith
noncomputable section
namespace Go.Ex
open Go.RowKit
theorem evalPure_bind {α β : Type} {P : Program} (s : Sem α) (f : α → Sem β) : evalPure P (s >>= f) = (evalPure P s).bind fun a => evalPure P (f a) := by
  show evalPure P (s.bind f) = _
  induction s with
  | pure a => rfl
  | program k ih => exact ih P
  | mark m k ih => exact ih
  | choose q k ih =>
    show evalPure P (.choose q fun n => (k n).bind f) = _
    simp only [evalPure]
    split
    · exact ih 0
    · rfl
  | _ => rfl
theorem evalPure_pure {α : Type} {P : Program} (a : α) : evalPure P (Pure.pure a : Sem α) = some a := rfl
theorem eval_floatArith {P : Program} {op : BinOp} (k : FloatKind) (x y : Nat) (h : arithB op = true) : evalPure P (Op.floatArith op k x y) = (floatBits op k x y).map (.float k) := by
  have fin : ∀ o : Option Nat, evalPure P (match o with
      | some r => (Pure.pure (.float k r) : Sem Value)
      | none => do Pure.pure (.float k (← choose (.nanBits k x y)))) = o.map (.float k) := by
    intro o
    cases o with
    | some r => rfl
    | none => rfl
  cases op <;> first
    | (cases h; done)
    | exact fin _
theorem eval_arith {P : Program} {op : BinOp} (k : FloatKind) (x y : Nat) (h : arithB op = true) : evalPure P (Op.Complex.arith op k x y) = floatBits op k x y := by
  unfold Op.Complex.arith
  rw [evalPure_bind, eval_floatArith k x y h]
  cases floatBits op k x y <;> rfl
def f2fB (k : FloatKind) (x : Nat) (d : FloatKind) : Option Nat :=
  if k = d then some x else match k.decode x with
  | .nan _ _ => none
  | .infinity s => some (d.encode (.infinity s))
  | .number s m e => if (d.decode (d.encode (.number s m e))).isInfinity then none else some (d.encode (.number s m e))
theorem eval_f2f {P : Program} (k : FloatKind) (x : Nat) (d : FloatKind) : evalPure P (Conv.floatToFloat k x d) = (f2fB k x d).map (.float d) := by
  unfold Conv.floatToFloat f2fB
  by_cases h : k = d
  · rw [if_pos h, if_pos h]; rfl
  · rw [if_neg h, if_neg h]
    generalize k.decode x = z
    cases z with
    | nan a b => rfl
    | infinity s => rfl
    | number s m e =>
      dsimp only
      cases (d.decode (d.encode (.number s m e))).isInfinity <;> rfl
def f2iB (k : FloatKind) (x : Nat) (d : IntKind) : Option Int :=
  match (k.decode x).toInt .zero with
  | some n => if d.min ≤ n ∧ n ≤ d.max then some n else none
  | none => none
theorem eval_f2i {P : Program} (k : FloatKind) (x : Nat) (d : IntKind) : evalPure P (Conv.floatToInt k x d) = (f2iB k x d).map (.int d) := by
  unfold Conv.floatToInt f2iB
  generalize (k.decode x).toInt .zero = z
  cases z with
  | none => rfl
  | some n =>
    dsimp only
    by_cases h : d.min ≤ n ∧ n ≤ d.max
    · rw [if_pos h, if_pos h]; rfl
    · rw [if_neg h, if_neg h]; rfl
theorem eval_conv {P : Program} (k : FloatKind) (x : Nat) (d : FloatKind) : evalPure P (Op.Complex.conv k x d) = f2fB k x d := by
  unfold Op.Complex.conv
  by_cases h : k = d
  · rw [if_pos h]
    unfold f2fB
    rw [if_pos h]; rfl
  · rw [if_neg h, evalPure_bind, eval_f2f]
    cases f2fB k x d <;> rfl
def caddB (op : BinOp) (k : FloatKind) (a b c d : Nat) : Option (Nat × Nat) := (floatBits op k a c).bind fun x => (floatBits op k b d).bind fun y => some (x, y)
def cprodB (a b c d : Nat) : Option (Nat × Nat) :=
  (floatBits .mul .f64 a c).bind fun x => (floatBits .mul .f64 b d).bind fun y => (floatBits .sub .f64 x y).bind fun z =>
    (floatBits .mul .f64 a d).bind fun x => (floatBits .mul .f64 b c).bind fun y => (floatBits .add .f64 x y).bind fun u => some (z, u)
def cmulB (k : FloatKind) (a b c d : Nat) : Option (Nat × Nat) :=
  (f2fB k a .f64).bind fun a => (f2fB k b .f64).bind fun b => (f2fB k c .f64).bind fun c => (f2fB k d .f64).bind fun d => (cprodB a b c d).bind fun r => (f2fB .f64 r.1 k).bind fun x => (f2fB .f64 r.2 k).bind fun y => some (x, y)
def c2cB (k : FloatKind) (a b : Nat) (d : FloatKind) : Option (Nat × Nat) := (f2fB k a d).bind fun x => (f2fB k b d).bind fun y => some (x, y)
theorem map_bind' {α β γ : Type} (o : Option α) (f : α → Option β) (g : β → γ) : (o.bind f).map g = o.bind fun a => (f a).map g := by cases o <;> rfl
theorem eval_cadd {P : Program} {op : BinOp} (k : FloatKind) (a b c d : Nat) (h : op = .add ∨ op = .sub) : evalPure P (Op.complexOp op k a b c d) = (caddB op k a b c d).map fun r => .complex k r.1 r.2 := by
  unfold caddB
  have hA : arithB op = true := by rcases h with rfl | rfl <;> rfl
  have : Op.complexOp op k a b c d = (Op.Complex.arith op k a c >>= fun x => Op.Complex.arith op k b d >>= fun y => Pure.pure (.complex k x y)) := by rcases h with rfl | rfl <;> rfl
  rw [this, evalPure_bind, eval_arith _ _ _ hA, map_bind']
  congr 1
  funext x
  rw [evalPure_bind, eval_arith _ _ _ hA, map_bind']
  rfl
theorem eval_cprod {P : Program} (a b c d : Nat) : evalPure P (Op.Complex.product a b c d) = cprodB a b c d := by
  unfold Op.Complex.product cprodB Op.Complex.mul Op.Complex.sub Op.Complex.add
  simp only [evalPure_bind, eval_arith _ _ _ (show arithB .mul = true from rfl), eval_arith _ _ _ (show arithB .sub = true from rfl), eval_arith _ _ _ (show arithB .add = true from rfl)]
  rfl
theorem eval_cmul {P : Program} (k : FloatKind) (a b c d : Nat) : evalPure P (Op.complexOp .mul k a b c d) = (cmulB k a b c d).map fun r => .complex k r.1 r.2 := by
  have : Op.complexOp .mul k a b c d = (Op.Complex.conv k a .f64 >>= fun a => Op.Complex.conv k b .f64 >>= fun b => Op.Complex.conv k c .f64 >>= fun c => Op.Complex.conv k d .f64 >>= fun d =>
    Op.Complex.product a b c d >>= fun r => Op.Complex.conv .f64 r.1 k >>= fun x => Op.Complex.conv .f64 r.2 k >>= fun y => Pure.pure (.complex k x y)) := rfl
  rw [this]
  unfold cmulB
  simp only [evalPure_bind, eval_conv, eval_cprod, map_bind']
  rfl
theorem eval_c2c {P : Program} (k : FloatKind) (a b : Nat) (d : FloatKind) : evalPure P (Conv.complexToComplex k a b d) = (c2cB k a b d).map fun r => .complex d r.1 r.2 := by
  unfold Conv.complexToComplex c2cB
  rw [evalPure_bind, eval_f2f]
  cases f2fB k a d with
  | none => rfl
  | some x =>
    show evalPure P ((Conv.floatToFloat k b d) >>= _) = _
    rw [evalPure_bind, eval_f2f]
    cases f2fB k b d <;> rfl
def wildV : Value := .chan (some 0)
def sameF (k l : FloatKind) : Bool := decide (k = l)
def fVal (k : FloatKind) (r : Option Nat) : Bool × Value := (r.isSome, .float k (r.getD 0))
def iVal (k : IntKind) (r : Option Int) : Bool × Value := (r.isSome, .int k (r.getD 0))
def cVal (k : FloatKind) (r : Option (Nat × Nat)) : Bool × Value := (r.isSome, .complex k (r.getD (0, 0)).1 (r.getD (0, 0)).2)
def symFC (op : BinOp) (k : FloatKind) (a b c d : Nat) : Option (Bool × Value) :=
  match op with
  | .add => some (cVal k (caddB .add k a b c d))
  | .sub => some (cVal k (caddB .sub k a b c d))
  | .mul => some (cVal k (cmulB k a b c d))
  | _ => none
def symFV (op : BinOp) (a b : Value) : Option (Bool × Value) :=
  match a with
  | .float k a => match b with
    | .float l b => cond (arithB op && sameF k l) (some (fVal k (floatBits op k a b))) none
    | _ => none
  | .complex k a a2 => match b with
    | .complex l c d => cond (sameF k l) (symFC op k a a2 c d) none
    | _ => none
  | _ => none
def symFX (d : Option TypeDesc) (x : Value) : Option (Bool × Value) :=
  match x with
  | .float l b => match d with
    | some (.float k) => some (fVal k (f2fB l b k))
    | some (.int k) => some (iVal k (f2iB l b k))
    | _ => none
  | .complex l a b => match d with
    | some (.complex k) => some (cVal k (c2cB l a b k))
    | _ => none
  | _ => none
def symF (P : Program) (G : Nat) (e : Operand → Value) (o : Op) : Option (Bool × Value) :=
  match o with
  | .binOp op _ x y _ => cond (okOpd G x && okOpd G y) (symFV op (e x) (e y)) none
  | .convert s d x => cond (okOpd G x && (P.underlying s).isSome) (symFX (P.underlying d) (e x)) none
  | _ => none
def pickW (r : Bool × Value) : Value := cond r.1 r.2 wildV
section
variable {P : Program} {G : Nat} {ρ : Operand → Value} {dst : Option Tmp} {type : TypeId} {pos : String} {after : Array Edge} {guard : Option (Nat × Bool)}
theorem pureS_bin {op : BinOp} {t ty : TypeId} {x y : Operand} (h : arithB op = true) (hc : clean 6 (ρ x) = true ∧ clean 6 (ρ y) = true) :
    pureS P ρ ⟨dst, .binOp op t x y ty, type, pos, after, guard⟩ = match evalPure P (binOp op t (ρ x) (ρ y)) with
      | some v => if clean 6 v then some v else none
      | none => none := by
  unfold pureS
  have hall : ((Op.binOp op t x y ty).operands.toList.all fun x => clean 6 (ρ x)) = true := by simp [Op.operands, hc]
  have hex : execOp ρ ⟨dst, .binOp op t x y ty, type, pos, after, guard⟩ = ((eqGuard op t x y (ρ x) (ρ y) >>= fun _ => binOp op t (ρ x) (ρ y)) >>= fun v => Pure.pure (.value v)) := rfl
  dsimp only
  rw [if_pos hall, hex, evalPure_bind, evalPure_bind, eqGuard_arith h]
  show (match ((evalPure P (binOp op t (ρ x) (ρ y))).bind fun a => some (Next.value a)) with
    | some (.value v) => _
    | _ => none) = _
  cases evalPure P (binOp op t (ρ x) (ρ y)) <;> rfl
theorem pureS_conv {s d : TypeId} {x : Operand} (hc : clean 6 (ρ x) = true) :
    pureS P ρ ⟨dst, .convert s d x, type, pos, after, guard⟩ = match evalPure P (convert s d (ρ x)) with
      | some v => if clean 6 v then some v else none
      | none => none := by
  unfold pureS
  have hall : ((Op.convert s d x).operands.toList.all fun x => clean 6 (ρ x)) = true := by simp [Op.operands, hc]
  have hex : execOp ρ ⟨dst, .convert s d x, type, pos, after, guard⟩ = (convert s d (ρ x) >>= fun v => Pure.pure (.value v)) := rfl
  dsimp only
  rw [if_pos hall, hex, evalPure_bind]
  show (match ((evalPure P (convert s d (ρ x))).bind fun a => some (Next.value a)) with
    | some (.value v) => _
    | _ => none) = _
  cases evalPure P (convert s d (ρ x)) <;> rfl
theorem opS_bin {H : CH} {op : BinOp} {t ty : TypeId} {x y : Operand} {r : Bool × Value} (hs : symFV op (ρ x) (ρ y) = some r) : opS P G H ρ ⟨dst, .binOp op t x y ty, type, pos, after, guard⟩ = some (pickW r, H) := by
  have fin : ∀ {o : Option Value}, arithB op = true → clean 6 (ρ x) = true ∧ clean 6 (ρ y) = true → aggEq P op t (ρ x) (ρ y) = none → evalPure P (binOp op t (ρ x) (ρ y)) = o → (∀ v, o = some v → clean 6 v = true ∧ pickW r = v) → (o = none → nanS op (ρ x) (ρ y) = some wildV ∧ pickW r = wildV) →
      opS P G H ρ ⟨dst, .binOp op t x y ty, type, pos, after, guard⟩ = some (pickW r, H) := by
    intro o hA hc ha he h1 h2
    simp only [opS]
    rw [ha, pureS_bin hA hc, he]
    cases o with
    | some v =>
      obtain ⟨g1, g2⟩ := h1 v rfl
      dsimp only
      rw [if_pos g1, g2]
    | none =>
      obtain ⟨g1, g2⟩ := h2 rfl
      rw [g1, g2]
      cases op <;> first
        | (cases hA; done)
        | rfl
  unfold symFV at hs
  split at hs
  · rename_i k a hx
    split at hs
    case h_2 => cases hs
    rename_i l b hy
    cases hc : arithB op && sameF k l with
    | false => rw [hc] at hs; cases hs
    | true =>
      rw [hc] at hs
      cases hs
      rw [Bool.and_eq_true] at hc
      obtain ⟨hA, hk⟩ := hc
      have : k = l := of_decide_eq_true hk
      subst this
      have he : evalPure P (binOp op t (ρ x) (ρ y)) = (floatBits op k a b).map (.float k) := by
        rw [hx, hy, ← eval_floatArith (P := P) k a b hA]
        cases op <;> first
          | (cases hA; done)
          | (congr 1; simp [binOp])
      refine fin hA ⟨by rw [hx]; rfl, by rw [hy]; rfl⟩ (by rw [hx]; rfl) he (fun v hv => ?_) fun hn => ?_
      · obtain ⟨z, hz, rfl⟩ := map_some' hv
        exact ⟨rfl, by rw [hz]; rfl⟩
      · have hz : floatBits op k a b = none := by
          cases hz : floatBits op k a b with
          | none => rfl
          | some z => rw [hz] at hn; cases hn
        refine ⟨?_, by rw [hz]; rfl⟩
        rw [hx, hy]
        show cond (arithB op && decide (k = k)) _ _ = _
        rw [hA, decide_eq_true rfl]; rfl
  · rename_i k a a2 hx
    split at hs
    case h_2 => cases hs
    rename_i l c d hy
    cases hk : sameF k l with
    | false => rw [hk] at hs; cases hs
    | true =>
      rw [hk] at hs
      have : k = l := of_decide_eq_true hk
      subst this
      have hs' : symFC op k a a2 c d = some r := hs
      obtain ⟨o, hA, ho, hr, hnn⟩ : ∃ o : Option (Nat × Nat), arithB op = true ∧ evalPure P (binOp op t (ρ x) (ρ y)) = o.map (fun r => .complex k r.1 r.2) ∧ r = cVal k o ∧ nanS op (ρ x) (ρ y) = some wildV := by
        rw [hx, hy]
        have hkk : decide (k = k) = true := decide_eq_true rfl
        cases op <;> first
          | (cases hs'; done)
          | (cases hs'
             refine ⟨caddB _ k a a2 c d, rfl, ?_, rfl, by show cond (decide (k = k)) _ _ = _; rw [hkk]; rfl⟩
             first
               | (rw [← eval_cadd (P := P) k a a2 c d (.inl rfl)]; congr 1; simp [binOp]; done)
               | (rw [← eval_cadd (P := P) k a a2 c d (.inr rfl)]; congr 1; simp [binOp]; done))
          | (cases hs'
             refine ⟨cmulB k a a2 c d, rfl, ?_, rfl, by show cond (decide (k = k)) _ _ = _; rw [hkk]; rfl⟩
             rw [← eval_cmul (P := P) k a a2 c d]; congr 1; simp [binOp])
      subst hr
      refine fin hA ⟨by rw [hx]; rfl, by rw [hy]; rfl⟩ (by rw [hx]; rfl) ho (fun v hv => ?_) fun hn => ?_
      · obtain ⟨z, hz, rfl⟩ := map_some' hv
        exact ⟨rfl, by rw [hz]; rfl⟩
      · have hz : o = none := by
          cases o with
          | none => rfl
          | some z => cases hn
        exact ⟨hnn, by rw [hz]; rfl⟩
  · cases hs
theorem eval_underlying {t : TypeId} {d : TypeDesc} (h : P.underlying t = some d) : evalPure P (underlying t) = some d := by
  simp [underlying, evalPure_bind, h, evalPure, program, evalPure_pure]
theorem opS_conv {H : CH} {s d : TypeId} {x : Operand} {r : Bool × Value} (hu : (P.underlying s).isSome = true) (hs : symFX (P.underlying d) (ρ x) = some r) : opS P G H ρ ⟨dst, .convert s d x, type, pos, after, guard⟩ = some (pickW r, H) := by
  obtain ⟨us, hu'⟩ := Option.isSome_iff_exists.1 hu
  have fin : ∀ {o : Option Value}, clean 6 (ρ x) = true → evalPure P (convert s d (ρ x)) = o → (∀ v, o = some v → clean 6 v = true ∧ pickW r = v) → (o = none → nanC P d (ρ x) = some wildV ∧ pickW r = wildV) →
      convPtrS P H s d (ρ x) = none → strBytesS P H s d (ρ x) = none → markS P G H s d (ρ x) = none → strOfS P H s d (ρ x) = none → opS P G H ρ ⟨dst, .convert s d x, type, pos, after, guard⟩ = some (pickW r, H) := by
    intro o hc he h1 h2 k1 k2 k3 k4
    simp only [opS]
    rw [pureS_conv hc, he, k1, k2, k3, k4, hu]
    cases o with
    | some v =>
      obtain ⟨g1, g2⟩ := h1 v rfl
      dsimp only
      rw [if_pos g1, g2]
    | none =>
      obtain ⟨g1, g2⟩ := h2 rfl
      rw [g1, g2]
      rfl
  unfold symFX at hs
  split at hs
  · rename_i l b hx
    split at hs
    · rename_i k hd
      cases hs
      have he : evalPure P (convert s d (ρ x)) = (f2fB l b k).map (.float k) := by
        rw [hx, ← eval_f2f (P := P) l b k]
        simp only [convert, evalPure_bind, eval_underlying hu', eval_underlying hd, Option.bind_some]
      refine fin (by rw [hx]; rfl) he (fun v hv => ?_) (fun hn => ?_) (by rw [hx]; rfl) (by rw [hx]; rfl) (by rw [hx]; rfl) (by rw [hx]; rfl)
      · obtain ⟨z, hz, rfl⟩ := map_some' hv
        exact ⟨rfl, by rw [hz]; rfl⟩
      · have hz : f2fB l b k = none := by
          cases hz : f2fB l b k with
          | none => rfl
          | some z => rw [hz] at hn; cases hn
        refine ⟨?_, by rw [hz]; rfl⟩
        unfold nanC
        rw [hd, hx]; rfl
    · rename_i k hd
      cases hs
      have he : evalPure P (convert s d (ρ x)) = (f2iB l b k).map (.int k) := by
        rw [hx, ← eval_f2i (P := P) l b k]
        simp only [convert, evalPure_bind, eval_underlying hu', eval_underlying hd, Option.bind_some]
      refine fin (by rw [hx]; rfl) he (fun v hv => ?_) (fun hn => ?_) (by rw [hx]; rfl) (by rw [hx]; rfl) (by rw [hx]; rfl) (by rw [hx]; rfl)
      · obtain ⟨z, hz, rfl⟩ := map_some' hv
        exact ⟨rfl, by rw [hz]; rfl⟩
      · have hz : f2iB l b k = none := by
          cases hz : f2iB l b k with
          | none => rfl
          | some z => rw [hz] at hn; cases hn
        refine ⟨?_, by rw [hz]; rfl⟩
        unfold nanC
        rw [hd, hx]; rfl
    · cases hs
  · rename_i l a b hx
    split at hs
    · rename_i k hd
      cases hs
      have he : evalPure P (convert s d (ρ x)) = (c2cB l a b k).map (fun r => .complex k r.1 r.2) := by
        rw [hx, ← eval_c2c (P := P) l a b k]
        simp only [convert, evalPure_bind, eval_underlying hu', eval_underlying hd, Option.bind_some]
      refine fin (by rw [hx]; rfl) he (fun v hv => ?_) (fun hn => ?_) (by rw [hx]; rfl) (by rw [hx]; rfl) (by rw [hx]; rfl) (by rw [hx]; rfl)
      · obtain ⟨z, hz, rfl⟩ := map_some' hv
        exact ⟨rfl, by rw [hz]; rfl⟩
      · have hz : c2cB l a b k = none := by
          cases hz : c2cB l a b k with
          | none => rfl
          | some z => rw [hz] at hn; cases hn
        refine ⟨?_, by rw [hz]; rfl⟩
        unfold nanC
        rw [hd, hx]; rfl
    · cases hs
  · cases hs
end
theorem symF_sound {self : Task → Option Res} {P : Program} {G : Nat} {tm : TM} {H : CH} {o : Oper} {r : Bool × Value} (h : symF P G (evH tm) o.op = some r) : opX self P G (absT tm) H o = some (pickW r, H) := by
  obtain ⟨dst, op, type, pos, after, guard⟩ := o
  rw [evH_fun] at h
  cases op <;> first
    | (cases h; done)
    | skip
  case binOp op t x y ty =>
    have h' : cond (okOpd G x && okOpd G y) (symFV op (ev (absT tm) x) (ev (absT tm) y)) none = some r := h
    cases hok : okOpd G x && okOpd G y with
    | false => rw [hok] at h'; cases h'
    | true =>
      rw [hok] at h'
      rw [opX_ok self P G (by simpa [Op.operands] using hok) (fun _ h => by cases h) (fun _ h => by cases h)]
      exact opS_bin h'
  case convert s d x =>
    have h' : cond (okOpd G x && (P.underlying s).isSome) (symFX (P.underlying d) (ev (absT tm) x)) none = some r := h
    cases hok : okOpd G x && (P.underlying s).isSome with
    | false => rw [hok] at h'; cases h'
    | true =>
      rw [hok] at h'
      rw [Bool.and_eq_true] at hok
      rw [opX_ok self P G (by simpa [Op.operands] using hok.1) (fun _ h => by cases h) (fun _ h => by cases h)]
      exact opS_conv hok.2 h'
end Go.Ex
