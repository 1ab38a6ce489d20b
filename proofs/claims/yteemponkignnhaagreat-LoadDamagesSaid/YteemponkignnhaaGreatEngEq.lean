/- Part of the proof. -/
import Derived.Test.YteemponkignnhaaGreatEngOps6
import Derived.Laws.StructEq
import Derived.ChangeKeysEq
noncomputable section
namespace Go.Ex
open Go.RowKit
def partQ (P : Program) (t : TypeId) (cs : List Value) (off : Nat) : Option Value :=
  match aggB P t with
  | some true => match P.info? t with
    | some i => some (.agg ⟨(cs.drop off).take i.size⟩)
    | none => none
  | some false => cs[off]?
  | none => none
theorem partQ_eq (P : Program) (t : TypeId) (cs : Array Value) (off : Nat) : partQ P t cs.toList off = partS P t cs off := by
  unfold partQ partS
  cases aggB P t with
  | none => rfl
  | some g =>
    cases g with
    | false => simp
    | true =>
      cases P.info? t with
      | none => rfl
      | some i =>
        dsimp only
        congr 2
        apply Array.toList_inj.1
        simp
def andB (r : Bool) (s : Option Bool) : Option Bool :=
  match s with
  | some s => some (and r s)
  | none => none
def eqParts (e : Value → Value → Option Bool) (rest : Option Bool) (a b : Option Value) : Option Bool :=
  match a with
  | some a => match b with
    | some b => match e a b with
      | some r => andB r rest
      | none => none
    | none => none
  | none => none
def eqFs (P : Program) (e : TypeId → Value → Value → Option Bool) (xs ys : List Value) : List Field → Option Bool
  | [] => some true
  | f :: fs => if f.name = "_" then none else eqParts (e f.type) (eqFs P e xs ys fs) (partQ P f.type xs f.offset) (partQ P f.type ys f.offset)
def eqIs (P : Program) (e : Value → Value → Option Bool) (t : TypeId) (c : Nat) (xs ys : List Value) : List Nat → Option Bool
  | [] => some true
  | i :: is => eqParts e (eqIs P e t c xs ys is) (partQ P t xs (i * c)) (partQ P t ys (i * c))
def sameK (k l : IntKind) : Bool := decide (k = l)
def eqG (P : Program) : Nat → TypeId → Value → Value → Option Bool
  | 0, _, _, _ => none
  | d + 1, t, x, y => match P.underlying t with
    | some (.int _) => match x with
      | .int k a => match y with
        | .int l b => cond (sameK k l) (some (a == b)) none
        | _ => none
      | _ => none
    | some .bool => match x with
      | .bool a => match y with
        | .bool b => some (a == b)
        | _ => none
      | _ => none
    | some (.struct fs) => match x with
      | .agg xs => match y with
        | .agg ys => cond (P.stoodInHeld t) none (eqFs P (eqG P d) xs.toList ys.toList fs.toList)
        | _ => none
      | _ => none
    | some (.array n e) => match x with
      | .agg xs => match y with
        | .agg ys => match P.info? e with
          | some _ => eqIs P (eqG P d e) e (P.cellsOf e) xs.toList ys.toList (List.range n)
          | none => none
        | _ => none
      | _ => none
    | _ => none
def eqOp (op : BinOp) (r : Option Bool) : Option Bool :=
  match op with
  | .eql => r
  | .neq => match r with
    | some b => some (not b)
    | none => none
  | _ => none
def aggEq (P : Program) (op : BinOp) (t : TypeId) (x y : Value) : Option Bool :=
  match x with
  | .agg _ => match y with
    | .agg _ => cond (P.eqGuardType P.depth t) none (eqOp op (eqG P 4 t x y))
    | _ => none
  | _ => none
def EqOk (P : Program) (e : TypeId → Value → Value → Option Bool) (d : Nat) : Prop :=
  ∀ (E : Env) (t : TypeId) (x y x' y' : Value) (r : Bool) (k : Nat) (w : World), e t x y = some r → VR E x x' → VR E y y' → (Op.equalIn (d + k) t x' y').run P w = .ok r w
theorem eqParts_run {E : Env} {P : Program} {e : TypeId → Value → Value → Option Bool} {d : Nat} (he : EqOk P e d) {t : TypeId} {rest : Option Bool} {xs ys xs' ys' : Array Value} {off : Nat} {r : Bool} (hx : VRs E xs xs') (hy : VRs E ys ys')
    (h : eqParts (e t) rest (partQ P t xs.toList off) (partQ P t ys.toList off) = some r) (k : Nat) (w : World) :
    ∃ a b r1 r2, (part t xs' off).run P w = .ok a w ∧ (part t ys' off).run P w = .ok b w ∧ (Op.equalIn (d + k) t a b).run P w = .ok r1 w ∧ rest = some r2 ∧ r = (r1 && r2) := by
  rw [partQ_eq, partQ_eq] at h
  cases ha : partS P t xs off with
  | none => rw [ha] at h; cases h
  | some a =>
    rw [ha] at h
    cases hb : partS P t ys off with
    | none => rw [hb] at h; cases h
    | some b =>
      rw [hb] at h
      have h2 : (match e t a b with
        | some r => andB r rest
        | none => none) = some r := h
      cases hr : e t a b with
      | none => rw [hr] at h2; cases h2
      | some r1 =>
        rw [hr] at h2
        cases hrest : rest with
        | none => rw [hrest] at h2; cases h2
        | some r2 =>
          rw [hrest] at h2
          cases h2
          obtain ⟨a', g1, g2⟩ := run_partS hx ha w
          obtain ⟨b', g3, g4⟩ := run_partS hy hb w
          exact ⟨a', b', r1, r2, g1, g3, he E t a b a' b' r1 k w hr g2 g4, rfl, rfl⟩
theorem eqFs_run {E : Env} {P : Program} {e : TypeId → Value → Value → Option Bool} {d : Nat} (he : EqOk P e d) {xs ys xs' ys' : Array Value} (hx : VRs E xs xs') (hy : VRs E ys ys') (k : Nat) (w : World) :
    ∀ (fs : List Field) (r : Bool), eqFs P e xs.toList ys.toList fs = some r → (Op.eqFields (d + k) xs' ys' fs).run P w = .ok r w
  | [], r, h => by cases h; simp [Op.eqFields]
  | f :: fs, r, h => by
    unfold eqFs at h
    split at h
    · cases h
    · rename_i hn
      obtain ⟨a, b, r1, r2, g1, g2, g3, g4, g5⟩ := eqParts_run he hx hy h k w
      simp only [Op.eqFields, hn, ne_eq, not_false_eq_true, if_true, Sem.run_bind, g1, g2, g3, Result.andThen_ok]
      subst g5
      cases r1 with
      | false => simp
      | true =>
        simp only [Bool.not_true, Bool.false_eq_true, if_false, Bool.true_and]
        exact eqFs_run he hx hy k w fs r2 g4
theorem eqIs_run {E : Env} {P : Program} {e : TypeId → Value → Value → Option Bool} {d : Nat} (he : EqOk P e d) {t : TypeId} {c : Nat} {xs ys xs' ys' : Array Value} (hx : VRs E xs xs') (hy : VRs E ys ys') (k : Nat) (w : World) :
    ∀ (is : List Nat) (r : Bool), eqIs P (e t) t c xs.toList ys.toList is = some r → (Op.eqItems (d + k) t c xs' ys' is).run P w = .ok r w
  | [], r, h => by cases h; simp [Op.eqItems]
  | i :: is, r, h => by
    unfold eqIs at h
    obtain ⟨a, b, r1, r2, g1, g2, g3, g4, g5⟩ := eqParts_run he hx hy h k w
    simp only [Op.eqItems, Sem.run_bind, g1, g2, g3, Result.andThen_ok]
    subst g5
    cases r1 with
    | false => simp
    | true =>
      simp only [Bool.not_true, Bool.false_eq_true, if_false, Bool.true_and]
      exact eqIs_run he hx hy k w is r2 g4
theorem eqG_ok (P : Program) : ∀ d, EqOk P (eqG P d) d
  | 0 => fun E t x y x' y' r k w h => by cases h
  | d + 1 => by
    intro E t x y x' y' r k w h hx hy
    have ih := eqG_ok P d
    unfold eqG at h
    rw [show d + 1 + k = (d + k) + 1 from by omega]
    split at h
    · rename_i q hu
      split at h
      case h_2 => cases h
      rename_i k1 a
      split at h
      case h_2 => cases h
      rename_i k2 b
      cases hk : sameK k1 k2 with
      | false => rw [hk] at h; cases h
      | true =>
        rw [hk] at h
        have hkl : k1 = k2 := of_decide_eq_true hk
        subst hkl
        cases h
        rw [hx.int_inv, hy.int_inv]
        exact run_equalIn_int w (d + k) t k1 q a b hu
    · rename_i hu
      split at h
      case h_2 => cases h
      split at h
      case h_2 => cases h
      cases h
      rw [hx.bool_inv, hy.bool_inv]
      exact run_equalIn_bool w (d + k) t _ _ hu
    · rename_i fs hu
      split at h
      case h_2 => cases h
      rename_i xs
      split at h
      case h_2 => cases h
      rename_i ys
      cases hp : P.stoodInHeld t with
      | true => rw [hp] at h; cases h
      | false =>
        rw [hp] at h
        obtain ⟨xs', rfl, hxs⟩ := hx.agg_inv
        obtain ⟨ys', rfl, hys⟩ := hy.agg_inv
        have hfs : P.fieldsOf t = fs := by simp [Program.fieldsOf, hu]
        rw [run_equalIn_struct w (d + k) t xs' ys' (by rw [hfs]; exact hu) hp, hfs]
        exact eqFs_run ih hxs hys k w fs.toList r h
    · rename_i n e hu
      split at h
      case h_2 => cases h
      rename_i xs
      split at h
      case h_2 => cases h
      rename_i ys
      split at h
      case h_2 => cases h
      rename_i j hj
      obtain ⟨xs', rfl, hxs⟩ := hx.agg_inv
      obtain ⟨ys', rfl, hys⟩ := hy.agg_inv
      rw [run_equalIn_array w (d + k) xs' ys' hu hj]
      exact eqIs_run ih hxs hys k w _ r h
    · cases h
theorem run_aggEq {E : Env} {P : Program} {op : BinOp} {t : TypeId} {a a' b b' : Value} {r : Bool} (ha : VR E a a') (hb : VR E b b') (hs : aggEq P op t a b = some r) (w : World) (x y : Operand) :
    (eqGuard op t x y a' b').run P w = .ok () w ∧ (binOp op t a' b').run P w = .ok (.bool r) w := by
  unfold aggEq at hs
  split at hs
  case h_2 => cases hs
  rename_i xs
  split at hs
  case h_2 => cases hs
  rename_i ys
  cases hg : P.eqGuardType P.depth t with
  | true => rw [hg] at hs; cases hs
  | false =>
    rw [hg] at hs
    obtain ⟨xs', rfl, hxs⟩ := ha.agg_inv
    obtain ⟨ys', rfl, hys⟩ := hb.agg_inv
    refine ⟨run_eqGuard_agg w op t x y xs' ys' hg, ?_⟩
    have hs' : eqOp op (eqG P 4 t (.agg xs) (.agg ys)) = some r := hs
    unfold eqOp at hs'
    split at hs'
    · have := eqG_ok P 4 E t _ _ _ _ r 9996 w hs' ha hb
      rw [run_eql_struct, this]
      rfl
    · split at hs'
      · rename_i b0 hb0
        cases hs'
        have := eqG_ok P 4 E t _ _ _ _ b0 9996 w hb0 ha hb
        rw [run_neq_struct, this]
        rfl
      · cases hs'
    · cases hs'
end Go.Ex
