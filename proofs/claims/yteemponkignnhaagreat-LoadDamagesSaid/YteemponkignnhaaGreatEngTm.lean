/- Part of the proof. -/
import Derived.Test.YteemponkignnhaaGreatEngFast3
noncomputable section
namespace Go.Ex
open Go.RowKit
abbrev TM := Hp Value
def orUndef (v : Option Value) : Value :=
  match v with
  | some v => v
  | none => undef
def tval (t : TM) (i : Nat) : Value := cond (Nat.blt i t.length) (orUndef (t.tree.get i)) undef
def absL (t : TM) : List Value := (List.range t.length).map fun i => tval t i
def absT (t : TM) : Array Value := ⟨absL t⟩
theorem absL_length (t : TM) : (absL t).length = t.length := by simp [absL]
theorem absT_size (t : TM) : (absT t).size = t.length := absL_length t
theorem absT_get (t : TM) (i : Nat) : (absT t)[i]? = if i < t.length then some (tval t i) else none := by
  show (⟨absL t⟩ : Array Value)[i]? = _
  rw [List.getElem?_toArray]
  unfold absL
  rw [List.getElem?_map]
  by_cases h : i < t.length
  · rw [if_pos h, List.getElem?_range h]; rfl
  · rw [if_neg h, List.getElem?_eq_none (by simpa using h)]; rfl
theorem blt_eq (i n : Nat) : Nat.blt i n = decide (i < n) := by
  rw [Bool.eq_iff_iff, decide_eq_true_eq]
  unfold Nat.blt
  rw [Nat.ble_eq]; omega
theorem tval_eq (t : TM) (i : Nat) : tval t i = getL (absL t) i := by
  rw [getL_eq, Array.getD_eq_getD_getElem?]
  show _ = ((absT t)[i]?).getD undef
  rw [absT_get]
  by_cases h : i < t.length
  · rw [if_pos h]; rfl
  · rw [if_neg h]
    unfold tval
    rw [blt_eq, decide_eq_false h]; rfl
def evH (t : TM) : Operand → Value
  | .tmp i => tval t i
  | .const v => v
  | .global g => .pointer (some ⟨g, 0, none⟩)
  | .func f => .func (.func f) #[] #[]
theorem evH_fun (t : TM) : evH t = ev (absT t) := by
  funext x
  cases x with
  | tmp i => exact tval_eq t i
  | _ => rfl
def putH (t : TM) (dst : Option Tmp) (v : Value) : TM :=
  match dst with
  | some d => cond (Nat.blt d t.length) (t.set d v) t
  | none => t
theorem tval_set (t : TM) (d i : Nat) (v : Value) (hi : i < t.length) : tval (t.set d v) i = if d = i then v else tval t i := by
  unfold tval
  show cond (Nat.blt i t.length) (orUndef ((Tr.setf v (d + 1) t.tree d).get i)) undef = _
  rw [blt_eq, decide_eq_true hi, Tr.get_setf _ _ _ _ _ (Nat.lt_succ_self d)]
  by_cases h : d = i
  · rw [if_pos h, if_pos h]; rfl
  · rw [if_neg h, if_neg h]
theorem arr_ext {a b : Array Value} (h : ∀ i : Nat, a[i]? = b[i]?) : a = b := by
  apply Array.ext_getElem?
  exact h
theorem putH_abs (t : TM) (dst : Option Tmp) (v : Value) : absT (putH t dst v) = put (absT t) dst v := by
  cases dst with
  | none => rfl
  | some d =>
    apply arr_ext
    intro i
    rw [put_get, absT_size]
    unfold putH
    dsimp only
    rw [blt_eq, cond_eq]
    by_cases hd : d < t.length
    · rw [if_pos (by simpa using hd), absT_get, absT_get]
      show (if i < t.length then some (tval (t.set d v) i) else none) = _
      by_cases hi : i < t.length
      · rw [if_pos hi, tval_set t d i v hi, if_pos hi]
        by_cases h : d = i
        · rw [if_pos h, if_pos ⟨by rw [h], hi⟩]
        · rw [if_neg h, if_neg (fun x => h (by simpa using x.1))]
      · rw [if_neg hi, if_neg (fun x => hi x.2), if_neg hi]
    · rw [if_neg (by simpa using hd), if_neg (fun x => hd (by have := x.1; simp at this; rw [this]; exact x.2))]
def pushAll : List Value → TM → TM
  | [], t => t
  | v :: r, t => pushAll r (t.push v)
def Blank (t : TM) : Prop := ∀ c, t.length ≤ c → t.tree.get c = none
theorem Blank.push {t : TM} (h : Blank t) (v : Value) : Blank (t.push v) := by
  intro c hc
  have hc' : t.length + 1 ≤ c := hc
  show (Tr.setf v (t.length + 1) t.tree t.length).get c = none
  rw [Tr.get_setf _ _ _ _ _ (Nat.lt_succ_self _), if_neg (by omega)]
  exact h c (by omega)
theorem pushAll_spec : ∀ (l : List Value) (t : TM), Blank t → Blank (pushAll l t) ∧ (pushAll l t).length = t.length + l.length ∧ (∀ i, i < t.length → (pushAll l t).tree.get i = t.tree.get i) ∧ ∀ i v, l[i]? = some v → (pushAll l t).tree.get (t.length + i) = some v
  | [], t, h => ⟨h, rfl, fun _ _ => rfl, fun i v hv => by simp at hv⟩
  | x :: r, t, h => by
    obtain ⟨h1, h2, h3, h4⟩ := pushAll_spec r (t.push x) (h.push x)
    have hp : ∀ c, (t.push x).tree.get c = if t.length = c then some x else t.tree.get c := fun c => Tr.get_setf _ _ _ _ _ (Nat.lt_succ_self _)
    refine ⟨h1, by rw [show pushAll (x :: r) t = pushAll r (t.push x) from rfl, h2, Hp.length_push]; simp; omega, fun i hi => ?_, fun i v hv => ?_⟩
    · show (pushAll r (t.push x)).tree.get i = _
      rw [h3 i (by rw [Hp.length_push]; omega), hp, if_neg (by omega)]
    · show (pushAll r (t.push x)).tree.get _ = _
      cases i with
      | zero =>
        cases hv
        rw [h3 _ (by rw [Hp.length_push]; omega), hp, if_pos (by omega)]
      | succ i =>
        have := h4 i v (by simpa using hv)
        rw [Hp.length_push] at this
        rw [show t.length + (i + 1) = t.length + 1 + i from by omega]
        exact this
def ofArgs (l : List Value) (n : Nat) : TM := ⟨(pushAll l Hp.nil).tree, l.length + (n - l.length)⟩
theorem blank_nil : Blank (Hp.nil : TM) := fun _ _ => rfl
theorem ofArgs_abs (l : List Value) (n : Nat) : absT (ofArgs l n) = ⟨l ++ List.replicate (n - l.length) undef⟩ := by
  apply arr_ext
  intro i
  obtain ⟨h1, h2, h3, h4⟩ := pushAll_spec l Hp.nil blank_nil
  have h2' : (pushAll l Hp.nil).length = l.length := by rw [h2]; show 0 + _ = _; omega
  rw [absT_get, List.getElem?_toArray]
  show (if i < l.length + (n - l.length) then _ else _) = _
  by_cases hi : i < l.length + (n - l.length)
  · rw [if_pos hi]
    have ht : tval (ofArgs l n) i = orUndef ((pushAll l Hp.nil).tree.get i) := by
      unfold tval
      rw [blt_eq, decide_eq_true (by exact hi)]; rfl
    rw [ht]
    by_cases hl : i < l.length
    · have hv : l[i]? = some l[i] := List.getElem?_eq_getElem hl
      have := h4 i _ hv
      rw [show (Hp.nil : TM).length + i = i from Nat.zero_add i] at this
      rw [this, List.getElem?_append_left hl, hv]; rfl
    · rw [h1 i (by rw [h2']; omega), List.getElem?_append_right (by omega), List.getElem?_replicate, if_pos (by omega)]; rfl
  · rw [if_neg hi, List.getElem?_eq_none (by simp; omega)]
def ofArr (a : Array Value) : TM := ofArgs a.toList a.toList.length
theorem ofArr_abs (a : Array Value) : absT (ofArr a) = a := by
  unfold ofArr
  rw [ofArgs_abs]
  simp
end Go.Ex
