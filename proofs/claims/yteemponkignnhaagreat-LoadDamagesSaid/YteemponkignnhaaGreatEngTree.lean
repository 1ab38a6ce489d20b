/- Part of the proof. -/

noncomputable section
namespace Go.Ex
inductive Tr (α : Type) where
  | nil
  | node (l : Tr α) (v : Option α) (r : Tr α)
noncomputable def Tr.get {α : Type} (t : Tr α) : Nat → Option α :=
  Tr.rec (motive := fun _ => Nat → Option α) (fun _ => none) (fun _ v _ gl gr n => Nat.rec (motive := fun _ => Option α) v (fun m _ => cond (Nat.beq (m % 2) 0) (gl (m / 2)) (gr (m / 2))) n) t
theorem Tr.get_zero {α : Type} (l : Tr α) (v : Option α) (r : Tr α) : (Tr.node l v r).get 0 = v := rfl
theorem Tr.get_succ {α : Type} (l : Tr α) (v : Option α) (r : Tr α) (m : Nat) : (Tr.node l v r).get (m + 1) = cond (Nat.beq (m % 2) 0) (l.get (m / 2)) (r.get (m / 2)) := rfl
def Tr.left {α : Type} : Tr α → Tr α
  | .nil => .nil
  | .node l _ _ => l
def Tr.right {α : Type} : Tr α → Tr α
  | .nil => .nil
  | .node _ _ r => r
def Tr.val {α : Type} : Tr α → Option α
  | .nil => none
  | .node _ v _ => v
noncomputable def Tr.setf {α : Type} (x : α) (f : Nat) : Tr α → Nat → Tr α :=
  Nat.rec (motive := fun _ => Tr α → Nat → Tr α) (fun t _ => t)
    (fun _ ih t n => Nat.rec (motive := fun _ => Tr α) (.node t.left (some x) t.right) (fun m _ => cond (Nat.beq (m % 2) 0) (.node (ih t.left (m / 2)) t.val t.right) (.node t.left t.val (ih t.right (m / 2)))) n) f
theorem Tr.setf_zero {α : Type} (x : α) (f : Nat) (t : Tr α) : Tr.setf x (f + 1) t 0 = .node t.left (some x) t.right := rfl
theorem Tr.setf_succ {α : Type} (x : α) (f : Nat) (t : Tr α) (m : Nat) : Tr.setf x (f + 1) t (m + 1) = cond (Nat.beq (m % 2) 0) (.node (Tr.setf x f t.left (m / 2)) t.val t.right) (.node t.left t.val (Tr.setf x f t.right (m / 2))) := rfl
theorem Tr.get_left {α : Type} (t : Tr α) (m : Nat) (h : m % 2 = 0) : t.get (m + 1) = t.left.get (m / 2) := by
  cases t with
  | nil => rfl
  | node l v r => rw [Tr.get_succ, h]; rfl
theorem Tr.get_right {α : Type} (t : Tr α) (m : Nat) (h : m % 2 ≠ 0) : t.get (m + 1) = t.right.get (m / 2) := by
  cases t with
  | nil => rfl
  | node l v r =>
    rw [Tr.get_succ, show Nat.beq (m % 2) 0 = false from by
      cases hb : Nat.beq (m % 2) 0 with
      | false => rfl
      | true => exact absurd (Nat.eq_of_beq_eq_true hb) h]
    rfl
theorem Tr.get_val {α : Type} (t : Tr α) : t.get 0 = t.val := by cases t <;> rfl
theorem Tr.get_setf {α : Type} (x : α) : ∀ (f : Nat) (t : Tr α) (n c : Nat), n < f → (Tr.setf x f t n).get c = if n = c then some x else t.get c
  | 0, _, _, _, h => by omega
  | f + 1, t, 0, c, _ => by
    rw [Tr.setf_zero]
    cases c with
    | zero => rfl
    | succ m =>
      rw [if_neg (by omega)]
      by_cases h : m % 2 = 0
      · rw [Tr.get_left _ m h, Tr.get_left t m h]; rfl
      · rw [Tr.get_right _ m h, Tr.get_right t m h]; rfl
  | f + 1, t, n + 1, c, hlt => by
    have hn : n / 2 < f := by omega
    by_cases h : n % 2 = 0
    · rw [Tr.setf_succ, show Nat.beq (n % 2) 0 = true from by rw [h]; rfl]
      simp only [cond]
      cases c with
      | zero => rw [Tr.get_zero, if_neg (by omega), Tr.get_val]
      | succ m =>
        by_cases hm : m % 2 = 0
        · rw [Tr.get_left _ m hm, Tr.get_left t m hm]
          show (Tr.setf x f t.left (n / 2)).get (m / 2) = _
          rw [Tr.get_setf x f _ _ _ hn]
          by_cases he : n / 2 = m / 2
          · rw [if_pos he, if_pos (by omega)]
          · rw [if_neg he, if_neg (by omega)]
        · rw [Tr.get_right _ m hm, Tr.get_right t m hm, if_neg (by omega)]; rfl
    · rw [Tr.setf_succ, show Nat.beq (n % 2) 0 = false from by
        cases hb : Nat.beq (n % 2) 0 with
        | false => rfl
        | true => exact absurd (Nat.eq_of_beq_eq_true hb) h]
      simp only [cond]
      cases c with
      | zero => rw [Tr.get_zero, if_neg (by omega), Tr.get_val]
      | succ m =>
        by_cases hm : m % 2 = 0
        · rw [Tr.get_left _ m hm, Tr.get_left t m hm, if_neg (by omega)]; rfl
        · rw [Tr.get_right _ m hm, Tr.get_right t m hm]
          show (Tr.setf x f t.right (n / 2)).get (m / 2) = _
          rw [Tr.get_setf x f _ _ _ hn]
          by_cases he : n / 2 = m / 2
          · rw [if_pos he, if_pos (by omega)]
          · rw [if_neg he, if_neg (by omega)]
structure Hp (α : Type) where
  tree : Tr α
  length : Nat
def Hp.get? {α : Type} (h : Hp α) (i : Nat) : Option α := cond (Nat.blt i h.length) (h.tree.get i) none
instance {α : Type} : GetElem? (Hp α) Nat α (fun h i => (h.get? i).isSome = true) where
  getElem h i p := (h.get? i).get p
  getElem? h i := h.get? i
def Hp.set {α : Type} (h : Hp α) (i : Nat) (x : α) : Hp α := ⟨Tr.setf x (i + 1) h.tree i, h.length⟩
def Hp.push {α : Type} (h : Hp α) (x : α) : Hp α := ⟨Tr.setf x (h.length + 1) h.tree h.length, h.length + 1⟩
def Hp.nil {α : Type} : Hp α := ⟨.nil, 0⟩
theorem Hp.get_eq {α : Type} (h : Hp α) (i : Nat) : h[i]? = if i < h.length then h.tree.get i else none := by
  show cond (Nat.blt i h.length) (h.tree.get i) none = _
  cases hb : Nat.blt i h.length with
  | true => rw [if_pos (by have := Nat.le_of_ble_eq_true hb; omega)]; rfl
  | false =>
    rw [if_neg (fun hl => by
      have : Nat.blt i h.length = true := by unfold Nat.blt; rw [Nat.ble_eq]; omega
      rw [hb] at this; cases this)]
    rfl
theorem Hp.lt {α : Type} {h : Hp α} {i : Nat} {x : α} (hx : h[i]? = some x) : i < h.length := by
  rw [Hp.get_eq] at hx
  split at hx
  · assumption
  · cases hx
theorem Hp.get_set {α : Type} (h : Hp α) (i c : Nat) (x : α) : (h.set i x)[c]? = if i = c then (if i < h.length then some x else none) else h[c]? := by
  rw [Hp.get_eq, Hp.get_eq]
  show (if c < h.length then (Tr.setf x (i + 1) h.tree i).get c else none) = _
  rw [Tr.get_setf x _ _ _ _ (Nat.lt_succ_self i)]
  by_cases hi : i = c
  · subst hi; simp
  · simp [hi]
theorem Hp.get_push {α : Type} (h : Hp α) (c : Nat) (x : α) : (h.push x)[c]? = if c = h.length then some x else h[c]? := by
  rw [Hp.get_eq, Hp.get_eq]
  show (if c < h.length + 1 then (Tr.setf x (h.length + 1) h.tree h.length).get c else none) = _
  rw [Tr.get_setf x _ _ _ _ (Nat.lt_succ_self _)]
  by_cases hc : c = h.length
  · subst hc; simp
  · rw [if_neg hc]
    by_cases hl : c < h.length
    · rw [if_pos hl, if_pos (by omega), if_neg (fun e => hc e.symm)]
    · rw [if_neg hl, if_neg (by omega)]
theorem Hp.length_set {α : Type} (h : Hp α) (i : Nat) (x : α) : (h.set i x).length = h.length := rfl
theorem Hp.length_push {α : Type} (h : Hp α) (x : α) : (h.push x).length = h.length + 1 := rfl
end Go.Ex
