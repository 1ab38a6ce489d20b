/- Part of the proof. -/
import Derived.Below
import Derived.Calls
noncomputable section
namespace Go.Ex
open Go.RowKit
def gl : Nat := 1
structure En where
  blk : Nat
  sh : Nat
  dl : Nat
abbrev Env := List En
def flat : Value → Bool
  | .bool _ | .int _ _ | .float _ _ | .complex _ _ _ | .string _ | .nilFunc | .nilIface => true
  | .pointer a => a.isNone
  | .slice a _ _ => a.isNone
  | .map r => r.isNone
  | .chan r => r.isNone
  | .func (.func _) a c => a.isEmpty && c.isEmpty
  | .func _ _ _ => false
  | .tuple vs => vs.isEmpty
  | .agg vs => vs.isEmpty
  | .iface _ _ => false
inductive VR (E : Env) : Value → Value → Prop
  | flat {v : Value} (h : flat v = true) : VR E v v
  | ptr {b off : Nat} {e : En} (h : E[b]? = some e) : VR E (.pointer (some ⟨b, off, none⟩)) (.pointer (some ⟨e.blk, off + e.sh, none⟩))
  | slice {b off len cap : Nat} {e : En} {off' : Nat} (h : E[b]? = some e) (ho : off' = off + e.sh ∨ cap + e.dl = 0) : VR E (.slice (some ⟨b, off, none⟩) len cap) (.slice (some ⟨e.blk, off', none⟩) len (cap + e.dl))
  | nils {b off : Nat} {e : En} {a' : Option Addr} (h : E[b]? = some e) (hs : 0 < e.sh) : VR E (.slice (some ⟨b, off, none⟩) 0 0) (.slice a' 0 0)
  | map {r : Nat} {e : En} (h : E[r]? = some e) : VR E (.map (some r)) (.map (some e.blk))
  | func {f : FuncId} {a a' c c' : Array Value} (ha : a.size = a'.size) (hc : c.size = c'.size) (h1 : ∀ (i : Nat) (x x' : Value), a[i]? = some x → a'[i]? = some x' → VR E x x')
      (h2 : ∀ (i : Nat) (x x' : Value), c[i]? = some x → c'[i]? = some x' → VR E x x') : VR E (.func (.func f) a c) (.func (.func f) a' c')
  | yield {l : Nat} {e : En} (h : E[l]? = some e) : VR E (.func (.yield l) #[] #[]) (.func (.yield e.blk) #[] #[])
  | iface {t : TypeId} {v v' : Value} (h : VR E v v') : VR E (.iface t v) (.iface t v')
  | wild {v' : Value} : VR E (.chan (some 0)) v'
  | agg {a a' : Array Value} (hs : a.size = a'.size) (h : ∀ (i : Nat) (x x' : Value), a[i]? = some x → a'[i]? = some x' → VR E x x') : VR E (.agg a) (.agg a')
  | tuple {a a' : Array Value} (hs : a.size = a'.size) (h : ∀ (i : Nat) (x x' : Value), a[i]? = some x → a'[i]? = some x' → VR E x x') : VR E (.tuple a) (.tuple a')
structure VRs (E : Env) (a a' : Array Value) : Prop where
  size : a.size = a'.size
  at_ : ∀ (i : Nat) (x x' : Value), a[i]? = some x → a'[i]? = some x' → VR E x x'
theorem Env.get_mono {E F : Env} {b : Nat} {e : En} (h : E[b]? = some e) : (E ++ F)[b]? = some e := by
  rw [List.getElem?_append_left (List.getElem?_eq_some_iff.1 h).1]; exact h
theorem VR.mono {E : Env} (F : Env) {v v' : Value} (h : VR E v v') : VR (E ++ F) v v' := by
  induction h with
  | flat h => exact .flat h
  | ptr h => exact .ptr (Env.get_mono h)
  | slice h ho => exact .slice (Env.get_mono h) ho
  | nils h hs => exact .nils (Env.get_mono h) hs
  | map h => exact .map (Env.get_mono h)
  | func ha hc _ _ i1 i2 => exact .func ha hc (fun i x x' a b => i1 i x x' a b) (fun i x x' a b => i2 i x x' a b)
  | yield h => exact .yield (Env.get_mono h)
  | iface _ ih => exact .iface ih
  | wild => exact .wild
  | agg hs _ ih => exact .agg hs (fun i x x' a b => ih i x x' a b)
  | tuple hs _ ih => exact .tuple hs (fun i x x' a b => ih i x x' a b)
theorem VRs.mono {E : Env} (F : Env) {a a' : Array Value} (h : VRs E a a') : VRs (E ++ F) a a' := ⟨h.size, fun i x x' p q => (h.at_ i x x' p q).mono F⟩
theorem VRs.get {E : Env} {a a' : Array Value} (h : VRs E a a') {i : Nat} {x : Value} (hx : a[i]? = some x) : ∃ x', a'[i]? = some x' ∧ VR E x x' := by
  have hi : i < a'.size := by rw [← h.size]; exact (Array.getElem?_eq_some_iff.1 hx).1
  exact ⟨a'[i], Array.getElem?_eq_getElem hi, h.at_ i x _ hx (Array.getElem?_eq_getElem hi)⟩
theorem VR.undef (E : Env) : VR E undef undef := .flat rfl
theorem VRs.getD {E : Env} {a a' : Array Value} (h : VRs E a a') (i : Nat) : VR E (a.getD i Go.undef) (a'.getD i Go.undef) := by
  rw [Array.getD_eq_getD_getElem?, Array.getD_eq_getD_getElem?]
  cases hx : a[i]? with
  | none =>
    have : a'[i]? = none := by
      rw [Array.getElem?_eq_none_iff] at hx ⊢
      have := h.size; omega
    rw [this]; exact VR.undef E
  | some x =>
    obtain ⟨x', hx', hr⟩ := h.get hx
    rw [hx']; exact hr
theorem VRs.set {E : Env} {a a' : Array Value} (h : VRs E a a') (i : Nat) {v v' : Value} (hv : VR E v v') : VRs E (a.setIfInBounds i v) (a'.setIfInBounds i v') := by
  refine ⟨by simp [h.size], fun j x x' hx hx' => ?_⟩
  rw [Array.getElem?_setIfInBounds] at hx hx'
  by_cases hj : i = j
  · subst hj
    rw [if_pos rfl] at hx hx'
    rw [h.size] at hx
    split at hx
    · rename_i hi
      rw [if_pos hi] at hx'
      cases hx; cases hx'; exact hv
    · cases hx
  · rw [if_neg hj] at hx hx'
    exact h.at_ j x x' hx hx'
theorem VRs.nil (E : Env) : VRs E #[] #[] := ⟨rfl, by simp⟩
theorem VRs.append {E : Env} {a a' b b' : Array Value} (h : VRs E a a') (k : VRs E b b') : VRs E (a ++ b) (a' ++ b') := by
  refine ⟨by simp [h.size, k.size], fun i x x' hx hx' => ?_⟩
  rw [Array.getElem?_append] at hx hx'
  rw [h.size] at hx
  split at hx
  · rename_i hi
    rw [if_pos hi] at hx'
    exact h.at_ i x x' hx hx'
  · rename_i hi
    rw [if_neg hi] at hx'
    exact k.at_ _ x x' hx hx'
theorem VRs.one {E : Env} {v v' : Value} (h : VR E v v') : VRs E #[v] #[v'] := by
  refine ⟨rfl, fun i x x' hx hx' => ?_⟩
  match i, hx, hx' with
  | 0, hx, hx' => simp at hx hx'; subst hx; subst hx'; exact h
  | i + 1, hx, _ => simp at hx
theorem VRs.extract {E : Env} {a a' : Array Value} (h : VRs E a a') (i j : Nat) : VRs E (a.extract i j) (a'.extract i j) := by
  refine ⟨by simp [h.size], fun k x x' hx hx' => ?_⟩
  rw [Array.getElem?_extract] at hx hx'
  rw [h.size] at hx
  split at hx
  · rename_i hk
    rw [if_pos hk] at hx'
    exact h.at_ _ x x' hx hx'
  · cases hx
theorem VRs.replicate (E : Env) (n : Nat) {v v' : Value} (h : VR E v v') : VRs E (Array.replicate n v) (Array.replicate n v') := by
  refine ⟨by simp, fun i x x' hx hx' => ?_⟩
  rw [Array.getElem?_replicate] at hx hx'
  split at hx
  · rename_i hi
    rw [if_pos hi] at hx'
    cases hx; cases hx'; exact h
  · cases hx
theorem VRs.map {E : Env} {α : Type} (l : Array α) (f g : α → Value) (h : ∀ x ∈ l, VR E (f x) (g x)) : VRs E (l.map f) (l.map g) := by
  refine ⟨by simp, fun i x x' hx hx' => ?_⟩
  rw [Array.getElem?_map] at hx hx'
  cases hl : l[i]? with
  | none => rw [hl] at hx; cases hx
  | some y =>
    rw [hl] at hx hx'
    cases hx; cases hx'
    exact h y (Array.mem_of_getElem? hl)
def nw : Value → Bool
  | .chan (some _) => false
  | _ => true
theorem VR.cells {E : Env} {v v' : Value} (h : VR E v v') (hn : nw v = true) : VRs E v.cells v'.cells := by
  cases h with
  | wild => cases hn
  | agg hs h => exact ⟨hs, h⟩
  | flat h =>
    cases v <;> first
      | exact .one (.flat h)
      | (rename_i vs
         have : vs = #[] := by simpa [Ex.flat] using h
         subst this
         exact .nil E)
  | ptr h => exact .one (.ptr h)
  | slice h ho => exact .one (.slice h ho)
  | nils h hs => exact .one (.nils h hs)
  | map h => exact .one (.map h)
  | func ha hc h1 h2 => exact .one (.func ha hc h1 h2)
  | yield h => exact .one (.yield h)
  | iface h => exact .one (.iface h)
  | tuple hs h => exact .one (.tuple hs h)
def clean : Nat → Value → Bool
  | _, .bool _ | _, .int _ _ | _, .float _ _ | _, .complex _ _ _ | _, .string _ | _, .nilFunc | _, .nilIface => true
  | _, .pointer a => a.isNone
  | _, .slice a _ _ => a.isNone
  | _, .map r => r.isNone
  | _, .chan r => r.isNone
  | _, .func (.func _) a c => a.isEmpty && c.isEmpty
  | _, .func _ _ _ => false
  | 0, .tuple vs | 0, .agg vs => vs.isEmpty
  | n + 1, .tuple vs | n + 1, .agg vs => vs.toList.all (clean n)
  | 0, .iface _ _ => false
  | n + 1, .iface _ v => clean n v
theorem eq_of_VRs {a a' : Array Value} (hs : a.size = a'.size) (h : ∀ (i : Nat) (x x' : Value), a[i]? = some x → a'[i]? = some x' → x' = x) : a' = a := by
  apply Array.ext hs.symm
  intro i h1 h2
  exact h i _ _ (Array.getElem?_eq_getElem h2) (Array.getElem?_eq_getElem h1)
theorem all_at {p : Value → Bool} {a : Array Value} (h : a.toList.all p = true) {i : Nat} {x : Value} (hx : a[i]? = some x) : p x = true :=
  List.all_eq_true.1 h x (by simpa using Array.mem_of_getElem? hx)
theorem flat_of_clean : ∀ (n : Nat) (v : Value), clean n v = true → (∀ vs, v ≠ .agg vs) → (∀ vs, v ≠ .tuple vs) → (∀ t x, v ≠ .iface t x) → Ex.flat v = true
  | 0, v, h, ha, ht, hi | n + 1, v, h, ha, ht, hi => by
    cases v with
    | agg vs => exact absurd rfl (ha vs)
    | tuple vs => exact absurd rfl (ht vs)
    | iface t x => exact absurd rfl (hi t x)
    | func fn a c => cases fn <;> exact h
    | _ => exact h
theorem VR.of_clean (E : Env) : ∀ (n : Nat) (v : Value), clean n v = true → VR E v v := by
  intro n
  induction n with
  | zero =>
    intro v h
    cases v with
    | agg vs => exact .flat h
    | tuple vs => exact .flat h
    | iface t x => cases h
    | _ => exact .flat (flat_of_clean 0 _ h (fun _ e => by cases e) (fun _ e => by cases e) (fun _ _ e => by cases e))
  | succ n ih =>
    intro v h
    cases v with
    | agg vs => exact .agg rfl fun i x x' hx hx' => by rw [hx] at hx'; cases hx'; exact ih x (all_at h hx)
    | tuple vs => exact .tuple rfl fun i x x' hx hx' => by rw [hx] at hx'; cases hx'; exact ih x (all_at h hx)
    | iface t v => exact .iface (ih v h)
    | _ => exact .flat (flat_of_clean (n + 1) _ h (fun _ e => by cases e) (fun _ e => by cases e) (fun _ _ e => by cases e))
theorem clean_func {n : Nat} {f : FuncId} {a c : Array Value} (h : clean n (.func (.func f) a c) = true) : a = #[] ∧ c = #[] := by
  have h' : (a.isEmpty && c.isEmpty) = true := by cases n <;> exact h
  rw [Bool.and_eq_true] at h'
  exact ⟨by simpa using h'.1, by simpa using h'.2⟩
theorem VR.eq_of_clean {E : Env} {v v' : Value} (hr : VR E v v') : ∀ (n : Nat), clean n v = true → v' = v := by
  induction hr with
  | flat _ => intros; rfl
  | ptr _ => intro n h; cases n <;> cases h
  | slice _ _ => intro n h; cases n <;> cases h
  | nils _ _ => intro n h; cases n <;> cases h
  | map _ => intro n h; cases n <;> cases h
  | func ha hc _ _ _ _ =>
    intro n h
    obtain ⟨rfl, rfl⟩ := clean_func h
    simp only [List.size_toArray, List.length_nil] at ha hc
    rw [Array.eq_empty_of_size_eq_zero ha.symm, Array.eq_empty_of_size_eq_zero hc.symm]
  | yield _ => intro n h; cases n <;> cases h
  | wild => intro n h; cases n <;> cases h
  | iface _ ih =>
    intro n h
    cases n with
    | zero => cases h
    | succ n => rw [ih n h]
  | @agg a a' hs _ ih =>
    intro n h
    cases n with
    | zero =>
      have h0 : a = #[] := by simpa [clean] using h
      subst h0
      simp only [List.size_toArray, List.length_nil] at hs
      rw [Array.eq_empty_of_size_eq_zero hs.symm]
    | succ n => rw [eq_of_VRs hs fun i x x' hx hx' => ih i x x' hx hx' n (all_at h hx)]
  | @tuple a a' hs _ ih =>
    intro n h
    cases n with
    | zero =>
      have h0 : a = #[] := by simpa [clean] using h
      subst h0
      simp only [List.size_toArray, List.length_nil] at hs
      rw [Array.eq_empty_of_size_eq_zero hs.symm]
    | succ n => rw [eq_of_VRs hs fun i x x' hx hx' => ih i x x' hx hx' n (all_at h hx)]
def evalPure {α : Type} (P : Program) : Sem α → Option α
  | .pure a => some a
  | .program k => evalPure P (k P)
  | .mark _ k => evalPure P k
  | .choose q k => if q.forced then evalPure P (k 0) else none
  | _ => none
theorem evalPure_run {α : Type} {P : Program} {s : Sem α} {a : α} (w : World) (h : evalPure P s = some a) : s.run P w = .ok a w := by
  induction s with
  | pure x => cases h; rfl
  | program k ih => exact ih P h
  | mark m k ih => exact ih h
  | choose q k ih =>
    simp only [evalPure] at h
    split at h
    · rename_i hq
      simp only [Sem.run, hq, if_true]
      exact ih 0 h
    · cases h
  | _ => cases h
end Go.Ex
