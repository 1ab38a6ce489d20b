import Derived.Test.YteemponkignnhaaGreatLf3
set_option maxRecDepth 10000
noncomputable section
namespace Go.Proofs.YteemponkignnhaaGreat.Ways
open Go Go.Ex Go.RowKit Go.Turn
def ckE (x : Int) : Int := rgE x (-999999999) 999999999
theorem p64 (x : Int) : Pure Tryz.prog Hd 67 [i x] (i (ckE x)) :=
  pure_run (C := ⟨TX6, no_, off_, noL⟩) (G := 1) 30 (.leaf (i (ckE x))) tsX6 .none (by decide) hd_len rfl (by kernel_rfl) (by kernel_rfl) rfl
def szC (lo hi : Int) : Int := wrapF .i64 (hi - lo)
theorem p65 (a b c d : Int) : Pure Tryz.prog Hd 58 [ag [i a, i b, i c, i d]] (i (szC c d)) :=
  pure_run (C := ⟨noT, no_, off_, noL⟩) (G := 1) 30 (.leaf (i (szC c d))) .none .none (by decide) hd_len rfl (by kernel_rfl) (by kernel_rfl) rfl
def s64 : List Value → Option Value
  | [.int .i64 x] => some (i (ckE x))
  | _ => none
def s65 : List Value → Option Value
  | [.agg ⟨[.int .i64 _, .int .i64 _, .int .i64 c, .int .i64 d]⟩] => some (i (szC c d))
  | _ => none
noncomputable def TX9 : Tb := ext (ext TX6 67 (pureE s64 [] Hd)) 58 (pureE s65 [] Hd)
theorem tsX9 {G : Nat} : TSound Tryz.prog G TX9 := by
  refine TSound.pure hd_vars (TSound.pure hd_vars tsX6 fun args v h => ?_) fun args v h => ?_
  · unfold s64 at h
    split at h
    · cases h; exact p64 _
    · cases h
  · unfold s65 at h
    split at h
    · cases h; exact p65 _ _ _ _
    · cases h
def mp (b : Nat) : Value := .map (some b)
def wrM (a : Int) (k : Nat) (es : List MapEntry) : List MapEntry := updE a (.bool true) k es
section
variable (cs cy : List Value) (n c lc : Nat) (x j : Int) (t s : Nat) (ex : Bool)
def hoV : List (CO × Bool) := [(.dead, false), (.cells cs t s ex, true), (.dead, false), (.cells cy 89 4 false, true), (.dead, false)]
def hpV (a b u v : Int) : List (CO × Bool) := [(.cells [mp 5] 136 1 true, false), (.cells [i a, i b, i u, i v] 89 1 true, true)]
def inV : List (Nat × Value) := [(0, sl 1 0 n c), (1, i x), (9, pt 6 0), (11, pt 7 0), (27, sl 3 0 lc lc), (28, i lc), (29, i j)]
def sV (es : List MapEntry) (k : Nat) (a b u v : Int) : SymS where
  live0 := inV n c lc x j
  S := [(37, 0, mp 5), (38, 1, pt 7 0), (39, 2, i a), (40, 3, mp 5), (41, 4, pt 7 1), (42, 5, i b)]
  hp0 := hoV cs cy t s ex
  T := hpV a b u v
  A := []
  A2 := [(99, .map es k, 6, .map (wrM a k es) (clkE a k es), 7, .map (wrM b (clkE a k es) (wrM a k es)) (clkE b (clkE a k es) (wrM a k es)))]
end
def flatM (es : List MapEntry) : Prop := ∀ m ∈ es, Ex.flat m.val = true
section
variable {cs cy : List Value} {n c lc : Nat} {x j : Int} {t s : Nat} {ex : Bool}
end
end Go.Proofs.YteemponkignnhaaGreat.Ways
set_option maxRecDepth 10000
noncomputable section
namespace Go.Proofs.YteemponkignnhaaGreat.Ways
open Go Go.Ex Go.RowKit Go.Turn
section
variable (cs cy : List Value) (n c lc : Nat) (x j : Int) (t s : Nat) (ex : Bool) (es : List MapEntry) (k : Nat) (a b u v : Int)
def hV : CH := heapL ((sV cs cy n c lc x j t s ex es k a b u v).hp (List.replicate 8 true))
end
section
variable {cs cy : List Value} {n c lc : Nat} {x j : Int} {t s : Nat} {ex : Bool} {es : List MapEntry} {k : Nat} {a b u v : Int}
end
section
variable (cs cy : List Value) (n c lc : Nat) (x : Int) (t s : Nat) (ex : Bool)
abbrev ST27 := Int × List MapEntry × Nat
end
section
variable {cs cy : List Value} {n c lc : Nat} {x : Int} {t s : Nat} {ex : Bool}
end
end Go.Proofs.YteemponkignnhaaGreat.Ways
set_option maxRecDepth 10000
noncomputable section
namespace Go.Proofs.YteemponkignnhaaGreat.Ways
open Go Go.Ex Go.RowKit Go.Turn
inductive KS where
  | z (j : Int)
  | m (j : Int) (l : Nat) (out : List Value)
section
variable (cs : List Value) (n c : Nat) (es : List MapEntry) (k : Nat) (t s : Nat) (ex : Bool)
end
section
variable {cs : List Value} {n c : Nat} {es : List MapEntry} {k : Nat} {t s : Nat} {ex : Bool}
end
section
variable (cs : List Value) (n c : Nat) (es : List MapEntry) (k : Nat) (t s : Nat) (ex : Bool)
end
section
variable {cs : List Value} {n c : Nat} {es : List MapEntry} {k : Nat} {t s : Nat} {ex : Bool}
end
end Go.Proofs.YteemponkignnhaaGreat.Ways
set_option maxRecDepth 10000
noncomputable section
namespace Go.Proofs.YteemponkignnhaaGreat.Ways
open Go Go.Ex Go.RowKit Go.Turn
section
variable (cs cy : List Value) (m lc : Nat) (x : Int) (t s : Nat) (ex : Bool)
end
end Go.Proofs.YteemponkignnhaaGreat.Ways
set_option maxRecDepth 10000
noncomputable section
namespace Go.Proofs.YteemponkignnhaaGreat.Ways
open Go Go.Ex Go.RowKit Go.Turn
def szY (q : Cy) : Int := szC (minQ q.1.2 q.2.2) (maxQ q.1.2 q.2.2)
def inC (x : Int) (C : List Cy) (a : Int) : Bool := C.any fun q => decide (szY q < x) && (decide (a = q.1.1) || decide (a = q.2.1))
structure MOk (x : Int) (C : List Cy) (es : List MapEntry) : Prop where
  k : keysI es = true
  v : valsB es = true
  f : flatM es
  m : ∀ a, mapBV es a = inC x C a
theorem flatC_get : ∀ (C : List Cy) (j : Nat) (h : j < C.length), (flatC C)[j * 4]? = some (i C[j].1.1) ∧ (flatC C)[j * 4 + 1]? = some (i C[j].2.1) ∧ (flatC C)[j * 4 + 2]? = some (i (minQ C[j].1.2 C[j].2.2)) ∧ (flatC C)[j * 4 + 3]? = some (i (maxQ C[j].1.2 C[j].2.2))
  | [], j, h => by simp at h
  | q :: r, 0, _ => ⟨rfl, rfl, rfl, rfl⟩
  | q :: r, j + 1, h => by
    have ih := flatC_get r j (by simpa using h)
    have e : ∀ k, (flatC (q :: r))[(j + 1) * 4 + k]? = (flatC r)[j * 4 + k]? := fun k => by
      show (cyL q ++ flatC r)[(j + 1) * 4 + k]? = _
      rw [List.getElem?_append_right (by show 4 ≤ _; omega)]
      congr 1
      show (j + 1) * 4 + k - 4 = _
      omega
    exact ⟨by have := e 0; rw [Nat.add_zero, Nat.add_zero] at this; rw [this]; exact ih.1, by rw [e 1]; exact ih.2.1, by rw [e 2]; exact ih.2.2.1, by rw [e 3]; exact ih.2.2.2⟩
theorem el_eq {P : List Pt} {j : Nat} (h : j < P.length) : el (flatP P) (j : Int) = flatP [P[j]] ∧ pA (flatP P) j = P[j].1 := by
  have e : Turn.at_ P j = P[j] := by
    unfold Turn.at_
    rw [List.getD_eq_getElem?_getD, List.getElem?_eq_getElem h]; rfl
  refine ⟨by rw [el_flat h, e], ?_⟩
  unfold pA
  rw [show 0 + j * 2 = j * 2 from by omega, (flatP_get P j h).1, e]; rfl
end Go.Proofs.YteemponkignnhaaGreat.Ways
set_option maxRecDepth 10000
noncomputable section
namespace Go.Proofs.YteemponkignnhaaGreat.Ways
open Go Go.Ex Go.RowKit Go.Turn
abbrev SI := Int × Bool
section
variable (cs cy : List Value) (n lc : Nat) (x j : Int) (K : Nat)
end
section
variable (cs cy : List Value) (n lc : Nat) (x j : Int) (t s : Nat) (ex : Bool)
end
section
variable {cs cy : List Value} {n lc : Nat} {x j : Int} {t s : Nat} {ex : Bool}
end
end Go.Proofs.YteemponkignnhaaGreat.Ways
set_option maxRecDepth 10000
noncomputable section
namespace Go.Proofs.YteemponkignnhaaGreat.Ways
open Go Go.Ex Go.RowKit Go.Turn
section
variable (cs : List Value) (n : Nat) (x : Int) (t s : Nat) (ex : Bool)
end
section
variable {cs : List Value} {n : Nat} {x : Int} {t s : Nat} {ex : Bool}
end
end Go.Proofs.YteemponkignnhaaGreat.Ways
set_option maxRecDepth 10000
noncomputable section
namespace Go.Proofs.YteemponkignnhaaGreat.Ways
open Go Go.Ex Go.RowKit Go.Turn
section
variable (cs : List Value) (m : Nat) (x : Int) (t s : Nat) (ex : Bool)
end
end Go.Proofs.YteemponkignnhaaGreat.Ways
set_option maxRecDepth 10000
noncomputable section
namespace Go.Proofs.YteemponkignnhaaGreat.Ways
open Go Go.Ex Go.RowKit Go.Turn
theorem firstF_z0 {e : Nat → Int} : ∀ {n s : Nat}, (∀ j, j < n → e (s + j) = 0) → firstF e n s = 0
  | 0, _, _ => rfl
  | n + 1, s, h => by
    unfold firstF
    rw [if_neg (fun hh => hh (by have := h 0 (by omega); rwa [Nat.add_zero] at this))]
    exact firstF_z0 fun j hj => by have := h (j + 1) (by omega); rwa [show s + (j + 1) = s + 1 + j from by omega] at this
theorem firstF_all {e : Nat → Int} : ∀ {n s : Nat}, firstF e n s = 0 → ∀ j, j < n → e (s + j) = 0
  | 0, _, _, j, hj => by omega
  | n + 1, s, h, j, hj => by
    unfold firstF at h
    by_cases h1 : e s = 0
    · rw [if_neg (fun hh => hh h1)] at h
      cases j with
      | zero => exact h1
      | succ j => have := firstF_all h j (by omega); rwa [show s + 1 + j = s + (j + 1) from by omega] at this
    · rw [if_pos h1] at h; exact absurd h h1
structure Rise (P : List Pt) : Prop where
  len : P.length < 900000
  lo : ∀ j (h : j < P.length), 0 ≤ P[j].1 ∧ P[j].1 ≤ 39999
  up : ∀ j (h : j + 1 < P.length), P[j].1 < P[j + 1].1
theorem Rise.mono {P : List Pt} (h : Rise P) : ∀ (k j : Nat) (hk : j + k < P.length), P[j].1 + k ≤ P[j + k].1
  | 0, j, hk => by simp
  | k + 1, j, hk => by
    have h1 := h.mono k j (by omega)
    have h2 := h.up (j + k) (by omega)
    have e : j + (k + 1) = j + k + 1 := by omega
    simp only [e]
    omega
theorem pA_fl {P : List Pt} {j : Nat} (h : j < P.length) : pA (flatP P) j = P[j].1 := (el_eq h).2
theorem rgE_zero {x lo hi : Int} (h : rgE x lo hi = 0) : lo ≤ x ∧ x ≤ hi := by
  unfold rgE at h
  by_cases h1 : lo ≤ x ∧ x ≤ hi
  · exact h1
  · rw [if_neg h1] at h; cases h
end Go.Proofs.YteemponkignnhaaGreat.Ways
