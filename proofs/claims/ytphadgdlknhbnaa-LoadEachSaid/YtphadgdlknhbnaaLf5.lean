import Derived.Test.YtphadgdlknhbnaaLf4
set_option maxRecDepth 10000
noncomputable section
namespace Go.Proofs.Ytphadgdlknhbnaa.Ways
open Go Go.Ex Go.RowKit Go.Turn
abbrev SI := Int × Bool
section
variable (cs cy : List Value) (n lc : Nat) (x j : Int) (K : Nat)
end
section
variable (cs cy : List Value) (n lc : Nat) (x j : Int) (t s : Nat) (ex : Bool)
end
section
variable {cs cy : List Value} {n lc : Nat} {x j : Int} {t s : Nat} {ex : Bool}
end
end Go.Proofs.Ytphadgdlknhbnaa.Ways
set_option maxRecDepth 10000
noncomputable section
namespace Go.Proofs.Ytphadgdlknhbnaa.Ways
open Go Go.Ex Go.RowKit Go.Turn
section
variable (cs : List Value) (n : Nat) (x : Int) (t s : Nat) (ex : Bool)
end
section
variable {cs : List Value} {n : Nat} {x : Int} {t s : Nat} {ex : Bool}
end
end Go.Proofs.Ytphadgdlknhbnaa.Ways
set_option maxRecDepth 10000
noncomputable section
namespace Go.Proofs.Ytphadgdlknhbnaa.Ways
open Go Go.Ex Go.RowKit Go.Turn
section
variable (cs : List Value) (m : Nat) (x : Int) (t s : Nat) (ex : Bool)
end
end Go.Proofs.Ytphadgdlknhbnaa.Ways
set_option maxRecDepth 10000
noncomputable section
namespace Go.Proofs.Ytphadgdlknhbnaa.Ways
open Go Go.Ex Go.RowKit Go.Turn
theorem firstF_z0 {e : Nat → Int} : ∀ {n s : Nat}, (∀ j, j < n → e (s + j) = 0) → firstF e n s = 0
  | 0, _, _ => rfl
  | n + 1, s, h => by
    unfold firstF
    rw [if_neg (fun hh => hh (by have := h 0 (by omega); rwa [Nat.add_zero] at this))]
    exact firstF_z0 fun j hj => by have := h (j + 1) (by omega); rwa [show s + (j + 1) = s + 1 + j from by omega] at this
theorem firstF_one {e : Nat → Int} {c : Int} : ∀ {n s : Nat}, (∀ j, j < n → e (s + j) = 0 ∨ e (s + j) = c) → (∃ j, j < n ∧ e (s + j) ≠ 0) → firstF e n s = c
  | 0, _, _, ⟨j, hj, _⟩ => by omega
  | n + 1, s, h, ⟨j, hj, he⟩ => by
    unfold firstF
    have h0 := h 0 (by omega)
    rw [Nat.add_zero] at h0
    by_cases h1 : e s = 0
    · rw [if_neg (fun hh => hh h1)]
      refine firstF_one (fun q hq => ?_) ?_
      · have := h (q + 1) (by omega); rwa [show s + (q + 1) = s + 1 + q from by omega] at this
      · cases j with
        | zero => rw [Nat.add_zero] at he; exact absurd h1 he
        | succ j => exact ⟨j, by omega, by rwa [show s + (j + 1) = s + 1 + j from by omega] at he⟩
    · rw [if_pos h1]
      rcases h0 with h0 | h0
      · exact absurd h0 h1
      · exact h0
theorem firstF_all {e : Nat → Int} : ∀ {n s : Nat}, firstF e n s = 0 → ∀ j, j < n → e (s + j) = 0
  | 0, _, _, j, hj => by omega
  | n + 1, s, h, j, hj => by
    unfold firstF at h
    by_cases h1 : e s = 0
    · rw [if_neg (fun hh => hh h1)] at h
      cases j with
      | zero => exact h1
      | succ j => have := firstF_all h j (by omega); rwa [show s + 1 + j = s + (j + 1) from by omega] at this
    · rw [if_pos h1] at h; exact absurd h h1
structure Rise (P : List Pt) : Prop where
  len : P.length < 900000
  lo : ∀ j (h : j < P.length), 0 ≤ P[j].1 ∧ P[j].1 ≤ 39999
  up : ∀ j (h : j + 1 < P.length), P[j].1 < P[j + 1].1
theorem Rise.mono {P : List Pt} (h : Rise P) : ∀ (k j : Nat) (hk : j + k < P.length), P[j].1 + k ≤ P[j + k].1
  | 0, j, hk => by simp
  | k + 1, j, hk => by
    have h1 := h.mono k j (by omega)
    have h2 := h.up (j + k) (by omega)
    have e : j + (k + 1) = j + k + 1 := by omega
    simp only [e]
    omega
theorem pA_fl {P : List Pt} {j : Nat} (h : j < P.length) : pA (flatP P) j = P[j].1 := (el_eq h).2
theorem rgE_zero {x lo hi : Int} (h : rgE x lo hi = 0) : lo ≤ x ∧ x ≤ hi := by
  unfold rgE at h
  by_cases h1 : lo ≤ x ∧ x ≤ hi
  · exact h1
  · rw [if_neg h1] at h; cases h
end Go.Proofs.Ytphadgdlknhbnaa.Ways
