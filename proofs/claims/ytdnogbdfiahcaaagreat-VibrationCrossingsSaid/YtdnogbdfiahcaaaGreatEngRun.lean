/- Engine, part 43: what runs of rounds come to. -/
import Derived.Test.YtdnogbdfiahcaaaGreatEngEntry
noncomputable section
namespace Go.Ex
variable {σ : Type}
/-- rounds until one ends the loop -/
theorem run_first {step : σ → SS σ} {e : Nat → Int} {st : Nat → σ} {a : Nat} {b : Nat → Nat} (n : Nat) (h1 : ∀ j, j < n → e j = 0 → (step (st j)).sel = some (.inl (st (j + 1)))) (h2 : ∀ j, j < n → e j ≠ 0 → (step (st j)).sel = some (.inr (b j)))
    (h3 : (step (st n)).sel = some (.inr a)) : ∃ r, runS step (n + 1) (st 0) = some r ∧ ((firstF e n 0 = 0 ∧ r = (a, st n)) ∨ (firstF e n 0 ≠ 0 ∧ ∃ j, j < n ∧ r = (b j, st j) ∧ e j = firstF e n 0 ∧ ∀ k, k < j → e k = 0)) := by
  have key : ∀ m j, j + m = n → (∀ k, k < j → e k = 0) → ∃ r, runS step (m + 1) (st j) = some r ∧ ((firstF e m j = 0 ∧ r = (a, st n)) ∨ (firstF e m j ≠ 0 ∧ ∃ k, k < n ∧ r = (b k, st k) ∧ e k = firstF e m j ∧ ∀ k', k' < k → e k' = 0)) := by
    intro m
    induction m with
    | zero =>
      intro j hj _
      have : j = n := by omega
      subst this
      exact ⟨_, runS_done h3, .inl ⟨rfl, rfl⟩⟩
    | succ m ih =>
      intro j hj hz
      by_cases he : e j = 0
      · rw [runS_next (h1 j (by omega) he)]
        have : firstF e (m + 1) j = firstF e m (j + 1) := by
          show (if e j ≠ 0 then _ else _) = _
          rw [if_neg (by simpa using he)]
        rw [this]
        refine ih (j + 1) (by omega) fun k hk => ?_
        by_cases hkj : k = j
        · subst hkj; exact he
        · exact hz k (by omega)
      · have : firstF e (m + 1) j = e j := by
          show (if e j ≠ 0 then _ else _) = _
          rw [if_pos he]
        rw [this]
        exact ⟨_, runS_done (h2 j (by omega) he), .inr ⟨he, j, by omega, rfl, rfl, hz⟩⟩
  obtain ⟨r, g1, g2⟩ := key n 0 (by omega) (fun k hk => by omega)
  exact ⟨r, g1, g2⟩
/-- so many rounds -/
theorem run_all {step : σ → SS σ} {st : Nat → σ} {a : Nat} (n : Nat) (h1 : ∀ j, j < n → (step (st j)).sel = some (.inl (st (j + 1)))) (h3 : (step (st n)).sel = some (.inr a)) : runS step (n + 1) (st 0) = some (a, st n) := by
  have key : ∀ m j, j + m = n → runS step (m + 1) (st j) = some (a, st n) := by
    intro m
    induction m with
    | zero =>
      intro j hj
      have : j = n := by omega
      subst this
      exact runS_done h3
    | succ m ih =>
      intro j hj
      rw [runS_next (h1 j (by omega))]
      exact ih (j + 1) (by omega)
  exact key n 0 (by omega)
end Go.Ex
