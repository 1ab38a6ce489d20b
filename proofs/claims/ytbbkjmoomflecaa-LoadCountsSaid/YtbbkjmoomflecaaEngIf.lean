/- Engine, part 53: a loop in a table whose entry asks for a condition; what a run of rounds keeps. -/
import Derived.Test.YtbbkjmoomflecaaEngAuto
noncomputable section
namespace Go.Ex
open Go.RowKit
variable {σ : Type}
theorem Loop1.tableIf {P : Program} {G f id : Nat} {b : Code} {S : Shape σ} {k : Nat} {step : σ → SS σ} {Good : σ → Prop} {L : LTab} (h : Loop1 P G f b S k step Good) (hL : LSound P G L) (hG : G ≤ k) {s0 : σ} {r : Nat × σ} {p : Bool} (hg : Good s0) (hr : p = true → ∃ m, runS step m s0 = some r)
    (hgood : goodR k k (S.st s0).live (S.st s0).hp (List.range k) = true) (js : List Nat) : LSound P G (loopE L f id S.N k b (S.st s0).live (S.st s0).hp (.br p (finO S r js) .fail)) := by
  refine hL.loop hgood (h.flat s0 hg) fun q hq ro tm0 H0 hk hst => ?_
  have h' : cond p (finO S r js).sel none = some q := hq
  cases hp : p with
  | false => rw [hp] at h'; cases h'
  | true =>
    rw [hp] at h'
    obtain ⟨m, hm⟩ := hr hp
    rw [finO_sel h']
    exact h.run hG hg hm ro hk hst
theorem runS_good {step : σ → SS σ} {Good : σ → Prop} (h : ∀ s s', Good s → (step s).sel = some (.inl s') → Good s') : ∀ {m : Nat} {s : σ} {r : Nat × σ}, Good s → runS step m s = some r → Good r.2
  | 0, _, _, _, h2 => by cases h2
  | m + 1, s, r, h1, h2 => by
    have h2' : (match (step s).sel with
      | some (.inl s') => runS step m s'
      | some (.inr j) => some (j, s)
      | none => none) = some r := h2
    split at h2'
    · rename_i s' hs'
      exact runS_good h (h s s' h1 hs') h2'
    · cases h2'; exact h1
    · cases h2'
/-- what a loop that ends with its first exit comes to, if it does -/
def endP (step : σ → SS σ) (s : σ) : Prop := ∃ m r, runS step m s = some (0, r)
noncomputable def endE (step : σ → SS σ) (s : σ) : σ := @dite _ (endP step s) (Classical.propDecidable _) (fun h => h.choose_spec.choose) (fun _ => s)
theorem endE_run {step : σ → SS σ} {s : σ} (h : endP step s) : ∃ m, runS step m s = some (0, endE step s) := by
  refine ⟨h.choose, ?_⟩
  unfold endE
  rw [dif_pos h]
  exact h.choose_spec.choose_spec
theorem runS_le {step : σ → SS σ} : ∀ {m k : Nat} {s : σ} {r : Nat × σ}, m ≤ k → runS step m s = some r → runS step k s = some r
  | 0, _, _, _, _, h => by cases h
  | m + 1, 0, _, _, hk, _ => by omega
  | m + 1, k + 1, s, r, hk, h => by
    have h' : (match (step s).sel with
      | some (.inl s') => runS step m s'
      | some (.inr j) => some (j, s)
      | none => none) = some r := h
    show (match (step s).sel with
      | some (.inl s') => runS step k s'
      | some (.inr j) => some (j, s)
      | none => none) = some r
    split at h'
    · exact runS_le (by omega) h'
    · exact h'
    · cases h'
theorem endE_eq {step : σ → SS σ} {s r : σ} {m : Nat} (h : runS step m s = some (0, r)) : endP step s ∧ endE step s = r := by
  have hp : endP step s := ⟨m, r, h⟩
  obtain ⟨k, hk⟩ := endE_run hp
  refine ⟨hp, ?_⟩
  have h1 := runS_le (Nat.le_max_left m k) h
  have h2 := runS_le (Nat.le_max_right m k) hk
  rw [h1] at h2
  injection h2 with h2
  injection h2 with _ h2
  exact h2.symm
theorem endE_good {step : σ → SS σ} {Good : σ → Prop} (h : ∀ s s', Good s → (step s).sel = some (.inl s') → Good s') {s : σ} (hs : Good s) : Good (endE step s) := by
  by_cases hp : endP step s
  · obtain ⟨k, hk⟩ := endE_run hp
    exact runS_good h hs hk
  · unfold endE
    rw [dif_neg hp]
    exact hs
end Go.Ex
