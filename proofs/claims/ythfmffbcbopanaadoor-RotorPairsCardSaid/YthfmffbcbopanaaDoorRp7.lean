import Derived.Test.YthfmffbcbopanaaDoorAw0
import Derived.Test.YthfmffbcbopanaaDoorEngLaid
namespace Go.Proofs.YthfmffbcbopanaaDoor.Ways
open Go Go.Ex Go.RowKit
theorem ha_len : Ha.length = 4 := rfl
theorem ha_get {b : Nat} {o : CO} (h : Ha[b]? = some o) : (b = 0 ∧ o = .cells powers 118 1 true) ∨ (b = 1 ∧ o = .cells pow10 151 1 true) ∨ (b = 2 ∧ o = .cells tab32 158 1 true) ∨ (b = 3 ∧ o = .cells tab64 159 1 true) := by
  have hb : b < 4 := Hp.lt h
  match b, hb with
  | 0, _ => exact .inl ⟨rfl, Option.some.inj (h.symm.trans (rfl : Ha[0]? = some (.cells powers 118 1 true)))⟩
  | 1, _ => exact .inr (.inl ⟨rfl, Option.some.inj (h.symm.trans (rfl : Ha[1]? = some (.cells pow10 151 1 true)))⟩)
  | 2, _ => exact .inr (.inr (.inl ⟨rfl, Option.some.inj (h.symm.trans (rfl : Ha[2]? = some (.cells tab32 158 1 true)))⟩))
  | 3, _ => exact .inr (.inr (.inr ⟨rfl, Option.some.inj (h.symm.trans (rfl : Ha[3]? = some (.cells tab64 159 1 true)))⟩))
theorem clean0 : powers.all (clean 6) = true := by kernel_rfl
theorem clean1 : pow10.all (clean 6) = true := by kernel_rfl
theorem clean2 : tab32.all (clean 6) = true := by kernel_rfl
theorem clean3 : tab64.all (clean 6) = true := by kernel_rfl
theorem ha_vars : Vars Ha 4 [0, 1, 2, 3] := by
  refine ⟨ha_len, fun b o h _ => ?_, fun b o h _ => ?_⟩
  · rcases ha_get h with ⟨rfl, _⟩ | ⟨rfl, _⟩ | ⟨rfl, _⟩ | ⟨rfl, _⟩ <;> simp
  · rcases ha_get h with ⟨_, rfl⟩ | ⟨_, rfl⟩ | ⟨_, rfl⟩ | ⟨_, rfl⟩
    · exact ⟨powers, 118, 1, rfl, clean0⟩
    · exact ⟨pow10, 151, 1, rfl, clean1⟩
    · exact ⟨tab32, 158, 1, rfl, clean2⟩
    · exact ⟨tab64, 159, 1, rfl, clean3⟩
theorem isT_some {r : Option QRes} (h : isT r = true) : ∃ H', r = some (.val (.bool true) H') := by
  unfold isT at h
  split at h
  · exact ⟨_, rfl⟩
  · cases h
theorem aw_pure : Pure Tryd.prog Ha 5 [] (b_ true) := by
  obtain ⟨H', hr⟩ := isT_some aw_run
  have h1 := execQ_sound Tryd.prog 4 150 _ _ hr
  have h2 := execS_sound Tryd.prog 4 150 _ _ h1
  exact Pure.of_sound (H' := H') ha_len (by kernel_rfl) h2
noncomputable def T7 : Tb := ext T6 5 (pureE awS [0, 1, 2, 3] Ha)
theorem ts7 : TSound Tryd.prog 4 T7 := by
  refine ts6.pure ha_vars fun args v h => ?_
  unfold awS at h
  split at h
  · cases h; exact aw_pure
  · cases h
end Go.Proofs.YthfmffbcbopanaaDoor.Ways
