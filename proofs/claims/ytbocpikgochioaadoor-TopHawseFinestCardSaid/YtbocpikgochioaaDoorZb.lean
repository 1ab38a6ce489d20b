import Derived.Test.YtbocpikgochioaaDoorZa
namespace Go.Proofs.YtbocpikgochioaaDoor.Ways
open Go Go.Ex Go.RowKit
def awS : List Value → Option Value
  | [] => some (b_ true)
  | _ => none
noncomputable def pow10 : List Value := [.int .u64 (1), .int .u64 (10), .int .u64 (100), .int .u64 (1000), .int .u64 (10000), .int .u64 (100000), .int .u64 (1000000), .int .u64 (10000000), .int .u64 (100000000), .int .u64 (1000000000), .int .u64 (10000000000), .int .u64 (100000000000), .int .u64 (1000000000000), .int .u64 (10000000000000), .int .u64 (100000000000000), .int .u64 (1000000000000000), .int .u64 (10000000000000000), .int .u64 (100000000000000000), .int .u64 (1000000000000000000), .int .u64 (10000000000000000000)]
noncomputable def tab32 : List Value := [.int .u8 (0), .int .u8 (1), .int .u8 (28), .int .u8 (2), .int .u8 (29), .int .u8 (14), .int .u8 (24), .int .u8 (3), .int .u8 (30), .int .u8 (22), .int .u8 (20), .int .u8 (15), .int .u8 (25), .int .u8 (17), .int .u8 (4), .int .u8 (8), .int .u8 (31), .int .u8 (27), .int .u8 (13), .int .u8 (23), .int .u8 (21), .int .u8 (19), .int .u8 (16), .int .u8 (7), .int .u8 (26), .int .u8 (12), .int .u8 (18), .int .u8 (6), .int .u8 (11), .int .u8 (5), .int .u8 (10), .int .u8 (9)]
noncomputable def tab64 : List Value := [.int .u8 (0), .int .u8 (1), .int .u8 (56), .int .u8 (2), .int .u8 (57), .int .u8 (49), .int .u8 (28), .int .u8 (3), .int .u8 (61), .int .u8 (58), .int .u8 (42), .int .u8 (50), .int .u8 (38), .int .u8 (29), .int .u8 (17), .int .u8 (4), .int .u8 (62), .int .u8 (47), .int .u8 (59), .int .u8 (36), .int .u8 (45), .int .u8 (43), .int .u8 (51), .int .u8 (22), .int .u8 (53), .int .u8 (39), .int .u8 (33), .int .u8 (30), .int .u8 (24), .int .u8 (18), .int .u8 (12), .int .u8 (5), .int .u8 (63), .int .u8 (55), .int .u8 (48), .int .u8 (27), .int .u8 (60), .int .u8 (41), .int .u8 (37), .int .u8 (16), .int .u8 (46), .int .u8 (35), .int .u8 (44), .int .u8 (21), .int .u8 (52), .int .u8 (32), .int .u8 (23), .int .u8 (11), .int .u8 (54), .int .u8 (26), .int .u8 (40), .int .u8 (15), .int .u8 (34), .int .u8 (20), .int .u8 (31), .int .u8 (10), .int .u8 (25), .int .u8 (14), .int .u8 (19), .int .u8 (9), .int .u8 (13), .int .u8 (8), .int .u8 (7), .int .u8 (6)]
noncomputable def Ha : CH := (((Hp.nil.push (.cells powers 149 1 true)).push (.cells pow10 166 1 true)).push (.cells tab32 173 1 true)).push (.cells tab64 174 1 true)
def isT (r : Option QRes) : Bool :=
  match r with
  | some (.val (.bool true) _) => true
  | _ => false
theorem aw_run : isT (execQ Tryd.prog 4 150 (.call Fn.law03_awake #[] Ha)) = true := by kernel_rfl
theorem ha_len : Ha.length = 4 := rfl
theorem ha_get {b : Nat} {o : CO} (h : Ha[b]? = some o) : (b = 0 ∧ o = .cells powers 149 1 true) ∨ (b = 1 ∧ o = .cells pow10 166 1 true) ∨ (b = 2 ∧ o = .cells tab32 173 1 true) ∨ (b = 3 ∧ o = .cells tab64 174 1 true) := by
  have hb : b < 4 := Hp.lt h
  match b, hb with
  | 0, _ => exact .inl ⟨rfl, Option.some.inj (h.symm.trans (rfl : Ha[0]? = some (.cells powers 149 1 true)))⟩
  | 1, _ => exact .inr (.inl ⟨rfl, Option.some.inj (h.symm.trans (rfl : Ha[1]? = some (.cells pow10 166 1 true)))⟩)
  | 2, _ => exact .inr (.inr (.inl ⟨rfl, Option.some.inj (h.symm.trans (rfl : Ha[2]? = some (.cells tab32 173 1 true)))⟩))
  | 3, _ => exact .inr (.inr (.inr ⟨rfl, Option.some.inj (h.symm.trans (rfl : Ha[3]? = some (.cells tab64 174 1 true)))⟩))
theorem clean0 : powers.all (clean 6) = true := by kernel_rfl
theorem clean1 : pow10.all (clean 6) = true := by kernel_rfl
theorem clean2 : tab32.all (clean 6) = true := by kernel_rfl
theorem clean3 : tab64.all (clean 6) = true := by kernel_rfl
theorem ha_vars : Vars Ha [0, 1, 2, 3] := by
  refine ⟨ha_len, fun b o h _ => ?_, fun b o h _ => ?_⟩
  · rcases ha_get h with ⟨rfl, _⟩ | ⟨rfl, _⟩ | ⟨rfl, _⟩ | ⟨rfl, _⟩ <;> simp
  · rcases ha_get h with ⟨_, rfl⟩ | ⟨_, rfl⟩ | ⟨_, rfl⟩ | ⟨_, rfl⟩
    · exact ⟨powers, 149, 1, rfl, clean0⟩
    · exact ⟨pow10, 166, 1, rfl, clean1⟩
    · exact ⟨tab32, 173, 1, rfl, clean2⟩
    · exact ⟨tab64, 174, 1, rfl, clean3⟩
theorem isT_some {r : Option QRes} (h : isT r = true) : ∃ H', r = some (.val (.bool true) H') := by
  unfold isT at h
  split at h
  · exact ⟨_, rfl⟩
  · cases h
theorem aw_pure : Pure Tryd.prog Ha Fn.law03_awake [] (b_ true) := by
  obtain ⟨H', hr⟩ := isT_some aw_run
  have h1 := execQ_sound Tryd.prog 4 150 _ _ hr
  have h2 := execS_sound Tryd.prog 4 150 _ _ h1
  exact Pure.of_sound (H' := H') (by decide) ha_len (by kernel_rfl) h2
end Go.Proofs.YtbocpikgochioaaDoor.Ways
