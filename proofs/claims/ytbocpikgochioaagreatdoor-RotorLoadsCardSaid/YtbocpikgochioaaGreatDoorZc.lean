import Derived.Test.YtbocpikgochioaaGreatDoorZa
namespace Go.Proofs.YtbocpikgochioaaGreatDoor.Ways
open Go Go.Ex
def ar (x y z : Int) : Value := ag [i x, i y, i z]
def inE (x y z : Int) : Int := if (-1000000 ≤ x ∧ x ≤ 1000000) ∧ (-1000000 ≤ y ∧ y ≤ 1000000) ∧ (-1000000 ≤ z ∧ z ≤ 1000000) then 0 else 3
theorem inE_zero {x y z : Int} (h : inE x y z = 0) : (-1000000 ≤ x ∧ x ≤ 1000000) ∧ (-1000000 ≤ y ∧ y ≤ 1000000) ∧ (-1000000 ≤ z ∧ z ≤ 1000000) := by
  unfold inE at h
  split at h
  · assumption
  · cases h
noncomputable def C6 : Cfg := ⟨T5, at_ [(Fn.rotor_checkLoads, 20), (Fn.rotor_Split, 11)] .bool sp_, off_, noL⟩
theorem rin_pure (x y z : Int) : Pure Tryz.prog Hd Fn.ref03_CheckLoads [ar x y z] (i (inE x y z)) := by
  refine pure_run (C := C6) (G := 4) 40 (.br (!eqF (rangeE x (-1000000) 1000000) 0) (.leaf (i (rangeE x (-1000000) 1000000))) (.br (!eqF (rangeE y (-1000000) 1000000) 0) (.leaf (i (rangeE y (-1000000) 1000000))) (.br (!eqF (rangeE z (-1000000) 1000000) 0) (.leaf (i (rangeE z (-1000000) 1000000))) (.leaf (i 0))))) ts5 .none (by decide) hd_len rfl (by kernel_rfl) (by kernel_rfl) ?_
  unfold inE rangeE
  by_cases hx : x < -1000000 ∨ 1000000 < x
  · have : ¬ (-1000000 ≤ x ∧ x ≤ 1000000) := by omega
    simp [VT.sel, eqF_d, hx, this]
  · have hx' : -1000000 ≤ x ∧ x ≤ 1000000 := by omega
    by_cases hy : y < -1000000 ∨ 1000000 < y
    · have : ¬ (-1000000 ≤ y ∧ y ≤ 1000000) := by omega
      simp [VT.sel, eqF_d, hx, hy, this]
    · have hy' : -1000000 ≤ y ∧ y ≤ 1000000 := by omega
      by_cases hz : z < -1000000 ∨ 1000000 < z
      · have : ¬ (-1000000 ≤ z ∧ z ≤ 1000000) := by omega
        simp [VT.sel, eqF_d, hx, hy, hz, this]
      · have hz' : -1000000 ≤ z ∧ z ≤ 1000000 := by omega
        simp [VT.sel, eqF_d, hx, hy, hz, hx', hy', hz']
def clampE (x : Int) : Int := if (1000000 : Int) < (if -1000000 > x then -1000000 else x) then 1000000 else (if -1000000 > x then -1000000 else x)
theorem clampE_eq (x : Int) : (clampE x == x) = decide (-1000000 ≤ x ∧ x ≤ 1000000) := by
  rw [Bool.eq_iff_iff]
  simp only [beq_iff_eq, decide_eq_true_eq]
  unfold clampE
  split <;> split <;> omega
theorem in_pure (x y z : Int) : Pure Tryz.prog Hd Fn.rotor_checkLoads [ar x y z] (i (inE x y z)) := by
  refine pure_run (C := C6) (G := 4) 40 (.br (!(clampE x == x && (clampE y == y && (clampE z == z && true)))) (.leaf (i 3)) (.leaf (i 0))) ts5 .none (by decide) hd_len rfl (by kernel_rfl) (by kernel_rfl) ?_
  rw [clampE_eq, clampE_eq, clampE_eq]
  unfold inE
  by_cases hx : -1000000 ≤ x ∧ x ≤ 1000000 <;> by_cases hy : -1000000 ≤ y ∧ y ≤ 1000000 <;> by_cases hz : -1000000 ≤ z ∧ z ≤ 1000000 <;> simp [VT.sel, hx, hy, hz]
def plE (x y : Int) : Int := wrapF .i64 (x + y)
theorem plus_pure (a b c d : Int) : Pure Tryz.prog Hd Fn.rotor_Pair_plus [ag [i a, i b], ag [i c, i d]] (ag [i (plE a c), i (plE b d)]) :=
  pure_run (C := C6) (G := 4) 40 (.leaf (ag [i (plE a c), i (plE b d)])) ts5 .none (by decide) hd_len rfl (by kernel_rfl) (by kernel_rfl) rfl
def inS : List Value → Option Value
  | [.agg ⟨[.int .i64 x, .int .i64 y, .int .i64 z]⟩] => some (i (inE x y z))
  | _ => none
def plusS : List Value → Option Value
  | [.agg ⟨[.int .i64 a, .int .i64 b]⟩, .agg ⟨[.int .i64 c, .int .i64 d]⟩] => some (ag [i (plE a c), i (plE b d)])
  | _ => none
noncomputable def T7' : Tb := ext (ext (ext T5 Fn.ref03_CheckLoads (pureE inS [] Hd)) Fn.rotor_checkLoads (pureE inS [] Hd)) Fn.rotor_Pair_plus (pureE plusS [] Hd)
theorem ts7' {G : Nat} : TSound Tryz.prog G T7' := by
  refine (((ts5.pure hd_vars fun args v h => ?_).pure hd_vars fun args v h => ?_).pure hd_vars fun args v h => ?_)
  · unfold inS at h
    split at h
    · cases h; exact rin_pure _ _ _
    · cases h
  · unfold inS at h
    split at h
    · cases h; exact in_pure _ _ _
    · cases h
  · unfold plusS at h
    split at h
    · cases h; exact plus_pure _ _ _ _
    · cases h
noncomputable def C7' : Cfg := ⟨T7', at_ [(Fn.rotor_checkLoads, 20), (Fn.rotor_Split, 11)] .bool sp_, off_, noL⟩
def sE (x y z : Int) : Int := wrapF .i64 (wrapF .i64 (wrapF .i64 (0 + x) + y) + z)
def aE (x y z : Int) : Int := plE (plE (plE 0 (turnAE x 0 0)) (turnAE y 0 1)) (turnAE z 0 2)
def bE (x y z : Int) : Int := plE (plE (plE 0 (turnBE x 0 0)) (turnBE y 0 1)) (turnBE z 0 2)
def splitV (x y z : Int) : Value := tp [i (sE x y z), ag [i (aE x y z), i (bE x y z)]]
theorem split_pure (x y z : Int) : Pure Tryz.prog Hg Fn.rotor_split [ar x y z] (splitV x y z) :=
  pure_run (C := C7') (G := 4) 40 (.leaf (splitV x y z)) ts7' .none (by decide) hg_len rfl (by kernel_rfl) (by kernel_rfl) rfl
theorem wsm {x : Int} (h1 : -1000000000000 ≤ x) (h2 : x ≤ 1000000000000) : wrapF .i64 x = x := wrapF_in (by omega) (by omega)
theorem split_eq {x y z : Int} (hx : -10000000000 ≤ x ∧ x ≤ 10000000000) (hy : -10000000000 ≤ y ∧ y ≤ 10000000000) (hz : -10000000000 ≤ z ∧ z ≤ 10000000000) : sE x y z = x + y + z ∧ aE x y z = x - z ∧ bE x y z = y - z := by
  have t0 : thirdsE 0 = 0 := by decide
  have t1 : thirdsE 1 = 1 := by decide
  have t2 : thirdsE 2 = 2 := by decide
  have e0 : wrapF .i64 0 = 0 := by decide
  have a0 : ∀ u : Int, -10000000000 ≤ u ∧ u ≤ 10000000000 → turnAE u 0 0 = u ∧ turnBE u 0 0 = 0 := by
    intro u hu
    unfold turnAE turnBE by3E tAE tBE
    simp only [t0, if_true, Int.zero_mul, Int.mul_one, Int.mul_zero, e0, Int.sub_zero, Int.add_zero]
    rw [wsm (x := u) (by omega) (by omega), wsm (x := u) (by omega) (by omega)]
    simp
  have a1 : ∀ u : Int, -10000000000 ≤ u ∧ u ≤ 10000000000 → turnAE u 0 1 = 0 ∧ turnBE u 0 1 = u := by
    intro u hu
    unfold turnAE turnBE by3E tAE tBE
    rw [t1, if_neg (by omega), if_pos rfl, if_neg (by omega), if_pos rfl]
    simp only [Int.mul_one, Int.mul_zero, e0, Int.sub_zero, Int.add_zero]
    rw [wsm (x := u) (by omega) (by omega), wsm (x := u) (by omega) (by omega), wsm (x := u) (by omega) (by omega)]
    simp
  have a2 : ∀ u : Int, -10000000000 ≤ u ∧ u ≤ 10000000000 → turnAE u 0 2 = -u ∧ turnBE u 0 2 = -u := by
    intro u hu
    unfold turnAE turnBE by3E tAE tBE
    rw [t2, if_neg (by omega), if_neg (by omega), if_neg (by omega), if_neg (by omega)]
    have hm : u * -1 = -u := by omega
    simp only [Int.zero_mul, hm, e0, Int.sub_zero, Int.add_zero]
    rw [wsm (x := -u) (by omega) (by omega), wsm (x := -u) (by omega) (by omega), wsm (x := -u) (by omega) (by omega)]
    simp
  unfold sE aE bE plE
  rw [(a0 x hx).1, (a0 x hx).2, (a1 y hy).1, (a1 y hy).2, (a2 z hz).1, (a2 z hz).2]
  simp only [Int.zero_add, Int.add_zero, e0]
  rw [wsm (x := x) (by omega) (by omega), wsm (x := x + y) (by omega) (by omega), wsm (x := x + y + z) (by omega) (by omega), wsm (x := x) (by omega) (by omega), wsm (x := x + -z) (by omega) (by omega), wsm (x := y) (by omega) (by omega), wsm (x := y + -z) (by omega) (by omega)]
  exact ⟨rfl, by omega, by omega⟩
def splitS : List Value → Option Value
  | [.agg ⟨[.int .i64 x, .int .i64 y, .int .i64 z]⟩] => some (splitV x y z)
  | _ => none
noncomputable def T8 : Tb := ext T7' Fn.rotor_split (pureE splitS [0] Hg)
theorem ts8 {G : Nat} : TSound Tryz.prog G T8 := by
  refine ts7'.pure hg_vars fun args v h => ?_
  unfold splitS at h
  split at h
  · cases h; exact split_pure _ _ _
  · cases h
noncomputable def C8 : Cfg := ⟨T8, at_ [(Fn.rotor_Split, 11), (Fn.rotor_Merge, 19), (Fn.rotor_Merge, 47), (Fn.rotor_Merge, 51), (Fn.rotor_Merge, 57), (Fn.rotor_part, 15), (Fn.ref03_Merge, 18), (Fn.ref03_Merge, 45)] .bool sp_, off_, noL⟩
def fst2 (x y : Int) (k : Int → VT) : VT := .br (!eqF x 0) (k x) (.br (!eqF y 0) (k y) (k 0))
theorem fst2_sel (x y : Int) (k : Int → VT) : (fst2 x y k).sel = (k (firstE x y)).sel := by
  unfold fst2 firstE
  by_cases h1 : x = 0 <;> by_cases h2 : y = 0 <;> simp [VT.sel, eqF_d, h1, h2]
/-- Split -/
def errS (e : Int) : Value := tp [i 0, ag [i 0, i 0], i e]
def SplitV (x y z : Int) : Value := tp [i (okE (inE x y z) (sE x y z)), ag [i (okE (inE x y z) (aE x y z)), i (okE (inE x y z) (bE x y z))], i (inE x y z)]
theorem Split_pure (x y z : Int) : Pure Tryz.prog Hg Fn.rotor_Split [ar x y z] (SplitV x y z) := by
  refine pure_run (C := C8) (G := 4) 40 (ways1 (inE x y z) errS (tp [i (sE x y z), ag [i (aE x y z), i (bE x y z)], i 0])) ts8 .none (by decide) hg_len rfl (by kernel_rfl) (by kernel_rfl) ?_
  rw [ways1_sel]
  unfold SplitV errS okE
  by_cases h : inE x y z = 0 <;> simp [h]
/-- Merge -/
def thE (s a b : Int) : Int := IntKind.i64.wrap ((wrapF .i64 (wrapF .i64 (s - a) - b)).tdiv 3)
def mXE (s a b : Int) : Int := wrapF .i64 (thE s a b + a)
def mYE (s a b : Int) : Int := wrapF .i64 (thE s a b + b)
def confE (s a b : Int) : Int := if sE (mXE s a b) (mYE s a b) (thE s a b) ≠ s ∨ aE (mXE s a b) (mYE s a b) (thE s a b) ≠ a ∨ bE (mXE s a b) (mYE s a b) (thE s a b) ≠ b then 30 else inE (mXE s a b) (mYE s a b) (thE s a b)
def mErrE (s a b : Int) : Int := firstE (firstE (rangeE s (-3000000) 3000000) (pairE a b)) (confE s a b)
def errM (e : Int) : Value := tp [ar 0 0 0, i e]
def MergeV (s a b : Int) : Value := tp [ar (okE (mErrE s a b) (mXE s a b)) (okE (mErrE s a b) (mYE s a b)) (okE (mErrE s a b) (thE s a b)), i (mErrE s a b)]
def mTail (s a b : Int) : VT :=
  .br (!eqF (sE (mXE s a b) (mYE s a b) (thE s a b)) s) (.leaf (errM 30)) (.br (!(aE (mXE s a b) (mYE s a b) (thE s a b) == a && (bE (mXE s a b) (mYE s a b) (thE s a b) == b && true))) (.leaf (errM 30))
    (.br (!eqF (inE (mXE s a b) (mYE s a b) (thE s a b)) 0) (.leaf (errM (inE (mXE s a b) (mYE s a b) (thE s a b)))) (.leaf (tp [ar (mXE s a b) (mYE s a b) (thE s a b), i 0]))))
theorem beqI (a b : Int) : (a == b) = decide (a = b) := by
  rw [Bool.eq_iff_iff]; simp
theorem mTail_sel (s a b : Int) : (mTail s a b).sel = some (if confE s a b = 0 then tp [ar (mXE s a b) (mYE s a b) (thE s a b), i 0] else errM (confE s a b)) := by
  unfold mTail confE
  by_cases h1 : sE (mXE s a b) (mYE s a b) (thE s a b) = s
  · by_cases h2 : aE (mXE s a b) (mYE s a b) (thE s a b) = a
    · by_cases h3 : bE (mXE s a b) (mYE s a b) (thE s a b) = b
      · by_cases h4 : inE (mXE s a b) (mYE s a b) (thE s a b) = 0 <;> simp [VT.sel, eqF_d, h1, h2, h3, h4]
      · simp [VT.sel, eqF_d, beqI, h1, h2, h3]
    · simp [VT.sel, eqF_d, beqI, h1, h2]
  · simp [VT.sel, eqF_d, h1]
theorem Merge_pure (s a b : Int) : Pure Tryz.prog Hg Fn.rotor_Merge [i s, ag [i a, i b]] (MergeV s a b) := by
  refine pure_run (C := C8) (G := 4) 40 (fst2 (rangeE s (-3000000) 3000000) (pairE a b) fun e => .br (!eqF e 0) (.leaf (errM e)) (mTail s a b)) ts8 .none (by decide) hg_len rfl (by kernel_rfl) (by kernel_rfl) ?_
  rw [fst2_sel]
  generalize he : firstE (rangeE s (-3000000) 3000000) (pairE a b) = e
  unfold MergeV mErrE
  rw [he]
  by_cases h : e = 0
  · subst h
    have : (VT.br (!eqF 0 0) (.leaf (errM 0)) (mTail s a b)).sel = (mTail s a b).sel := rfl
    rw [this, mTail_sel]
    unfold firstE okE errM
    by_cases h2 : confE s a b = 0 <;> simp [h2]
  · unfold firstE okE errM
    simp [VT.sel, eqF_d, h]

/-! ### the reference -/
theorem rplus_pure (a b c d : Int) : Pure Tryz.prog Hd Fn.ref03_Plus [ag [i a, i b], ag [i c, i d]] (ag [i (plE a c), i (plE b d)]) :=
  pure_run (C := C8) (G := 4) 40 (.leaf (ag [i (plE a c), i (plE b d)])) ts8 .none (by decide) hd_len rfl (by kernel_rfl) (by kernel_rfl) rfl
noncomputable def T9 : Tb := ext T8 Fn.ref03_Plus (pureE plusS [] Hd)
theorem ts9 {G : Nat} : TSound Tryz.prog G T9 := by
  refine ts8.pure hd_vars fun args v h => ?_
  unfold plusS at h
  split at h
  · cases h; exact rplus_pure _ _ _ _
  · cases h
noncomputable def C9 : Cfg := ⟨T9, C8.sp, off_, noL⟩
def cpA (x y z : Int) : Int := plE x (plE (rturnAE y 0 1) (rturnAE z 0 2))
def cpB (_x y z : Int) : Int := plE 0 (plE (rturnBE y 0 1) (rturnBE z 0 2))
theorem comp_pure (x y z : Int) : Pure Tryz.prog Hd Fn.ref03_Component [ar x y z] (ag [i (cpA x y z), i (cpB x y z)]) :=
  pure_run (C := C9) (G := 4) 40 (.leaf (ag [i (cpA x y z), i (cpB x y z)])) ts9 .none (by decide) hd_len rfl (by kernel_rfl) (by kernel_rfl) rfl
def rmE (s a b : Int) : Int := wrapF .i64 (wrapF .i64 (s + wrapF .i64 (2 * a)) - b)
def r0E (s a b : Int) : Int := IntKind.i64.wrap ((rmE s a b).tdiv 3)
def r1E (s a b : Int) : Int := wrapF .i64 (wrapF .i64 (r0E s a b - a) + b)
def r2E (s a b : Int) : Int := wrapF .i64 (r0E s a b - a)
def rmErrE (s a b : Int) : Int := if (rmE s a b).tmod 3 ≠ 0 then 30 else inE (r0E s a b) (r1E s a b) (r2E s a b)
def rMergeV (s a b : Int) : Value := tp [ar (okE (rmErrE s a b) (r0E s a b)) (okE (rmErrE s a b) (r1E s a b)) (okE (rmErrE s a b) (r2E s a b)), i (rmErrE s a b)]
theorem rmerge_pure (s a b : Int) : Pure Tryz.prog Hd Fn.ref03_Merge [i s, ag [i a, i b]] (rMergeV s a b) := by
  refine pure_run (C := C9) (G := 4) 40 (.br (!eqF ((rmE s a b).tmod 3) 0) (.leaf (errM 30)) (.br (!eqF (inE (r0E s a b) (r1E s a b) (r2E s a b)) 0) (.leaf (errM (inE (r0E s a b) (r1E s a b) (r2E s a b)))) (.leaf (tp [ar (r0E s a b) (r1E s a b) (r2E s a b), i 0])))) ts9 .none (by decide) hd_len rfl (by kernel_rfl) (by kernel_rfl) ?_
  unfold rMergeV rmErrE errM okE
  by_cases h1 : (rmE s a b).tmod 3 = 0
  · by_cases h2 : inE (r0E s a b) (r1E s a b) (r2E s a b) = 0 <;> simp [VT.sel, eqF_d, h1, h2]
  · simp [VT.sel, eqF_d, h1]
end Go.Proofs.YtbocpikgochioaaGreatDoor.Ways
