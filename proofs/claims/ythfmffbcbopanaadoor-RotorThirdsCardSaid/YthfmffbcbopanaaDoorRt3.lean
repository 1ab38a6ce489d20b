import Derived.Test.YthfmffbcbopanaaDoorRt1
namespace Go.Proofs.YthfmffbcbopanaaDoor.Ways
open Go Go.Ex
def ar (x y z : Int) : Value := ag [i x, i y, i z]
def inE (x y z : Int) : Int := if (-1000000 ≤ x ∧ x ≤ 1000000) ∧ (-1000000 ≤ y ∧ y ≤ 1000000) ∧ (-1000000 ≤ z ∧ z ≤ 1000000) then 0 else 3
theorem inE_zero {x y z : Int} (h : inE x y z = 0) : (-1000000 ≤ x ∧ x ≤ 1000000) ∧ (-1000000 ≤ y ∧ y ≤ 1000000) ∧ (-1000000 ≤ z ∧ z ≤ 1000000) := by
  unfold inE at h
  split at h
  · assumption
  · cases h
noncomputable def C6 : Cfg := ⟨T6, at_ [(39, 20), (20, 11)] .bool sp_, off_, noL⟩
theorem rin_pure (x y z : Int) : Pure Tryd.prog Hd 19 [ar x y z] (i (inE x y z)) := by
  refine pure_run (C := C6) (G := 4) 40 (.br (!eqF (rangeE x (-1000000) 1000000) 0) (.leaf (i (rangeE x (-1000000) 1000000))) (.br (!eqF (rangeE y (-1000000) 1000000) 0) (.leaf (i (rangeE y (-1000000) 1000000))) (.br (!eqF (rangeE z (-1000000) 1000000) 0) (.leaf (i (rangeE z (-1000000) 1000000))) (.leaf (i 0))))) ts6 .none (by decide) hd_len rfl (by kernel_rfl) (by kernel_rfl) ?_
  unfold inE rangeE
  by_cases hx : x < -1000000 ∨ 1000000 < x
  · have : ¬ (-1000000 ≤ x ∧ x ≤ 1000000) := by omega
    simp [VT.sel, eqF_d, hx, this]
  · have hx' : -1000000 ≤ x ∧ x ≤ 1000000 := by omega
    by_cases hy : y < -1000000 ∨ 1000000 < y
    · have : ¬ (-1000000 ≤ y ∧ y ≤ 1000000) := by omega
      simp [VT.sel, eqF_d, hx, hy, this]
    · have hy' : -1000000 ≤ y ∧ y ≤ 1000000 := by omega
      by_cases hz : z < -1000000 ∨ 1000000 < z
      · have : ¬ (-1000000 ≤ z ∧ z ≤ 1000000) := by omega
        simp [VT.sel, eqF_d, hx, hy, hz, this]
      · have hz' : -1000000 ≤ z ∧ z ≤ 1000000 := by omega
        simp [VT.sel, eqF_d, hx, hy, hz, hx', hy', hz']
def clampE (x : Int) : Int := if (1000000 : Int) < (if -1000000 > x then -1000000 else x) then 1000000 else (if -1000000 > x then -1000000 else x)
theorem clampE_eq (x : Int) : (clampE x == x) = decide (-1000000 ≤ x ∧ x ≤ 1000000) := by
  rw [Bool.eq_iff_iff]
  simp only [beq_iff_eq, decide_eq_true_eq]
  unfold clampE
  split <;> split <;> omega
theorem in_pure (x y z : Int) : Pure Tryd.prog Hd 39 [ar x y z] (i (inE x y z)) := by
  refine pure_run (C := C6) (G := 4) 40 (.br (!(clampE x == x && (clampE y == y && (clampE z == z && true)))) (.leaf (i 3)) (.leaf (i 0))) ts6 .none (by decide) hd_len rfl (by kernel_rfl) (by kernel_rfl) ?_
  rw [clampE_eq, clampE_eq, clampE_eq]
  unfold inE
  by_cases hx : -1000000 ≤ x ∧ x ≤ 1000000 <;> by_cases hy : -1000000 ≤ y ∧ y ≤ 1000000 <;> by_cases hz : -1000000 ≤ z ∧ z ≤ 1000000 <;> simp [VT.sel, hx, hy, hz]
def plE (x y : Int) : Int := wrapF .i64 (x + y)
theorem plus_pure (a b c d : Int) : Pure Tryd.prog Hd 61 [ag [i a, i b], ag [i c, i d]] (ag [i (plE a c), i (plE b d)]) :=
  pure_run (C := C6) (G := 4) 40 (.leaf (ag [i (plE a c), i (plE b d)])) ts6 .none (by decide) hd_len rfl (by kernel_rfl) (by kernel_rfl) rfl
def inS : List Value → Option Value
  | [.agg ⟨[.int .i64 x, .int .i64 y, .int .i64 z]⟩] => some (i (inE x y z))
  | _ => none
def plusS : List Value → Option Value
  | [.agg ⟨[.int .i64 a, .int .i64 b]⟩, .agg ⟨[.int .i64 c, .int .i64 d]⟩] => some (ag [i (plE a c), i (plE b d)])
  | _ => none
noncomputable def T7' : Tb := ext (ext (ext T6 19 (pureE inS [] Hd)) 39 (pureE inS [] Hd)) 61 (pureE plusS [] Hd)
theorem ts7' {G : Nat} : TSound Tryd.prog G T7' := by
  refine (((ts6.pure hd_vars fun args v h => ?_).pure hd_vars fun args v h => ?_).pure hd_vars fun args v h => ?_)
  · unfold inS at h
    split at h
    · cases h; exact rin_pure _ _ _
    · cases h
  · unfold inS at h
    split at h
    · cases h; exact in_pure _ _ _
    · cases h
  · unfold plusS at h
    split at h
    · cases h; exact plus_pure _ _ _ _
    · cases h
noncomputable def C7' : Cfg := ⟨T7', at_ [(39, 20), (20, 11)] .bool sp_, off_, noL⟩
def sE (x y z : Int) : Int := wrapF .i64 (wrapF .i64 (wrapF .i64 (0 + x) + y) + z)
def aE (x y z : Int) : Int := plE (plE (plE 0 (turnAE x 0 0)) (turnAE y 0 1)) (turnAE z 0 2)
def bE (x y z : Int) : Int := plE (plE (plE 0 (turnBE x 0 0)) (turnBE y 0 1)) (turnBE z 0 2)
def splitV (x y z : Int) : Value := tp [i (sE x y z), ag [i (aE x y z), i (bE x y z)]]
theorem split_pure (x y z : Int) : Pure Tryd.prog Hg 40 [ar x y z] (splitV x y z) :=
  pure_run (C := C7') (G := 4) 40 (.leaf (splitV x y z)) ts7' .none (by decide) hg_len rfl (by kernel_rfl) (by kernel_rfl) rfl
theorem wsm {x : Int} (h1 : -1000000000000 ≤ x) (h2 : x ≤ 1000000000000) : wrapF .i64 x = x := wrapF_in (by omega) (by omega)
theorem split_eq {x y z : Int} (hx : -10000000000 ≤ x ∧ x ≤ 10000000000) (hy : -10000000000 ≤ y ∧ y ≤ 10000000000) (hz : -10000000000 ≤ z ∧ z ≤ 10000000000) : sE x y z = x + y + z ∧ aE x y z = x - z ∧ bE x y z = y - z := by
  have t0 : thirdsE 0 = 0 := by decide
  have t1 : thirdsE 1 = 1 := by decide
  have t2 : thirdsE 2 = 2 := by decide
  have e0 : wrapF .i64 0 = 0 := by decide
  have a0 : ∀ u : Int, -10000000000 ≤ u ∧ u ≤ 10000000000 → turnAE u 0 0 = u ∧ turnBE u 0 0 = 0 := by
    intro u hu
    unfold turnAE turnBE by3E tAE tBE
    simp only [t0, if_true, Int.zero_mul, Int.mul_one, Int.mul_zero, e0, Int.sub_zero, Int.add_zero]
    rw [wsm (x := u) (by omega) (by omega), wsm (x := u) (by omega) (by omega)]
    simp
  have a1 : ∀ u : Int, -10000000000 ≤ u ∧ u ≤ 10000000000 → turnAE u 0 1 = 0 ∧ turnBE u 0 1 = u := by
    intro u hu
    unfold turnAE turnBE by3E tAE tBE
    rw [t1, if_neg (by omega), if_pos rfl, if_neg (by omega), if_pos rfl]
    simp only [Int.mul_one, Int.mul_zero, e0, Int.sub_zero, Int.add_zero]
    rw [wsm (x := u) (by omega) (by omega), wsm (x := u) (by omega) (by omega), wsm (x := u) (by omega) (by omega)]
    simp
  have a2 : ∀ u : Int, -10000000000 ≤ u ∧ u ≤ 10000000000 → turnAE u 0 2 = -u ∧ turnBE u 0 2 = -u := by
    intro u hu
    unfold turnAE turnBE by3E tAE tBE
    rw [t2, if_neg (by omega), if_neg (by omega), if_neg (by omega), if_neg (by omega)]
    have hm : u * -1 = -u := by omega
    simp only [Int.zero_mul, hm, e0, Int.sub_zero, Int.add_zero]
    rw [wsm (x := -u) (by omega) (by omega), wsm (x := -u) (by omega) (by omega), wsm (x := -u) (by omega) (by omega)]
    simp
  unfold sE aE bE plE
  rw [(a0 x hx).1, (a0 x hx).2, (a1 y hy).1, (a1 y hy).2, (a2 z hz).1, (a2 z hz).2]
  simp only [Int.zero_add, Int.add_zero, e0]
  rw [wsm (x := x) (by omega) (by omega), wsm (x := x + y) (by omega) (by omega), wsm (x := x + y + z) (by omega) (by omega), wsm (x := x) (by omega) (by omega), wsm (x := x + -z) (by omega) (by omega), wsm (x := y) (by omega) (by omega), wsm (x := y + -z) (by omega) (by omega)]
  exact ⟨rfl, by omega, by omega⟩
end Go.Proofs.YthfmffbcbopanaaDoor.Ways
