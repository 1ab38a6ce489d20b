import Derived.Test.YtbocpikgochioaaGreatDoorZa
import Derived.Test.YtbocpikgochioaaGreatDoorZb
import Derived.Test.YtbocpikgochioaaGreatDoorZd0
namespace Go.Proofs.YtbocpikgochioaaGreatDoor.Ways
open Go Go.Ex
def ar (x y z : Int) : Value := ag [i x, i y, i z]
def inE (x y z : Int) : Int := if (-1000000 ≤ x ∧ x ≤ 1000000) ∧ (-1000000 ≤ y ∧ y ≤ 1000000) ∧ (-1000000 ≤ z ∧ z ≤ 1000000) then 0 else 3
theorem inE_zero {x y z : Int} (h : inE x y z = 0) : (-1000000 ≤ x ∧ x ≤ 1000000) ∧ (-1000000 ≤ y ∧ y ≤ 1000000) ∧ (-1000000 ≤ z ∧ z ≤ 1000000) := by
  unfold inE at h
  split at h
  · assumption
  · cases h
noncomputable def C6 : Cfg := ⟨T5, at_ [(Fn.rotor_checkLoads, 20), (Fn.rotor_Split, 11)] .bool sp_, off_, noL⟩
theorem rin_pure (x y z : Int) : Pure Tryz.prog Hd Fn.ref03_CheckLoads [ar x y z] (i (inE x y z)) := by
  refine pure_run (C := C6) (G := 4) 40 (.br (!eqF (rangeE x (-1000000) 1000000) 0) (.leaf (i (rangeE x (-1000000) 1000000))) (.br (!eqF (rangeE y (-1000000) 1000000) 0) (.leaf (i (rangeE y (-1000000) 1000000))) (.br (!eqF (rangeE z (-1000000) 1000000) 0) (.leaf (i (rangeE z (-1000000) 1000000))) (.leaf (i 0))))) ts5 .none (by decide) hd_len rfl (by kernel_rfl) (by kernel_rfl) ?_
  unfold inE rangeE
  by_cases hx : x < -1000000 ∨ 1000000 < x
  · have : ¬ (-1000000 ≤ x ∧ x ≤ 1000000) := by omega
    simp [VT.sel, eqF_d, hx, this]
  · have hx' : -1000000 ≤ x ∧ x ≤ 1000000 := by omega
    by_cases hy : y < -1000000 ∨ 1000000 < y
    · have : ¬ (-1000000 ≤ y ∧ y ≤ 1000000) := by omega
      simp [VT.sel, eqF_d, hx, hy, this]
    · have hy' : -1000000 ≤ y ∧ y ≤ 1000000 := by omega
      by_cases hz : z < -1000000 ∨ 1000000 < z
      · have : ¬ (-1000000 ≤ z ∧ z ≤ 1000000) := by omega
        simp [VT.sel, eqF_d, hx, hy, hz, this]
      · have hz' : -1000000 ≤ z ∧ z ≤ 1000000 := by omega
        simp [VT.sel, eqF_d, hx, hy, hz, hx', hy', hz']
def clampE (x : Int) : Int := if (1000000 : Int) < (if -1000000 > x then -1000000 else x) then 1000000 else (if -1000000 > x then -1000000 else x)
theorem clampE_eq (x : Int) : (clampE x == x) = decide (-1000000 ≤ x ∧ x ≤ 1000000) := by
  rw [Bool.eq_iff_iff]
  simp only [beq_iff_eq, decide_eq_true_eq]
  unfold clampE
  split <;> split <;> omega
theorem in_pure (x y z : Int) : Pure Tryz.prog Hd Fn.rotor_checkLoads [ar x y z] (i (inE x y z)) := by
  refine pure_run (C := C6) (G := 4) 40 (.br (!(clampE x == x && (clampE y == y && (clampE z == z && true)))) (.leaf (i 3)) (.leaf (i 0))) ts5 .none (by decide) hd_len rfl (by kernel_rfl) (by kernel_rfl) ?_
  rw [clampE_eq, clampE_eq, clampE_eq]
  unfold inE
  by_cases hx : -1000000 ≤ x ∧ x ≤ 1000000 <;> by_cases hy : -1000000 ≤ y ∧ y ≤ 1000000 <;> by_cases hz : -1000000 ≤ z ∧ z ≤ 1000000 <;> simp [VT.sel, hx, hy, hz]
def plE (x y : Int) : Int := wrapF .i64 (x + y)
theorem plus_pure (a b c d : Int) : Pure Tryz.prog Hd Fn.rotor_Pair_plus [ag [i a, i b], ag [i c, i d]] (ag [i (plE a c), i (plE b d)]) :=
  pure_run (C := C6) (G := 4) 40 (.leaf (ag [i (plE a c), i (plE b d)])) ts5 .none (by decide) hd_len rfl (by kernel_rfl) (by kernel_rfl) rfl
def inS : List Value → Option Value
  | [.agg ⟨[.int .i64 x, .int .i64 y, .int .i64 z]⟩] => some (i (inE x y z))
  | _ => none
def plusS : List Value → Option Value
  | [.agg ⟨[.int .i64 a, .int .i64 b]⟩, .agg ⟨[.int .i64 c, .int .i64 d]⟩] => some (ag [i (plE a c), i (plE b d)])
  | _ => none
noncomputable def T7' : Tb := ext (ext (ext T5 Fn.ref03_CheckLoads (pureE inS [] Hd)) Fn.rotor_checkLoads (pureE inS [] Hd)) Fn.rotor_Pair_plus (pureE plusS [] Hd)
theorem ts7' {G : Nat} : TSound Tryz.prog G T7' := by
  refine (((ts5.pure hd_vars fun args v h => ?_).pure hd_vars fun args v h => ?_).pure hd_vars fun args v h => ?_)
  · unfold inS at h
    split at h
    · cases h; exact rin_pure _ _ _
    · cases h
  · unfold inS at h
    split at h
    · cases h; exact in_pure _ _ _
    · cases h
  · unfold plusS at h
    split at h
    · cases h; exact plus_pure _ _ _ _
    · cases h
noncomputable def C7' : Cfg := ⟨T7', at_ [(Fn.rotor_checkLoads, 20), (Fn.rotor_Split, 11)] .bool sp_, off_, noL⟩
def sE (x y z : Int) : Int := wrapF .i64 (wrapF .i64 (wrapF .i64 (0 + x) + y) + z)
def aE (x y z : Int) : Int := plE (plE (plE 0 (turnAE x 0 0)) (turnAE y 0 1)) (turnAE z 0 2)
def bE (x y z : Int) : Int := plE (plE (plE 0 (turnBE x 0 0)) (turnBE y 0 1)) (turnBE z 0 2)
def splitV (x y z : Int) : Value := tp [i (sE x y z), ag [i (aE x y z), i (bE x y z)]]
theorem split_pure (x y z : Int) : Pure Tryz.prog Hg Fn.rotor_split [ar x y z] (splitV x y z) :=
  pure_run (C := C7') (G := 4) 40 (.leaf (splitV x y z)) ts7' .none (by decide) hg_len rfl (by kernel_rfl) (by kernel_rfl) rfl
theorem wsm {x : Int} (h1 : -1000000000000 ≤ x) (h2 : x ≤ 1000000000000) : wrapF .i64 x = x := wrapF_in (by omega) (by omega)
theorem split_eq {x y z : Int} (hx : -10000000000 ≤ x ∧ x ≤ 10000000000) (hy : -10000000000 ≤ y ∧ y ≤ 10000000000) (hz : -10000000000 ≤ z ∧ z ≤ 10000000000) : sE x y z = x + y + z ∧ aE x y z = x - z ∧ bE x y z = y - z := by
  have t0 : thirdsE 0 = 0 := by decide
  have t1 : thirdsE 1 = 1 := by decide
  have t2 : thirdsE 2 = 2 := by decide
  have e0 : wrapF .i64 0 = 0 := by decide
  have a0 : ∀ u : Int, -10000000000 ≤ u ∧ u ≤ 10000000000 → turnAE u 0 0 = u ∧ turnBE u 0 0 = 0 := by
    intro u hu
    unfold turnAE turnBE by3E tAE tBE
    simp only [t0, if_true, Int.zero_mul, Int.mul_one, Int.mul_zero, e0, Int.sub_zero, Int.add_zero]
    rw [wsm (x := u) (by omega) (by omega), wsm (x := u) (by omega) (by omega)]
    simp
  have a1 : ∀ u : Int, -10000000000 ≤ u ∧ u ≤ 10000000000 → turnAE u 0 1 = 0 ∧ turnBE u 0 1 = u := by
    intro u hu
    unfold turnAE turnBE by3E tAE tBE
    rw [t1, if_neg (by omega), if_pos rfl, if_neg (by omega), if_pos rfl]
    simp only [Int.mul_one, Int.mul_zero, e0, Int.sub_zero, Int.add_zero]
    rw [wsm (x := u) (by omega) (by omega), wsm (x := u) (by omega) (by omega), wsm (x := u) (by omega) (by omega)]
    simp
  have a2 : ∀ u : Int, -10000000000 ≤ u ∧ u ≤ 10000000000 → turnAE u 0 2 = -u ∧ turnBE u 0 2 = -u := by
    intro u hu
    unfold turnAE turnBE by3E tAE tBE
    rw [t2, if_neg (by omega), if_neg (by omega), if_neg (by omega), if_neg (by omega)]
    have hm : u * -1 = -u := by omega
    simp only [Int.zero_mul, hm, e0, Int.sub_zero, Int.add_zero]
    rw [wsm (x := -u) (by omega) (by omega), wsm (x := -u) (by omega) (by omega), wsm (x := -u) (by omega) (by omega)]
    simp
  unfold sE aE bE plE
  rw [(a0 x hx).1, (a0 x hx).2, (a1 y hy).1, (a1 y hy).2, (a2 z hz).1, (a2 z hz).2]
  simp only [Int.zero_add, Int.add_zero, e0]
  rw [wsm (x := x) (by omega) (by omega), wsm (x := x + y) (by omega) (by omega), wsm (x := x + y + z) (by omega) (by omega), wsm (x := x) (by omega) (by omega), wsm (x := x + -z) (by omega) (by omega), wsm (x := y) (by omega) (by omega), wsm (x := y + -z) (by omega) (by omega)]
  exact ⟨rfl, by omega, by omega⟩
def splitS : List Value → Option Value
  | [.agg ⟨[.int .i64 x, .int .i64 y, .int .i64 z]⟩] => some (splitV x y z)
  | _ => none
noncomputable def T8 : Tb := ext T7' Fn.rotor_split (pureE splitS [0] Hg)
theorem ts8 {G : Nat} : TSound Tryz.prog G T8 := by
  refine ts7'.pure hg_vars fun args v h => ?_
  unfold splitS at h
  split at h
  · cases h; exact split_pure _ _ _
  · cases h
noncomputable def C8 : Cfg := ⟨T8, at_ [(Fn.rotor_Split, 11), (Fn.rotor_Merge, 19), (Fn.rotor_Merge, 47), (Fn.rotor_Merge, 51), (Fn.rotor_Merge, 57), (Fn.rotor_part, 15), (Fn.ref03_Merge, 18), (Fn.ref03_Merge, 45)] .bool sp_, off_, noL⟩
def fst2 (x y : Int) (k : Int → VT) : VT := .br (!eqF x 0) (k x) (.br (!eqF y 0) (k y) (k 0))
theorem fst2_sel (x y : Int) (k : Int → VT) : (fst2 x y k).sel = (k (firstE x y)).sel := by
  unfold fst2 firstE
  by_cases h1 : x = 0 <;> by_cases h2 : y = 0 <;> simp [VT.sel, eqF_d, h1, h2]
/-- Split -/
def errS (e : Int) : Value := tp [i 0, ag [i 0, i 0], i e]
def SplitV (x y z : Int) : Value := tp [i (okE (inE x y z) (sE x y z)), ag [i (okE (inE x y z) (aE x y z)), i (okE (inE x y z) (bE x y z))], i (inE x y z)]
theorem Split_pure (x y z : Int) : Pure Tryz.prog Hg Fn.rotor_Split [ar x y z] (SplitV x y z) := by
  refine pure_run (C := C8) (G := 4) 40 (ways1 (inE x y z) errS (tp [i (sE x y z), ag [i (aE x y z), i (bE x y z)], i 0])) ts8 .none (by decide) hg_len rfl (by kernel_rfl) (by kernel_rfl) ?_
  rw [ways1_sel]
  unfold SplitV errS okE
  by_cases h : inE x y z = 0 <;> simp [h]
/-- Merge -/
def thE (s a b : Int) : Int := IntKind.i64.wrap ((wrapF .i64 (wrapF .i64 (s - a) - b)).tdiv 3)
def mXE (s a b : Int) : Int := wrapF .i64 (thE s a b + a)
def mYE (s a b : Int) : Int := wrapF .i64 (thE s a b + b)
def confE (s a b : Int) : Int := if sE (mXE s a b) (mYE s a b) (thE s a b) ≠ s ∨ aE (mXE s a b) (mYE s a b) (thE s a b) ≠ a ∨ bE (mXE s a b) (mYE s a b) (thE s a b) ≠ b then 30 else inE (mXE s a b) (mYE s a b) (thE s a b)
def mErrE (s a b : Int) : Int := firstE (firstE (rangeE s (-3000000) 3000000) (pairE a b)) (confE s a b)
def errM (e : Int) : Value := tp [ar 0 0 0, i e]
def MergeV (s a b : Int) : Value := tp [ar (okE (mErrE s a b) (mXE s a b)) (okE (mErrE s a b) (mYE s a b)) (okE (mErrE s a b) (thE s a b)), i (mErrE s a b)]
def mTail (s a b : Int) : VT :=
  .br (!eqF (sE (mXE s a b) (mYE s a b) (thE s a b)) s) (.leaf (errM 30)) (.br (!(aE (mXE s a b) (mYE s a b) (thE s a b) == a && (bE (mXE s a b) (mYE s a b) (thE s a b) == b && true))) (.leaf (errM 30))
    (.br (!eqF (inE (mXE s a b) (mYE s a b) (thE s a b)) 0) (.leaf (errM (inE (mXE s a b) (mYE s a b) (thE s a b)))) (.leaf (tp [ar (mXE s a b) (mYE s a b) (thE s a b), i 0]))))
theorem beqI (a b : Int) : (a == b) = decide (a = b) := by
  rw [Bool.eq_iff_iff]; simp
theorem mTail_sel (s a b : Int) : (mTail s a b).sel = some (if confE s a b = 0 then tp [ar (mXE s a b) (mYE s a b) (thE s a b), i 0] else errM (confE s a b)) := by
  unfold mTail confE
  by_cases h1 : sE (mXE s a b) (mYE s a b) (thE s a b) = s
  · by_cases h2 : aE (mXE s a b) (mYE s a b) (thE s a b) = a
    · by_cases h3 : bE (mXE s a b) (mYE s a b) (thE s a b) = b
      · by_cases h4 : inE (mXE s a b) (mYE s a b) (thE s a b) = 0 <;> simp [VT.sel, eqF_d, h1, h2, h3, h4]
      · simp [VT.sel, eqF_d, beqI, h1, h2, h3]
    · simp [VT.sel, eqF_d, beqI, h1, h2]
  · simp [VT.sel, eqF_d, h1]
theorem Merge_pure (s a b : Int) : Pure Tryz.prog Hg Fn.rotor_Merge [i s, ag [i a, i b]] (MergeV s a b) := by
  refine pure_run (C := C8) (G := 4) 40 (fst2 (rangeE s (-3000000) 3000000) (pairE a b) fun e => .br (!eqF e 0) (.leaf (errM e)) (mTail s a b)) ts8 .none (by decide) hg_len rfl (by kernel_rfl) (by kernel_rfl) ?_
  rw [fst2_sel]
  generalize he : firstE (rangeE s (-3000000) 3000000) (pairE a b) = e
  unfold MergeV mErrE
  rw [he]
  by_cases h : e = 0
  · subst h
    have : (VT.br (!eqF 0 0) (.leaf (errM 0)) (mTail s a b)).sel = (mTail s a b).sel := rfl
    rw [this, mTail_sel]
    unfold firstE okE errM
    by_cases h2 : confE s a b = 0 <;> simp [h2]
  · unfold firstE okE errM
    simp [VT.sel, eqF_d, h]

/-! ### the reference -/
theorem rplus_pure (a b c d : Int) : Pure Tryz.prog Hd Fn.ref03_Plus [ag [i a, i b], ag [i c, i d]] (ag [i (plE a c), i (plE b d)]) :=
  pure_run (C := C8) (G := 4) 40 (.leaf (ag [i (plE a c), i (plE b d)])) ts8 .none (by decide) hd_len rfl (by kernel_rfl) (by kernel_rfl) rfl
noncomputable def T9 : Tb := ext T8 Fn.ref03_Plus (pureE plusS [] Hd)
theorem ts9 {G : Nat} : TSound Tryz.prog G T9 := by
  refine ts8.pure hd_vars fun args v h => ?_
  unfold plusS at h
  split at h
  · cases h; exact rplus_pure _ _ _ _
  · cases h
noncomputable def C9 : Cfg := ⟨T9, C8.sp, off_, noL⟩
def cpA (x y z : Int) : Int := plE x (plE (rturnAE y 0 1) (rturnAE z 0 2))
def cpB (_x y z : Int) : Int := plE 0 (plE (rturnBE y 0 1) (rturnBE z 0 2))
theorem comp_pure (x y z : Int) : Pure Tryz.prog Hd Fn.ref03_Component [ar x y z] (ag [i (cpA x y z), i (cpB x y z)]) :=
  pure_run (C := C9) (G := 4) 40 (.leaf (ag [i (cpA x y z), i (cpB x y z)])) ts9 .none (by decide) hd_len rfl (by kernel_rfl) (by kernel_rfl) rfl
def rmE (s a b : Int) : Int := wrapF .i64 (wrapF .i64 (s + wrapF .i64 (2 * a)) - b)
def r0E (s a b : Int) : Int := IntKind.i64.wrap ((rmE s a b).tdiv 3)
def r1E (s a b : Int) : Int := wrapF .i64 (wrapF .i64 (r0E s a b - a) + b)
def r2E (s a b : Int) : Int := wrapF .i64 (r0E s a b - a)
def rmErrE (s a b : Int) : Int := if (rmE s a b).tmod 3 ≠ 0 then 30 else inE (r0E s a b) (r1E s a b) (r2E s a b)
def rMergeV (s a b : Int) : Value := tp [ar (okE (rmErrE s a b) (r0E s a b)) (okE (rmErrE s a b) (r1E s a b)) (okE (rmErrE s a b) (r2E s a b)), i (rmErrE s a b)]
theorem rmerge_pure (s a b : Int) : Pure Tryz.prog Hd Fn.ref03_Merge [i s, ag [i a, i b]] (rMergeV s a b) := by
  refine pure_run (C := C9) (G := 4) 40 (.br (!eqF ((rmE s a b).tmod 3) 0) (.leaf (errM 30)) (.br (!eqF (inE (r0E s a b) (r1E s a b) (r2E s a b)) 0) (.leaf (errM (inE (r0E s a b) (r1E s a b) (r2E s a b)))) (.leaf (tp [ar (r0E s a b) (r1E s a b) (r2E s a b), i 0])))) ts9 .none (by decide) hd_len rfl (by kernel_rfl) (by kernel_rfl) ?_
  unfold rMergeV rmErrE errM okE
  by_cases h1 : (rmE s a b).tmod 3 = 0
  · by_cases h2 : inE (r0E s a b) (r1E s a b) (r2E s a b) = 0 <;> simp [VT.sel, eqF_d, h1, h2]
  · simp [VT.sel, eqF_d, h1]
end Go.Proofs.YtbocpikgochioaaGreatDoor.Ways
namespace Go.Proofs.YtbocpikgochioaaGreatDoor.Ways
open Go Go.Ex
def sl (b o l k : Nat) : Value := .slice (some ⟨b, o, none⟩) l k
def pt (b o : Nat) : Value := .pointer (some ⟨b, o, none⟩)
def fn (f : Nat) : Value := .func (.func f) #[] #[]
def on_ (l : List (Nat × Nat)) (f d : Nat) : Bool := l.any fun x => Nat.beq x.1 f && Nat.beq x.2 d
/-- the loads of an entry -/
def c0E (cs : List Value) (j : Nat) : Int := intO cs[0 + j * 3]?
def c1E (cs : List Value) (j : Nat) : Int := intO cs[0 + j * 3 + 1]?
def c2E (cs : List Value) (j : Nat) : Int := intO cs[0 + j * 3 + 1 + 1]?
def eJE (cs : List Value) (j : Nat) : Int := inE (c0E cs j) (c1E cs j) (c2E cs j)
def k3 : List CK := [.i .i64, .i .i64, .i .i64]
def Lds (cs : List Value) (n : Nat) : Prop := ∀ j, j < n → areCells k3 cs (0 + j * 3) = true
def dd4 : List (CO × Bool) := [(.dead, false), (.dead, false), (.dead, false), (.dead, false)]
def gg4 : List (CO × Bool) := [(.cells powers 180 1 true, true), (.dead, false), (.dead, false), (.dead, false)]
noncomputable def B50 : Code := bodyL Tryz.f50 4
noncomputable def B124 : Code := bodyL Tryz.f124 3
noncomputable def B66 : Code := bodyL Tryz.f66 2
noncomputable def B89 : Code := bodyL Tryz.f89 6
noncomputable def B53 : Code := bodyL Tryz.f53 3
noncomputable def B54 : Code := bodyL Tryz.f54 3
noncomputable def T10 : Tb := ext (ext T9 Fn.ref03_Component (pureE (fun | [.agg ⟨[.int .i64 x, .int .i64 y, .int .i64 z]⟩] => some (ag [i (cpA x y z), i (cpB x y z)]) | _ => none) [] Hd)) Fn.ref03_Merge (pureE (fun | [.int .i64 s, .agg ⟨[.int .i64 a, .int .i64 b]⟩] => some (rMergeV s a b) | _ => none) [] Hd)
theorem ts10 {G : Nat} : TSound Tryz.prog G T10 := by
  refine ((ts9.pure hd_vars fun args v h => ?_).pure hd_vars fun args v h => ?_)
  · split at h
    · cases h; exact comp_pure _ _ _
    · cases h
  · split at h
    · cases h; exact rmerge_pure _ _ _
    · cases h
noncomputable def spL : Nat → Nat → Split := at_ [(Fn.ref03_CheckRecord, 11), (Fn.ref03_CheckRecord, 20), (Fn.list_Changed_3_int_api_Errno, 14), (Fn.check_First, 8), (Fn.rotor_part, 21), (Fn.ref03_Rotating, 8), (Fn.ref03_Fixed, 8)] .bool C8.sp
def syL : Nat → Nat → Bool := on_ [(Fn.ref03_CheckRecord, 16), (Fn.ref03_CheckRecord, 17), (Fn.list_Changed_3_int_api_Errno, 10), (Fn.list_Changed_3_int_api_Errno, 16), (Fn.list_Changed_3_int_api_Errno, 17), (Fn.list_Changed_3_int_api_Errno, 23), (Fn.list_Changed_3_int_api_Errno, 100023), (Fn.check_First, 9), (Fn.check_First, 10), (Fn.rotor_part, 23), (Fn.rotor_part, 24), (Fn.ref03_Rotating, 14), (Fn.ref03_Rotating, 15), (Fn.ref03_Fixed, 14), (Fn.ref03_Fixed, 15)]
noncomputable def spL' : Nat → Nat → Split := at_ [(Fn.ref03_CheckRecord, 7), (Fn.rotor_checkRecord, 5), (Fn.rotor_part, 15)] .bool spL
noncomputable def CL : Cfg := ⟨T10, spL, syL, noL⟩
end Go.Proofs.YtbocpikgochioaaGreatDoor.Ways
namespace Go.Proofs.YtbocpikgochioaaGreatDoor.Ways
open Go Go.Ex
def hpA (hd : List (CO × Bool)) (cs : List Value) (t s : Nat) (ex : Bool) : List (CO × Bool) := hd ++ [(.cells cs t s ex, true)]
theorem next_i {j n : Nat} (hj : j < n) (hn : n ≤ 1000000) : i (wrapF .i64 ((j : Int) + 1)) = i (((j + 1 : Nat) : Int)) := by
  rw [wrapF_in (by omega) (by omega)]; rfl
theorem ltT {j n : Nat} (hj : j < n) : ltF (j : Int) (n : Int) = true := by rw [ltF_eq]; simp; omega
theorem ltN (n : Nat) : ltF (n : Int) (n : Int) = false := by rw [ltF_eq]; simp
theorem inT {j n : Nat} (hj : j < n) : (leF 0 (j : Int) && (ltF (j : Int) (n : Int) && decide (n ≤ n))) = true := by
  rw [ltT hj, leF_eq]; simp
theorem flatP : powers.all Ex.flat = true := by kernel_rfl
theorem flat_dd {cs : List Value} {t s : Nat} {ex : Bool} (hf : cs.all Ex.flat = true) : ∀ o, (o, true) ∈ hpA dd4 cs t s ex → FlatO o := by
  intro o ho
  simp [hpA, dd4] at ho
  subst ho
  exact fun x hx => List.all_eq_true.1 hf x hx
theorem tsL {G : Nat} : TSound Tryz.prog G CL.T := ts10
theorem lsL {G : Nat} : LSound Tryz.prog G CL.L := .none

/-! ### the reference's check of a record -/
def st50 (n j : Nat) : List (Nat × Value) := [(0, sl 4 0 n n), (3, i (j : Int))]
section
variable {cs : List Value} {t s : Nat} {ex : Bool} {n : Nat}
theorem rec50_round (hf : cs.all Ex.flat = true) (hl : Lds cs n) (hn : n ≤ 1000000) (j : Nat) (ro : Option Nat) (hj : j < n) (he : eJE cs j = 0) :
    ∃ tm1 H1, Sound Tryz.prog 5 (.code B50 ro (absT (tmL 22 (st50 n j))) (heapL ((hpA dd4 cs t s ex).map (·.1))) []) (.ex .normal tm1 H1 []) ∧ Restate 5 tm1 H1 (absT (tmL 22 (st50 n (j + 1)))) (heapL ((hpA dd4 cs t s ex).map (·.1))) := by
  have h := round_of (P := Tryz.prog) (G := 5) (C := CL) (n := 30) (f := Fn.ref03_CheckRecord) (b := B50) (ro := ro) (tm := tmL 22 (st50 n j)) (H := heapL ((hpA dd4 cs t s ex).map (·.1))) (df := []) (df1 := []) (k := 5) (N := 22) (len := 5) (x := .normal) (List.range 5) [(0, sl 4 0 n n), (3, i (wrapF .i64 ((j : Int) + 1)))] (hpA dd4 cs t s ex) [true, true, true, false]
    [ltF j n, (leF 0 (j : Int) && (ltF j n && decide (n ≤ n))), areCells k3 cs (0 + j * 3), !eqF (eJE cs j) 0] tsL lsL (by kernel_rfl) (by kernel_rfl) (by rw [inT hj, ltT hj, hl j hj, he]; rfl) (by kernel_rfl) (flat_dd hf)
  rw [next_i hj hn] at h
  exact h
theorem rec50_ret (hf : cs.all Ex.flat = true) (hl : Lds cs n) (j : Nat) (ro : Option Nat) (hj : j < n) (he : eJE cs j ≠ 0) :
    ∃ tm1 H1, Sound Tryz.prog 5 (.code B50 ro (absT (tmL 22 (st50 n j))) (heapL ((hpA dd4 cs t s ex).map (·.1))) []) (.ex .ret tm1 H1 []) ∧ Restate 5 tm1 H1 (absT (tmL 22 [(2, i (eJE cs j))])) (heapL ((hpA dd4 cs t s ex).map (·.1))) :=
  round_of (P := Tryz.prog) (G := 5) (C := CL) (n := 30) (f := Fn.ref03_CheckRecord) (b := B50) (ro := ro) (tm := tmL 22 (st50 n j)) (H := heapL ((hpA dd4 cs t s ex).map (·.1))) (df := []) (df1 := []) (k := 5) (N := 22) (len := 5) (x := .ret) (List.range 5) [(2, i (eJE cs j))] (hpA dd4 cs t s ex) [true, true, true, true]
    [ltF j n, (leF 0 (j : Int) && (ltF j n && decide (n ≤ n))), areCells k3 cs (0 + j * 3), !eqF (eJE cs j) 0] tsL lsL (by kernel_rfl) (by kernel_rfl) (by rw [inT hj, ltT hj, hl j hj, eqF_d, decide_eq_false he]; rfl) (by kernel_rfl) (flat_dd hf)
theorem rec50_end (hf : cs.all Ex.flat = true) (ro : Option Nat) :
    ∃ tm1 H1, Sound Tryz.prog 5 (.code B50 ro (absT (tmL 22 (st50 n n))) (heapL ((hpA dd4 cs t s ex).map (·.1))) []) (.ex (.exit 0) tm1 H1 []) ∧ Restate 5 tm1 H1 (absT (tmL 22 [])) (heapL ((hpA dd4 cs t s ex).map (·.1))) :=
  round_of (P := Tryz.prog) (G := 5) (C := CL) (n := 30) (f := Fn.ref03_CheckRecord) (b := B50) (ro := ro) (tm := tmL 22 (st50 n n)) (H := heapL ((hpA dd4 cs t s ex).map (·.1))) (df := []) (df1 := []) (k := 5) (N := 22) (len := 5) (x := .exit 0) (List.range 5) [] (hpA dd4 cs t s ex) [false]
    [ltF n n] tsL lsL (by kernel_rfl) (by kernel_rfl) (by rw [ltN]; rfl) (by kernel_rfl) (flat_dd hf)
/-- two ends of a loop -/
def two_ends (e : Int) (x : CX) (tmF tmR : TM) (H : CH) : Out QRes := .br (decide (e = 0)) (.leaf (.ex x tmF H [])) (.leaf (.ex .ret tmR H []))
theorem two_ends_sel {e : Int} {x : CX} {tmF tmR : TM} {H : CH} {r : QRes} {p : Res → Prop} (h : (two_ends e x tmF tmR H).sel = some r) (h1 : e = 0 → p (.ex x (absT tmF) H [])) (h2 : e ≠ 0 → p (.ex .ret (absT tmR) H [])) : p r.abs := by
  unfold two_ends at h
  have h' : cond (decide (e = 0)) (some (QRes.ex x tmF H [])) (some (QRes.ex .ret tmR H [])) = some r := h
  by_cases he : e = 0
  · rw [decide_eq_true he] at h'
    cases h'
    exact h1 he
  · rw [decide_eq_false he] at h'
    cases h'
    exact h2 he
variable (cs t s ex n) in
noncomputable def L50 : LTab := loopE noL Fn.ref03_CheckRecord 4 22 5 B50 (st50 n 0) (hpA dd4 cs t s ex) (two_ends (firstF (eJE cs) n 0) (.exit 0) (tmL 22 []) (tmL 22 [(2, i (firstF (eJE cs) n 0))]) (heapL ((hpA dd4 cs t s ex).map (·.1))))
theorem ls50 (hf : cs.all Ex.flat = true) (hl : Lds cs n) (hn : n ≤ 1000000) : LSound Tryz.prog 5 (L50 cs t s ex n) := by
  refine LSound.loop .none (by kernel_rfl) (flat_dd hf) fun r hr ro tm0 H0 hk hst => ?_
  obtain ⟨g1, g2⟩ := first_loop (P := Tryz.prog) (G := 5) (b := B50) (N := 22) (k := 5) (st := st50 n) (hp := hpA dd4 cs t s ex) (lF := []) (lR := fun e => [(2, i e)]) (x := .exit 0) n (eJE cs) (fun h => by cases h)
    (fun j ro hj he => rec50_round hf hl hn j ro hj he) (fun j ro hj he => rec50_ret hf hl j ro hj he) (rec50_end hf) ro hk (Nat.le_refl _) hst
  exact two_ends_sel (p := fun r => Sound Tryz.prog 5 (.code (.loop B50) ro tm0 H0 []) r) hr g1 g2
def recE (cs : List Value) (n : Nat) : Int := if (400 : Int) < n then 5 else firstF (eJE cs) n 0
theorem rec50_small (hf : cs.all Ex.flat = true) (hl : Lds cs n) (hn : n ≤ 1000000) :
    ∃ H', Sound Tryz.prog 5 (.call Fn.ref03_CheckRecord ⟨[sl 4 0 n n]⟩ (small1 (.cells cs t s ex))) (.val (i (recE cs n)) H') := by
  let C : Cfg := ⟨T10, spL', syL, L50 cs t s ex n⟩
  obtain ⟨H', hs⟩ := Out.vals_sel (o := execO Tryz.prog 5 C 30 (.call Fn.ref03_CheckRecord ⟨[sl 4 0 n n]⟩ (small1 (.cells cs t s ex)))) (v := i (recE cs n)) (by kernel_rfl) (by
    rw [show (execO Tryz.prog 5 C 30 (.call Fn.ref03_CheckRecord ⟨[sl 4 0 n n]⟩ (small1 (.cells cs t s ex)))).vals = .br (ltF 400 n) (.leaf (i 5)) (.br (decide (firstF (eJE cs) n 0 = 0)) (.leaf (i 0)) (.leaf (i (firstF (eJE cs) n 0)))) from by kernel_rfl]
    unfold recE
    by_cases h4 : (400 : Int) < n
    · simp [VT.sel, ltF_eq, h4]
    · by_cases h : firstF (eJE cs) n 0 = 0 <;> simp [VT.sel, ltF_eq, h4, h])
  exact ⟨H', execO_sound (C := C) ts10 (ls50 hf hl hn) 30 _ _ hs⟩
end
end Go.Proofs.YtbocpikgochioaaGreatDoor.Ways
namespace Go.Proofs.YtbocpikgochioaaGreatDoor.Ways
open Go Go.Ex
/-! ### check.First, for every list -/
def eIE (es : List Value) (j : Nat) : Int := intO es[0 + j * 1]?
def st66 (n c j : Nat) : List (Nat × Value) := [(5, sl 4 0 n c), (6, i (n : Int)), (7, i (j : Int))]
def OkI (es : List Value) (n c : Nat) : Prop := es.all Ex.flat = true ∧ (∀ j, j < n → isCellB (.i .i64) es[0 + j * 1]? = true) ∧ n ≤ c ∧ n ≤ 1000000
section
variable {cs : List Value} {t s : Nat} {ex : Bool} {n c : Nat}
theorem inTc {j : Nat} (hj : j < n) (hc : n ≤ c) : (leF 0 (j : Int) && (ltF (j : Int) (n : Int) && decide (n ≤ c))) = true := by
  rw [ltT hj, leF_eq]; simp [hc]
theorem f66_round (h : OkI cs n c) (j : Nat) (ro : Option Nat) (hj : j < n) (he : eIE cs j = 0) :
    ∃ tm1 H1, Sound Tryz.prog 5 (.code B66 ro (absT (tmL 15 (st66 n c j))) (heapL ((hpA dd4 cs t s ex).map (·.1))) []) (.ex .normal tm1 H1 []) ∧ Restate 5 tm1 H1 (absT (tmL 15 (st66 n c (j + 1)))) (heapL ((hpA dd4 cs t s ex).map (·.1))) := by
  have h := round_of (P := Tryz.prog) (G := 5) (C := CL) (n := 30) (f := Fn.check_First) (b := B66) (ro := ro) (tm := tmL 15 (st66 n c j)) (H := heapL ((hpA dd4 cs t s ex).map (·.1))) (df := []) (df1 := []) (k := 5) (N := 15) (len := 5) (x := .normal) (List.range 5) [(5, sl 4 0 n c), (6, i (n : Int)), (7, i (wrapF .i64 ((j : Int) + 1)))] (hpA dd4 cs t s ex) [true, true, true, false]
    [ltF j n, (leF 0 (j : Int) && (ltF j n && decide (n ≤ c))), isCellB (.i .i64) cs[0 + j * 1]?, !eqF (eIE cs j) 0] tsL lsL (by kernel_rfl) (by kernel_rfl) (by rw [inTc hj h.2.2.1, ltT hj, h.2.1 j hj, he]; rfl) (by kernel_rfl) (flat_dd h.1)
  rw [next_i hj ‹OkI cs n c›.2.2.2] at h
  exact h
theorem f66_ret (h : OkI cs n c) (j : Nat) (ro : Option Nat) (hj : j < n) (he : eIE cs j ≠ 0) :
    ∃ tm1 H1, Sound Tryz.prog 5 (.code B66 ro (absT (tmL 15 (st66 n c j))) (heapL ((hpA dd4 cs t s ex).map (·.1))) []) (.ex .ret tm1 H1 []) ∧ Restate 5 tm1 H1 (absT (tmL 15 [(2, i (eIE cs j))])) (heapL ((hpA dd4 cs t s ex).map (·.1))) :=
  round_of (P := Tryz.prog) (G := 5) (C := CL) (n := 30) (f := Fn.check_First) (b := B66) (ro := ro) (tm := tmL 15 (st66 n c j)) (H := heapL ((hpA dd4 cs t s ex).map (·.1))) (df := []) (df1 := []) (k := 5) (N := 15) (len := 5) (x := .ret) (List.range 5) [(2, i (eIE cs j))] (hpA dd4 cs t s ex) [true, true, true, true]
    [ltF j n, (leF 0 (j : Int) && (ltF j n && decide (n ≤ c))), isCellB (.i .i64) cs[0 + j * 1]?, !eqF (eIE cs j) 0] tsL lsL (by kernel_rfl) (by kernel_rfl) (by rw [inTc hj h.2.2.1, ltT hj, h.2.1 j hj, eqF_d, decide_eq_false he]; rfl) (by kernel_rfl) (flat_dd h.1)
theorem f66_end (hf : cs.all Ex.flat = true) (ro : Option Nat) :
    ∃ tm1 H1, Sound Tryz.prog 5 (.code B66 ro (absT (tmL 15 (st66 n c n))) (heapL ((hpA dd4 cs t s ex).map (·.1))) []) (.ex (.exit 0) tm1 H1 []) ∧ Restate 5 tm1 H1 (absT (tmL 15 [])) (heapL ((hpA dd4 cs t s ex).map (·.1))) :=
  round_of (P := Tryz.prog) (G := 5) (C := CL) (n := 30) (f := Fn.check_First) (b := B66) (ro := ro) (tm := tmL 15 (st66 n c n)) (H := heapL ((hpA dd4 cs t s ex).map (·.1))) (df := []) (df1 := []) (k := 5) (N := 15) (len := 5) (x := .exit 0) (List.range 5) [] (hpA dd4 cs t s ex) [false]
    [ltF n n] tsL lsL (by kernel_rfl) (by kernel_rfl) (by rw [ltN]; rfl) (by kernel_rfl) (flat_dd hf)
variable (cs t s ex n c) in
noncomputable def L66 : LTab := loopE noL Fn.check_First 2 15 5 B66 (st66 n c 0) (hpA dd4 cs t s ex) (two_ends (firstF (eIE cs) n 0) (.exit 0) (tmL 15 []) (tmL 15 [(2, i (firstF (eIE cs) n 0))]) (heapL ((hpA dd4 cs t s ex).map (·.1))))
theorem ls66 (h : OkI cs n c) : LSound Tryz.prog 5 (L66 cs t s ex n c) := by
  refine LSound.loop .none (by kernel_rfl) (flat_dd h.1) fun r hr ro tm0 H0 hk hst => ?_
  obtain ⟨g1, g2⟩ := first_loop (P := Tryz.prog) (G := 5) (b := B66) (N := 15) (k := 5) (st := st66 n c) (hp := hpA dd4 cs t s ex) (lF := []) (lR := fun e => [(2, i e)]) (x := .exit 0) n (eIE cs) (fun h => by cases h)
    (fun j ro hj he => f66_round h j ro hj he) (fun j ro hj he => f66_ret h j ro hj he) (f66_end h.1) ro hk (Nat.le_refl _) hst
  exact two_ends_sel (p := fun r => Sound Tryz.prog 5 (.code (.loop B66) ro tm0 H0 []) r) hr g1 g2
theorem f66_small (h : OkI cs n c) :
    ∃ H', Sound Tryz.prog 5 (.call Fn.check_First ⟨[sl 4 0 n c]⟩ (small1 (.cells cs t s ex))) (.val (i (firstF (eIE cs) n 0)) H') := by
  let C : Cfg := ⟨T10, spL', syL, L66 cs t s ex n c⟩
  obtain ⟨H', hs⟩ := Out.vals_sel (o := execO Tryz.prog 5 C 30 (.call Fn.check_First ⟨[sl 4 0 n c]⟩ (small1 (.cells cs t s ex)))) (v := i (firstF (eIE cs) n 0)) (by kernel_rfl) (by
    rw [show (execO Tryz.prog 5 C 30 (.call Fn.check_First ⟨[sl 4 0 n c]⟩ (small1 (.cells cs t s ex)))).vals = .br (decide (firstF (eIE cs) n 0 = 0)) (.leaf (i 0)) (.leaf (i (firstF (eIE cs) n 0))) from by kernel_rfl]
    by_cases h : firstF (eIE cs) n 0 = 0 <;> simp [VT.sel, h])
  exact ⟨H', execO_sound (C := C) ts10 (ls66 h) 30 _ _ hs⟩
end

/-! ### list.Changed, of the checks -/
def st124 (n j : Nat) : List (Nat × Value) := [(1, fn Fn.rotor_checkLoads), (5, sl 5 0 n n), (11, sl 4 0 n n), (12, i (n : Int)), (13, i (j : Int))]
def chE (cs : List Value) (n : Nat) : Nat → List Value
  | 0 => (zeroRow #[i 0] (n * 1)).toList
  | j + 1 => (chE cs n j).set (0 + j * 1) (i (eJE cs j))
theorem ch_len (cs : List Value) (n : Nat) : ∀ j, (chE cs n j).length = n
  | 0 => by unfold chE zeroRow; simp
  | j + 1 => by unfold chE; rw [List.length_set]; exact ch_len cs n j
theorem ch_get (cs : List Value) (n : Nat) : ∀ j k, j ≤ n → k < n → (chE cs n j)[k]? = some (if k < j then i (eJE cs k) else i 0)
  | 0, k, _, hk => by
    unfold chE zeroRow
    rw [if_neg (by omega)]
    simp [hk, Nat.mod_one]
  | j + 1, k, hj, hk => by
    unfold chE
    rw [List.getElem?_set, ch_len cs n j]
    by_cases hjk : j = k
    · subst hjk
      rw [if_pos (by omega), if_pos (by omega), if_pos (by omega)]
    · rw [if_neg (by omega), ch_get cs n j k (by omega) hk]
      by_cases h : k < j
      · rw [if_pos h, if_pos (by omega)]
      · rw [if_neg h, if_neg (by omega)]
theorem ch_flat (cs : List Value) (n j : Nat) (hj : j ≤ n) : (chE cs n j).all Ex.flat = true := by
  refine List.all_eq_true.2 fun x hx => ?_
  obtain ⟨k, hk⟩ := List.getElem?_of_mem hx
  have hkl := (List.getElem?_eq_some_iff.1 hk).1
  rw [ch_len] at hkl
  rw [ch_get cs n j k hj hkl] at hk
  have := Option.some.inj hk
  rw [← this]
  split <;> rfl
def hp124 (cs : List Value) (t s : Nat) (ex : Bool) (n j : Nat) : List (CO × Bool) := hpA dd4 cs t s ex ++ [(.cells (chE cs n j) 36 1 true, true)]
section
variable {cs : List Value} {t s : Nat} {ex : Bool} {n : Nat}
theorem flat124 {j : Nat} (hf : cs.all Ex.flat = true) (hj : j ≤ n) : ∀ o, (o, true) ∈ hp124 cs t s ex n j → FlatO o := by
  intro o ho
  unfold hp124 at ho
  rcases List.mem_append.1 ho with ho | ho
  · exact flat_dd hf o ho
  · simp at ho
    subst ho
    exact fun x hx => List.all_eq_true.1 (ch_flat cs n j hj) x hx
theorem c124_round (hf : cs.all Ex.flat = true) (hl : Lds cs n) (hn : n ≤ 1000000) (j : Nat) (ro : Option Nat) (hj : j < n) :
    ∃ tm1 H1, Sound Tryz.prog 5 (.code B124 ro (absT (tmL 26 (st124 n j))) (heapL ((hp124 cs t s ex n j).map (·.1))) []) (.ex .normal tm1 H1 []) ∧ Restate 6 tm1 H1 (absT (tmL 26 (st124 n (j + 1)))) (heapL ((hp124 cs t s ex n (j + 1)).map (·.1))) := by
  have h := round_of (P := Tryz.prog) (G := 5) (C := CL) (n := 30) (f := Fn.list_Changed_3_int_api_Errno) (b := B124) (ro := ro) (tm := tmL 26 (st124 n j)) (H := heapL ((hp124 cs t s ex n j).map (·.1))) (df := []) (df1 := []) (k := 6) (N := 26) (len := 7) (x := .normal) (List.range 6) [(1, fn Fn.rotor_checkLoads), (5, sl 5 0 n n), (11, sl 4 0 n n), (12, i (n : Int)), (13, i (wrapF .i64 ((j : Int) + 1)))] (hp124 cs t s ex n (j + 1)) [true, true, true, true, true]
    [ltF j n, (leF 0 (j : Int) && (ltF j n && decide (n ≤ n))), areCells k3 cs (0 + j * 3), (leF 0 (j : Int) && (ltF j n && decide (n ≤ n))), decide (0 + j * 1 < (chE cs n j).length) && true] tsL lsL (by kernel_rfl) (by kernel_rfl) (by rw [inT hj, ltT hj, hl j hj, ch_len, decide_eq_true (by omega)]; rfl) (by kernel_rfl) (flat124 hf (by omega))
  rw [next_i hj hn] at h
  exact h
theorem c124_end (hf : cs.all Ex.flat = true) (ro : Option Nat) :
    ∃ tm1 H1, Sound Tryz.prog 5 (.code B124 ro (absT (tmL 26 (st124 n n))) (heapL ((hp124 cs t s ex n n).map (·.1))) []) (.ex (.exit 0) tm1 H1 []) ∧ Restate 6 tm1 H1 (absT (tmL 26 [(5, sl 5 0 n n)])) (heapL ((hp124 cs t s ex n n).map (·.1))) :=
  round_of (P := Tryz.prog) (G := 5) (C := CL) (n := 30) (f := Fn.list_Changed_3_int_api_Errno) (b := B124) (ro := ro) (tm := tmL 26 (st124 n n)) (H := heapL ((hp124 cs t s ex n n).map (·.1))) (df := []) (df1 := []) (k := 6) (N := 26) (len := 6) (x := .exit 0) (List.range 6) [(5, sl 5 0 n n)] (hp124 cs t s ex n n) [false]
    [ltF n n] tsL lsL (by kernel_rfl) (by kernel_rfl) (by rw [ltN]; rfl) (by kernel_rfl) (flat124 hf (Nat.le_refl _))
variable (cs t s ex n) in
noncomputable def L124 : LTab := loopE noL Fn.list_Changed_3_int_api_Errno 3 26 6 B124 (st124 n 0) (hp124 cs t s ex n 0) (.leaf (.ex (.exit 0) (tmL 26 [(5, sl 5 0 n n)]) (heapL ((hp124 cs t s ex n n).map (·.1))) []))
theorem ls124 (hf : cs.all Ex.flat = true) (hl : Lds cs n) (hn : n ≤ 1000000) : LSound Tryz.prog 5 (L124 cs t s ex n) := by
  refine LSound.loop .none (by kernel_rfl) (flat124 hf (Nat.zero_le _)) fun r hr ro tm0 H0 hk hst => ?_
  cases hr
  exact count_loop (P := Tryz.prog) (G := 5) (b := B124) (N := 26) (k := 6) (st := st124 n) (hp := hp124 cs t s ex n) (lF := [(5, sl 5 0 n n)]) (x := .exit 0) n (fun h => by cases h)
    (fun j ro hj => c124_round hf hl hn j ro hj) (c124_end hf) ro hk (by omega) hst
noncomputable def T11 : Tb := ext T10 Fn.check_First (lstE OkI (fun cs n => i (firstF (eIE cs) n 0)) [] Hp.nil)
theorem ts11 {G : Nat} : TSound Tryz.prog G T11 := by
  refine ts10.ext (lst_ok (fun cs n c h => h.1) (fun _ _ => rfl) fun cs n c t s ex h => ?_)
  exact f66_small h
theorem ch_first (cs : List Value) (n : Nat) : firstF (eIE (chE cs n n)) n 0 = firstF (eJE cs) n 0 := by
  refine firstF_congr n 0 fun k _ hk => ?_
  unfold eIE
  rw [show 0 + k * 1 = k from by omega, ch_get cs n n k (Nat.le_refl _) (by omega), if_pos (by omega)]
  rfl
theorem ch_ok (cs : List Value) {n : Nat} (hn : n ≤ 1000000) : OkI (chE cs n n) n n := by
  refine ⟨ch_flat cs n n (Nat.le_refl _), fun j hj => ?_, Nat.le_refl _, hn⟩
  rw [show 0 + j * 1 = j from by omega, ch_get cs n n j (Nat.le_refl _) hj, if_pos hj]
  rfl
theorem rec116_small (hf : cs.all Ex.flat = true) (hl : Lds cs n) (hn : n ≤ 1000000) :
    ∃ H', Sound Tryz.prog 5 (.call Fn.rotor_checkRecord ⟨[sl 4 0 n n]⟩ (small1 (.cells cs t s ex))) (.val (i (recE cs n)) H') := by
  let C : Cfg := ⟨T11, spL', syL, L124 cs t s ex n⟩
  obtain ⟨H', hs⟩ := Out.vals_sel (o := execO Tryz.prog 5 C 40 (.call Fn.rotor_checkRecord ⟨[sl 4 0 n n]⟩ (small1 (.cells cs t s ex)))) (v := i (recE cs n)) (by kernel_rfl) (by
    rw [show (execO Tryz.prog 5 C 40 (.call Fn.rotor_checkRecord ⟨[sl 4 0 n n]⟩ (small1 (.cells cs t s ex)))).vals = .br (ltF 400 n) (.leaf (i 5)) (.br (leF 0 n && (leF n n && leF n 1048576)) (.br (tru (OkI (chE cs n n) n n)) (.leaf (i (firstF (eIE (chE cs n n)) n 0))) .fail) .fail) from by kernel_rfl]
    rw [tru_iff.2 (ch_ok cs hn), ch_first]
    unfold recE
    by_cases h4 : (400 : Int) < n
    · simp [VT.sel, ltF_eq, h4]
    · have h1 : (leF 0 (n : Int) && (leF (n : Int) n && leF (n : Int) 1048576)) = true := by simp [leF_eq]; omega
      rw [h1]
      simp [VT.sel, ltF_eq, h4])
  exact ⟨H', execO_sound (C := C) ts11 (ls124 hf hl hn) 40 _ _ hs⟩
end
def OkR (cs : List Value) (n c : Nat) : Prop := cs.all Ex.flat = true ∧ Lds cs n ∧ n ≤ 1000000 ∧ c = n
noncomputable def T12 : Tb := ext (ext T10 Fn.rotor_checkRecord (lstE OkR (fun cs n => i (recE cs n)) [] Hp.nil)) Fn.ref03_CheckRecord (lstE OkR (fun cs n => i (recE cs n)) [] Hp.nil)
theorem ts12 {G : Nat} : TSound Tryz.prog G T12 := by
  refine (ts10.ext (lst_ok (fun cs n c h => h.1) (fun _ _ => rfl) fun cs n c t s ex h => ?_)).ext (lst_ok (fun cs n c h => h.1) (fun _ _ => rfl) fun cs n c t s ex h => ?_)
  · obtain ⟨h1, h2, h3, rfl⟩ := h
    exact rec116_small h1 h2 h3
  · obtain ⟨h1, h2, h3, rfl⟩ := h
    exact rec50_small h1 h2 h3
end Go.Proofs.YtbocpikgochioaaGreatDoor.Ways
