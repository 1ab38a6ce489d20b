import Derived.Test.YthfmffbcbopanaaDoorRt3
namespace Go.Proofs.YthfmffbcbopanaaDoor.Ways
open Go Go.Ex
def splitS : List Value → Option Value
  | [.agg ⟨[.int .i64 x, .int .i64 y, .int .i64 z]⟩] => some (splitV x y z)
  | _ => none
noncomputable def T8 : Tb := ext T7' 40 (pureE splitS [0] Hg)
theorem ts8 {G : Nat} : TSound Tryd.prog G T8 := by
  refine ts7'.pure hg_vars fun args v h => ?_
  unfold splitS at h
  split at h
  · cases h; exact split_pure _ _ _
  · cases h
noncomputable def C8 : Cfg := ⟨T8, at_ [(20, 11), (21, 19), (21, 47), (21, 51), (21, 57), (42, 15)] .bool sp_, off_, noL⟩
def fst2 (x y : Int) (k : Int → VT) : VT := .br (!eqF x 0) (k x) (.br (!eqF y 0) (k y) (k 0))
theorem fst2_sel (x y : Int) (k : Int → VT) : (fst2 x y k).sel = (k (firstE x y)).sel := by
  unfold fst2 firstE
  by_cases h1 : x = 0 <;> by_cases h2 : y = 0 <;> simp [VT.sel, eqF_d, h1, h2]
/-- Split -/
def errS (e : Int) : Value := tp [i 0, ag [i 0, i 0], i e]
def SplitV (x y z : Int) : Value := tp [i (okE (inE x y z) (sE x y z)), ag [i (okE (inE x y z) (aE x y z)), i (okE (inE x y z) (bE x y z))], i (inE x y z)]
theorem Split_pure (x y z : Int) : Pure Tryd.prog Hg 20 [ar x y z] (SplitV x y z) := by
  refine pure_run (C := C8) (G := 4) 40 (ways1 (inE x y z) errS (tp [i (sE x y z), ag [i (aE x y z), i (bE x y z)], i 0])) ts8 .none (by decide) hg_len rfl (by kernel_rfl) (by kernel_rfl) ?_
  rw [ways1_sel]
  unfold SplitV errS okE
  by_cases h : inE x y z = 0 <;> simp [h]
/-- Merge -/
def thE (s a b : Int) : Int := IntKind.i64.wrap ((wrapF .i64 (wrapF .i64 (s - a) - b)).tdiv 3)
def mXE (s a b : Int) : Int := wrapF .i64 (thE s a b + a)
def mYE (s a b : Int) : Int := wrapF .i64 (thE s a b + b)
def confE (s a b : Int) : Int := if sE (mXE s a b) (mYE s a b) (thE s a b) ≠ s ∨ aE (mXE s a b) (mYE s a b) (thE s a b) ≠ a ∨ bE (mXE s a b) (mYE s a b) (thE s a b) ≠ b then 30 else inE (mXE s a b) (mYE s a b) (thE s a b)
def mErrE (s a b : Int) : Int := firstE (firstE (rangeE s (-3000000) 3000000) (pairE a b)) (confE s a b)
def errM (e : Int) : Value := tp [ar 0 0 0, i e]
def MergeV (s a b : Int) : Value := tp [ar (okE (mErrE s a b) (mXE s a b)) (okE (mErrE s a b) (mYE s a b)) (okE (mErrE s a b) (thE s a b)), i (mErrE s a b)]
def mTail (s a b : Int) : VT :=
  .br (!eqF (sE (mXE s a b) (mYE s a b) (thE s a b)) s) (.leaf (errM 30)) (.br (!(aE (mXE s a b) (mYE s a b) (thE s a b) == a && (bE (mXE s a b) (mYE s a b) (thE s a b) == b && true))) (.leaf (errM 30))
    (.br (!eqF (inE (mXE s a b) (mYE s a b) (thE s a b)) 0) (.leaf (errM (inE (mXE s a b) (mYE s a b) (thE s a b)))) (.leaf (tp [ar (mXE s a b) (mYE s a b) (thE s a b), i 0]))))
theorem beqI (a b : Int) : (a == b) = decide (a = b) := by
  rw [Bool.eq_iff_iff]; simp
theorem mTail_sel (s a b : Int) : (mTail s a b).sel = some (if confE s a b = 0 then tp [ar (mXE s a b) (mYE s a b) (thE s a b), i 0] else errM (confE s a b)) := by
  unfold mTail confE
  by_cases h1 : sE (mXE s a b) (mYE s a b) (thE s a b) = s
  · by_cases h2 : aE (mXE s a b) (mYE s a b) (thE s a b) = a
    · by_cases h3 : bE (mXE s a b) (mYE s a b) (thE s a b) = b
      · by_cases h4 : inE (mXE s a b) (mYE s a b) (thE s a b) = 0 <;> simp [VT.sel, eqF_d, h1, h2, h3, h4]
      · simp [VT.sel, eqF_d, beqI, h1, h2, h3]
    · simp [VT.sel, eqF_d, beqI, h1, h2]
  · simp [VT.sel, eqF_d, h1]
theorem Merge_pure (s a b : Int) : Pure Tryd.prog Hg 21 [i s, ag [i a, i b]] (MergeV s a b) := by
  refine pure_run (C := C8) (G := 4) 40 (fst2 (rangeE s (-3000000) 3000000) (pairE a b) fun e => .br (!eqF e 0) (.leaf (errM e)) (mTail s a b)) ts8 .none (by decide) hg_len rfl (by kernel_rfl) (by kernel_rfl) ?_
  rw [fst2_sel]
  generalize he : firstE (rangeE s (-3000000) 3000000) (pairE a b) = e
  unfold MergeV mErrE
  rw [he]
  by_cases h : e = 0
  · subst h
    have : (VT.br (!eqF 0 0) (.leaf (errM 0)) (mTail s a b)).sel = (mTail s a b).sel := rfl
    rw [this, mTail_sel]
    unfold firstE okE errM
    by_cases h2 : confE s a b = 0 <;> simp [h2]
  · unfold firstE okE errM
    simp [VT.sel, eqF_d, h]
/-- Rotating and Fixed, of three loads -/
def three (x0 y0 z0 x1 y1 z1 x2 y2 z2 : Int) : List Value := [i x0, i y0, i z0, i x1, i y1, i z1, i x2, i y2, i z2]
def err3E (e0 e1 e2 : Int) : Int := firstE e0 (firstE e1 e2)
def sum3E (u v w : Int) : Int := plE (plE (plE 0 u) v) w
def gG : List CO := [.cells powers 118 1 true, .dead, .dead, .dead]
def fst3 (x y z : Int) (k : Int → VT) : VT := .br (!eqF x 0) (k x) (.br (!eqF y 0) (k y) (.br (!eqF z 0) (k z) (k 0)))
theorem fst3_sel (x y z : Int) (k : Int → VT) : (fst3 x y z k).sel = (k (err3E x y z)).sel := by
  unfold fst3 err3E firstE
  by_cases h1 : x = 0 <;> by_cases h2 : y = 0 <;> by_cases h3 : z = 0 <;> simp [VT.sel, eqF_d, h1, h2, h3]
end Go.Proofs.YthfmffbcbopanaaDoor.Ways
