import Derived.Test.YthfmffbcbopanaaDoorRp4
namespace Go.Proofs.YthfmffbcbopanaaDoor.Ways
open Go Go.Ex
def okE (e x : Int) : Int := if e = 0 then x else 0
def ways1 (x : Int) (err : Int → Value) (ok : Value) : VT := .br (!eqF x 0) (.leaf (err x)) (.leaf ok)
theorem ways1_sel (x : Int) (err : Int → Value) (ok : Value) : (ways1 x err ok).sel = some (if x = 0 then ok else err x) := by
  unfold ways1
  by_cases h1 : x = 0 <;> simp [VT.sel, eqF_d, h1]
def ways3 (x y : Int) (err : Int → Value) (ok : Value) : VT := .br (!eqF x 0) (ways1 x err ok) (.br (!eqF y 0) (ways1 y err ok) (ways1 0 err ok))
theorem ways3_sel (x y : Int) (err : Int → Value) (ok : Value) : (ways3 x y err ok).sel = some (if firstE x y = 0 then ok else err (firstE x y)) := by
  unfold ways3 firstE
  by_cases h1 : x = 0 <;> by_cases h2 : y = 0 <;> simp [VT.sel, ways1_sel, eqF_d, h1, h2]
def errP (e : Int) : Value := tp [ag [i 0, i 0], i e]
def resP (e x y : Int) : Value := tp [ag [i (okE e x), i (okE e y)], i e]
theorem resP_eq (e x y : Int) : (if e = 0 then tp [ag [i x, i y], i 0] else errP e) = resP e x y := by
  unfold resP errP okE
  by_cases h : e = 0 <;> simp [h]
def errN (e : Int) : Value := tp [i 0, i e]
def resN (e x : Int) : Value := tp [i (okE e x), i e]
theorem resN_eq (e x : Int) : (if e = 0 then tp [i x, i 0] else errN e) = resN e x := by
  unfold resN errN okE
  by_cases h : e = 0 <;> simp [h]
def twoE (a b c d : Int) : Int := firstE (pairE a b) (pairE c d)
def pnE (a b n : Int) : Int := firstE (pairE a b) (numE n)
def cAE (a b : Int) : Int := wrapF .i64 (a - b)
def cBE (b : Int) : Int := wrapF .i64 (0 - b)
def nE (a b : Int) : Int := wrapF .i64 (wrapF .i64 (wrapF .i64 (a * a) - wrapF .i64 (a * b)) + wrapF .i64 (b * b))
theorem Times_pure (a b c d : Int) : Pure Tryd.prog Hd 6 [ag [i a, i b], ag [i c, i d]] (resP (twoE a b c d) (tAE a b c d) (tBE a b c d)) := by
  refine pure_run (C := C4) (G := 4) 30 (ways3 (pairE a b) (pairE c d) errP (tp [ag [i (tAE a b c d), i (tBE a b c d)], i 0])) ts4 hd_len rfl (by kernel_rfl) (by kernel_rfl) ?_
  rw [ways3_sel, ← resP_eq]; rfl
theorem Conj_pure (a b : Int) : Pure Tryd.prog Hd 7 [ag [i a, i b]] (resP (pairE a b) (cAE a b) (cBE b)) := by
  refine pure_run (C := C4) (G := 4) 30 (ways1 (pairE a b) errP (tp [ag [i (wrapF .i64 (a - b)), i (IntKind.i64.wrap (0 - b))], i 0])) ts4 hd_len rfl (by kernel_rfl) (by kernel_rfl) ?_
  rw [ways1_sel, ← resP_eq]
  unfold cAE cBE
  rw [wrapF_eq .i64 (0 - b)]
theorem Norm_pure (a b : Int) : Pure Tryd.prog Hd 8 [ag [i a, i b]] (resN (pairE a b) (nE a b)) := by
  refine pure_run (C := C4) (G := 4) 30 (ways1 (pairE a b) errN (tp [i (nE a b), i 0])) ts4 hd_len rfl (by kernel_rfl) (by kernel_rfl) ?_
  rw [ways1_sel, ← resN_eq]
theorem Turn_pure (a b n : Int) : Pure Tryd.prog Hg 9 [ag [i a, i b], i n] (resP (pnE a b n) (turnAE a b n) (turnBE a b n)) := by
  refine pure_run (C := C4) (G := 4) 30 (ways3 (pairE a b) (numE n) errP (tp [ag [i (turnAE a b n), i (turnBE a b n)], i 0])) ts4 hg_len rfl (by kernel_rfl) (by kernel_rfl) ?_
  rw [ways3_sel, ← resP_eq]; rfl
theorem rconj_pure (a b : Int) : Pure Tryd.prog Hd 14 [ag [i a, i b]] (ag [i (cAE a b), i (cBE b)]) :=
  pure_run (C := C4) (G := 4) 30 (.leaf (ag [i (cAE a b), i (cBE b)])) ts4 hd_len rfl (by kernel_rfl) (by kernel_rfl) rfl
theorem rnorm_pure (a b : Int) : Pure Tryd.prog Hd 15 [ag [i a, i b]] (i (nE a b)) :=
  pure_run (C := C4) (G := 4) 30 (.leaf (i (nE a b))) ts4 hd_len rfl (by kernel_rfl) (by kernel_rfl) rfl
def likeE (a b c d e f : Int) : Bool := decide (c = d ∧ ((d ≠ 0 ∧ a = 0 ∧ b = 0) ∨ (d = 0 ∧ a = e ∧ b = f)))
def like1E (a c d e : Int) : Bool := decide (c = d ∧ ((d ≠ 0 ∧ a = 0) ∨ (d = 0 ∧ a = e)))
def lf (b : Bool) : VT := .leaf (b_ b)
def wayL (c d : Int) (p q : Bool) : VT :=
  .br (eqF c d) (.br (!eqF d 0) (.br p (lf true) (.br (eqF d 0) (.br q (lf true) (lf false)) (lf false))) (.br (eqF d 0) (.br q (lf true) (lf false)) (lf false))) (lf false)
theorem wayL_sel (c d : Int) (p q : Bool) : (wayL c d p q).sel = some (b_ (decide (c = d ∧ ((d ≠ 0 ∧ p = true) ∨ (d = 0 ∧ q = true))))) := by
  unfold wayL lf
  cases p <;> cases q <;> by_cases h1 : c = d <;> by_cases h2 : d = 0 <;> first | (simp [VT.sel, eqF_d, h1, h2]; done) | (subst h2; simp [VT.sel, eqF_d, h1])
theorem like_pure (a b c d e f : Int) : Pure Tryd.prog Hd 17 [ag [i a, i b], i c, i d, ag [i e, i f]] (b_ (likeE a b c d e f)) := by
  refine pure_run (C := C4) (G := 4) 30 (wayL c d (a == 0 && (b == 0 && true)) (a == e && (b == f && true))) ts4 hd_len rfl (by kernel_rfl) (by kernel_rfl) ?_
  rw [wayL_sel]; unfold likeE; simp
theorem like1_pure (a c d e : Int) : Pure Tryd.prog Hd 18 [i a, i c, i d, i e] (b_ (like1E a c d e)) := by
  refine pure_run (C := C4) (G := 4) 30 (wayL c d (eqF a 0) (eqF a e)) ts4 hd_len rfl (by kernel_rfl) (by kernel_rfl) ?_
  rw [wayL_sel]; unfold like1E; simp [eqF_d]
def TimesS : List Value → Option Value
  | [.agg ⟨[.int .i64 a, .int .i64 b]⟩, .agg ⟨[.int .i64 c, .int .i64 d]⟩] => some (resP (twoE a b c d) (tAE a b c d) (tBE a b c d))
  | _ => none
def ConjS : List Value → Option Value
  | [.agg ⟨[.int .i64 a, .int .i64 b]⟩] => some (resP (pairE a b) (cAE a b) (cBE b))
  | _ => none
def NormS : List Value → Option Value
  | [.agg ⟨[.int .i64 a, .int .i64 b]⟩] => some (resN (pairE a b) (nE a b))
  | _ => none
def TurnS : List Value → Option Value
  | [.agg ⟨[.int .i64 a, .int .i64 b]⟩, .int .i64 n] => some (resP (pnE a b n) (turnAE a b n) (turnBE a b n))
  | _ => none
def rconjS : List Value → Option Value
  | [.agg ⟨[.int .i64 a, .int .i64 b]⟩] => some (ag [i (cAE a b), i (cBE b)])
  | _ => none
def rnormS : List Value → Option Value
  | [.agg ⟨[.int .i64 a, .int .i64 b]⟩] => some (i (nE a b))
  | _ => none
def likeS : List Value → Option Value
  | [.agg ⟨[.int .i64 a, .int .i64 b]⟩, .int .i64 c, .int .i64 d, .agg ⟨[.int .i64 e, .int .i64 f]⟩] => some (b_ (likeE a b c d e f))
  | _ => none
def like1S : List Value → Option Value
  | [.int .i64 a, .int .i64 c, .int .i64 d, .int .i64 e] => some (b_ (like1E a c d e))
  | _ => none
noncomputable def T5 : Tb := ext (ext (ext (ext T4 6 (pureE TimesS [] Hd)) 7 (pureE ConjS [] Hd)) 8 (pureE NormS [] Hd)) 9 (pureE TurnS [0] Hg)
noncomputable def T6 : Tb := ext (ext (ext (ext T5 14 (pureE rconjS [] Hd)) 15 (pureE rnormS [] Hd)) 17 (pureE likeS [] Hd)) 18 (pureE like1S [] Hd)
theorem ts5 : TSound Tryd.prog 4 T5 := by
  refine ((((ts4.pure hd_vars fun args v h => ?_).pure hd_vars fun args v h => ?_).pure hd_vars fun args v h => ?_).pure hg_vars fun args v h => ?_)
  · unfold TimesS at h
    split at h
    · cases h; exact Times_pure _ _ _ _
    · cases h
  · unfold ConjS at h
    split at h
    · cases h; exact Conj_pure _ _
    · cases h
  · unfold NormS at h
    split at h
    · cases h; exact Norm_pure _ _
    · cases h
  · unfold TurnS at h
    split at h
    · cases h; exact Turn_pure _ _ _
    · cases h
theorem ts6 : TSound Tryd.prog 4 T6 := by
  refine ((((ts5.pure hd_vars fun args v h => ?_).pure hd_vars fun args v h => ?_).pure hd_vars fun args v h => ?_).pure hd_vars fun args v h => ?_)
  · unfold rconjS at h
    split at h
    · cases h; exact rconj_pure _ _
    · cases h
  · unfold rnormS at h
    split at h
    · cases h; exact rnorm_pure _ _
    · cases h
  · unfold likeS at h
    split at h
    · cases h; exact like_pure _ _ _ _ _ _
    · cases h
  · unfold like1S at h
    split at h
    · cases h; exact like1_pure _ _ _ _
    · cases h
end Go.Proofs.YthfmffbcbopanaaDoor.Ways
