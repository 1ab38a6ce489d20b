import Derived.Test.YthfmffbcbopanaaDoorRp2
import Derived.IntWalk
namespace Go.Proofs.YthfmffbcbopanaaDoor.Ways
open Go Go.Ex
theorem wrapF_in {n : Int} (h1 : -9223372036854775808 ≤ n) (h2 : n ≤ 9223372036854775807) : wrapF .i64 n = n := by
  rw [wrapF_eq]; exact IntWalk.i64_in n ⟨h1, h2⟩
theorem eqF_d (a b : Int) : eqF a b = decide (a = b) := by
  rw [eqF_eq, Bool.eq_iff_iff]; simp
theorem ts1 : TSound Tryd.prog 4 T1 := by
  refine ((TSound.none.pure hd_vars fun args v h => ?_).pure hd_vars fun args v h => ?_)
  · unfold rangeS at h
    split at h
    · cases h; exact range_pure _ _ _
    · cases h
  · unfold rangeS at h
    split at h
    · cases h
      rename_i n lo hi
      refine pure_run (C := ⟨noT, sp_⟩) (G := 4) 20 (.br (ltF n lo) (.leaf (i 3)) (.br (ltF hi n) (.leaf (i 3)) (.leaf (i 0)))) .none hd_len rfl (by kernel_rfl) (by kernel_rfl) ?_
      unfold rangeE
      by_cases h1 : n < lo <;> by_cases h2 : hi < n <;> simp [VT.sel, ltF_eq, h1, h2]
    · cases h
noncomputable def C1 : Cfg := ⟨T1, sp_⟩
theorem num_pure (n : Int) : Pure Tryd.prog Hd 37 [i n] (i (numE n)) :=
  pure_run (C := C1) (G := 4) 20 (.leaf (i (rangeE n (-999999999) 999999999))) ts1 hd_len rfl (by kernel_rfl) (by kernel_rfl) rfl
def ways2 (x y : Int) (v : Int → Value) : VT := .br (!eqF x 0) (.leaf (v x)) (.br (!eqF y 0) (.leaf (v y)) (.leaf (v 0)))
theorem ways2_sel (x y : Int) (v : Int → Value) : (ways2 x y v).sel = some (v (firstE x y)) := by
  unfold ways2 firstE
  by_cases h1 : x = 0 <;> by_cases h2 : y = 0 <;> simp [VT.sel, eqF_d, h1, h2]
theorem pair_pure (a b : Int) : Pure Tryd.prog Hd 35 [ag [i a, i b]] (i (pairE a b)) :=
  pure_run (C := C1) (G := 4) 30 (ways2 (rangeE a (-999999999) 999999999) (rangeE b (-999999999) 999999999) i) ts1 hd_len rfl (by kernel_rfl) (by kernel_rfl) (ways2_sel _ _ _)
theorem rpair_pure (a b : Int) : Pure Tryd.prog Hd 10 [ag [i a, i b]] (i (pairE a b)) :=
  pure_run (C := C1) (G := 4) 30 (ways2 (rangeE a (-999999999) 999999999) (rangeE b (-999999999) 999999999) i) ts1 hd_len rfl (by kernel_rfl) (by kernel_rfl) (ways2_sel _ _ _)
theorem ts2 : TSound Tryd.prog 4 T2 := by
  refine (((ts1.pure hd_vars fun args v h => ?_).pure hd_vars fun args v h => ?_).pure hd_vars fun args v h => ?_)
  · unfold numS at h
    split at h
    · cases h; exact num_pure _
    · cases h
  · unfold pairS at h
    split at h
    · cases h; exact pair_pure _ _
    · cases h
  · unfold pairS at h
    split at h
    · cases h; exact rpair_pure _ _
    · cases h

/-! ### products -/
def tAE (a b c d : Int) : Int := wrapF .i64 (wrapF .i64 (a * c) - wrapF .i64 (b * d))
def tBE (a b c d : Int) : Int := wrapF .i64 (wrapF .i64 (wrapF .i64 (a * d) + wrapF .i64 (b * c)) - wrapF .i64 (b * d))
def tmV (a b c d : Int) : Value := ag [i (tAE a b c d), i (tBE a b c d)]
def timesS : List Value → Option Value
  | [.agg ⟨[.int .i64 a, .int .i64 b]⟩, .agg ⟨[.int .i64 c, .int .i64 d]⟩] => some (tmV a b c d)
  | _ => none
noncomputable def C2 : Cfg := ⟨T2, sp_⟩
noncomputable def T3 : Tb := ext (ext T2 36 (pureE timesS [] Hd)) 13 (pureE timesS [] Hd)
theorem times_pure (a b c d : Int) : Pure Tryd.prog Hd 36 [ag [i a, i b], ag [i c, i d]] (tmV a b c d) :=
  pure_run (C := C2) (G := 4) 30 (.leaf (tmV a b c d)) ts2 hd_len rfl (by kernel_rfl) (by kernel_rfl) rfl
theorem rtimes_pure (a b c d : Int) : Pure Tryd.prog Hd 13 [ag [i a, i b], ag [i c, i d]] (tmV a b c d) :=
  pure_run (C := C2) (G := 4) 30 (.leaf (tmV a b c d)) ts2 hd_len rfl (by kernel_rfl) (by kernel_rfl) rfl
theorem ts3 : TSound Tryd.prog 4 T3 := by
  refine ((ts2.pure hd_vars fun args v h => ?_).pure hd_vars fun args v h => ?_)
  · unfold timesS at h
    split at h
    · cases h; exact times_pure _ _ _ _
    · cases h
  · unfold timesS at h
    split at h
    · cases h; exact rtimes_pure _ _ _ _
    · cases h
noncomputable def C3 : Cfg := ⟨T3, sp_⟩

/-! ### turns -/
def thirdsE (n : Int) : Int := (wrapF .i64 (n.tmod 3 + 3)).tmod 3
theorem thirds_cases (n : Int) : thirdsE n = 0 ∨ thirdsE n = 1 ∨ thirdsE n = 2 := by
  have h1 := Int.tmod_lt_of_pos n (by decide : (0 : Int) < 3)
  have h2 := Int.lt_tmod_of_pos n (by decide : (0 : Int) < 3)
  unfold thirdsE
  rw [wrapF_in (by omega) (by omega), Int.tmod_eq_emod_of_nonneg (by omega)]
  omega
def w3 (k : Int) (v : Value) (r1 r2 : VT) : VT := .br (decide (k = 0)) (.leaf v) (.br (decide (k = 1)) r1 (.br (decide (k = 2)) r2 .fail))
def by3E (n x y z : Int) : Int := if thirdsE n = 0 then x else if thirdsE n = 1 then y else z
def turnAE (a b n : Int) : Int := by3E n (tAE a b 1 0) (tAE a b 0 1) (tAE a b (-1) (-1))
def turnBE (a b n : Int) : Int := by3E n (tBE a b 1 0) (tBE a b 0 1) (tBE a b (-1) (-1))
def turnedV (a b n : Int) : Value := ag [i (turnAE a b n), i (turnBE a b n)]
theorem turned_pure (a b n : Int) : Pure Tryd.prog Hg 38 [ag [i a, i b], i n] (turnedV a b n) := by
  refine pure_run (C := C3) (G := 4) 30 (w3 ((wrapF .i64 (n.tmod 3 + 3)).tmod 3) (tmV a b 1 0) (.leaf (tmV a b 0 1)) (.leaf (tmV a b (-1) (-1)))) ts3 hg_len rfl (by kernel_rfl) (by kernel_rfl) ?_
  show (w3 (thirdsE n) _ _ _).sel = _
  unfold turnedV w3 turnAE turnBE by3E
  rcases thirds_cases n with h | h | h <;> simp [VT.sel, h, tmV]
def rA2 (a b : Int) : Int := tAE (tAE a b 0 1) (tBE a b 0 1) 0 1
def rB2 (a b : Int) : Int := tBE (tAE a b 0 1) (tBE a b 0 1) 0 1
def rturnAE (a b n : Int) : Int := by3E n a (tAE a b 0 1) (rA2 a b)
def rturnBE (a b n : Int) : Int := by3E n b (tBE a b 0 1) (rB2 a b)
def rturnedV (a b n : Int) : Value := ag [i (rturnAE a b n), i (rturnBE a b n)]
theorem rturned_pure (a b n : Int) : Pure Tryd.prog Hd 16 [ag [i a, i b], i n] (rturnedV a b n) := by
  let k := (wrapF .i64 (n.tmod 3 + 3)).tmod 3
  let v2 : Value := ag [i (rA2 a b), i (rB2 a b)]
  let s2 : VT := w3 k v2 (.leaf v2) (.leaf v2)
  let s1 : VT := w3 k (tmV a b 0 1) (.leaf (tmV a b 0 1)) s2
  refine pure_run (C := C3) (G := 4) 30 (w3 k (ag [i a, i b]) s1 s1) ts3 hd_len rfl (by kernel_rfl) (by kernel_rfl) ?_
  have hk : k = thirdsE n := rfl
  unfold rturnedV rturnAE rturnBE by3E
  simp only [s1, s2, hk]
  unfold w3
  rcases thirds_cases n with h | h | h <;> simp [VT.sel, h, v2, tmV]
end Go.Proofs.YthfmffbcbopanaaDoor.Ways
