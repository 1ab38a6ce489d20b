import Derived.Test.YtbocpikgochioaaDoorEngMem
import Derived.Test.YtbocpikgochioaaDoorFz
import Derived.WalkKit
import Derived.IntWalk
namespace Go.Proofs.YtbocpikgochioaaDoor.Ways
open Go Go.Ex
def i (n : Int) : Value := .int .i64 n
noncomputable def Hd : CH := (((Hp.nil.push .dead).push .dead).push .dead).push .dead
theorem hd_dead : AllDead Hd := by
  intro b o h
  have hb : b < 4 := Hp.lt h
  match b, hb with
  | 0, _ => have : o = .dead := Option.some.inj (h.symm.trans (rfl : Hd[0]? = some .dead)); rw [this]; rfl
  | 1, _ => have : o = .dead := Option.some.inj (h.symm.trans (rfl : Hd[1]? = some .dead)); rw [this]; rfl
  | 2, _ => have : o = .dead := Option.some.inj (h.symm.trans (rfl : Hd[2]? = some .dead)); rw [this]; rfl
  | 3, _ => have : o = .dead := Option.some.inj (h.symm.trans (rfl : Hd[3]? = some .dead)); rw [this]; rfl
theorem hd_len : Hd.length = 4 := rfl
theorem hd_vars : Vars Hd [] := .of_dead hd_len hd_dead

/-- check.Range -/
def rangeE (n lo hi : Int) : Int := if n < lo ∨ hi < n then 3 else 0
def at_ (l : List (Nat × Nat)) (s : Split) (rest : Nat → Nat → Split) (f d : Nat) : Split := cond (l.any fun x => Nat.beq x.1 f && Nat.beq x.2 d) s (rest f d)
def no_ (_ _ : Nat) : Split := .no
def off_ (_ _ : Nat) : Bool := false
def C0 : Cfg := ⟨noT, at_ [(Fn.check_Range, 9), (Fn.check_Range, 13)] .bool no_, off_, noL⟩
theorem range_pure (n lo hi : Int) : Pure Tryd.prog Hd Fn.check_Range [i n, i lo, i hi] (i (rangeE n lo hi)) := by
  refine pure_run (C := C0) (G := 4) 20 (.br (ltF n lo) (.leaf (i 3)) (.br (ltF hi n) (.leaf (i 3)) (.leaf (i 0)))) .none .none (by decide) hd_len rfl (by kernel_rfl) (by kernel_rfl) ?_
  unfold rangeE
  by_cases h1 : n < lo <;> by_cases h2 : hi < n <;> simp [VT.sel, ltF_eq, h1, h2]
def ag (l : List Value) : Value := .agg ⟨l⟩
def tp (l : List Value) : Value := .tuple ⟨l⟩
def b_ (b : Bool) : Value := .bool b
/-- the marks of the ways -/
def sp_ : Nat → Nat → Split := at_ [(Fn.check_Range, 9), (Fn.check_Range, 13), (Fn.ref01_CheckRange, 9), (Fn.ref01_CheckRange, 13), (Fn.check_First, 12), (Fn.ref01_First, 14), (Fn.law03_pair, 11), (Fn.law03_pair, 14), (Fn.law03_pair, 18), (Fn.law03_pair, 22), (Fn.law03_pair, 26), (Fn.law03_number, 11), (Fn.law03_number, 14), (Fn.law03_number, 17), (Fn.law03_number, 21), (Fn.law03_number, 25)] .bool (at_ [(Fn.rotor_Pair_turned, 9), (Fn.ref03_Turn, 10)] (.ints [0, 1, 2]) no_)
def powers : List Value := [i 1, i 0, i 0, i 1, i (-1), i (-1)]
noncomputable def Hg : CH := (((Hp.nil.push (.cells powers 149 1 true)).push .dead).push .dead).push .dead
theorem hg_len : Hg.length = 4 := rfl
theorem hg_get {b : Nat} {o : CO} (h : Hg[b]? = some o) (ha : o.alive = true) : b = 0 ∧ o = .cells powers 149 1 true := by
  have hb : b < 4 := Hp.lt h
  match b, hb with
  | 0, _ => exact ⟨rfl, Option.some.inj (h.symm.trans (rfl : Hg[0]? = some (.cells powers 149 1 true)))⟩
  | 1, _ => have : o = .dead := Option.some.inj (h.symm.trans (rfl : Hg[1]? = some .dead)); rw [this] at ha; cases ha
  | 2, _ => have : o = .dead := Option.some.inj (h.symm.trans (rfl : Hg[2]? = some .dead)); rw [this] at ha; cases ha
  | 3, _ => have : o = .dead := Option.some.inj (h.symm.trans (rfl : Hg[3]? = some .dead)); rw [this] at ha; cases ha
theorem hg_vars : Vars Hg [0] := ⟨hg_len, fun b o h ha => by rw [(hg_get h ha).1]; simp, fun b o h ha => ⟨powers, 149, 1, (hg_get h ha).2, rfl⟩⟩

def numE (n : Int) : Int := rangeE n (-999999999) 999999999
def firstE (x y : Int) : Int := if x = 0 then y else x
def pairE (a b : Int) : Int := firstE (numE a) (numE b)
def rangeS : List Value → Option Value
  | [.int .i64 n, .int .i64 lo, .int .i64 hi] => some (i (rangeE n lo hi))
  | _ => none
noncomputable def T1 : Tb := ext (ext noT Fn.check_Range (pureE rangeS [] Hd)) Fn.ref01_CheckRange (pureE rangeS [] Hd)
theorem wrapF_in {n : Int} (h1 : -9223372036854775808 ≤ n) (h2 : n ≤ 9223372036854775807) : wrapF .i64 n = n := by
  rw [wrapF_eq]; exact IntWalk.i64_in n ⟨h1, h2⟩
theorem eqF_d (a b : Int) : eqF a b = decide (a = b) := by
  rw [eqF_eq, Bool.eq_iff_iff]; simp
theorem ts1 {G : Nat} : TSound Tryd.prog G T1 := by
  refine ((TSound.none.pure hd_vars fun args v h => ?_).pure hd_vars fun args v h => ?_)
  · unfold rangeS at h
    split at h
    · cases h; exact range_pure _ _ _
    · cases h
  · unfold rangeS at h
    split at h
    · cases h
      rename_i n lo hi
      refine pure_run (C := ⟨noT, sp_, off_, noL⟩) (G := 4) 20 (.br (ltF n lo) (.leaf (i 3)) (.br (ltF hi n) (.leaf (i 3)) (.leaf (i 0)))) .none .none (by decide) hd_len rfl (by kernel_rfl) (by kernel_rfl) ?_
      unfold rangeE
      by_cases h1 : n < lo <;> by_cases h2 : hi < n <;> simp [VT.sel, ltF_eq, h1, h2]
    · cases h
def ways2 (x y : Int) (v : Int → Value) : VT := .br (!eqF x 0) (.leaf (v x)) (.br (!eqF y 0) (.leaf (v y)) (.leaf (v 0)))
theorem ways2_sel (x y : Int) (v : Int → Value) : (ways2 x y v).sel = some (v (firstE x y)) := by
  unfold ways2 firstE
  by_cases h1 : x = 0 <;> by_cases h2 : y = 0 <;> simp [VT.sel, eqF_d, h1, h2]
/-! ### products -/
/-! ### turns -/
def okE (e x : Int) : Int := if e = 0 then x else 0
def ways1 (x : Int) (err : Int → Value) (ok : Value) : VT := .br (!eqF x 0) (.leaf (err x)) (.leaf ok)
theorem ways1_sel (x : Int) (err : Int → Value) (ok : Value) : (ways1 x err ok).sel = some (if x = 0 then ok else err x) := by
  unfold ways1
  by_cases h1 : x = 0 <;> simp [VT.sel, eqF_d, h1]
def ways3 (x y : Int) (err : Int → Value) (ok : Value) : VT := .br (!eqF x 0) (ways1 x err ok) (.br (!eqF y 0) (ways1 y err ok) (ways1 0 err ok))
theorem ways3_sel (x y : Int) (err : Int → Value) (ok : Value) : (ways3 x y err ok).sel = some (if firstE x y = 0 then ok else err (firstE x y)) := by
  unfold ways3 firstE
  by_cases h1 : x = 0 <;> by_cases h2 : y = 0 <;> simp [VT.sel, ways1_sel, eqF_d, h1, h2]
def errN (e : Int) : Value := tp [i 0, i e]
def resN (e x : Int) : Value := tp [i (okE e x), i e]
theorem resN_eq (e x : Int) : (if e = 0 then tp [i x, i 0] else errN e) = resN e x := by
  unfold resN errN okE
  by_cases h : e = 0 <;> simp [h]
def lf (b : Bool) : VT := .leaf (b_ b)
end Go.Proofs.YtbocpikgochioaaDoor.Ways
