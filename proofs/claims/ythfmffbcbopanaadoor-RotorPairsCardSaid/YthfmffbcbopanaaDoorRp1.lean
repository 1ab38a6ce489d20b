import Derived.Test.YthfmffbcbopanaaDoorEngPure
import Derived.Test.YthfmffbcbopanaaDoorProg
import Derived.WalkKit
namespace Go.Proofs.YthfmffbcbopanaaDoor.Ways
open Go Go.Ex
def i (n : Int) : Value := .int .i64 n
noncomputable def Hd : CH := (((Hp.nil.push .dead).push .dead).push .dead).push .dead
theorem hd_dead : AllDead Hd := by
  intro b o h
  have hb : b < 4 := Hp.lt h
  match b, hb with
  | 0, _ => have : o = .dead := Option.some.inj (h.symm.trans (rfl : Hd[0]? = some .dead)); rw [this]; rfl
  | 1, _ => have : o = .dead := Option.some.inj (h.symm.trans (rfl : Hd[1]? = some .dead)); rw [this]; rfl
  | 2, _ => have : o = .dead := Option.some.inj (h.symm.trans (rfl : Hd[2]? = some .dead)); rw [this]; rfl
  | 3, _ => have : o = .dead := Option.some.inj (h.symm.trans (rfl : Hd[3]? = some .dead)); rw [this]; rfl
theorem hd_len : Hd.length = 4 := rfl
theorem hd_vars : Vars Hd 4 [] := .of_dead hd_len hd_dead

/-- check.Range -/
def rangeE (n lo hi : Int) : Int := if n < lo ∨ hi < n then 3 else 0
def at_ (l : List (Nat × Nat)) (s : Split) (rest : Nat → Nat → Split) (f d : Nat) : Split := cond (l.any fun x => Nat.beq x.1 f && Nat.beq x.2 d) s (rest f d)
def no_ (_ _ : Nat) : Split := .no
def C0 : Cfg := ⟨noT, at_ [(41, 9), (41, 13)] .bool no_⟩
theorem range_pure (n lo hi : Int) : Pure Tryd.prog Hd 41 [i n, i lo, i hi] (i (rangeE n lo hi)) := by
  refine pure_run (C := C0) (G := 4) 20 (.br (ltF n lo) (.leaf (i 3)) (.br (ltF hi n) (.leaf (i 3)) (.leaf (i 0)))) .none hd_len rfl (by kernel_rfl) (by kernel_rfl) ?_
  unfold rangeE
  by_cases h1 : n < lo <;> by_cases h2 : hi < n <;> simp [VT.sel, ltF_eq, h1, h2]
end Go.Proofs.YthfmffbcbopanaaDoor.Ways
