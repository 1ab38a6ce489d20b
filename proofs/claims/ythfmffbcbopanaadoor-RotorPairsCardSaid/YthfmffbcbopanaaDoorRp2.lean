import Derived.Test.YthfmffbcbopanaaDoorRp1
namespace Go.Proofs.YthfmffbcbopanaaDoor.Ways
open Go Go.Ex
def ag (l : List Value) : Value := .agg ⟨l⟩
def tp (l : List Value) : Value := .tuple ⟨l⟩
def b_ (b : Bool) : Value := .bool b
/-- the marks of the ways -/
def sp_ : Nat → Nat → Split := at_ [(41, 9), (41, 13), (12, 9), (12, 13), (34, 12), (11, 14), (6, 14), (7, 8), (8, 8), (9, 14), (17, 11), (17, 14), (17, 18), (17, 22), (17, 26), (18, 11), (18, 14), (18, 17), (18, 21), (18, 25)] .bool (at_ [(38, 9), (16, 10)] (.ints [0, 1, 2]) no_)
noncomputable def powers : List Value := [i 1, i 0, i 0, i 1, i (-1), i (-1)]
noncomputable def Hg : CH := (((Hp.nil.push (.cells powers 118 1 true)).push .dead).push .dead).push .dead
theorem hg_len : Hg.length = 4 := rfl
theorem hg_get {b : Nat} {o : CO} (h : Hg[b]? = some o) (ha : o.alive = true) : b = 0 ∧ o = .cells powers 118 1 true := by
  have hb : b < 4 := Hp.lt h
  match b, hb with
  | 0, _ => exact ⟨rfl, Option.some.inj (h.symm.trans (rfl : Hg[0]? = some (.cells powers 118 1 true)))⟩
  | 1, _ => have : o = .dead := Option.some.inj (h.symm.trans (rfl : Hg[1]? = some .dead)); rw [this] at ha; cases ha
  | 2, _ => have : o = .dead := Option.some.inj (h.symm.trans (rfl : Hg[2]? = some .dead)); rw [this] at ha; cases ha
  | 3, _ => have : o = .dead := Option.some.inj (h.symm.trans (rfl : Hg[3]? = some .dead)); rw [this] at ha; cases ha
theorem hg_vars : Vars Hg 4 [0] := ⟨hg_len, fun b o h ha => by rw [(hg_get h ha).1]; simp, fun b o h ha => ⟨powers, 118, 1, (hg_get h ha).2, rfl⟩⟩

def numE (n : Int) : Int := rangeE n (-999999999) 999999999
def firstE (x y : Int) : Int := if x = 0 then y else x
def pairE (a b : Int) : Int := firstE (numE a) (numE b)
def rangeS : List Value → Option Value
  | [.int .i64 n, .int .i64 lo, .int .i64 hi] => some (i (rangeE n lo hi))
  | _ => none
def numS : List Value → Option Value
  | [.int .i64 n] => some (i (numE n))
  | _ => none
def pairS : List Value → Option Value
  | [.agg ⟨[.int .i64 a, .int .i64 b]⟩] => some (i (pairE a b))
  | _ => none
noncomputable def T1 : Tb := ext (ext noT 41 (pureE rangeS [] Hd)) 12 (pureE rangeS [] Hd)
noncomputable def T2 : Tb := ext (ext (ext T1 37 (pureE numS [] Hd)) 35 (pureE pairS [] Hd)) 10 (pureE pairS [] Hd)
end Go.Proofs.YthfmffbcbopanaaDoor.Ways
