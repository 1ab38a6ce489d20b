import Derived.Test.YteemponkignnhaaGreatKi1
import Derived.Test.YteemponkignnhaaGreatKa1
import Derived.Test.YteemponkignnhaaGreatKb1
import Derived.Test.YteemponkignnhaaGreatLf3
import Derived.Test.YteemponkignnhaaGreatZz1
set_option maxRecDepth 10000
noncomputable section
namespace Go.Proofs.YteemponkignnhaaGreat.Ways
open Go Go.Ex Go.RowKit Go.Turn
def P29 (cs : List Value) (n c : Nat) : Prop := c = n ∧ 1 ≤ n ∧ RowE cs n ∧ (n - 1) + (n - 1) < 900000 ∧ e29 cs (n - 1) = 0 ∧ CJ cs (n - 1) (dJ cs (n - 1)) ≠ []
end Go.Proofs.YteemponkignnhaaGreat.Ways
set_option maxRecDepth 10000
noncomputable section
namespace Go.Proofs.YteemponkignnhaaGreat.Ways
open Go Go.Ex Go.RowKit Go.Turn
inductive KM where
  | z
  | m (j : Int) (l : Nat) (b u d : List Value)
def ngM (cs : List Value) (j : Int) : Int := IntKind.i64.wrap (0 - eI cs j.toNat)
def dbM (cs : List Value) (j : Int) : Int := wrapF .i64 (2 * eI cs j.toNat)
def fl1 (l : Nat) (b : List Value) : Bool := decide (l = l) && (decide (b.length = l * 1) && decide (l + 1 ≤ 1048576))
section
variable (cs : List Value) (n t s : Nat) (ex : Bool)
end
section
variable {cs : List Value} {n t s : Nat} {ex : Bool}
end
end Go.Proofs.YteemponkignnhaaGreat.Ways
set_option maxRecDepth 10000
noncomputable section
namespace Go.Proofs.YteemponkignnhaaGreat.Ways
open Go Go.Ex Go.RowKit Go.Turn
def hpG (K : Nat) (l : List (Nat × CO)) : List (CO × Bool) := (List.range K).map fun k => match l.lookup k with
  | some o => (o, true)
  | none => (.dead, false)
structure MD where
  cs : List Value
  n : Nat
  t : Nat
  s : Nat
  ex : Bool
  dc : List Value
  db : List Value
  du : List Value
  dd : List Value
  lc : Nat
  lb : Nat
  lu : Nat
  ld : Nat
  cy : List Value
  cu : List Value
  cd : List Value
  kc : Nat
  ku : Nat
  kd : Nat
def MD.hA (m : MD) : List (Nat × CO) := [(1, .cells m.cs m.t m.s m.ex), (5, .cells m.cy 96 4 false), (6, .cells m.dc 93 2 false), (8, .cells m.db 93 2 false), (9, .cells m.cu 96 4 false), (10, .cells m.du 93 2 false), (11, .cells m.cd 96 4 false), (12, .cells m.dd 93 2 false)]
def MD.hN (m : MD) : List (Nat × CO) := [(1, .cells m.cs m.t m.s m.ex), (5, .cells m.dc 93 2 false), (6, .cells m.db 93 2 false), (7, .cells m.du 93 2 false), (8, .cells m.dd 93 2 false)]
def MD.hp (m : MD) (f : Bool) : List (CO × Bool) := cond f (hpG 15 m.hA) (hpG 9 m.hN)
def MD.live (m : MD) (f : Bool) : List (Nat × Value) := cond f
  [(0, sl 1 0 m.n m.n), (8, sl 5 0 m.kc m.kc), (9, sl 6 0 m.lc m.lc), (12, sl 8 0 m.lb m.lb), (14, sl 9 0 m.ku m.ku), (15, sl 10 0 m.lu m.lu), (17, sl 11 0 m.kd m.kd), (18, sl 12 0 m.ld m.ld)]
  [(0, sl 1 0 m.n m.n), (8, .slice none 0 0), (9, sl 5 0 m.lc m.lc), (12, sl 6 0 m.lb m.lb), (14, .slice none 0 0), (15, sl 7 0 m.lu m.lu), (17, .slice none 0 0), (18, sl 8 0 m.ld m.ld)]
structure MD.Flat (m : MD) : Prop where
  cs : m.cs.all Ex.flat = true
  dc : m.dc.all Ex.flat = true
  db : m.db.all Ex.flat = true
  du : m.du.all Ex.flat = true
  dd : m.dd.all Ex.flat = true
  cy : m.cy.all Ex.flat = true
  cu : m.cu.all Ex.flat = true
  cd : m.cd.all Ex.flat = true
end Go.Proofs.YteemponkignnhaaGreat.Ways
set_option maxRecDepth 10000
noncomputable section
namespace Go.Proofs.YteemponkignnhaaGreat.Ways
open Go Go.Ex Go.RowKit Go.Turn
section
variable (m : MD) (f : Bool)
end
section
variable {m : MD}
end
end Go.Proofs.YteemponkignnhaaGreat.Ways
set_option maxRecDepth 10000
noncomputable section
namespace Go.Proofs.YteemponkignnhaaGreat.Ways
open Go Go.Ex Go.RowKit Go.Turn
section
variable (cs b u d : List Value) (n t s : Nat) (ex : Bool)
noncomputable def mdM : MD := { cs := cs, n := n, t := t, s := s, ex := ex, dc := DS_ cs n, db := DS_ b n, du := DS_ u n, dd := DS_ d n, lc := LD_ cs n, lb := LD_ b n, lu := LD_ u n, ld := LD_ d n, cy := flatC (CC_ cs n), cu := flatC (CC_ u n), cd := flatC (CC_ d n), kc := (CC_ cs n).length, ku := (CC_ u n).length, kd := (CC_ d n).length }
end
section
variable (K p : Nat) (ck : List Value) (lk : Nat) (g : Int)
end
section
variable {ck : List Value} {lk : Nat} {g : Int}
end
section
variable (cs b u d : List Value) (n t s : Nat) (ex : Bool) (j2 j3 : Int) (r4 : Nat × Int)
noncomputable def CyK : List Cy := CJ (DS_ cs n) (LD_ cs n - 1) (dJ (DS_ cs n) (LD_ cs n - 1))
def gRm : Int := grE (flatP (rvI cs n)) (rvI cs n).length
def lfT : VT := .leaf (b_ true)
noncomputable def vP (p : Prop) (t : VT) : VT := .br (tru p) t .fail
end
end Go.Proofs.YteemponkignnhaaGreat.Ways
set_option maxRecDepth 10000
noncomputable section
namespace Go.Proofs.YteemponkignnhaaGreat.Ways
open Go Go.Ex Go.RowKit Go.Turn
section
variable (cs : List Value) (n : Nat) (t s : Nat) (ex : Bool)
end
end Go.Proofs.YteemponkignnhaaGreat.Ways
