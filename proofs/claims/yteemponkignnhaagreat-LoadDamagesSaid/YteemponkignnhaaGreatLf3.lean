import Derived.Test.YteemponkignnhaaGreatLf2
import Derived.Test.YteemponkignnhaaGreatLf1
set_option maxRecDepth 10000
noncomputable section
namespace Go.Proofs.YteemponkignnhaaGreat.Ways
open Go Go.Ex Go.RowKit Go.Turn
inductive JS where
  | i (j : Int) (l : Nat) (out : List Value)
  | m (j : Int) (l : Nat) (out : List Value)
section
variable (ds : List Value) (n : Nat) (d : Int) (t2 s2 : Nat) (e2 : Bool)
def hnn : JS → List (CO × Bool)
  | .i _ _ out => [(.dead, false), (.dead, false), (.cells ds t2 s2 e2, true), (.dead, false), (.cells out 93 2 false, true)]
  | .m _ _ out => [(.dead, false), (.dead, false), (.cells ds t2 s2 e2, true), (.dead, false), (.dead, false), (.cells out 93 2 false, true)]
end
section
variable {ds : List Value} {n : Nat} {d : Int} {t2 s2 : Nat} {e2 : Bool}
end
section
variable (ds : List Value) (n : Nat) (d : Int) (t2 s2 : Nat) (e2 : Bool)
end
section
variable {ds : List Value} {n : Nat} {d : Int} {t2 s2 : Nat} {e2 : Bool}
end
section
variable (ds : List Value) (n : Nat) (d : Int) (t2 s2 : Nat) (e2 : Bool)
end
section
variable {ds : List Value} {n : Nat} {d : Int} {t2 s2 : Nat} {e2 : Bool}
end
end Go.Proofs.YteemponkignnhaaGreat.Ways
set_option maxRecDepth 10000
noncomputable section
namespace Go.Proofs.YteemponkignnhaaGreat.Ways
open Go Go.Ex Go.RowKit Go.Turn
section
variable {P Q : List Pt} {d : Int}
end
section
variable (cs ds : List Value) (t s m t2 s2 k : Nat) (ex e2 : Bool) (d : Int)
end
end Go.Proofs.YteemponkignnhaaGreat.Ways
set_option maxRecDepth 10000
noncomputable section
namespace Go.Proofs.YteemponkignnhaaGreat.Ways
open Go Go.Ex Go.RowKit Go.Turn
noncomputable def TX6 : Tb := ext (ext TX3 61 (autoE sp18 [] (heapL deads))) 14 (autoE sp18 [] (heapL deads))
theorem tsX6 {G : Nat} : TSound Tryz.prog G TX6 := (tsX3.auto c18).auto c20
section
variable (cs ds : List Value) (t s n c t2 s2 m c2 : Nat) (ex e2 : Bool) (d : Int)
end
section
variable (cs ds : List Value) (t s m t2 s2 k : Nat) (ex e2 : Bool) (d : Int)
end
end Go.Proofs.YteemponkignnhaaGreat.Ways
set_option maxRecDepth 10000
noncomputable section
namespace Go.Proofs.YteemponkignnhaaGreat.Ways
open Go Go.Ex Go.RowKit Go.Turn
theorem RowE.bok {cs : List Value} {n : Nat} (h : RowE cs n) : BokE cs n n := by
  obtain ⟨P, rfl, rfl, hn⟩ := h
  exact ⟨okP_flat hn, hn⟩
end Go.Proofs.YteemponkignnhaaGreat.Ways
set_option maxRecDepth 10000
noncomputable section
namespace Go.Proofs.YteemponkignnhaaGreat.Ways
open Go Go.Ex Go.RowKit Go.Turn
def sh29 (cs : List Value) (w : Int) : Int := wrapF .i64 (wrapF .i64 (pA cs w.toNat - pA cs 0) + 1)
def XJ (cs : List Value) (m : Nat) (d : Int) : List Pt := RV (flatP (JE cs cs m m d)) (JE cs cs m m d).length
def CJ (cs : List Value) (m : Nat) (d : Int) : List Cy := (cnt (flatP (XJ cs m d)) (XJ cs m d).length).2
section
variable (cs : List Value) (t s m : Nat) (ex : Bool)
end
end Go.Proofs.YteemponkignnhaaGreat.Ways
set_option maxRecDepth 10000
noncomputable section
namespace Go.Proofs.YteemponkignnhaaGreat.Ways
open Go Go.Ex Go.RowKit Go.Turn
def dJ (cs : List Value) (m : Nat) : Int := sh29 cs (m : Int)
def e29 (cs : List Value) (m : Nat) : Int := if crE cs (m + 1) ≠ 0 then crE cs (m + 1) else eJ (JE cs cs m m (dJ cs m))
end Go.Proofs.YteemponkignnhaaGreat.Ways
