import Derived.Test.YtdnogbdfiahcaaaGreatWr7
noncomputable section
namespace Go.Proofs.YtdnogbdfiahcaaaGreat.Ways
open Go Go.Ex Go.RowKit
theorem w1tttt (a : Lx) (t s : Nat) (ex : Bool) (ss : List Value) (m t2 s2 : Nat) (e2 : Bool) (x y : Int) : (o4 true true true true [a] t s ex ss m t2 s2 e2 x y).vals = lawT a [] ss m x y true true true true := by kernel_rfl
theorem y1tttt (a : Lx) (t s : Nat) (ex : Bool) (ss : List Value) (m t2 s2 : Nat) (e2 : Bool) (x y : Int) : o4 true true true true [a] t s ex ss m t2 s2 e2 x y = (o4 true true true true [a] t s ex ss m t2 s2 e2 x y).fix := by kernel_rfl
theorem w1tttf (a : Lx) (t s : Nat) (ex : Bool) (ss : List Value) (m t2 s2 : Nat) (e2 : Bool) (x y : Int) : (o4 true true true false [a] t s ex ss m t2 s2 e2 x y).vals = lawT a [] ss m x y true true true false := by kernel_rfl
theorem y1tttf (a : Lx) (t s : Nat) (ex : Bool) (ss : List Value) (m t2 s2 : Nat) (e2 : Bool) (x y : Int) : o4 true true true false [a] t s ex ss m t2 s2 e2 x y = (o4 true true true false [a] t s ex ss m t2 s2 e2 x y).fix := by kernel_rfl
theorem w1ttft (a : Lx) (t s : Nat) (ex : Bool) (ss : List Value) (m t2 s2 : Nat) (e2 : Bool) (x y : Int) : (o4 true true false true [a] t s ex ss m t2 s2 e2 x y).vals = lawT a [] ss m x y true true false true := by kernel_rfl
theorem y1ttft (a : Lx) (t s : Nat) (ex : Bool) (ss : List Value) (m t2 s2 : Nat) (e2 : Bool) (x y : Int) : o4 true true false true [a] t s ex ss m t2 s2 e2 x y = (o4 true true false true [a] t s ex ss m t2 s2 e2 x y).fix := by kernel_rfl
theorem w1ttff (a : Lx) (t s : Nat) (ex : Bool) (ss : List Value) (m t2 s2 : Nat) (e2 : Bool) (x y : Int) : (o4 true true false false [a] t s ex ss m t2 s2 e2 x y).vals = lawT a [] ss m x y true true false false := by kernel_rfl
theorem y1ttff (a : Lx) (t s : Nat) (ex : Bool) (ss : List Value) (m t2 s2 : Nat) (e2 : Bool) (x y : Int) : o4 true true false false [a] t s ex ss m t2 s2 e2 x y = (o4 true true false false [a] t s ex ss m t2 s2 e2 x y).fix := by kernel_rfl
theorem w1tftt (a : Lx) (t s : Nat) (ex : Bool) (ss : List Value) (m t2 s2 : Nat) (e2 : Bool) (x y : Int) : (o4 true false true true [a] t s ex ss m t2 s2 e2 x y).vals = lawT a [] ss m x y true false true true := by kernel_rfl
theorem y1tftt (a : Lx) (t s : Nat) (ex : Bool) (ss : List Value) (m t2 s2 : Nat) (e2 : Bool) (x y : Int) : o4 true false true true [a] t s ex ss m t2 s2 e2 x y = (o4 true false true true [a] t s ex ss m t2 s2 e2 x y).fix := by kernel_rfl
theorem w1tftf (a : Lx) (t s : Nat) (ex : Bool) (ss : List Value) (m t2 s2 : Nat) (e2 : Bool) (x y : Int) : (o4 true false true false [a] t s ex ss m t2 s2 e2 x y).vals = lawT a [] ss m x y true false true false := by kernel_rfl
theorem y1tftf (a : Lx) (t s : Nat) (ex : Bool) (ss : List Value) (m t2 s2 : Nat) (e2 : Bool) (x y : Int) : o4 true false true false [a] t s ex ss m t2 s2 e2 x y = (o4 true false true false [a] t s ex ss m t2 s2 e2 x y).fix := by kernel_rfl
theorem w1tfft (a : Lx) (t s : Nat) (ex : Bool) (ss : List Value) (m t2 s2 : Nat) (e2 : Bool) (x y : Int) : (o4 true false false true [a] t s ex ss m t2 s2 e2 x y).vals = lawT a [] ss m x y true false false true := by kernel_rfl
theorem y1tfft (a : Lx) (t s : Nat) (ex : Bool) (ss : List Value) (m t2 s2 : Nat) (e2 : Bool) (x y : Int) : o4 true false false true [a] t s ex ss m t2 s2 e2 x y = (o4 true false false true [a] t s ex ss m t2 s2 e2 x y).fix := by kernel_rfl
theorem w1tfff (a : Lx) (t s : Nat) (ex : Bool) (ss : List Value) (m t2 s2 : Nat) (e2 : Bool) (x y : Int) : (o4 true false false false [a] t s ex ss m t2 s2 e2 x y).vals = lawT a [] ss m x y true false false false := by kernel_rfl
theorem y1tfff (a : Lx) (t s : Nat) (ex : Bool) (ss : List Value) (m t2 s2 : Nat) (e2 : Bool) (x y : Int) : o4 true false false false [a] t s ex ss m t2 s2 e2 x y = (o4 true false false false [a] t s ex ss m t2 s2 e2 x y).fix := by kernel_rfl
end Go.Proofs.YtdnogbdfiahcaaaGreat.Ways
noncomputable section
namespace Go.Proofs.YtdnogbdfiahcaaaGreat.Ways
open Go Go.Ex Go.RowKit
theorem w1fttt (a : Lx) (t s : Nat) (ex : Bool) (ss : List Value) (m t2 s2 : Nat) (e2 : Bool) (x y : Int) : (o4 false true true true [a] t s ex ss m t2 s2 e2 x y).vals = lawT a [] ss m x y false true true true := by kernel_rfl
theorem y1fttt (a : Lx) (t s : Nat) (ex : Bool) (ss : List Value) (m t2 s2 : Nat) (e2 : Bool) (x y : Int) : o4 false true true true [a] t s ex ss m t2 s2 e2 x y = (o4 false true true true [a] t s ex ss m t2 s2 e2 x y).fix := by kernel_rfl
theorem w1fttf (a : Lx) (t s : Nat) (ex : Bool) (ss : List Value) (m t2 s2 : Nat) (e2 : Bool) (x y : Int) : (o4 false true true false [a] t s ex ss m t2 s2 e2 x y).vals = lawT a [] ss m x y false true true false := by kernel_rfl
theorem y1fttf (a : Lx) (t s : Nat) (ex : Bool) (ss : List Value) (m t2 s2 : Nat) (e2 : Bool) (x y : Int) : o4 false true true false [a] t s ex ss m t2 s2 e2 x y = (o4 false true true false [a] t s ex ss m t2 s2 e2 x y).fix := by kernel_rfl
theorem w1ftft (a : Lx) (t s : Nat) (ex : Bool) (ss : List Value) (m t2 s2 : Nat) (e2 : Bool) (x y : Int) : (o4 false true false true [a] t s ex ss m t2 s2 e2 x y).vals = lawT a [] ss m x y false true false true := by kernel_rfl
theorem y1ftft (a : Lx) (t s : Nat) (ex : Bool) (ss : List Value) (m t2 s2 : Nat) (e2 : Bool) (x y : Int) : o4 false true false true [a] t s ex ss m t2 s2 e2 x y = (o4 false true false true [a] t s ex ss m t2 s2 e2 x y).fix := by kernel_rfl
theorem w1ftff (a : Lx) (t s : Nat) (ex : Bool) (ss : List Value) (m t2 s2 : Nat) (e2 : Bool) (x y : Int) : (o4 false true false false [a] t s ex ss m t2 s2 e2 x y).vals = lawT a [] ss m x y false true false false := by kernel_rfl
theorem y1ftff (a : Lx) (t s : Nat) (ex : Bool) (ss : List Value) (m t2 s2 : Nat) (e2 : Bool) (x y : Int) : o4 false true false false [a] t s ex ss m t2 s2 e2 x y = (o4 false true false false [a] t s ex ss m t2 s2 e2 x y).fix := by kernel_rfl
theorem w1fftt (a : Lx) (t s : Nat) (ex : Bool) (ss : List Value) (m t2 s2 : Nat) (e2 : Bool) (x y : Int) : (o4 false false true true [a] t s ex ss m t2 s2 e2 x y).vals = lawT a [] ss m x y false false true true := by kernel_rfl
theorem y1fftt (a : Lx) (t s : Nat) (ex : Bool) (ss : List Value) (m t2 s2 : Nat) (e2 : Bool) (x y : Int) : o4 false false true true [a] t s ex ss m t2 s2 e2 x y = (o4 false false true true [a] t s ex ss m t2 s2 e2 x y).fix := by kernel_rfl
theorem w1fftf (a : Lx) (t s : Nat) (ex : Bool) (ss : List Value) (m t2 s2 : Nat) (e2 : Bool) (x y : Int) : (o4 false false true false [a] t s ex ss m t2 s2 e2 x y).vals = lawT a [] ss m x y false false true false := by kernel_rfl
theorem y1fftf (a : Lx) (t s : Nat) (ex : Bool) (ss : List Value) (m t2 s2 : Nat) (e2 : Bool) (x y : Int) : o4 false false true false [a] t s ex ss m t2 s2 e2 x y = (o4 false false true false [a] t s ex ss m t2 s2 e2 x y).fix := by kernel_rfl
theorem w1ffff (a : Lx) (t s : Nat) (ex : Bool) (ss : List Value) (m t2 s2 : Nat) (e2 : Bool) (x y : Int) : (o4 false false false false [a] t s ex ss m t2 s2 e2 x y).vals = lawT a [] ss m x y false false false false := by kernel_rfl
theorem y1ffff (a : Lx) (t s : Nat) (ex : Bool) (ss : List Value) (m t2 s2 : Nat) (e2 : Bool) (x y : Int) : o4 false false false false [a] t s ex ss m t2 s2 e2 x y = (o4 false false false false [a] t s ex ss m t2 s2 e2 x y).fix := by kernel_rfl
end Go.Proofs.YtdnogbdfiahcaaaGreat.Ways
noncomputable section
namespace Go.Proofs.YtdnogbdfiahcaaaGreat.Ways
open Go Go.Ex Go.RowKit
theorem w2tttt (a b : Lx) (t s : Nat) (ex : Bool) (ss : List Value) (m t2 s2 : Nat) (e2 : Bool) (x y : Int) : (o4 true true true true [a, b] t s ex ss m t2 s2 e2 x y).vals = lawT a [b] ss m x y true true true true := by kernel_rfl
theorem y2tttt (a b : Lx) (t s : Nat) (ex : Bool) (ss : List Value) (m t2 s2 : Nat) (e2 : Bool) (x y : Int) : o4 true true true true [a, b] t s ex ss m t2 s2 e2 x y = (o4 true true true true [a, b] t s ex ss m t2 s2 e2 x y).fix := by kernel_rfl
theorem w2tttf (a b : Lx) (t s : Nat) (ex : Bool) (ss : List Value) (m t2 s2 : Nat) (e2 : Bool) (x y : Int) : (o4 true true true false [a, b] t s ex ss m t2 s2 e2 x y).vals = lawT a [b] ss m x y true true true false := by kernel_rfl
theorem y2tttf (a b : Lx) (t s : Nat) (ex : Bool) (ss : List Value) (m t2 s2 : Nat) (e2 : Bool) (x y : Int) : o4 true true true false [a, b] t s ex ss m t2 s2 e2 x y = (o4 true true true false [a, b] t s ex ss m t2 s2 e2 x y).fix := by kernel_rfl
theorem w2ttft (a b : Lx) (t s : Nat) (ex : Bool) (ss : List Value) (m t2 s2 : Nat) (e2 : Bool) (x y : Int) : (o4 true true false true [a, b] t s ex ss m t2 s2 e2 x y).vals = lawT a [b] ss m x y true true false true := by kernel_rfl
theorem y2ttft (a b : Lx) (t s : Nat) (ex : Bool) (ss : List Value) (m t2 s2 : Nat) (e2 : Bool) (x y : Int) : o4 true true false true [a, b] t s ex ss m t2 s2 e2 x y = (o4 true true false true [a, b] t s ex ss m t2 s2 e2 x y).fix := by kernel_rfl
theorem w2ttff (a b : Lx) (t s : Nat) (ex : Bool) (ss : List Value) (m t2 s2 : Nat) (e2 : Bool) (x y : Int) : (o4 true true false false [a, b] t s ex ss m t2 s2 e2 x y).vals = lawT a [b] ss m x y true true false false := by kernel_rfl
theorem y2ttff (a b : Lx) (t s : Nat) (ex : Bool) (ss : List Value) (m t2 s2 : Nat) (e2 : Bool) (x y : Int) : o4 true true false false [a, b] t s ex ss m t2 s2 e2 x y = (o4 true true false false [a, b] t s ex ss m t2 s2 e2 x y).fix := by kernel_rfl
theorem w2tftt (a b : Lx) (t s : Nat) (ex : Bool) (ss : List Value) (m t2 s2 : Nat) (e2 : Bool) (x y : Int) : (o4 true false true true [a, b] t s ex ss m t2 s2 e2 x y).vals = lawT a [b] ss m x y true false true true := by kernel_rfl
theorem y2tftt (a b : Lx) (t s : Nat) (ex : Bool) (ss : List Value) (m t2 s2 : Nat) (e2 : Bool) (x y : Int) : o4 true false true true [a, b] t s ex ss m t2 s2 e2 x y = (o4 true false true true [a, b] t s ex ss m t2 s2 e2 x y).fix := by kernel_rfl
theorem w2tftf (a b : Lx) (t s : Nat) (ex : Bool) (ss : List Value) (m t2 s2 : Nat) (e2 : Bool) (x y : Int) : (o4 true false true false [a, b] t s ex ss m t2 s2 e2 x y).vals = lawT a [b] ss m x y true false true false := by kernel_rfl
theorem y2tftf (a b : Lx) (t s : Nat) (ex : Bool) (ss : List Value) (m t2 s2 : Nat) (e2 : Bool) (x y : Int) : o4 true false true false [a, b] t s ex ss m t2 s2 e2 x y = (o4 true false true false [a, b] t s ex ss m t2 s2 e2 x y).fix := by kernel_rfl
theorem w2tfft (a b : Lx) (t s : Nat) (ex : Bool) (ss : List Value) (m t2 s2 : Nat) (e2 : Bool) (x y : Int) : (o4 true false false true [a, b] t s ex ss m t2 s2 e2 x y).vals = lawT a [b] ss m x y true false false true := by kernel_rfl
theorem y2tfft (a b : Lx) (t s : Nat) (ex : Bool) (ss : List Value) (m t2 s2 : Nat) (e2 : Bool) (x y : Int) : o4 true false false true [a, b] t s ex ss m t2 s2 e2 x y = (o4 true false false true [a, b] t s ex ss m t2 s2 e2 x y).fix := by kernel_rfl
theorem w2tfff (a b : Lx) (t s : Nat) (ex : Bool) (ss : List Value) (m t2 s2 : Nat) (e2 : Bool) (x y : Int) : (o4 true false false false [a, b] t s ex ss m t2 s2 e2 x y).vals = lawT a [b] ss m x y true false false false := by kernel_rfl
theorem y2tfff (a b : Lx) (t s : Nat) (ex : Bool) (ss : List Value) (m t2 s2 : Nat) (e2 : Bool) (x y : Int) : o4 true false false false [a, b] t s ex ss m t2 s2 e2 x y = (o4 true false false false [a, b] t s ex ss m t2 s2 e2 x y).fix := by kernel_rfl
end Go.Proofs.YtdnogbdfiahcaaaGreat.Ways
noncomputable section
namespace Go.Proofs.YtdnogbdfiahcaaaGreat.Ways
open Go Go.Ex Go.RowKit
theorem w2fttt (a b : Lx) (t s : Nat) (ex : Bool) (ss : List Value) (m t2 s2 : Nat) (e2 : Bool) (x y : Int) : (o4 false true true true [a, b] t s ex ss m t2 s2 e2 x y).vals = lawT a [b] ss m x y false true true true := by kernel_rfl
theorem y2fttt (a b : Lx) (t s : Nat) (ex : Bool) (ss : List Value) (m t2 s2 : Nat) (e2 : Bool) (x y : Int) : o4 false true true true [a, b] t s ex ss m t2 s2 e2 x y = (o4 false true true true [a, b] t s ex ss m t2 s2 e2 x y).fix := by kernel_rfl
theorem w2fttf (a b : Lx) (t s : Nat) (ex : Bool) (ss : List Value) (m t2 s2 : Nat) (e2 : Bool) (x y : Int) : (o4 false true true false [a, b] t s ex ss m t2 s2 e2 x y).vals = lawT a [b] ss m x y false true true false := by kernel_rfl
theorem y2fttf (a b : Lx) (t s : Nat) (ex : Bool) (ss : List Value) (m t2 s2 : Nat) (e2 : Bool) (x y : Int) : o4 false true true false [a, b] t s ex ss m t2 s2 e2 x y = (o4 false true true false [a, b] t s ex ss m t2 s2 e2 x y).fix := by kernel_rfl
theorem w2ftft (a b : Lx) (t s : Nat) (ex : Bool) (ss : List Value) (m t2 s2 : Nat) (e2 : Bool) (x y : Int) : (o4 false true false true [a, b] t s ex ss m t2 s2 e2 x y).vals = lawT a [b] ss m x y false true false true := by kernel_rfl
theorem y2ftft (a b : Lx) (t s : Nat) (ex : Bool) (ss : List Value) (m t2 s2 : Nat) (e2 : Bool) (x y : Int) : o4 false true false true [a, b] t s ex ss m t2 s2 e2 x y = (o4 false true false true [a, b] t s ex ss m t2 s2 e2 x y).fix := by kernel_rfl
theorem w2ftff (a b : Lx) (t s : Nat) (ex : Bool) (ss : List Value) (m t2 s2 : Nat) (e2 : Bool) (x y : Int) : (o4 false true false false [a, b] t s ex ss m t2 s2 e2 x y).vals = lawT a [b] ss m x y false true false false := by kernel_rfl
theorem y2ftff (a b : Lx) (t s : Nat) (ex : Bool) (ss : List Value) (m t2 s2 : Nat) (e2 : Bool) (x y : Int) : o4 false true false false [a, b] t s ex ss m t2 s2 e2 x y = (o4 false true false false [a, b] t s ex ss m t2 s2 e2 x y).fix := by kernel_rfl
theorem w2fftt (a b : Lx) (t s : Nat) (ex : Bool) (ss : List Value) (m t2 s2 : Nat) (e2 : Bool) (x y : Int) : (o4 false false true true [a, b] t s ex ss m t2 s2 e2 x y).vals = lawT a [b] ss m x y false false true true := by kernel_rfl
theorem y2fftt (a b : Lx) (t s : Nat) (ex : Bool) (ss : List Value) (m t2 s2 : Nat) (e2 : Bool) (x y : Int) : o4 false false true true [a, b] t s ex ss m t2 s2 e2 x y = (o4 false false true true [a, b] t s ex ss m t2 s2 e2 x y).fix := by kernel_rfl
theorem w2fftf (a b : Lx) (t s : Nat) (ex : Bool) (ss : List Value) (m t2 s2 : Nat) (e2 : Bool) (x y : Int) : (o4 false false true false [a, b] t s ex ss m t2 s2 e2 x y).vals = lawT a [b] ss m x y false false true false := by kernel_rfl
theorem y2fftf (a b : Lx) (t s : Nat) (ex : Bool) (ss : List Value) (m t2 s2 : Nat) (e2 : Bool) (x y : Int) : o4 false false true false [a, b] t s ex ss m t2 s2 e2 x y = (o4 false false true false [a, b] t s ex ss m t2 s2 e2 x y).fix := by kernel_rfl
theorem w2ffff (a b : Lx) (t s : Nat) (ex : Bool) (ss : List Value) (m t2 s2 : Nat) (e2 : Bool) (x y : Int) : (o4 false false false false [a, b] t s ex ss m t2 s2 e2 x y).vals = lawT a [b] ss m x y false false false false := by kernel_rfl
theorem y2ffff (a b : Lx) (t s : Nat) (ex : Bool) (ss : List Value) (m t2 s2 : Nat) (e2 : Bool) (x y : Int) : o4 false false false false [a, b] t s ex ss m t2 s2 e2 x y = (o4 false false false false [a, b] t s ex ss m t2 s2 e2 x y).fix := by kernel_rfl
end Go.Proofs.YtdnogbdfiahcaaaGreat.Ways
noncomputable section
namespace Go.Proofs.YtdnogbdfiahcaaaGreat.Ways
open Go Go.Ex Go.RowKit
theorem w3tttt (a b d : Lx) (t s : Nat) (ex : Bool) (ss : List Value) (m t2 s2 : Nat) (e2 : Bool) (x y : Int) : (o4 true true true true [a, b, d] t s ex ss m t2 s2 e2 x y).vals = lawT a [b, d] ss m x y true true true true := by kernel_rfl
theorem y3tttt (a b d : Lx) (t s : Nat) (ex : Bool) (ss : List Value) (m t2 s2 : Nat) (e2 : Bool) (x y : Int) : o4 true true true true [a, b, d] t s ex ss m t2 s2 e2 x y = (o4 true true true true [a, b, d] t s ex ss m t2 s2 e2 x y).fix := by kernel_rfl
theorem w3tttf (a b d : Lx) (t s : Nat) (ex : Bool) (ss : List Value) (m t2 s2 : Nat) (e2 : Bool) (x y : Int) : (o4 true true true false [a, b, d] t s ex ss m t2 s2 e2 x y).vals = lawT a [b, d] ss m x y true true true false := by kernel_rfl
theorem y3tttf (a b d : Lx) (t s : Nat) (ex : Bool) (ss : List Value) (m t2 s2 : Nat) (e2 : Bool) (x y : Int) : o4 true true true false [a, b, d] t s ex ss m t2 s2 e2 x y = (o4 true true true false [a, b, d] t s ex ss m t2 s2 e2 x y).fix := by kernel_rfl
theorem w3ttft (a b d : Lx) (t s : Nat) (ex : Bool) (ss : List Value) (m t2 s2 : Nat) (e2 : Bool) (x y : Int) : (o4 true true false true [a, b, d] t s ex ss m t2 s2 e2 x y).vals = lawT a [b, d] ss m x y true true false true := by kernel_rfl
theorem y3ttft (a b d : Lx) (t s : Nat) (ex : Bool) (ss : List Value) (m t2 s2 : Nat) (e2 : Bool) (x y : Int) : o4 true true false true [a, b, d] t s ex ss m t2 s2 e2 x y = (o4 true true false true [a, b, d] t s ex ss m t2 s2 e2 x y).fix := by kernel_rfl
theorem w3ttff (a b d : Lx) (t s : Nat) (ex : Bool) (ss : List Value) (m t2 s2 : Nat) (e2 : Bool) (x y : Int) : (o4 true true false false [a, b, d] t s ex ss m t2 s2 e2 x y).vals = lawT a [b, d] ss m x y true true false false := by kernel_rfl
theorem y3ttff (a b d : Lx) (t s : Nat) (ex : Bool) (ss : List Value) (m t2 s2 : Nat) (e2 : Bool) (x y : Int) : o4 true true false false [a, b, d] t s ex ss m t2 s2 e2 x y = (o4 true true false false [a, b, d] t s ex ss m t2 s2 e2 x y).fix := by kernel_rfl
theorem w3tftt (a b d : Lx) (t s : Nat) (ex : Bool) (ss : List Value) (m t2 s2 : Nat) (e2 : Bool) (x y : Int) : (o4 true false true true [a, b, d] t s ex ss m t2 s2 e2 x y).vals = lawT a [b, d] ss m x y true false true true := by kernel_rfl
theorem y3tftt (a b d : Lx) (t s : Nat) (ex : Bool) (ss : List Value) (m t2 s2 : Nat) (e2 : Bool) (x y : Int) : o4 true false true true [a, b, d] t s ex ss m t2 s2 e2 x y = (o4 true false true true [a, b, d] t s ex ss m t2 s2 e2 x y).fix := by kernel_rfl
theorem w3tftf (a b d : Lx) (t s : Nat) (ex : Bool) (ss : List Value) (m t2 s2 : Nat) (e2 : Bool) (x y : Int) : (o4 true false true false [a, b, d] t s ex ss m t2 s2 e2 x y).vals = lawT a [b, d] ss m x y true false true false := by kernel_rfl
theorem y3tftf (a b d : Lx) (t s : Nat) (ex : Bool) (ss : List Value) (m t2 s2 : Nat) (e2 : Bool) (x y : Int) : o4 true false true false [a, b, d] t s ex ss m t2 s2 e2 x y = (o4 true false true false [a, b, d] t s ex ss m t2 s2 e2 x y).fix := by kernel_rfl
theorem w3tfft (a b d : Lx) (t s : Nat) (ex : Bool) (ss : List Value) (m t2 s2 : Nat) (e2 : Bool) (x y : Int) : (o4 true false false true [a, b, d] t s ex ss m t2 s2 e2 x y).vals = lawT a [b, d] ss m x y true false false true := by kernel_rfl
theorem y3tfft (a b d : Lx) (t s : Nat) (ex : Bool) (ss : List Value) (m t2 s2 : Nat) (e2 : Bool) (x y : Int) : o4 true false false true [a, b, d] t s ex ss m t2 s2 e2 x y = (o4 true false false true [a, b, d] t s ex ss m t2 s2 e2 x y).fix := by kernel_rfl
theorem w3tfff (a b d : Lx) (t s : Nat) (ex : Bool) (ss : List Value) (m t2 s2 : Nat) (e2 : Bool) (x y : Int) : (o4 true false false false [a, b, d] t s ex ss m t2 s2 e2 x y).vals = lawT a [b, d] ss m x y true false false false := by kernel_rfl
theorem y3tfff (a b d : Lx) (t s : Nat) (ex : Bool) (ss : List Value) (m t2 s2 : Nat) (e2 : Bool) (x y : Int) : o4 true false false false [a, b, d] t s ex ss m t2 s2 e2 x y = (o4 true false false false [a, b, d] t s ex ss m t2 s2 e2 x y).fix := by kernel_rfl
end Go.Proofs.YtdnogbdfiahcaaaGreat.Ways
noncomputable section
namespace Go.Proofs.YtdnogbdfiahcaaaGreat.Ways
open Go Go.Ex Go.RowKit
theorem w3fttt (a b d : Lx) (t s : Nat) (ex : Bool) (ss : List Value) (m t2 s2 : Nat) (e2 : Bool) (x y : Int) : (o4 false true true true [a, b, d] t s ex ss m t2 s2 e2 x y).vals = lawT a [b, d] ss m x y false true true true := by kernel_rfl
theorem y3fttt (a b d : Lx) (t s : Nat) (ex : Bool) (ss : List Value) (m t2 s2 : Nat) (e2 : Bool) (x y : Int) : o4 false true true true [a, b, d] t s ex ss m t2 s2 e2 x y = (o4 false true true true [a, b, d] t s ex ss m t2 s2 e2 x y).fix := by kernel_rfl
theorem w3fttf (a b d : Lx) (t s : Nat) (ex : Bool) (ss : List Value) (m t2 s2 : Nat) (e2 : Bool) (x y : Int) : (o4 false true true false [a, b, d] t s ex ss m t2 s2 e2 x y).vals = lawT a [b, d] ss m x y false true true false := by kernel_rfl
theorem y3fttf (a b d : Lx) (t s : Nat) (ex : Bool) (ss : List Value) (m t2 s2 : Nat) (e2 : Bool) (x y : Int) : o4 false true true false [a, b, d] t s ex ss m t2 s2 e2 x y = (o4 false true true false [a, b, d] t s ex ss m t2 s2 e2 x y).fix := by kernel_rfl
theorem w3ftft (a b d : Lx) (t s : Nat) (ex : Bool) (ss : List Value) (m t2 s2 : Nat) (e2 : Bool) (x y : Int) : (o4 false true false true [a, b, d] t s ex ss m t2 s2 e2 x y).vals = lawT a [b, d] ss m x y false true false true := by kernel_rfl
theorem y3ftft (a b d : Lx) (t s : Nat) (ex : Bool) (ss : List Value) (m t2 s2 : Nat) (e2 : Bool) (x y : Int) : o4 false true false true [a, b, d] t s ex ss m t2 s2 e2 x y = (o4 false true false true [a, b, d] t s ex ss m t2 s2 e2 x y).fix := by kernel_rfl
theorem w3ftff (a b d : Lx) (t s : Nat) (ex : Bool) (ss : List Value) (m t2 s2 : Nat) (e2 : Bool) (x y : Int) : (o4 false true false false [a, b, d] t s ex ss m t2 s2 e2 x y).vals = lawT a [b, d] ss m x y false true false false := by kernel_rfl
theorem y3ftff (a b d : Lx) (t s : Nat) (ex : Bool) (ss : List Value) (m t2 s2 : Nat) (e2 : Bool) (x y : Int) : o4 false true false false [a, b, d] t s ex ss m t2 s2 e2 x y = (o4 false true false false [a, b, d] t s ex ss m t2 s2 e2 x y).fix := by kernel_rfl
theorem w3fftt (a b d : Lx) (t s : Nat) (ex : Bool) (ss : List Value) (m t2 s2 : Nat) (e2 : Bool) (x y : Int) : (o4 false false true true [a, b, d] t s ex ss m t2 s2 e2 x y).vals = lawT a [b, d] ss m x y false false true true := by kernel_rfl
theorem y3fftt (a b d : Lx) (t s : Nat) (ex : Bool) (ss : List Value) (m t2 s2 : Nat) (e2 : Bool) (x y : Int) : o4 false false true true [a, b, d] t s ex ss m t2 s2 e2 x y = (o4 false false true true [a, b, d] t s ex ss m t2 s2 e2 x y).fix := by kernel_rfl
theorem w3fftf (a b d : Lx) (t s : Nat) (ex : Bool) (ss : List Value) (m t2 s2 : Nat) (e2 : Bool) (x y : Int) : (o4 false false true false [a, b, d] t s ex ss m t2 s2 e2 x y).vals = lawT a [b, d] ss m x y false false true false := by kernel_rfl
theorem y3fftf (a b d : Lx) (t s : Nat) (ex : Bool) (ss : List Value) (m t2 s2 : Nat) (e2 : Bool) (x y : Int) : o4 false false true false [a, b, d] t s ex ss m t2 s2 e2 x y = (o4 false false true false [a, b, d] t s ex ss m t2 s2 e2 x y).fix := by kernel_rfl
theorem w3ffff (a b d : Lx) (t s : Nat) (ex : Bool) (ss : List Value) (m t2 s2 : Nat) (e2 : Bool) (x y : Int) : (o4 false false false false [a, b, d] t s ex ss m t2 s2 e2 x y).vals = lawT a [b, d] ss m x y false false false false := by kernel_rfl
theorem y3ffff (a b d : Lx) (t s : Nat) (ex : Bool) (ss : List Value) (m t2 s2 : Nat) (e2 : Bool) (x y : Int) : o4 false false false false [a, b, d] t s ex ss m t2 s2 e2 x y = (o4 false false false false [a, b, d] t s ex ss m t2 s2 e2 x y).fix := by kernel_rfl
end Go.Proofs.YtdnogbdfiahcaaaGreat.Ways
