import Derived.Test.YtdnogbdfiahcaaaGreatWr7
import Derived.Test.YtdnogbdfiahcaaaGreatWr8
import Derived.Test.YtdnogbdfiahcaaaGreatWr9
import Derived.Test.YtdnogbdfiahcaaaGreatWr0
import Derived.Test.YtdnogbdfiahcaaaGreatEngCard
import Derived.Test.YtdnogbdfiahcaaaGreatEngArg
import Derived.Test.YtdnogbdfiahcaaaGreatRows
noncomputable section
namespace Go.Proofs.YtdnogbdfiahcaaaGreat.Ways
open Go Go.Ex Go.RowKit
/-! ### the law, for each number of lists and each way -/
def RunOK (a : Lx) (r : List Lx) (t s : Nat) (ex : Bool) (ss : List Value) (m t2 s2 : Nat) (e2 : Bool) (x y : Int) (gp gv gc z : Bool) : Prop :=
  ∃ z', (o4 gp gv gc z' (a :: r) t s ex ss m t2 s2 e2 x y).vals = lawT a r ss m x y gp gv gc z ∧ o4 gp gv gc z' (a :: r) t s ex ss m t2 s2 e2 x y = (o4 gp gv gc z' (a :: r) t s ex ss m t2 s2 e2 x y).fix
theorem run_1 (a : Lx) (t s : Nat) (ex : Bool) (ss : List Value) (m t2 s2 : Nat) (e2 : Bool) (x y : Int) : ∀ gp gv gc z, RunOK a [] t s ex ss m t2 s2 e2 x y gp gv gc z
  | true, true, true, true => ⟨true, w1tttt a t s ex ss m t2 s2 e2 x y, y1tttt a t s ex ss m t2 s2 e2 x y⟩
  | true, true, true, false => ⟨false, w1tttf a t s ex ss m t2 s2 e2 x y, y1tttf a t s ex ss m t2 s2 e2 x y⟩
  | true, true, false, true => ⟨true, w1ttft a t s ex ss m t2 s2 e2 x y, y1ttft a t s ex ss m t2 s2 e2 x y⟩
  | true, true, false, false => ⟨false, w1ttff a t s ex ss m t2 s2 e2 x y, y1ttff a t s ex ss m t2 s2 e2 x y⟩
  | true, false, true, true => ⟨true, w1tftt a t s ex ss m t2 s2 e2 x y, y1tftt a t s ex ss m t2 s2 e2 x y⟩
  | true, false, true, false => ⟨false, w1tftf a t s ex ss m t2 s2 e2 x y, y1tftf a t s ex ss m t2 s2 e2 x y⟩
  | true, false, false, true => ⟨true, w1tfft a t s ex ss m t2 s2 e2 x y, y1tfft a t s ex ss m t2 s2 e2 x y⟩
  | true, false, false, false => ⟨false, w1tfff a t s ex ss m t2 s2 e2 x y, y1tfff a t s ex ss m t2 s2 e2 x y⟩
  | false, true, true, true => ⟨true, w1fttt a t s ex ss m t2 s2 e2 x y, y1fttt a t s ex ss m t2 s2 e2 x y⟩
  | false, true, true, false => ⟨false, w1fttf a t s ex ss m t2 s2 e2 x y, y1fttf a t s ex ss m t2 s2 e2 x y⟩
  | false, true, false, true => ⟨true, w1ftft a t s ex ss m t2 s2 e2 x y, y1ftft a t s ex ss m t2 s2 e2 x y⟩
  | false, true, false, false => ⟨false, w1ftff a t s ex ss m t2 s2 e2 x y, y1ftff a t s ex ss m t2 s2 e2 x y⟩
  | false, false, true, true => ⟨true, w1fftt a t s ex ss m t2 s2 e2 x y, y1fftt a t s ex ss m t2 s2 e2 x y⟩
  | false, false, true, false => ⟨false, w1fftf a t s ex ss m t2 s2 e2 x y, y1fftf a t s ex ss m t2 s2 e2 x y⟩
  | false, false, false, true => ⟨false, w1ffff a t s ex ss m t2 s2 e2 x y, y1ffff a t s ex ss m t2 s2 e2 x y⟩
  | false, false, false, false => ⟨false, w1ffff a t s ex ss m t2 s2 e2 x y, y1ffff a t s ex ss m t2 s2 e2 x y⟩
theorem run_2 (a b : Lx) (t s : Nat) (ex : Bool) (ss : List Value) (m t2 s2 : Nat) (e2 : Bool) (x y : Int) : ∀ gp gv gc z, RunOK a [b] t s ex ss m t2 s2 e2 x y gp gv gc z
  | true, true, true, true => ⟨true, w2tttt a b t s ex ss m t2 s2 e2 x y, y2tttt a b t s ex ss m t2 s2 e2 x y⟩
  | true, true, true, false => ⟨false, w2tttf a b t s ex ss m t2 s2 e2 x y, y2tttf a b t s ex ss m t2 s2 e2 x y⟩
  | true, true, false, true => ⟨true, w2ttft a b t s ex ss m t2 s2 e2 x y, y2ttft a b t s ex ss m t2 s2 e2 x y⟩
  | true, true, false, false => ⟨false, w2ttff a b t s ex ss m t2 s2 e2 x y, y2ttff a b t s ex ss m t2 s2 e2 x y⟩
  | true, false, true, true => ⟨true, w2tftt a b t s ex ss m t2 s2 e2 x y, y2tftt a b t s ex ss m t2 s2 e2 x y⟩
  | true, false, true, false => ⟨false, w2tftf a b t s ex ss m t2 s2 e2 x y, y2tftf a b t s ex ss m t2 s2 e2 x y⟩
  | true, false, false, true => ⟨true, w2tfft a b t s ex ss m t2 s2 e2 x y, y2tfft a b t s ex ss m t2 s2 e2 x y⟩
  | true, false, false, false => ⟨false, w2tfff a b t s ex ss m t2 s2 e2 x y, y2tfff a b t s ex ss m t2 s2 e2 x y⟩
  | false, true, true, true => ⟨true, w2fttt a b t s ex ss m t2 s2 e2 x y, y2fttt a b t s ex ss m t2 s2 e2 x y⟩
  | false, true, true, false => ⟨false, w2fttf a b t s ex ss m t2 s2 e2 x y, y2fttf a b t s ex ss m t2 s2 e2 x y⟩
  | false, true, false, true => ⟨true, w2ftft a b t s ex ss m t2 s2 e2 x y, y2ftft a b t s ex ss m t2 s2 e2 x y⟩
  | false, true, false, false => ⟨false, w2ftff a b t s ex ss m t2 s2 e2 x y, y2ftff a b t s ex ss m t2 s2 e2 x y⟩
  | false, false, true, true => ⟨true, w2fftt a b t s ex ss m t2 s2 e2 x y, y2fftt a b t s ex ss m t2 s2 e2 x y⟩
  | false, false, true, false => ⟨false, w2fftf a b t s ex ss m t2 s2 e2 x y, y2fftf a b t s ex ss m t2 s2 e2 x y⟩
  | false, false, false, true => ⟨false, w2ffff a b t s ex ss m t2 s2 e2 x y, y2ffff a b t s ex ss m t2 s2 e2 x y⟩
  | false, false, false, false => ⟨false, w2ffff a b t s ex ss m t2 s2 e2 x y, y2ffff a b t s ex ss m t2 s2 e2 x y⟩
theorem run_3 (a b d : Lx) (t s : Nat) (ex : Bool) (ss : List Value) (m t2 s2 : Nat) (e2 : Bool) (x y : Int) : ∀ gp gv gc z, RunOK a [b, d] t s ex ss m t2 s2 e2 x y gp gv gc z
  | true, true, true, true => ⟨true, w3tttt a b d t s ex ss m t2 s2 e2 x y, y3tttt a b d t s ex ss m t2 s2 e2 x y⟩
  | true, true, true, false => ⟨false, w3tttf a b d t s ex ss m t2 s2 e2 x y, y3tttf a b d t s ex ss m t2 s2 e2 x y⟩
  | true, true, false, true => ⟨true, w3ttft a b d t s ex ss m t2 s2 e2 x y, y3ttft a b d t s ex ss m t2 s2 e2 x y⟩
  | true, true, false, false => ⟨false, w3ttff a b d t s ex ss m t2 s2 e2 x y, y3ttff a b d t s ex ss m t2 s2 e2 x y⟩
  | true, false, true, true => ⟨true, w3tftt a b d t s ex ss m t2 s2 e2 x y, y3tftt a b d t s ex ss m t2 s2 e2 x y⟩
  | true, false, true, false => ⟨false, w3tftf a b d t s ex ss m t2 s2 e2 x y, y3tftf a b d t s ex ss m t2 s2 e2 x y⟩
  | true, false, false, true => ⟨true, w3tfft a b d t s ex ss m t2 s2 e2 x y, y3tfft a b d t s ex ss m t2 s2 e2 x y⟩
  | true, false, false, false => ⟨false, w3tfff a b d t s ex ss m t2 s2 e2 x y, y3tfff a b d t s ex ss m t2 s2 e2 x y⟩
  | false, true, true, true => ⟨true, w3fttt a b d t s ex ss m t2 s2 e2 x y, y3fttt a b d t s ex ss m t2 s2 e2 x y⟩
  | false, true, true, false => ⟨false, w3fttf a b d t s ex ss m t2 s2 e2 x y, y3fttf a b d t s ex ss m t2 s2 e2 x y⟩
  | false, true, false, true => ⟨true, w3ftft a b d t s ex ss m t2 s2 e2 x y, y3ftft a b d t s ex ss m t2 s2 e2 x y⟩
  | false, true, false, false => ⟨false, w3ftff a b d t s ex ss m t2 s2 e2 x y, y3ftff a b d t s ex ss m t2 s2 e2 x y⟩
  | false, false, true, true => ⟨true, w3fftt a b d t s ex ss m t2 s2 e2 x y, y3fftt a b d t s ex ss m t2 s2 e2 x y⟩
  | false, false, true, false => ⟨false, w3fftf a b d t s ex ss m t2 s2 e2 x y, y3fftf a b d t s ex ss m t2 s2 e2 x y⟩
  | false, false, false, true => ⟨false, w3ffff a b d t s ex ss m t2 s2 e2 x y, y3ffff a b d t s ex ss m t2 s2 e2 x y⟩
  | false, false, false, false => ⟨false, w3ffff a b d t s ex ss m t2 s2 e2 x y, y3ffff a b d t s ex ss m t2 s2 e2 x y⟩
theorem run_4 (a b d e : Lx) (t s : Nat) (ex : Bool) (ss : List Value) (m t2 s2 : Nat) (e2 : Bool) (x y : Int) : ∀ gp gv gc z, RunOK a [b, d, e] t s ex ss m t2 s2 e2 x y gp gv gc z
  | true, true, true, true => ⟨true, w4tttt a b d e t s ex ss m t2 s2 e2 x y, y4tttt a b d e t s ex ss m t2 s2 e2 x y⟩
  | true, true, true, false => ⟨false, w4tttf a b d e t s ex ss m t2 s2 e2 x y, y4tttf a b d e t s ex ss m t2 s2 e2 x y⟩
  | true, true, false, true => ⟨true, w4ttft a b d e t s ex ss m t2 s2 e2 x y, y4ttft a b d e t s ex ss m t2 s2 e2 x y⟩
  | true, true, false, false => ⟨false, w4ttff a b d e t s ex ss m t2 s2 e2 x y, y4ttff a b d e t s ex ss m t2 s2 e2 x y⟩
  | true, false, true, true => ⟨true, w4tftt a b d e t s ex ss m t2 s2 e2 x y, y4tftt a b d e t s ex ss m t2 s2 e2 x y⟩
  | true, false, true, false => ⟨false, w4tftf a b d e t s ex ss m t2 s2 e2 x y, y4tftf a b d e t s ex ss m t2 s2 e2 x y⟩
  | true, false, false, true => ⟨true, w4tfft a b d e t s ex ss m t2 s2 e2 x y, y4tfft a b d e t s ex ss m t2 s2 e2 x y⟩
  | true, false, false, false => ⟨false, w4tfff a b d e t s ex ss m t2 s2 e2 x y, y4tfff a b d e t s ex ss m t2 s2 e2 x y⟩
  | false, true, true, true => ⟨true, w4fttt a b d e t s ex ss m t2 s2 e2 x y, y4fttt a b d e t s ex ss m t2 s2 e2 x y⟩
  | false, true, true, false => ⟨false, w4fttf a b d e t s ex ss m t2 s2 e2 x y, y4fttf a b d e t s ex ss m t2 s2 e2 x y⟩
  | false, true, false, true => ⟨true, w4ftft a b d e t s ex ss m t2 s2 e2 x y, y4ftft a b d e t s ex ss m t2 s2 e2 x y⟩
  | false, true, false, false => ⟨false, w4ftff a b d e t s ex ss m t2 s2 e2 x y, y4ftff a b d e t s ex ss m t2 s2 e2 x y⟩
  | false, false, true, true => ⟨true, w4fftt a b d e t s ex ss m t2 s2 e2 x y, y4fftt a b d e t s ex ss m t2 s2 e2 x y⟩
  | false, false, true, false => ⟨false, w4fftf a b d e t s ex ss m t2 s2 e2 x y, y4fftf a b d e t s ex ss m t2 s2 e2 x y⟩
  | false, false, false, true => ⟨false, w4ffff a b d e t s ex ss m t2 s2 e2 x y, y4ffff a b d e t s ex ss m t2 s2 e2 x y⟩
  | false, false, false, false => ⟨false, w4ffff a b d e t s ex ss m t2 s2 e2 x y, y4ffff a b d e t s ex ss m t2 s2 e2 x y⟩
theorem run_5 (a b d e f : Lx) (t s : Nat) (ex : Bool) (ss : List Value) (m t2 s2 : Nat) (e2 : Bool) (x y : Int) : ∀ gp gv gc z, RunOK a [b, d, e, f] t s ex ss m t2 s2 e2 x y gp gv gc z
  | true, true, true, true => ⟨true, w5tttt a b d e f t s ex ss m t2 s2 e2 x y, y5tttt a b d e f t s ex ss m t2 s2 e2 x y⟩
  | true, true, true, false => ⟨false, w5tttf a b d e f t s ex ss m t2 s2 e2 x y, y5tttf a b d e f t s ex ss m t2 s2 e2 x y⟩
  | true, true, false, true => ⟨true, w5ttft a b d e f t s ex ss m t2 s2 e2 x y, y5ttft a b d e f t s ex ss m t2 s2 e2 x y⟩
  | true, true, false, false => ⟨false, w5ttff a b d e f t s ex ss m t2 s2 e2 x y, y5ttff a b d e f t s ex ss m t2 s2 e2 x y⟩
  | true, false, true, true => ⟨true, w5tftt a b d e f t s ex ss m t2 s2 e2 x y, y5tftt a b d e f t s ex ss m t2 s2 e2 x y⟩
  | true, false, true, false => ⟨false, w5tftf a b d e f t s ex ss m t2 s2 e2 x y, y5tftf a b d e f t s ex ss m t2 s2 e2 x y⟩
  | true, false, false, true => ⟨true, w5tfft a b d e f t s ex ss m t2 s2 e2 x y, y5tfft a b d e f t s ex ss m t2 s2 e2 x y⟩
  | true, false, false, false => ⟨false, w5tfff a b d e f t s ex ss m t2 s2 e2 x y, y5tfff a b d e f t s ex ss m t2 s2 e2 x y⟩
  | false, true, true, true => ⟨true, w5fttt a b d e f t s ex ss m t2 s2 e2 x y, y5fttt a b d e f t s ex ss m t2 s2 e2 x y⟩
  | false, true, true, false => ⟨false, w5fttf a b d e f t s ex ss m t2 s2 e2 x y, y5fttf a b d e f t s ex ss m t2 s2 e2 x y⟩
  | false, true, false, true => ⟨true, w5ftft a b d e f t s ex ss m t2 s2 e2 x y, y5ftft a b d e f t s ex ss m t2 s2 e2 x y⟩
  | false, true, false, false => ⟨false, w5ftff a b d e f t s ex ss m t2 s2 e2 x y, y5ftff a b d e f t s ex ss m t2 s2 e2 x y⟩
  | false, false, true, true => ⟨true, w5fftt a b d e f t s ex ss m t2 s2 e2 x y, y5fftt a b d e f t s ex ss m t2 s2 e2 x y⟩
  | false, false, true, false => ⟨false, w5fftf a b d e f t s ex ss m t2 s2 e2 x y, y5fftf a b d e f t s ex ss m t2 s2 e2 x y⟩
  | false, false, false, true => ⟨false, w5ffff a b d e f t s ex ss m t2 s2 e2 x y, y5ffff a b d e f t s ex ss m t2 s2 e2 x y⟩
  | false, false, false, false => ⟨false, w5ffff a b d e f t s ex ss m t2 s2 e2 x y, y5ffff a b d e f t s ex ss m t2 s2 e2 x y⟩
theorem run_6 (a b d e f h : Lx) (t s : Nat) (ex : Bool) (ss : List Value) (m t2 s2 : Nat) (e2 : Bool) (x y : Int) : ∀ gp gv gc z, RunOK a [b, d, e, f, h] t s ex ss m t2 s2 e2 x y gp gv gc z
  | true, true, true, true => ⟨true, w6tttt a b d e f h t s ex ss m t2 s2 e2 x y, y6tttt a b d e f h t s ex ss m t2 s2 e2 x y⟩
  | true, true, true, false => ⟨false, w6tttf a b d e f h t s ex ss m t2 s2 e2 x y, y6tttf a b d e f h t s ex ss m t2 s2 e2 x y⟩
  | true, true, false, true => ⟨true, w6ttft a b d e f h t s ex ss m t2 s2 e2 x y, y6ttft a b d e f h t s ex ss m t2 s2 e2 x y⟩
  | true, true, false, false => ⟨false, w6ttff a b d e f h t s ex ss m t2 s2 e2 x y, y6ttff a b d e f h t s ex ss m t2 s2 e2 x y⟩
  | true, false, true, true => ⟨true, w6tftt a b d e f h t s ex ss m t2 s2 e2 x y, y6tftt a b d e f h t s ex ss m t2 s2 e2 x y⟩
  | true, false, true, false => ⟨false, w6tftf a b d e f h t s ex ss m t2 s2 e2 x y, y6tftf a b d e f h t s ex ss m t2 s2 e2 x y⟩
  | true, false, false, true => ⟨true, w6tfft a b d e f h t s ex ss m t2 s2 e2 x y, y6tfft a b d e f h t s ex ss m t2 s2 e2 x y⟩
  | true, false, false, false => ⟨false, w6tfff a b d e f h t s ex ss m t2 s2 e2 x y, y6tfff a b d e f h t s ex ss m t2 s2 e2 x y⟩
  | false, true, true, true => ⟨true, w6fttt a b d e f h t s ex ss m t2 s2 e2 x y, y6fttt a b d e f h t s ex ss m t2 s2 e2 x y⟩
  | false, true, true, false => ⟨false, w6fttf a b d e f h t s ex ss m t2 s2 e2 x y, y6fttf a b d e f h t s ex ss m t2 s2 e2 x y⟩
  | false, true, false, true => ⟨true, w6ftft a b d e f h t s ex ss m t2 s2 e2 x y, y6ftft a b d e f h t s ex ss m t2 s2 e2 x y⟩
  | false, true, false, false => ⟨false, w6ftff a b d e f h t s ex ss m t2 s2 e2 x y, y6ftff a b d e f h t s ex ss m t2 s2 e2 x y⟩
  | false, false, true, true => ⟨true, w6fftt a b d e f h t s ex ss m t2 s2 e2 x y, y6fftt a b d e f h t s ex ss m t2 s2 e2 x y⟩
  | false, false, true, false => ⟨false, w6fftf a b d e f h t s ex ss m t2 s2 e2 x y, y6fftf a b d e f h t s ex ss m t2 s2 e2 x y⟩
  | false, false, false, true => ⟨false, w6ffff a b d e f h t s ex ss m t2 s2 e2 x y, y6ffff a b d e f h t s ex ss m t2 s2 e2 x y⟩
  | false, false, false, false => ⟨false, w6ffff a b d e f h t s ex ss m t2 s2 e2 x y, y6ffff a b d e f h t s ex ss m t2 s2 e2 x y⟩
theorem run_7 (a b d e f h j : Lx) (t s : Nat) (ex : Bool) (ss : List Value) (m t2 s2 : Nat) (e2 : Bool) (x y : Int) : ∀ gp gv gc z, RunOK a [b, d, e, f, h, j] t s ex ss m t2 s2 e2 x y gp gv gc z
  | true, true, true, true => ⟨true, w7tttt a b d e f h j t s ex ss m t2 s2 e2 x y, y7tttt a b d e f h j t s ex ss m t2 s2 e2 x y⟩
  | true, true, true, false => ⟨false, w7tttf a b d e f h j t s ex ss m t2 s2 e2 x y, y7tttf a b d e f h j t s ex ss m t2 s2 e2 x y⟩
  | true, true, false, true => ⟨true, w7ttft a b d e f h j t s ex ss m t2 s2 e2 x y, y7ttft a b d e f h j t s ex ss m t2 s2 e2 x y⟩
  | true, true, false, false => ⟨false, w7ttff a b d e f h j t s ex ss m t2 s2 e2 x y, y7ttff a b d e f h j t s ex ss m t2 s2 e2 x y⟩
  | true, false, true, true => ⟨true, w7tftt a b d e f h j t s ex ss m t2 s2 e2 x y, y7tftt a b d e f h j t s ex ss m t2 s2 e2 x y⟩
  | true, false, true, false => ⟨false, w7tftf a b d e f h j t s ex ss m t2 s2 e2 x y, y7tftf a b d e f h j t s ex ss m t2 s2 e2 x y⟩
  | true, false, false, true => ⟨true, w7tfft a b d e f h j t s ex ss m t2 s2 e2 x y, y7tfft a b d e f h j t s ex ss m t2 s2 e2 x y⟩
  | true, false, false, false => ⟨false, w7tfff a b d e f h j t s ex ss m t2 s2 e2 x y, y7tfff a b d e f h j t s ex ss m t2 s2 e2 x y⟩
  | false, true, true, true => ⟨true, w7fttt a b d e f h j t s ex ss m t2 s2 e2 x y, y7fttt a b d e f h j t s ex ss m t2 s2 e2 x y⟩
  | false, true, true, false => ⟨false, w7fttf a b d e f h j t s ex ss m t2 s2 e2 x y, y7fttf a b d e f h j t s ex ss m t2 s2 e2 x y⟩
  | false, true, false, true => ⟨true, w7ftft a b d e f h j t s ex ss m t2 s2 e2 x y, y7ftft a b d e f h j t s ex ss m t2 s2 e2 x y⟩
  | false, true, false, false => ⟨false, w7ftff a b d e f h j t s ex ss m t2 s2 e2 x y, y7ftff a b d e f h j t s ex ss m t2 s2 e2 x y⟩
  | false, false, true, true => ⟨true, w7fftt a b d e f h j t s ex ss m t2 s2 e2 x y, y7fftt a b d e f h j t s ex ss m t2 s2 e2 x y⟩
  | false, false, true, false => ⟨false, w7fftf a b d e f h j t s ex ss m t2 s2 e2 x y, y7fftf a b d e f h j t s ex ss m t2 s2 e2 x y⟩
  | false, false, false, true => ⟨false, w7ffff a b d e f h j t s ex ss m t2 s2 e2 x y, y7ffff a b d e f h j t s ex ss m t2 s2 e2 x y⟩
  | false, false, false, false => ⟨false, w7ffff a b d e f h j t s ex ss m t2 s2 e2 x y, y7ffff a b d e f h j t s ex ss m t2 s2 e2 x y⟩
theorem run_8 (a b d e f h j k : Lx) (t s : Nat) (ex : Bool) (ss : List Value) (m t2 s2 : Nat) (e2 : Bool) (x y : Int) : ∀ gp gv gc z, RunOK a [b, d, e, f, h, j, k] t s ex ss m t2 s2 e2 x y gp gv gc z
  | true, true, true, true => ⟨true, w8tttt a b d e f h j k t s ex ss m t2 s2 e2 x y, y8tttt a b d e f h j k t s ex ss m t2 s2 e2 x y⟩
  | true, true, true, false => ⟨false, w8tttf a b d e f h j k t s ex ss m t2 s2 e2 x y, y8tttf a b d e f h j k t s ex ss m t2 s2 e2 x y⟩
  | true, true, false, true => ⟨true, w8ttft a b d e f h j k t s ex ss m t2 s2 e2 x y, y8ttft a b d e f h j k t s ex ss m t2 s2 e2 x y⟩
  | true, true, false, false => ⟨false, w8ttff a b d e f h j k t s ex ss m t2 s2 e2 x y, y8ttff a b d e f h j k t s ex ss m t2 s2 e2 x y⟩
  | true, false, true, true => ⟨true, w8tftt a b d e f h j k t s ex ss m t2 s2 e2 x y, y8tftt a b d e f h j k t s ex ss m t2 s2 e2 x y⟩
  | true, false, true, false => ⟨false, w8tftf a b d e f h j k t s ex ss m t2 s2 e2 x y, y8tftf a b d e f h j k t s ex ss m t2 s2 e2 x y⟩
  | true, false, false, true => ⟨true, w8tfft a b d e f h j k t s ex ss m t2 s2 e2 x y, y8tfft a b d e f h j k t s ex ss m t2 s2 e2 x y⟩
  | true, false, false, false => ⟨false, w8tfff a b d e f h j k t s ex ss m t2 s2 e2 x y, y8tfff a b d e f h j k t s ex ss m t2 s2 e2 x y⟩
  | false, true, true, true => ⟨true, w8fttt a b d e f h j k t s ex ss m t2 s2 e2 x y, y8fttt a b d e f h j k t s ex ss m t2 s2 e2 x y⟩
  | false, true, true, false => ⟨false, w8fttf a b d e f h j k t s ex ss m t2 s2 e2 x y, y8fttf a b d e f h j k t s ex ss m t2 s2 e2 x y⟩
  | false, true, false, true => ⟨true, w8ftft a b d e f h j k t s ex ss m t2 s2 e2 x y, y8ftft a b d e f h j k t s ex ss m t2 s2 e2 x y⟩
  | false, true, false, false => ⟨false, w8ftff a b d e f h j k t s ex ss m t2 s2 e2 x y, y8ftff a b d e f h j k t s ex ss m t2 s2 e2 x y⟩
  | false, false, true, true => ⟨true, w8fftt a b d e f h j k t s ex ss m t2 s2 e2 x y, y8fftt a b d e f h j k t s ex ss m t2 s2 e2 x y⟩
  | false, false, true, false => ⟨false, w8fftf a b d e f h j k t s ex ss m t2 s2 e2 x y, y8fftf a b d e f h j k t s ex ss m t2 s2 e2 x y⟩
  | false, false, false, true => ⟨false, w8ffff a b d e f h j k t s ex ss m t2 s2 e2 x y, y8ffff a b d e f h j k t s ex ss m t2 s2 e2 x y⟩
  | false, false, false, false => ⟨false, w8ffff a b d e f h j k t s ex ss m t2 s2 e2 x y, y8ffff a b d e f h j k t s ex ss m t2 s2 e2 x y⟩
theorem run_9 (a b d e f h j k l : Lx) (t s : Nat) (ex : Bool) (ss : List Value) (m t2 s2 : Nat) (e2 : Bool) (x y : Int) : ∀ gp gv gc z, gv = false → RunOK a [b, d, e, f, h, j, k, l] t s ex ss m t2 s2 e2 x y gp gv gc z
  | true, true, true, true, h => by cases h
  | true, true, true, false, h => by cases h
  | true, true, false, true, h => by cases h
  | true, true, false, false, h => by cases h
  | true, false, true, true, _ => ⟨true, w9tftt a b d e f h j k l t s ex ss m t2 s2 e2 x y, y9tftt a b d e f h j k l t s ex ss m t2 s2 e2 x y⟩
  | true, false, true, false, _ => ⟨false, w9tftf a b d e f h j k l t s ex ss m t2 s2 e2 x y, y9tftf a b d e f h j k l t s ex ss m t2 s2 e2 x y⟩
  | true, false, false, true, _ => ⟨true, w9tfft a b d e f h j k l t s ex ss m t2 s2 e2 x y, y9tfft a b d e f h j k l t s ex ss m t2 s2 e2 x y⟩
  | true, false, false, false, _ => ⟨false, w9tfff a b d e f h j k l t s ex ss m t2 s2 e2 x y, y9tfff a b d e f h j k l t s ex ss m t2 s2 e2 x y⟩
  | false, true, true, true, h => by cases h
  | false, true, true, false, h => by cases h
  | false, true, false, true, h => by cases h
  | false, true, false, false, h => by cases h
  | false, false, true, true, _ => ⟨true, w9fftt a b d e f h j k l t s ex ss m t2 s2 e2 x y, y9fftt a b d e f h j k l t s ex ss m t2 s2 e2 x y⟩
  | false, false, true, false, _ => ⟨false, w9fftf a b d e f h j k l t s ex ss m t2 s2 e2 x y, y9fftf a b d e f h j k l t s ex ss m t2 s2 e2 x y⟩
  | false, false, false, true, _ => ⟨false, w9ffff a b d e f h j k l t s ex ss m t2 s2 e2 x y, y9ffff a b d e f h j k l t s ex ss m t2 s2 e2 x y⟩
  | false, false, false, false, _ => ⟨false, w9ffff a b d e f h j k l t s ex ss m t2 s2 e2 x y, y9ffff a b d e f h j k l t s ex ss m t2 s2 e2 x y⟩
theorem run_all4 (a : Lx) (t s : Nat) (ex : Bool) (ss : List Value) (m t2 s2 : Nat) (e2 : Bool) (x y : Int) (gp gv gc z : Bool) : ∀ r : List Lx, r.length ≤ 8 → (gv = true → r.length ≤ 7) → RunOK a r t s ex ss m t2 s2 e2 x y gp gv gc z
  | [], _, _ => run_1 a t s ex ss m t2 s2 e2 x y gp gv gc z
  | [b], _, _ => run_2 a b t s ex ss m t2 s2 e2 x y gp gv gc z
  | [b, d], _, _ => run_3 a b d t s ex ss m t2 s2 e2 x y gp gv gc z
  | [b, d, e], _, _ => run_4 a b d e t s ex ss m t2 s2 e2 x y gp gv gc z
  | [b, d, e, f], _, _ => run_5 a b d e f t s ex ss m t2 s2 e2 x y gp gv gc z
  | [b, d, e, f, h], _, _ => run_6 a b d e f h t s ex ss m t2 s2 e2 x y gp gv gc z
  | [b, d, e, f, h, j], _, _ => run_7 a b d e f h j t s ex ss m t2 s2 e2 x y gp gv gc z
  | [b, d, e, f, h, j, k], _, _ => run_8 a b d e f h j k t s ex ss m t2 s2 e2 x y gp gv gc z
  | [b, d, e, f, h, j, k, l], _, hh => run_9 a b d e f h j k l t s ex ss m t2 s2 e2 x y gp gv gc z (by cases gv with
    | false => rfl
    | true => exact absurd (hh rfl) (by simp))
  | _ :: _ :: _ :: _ :: _ :: _ :: _ :: _ :: _ :: l, h, _ => by simp at h
theorem law_some {a : Lx} {r : List Lx} {t s : Nat} {ex : Bool} {ss : List Value} {m t2 s2 : Nat} {e2 : Bool} {x y : Int} (hr : r.length ≤ 8) (hL : ∀ z ∈ a :: r, raw z.cs z.n z.c) (hs : raw ss m m) :
    ∃ H', Sound Tryz.prog ((a :: r).length + 3) (.call 4 ⟨[sl 1 0 (a :: r).length (a :: r).length, sl ((a :: r).length + 2) 0 m m, ag [i x, i y]]⟩ (heapL (deads ++ hp4 (a :: r) t s ex ss t2 s2 e2))) (.val (b_ true) H') := by
  have hv : decide (vE (a :: r) x = 0) = true → r.length ≤ 7 := fun h => by
    obtain ⟨_, h8, _⟩ := vE_zero (of_decide_eq_true h)
    rw [List.length_cons] at h8
    omega
  obtain ⟨z', h1, h2⟩ := run_all4 a t s ex ss m t2 s2 e2 x y (decide (pE a.n x y = 0)) (decide (vE (a :: r) x = 0)) (decide (lE a.n m = 0)) (decide (a.n = 0)) r hr hv
  obtain ⟨H', h'⟩ := Out.vals_sel h2 (v := b_ true) (by
    rw [h1]
    exact law_sel hL hs (by simp) (by simp) (by simp) (by simp))
  exact ⟨H', execO_sound (C := CT _ _ _ _) (tsA _ _ _ _) .none 120 _ _ h'⟩
theorem law_none {t s : Nat} {ex : Bool} {ss : List Value} {m t2 s2 : Nat} {e2 : Bool} {x y : Int} (hs : raw ss m m) :
    ∃ H', Sound Tryz.prog 3 (.call 4 ⟨[sl 1 0 0 0, sl 2 0 m m, ag [i x, i y]]⟩ (heapL (deads ++ [.cells [] t s ex, .cells ss t2 s2 e2]))) (.val (b_ true) H') := by
  obtain ⟨H', h'⟩ := Out.vals_sel (y4n t s ex ss m t2 s2 e2 x y (decide (pE 0 x y = 0)) (decide (lE 0 m = 0))) (v := b_ true) (by
    rw [w4n]
    exact nil_sel hs (by simp) (by simp))
  exact ⟨H', execO_sound (C := ⟨TN _ _, spN _ _, off_, noL⟩) (tsN _ _) .none 120 _ _ h'⟩
theorem law_many {m k c : Nat} {x y : Int} (hk : 9 < k) :
    ∃ H', Sound Tryz.prog 3 (.call 4 ⟨[sl 1 0 k c, sl 2 0 m m, ag [i x, i y]]⟩ (heapL (deads ++ [.dead, .dead]))) (.val (b_ true) H') := by
  obtain ⟨H', h'⟩ := Out.vals_sel (y4a m k c x y) (v := b_ true) (by
    rw [w4a]
    simp only [VT.sel]
    rw [ltF_eq, decide_eq_true (by omega)]; rfl)
  exact ⟨H', execO_sound (C := CTa) (tsA _ _ _ _) .none 120 _ _ h'⟩
end Go.Proofs.YtdnogbdfiahcaaaGreat.Ways
/- For every input nacellelaw04.VibrationAlarms returns true, and each argument reads afterwards as it read before: Persist, Vote and Latch give the results and the errors of the reference, for any lists of truth values and any two numbers. Conditions: none. -/
namespace Go.Proofs.YtdnogbdfiahcaaaGreat.Alarms
open Go Go.Ex Go.ChangeShapes Go.WideShapes Go.ChangeAt Go.RowKit Go.Proofs.YtdnogbdfiahcaaaGreat.Ways
theorem own : ownKnob Tryz.prog.godebug = none := by kernel_rfl
theorem laidOut : laidOutB Tryz.prog = true := by kernel_rfl
def kB : List CK := [.b]
def kI : List CK := [.i .i64, .i .i64]
theorem kinds4 : kindsOkB Tryz.prog 6 4 kB = true := by kernel_rfl
theorem kinds38 : kindsOkB Tryz.prog 6 38 kI = true := by kernel_rfl
theorem cells4 : Tryz.prog.cellsOf 4 = kB.length := by kernel_rfl
theorem cells37 : Tryz.prog.cellsOf 37 = 1 := by kernel_rfl
theorem cells38 : Tryz.prog.cellsOf 38 = kI.length := by kernel_rfl
theorem agg38 : aggB Tryz.prog 38 = some true := by kernel_rfl
theorem und36 : Tryz.prog.underlying 36 = some (.slice 37) := by kernel_rfl
theorem und37 : Tryz.prog.underlying 37 = some (.slice 4) := by kernel_rfl
theorem und4 : Tryz.prog.underlying 4 = some .bool := by kernel_rfl
theorem read36 : Tryz.prog.readableRec 36 = true := by kernel_rfl
theorem read37 : Tryz.prog.readableRec 37 = true := by kernel_rfl
theorem read38 : Tryz.prog.readableRec 38 = true := by kernel_rfl
theorem row36 : 36 < Tryz.prog.types.size := of_decide_eq_true (by kernel_rfl)
theorem row37 : 37 < Tryz.prog.types.size := of_decide_eq_true (by kernel_rfl)
theorem row38 : 38 < Tryz.prog.types.size := of_decide_eq_true (by kernel_rfl)
theorem raw_of {W : World} {v : Value} {cs : List Value} {n t s : Nat} {en : En} (h : SliceArg W kB v cs n t s en) : raw cs n n := by
  refine ⟨h.flat, Nat.le_refl n, fun j hj => ?_, by rw [h.len]; show n * 1 = n; omega⟩
  have h1 := h.kinds j hj
  unfold kB areCells at h1
  rw [Bool.and_eq_true] at h1
  exact h1.1
theorem vrs_three {E : Env} {a b c a' b' c' : Value} (h1 : VR E a a') (h2 : VR E b b') (h3 : VR E c c') : VRs E ⟨[a, b, c]⟩ #[a', b', c'] := by
  refine ⟨rfl, fun i x x' hx hx' => ?_⟩
  match i, hx, hx' with
  | 0, hx, hx' => cases hx; cases hx'; exact h1
  | 1, hx, hx' => cases hx; cases hx'; exact h2
  | 2, hx, hx' => cases hx; cases hx'; exact h3
  | k + 3, hx, _ => simp at hx
/-- one of the lists: its cells, its block, its value -/
structure Item (W : World) (arr : Array Value) (off i : Nat) (q : Lx × En × Value) : Prop where
  cell : arr[off + i]? = some q.2.2
  arg : SliceArg W kB q.2.2 q.1.cs q.1.n q.1.t q.1.s q.2.1
  cap : q.1.c = q.1.n
  ex : q.1.ex = false
theorem pick_list {α : Type} {P : Nat → α → Prop} : ∀ n : Nat, (∀ i, i < n → ∃ a, P i a) → ∃ l : List α, l.length = n ∧ ∀ i a, l[i]? = some a → P i a
  | 0, _ => ⟨[], rfl, fun i a h => by simp at h⟩
  | n + 1, h => by
    obtain ⟨l, h1, h2⟩ := pick_list n fun i hi => h i (by omega)
    obtain ⟨a, ha⟩ := h n (by omega)
    refine ⟨l ++ [a], by simp [h1], fun i b hb => ?_⟩
    by_cases hi : i < n
    · rw [List.getElem?_append_left (by omega)] at hb
      exact h2 i b hb
    · rw [List.getElem?_append_right (by omega), h1] at hb
      have : i = n := by
        match hk : i - n, hb with
        | 0, _ => omega
        | k + 1, hb => simp at hb
      subst this
      rw [Nat.sub_self] at hb
      cases hb
      exact ha
theorem cellsN_get : ∀ (L : List Lx) (b i : Nat) (x : Lx), L[i]? = some x → (cellsN b L)[i]? = some (sl (b + i) 0 x.n x.c)
  | [], _, _, _, h => by simp at h
  | y :: r, b, 0, x, h => by cases h; rfl
  | y :: r, b, i + 1, x, h => by
    have := cellsN_get r (b + 1) i x (by simpa using h)
    show (cellsN (b + 1) r)[i]? = _
    rw [this, show b + 1 + i = b + (i + 1) from by omega]
theorem cellsN_len : ∀ (L : List Lx) (b : Nat), (cellsN b L).length = L.length
  | [], _ => rfl
  | x :: r, b => by
    show (cellsN (b + 1) r).length + 1 = r.length + 1
    rw [cellsN_len r (b + 1)]
theorem start_get {es : List En} (j : Nat) : (startE gl ++ es)[1 + j]? = es[j]? := by
  have hsl : (startE gl).length = 1 := by simp [startE, gl]
  rw [List.getElem?_append_right (by omega), hsl]
  congr 1
  omega
theorem lists_get (L : List Lx) (t s : Nat) (ss : List Value) (t2 s2 : Nat) (j : Nat) : (heapL (deads ++ hp4 L t s false ss t2 s2 false))[1 + j]? = (hp4 L t s false ss t2 s2 false)[j]? := by
  rw [heapL_get]
  have : deads.length = 1 := deads_len
  rw [List.getElem?_append_right (by omega), this]
  congr 1
  omega
section
variable {W : World} {ss : List Value} {m t2 s2 : Nat} {en2 : En} {v0 v1 : Value} {x y : Int}
/-- some lists, at most nine -/
theorem calls_some {Q : List (Lx × En × Value)} {blk off len cap : Nat} {arr : Array Value} {tt : TypeId} {fz : Nat × Nat} (hQ : Q.length = len) (hI : ∀ i q, Q[i]? = some q → Item W arr off i q) (h1 : 1 ≤ len) (h9 : len ≤ 9) (hcap : len ≤ cap) (harr : W.heap[blk]? = some (.cells arr tt fz))
    (h2 : SliceArg W kB v1 ss m t2 s2 en2) : Calls Tryz.prog 4 #[.slice (some ⟨blk, off, none⟩) len cap, v1, ag [i x, i y]] W fun e W' => e = .returned (b_ true) ∧ Below W.heap.size W W' := by
  let L : List Lx := Q.map (·.1)
  have hL : L.length = len := by simp [L, hQ]
  let es : List En := (⟨blk, off, cap - len⟩ : En) :: (Q.map (·.2.1) ++ [en2])
  have hLg : ∀ (i : Nat) (q : Lx × En × Value), Q[i]? = some q → L[i]? = some q.1 := fun i q hq => by simp [L, hq]
  have hEg : ∀ (i : Nat) (q : Lx × En × Value), Q[i]? = some q → (startE gl ++ es)[2 + i]? = some q.2.1 := fun i q hq => by
    rw [show 2 + i = 1 + (i + 1) from by omega, start_get]
    show (Q.map (·.2.1) ++ [en2])[i]? = _
    have := (List.getElem?_eq_some_iff.1 hq).1
    rw [List.getElem?_append_left (by simpa using this), List.getElem?_map, hq]; rfl
  have hE2 : (startE gl ++ es)[len + 2]? = some en2 := by
    rw [show len + 2 = 1 + (len + 1) from by omega, start_get]
    show (Q.map (·.2.1) ++ [en2])[len]? = _
    rw [List.getElem?_append_right (by simp [hQ])]
    simp [hQ]
  have hhp : (hp4 L tt 1 false ss t2 s2 false).length = len + 2 := by simp [hp4, hpL2, blksN, hL]
  have hw := WR.startN (W := W) (Hv := Hd) (H := heapL (deads ++ hp4 L tt 1 false ss t2 s2 false)) (es := es) (by
      rw [heapL_len, List.length_append, deads_len, hhp]
      show gl + (len + 2) = gl + ((Q.map (·.2.1) ++ [en2]).length + 1)
      simp [hQ]) (Laid.of_dead hd_dead W) (fun b hb => by
      rw [heapL_get]
      match b, hb with
      | 0, _ => rfl) (fun j e hj => by
      show ∃ o, (heapL (deads ++ hp4 L tt 1 false ss t2 s2 false))[1 + j]? = some o ∧ _
      rw [lists_get]
      cases j with
      | zero =>
        cases hj
        refine ⟨_, rfl, .inr ⟨cellsN 2 L, tt, 1, rfl, .inr ⟨arr, fz, harr, fun i z hz => ?_⟩⟩⟩
        have hi : i < len := by
          have := (List.getElem?_eq_some_iff.1 hz).1
          rwa [cellsN_len, hL] at this
        have hq : Q[i]? = some Q[i] := List.getElem?_eq_getElem (by omega)
        have hI' := hI i _ hq
        rw [cellsN_get L 2 i _ (hLg i _ hq)] at hz
        cases hz
        refine ⟨_, hI'.cell, ?_⟩
        rw [hI'.cap]
        exact hI'.arg.vr _ _ (hEg i _ hq)
      | succ j =>
        have hj' : (Q.map (·.2.1) ++ [en2])[j]? = some e := by simpa [es] using hj
        show ∃ o, (blksN L ++ [CO.cells ss t2 s2 false])[j]? = some o ∧ _
        by_cases hjl : j < len
        · rw [List.getElem?_append_left (by simp [hQ]; exact hjl), List.getElem?_map] at hj'
          have hq : Q[j]? = some Q[j] := List.getElem?_eq_getElem (by omega)
          rw [hq] at hj'
          cases hj'
          have hI' := hI j _ hq
          refine ⟨.cells Q[j].1.cs Q[j].1.t Q[j].1.s false, ?_, hI'.arg.at_.n⟩
          rw [List.getElem?_append_left (by simp [blksN, hL]; exact hjl)]
          unfold blksN
          rw [List.getElem?_map, hLg j _ hq]
          show some (CO.cells Q[j].1.cs Q[j].1.t Q[j].1.s Q[j].1.ex) = _
          rw [hI'.ex]
        · rw [List.getElem?_append_right (by simp [hQ]; omega)] at hj'
          rw [List.getElem?_append_right (by simp [blksN, hL]; omega)]
          simp only [List.length_map, hQ, blksN, hL] at hj' ⊢
          match hk : j - len, hj' with
          | 0, hj' => cases hj'; exact ⟨_, rfl, h2.at_.n⟩
          | k + 1, hj' => simp at hj')
  have hv0 : VR (startE gl ++ es) (sl 1 0 len len) (.slice (some ⟨blk, off, none⟩) len cap) := by
    have := VR.slice (E := startE gl ++ es) (b := 1) (off := 0) (len := len) (cap := len) (off' := off) (e := ⟨blk, off, cap - len⟩) (by rw [show 1 = 1 + 0 from rfl, start_get]; rfl) (.inl (by simp))
    rw [show len + (cap - len) = cap from by omega] at this
    exact this
  have ha : VRs (startE gl ++ es) ⟨[sl 1 0 len len, sl (len + 2) 0 m m, ag [i x, i y]]⟩ #[.slice (some ⟨blk, off, none⟩) len cap, v1, ag [i x, i y]] := vrs_three hv0 (h2.vr _ _ hE2) (VR.of_clean _ 7 _ rfl)
  have hraw : ∀ z ∈ L, raw z.cs z.n z.c := fun z hz => by
    obtain ⟨q, hq, rfl⟩ := List.mem_map.1 hz
    obtain ⟨i, hi⟩ := List.getElem?_of_mem hq
    have hI' := hI i q hi
    rw [hI'.cap]
    exact raw_of hI'.arg
  clear_value L
  match L, hL with
  | [], hL => simp at hL; omega
  | a :: r, hL =>
    obtain ⟨H', hs⟩ := law_some (a := a) (r := r) (t := tt) (s := 1) (ex := false) (t2 := t2) (s2 := s2) (e2 := false) (x := x) (y := y) (by rw [List.length_cons] at hL; omega) hraw (raw_of h2)
    rw [hL] at hs
    refine calls_args (H' := H') hw ha rfl ?_
    rw [heapL_len, List.length_append, deads_len, hhp, show gl + (len + 2) = len + 3 from by show 1 + (len + 2) = _; omega]
    exact hs
theorem two_get {o1 o2 : CO} (j : Nat) : (heapL (deads ++ [o1, o2]))[1 + j]? = [o1, o2][j]? := by
  rw [heapL_get]
  have : deads.length = 1 := deads_len
  rw [List.getElem?_append_right (by omega), this]
  congr 1
  omega
/-- no list -/
theorem calls_none {e1 : En} (hat : (W.heap[e1.blk]?).isSome = true) (hv : ∀ E : Env, E[1]? = some e1 → VR E (sl 1 0 0 0) v0) (h2 : SliceArg W kB v1 ss m t2 s2 en2) :
    Calls Tryz.prog 4 #[v0, v1, ag [i x, i y]] W fun e W' => e = .returned (b_ true) ∧ Below W.heap.size W W' := by
  have hw := WR.startN (W := W) (Hv := Hd) (H := heapL (deads ++ [.cells [] 37 1 false, .cells ss t2 s2 false])) (es := [e1, en2]) (by rw [heapL_len]; rfl) (Laid.of_dead hd_dead W) (fun b hb => by
      rw [heapL_get]
      match b, hb with
      | 0, _ => rfl) (fun j e hj => by
      show ∃ o, (heapL (deads ++ [CO.cells [] 37 1 false, .cells ss t2 s2 false]))[1 + j]? = some o ∧ _
      rw [two_get]
      match j, hj with
      | 0, hj => cases hj; exact ⟨_, rfl, .inr ⟨[], 37, 1, rfl, .inl ⟨rfl, hat⟩⟩⟩
      | 1, hj => cases hj; exact ⟨_, rfl, h2.at_.n⟩
      | j + 2, hj => simp at hj)
  have ha : VRs (startE gl ++ [e1, en2]) ⟨[sl 1 0 0 0, sl 2 0 m m, ag [i x, i y]]⟩ #[v0, v1, ag [i x, i y]] := vrs_three (hv _ rfl) (h2.vr _ 2 rfl) (VR.of_clean _ 7 _ rfl)
  obtain ⟨H', hs⟩ := law_none (t := 37) (s := 1) (ex := false) (t2 := t2) (s2 := s2) (e2 := false) (x := x) (y := y) (raw_of h2)
  refine calls_args (H' := H') hw ha rfl ?_
  rw [heapL_len]
  exact hs
/-- more than nine lists -/
theorem calls_many {blk off len cap : Nat} (h9 : 9 < len) (hcap : len ≤ cap) (h2 : SliceArg W kB v1 ss m t2 s2 en2) :
    Calls Tryz.prog 4 #[.slice (some ⟨blk, off, none⟩) len cap, v1, ag [i x, i y]] W fun e W' => e = .returned (b_ true) ∧ Below W.heap.size W W' := by
  have hw := WR.startN (W := W) (Hv := Hd) (H := heapL (deads ++ [.dead, .dead])) (es := [⟨blk, off, cap - len⟩, en2]) (by rw [heapL_len]; rfl) (Laid.of_dead hd_dead W) (fun b hb => by
      rw [heapL_get]
      match b, hb with
      | 0, _ => rfl) (fun j e hj => by
      show ∃ o, (heapL (deads ++ [CO.dead, .dead]))[1 + j]? = some o ∧ _
      rw [two_get]
      match j, hj with
      | 0, hj => exact ⟨_, rfl, .inl rfl⟩
      | 1, hj => exact ⟨_, rfl, .inl rfl⟩
      | j + 2, hj => simp at hj)
  have hv0 : VR (startE gl ++ [(⟨blk, off, cap - len⟩ : En), en2]) (sl 1 0 len len) (.slice (some ⟨blk, off, none⟩) len cap) := by
    have := VR.slice (E := startE gl ++ [(⟨blk, off, cap - len⟩ : En), en2]) (b := 1) (off := 0) (len := len) (cap := len) (off' := off) (e := ⟨blk, off, cap - len⟩) rfl (.inl (by simp))
    rw [show len + (cap - len) = cap from by omega] at this
    exact this
  have ha : VRs (startE gl ++ [(⟨blk, off, cap - len⟩ : En), en2]) ⟨[sl 1 0 len len, sl 2 0 m m, ag [i x, i y]]⟩ #[.slice (some ⟨blk, off, none⟩) len cap, v1, ag [i x, i y]] := vrs_three hv0 (h2.vr _ 2 rfl) (VR.of_clean _ 7 _ rfl)
  obtain ⟨H', hs⟩ := law_many (m := m) (k := len) (c := len) (x := x) (y := y) h9
  refine calls_args (H' := H') hw ha rfl ?_
  rw [heapL_len]
  exact hs
end
set_option maxRecDepth 100000 in
/-- the call returns true -/
theorem law_calls {H : Type} {enc : TypeId × Value → H} {W : World} {r : Reach} {b0 : Nat} {v0 v1 : Value} {fuel : Nat} {z : DataW H × List MemPlace} {ss : List Value} {m t2 s2 : Nat} {en2 : En} {x y : Int} (h0 : (W.heap[0]?).isSome = true) (hok : Cell.okWide Tryz.prog W r b0 36 v0)
    (h : DataW.trod enc Tryz.prog W 0 (fun _ => true) true fuel 36 [v0] = some z) (h2 : SliceArg W kB v1 ss m t2 s2 en2) :
    Calls Tryz.prog 4 #[v0, v1, ag [i x, i y]] W fun e W' => e = .returned (b_ true) ∧ Below W.heap.size W W' := by
  rcases Go.Deep.open_slice und36 h with ⟨hv, _⟩ | ⟨a, len, cap, m', nf, D, Pl, hv, hb, hl, hm, hm', hx, hel⟩
  · cases hv
    exact calls_none (e1 := ⟨0, 1, 0⟩) h0 (fun E hE => .nils hE (by decide)) h2
  · cases hv
    have hcok := cellOk_slice und36 hok
    rcases hcok with h1 | ⟨a', len', cap', h1, hspot, arr, tt, fz, harr⟩
    · cases h1
    · cases h1
      have hm2 : m' = cap := by simpa using hm'
      subst hm2
      obtain ⟨blk, off, spot⟩ := a
      dsimp only at hspot harr
      subst hspot
      by_cases hz : len = 0
      · subst hz
        refine calls_none (e1 := ⟨blk, off, m'⟩) (by rw [harr]; rfl) (fun E hE => ?_) h2
        have := VR.slice (E := E) (b := 1) (off := 0) (len := 0) (cap := 0) (off' := off) hE (.inl (by simp))
        rw [Nat.zero_add] at this
        exact this
      by_cases h9 : 9 < len
      · exact calls_many h9 hl h2
      · obtain ⟨Q, hQ, hI⟩ := pick_list (α := Lx × En × Value) (P := fun i q => Item W arr off i q) len fun i hi => by
          obtain ⟨cs', g1, g2⟩ := hel i (by omega)
          rw [cells37] at g1
          obtain ⟨_, gl, gc⟩ := World.cells?_some g1
          match cs', gl with
          | [w], _ =>
            have hc0 := gc 0 (by omega)
            rw [add_eq, add_eq] at hc0
            obtain ⟨_, arr', _, _, q2, q3⟩ := cell_some hc0
            have harr' : arr' = arr := by
              have := q2.symm.trans harr
              injection this with this
              injection this
            subst harr'
            obtain ⟨cs, n, t, s, en, hs⟩ := open_in kB 6 und37 cells4 (by decide) kinds4 h0 g2
            refine ⟨(⟨cs, n, n, t, s, false⟩, en, w), ⟨?_, hs, rfl, rfl⟩⟩
            have q3' : arr'[off + i * 1 + 0]? = some w := q3
            rwa [show off + i * 1 + 0 = off + i from by omega] at q3'
        exact calls_some hQ hI (by omega) (by omega) hl harr h2
theorem heap_begin : ((begin Tryz.prog (fun _ _ => 0) default).world.heap[0]?.bind Obj.row?).isSome = true := by kernel_rfl
theorem heap0 {W : World} (hs : W.ShapedOpen Tryz.prog) : (W.heap[0]?).isSome = true := by
  obtain ⟨z, hz⟩ := Option.isSome_iff_exists.1 heap_begin
  obtain ⟨cs, h, _⟩ := hs.1 0 z.1 z.2 (of_decide_eq_true (by kernel_rfl)) hz
  rw [h]; rfl
set_option maxRecDepth 100000 in
theorem contract (H : Type) (enc : TypeId × Value → H) (W : World) (base : Nat) (args : Array Value) (ds gs : List (DataW H)) (before : List MemPlace)
    (hval : ∀ (j : Nat) t v, Tryz.f4.params[j]? = some t → args[j]? = some v → Value.okWide Tryz.prog W .any base t v)
    (hW : DataW.Whole enc Tryz.prog Tryz.f4.params.toList Rows.vibrationAlarmsSpec.vars false W args.toList ds gs before) (hs : W.ShapedOpen Tryz.prog) :
    Calls Tryz.prog 4 args W fun e W' => ∃ v, e = .returned v ∧ Rows.vibrationAlarmsSpec.post enc Tryz.prog Tryz.f4 false true false false W args v W' := by
  have hW' := hW
  obtain ⟨p, q, hA0, hV, rfl, hfz, hnd⟩ := hW
  have hA : DataW.TrodAll enc Tryz.prog W 0 (fun _ => true) true Tryz.f4.params.toList args.toList ds p := hA0
  rw [Tryz.params4] at hA hval
  obtain ⟨v0, v1, v2, d0, d1, d2, p0, p1, p2, rfl, rfl, rfl, h0, h1, h2⟩ := trodAll_three hA
  obtain ⟨rfl, rfl⟩ := trodVars_none hV
  clear hA0
  have hok0 := hval 0 36 v0 rfl rfl
  have hok0' : Cell.okWide Tryz.prog W .any base 36 v0 := by
    unfold Value.okWide at hok0
    rw [und36] at hok0
    exact hok0
  have hok1 := hval 1 37 v1 rfl rfl
  have hok1' : Cell.okWide Tryz.prog W .any base 37 v1 := by
    unfold Value.okWide at hok1
    rw [und37] at hok1
    exact hok1
  obtain ⟨f0, hf0⟩ := h0
  obtain ⟨f1, hf1⟩ := h1
  have hone0 : v0.cells.toList = [v0] := by obtain ⟨a, l, c, rfl⟩ := okWide_slice und36 hok0; rfl
  have hone1 : v1.cells.toList = [v1] := by obtain ⟨a, l, c, rfl⟩ := okWide_slice und37 hok1; rfl
  obtain ⟨cs2, hv2, _, _⟩ := open_flat kI 6 agg38 cells38 kinds38 (hval 2 38 v2 rfl rfl) h2
  have hv2' : v2 = ag [i (intO cs2[0]?), i (intO cs2[1]?)] := hv2
  rw [hone0] at hf0
  rw [hone1] at hf1
  obtain ⟨ss, m, tt2, ss2, en2, hsl2⟩ := open_arg kB 6 und37 cells4 kinds4 (heap0 hs) hok1' hf1
  have hlt := fun x hx => hW'.lt x hx
  have hcall := law_calls (x := intO cs2[0]?) (y := intO cs2[1]?) (heap0 hs) hok0' hf0 hsl2
  rw [← hv2'] at hcall
  refine hcall.mono fun e W' ⟨he, hb⟩ => ?_
  subst he
  refine ⟨_, rfl, post_of_below (pa := p0 ++ (p1 ++ p2)) (pv := []) hW' (fun _ _ _ => trodAll_mk1 (shut_bool und4 _)) (fun sp hsp => ?_) (fun _ _ => rfl) (by simp) hb (ok_one (by kernel_rfl) rfl (okWide_bool_mk und4 _))⟩
  rw [Tryz.params4]
  exact trodAll_mk3 (stays laidOut read36 row36 ⟨f0, by rw [hone0]; exact hf0⟩ hb (fun x hx => hlt x (by simp [hx])) (fun x hx => hsp x (by simp [hx])))
    (stays laidOut read37 row37 ⟨f1, by rw [hone1]; exact hf1⟩ hb (fun x hx => hlt x (by simp [hx])) (fun x hx => hsp x (by simp [hx])))
    (stays laidOut read38 row38 h2 hb (fun x hx => hlt x (by simp [hx])) (fun x hx => hsp x (by simp [hx])))
/-- A WORLD FOR THE WITNESS: the settled one -/
noncomputable def witWorld (os : Os) : World := World.holding Tryz.prog os ⟨#[], #[], []⟩
def wit : Array Value := #[.slice none 0 0, .slice none 0 0, .agg #[.int .i64 0, .int .i64 0]]
theorem reads (os : Os) {H : Type} (enc : TypeId × Value → H) : ∃ places, DataW.whole enc Tryz.prog ((witWorld os).forCall (fun _ _ => 0) ⟨#[], wit, []⟩).memory Tryz.f4.params.toList Rows.vibrationAlarmsSpec.vars false wit.toList 8 =
    some ([.nil, .nil, .agg [.lit (.int .i64 0), .lit (.int .i64 0)]], [], places) :=
  ⟨[], by kernel_rfl⟩
theorem laid_none (os : Os) : laidMetH Tryz.prog Rows.vibrationAlarmsRow.laid ((witWorld os).forCall (fun _ _ => 0) ⟨#[], wit, []⟩).memory :=
  laidMet_of_run' 8 (by kernel_rfl) (by kernel_rfl)
set_option maxRecDepth 100000 in
theorem lifted (os : Os) (started : os.Started) (H : Type) (enc : TypeId × Value → H) (F : Stop.Interp) :
    ReturnsInHanded {} Tryz.checked os 4 .any ((OpenSpec.ofChange Rows.vibrationAlarmsSpec).preRow enc Tryz.prog Tryz.f4 Rows.vibrationAlarmsRow.domain false Rows.vibrationAlarmsRow.laid) (((OpenSpec.ofChange Rows.vibrationAlarmsSpec).at F).post enc Tryz.prog Tryz.f4 false true false false) := by
  obtain ⟨places, hx⟩ := reads os enc
  refine returnsInHanded_of_row (C := Tryz.checked) (s := OpenSpec.ofChange Rows.vibrationAlarmsSpec) own started (by kernel_rfl) Tryz.func4
    (witness_row_at (enc := enc) (C := Tryz.checked) false (witWorld os) wit rfl (by kernel_rfl) (by kernel_rfl) (by kernel_rfl)
      (OpenSpec.preRow_of_cond 8 hx (by kernel_rfl) (fun k hk => by cases hk) (by kernel_rfl) (laid_none os))) ?_
  intro W base args ds gs before hval hW _ _ _ _ hs _
  exact contract H enc W base args ds gs before hval hW hs
end Go.Proofs.YtdnogbdfiahcaaaGreat.Alarms
namespace Go.Proofs.YtdnogbdfiahcaaaGreat
open Go Go.Ex Go.RowKit
/-- the statement -/
theorem alarms_said : Rows.VibrationAlarmsSaid :=
  OpenClaim.holds_of_cond 4 Tryz.f4 rfl rfl rfl rfl rfl rfl rfl ⟨rfl, rfl, rfl, rfl, rfl⟩ rfl rfl rfl rfl rfl (by kernel_rfl) Tryz.func4 (by kernel_rfl)
    (of_decide_eq_true (by kernel_rfl)) (by unfold Func.isWrapper; first | (rw [if_pos (by decide +kernel)]; kernel_rfl) | (rw [if_neg (by decide +kernel)]; exact ⟨rfl, rfl⟩))
    (fun os started H enc _ F => by rw [OpenClaim.pre_eq_preRow]; exact Alarms.lifted os started H enc F)
end Go.Proofs.YtdnogbdfiahcaaaGreat
