import Derived.Test.YtdnogbdfiahcaaaGreatWr3
noncomputable section
namespace Go.Proofs.YtdnogbdfiahcaaaGreat.Ways
open Go Go.Ex Go.RowKit
theorem fW8z (a b d e f h j k : Lx) (t s : Nat) (ex : Bool) (m : Int) (ro : Option Nat) : oW [a, b, d, e, f, h, j, k] t s ex m .z ro = (oW [a, b, d, e, f, h, j, k] t s ex m .z ro).fix := by kernel_rfl
theorem fW8m (a b d e f h j k : Lx) (t s : Nat) (ex : Bool) (m : Int) (y : Int) (l : Nat) (out : List Value) (ro : Option Nat) : oW [a, b, d, e, f, h, j, k] t s ex m (.m y l out) ro = (oW [a, b, d, e, f, h, j, k] t s ex m (.m y l out) ro).fix := by kernel_rfl
theorem vW8z (a b d e f h j k : Lx) (t s : Nat) (ex : Bool) (m : Int) (ro : Option Nat) : (oW [a, b, d, e, f, h, j, k] t s ex m .z ro).view (SW [a, b, d, e, f, h, j, k] t s ex m) .z (stW [a, b, d, e, f, h, j, k] m .z) = (stW [a, b, d, e, f, h, j, k] m .z).view (SW [a, b, d, e, f, h, j, k] t s ex m) .z := by kernel_rfl
theorem vW8m (a b d e f h j k : Lx) (t s : Nat) (ex : Bool) (m : Int) (y : Int) (l : Nat) (out : List Value) (ro : Option Nat) : (oW [a, b, d, e, f, h, j, k] t s ex m (.m y l out) ro).view (SW [a, b, d, e, f, h, j, k] t s ex m) (.m y l out) (stW [a, b, d, e, f, h, j, k] m (.m y l out)) = (stW [a, b, d, e, f, h, j, k] m (.m y l out)).view (SW [a, b, d, e, f, h, j, k] t s ex m) (.m y l out) := by kernel_rfl
theorem gW8z (a b d e f h j k : Lx) (t s : Nat) (ex : Bool) (m : Int) : (stW [a, b, d, e, f, h, j, k] m .z).good (SW [a, b, d, e, f, h, j, k] t s ex m) .z (8 + 2) = true := by kernel_rfl
theorem gW8m (a b d e f h j k : Lx) (t s : Nat) (ex : Bool) (m : Int) (y : Int) (l : Nat) (out : List Value) : (stW [a, b, d, e, f, h, j, k] m (.m y l out)).good (SW [a, b, d, e, f, h, j, k] t s ex m) (.m y l out) (8 + 2) = true := by kernel_rfl
end Go.Proofs.YtdnogbdfiahcaaaGreat.Ways
