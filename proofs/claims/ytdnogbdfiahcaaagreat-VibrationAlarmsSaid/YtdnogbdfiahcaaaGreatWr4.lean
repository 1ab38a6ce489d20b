import Derived.Test.YtdnogbdfiahcaaaGreatWr3
noncomputable section
namespace Go.Proofs.YtdnogbdfiahcaaaGreat.Ways
open Go Go.Ex Go.RowKit
theorem fW1z (a : Lx) (t s : Nat) (ex : Bool) (m : Int) (ro : Option Nat) : oW [a] t s ex m .z ro = (oW [a] t s ex m .z ro).fix := by kernel_rfl
theorem fW1m (a : Lx) (t s : Nat) (ex : Bool) (m : Int) (y : Int) (l : Nat) (out : List Value) (ro : Option Nat) : oW [a] t s ex m (.m y l out) ro = (oW [a] t s ex m (.m y l out) ro).fix := by kernel_rfl
theorem vW1z (a : Lx) (t s : Nat) (ex : Bool) (m : Int) (ro : Option Nat) : (oW [a] t s ex m .z ro).view (SW [a] t s ex m) .z (stW [a] m .z) = (stW [a] m .z).view (SW [a] t s ex m) .z := by kernel_rfl
theorem vW1m (a : Lx) (t s : Nat) (ex : Bool) (m : Int) (y : Int) (l : Nat) (out : List Value) (ro : Option Nat) : (oW [a] t s ex m (.m y l out) ro).view (SW [a] t s ex m) (.m y l out) (stW [a] m (.m y l out)) = (stW [a] m (.m y l out)).view (SW [a] t s ex m) (.m y l out) := by kernel_rfl
theorem gW1z (a : Lx) (t s : Nat) (ex : Bool) (m : Int) : (stW [a] m .z).good (SW [a] t s ex m) .z (1 + 2) = true := by kernel_rfl
theorem gW1m (a : Lx) (t s : Nat) (ex : Bool) (m : Int) (y : Int) (l : Nat) (out : List Value) : (stW [a] m (.m y l out)).good (SW [a] t s ex m) (.m y l out) (1 + 2) = true := by kernel_rfl
theorem fW2z (a b : Lx) (t s : Nat) (ex : Bool) (m : Int) (ro : Option Nat) : oW [a, b] t s ex m .z ro = (oW [a, b] t s ex m .z ro).fix := by kernel_rfl
theorem fW2m (a b : Lx) (t s : Nat) (ex : Bool) (m : Int) (y : Int) (l : Nat) (out : List Value) (ro : Option Nat) : oW [a, b] t s ex m (.m y l out) ro = (oW [a, b] t s ex m (.m y l out) ro).fix := by kernel_rfl
theorem vW2z (a b : Lx) (t s : Nat) (ex : Bool) (m : Int) (ro : Option Nat) : (oW [a, b] t s ex m .z ro).view (SW [a, b] t s ex m) .z (stW [a, b] m .z) = (stW [a, b] m .z).view (SW [a, b] t s ex m) .z := by kernel_rfl
theorem vW2m (a b : Lx) (t s : Nat) (ex : Bool) (m : Int) (y : Int) (l : Nat) (out : List Value) (ro : Option Nat) : (oW [a, b] t s ex m (.m y l out) ro).view (SW [a, b] t s ex m) (.m y l out) (stW [a, b] m (.m y l out)) = (stW [a, b] m (.m y l out)).view (SW [a, b] t s ex m) (.m y l out) := by kernel_rfl
theorem gW2z (a b : Lx) (t s : Nat) (ex : Bool) (m : Int) : (stW [a, b] m .z).good (SW [a, b] t s ex m) .z (2 + 2) = true := by kernel_rfl
theorem gW2m (a b : Lx) (t s : Nat) (ex : Bool) (m : Int) (y : Int) (l : Nat) (out : List Value) : (stW [a, b] m (.m y l out)).good (SW [a, b] t s ex m) (.m y l out) (2 + 2) = true := by kernel_rfl
theorem fW3z (a b d : Lx) (t s : Nat) (ex : Bool) (m : Int) (ro : Option Nat) : oW [a, b, d] t s ex m .z ro = (oW [a, b, d] t s ex m .z ro).fix := by kernel_rfl
theorem fW3m (a b d : Lx) (t s : Nat) (ex : Bool) (m : Int) (y : Int) (l : Nat) (out : List Value) (ro : Option Nat) : oW [a, b, d] t s ex m (.m y l out) ro = (oW [a, b, d] t s ex m (.m y l out) ro).fix := by kernel_rfl
theorem vW3z (a b d : Lx) (t s : Nat) (ex : Bool) (m : Int) (ro : Option Nat) : (oW [a, b, d] t s ex m .z ro).view (SW [a, b, d] t s ex m) .z (stW [a, b, d] m .z) = (stW [a, b, d] m .z).view (SW [a, b, d] t s ex m) .z := by kernel_rfl
theorem vW3m (a b d : Lx) (t s : Nat) (ex : Bool) (m : Int) (y : Int) (l : Nat) (out : List Value) (ro : Option Nat) : (oW [a, b, d] t s ex m (.m y l out) ro).view (SW [a, b, d] t s ex m) (.m y l out) (stW [a, b, d] m (.m y l out)) = (stW [a, b, d] m (.m y l out)).view (SW [a, b, d] t s ex m) (.m y l out) := by kernel_rfl
theorem gW3z (a b d : Lx) (t s : Nat) (ex : Bool) (m : Int) : (stW [a, b, d] m .z).good (SW [a, b, d] t s ex m) .z (3 + 2) = true := by kernel_rfl
theorem gW3m (a b d : Lx) (t s : Nat) (ex : Bool) (m : Int) (y : Int) (l : Nat) (out : List Value) : (stW [a, b, d] m (.m y l out)).good (SW [a, b, d] t s ex m) (.m y l out) (3 + 2) = true := by kernel_rfl
theorem fW4z (a b d e : Lx) (t s : Nat) (ex : Bool) (m : Int) (ro : Option Nat) : oW [a, b, d, e] t s ex m .z ro = (oW [a, b, d, e] t s ex m .z ro).fix := by kernel_rfl
theorem fW4m (a b d e : Lx) (t s : Nat) (ex : Bool) (m : Int) (y : Int) (l : Nat) (out : List Value) (ro : Option Nat) : oW [a, b, d, e] t s ex m (.m y l out) ro = (oW [a, b, d, e] t s ex m (.m y l out) ro).fix := by kernel_rfl
theorem vW4z (a b d e : Lx) (t s : Nat) (ex : Bool) (m : Int) (ro : Option Nat) : (oW [a, b, d, e] t s ex m .z ro).view (SW [a, b, d, e] t s ex m) .z (stW [a, b, d, e] m .z) = (stW [a, b, d, e] m .z).view (SW [a, b, d, e] t s ex m) .z := by kernel_rfl
theorem vW4m (a b d e : Lx) (t s : Nat) (ex : Bool) (m : Int) (y : Int) (l : Nat) (out : List Value) (ro : Option Nat) : (oW [a, b, d, e] t s ex m (.m y l out) ro).view (SW [a, b, d, e] t s ex m) (.m y l out) (stW [a, b, d, e] m (.m y l out)) = (stW [a, b, d, e] m (.m y l out)).view (SW [a, b, d, e] t s ex m) (.m y l out) := by kernel_rfl
theorem gW4z (a b d e : Lx) (t s : Nat) (ex : Bool) (m : Int) : (stW [a, b, d, e] m .z).good (SW [a, b, d, e] t s ex m) .z (4 + 2) = true := by kernel_rfl
theorem gW4m (a b d e : Lx) (t s : Nat) (ex : Bool) (m : Int) (y : Int) (l : Nat) (out : List Value) : (stW [a, b, d, e] m (.m y l out)).good (SW [a, b, d, e] t s ex m) (.m y l out) (4 + 2) = true := by kernel_rfl
end Go.Proofs.YtdnogbdfiahcaaaGreat.Ways
noncomputable section
namespace Go.Proofs.YtdnogbdfiahcaaaGreat.Ways
open Go Go.Ex Go.RowKit
theorem fW5z (a b d e f : Lx) (t s : Nat) (ex : Bool) (m : Int) (ro : Option Nat) : oW [a, b, d, e, f] t s ex m .z ro = (oW [a, b, d, e, f] t s ex m .z ro).fix := by kernel_rfl
theorem fW5m (a b d e f : Lx) (t s : Nat) (ex : Bool) (m : Int) (y : Int) (l : Nat) (out : List Value) (ro : Option Nat) : oW [a, b, d, e, f] t s ex m (.m y l out) ro = (oW [a, b, d, e, f] t s ex m (.m y l out) ro).fix := by kernel_rfl
theorem vW5z (a b d e f : Lx) (t s : Nat) (ex : Bool) (m : Int) (ro : Option Nat) : (oW [a, b, d, e, f] t s ex m .z ro).view (SW [a, b, d, e, f] t s ex m) .z (stW [a, b, d, e, f] m .z) = (stW [a, b, d, e, f] m .z).view (SW [a, b, d, e, f] t s ex m) .z := by kernel_rfl
theorem vW5m (a b d e f : Lx) (t s : Nat) (ex : Bool) (m : Int) (y : Int) (l : Nat) (out : List Value) (ro : Option Nat) : (oW [a, b, d, e, f] t s ex m (.m y l out) ro).view (SW [a, b, d, e, f] t s ex m) (.m y l out) (stW [a, b, d, e, f] m (.m y l out)) = (stW [a, b, d, e, f] m (.m y l out)).view (SW [a, b, d, e, f] t s ex m) (.m y l out) := by kernel_rfl
theorem gW5z (a b d e f : Lx) (t s : Nat) (ex : Bool) (m : Int) : (stW [a, b, d, e, f] m .z).good (SW [a, b, d, e, f] t s ex m) .z (5 + 2) = true := by kernel_rfl
theorem gW5m (a b d e f : Lx) (t s : Nat) (ex : Bool) (m : Int) (y : Int) (l : Nat) (out : List Value) : (stW [a, b, d, e, f] m (.m y l out)).good (SW [a, b, d, e, f] t s ex m) (.m y l out) (5 + 2) = true := by kernel_rfl
theorem fW6z (a b d e f h : Lx) (t s : Nat) (ex : Bool) (m : Int) (ro : Option Nat) : oW [a, b, d, e, f, h] t s ex m .z ro = (oW [a, b, d, e, f, h] t s ex m .z ro).fix := by kernel_rfl
theorem fW6m (a b d e f h : Lx) (t s : Nat) (ex : Bool) (m : Int) (y : Int) (l : Nat) (out : List Value) (ro : Option Nat) : oW [a, b, d, e, f, h] t s ex m (.m y l out) ro = (oW [a, b, d, e, f, h] t s ex m (.m y l out) ro).fix := by kernel_rfl
theorem vW6z (a b d e f h : Lx) (t s : Nat) (ex : Bool) (m : Int) (ro : Option Nat) : (oW [a, b, d, e, f, h] t s ex m .z ro).view (SW [a, b, d, e, f, h] t s ex m) .z (stW [a, b, d, e, f, h] m .z) = (stW [a, b, d, e, f, h] m .z).view (SW [a, b, d, e, f, h] t s ex m) .z := by kernel_rfl
theorem vW6m (a b d e f h : Lx) (t s : Nat) (ex : Bool) (m : Int) (y : Int) (l : Nat) (out : List Value) (ro : Option Nat) : (oW [a, b, d, e, f, h] t s ex m (.m y l out) ro).view (SW [a, b, d, e, f, h] t s ex m) (.m y l out) (stW [a, b, d, e, f, h] m (.m y l out)) = (stW [a, b, d, e, f, h] m (.m y l out)).view (SW [a, b, d, e, f, h] t s ex m) (.m y l out) := by kernel_rfl
theorem gW6z (a b d e f h : Lx) (t s : Nat) (ex : Bool) (m : Int) : (stW [a, b, d, e, f, h] m .z).good (SW [a, b, d, e, f, h] t s ex m) .z (6 + 2) = true := by kernel_rfl
theorem gW6m (a b d e f h : Lx) (t s : Nat) (ex : Bool) (m : Int) (y : Int) (l : Nat) (out : List Value) : (stW [a, b, d, e, f, h] m (.m y l out)).good (SW [a, b, d, e, f, h] t s ex m) (.m y l out) (6 + 2) = true := by kernel_rfl
end Go.Proofs.YtdnogbdfiahcaaaGreat.Ways
noncomputable section
namespace Go.Proofs.YtdnogbdfiahcaaaGreat.Ways
open Go Go.Ex Go.RowKit
theorem fW7z (a b d e f h j : Lx) (t s : Nat) (ex : Bool) (m : Int) (ro : Option Nat) : oW [a, b, d, e, f, h, j] t s ex m .z ro = (oW [a, b, d, e, f, h, j] t s ex m .z ro).fix := by kernel_rfl
theorem fW7m (a b d e f h j : Lx) (t s : Nat) (ex : Bool) (m : Int) (y : Int) (l : Nat) (out : List Value) (ro : Option Nat) : oW [a, b, d, e, f, h, j] t s ex m (.m y l out) ro = (oW [a, b, d, e, f, h, j] t s ex m (.m y l out) ro).fix := by kernel_rfl
theorem vW7z (a b d e f h j : Lx) (t s : Nat) (ex : Bool) (m : Int) (ro : Option Nat) : (oW [a, b, d, e, f, h, j] t s ex m .z ro).view (SW [a, b, d, e, f, h, j] t s ex m) .z (stW [a, b, d, e, f, h, j] m .z) = (stW [a, b, d, e, f, h, j] m .z).view (SW [a, b, d, e, f, h, j] t s ex m) .z := by kernel_rfl
theorem vW7m (a b d e f h j : Lx) (t s : Nat) (ex : Bool) (m : Int) (y : Int) (l : Nat) (out : List Value) (ro : Option Nat) : (oW [a, b, d, e, f, h, j] t s ex m (.m y l out) ro).view (SW [a, b, d, e, f, h, j] t s ex m) (.m y l out) (stW [a, b, d, e, f, h, j] m (.m y l out)) = (stW [a, b, d, e, f, h, j] m (.m y l out)).view (SW [a, b, d, e, f, h, j] t s ex m) (.m y l out) := by kernel_rfl
theorem gW7z (a b d e f h j : Lx) (t s : Nat) (ex : Bool) (m : Int) : (stW [a, b, d, e, f, h, j] m .z).good (SW [a, b, d, e, f, h, j] t s ex m) .z (7 + 2) = true := by kernel_rfl
theorem gW7m (a b d e f h j : Lx) (t s : Nat) (ex : Bool) (m : Int) (y : Int) (l : Nat) (out : List Value) : (stW [a, b, d, e, f, h, j] m (.m y l out)).good (SW [a, b, d, e, f, h, j] t s ex m) (.m y l out) (7 + 2) = true := by kernel_rfl
end Go.Proofs.YtdnogbdfiahcaaaGreat.Ways
