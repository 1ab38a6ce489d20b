import Derived.Test.YtphadgdlknhbnaaLf6
set_option maxRecDepth 10000
noncomputable section
namespace Go.Proofs.Ytphadgdlknhbnaa.Ways
open Go Go.Ex Go.RowKit Go.Turn
section
variable (cs ds : List Value) (n m : Nat) (x y : Int) (t s t2 s2 : Nat) (ex e2 : Bool)
theorem w5_00110000 : (o5 false false true true false false false false cs ds n m x y t s t2 s2 ex e2).vals = lawF false false true true false false false false cs ds n m x y := by kernel_rfl
theorem x5_00110000 : o5 false false true true false false false false cs ds n m x y t s t2 s2 ex e2 = (o5 false false true true false false false false cs ds n m x y t s t2 s2 ex e2).fix := by kernel_rfl
theorem w5_00111011 : (o5 false false true true true false true true cs ds n m x y t s t2 s2 ex e2).vals = lawF false false true true true false true true cs ds n m x y := by kernel_rfl
theorem x5_00111011 : o5 false false true true true false true true cs ds n m x y t s t2 s2 ex e2 = (o5 false false true true true false true true cs ds n m x y t s t2 s2 ex e2).fix := by kernel_rfl
theorem w5_00111110 : (o5 false false true true true true true false cs ds n m x y t s t2 s2 ex e2).vals = lawF false false true true true true true false cs ds n m x y := by kernel_rfl
theorem x5_00111110 : o5 false false true true true true true false cs ds n m x y t s t2 s2 ex e2 = (o5 false false true true true true true false cs ds n m x y t s t2 s2 ex e2).fix := by kernel_rfl
theorem w5_00100000 : (o5 false false true false false false false false cs ds n m x y t s t2 s2 ex e2).vals = lawF false false true false false false false false cs ds n m x y := by kernel_rfl
theorem x5_00100000 : o5 false false true false false false false false cs ds n m x y t s t2 s2 ex e2 = (o5 false false true false false false false false cs ds n m x y t s t2 s2 ex e2).fix := by kernel_rfl
theorem w5_00000000 : (o5 false false false false false false false false cs ds n m x y t s t2 s2 ex e2).vals = lawF false false false false false false false false cs ds n m x y := by kernel_rfl
theorem x5_00000000 : o5 false false false false false false false false cs ds n m x y t s t2 s2 ex e2 = (o5 false false false false false false false false cs ds n m x y t s t2 s2 ex e2).fix := by kernel_rfl
theorem w5_01110111 : (o5 false true true true false true true true cs ds n m x y t s t2 s2 ex e2).vals = lawF false true true true false true true true cs ds n m x y := by kernel_rfl
theorem x5_01110111 : o5 false true true true false true true true cs ds n m x y t s t2 s2 ex e2 = (o5 false true true true false true true true cs ds n m x y t s t2 s2 ex e2).fix := by kernel_rfl
theorem w5_01111010 : (o5 false true true true true false true false cs ds n m x y t s t2 s2 ex e2).vals = lawF false true true true true false true false cs ds n m x y := by kernel_rfl
theorem x5_01111010 : o5 false true true true true false true false cs ds n m x y t s t2 s2 ex e2 = (o5 false true true true true false true false cs ds n m x y t s t2 s2 ex e2).fix := by kernel_rfl
theorem w5_01111100 : (o5 false true true true true true false false cs ds n m x y t s t2 s2 ex e2).vals = lawF false true true true true true false false cs ds n m x y := by kernel_rfl
theorem x5_01111100 : o5 false true true true true true false false cs ds n m x y t s t2 s2 ex e2 = (o5 false true true true true true false false cs ds n m x y t s t2 s2 ex e2).fix := by kernel_rfl
theorem w5_01100111 : (o5 false true true false false true true true cs ds n m x y t s t2 s2 ex e2).vals = lawF false true true false false true true true cs ds n m x y := by kernel_rfl
theorem x5_01100111 : o5 false true true false false true true true cs ds n m x y t s t2 s2 ex e2 = (o5 false true true false false true true true cs ds n m x y t s t2 s2 ex e2).fix := by kernel_rfl
theorem w5_10100010 : (o5 true false true false false false true false cs ds n m x y t s t2 s2 ex e2).vals = lawF true false true false false false true false cs ds n m x y := by kernel_rfl
theorem x5_10100010 : o5 true false true false false false true false cs ds n m x y t s t2 s2 ex e2 = (o5 true false true false false false true false cs ds n m x y t s t2 s2 ex e2).fix := by kernel_rfl
theorem w5_11100010 : (o5 true true true false false false true false cs ds n m x y t s t2 s2 ex e2).vals = lawF true true true false false false true false cs ds n m x y := by kernel_rfl
theorem x5_11100010 : o5 true true true false false false true false cs ds n m x y t s t2 s2 ex e2 = (o5 true true true false false false true false cs ds n m x y t s t2 s2 ex e2).fix := by kernel_rfl
end
end Go.Proofs.Ytphadgdlknhbnaa.Ways
set_option maxRecDepth 10000
noncomputable section
namespace Go.Proofs.Ytphadgdlknhbnaa.Ways
open Go Go.Ex Go.RowKit Go.Turn
section
variable (cs ds : List Value) (n m : Nat) (x y : Int) (t s t2 s2 : Nat) (ex e2 : Bool)
theorem w5_00110111 : (o5 false false true true false true true true cs ds n m x y t s t2 s2 ex e2).vals = lawF false false true true false true true true cs ds n m x y := by kernel_rfl
theorem x5_00110111 : o5 false false true true false true true true cs ds n m x y t s t2 s2 ex e2 = (o5 false false true true false true true true cs ds n m x y t s t2 s2 ex e2).fix := by kernel_rfl
theorem w5_00111010 : (o5 false false true true true false true false cs ds n m x y t s t2 s2 ex e2).vals = lawF false false true true true false true false cs ds n m x y := by kernel_rfl
theorem x5_00111010 : o5 false false true true true false true false cs ds n m x y t s t2 s2 ex e2 = (o5 false false true true true false true false cs ds n m x y t s t2 s2 ex e2).fix := by kernel_rfl
theorem w5_00111100 : (o5 false false true true true true false false cs ds n m x y t s t2 s2 ex e2).vals = lawF false false true true true true false false cs ds n m x y := by kernel_rfl
theorem x5_00111100 : o5 false false true true true true false false cs ds n m x y t s t2 s2 ex e2 = (o5 false false true true true true false false cs ds n m x y t s t2 s2 ex e2).fix := by kernel_rfl
theorem w5_00100111 : (o5 false false true false false true true true cs ds n m x y t s t2 s2 ex e2).vals = lawF false false true false false true true true cs ds n m x y := by kernel_rfl
theorem x5_00100111 : o5 false false true false false true true true cs ds n m x y t s t2 s2 ex e2 = (o5 false false true false false true true true cs ds n m x y t s t2 s2 ex e2).fix := by kernel_rfl
theorem w5_01110011 : (o5 false true true true false false true true cs ds n m x y t s t2 s2 ex e2).vals = lawF false true true true false false true true cs ds n m x y := by kernel_rfl
theorem x5_01110011 : o5 false true true true false false true true cs ds n m x y t s t2 s2 ex e2 = (o5 false true true true false false true true cs ds n m x y t s t2 s2 ex e2).fix := by kernel_rfl
theorem w5_01110110 : (o5 false true true true false true true false cs ds n m x y t s t2 s2 ex e2).vals = lawF false true true true false true true false cs ds n m x y := by kernel_rfl
theorem x5_01110110 : o5 false true true true false true true false cs ds n m x y t s t2 s2 ex e2 = (o5 false true true true false true true false cs ds n m x y t s t2 s2 ex e2).fix := by kernel_rfl
theorem w5_01111000 : (o5 false true true true true false false false cs ds n m x y t s t2 s2 ex e2).vals = lawF false true true true true false false false cs ds n m x y := by kernel_rfl
theorem x5_01111000 : o5 false true true true true false false false cs ds n m x y t s t2 s2 ex e2 = (o5 false true true true true false false false cs ds n m x y t s t2 s2 ex e2).fix := by kernel_rfl
theorem w5_01100011 : (o5 false true true false false false true true cs ds n m x y t s t2 s2 ex e2).vals = lawF false true true false false false true true cs ds n m x y := by kernel_rfl
theorem x5_01100011 : o5 false true true false false false true true cs ds n m x y t s t2 s2 ex e2 = (o5 false true true false false false true true cs ds n m x y t s t2 s2 ex e2).fix := by kernel_rfl
theorem w5_01100110 : (o5 false true true false false true true false cs ds n m x y t s t2 s2 ex e2).vals = lawF false true true false false true true false cs ds n m x y := by kernel_rfl
theorem x5_01100110 : o5 false true true false false true true false cs ds n m x y t s t2 s2 ex e2 = (o5 false true true false false true true false cs ds n m x y t s t2 s2 ex e2).fix := by kernel_rfl
theorem w5_10100110 : (o5 true false true false false true true false cs ds n m x y t s t2 s2 ex e2).vals = lawF true false true false false true true false cs ds n m x y := by kernel_rfl
theorem x5_10100110 : o5 true false true false false true true false cs ds n m x y t s t2 s2 ex e2 = (o5 true false true false false true true false cs ds n m x y t s t2 s2 ex e2).fix := by kernel_rfl
theorem w5_11100110 : (o5 true true true false false true true false cs ds n m x y t s t2 s2 ex e2).vals = lawF true true true false false true true false cs ds n m x y := by kernel_rfl
theorem x5_11100110 : o5 true true true false false true true false cs ds n m x y t s t2 s2 ex e2 = (o5 true true true false false true true false cs ds n m x y t s t2 s2 ex e2).fix := by kernel_rfl
end
end Go.Proofs.Ytphadgdlknhbnaa.Ways
