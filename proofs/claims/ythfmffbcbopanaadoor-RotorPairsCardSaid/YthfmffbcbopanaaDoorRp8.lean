import Derived.Test.YthfmffbcbopanaaDoorRp7
namespace Go.Proofs.YthfmffbcbopanaaDoor.Ways
open Go Go.Ex Go.RowKit
noncomputable def C7 : Cfg := ⟨T7, at_ [(3, 59), (3, 64), (3, 70), (3, 78), (3, 84), (3, 91), (3, 98)] .bool sp_⟩
theorem law_pure (a b c d n : Int) : Pure Tryd.prog Ha 3 [ag [i a, i b], ag [i c, i d], i n] (b_ true) :=
  pure_run (C := C7) (G := 4) 60 (lawT a b c d n) ts7 ha_len rfl (by kernel_rfl) (by kernel_rfl) (lawT_sel a b c d n)
end Go.Proofs.YthfmffbcbopanaaDoor.Ways
