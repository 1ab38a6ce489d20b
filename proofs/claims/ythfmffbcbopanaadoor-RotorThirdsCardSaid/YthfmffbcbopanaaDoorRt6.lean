import Derived.Test.YthfmffbcbopanaaDoorRt5
import Derived.Test.YthfmffbcbopanaaDoorRt2
namespace Go.Proofs.YthfmffbcbopanaaDoor.Ways
open Go Go.Ex
noncomputable def T10 : Tb := ext T9 5 (pureE awS [0, 1, 2, 3] Ha)
theorem ts10 {G : Nat} : TSound Tryd.prog G T10 := by
  refine ts9.pure ha_vars fun args v h => ?_
  unfold awS at h
  split at h
  · cases h; exact aw_pure
  · cases h
def sp4 : List Nat := [52, 76, 88, 122, 125, 129, 133, 138, 150, 155, 160, 165, 170, 176, 197, 200, 204, 218, 222, 226, 230, 234, 268, 271, 275, 279, 283, 287, 294, 299, 304, 310, 360, 363, 367, 371, 376, 381, 386, 391]
noncomputable def C10 : Cfg := ⟨T10, fun f d => cond (Nat.beq f 4 && sp4.any fun x => Nat.beq x d) .bool (sp_ f d), off_, noL⟩
end Go.Proofs.YthfmffbcbopanaaDoor.Ways
