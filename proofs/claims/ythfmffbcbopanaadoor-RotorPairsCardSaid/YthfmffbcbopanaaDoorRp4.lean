import Derived.Test.YthfmffbcbopanaaDoorRp3
namespace Go.Proofs.YthfmffbcbopanaaDoor.Ways
open Go Go.Ex
def turnedS : List Value → Option Value
  | [.agg ⟨[.int .i64 a, .int .i64 b]⟩, .int .i64 n] => some (turnedV a b n)
  | _ => none
def rturnedS : List Value → Option Value
  | [.agg ⟨[.int .i64 a, .int .i64 b]⟩, .int .i64 n] => some (rturnedV a b n)
  | _ => none
noncomputable def T4 : Tb := ext (ext T3 38 (pureE turnedS [0] Hg)) 16 (pureE rturnedS [] Hd)
theorem ts4 : TSound Tryd.prog 4 T4 := by
  refine ((ts3.pure hg_vars fun args v h => ?_).pure hd_vars fun args v h => ?_)
  · unfold turnedS at h
    split at h
    · cases h; exact turned_pure _ _ _
    · cases h
  · unfold rturnedS at h
    split at h
    · cases h; exact rturned_pure _ _ _
    · cases h
noncomputable def C4 : Cfg := ⟨T4, sp_⟩
end Go.Proofs.YthfmffbcbopanaaDoor.Ways
