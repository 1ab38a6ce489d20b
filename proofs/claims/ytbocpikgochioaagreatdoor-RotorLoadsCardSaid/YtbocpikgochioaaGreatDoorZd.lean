import Derived.Test.YtbocpikgochioaaGreatDoorZb
import Derived.Test.YtbocpikgochioaaGreatDoorZc
import Derived.Test.YtbocpikgochioaaGreatDoorZd0
namespace Go.Proofs.YtbocpikgochioaaGreatDoor.Ways
open Go Go.Ex
def sl (b o l k : Nat) : Value := .slice (some ⟨b, o, none⟩) l k
def pt (b o : Nat) : Value := .pointer (some ⟨b, o, none⟩)
def fn (f : Nat) : Value := .func (.func f) #[] #[]
def on_ (l : List (Nat × Nat)) (f d : Nat) : Bool := l.any fun x => Nat.beq x.1 f && Nat.beq x.2 d
/-- the loads of an entry -/
def c0E (cs : List Value) (j : Nat) : Int := intO cs[0 + j * 3]?
def c1E (cs : List Value) (j : Nat) : Int := intO cs[0 + j * 3 + 1]?
def c2E (cs : List Value) (j : Nat) : Int := intO cs[0 + j * 3 + 1 + 1]?
def eJE (cs : List Value) (j : Nat) : Int := inE (c0E cs j) (c1E cs j) (c2E cs j)
def k3 : List CK := [.i .i64, .i .i64, .i .i64]
def Lds (cs : List Value) (n : Nat) : Prop := ∀ j, j < n → areCells k3 cs (0 + j * 3) = true
def dd4 : List (CO × Bool) := [(.dead, false), (.dead, false), (.dead, false), (.dead, false)]
def gg4 : List (CO × Bool) := [(.cells powers 180 1 true, true), (.dead, false), (.dead, false), (.dead, false)]
noncomputable def B50 : Code := bodyL Tryz.f50 4
noncomputable def B124 : Code := bodyL Tryz.f124 3
noncomputable def B66 : Code := bodyL Tryz.f66 2
noncomputable def B89 : Code := bodyL Tryz.f89 6
noncomputable def B53 : Code := bodyL Tryz.f53 3
noncomputable def B54 : Code := bodyL Tryz.f54 3
noncomputable def T10 : Tb := ext (ext T9 Fn.ref03_Component (pureE (fun | [.agg ⟨[.int .i64 x, .int .i64 y, .int .i64 z]⟩] => some (ag [i (cpA x y z), i (cpB x y z)]) | _ => none) [] Hd)) Fn.ref03_Merge (pureE (fun | [.int .i64 s, .agg ⟨[.int .i64 a, .int .i64 b]⟩] => some (rMergeV s a b) | _ => none) [] Hd)
theorem ts10 {G : Nat} : TSound Tryz.prog G T10 := by
  refine ((ts9.pure hd_vars fun args v h => ?_).pure hd_vars fun args v h => ?_)
  · split at h
    · cases h; exact comp_pure _ _ _
    · cases h
  · split at h
    · cases h; exact rmerge_pure _ _ _
    · cases h
noncomputable def spL : Nat → Nat → Split := at_ [(Fn.ref03_CheckRecord, 11), (Fn.ref03_CheckRecord, 20), (Fn.list_Changed_3_int_api_Errno, 14), (Fn.check_First, 8), (Fn.rotor_part, 21), (Fn.ref03_Rotating, 8), (Fn.ref03_Fixed, 8)] .bool C8.sp
def syL : Nat → Nat → Bool := on_ [(Fn.ref03_CheckRecord, 16), (Fn.ref03_CheckRecord, 17), (Fn.list_Changed_3_int_api_Errno, 10), (Fn.list_Changed_3_int_api_Errno, 16), (Fn.list_Changed_3_int_api_Errno, 17), (Fn.list_Changed_3_int_api_Errno, 23), (Fn.list_Changed_3_int_api_Errno, 100023), (Fn.check_First, 9), (Fn.check_First, 10), (Fn.rotor_part, 23), (Fn.rotor_part, 24), (Fn.ref03_Rotating, 14), (Fn.ref03_Rotating, 15), (Fn.ref03_Fixed, 14), (Fn.ref03_Fixed, 15)]
noncomputable def spL' : Nat → Nat → Split := at_ [(Fn.ref03_CheckRecord, 7), (Fn.rotor_checkRecord, 5), (Fn.rotor_part, 15)] .bool spL
noncomputable def CL : Cfg := ⟨T10, spL, syL, noL⟩
end Go.Proofs.YtbocpikgochioaaGreatDoor.Ways
