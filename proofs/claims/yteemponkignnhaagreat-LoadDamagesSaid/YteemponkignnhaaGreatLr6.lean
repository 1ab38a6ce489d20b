import Derived.Test.YteemponkignnhaaGreatLr1
import Derived.Test.YteemponkignnhaaGreatEngEnt
import Derived.Test.YteemponkignnhaaGreatEngOrdA
set_option maxRecDepth 10000
noncomputable section
namespace Go.Proofs.YteemponkignnhaaGreat.Ways
open Go Go.Ex Go.RowKit
def seqN : Nat → Code → Code
  | 0, .seq a _ => a
  | n + 1, .seq _ b => seqN n b
  | _, c => c
def bodyOf (f : Func) : Code := f.body.getD .skip
def opsOf : Code → Array Oper
  | .region _ o _ => o
  | _ => #[]
noncomputable def OQ : Array Oper := opsOf (seqN 1 (bodyOf Tryz.f115))
noncomputable def Cq : Cfg := ⟨noT, no_, off_, noL⟩
section
variable (a b c d e f g h : Int)
def cQ (x y : Int) : CO := .cells [i x, i y] 114 1 true
def sQ : SymS where
  live0 := [(1, pt 1 0), (2, pt 2 0), (3, b_ false)]
  S := [(9, 0, pt 1 0), (10, 1, ag [i a, i b]), (11, 2, pt 1 2), (12, 3, ag [i c, i d]), (13, 4, pt 1 4), (14, 5, ag [i e, i f]), (15, 6, pt 1 6), (16, 7, ag [i g, i h]), (4, 8, pt 3 0), (5, 9, pt 4 0), (6, 10, pt 5 0), (7, 11, pt 6 0)]
  hp0 := [(.dead, true), (.cells [i a, i b, i c, i d, i e, i f, i g, i h] 156 1 true, true), (.cells [i 0, i 0, i 0, i 0] 89 1 true, true)]
  A := [(8, cQ 0 0, 12, cQ a b), (9, cQ 0 0, 13, cQ c d), (10, cQ 0 0, 14, cQ e f), (11, cQ 0 0, 15, cQ g h)]
end
def rhoQ (j : Nat) : List Nat := cond (Nat.ble 8 j && Nat.ble j 11) ((List.range 7).set (j - 5) 7) (List.range 7)
def lenQ (j : Nat) : Nat := cond (Nat.ble 8 j && Nat.ble j 11) 8 7
def ansQ (_ : Nat) : List Bool := []
theorem fixQ (a b c d e f g h : Int) : ∀ B : List Bool, B.length = OQ.size → (List.range OQ.size).map (fun i => outY Tryz.prog 1 Cq 115 OQ 44 (sQ a b c d e f g h) (forceN OQ.size (preN OQ) i B) i) = (List.range OQ.size).map fun i => (outY Tryz.prog 1 Cq 115 OQ 44 (sQ a b c d e f g h) (forceN OQ.size (preN OQ) i B) i).fix
  | [x0, x1, x2, x3, x4, x5, x6, x7, x8, x9, x10, x11, x12, x13, x14, x15], _ => by kernel_rfl
theorem obsQ (a b c d e f g h : Int) : ∀ B : List Bool, B.length = OQ.size → (List.range OQ.size).map (fun i => obsY Tryz.prog 1 Cq 115 OQ 44 (sQ a b c d e f g h) rhoQ ansQ (forceN OQ.size (preN OQ) i B) i) = (List.range OQ.size).map fun i => expY 44 (sQ a b c d e f g h) rhoQ ansQ lenQ (forceN OQ.size (preN OQ) i B) i
  | [x0, x1, x2, x3, x4, x5, x6, x7, x8, x9, x10, x11, x12, x13, x14, x15], _ => by kernel_rfl
theorem ordQ (a b c d e f g h : Int) : Orders (selfA (qS noW)) Tryz.prog 1 OQ 3 (fun m => m < 2 ^ OQ.size ∧ GoodY OQ (bitsL OQ.size m)) (fun m => absT (tmL 44 ((sQ a b c d e f g h).live (bitsL OQ.size m)))) (fun m => heapL ((sQ a b c d e f g h).hp (bitsL OQ.size m))) (2 ^ OQ.size - 1) :=
  sym_of (fixQ a b c d e f g h) (obsQ a b c d e f g h) (fun _ => rfl) (by kernel_rfl) (by kernel_rfl) (by kernel_rfl) (by kernel_rfl) (by kernel_rfl)
    (fun o ho => by
      simp only [sQ, List.mem_cons, Prod.mk.injEq, List.not_mem_nil, or_false, and_true] at ho
      rcases ho with rfl | rfl | rfl
      · exact trivial
      · exact fun x hx => List.all_eq_true.1 (by rfl) x hx
      · exact fun x hx => List.all_eq_true.1 (by rfl) x hx)
    (fun q hq => by
      simp only [sQ, List.mem_cons, List.not_mem_nil, or_false] at hq
      rcases hq with rfl | rfl | rfl | rfl <;> exact ⟨fun x hx => List.all_eq_true.1 (by rfl) x hx, fun x hx => List.all_eq_true.1 (by rfl) x hx⟩)
section
variable (a b c d e f g h : Int)
def finQ : List Bool := List.replicate 16 true
noncomputable def tmQ : TM := tmL 44 ((sQ a b c d e f g h).live finQ)
noncomputable def hQ : CH := heapL ((sQ a b c d e f g h).hp finQ)
theorem endQ : bitsL OQ.size (2 ^ OQ.size - 1) = finQ := by kernel_rfl
theorem padQ : heapL ((sQ a b c d e f g h).hp (bitsL OQ.size 0)) = heapL ((sQ a b c d e f g h).hp0.map (·.1) ++ List.replicate 4 .dead) := by kernel_rfl
theorem zeroQ : tmL 44 ((sQ a b c d e f g h).live (bitsL OQ.size 0)) = tmL 44 (sQ a b c d e f g h).live0 := by kernel_rfl
theorem mixQ : Tryz.prog.follows .mixedOrders = true := by kernel_rfl
theorem sndQ (ro : Option Nat) {tm0 : Array Value} {H0 : CH} (hk : H0.length = 3) (hst : Restate 3 tm0 H0 (absT (tmL 44 (sQ a b c d e f g h).live0)) (heapL ((sQ a b c d e f g h).hp0.map (·.1)))) :
    Sound Tryz.prog 1 (.code (.region 1 OQ true) ro tm0 H0 []) (.ex .normal (absT (tmQ a b c d e f g h)) (hQ a b c d e f g h) []) := by
  have ho := ordQ a b c d e f g h
  have hp := padQ a b c d e f g h
  have hz := zeroQ a b c d e f g h
  have h0 := goodY_zero OQ
  unfold tmQ hQ
  rw [← endQ]
  rw [← hz] at hst
  generalize sQ a b c d e f g h = s at *
  rw [← hk] at ho hst
  exact orders_sound2 (tmS := fun m => absT (tmL 44 (s.live (bitsL OQ.size m)))) (HS := fun m => heapL (s.hp (bitsL OQ.size m))) (mF := 2 ^ OQ.size - 1) (qS_selfSound noW_sound) mixQ ho (by rw [hk]; decide) h0 hp hst ro
noncomputable def LQ : LTab := regE noL 115 1 44 3 OQ (sQ a b c d e f g h).live0 (sQ a b c d e f g h).hp0 (.leaf (.ex .normal (tmQ a b c d e f g h) (hQ a b c d e f g h) []))
theorem lsQ : LSound Tryz.prog 1 (LQ a b c d e f g h) := by
  refine LSound.region .none (by kernel_rfl) (fun o ho => ?_) fun r hr ro tm0 H0 hk hst => ?_
  · simp only [sQ, List.mem_cons, Prod.mk.injEq, List.not_mem_nil, or_false, and_true] at ho
    rcases ho with rfl | rfl | rfl
    · exact trivial
    · exact fun x hx => List.all_eq_true.1 (by rfl) x hx
    · exact fun x hx => List.all_eq_true.1 (by rfl) x hx
  · cases hr
    exact sndQ a b c d e f g h ro hk hst
noncomputable def oQ : Out QRes := execO Tryz.prog 1 ⟨noT, no_, off_, LQ a b c d e f g h⟩ 60 (.call 115 ⟨[ag [i a, i b, i c, i d, i e, i f, i g, i h]]⟩ Hd)
end
end Go.Proofs.YteemponkignnhaaGreat.Ways
noncomputable section
namespace Go.Proofs.YteemponkignnhaaGreat.Ways
open Go Go.Ex Go.RowKit
def minQ (x y : Int) : Int := if y < x then y else x
def maxQ (x y : Int) : Int := if x < y then y else x
def difQ (x y : Int) : Int := maxQ (wrapF .i64 (x - y)) (wrapF .i64 (y - x))
def cyQ (b c d e f h : Int) : Value := tp [ag [i c, i e, i (minQ d f), i (maxQ d f)], .bool (leF (difQ d f) (minQ (difQ b d) (difQ f h)))]
theorem vQ (a b c d e f g h : Int) : (oQ a b c d e f g h).vals = .leaf (cyQ b c d e f h) := by kernel_rfl
theorem xQ (a b c d e f g h : Int) : oQ a b c d e f g h = (oQ a b c d e f g h).fix := by kernel_rfl
theorem p88 (a b c d e f g h : Int) : Pure Tryz.prog Hd 115 [ag [i a, i b, i c, i d, i e, i f, i g, i h]] (cyQ b c d e f h) :=
  pure_run (C := ⟨noT, no_, off_, LQ a b c d e f g h⟩) (G := 1) 60 (.leaf (cyQ b c d e f h)) .none (lsQ a b c d e f g h) (by decide) hd_len rfl (xQ a b c d e f g h) (vQ a b c d e f g h) rfl
def sCy : List Value → Option Value
  | [.agg ⟨[.int .i64 _, .int .i64 b, .int .i64 c, .int .i64 d, .int .i64 e, .int .i64 f, .int .i64 _, .int .i64 h]⟩] => some (cyQ b c d e f h)
  | _ => none
noncomputable def TQ : Tb := ext noT 115 (pureE sCy [] Hd)
theorem tsQ {G : Nat} : TSound Tryz.prog G TQ := by
  refine TSound.none.pure hd_vars fun args v h => ?_
  unfold sCy at h
  split at h
  · cases h; exact p88 _ _ _ _ _ _ _ _
  · cases h
end Go.Proofs.YteemponkignnhaaGreat.Ways
noncomputable section
namespace Go.Proofs.YteemponkignnhaaGreat.Ways
open Go Go.Ex Go.RowKit
noncomputable def oAw : Out QRes := execO Tryz.prog 1 ⟨TQ, no_, off_, noL⟩ 300 (.call 6 #[] Hd)
theorem aw_vals : oAw.vals = .leaf (b_ true) := by kernel_rfl
theorem aw_fix : oAw = oAw.fix := by kernel_rfl
end Go.Proofs.YteemponkignnhaaGreat.Ways
