import Derived.Test.YtdnogbdfiahcaaaGreatVr1
import Derived.Test.YtdnogbdfiahcaaaGreatEngEnt
namespace Go.Proofs.YtdnogbdfiahcaaaGreat.Ways
open Go Go.Ex Go.RowKit
/-! the fixed examples: the count of the chain 'pair' is told for each value, so that the rest is short -/
def chT (x : Int) (below : Bool) (t s : VT) : VT := .br (!eqF x 0) (.br (ltF x 0 != below) t s) (.br false t s)
def cntT : List Int → Bool → Int → VT
  | [], _, c => .leaf (i c)
  | x :: r, below, c => chT x below (cntT r (!below) (wrapF .i64 (c + 1))) (cntT r below c)
def cntI : List Int → Bool → Int → Int
  | [], _, c => c
  | x :: r, below, c => cond (!eqF x 0) (cond (ltF x 0 != below) (cntI r (!below) (wrapF .i64 (c + 1))) (cntI r below c)) (cntI r below c)
theorem cntT_sel : ∀ (l : List Int) (b : Bool) (c : Int), (cntT l b c).sel = some (i (cntI l b c))
  | [], _, _ => rfl
  | x :: r, b, c => by
    unfold cntT cntI chT
    simp only [VT.sel]
    cases !eqF x 0 <;> cases ltF x 0 != b <;> simp [cntT_sel r]
def mA (n : Int) : Int := wrapF .i64 (wrapF .i64 (wrapF .i64 (wrapF .i64 (8 * wrapF .i64 (2 + 2)) - wrapF .i64 (n * 1)) * 1) - wrapF .i64 (wrapF .i64 (wrapF .i64 (8 * 2) * wrapF .i64 (8 * 2)) * 0))
def mB (n : Int) : Int := wrapF .i64 (wrapF .i64 (wrapF .i64 (wrapF .i64 (8 * 2) - wrapF .i64 (n * 1)) * mA n) - wrapF .i64 (wrapF .i64 (wrapF .i64 (8 * 2) * wrapF .i64 (8 * 2)) * 1))
def cnt (n : Int) : Int := cntI [1, mA n, mB n] false 0
noncomputable def Ck : Cfg := ⟨noT, at_ [(69, 21), (69, 27)] .bool no_, off_, noL⟩
section
variable (n : Int) (t1 s1 t2 s2 : Nat) (e1 e2 : Bool)
noncomputable def oC : Out QRes := execO Tryz.prog 3 Ck 60 (.call 69 ⟨[ag [sl 1 0 2 2, sl 2 0 2 2], i n]⟩ (heapL [.dead, .cells [i 1, i 1] t1 s1 e1, .cells [i 2, i 2] t2 s2 e2]))
theorem vC : (oC n t1 s1 t2 s2 e1 e2).vals = cntT [1, mA n, mB n] false 0 := by kernel_rfl
theorem xC : oC n t1 s1 t2 s2 e1 e2 = (oC n t1 s1 t2 s2 e1 e2).fix := by kernel_rfl
end
def is1 (a b c d : Int) : Bool := eqF a 1 && (eqF b 1 && (eqF c 2 && eqF d 2))
def sp69 : ESpec0 := fun al css => match al, css with
  | [.agg ⟨[.slice (some ⟨1, 0, none⟩) 2 2, .slice (some ⟨2, 0, none⟩) 2 2]⟩, .int .i64 n], [[.int .i64 a, .int .i64 b], [.int .i64 c, .int .i64 d]] => cond (is1 a b c d) (some (i (cnt n))) none
  | _, _ => none
theorem c69 : ∀ al css os v, sp69 al css = some v → Blks css os → (∀ cs ∈ css, cs.all Ex.flat = true) ∧ clean 6 v = true ∧ ∃ H', Sound Tryz.prog (gl + css.length) (.call 69 ⟨al⟩ (heapL (deads ++ os))) (.val v H') := by
  intro al css os v hs hb
  unfold sp69 at hs
  split at hs
  case h_2 => cases hs
  rename_i n a b c d
  cases h1 : is1 a b c d with
  | false => rw [h1] at hs; cases hs
  | true =>
    rw [h1] at hs
    cases hs
    unfold is1 at h1
    simp only [Bool.and_eq_true, eqF_eq, beq_iff_eq] at h1
    obtain ⟨rfl, rfl, rfl, rfl⟩ := h1
    obtain ⟨t1, s1, e1, t2, s2, e2, rfl⟩ := blks2 hb
    refine ⟨fun cs hcs => ?_, rfl, ?_⟩
    · simp only [List.mem_cons, List.not_mem_nil, or_false] at hcs
      rcases hcs with rfl | rfl <;> rfl
    · obtain ⟨H', h'⟩ := Out.vals_sel (xC n t1 s1 t2 s2 e1 e2) (v := i (cnt n)) (by rw [vC]; exact cntT_sel _ _ _)
      exact ⟨H', execO_sound (C := Ck) .none .none 60 _ _ h'⟩
noncomputable def Tk : Tb := ext noT 69 (autoE0 sp69 [] (heapL deads))
theorem tsk {G : Nat} : TSound Tryz.prog G Tk := TSound.none.auto0 c69
noncomputable def Ca : Cfg := ⟨Tk, no_, off_, noL⟩

end Go.Proofs.YtdnogbdfiahcaaaGreat.Ways
namespace Go.Proofs.YtdnogbdfiahcaaaGreat.Ways
open Go Go.Ex Go.RowKit
noncomputable def oA : Out QRes := execO Tryz.prog 1 Ca 200 (.call 7 #[] Hd)
theorem aw_vals : oA.vals = .leaf (b_ true) := by kernel_rfl
theorem aw_fix : oA = oA.fix := by kernel_rfl
end Go.Proofs.YtdnogbdfiahcaaaGreat.Ways
