import Derived.Test.YteemponkignnhaaLf4
import Derived.Test.YteemponkignnhaaLc5
set_option maxRecDepth 10000
noncomputable section
namespace Go.Proofs.Yteemponkignnhaa.Ways
open Go Go.Ex Go.RowKit Go.Turn
end Go.Proofs.Yteemponkignnhaa.Ways
set_option maxRecDepth 10000
noncomputable section
namespace Go.Proofs.Yteemponkignnhaa.Ways
open Go Go.Ex Go.RowKit Go.Turn
def R27h (h g z : Bool) (L : List Pt) (e : Int) : NRes := cond g (cond z (.old (tp [.slice none 0 0, i 0])) (.tup L.length L.length (flatP L) 67 2 false (i 0))) (.old (tp [.slice none 0 0, cond h (i 3) (i e)]))
def zq (z : Bool) (L : List Pt) : Prop := if z = true then L = [] else L ≠ []
def eq3 (h g : Bool) (lit e : Int) : Prop := if g = true then e = 0 else if h = true then e = lit else e ≠ 0
theorem eq3_gq {h g : Bool} {lit e : Int} (hl : lit ≠ 0) (hq : eq3 h g lit e) : gq g e := by
  unfold eq3 at hq
  unfold gq
  cases g with
  | true => exact hq
  | false => cases h with
    | true => rw [if_neg (by simp), if_pos rfl] at hq; rw [if_neg (by simp), hq]; exact hl
    | false => rw [if_neg (by simp), if_neg (by simp)] at hq; rw [if_neg (by simp)]; exact hq
noncomputable def o27n (x : Int) : Out QRes := execO Try.prog 1 ⟨TX9, at_ [(29, 19)] .bool no_, off_, noL⟩ 60 (.call 29 ⟨[nl, i x]⟩ (heapL (deads ++ [])))
theorem v27n (x : Int) : (o27n x).news = aN (tru (okI [i 0, i (ckE x)] 2 2)) (er28 (fst2 0 (ckE x)) (.leaf 1000000 (.old (tp [nl, i 0])))) := by kernel_rfl
theorem x27n (x : Int) : o27n x = (o27n x).fix := by kernel_rfl
def sp27h (h g z : Bool) : NSpec := fun al css => match al, css with
  | [.slice none 0 0, .int .i64 x], [] => some (eq3 true g 3 (ckE x), .old (tp [.slice none 0 0, cond g (i 0) (i 3)]))
  | [.slice (some ⟨1, 0, none⟩) (m + 1) (m2 + 1), .int .i64 x], [cs] => some (m2 = m ∧ RowE cs (m + 1) ∧ m < 900000 ∧ eq3 h g 3 (e27 cs m x) ∧ (g = true → zq z (FL x (pts cs (m + 1)))), R27h h g z (FL x (pts cs (m + 1))) (e27 cs m x))
  | _, _ => none
theorem c27h (h g z : Bool) : ∀ al css os p v, sp27h h g z al css = some (p, v) → p → Blks css os → (∀ cs ∈ css, cs.all Ex.flat = true) ∧ v.Ok Try.prog 29 al deads os (gl + css.length) := by
  intro al css os p v hs hp hb
  unfold sp27h at hs
  split at hs
  · rename_i x
    cases hs
    cases hb
    refine ⟨fun c hc => absurd hc List.not_mem_nil, ?_⟩
    refine news_ok (C := ⟨TX9, at_ [(29, 19)] .bool no_, off_, noL⟩) (n := 60) tsX9 .none (x27n x) (b := 1000000) ?_ (show 1 ≤ 1000000 by decide) (show NRes.Fl (.old (tp [nl, cond g (i 0) (i 3)])) from by cases g <;> exact rfl)
    refine (congrArg NT.sel (v27n x)).trans ?_
    rw [aN_sel (tru_iff.2 (okI2 _ _))]
    unfold er28
    have e : fst2 0 (ckE x) = ckE x := by rw [fst2_eq]; by_cases hx : ckE x = 0 <;> simp [hx]
    rw [e]
    cases g with
    | true =>
      have hq : ckE x = 0 := hp
      rw [hq]; rfl
    | false =>
      have hq : ckE x = 3 := hp
      rw [hq]; rfl
  case h_3 => cases hs
  rename_i m m2 x cs
  cases hs
  obtain ⟨h0, h1, hn, he, hz⟩ := hp
  obtain ⟨f, hf⟩ : ∃ f, fq f (cnt cs (m + 1)).2 := by
    by_cases hc : (cnt cs (m + 1)).2 = []
    · exact ⟨false, hc⟩
    · exact ⟨true, hc⟩
  have hg := eq3_gq (by decide) he
  cases g with
  | true =>
    have key := c27 true f [sl 1 0 (m + 1) (m2 + 1), i x] [cs] os _ _ rfl ⟨h0, h1, hn, hg, fun _ => hf, fun h => by cases h⟩ hb
    refine ⟨key.1, ?_⟩
    have k2 := key.2
    have hz := hz rfl
    cases z with
    | true =>
      have hL : FL x (pts cs (m + 1)) = [] := hz
      rw [show (cond true (R27 67 (FL x (pts cs (m + 1)))) (.old (tp [.slice none 0 0, i (e27 cs m x)]))) = .old (tp [.slice none 0 0, i 0]) from by rw [hL]; rfl] at k2
      exact k2
    | false =>
      have hL : FL x (pts cs (m + 1)) ≠ [] := hz
      cases hF : FL x (pts cs (m + 1)) with
      | nil => exact absurd hF hL
      | cons _ _ => rw [hF] at k2; exact k2
  | false =>
    have key := c27 false true [sl 1 0 (m + 1) (m2 + 1), i x] [cs] os _ _ rfl ⟨h0, h1, hn, hg, fun h => by (cases h), fun _ => rfl⟩ hb
    refine ⟨key.1, ?_⟩
    have k2 := key.2
    cases h with
    | true => have e : e27 cs m x = 3 := he; rw [e] at k2; exact k2
    | false => exact k2
end Go.Proofs.Yteemponkignnhaa.Ways
