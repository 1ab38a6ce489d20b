import Derived.Test.YteemponkignnhaaZz1
set_option maxRecDepth 10000
noncomputable section
namespace Go.Proofs.Yteemponkignnhaa.Ways
open Go Go.Ex Go.RowKit Go.Turn
noncomputable def T36 (f : Bool) : Tb := ext (ext (ext (ext (ext (ext (ext (ext (ext TZ3 13 (newE (sp11 true false) [] (heapL deads))) 14 (xE 0 rd0 sp12 [] (heapL deads))) 19 (newE sp17t [] (heapL deads)))
  20 (autoE (sp18g true) [] (heapL deads))) 21 (newE (sp19 false) [] (heapL deads))) 22 (autoE (sp18g true) [] (heapL deads))) 28 (newE (sp23 69) [] (heapL deads))) 63 (twoE (sp59 f) [] (heapL deads))) 74 (autoE sp70 [] (heapL deads))
theorem ts36 {G : Nat} (f : Bool) : TSound Try.prog G (T36 f) :=
  ((((((((tsZ3.new (f' := 13) (c11 true false)).x c12).new c17t).auto (c18g 20 (.inl rfl) true)).new (f' := 21) (c19 false)).auto (c18g 22 (.inr rfl) true)).new c26).two (c59 f)).auto c70
def aT (b : Bool) (t : TT) : TT := .br b t .fail
theorem tt_t {b : Bool} {t e : TT} (h : b = true) : (TT.br b t e).sel = t.sel := by subst h; rfl
theorem tP {p : Prop} {t : TT} (h : p) : (aT (tru p) t).sel = t.sel := tt_t (tru_iff.2 h)
section
variable (cs : List Value) (n : Nat) (t s : Nat) (ex : Bool)
noncomputable def C36 (f : Bool) : Cfg := ⟨T36 f, at_ [(38, 37), (38, 44)] .bool no_, off_, noL⟩
noncomputable def o36 (f : Bool) : Out QRes := execO Try.prog 2 (C36 f) 80 (.call 38 ⟨[sl 1 0 n n]⟩ (heapL (deads ++ [.cells cs t s ex])))
noncomputable def lfA (b : Bool) : TT := .leaf (tp [sl 6 0 (CC_ cs n).length (CC_ cs n).length, sl 7 0 (LD_ cs n) (LD_ cs n), b_ b]) [some (.cells (flatC (CC_ cs n)) 69 4 false), some (.cells (DS_ cs n) 70 2 false)]
noncomputable def lfN (b : Bool) : TT := .leaf (tp [.slice none 0 0, sl 5 0 (LD_ cs n) (LD_ cs n), b_ b]) [some (.cells (DS_ cs n) 70 2 false)]
theorem v36A : (o36 cs n t s ex true).twos [6, 7] = (aT (tru (okC cs n n)) <| aT (tru (RmE cs n n)) <| aT (tru (BokE (RS_ cs n) (RN_ cs n) (RN_ cs n) ∧ crE (RS_ cs n) (RN_ cs n) = 0)) <| aT (tru (P59 true (RS_ cs n) (RN_ cs n) (RN_ cs n))) <|
  aT (tru (CfE (flatC (CC_ cs n)) (CC_ cs n).length (CC_ cs n).length)) <| aT (tru (TokE (ST_ cs n) (LD_ cs n) (CP_ cs n))) <| .br (leF (CC_ cs n).length n) (.br (leF (LD_ cs n) n) (
  aT (tru (CfE (flatC (CC_ cs n)) (CC_ cs n).length (CC_ cs n).length)) <| aT (tru (GcE (flatC (CC_ cs n)) (CC_ cs n).length (CC_ cs n).length)) <|
  aT (tru (TokE (ST_ cs n) (LD_ cs n) (CP_ cs n))) <| aT (tru (BokE (DS_ cs n) (LD_ cs n) (LD_ cs n) ∧ crE (DS_ cs n) (LD_ cs n) = 0)) <| lfA cs n true) (lfA cs n false)) (lfA cs n false)) := by kernel_rfl
theorem v36N : (o36 cs n t s ex false).twos [5] = (aT (tru (okC cs n n)) <| aT (tru (RmE cs n n)) <| aT (tru (BokE (RS_ cs n) (RN_ cs n) (RN_ cs n) ∧ crE (RS_ cs n) (RN_ cs n) = 0)) <| aT (tru (P59 false (RS_ cs n) (RN_ cs n) (RN_ cs n))) <|
  aT (tru (TokE (ST_ cs n) (LD_ cs n) (CP_ cs n))) <| .br (leF 0 n) (.br (leF (LD_ cs n) n) (
  aT (tru (TokE (ST_ cs n) (LD_ cs n) (CP_ cs n))) <| aT (tru (BokE (DS_ cs n) (LD_ cs n) (LD_ cs n) ∧ crE (DS_ cs n) (LD_ cs n) = 0)) <| lfN cs n true) (lfN cs n false)) (lfN cs n false)) := by kernel_rfl
theorem x36 (f : Bool) : o36 cs n t s ex f = (o36 cs n t s ex f).fix := by cases f <;> kernel_rfl
end
def P36 (f : Bool) (cs : List Value) (n : Nat) : Prop := Fx cs n 0 ∧ (if f = true then CC_ cs n ≠ [] else CC_ cs n = [])
noncomputable def R36 (f : Bool) (cs : List Value) (n : Nat) : List NC := cond f
  [.s (CC_ cs n).length (CC_ cs n).length (flatC (CC_ cs n)) 69 4 false, .s (LD_ cs n) (LD_ cs n) (DS_ cs n) 70 2 false, .v (b_ true)]
  [.v (.slice none 0 0), .s (LD_ cs n) (LD_ cs n) (DS_ cs n) 70 2 false, .v (b_ true)]
noncomputable def sp36 (f : Bool) : TSpec := fun al css => match al, css with
  | [.slice (some ⟨1, 0, none⟩) n c], [cs] => some (c = n ∧ P36 f cs n, R36 f cs n)
  | _, _ => none
theorem c36 (f : Bool) : ∀ al css os p v, sp36 f al css = some (p, v) → p → Blks css os → (∀ cs ∈ css, cs.all Ex.flat = true) ∧ NC.Ok Try.prog 38 al deads os (gl + css.length) v := by
  intro al css os p v hs hp hb
  unfold sp36 at hs
  split at hs
  case h_2 => cases hs
  rename_i n c cs
  cases hs
  obtain ⟨t, s, ex, rfl⟩ := blks1 hb
  obtain ⟨rfl, h, hC⟩ := hp
  obtain ⟨k1, k2, k3⟩ := h.lok
  have h1 := h.rn
  have h2 := h.n24
  have h3 := lens cs c
  refine ⟨by simpa using h.ok.1, ?_⟩
  unfold R36
  cases f with
  | true =>
    refine twos_ok (C := C36 true) (n := 80) (κ := [6, 7]) (ts36 true) .none (x36 cs c t s ex true) ?_ rfl (by decide) (show ∀ c ∈ [6, 7], 2 ≤ c by decide) ?_
    · refine (congrArg TT.sel (v36A cs c t s ex)).trans ?_
      rw [tP k2, tP k3, tP ⟨h.bR, h.crR⟩, tP (h.p59 true hC), tP (h.cf hC), tP h.tS, tt_t (by rw [leF_eq]; exact decide_eq_true (by omega)), tt_t (by rw [leF_eq]; exact decide_eq_true (by omega)), tP (h.cf hC), tP h.gc, tP h.tS, tP ⟨h.bD, h.crD⟩]; rfl
    · show ((flatC (CC_ cs c)).all flat && ((DS_ cs c).all flat && (true && true))) = true
      rw [flatC_flat, h.st.2, flatP_flat]; rfl
  | false =>
    refine twos_ok (C := C36 false) (n := 80) (κ := [5]) (ts36 false) .none (x36 cs c t s ex false) ?_ rfl (by decide) (show ∀ c ∈ [5], 2 ≤ c by decide) ?_
    · refine (congrArg TT.sel (v36N cs c t s ex)).trans ?_
      rw [tP k2, tP k3, tP ⟨h.bR, h.crR⟩, tP (h.p59 false hC), tP h.tS, tt_t (by rw [leF_eq]; exact decide_eq_true (by omega)), tt_t (by rw [leF_eq]; exact decide_eq_true (by omega)), tP h.tS, tP ⟨h.bD, h.crD⟩]; rfl
    · show ((DS_ cs c).all flat && (true && true)) = true
      rw [h.st.2, flatP_flat]; rfl
end Go.Proofs.Yteemponkignnhaa.Ways
set_option maxRecDepth 10000
noncomputable section
namespace Go.Proofs.Yteemponkignnhaa.Ways
open Go Go.Ex Go.RowKit Go.Turn
noncomputable def BkO : Code := bodyL Try.f42 3
end Go.Proofs.Yteemponkignnhaa.Ways
set_option maxRecDepth 10000
noncomputable section
namespace Go.Proofs.Yteemponkignnhaa.Ways
open Go Go.Ex Go.RowKit Go.Turn
section
variable (cs out : List Value) (n c l t s : Nat) (ex : Bool) (j lo hi : Int)
end
section
variable {cs out : List Value} {n c l t s : Nat} {ex : Bool} {j lo hi : Int}
end
end Go.Proofs.Yteemponkignnhaa.Ways
set_option maxRecDepth 10000
noncomputable section
namespace Go.Proofs.Yteemponkignnhaa.Ways
open Go Go.Ex Go.RowKit Go.Turn
section
end
section
end
section
variable {cs : List Value} {n c : Nat} {t s : Nat} {ex : Bool}
end
section
variable {cs : List Value} {n c : Nat} {t s : Nat} {ex : Bool}
end
section
variable {cs : List Value} {n c : Nat} {t s : Nat} {ex : Bool}
end
end Go.Proofs.Yteemponkignnhaa.Ways
set_option maxRecDepth 10000
noncomputable section
namespace Go.Proofs.Yteemponkignnhaa.Ways
open Go Go.Ex Go.RowKit Go.Turn
section
end
section
end
section
variable {cs st : List Value} {n c l : Nat} {j : Int} {t s : Nat} {ex : Bool}
end
section
variable {cs st : List Value} {n c l : Nat} {j : Int} {t s : Nat} {ex : Bool}
end
section
variable {cs st : List Value} {n c l : Nat} {j : Int} {t s : Nat} {ex : Bool}
end
end Go.Proofs.Yteemponkignnhaa.Ways
set_option maxRecDepth 10000
noncomputable section
namespace Go.Proofs.Yteemponkignnhaa.Ways
open Go Go.Ex Go.RowKit Go.Turn
section
end
section
end
section
variable {cs : List Value} {n c : Nat} {j lo hi : Int} {t s : Nat} {ex : Bool}
end
section
variable {cs : List Value} {n c : Nat} {j lo hi : Int} {t s : Nat} {ex : Bool}
end
section
variable {cs : List Value} {n c : Nat} {j lo hi : Int} {t s : Nat} {ex : Bool}
end
end Go.Proofs.Yteemponkignnhaa.Ways
set_option maxRecDepth 10000
noncomputable section
namespace Go.Proofs.Yteemponkignnhaa.Ways
open Go Go.Ex Go.RowKit Go.Turn
section
end
section
end
section
variable {cs st : List Value} {n c l : Nat} {j lo hi : Int} {t s : Nat} {ex : Bool}
end
section
variable {cs st : List Value} {n c l : Nat} {j lo hi : Int} {t s : Nat} {ex : Bool}
end
section
variable {cs st : List Value} {n c l : Nat} {j lo hi : Int} {t s : Nat} {ex : Bool}
end
end Go.Proofs.Yteemponkignnhaa.Ways
set_option maxRecDepth 10000
noncomputable section
namespace Go.Proofs.Yteemponkignnhaa.Ways
open Go Go.Ex Go.RowKit Go.Turn
section
end
section
end
section
variable {cs st : List Value} {n c l u : Nat} {j lo hi : Int} {t s : Nat} {ex : Bool}
end
section
variable {cs st : List Value} {n c l u : Nat} {j lo hi : Int} {t s : Nat} {ex : Bool}
end
section
variable {cs st : List Value} {n c l u : Nat} {j lo hi : Int} {t s : Nat} {ex : Bool}
end
end Go.Proofs.Yteemponkignnhaa.Ways
set_option maxRecDepth 10000
noncomputable section
namespace Go.Proofs.Yteemponkignnhaa.Ways
open Go Go.Ex Go.RowKit Go.Turn
section
end
section
end
section
variable {cs st : List Value} {n c l : Nat} {j lo hi : Int} {t s : Nat} {ex : Bool}
end
section
variable {cs st : List Value} {n c l : Nat} {j lo hi : Int} {t s : Nat} {ex : Bool}
end
section
variable {cs st : List Value} {n c l : Nat} {j lo hi : Int} {t s : Nat} {ex : Bool}
end
end Go.Proofs.Yteemponkignnhaa.Ways
