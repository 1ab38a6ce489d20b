import Derived.Test.YtafpmehhdcmllaaGreatDoorMc8
import Derived.Test.YtafpmehhdcmllaaGreatDoorMr5
set_option maxRecDepth 10000
noncomputable section
namespace Go.Proofs.YtafpmehhdcmllaaGreatDoor.Ways
open Go Go.Ex Go.RowKit Go.Ex.Srt
/-! ### MarketCurtails: the law's table -/
noncomputable def o18 (cs : List Value) (t s n c : Nat) (ex : Bool) : Out QRes := execO Tryz.prog 5 ⟨Td, no_, off_, noL⟩ 40 (.call 18 ⟨[sl 4 0 n c]⟩ (heapL (deads ++ [.cells cs t s ex])))
theorem v18 (cs : List Value) (t s n c : Nat) (ex : Bool) : (o18 cs t s n c ex).vals = aV (tru (okI cs n c)) (lv (firstF (eI cs) n 0)) := by kernel_rfl
theorem x18 (cs : List Value) (t s n c : Nat) (ex : Bool) : o18 cs t s n c ex = (o18 cs t s n c ex).fix := by kernel_rfl
def sp18 (z : Bool) : ESpec := fun al css => match al, css with
  | [.slice (some ⟨4, 0, none⟩) n c], [cs] => cond z (some (okI cs n c ∧ firstF (eI cs) n 0 = 0, i 0)) (some (okI cs n c, i (firstF (eI cs) n 0)))
  | _, _ => none
theorem c18 (z : Bool) : ∀ al css os p v, sp18 z al css = some (p, v) → p → Blks css os → (∀ cs ∈ css, cs.all Ex.flat = true) ∧ clean 6 v = true ∧ ∃ H', Sound Tryz.prog (gl + css.length) (.call 18 ⟨al⟩ (heapL (deads ++ os))) (.val v H') := by
  intro al css os p v hs hp hb
  unfold sp18 at hs
  split at hs
  case h_2 => cases hs
  rename_i n c cs
  obtain ⟨t, s, ex, rfl⟩ := blks1 hb
  have key : okI cs n c → ∃ H', Sound Tryz.prog 5 (.call 18 ⟨[sl 4 0 n c]⟩ (heapL (deads ++ [.cells cs t s ex]))) (.val (i (firstF (eI cs) n 0)) H') := fun h => by
    obtain ⟨H', h'⟩ := Out.vals_sel (x18 cs t s n c ex) (v := i (firstF (eI cs) n 0)) (by rw [v18, aP h]; rfl)
    exact ⟨H', execO_sound (C := ⟨Td, no_, off_, noL⟩) tsd .none 40 _ _ h'⟩
  cases z with
  | true =>
    cases hs
    refine ⟨by simpa using hp.1.1, rfl, ?_⟩
    have h := key hp.1
    rw [hp.2] at h
    exact h
  | false =>
    cases hs
    exact ⟨by simpa using hp.1, rfl, key hp⟩
noncomputable def TU (k : Nat) (z g : Bool) : Tb := ext (ext (ext (ext (ext (ext (ext Td 41 (newE (spI 3) [] (heapL deads))) 40 (newE (sp40 k) [] (heapL deads))) 42 (autoE sp42 [] (heapL deads))) 18 (autoE (sp18 z) [] (heapL deads))) 43 (newE (sp43 g) [] (heapL deads))) 44 (autoE sp44 [] (heapL deads))) 16 (pureE s16 [1, 2, 3] Ha)
theorem tsU (k : Nat) (z g : Bool) {G : Nat} : TSound Tryz.prog G (TU k z g) := by
  refine TSound.pure ha_vars ((((((tsd.new (f' := 41) c41).new (f' := 40) (c40 k)).auto c42).auto (c18 z)).new (f' := 43) (c43 g)).auto c44) fun args v h => ?_
  unfold s16 at h
  split at h
  · cases h; exact p16
  · cases h
noncomputable def CU0 : Cfg := ⟨TU 0 false true, at_ [(6, 11), (6, 15), (6, 32), (6, 43)] .bool (at_ [(6, 33)] (.ints []) no_), off_, noL⟩
noncomputable def CU (k : Nat) (g : Bool) : Cfg := ⟨TU k true g, at_ [(6, 11), (6, 15), (6, 43)] .bool no_, off_, noL⟩
/-- no energies: all is run -/
noncomputable def TUz : Tb := ext (ext (ext (ext (ext Td 107 (autoE sp107 [] (heapL deads))) 119 (autoE spS [] (heapL deads))) 110 (autoE spS [] (heapL deads))) 42 (autoE sp42 [] (heapL deads))) 16 (pureE s16 [1, 2, 3] Ha)
theorem tsUz {G : Nat} : TSound Tryz.prog G TUz := by
  refine TSound.pure ha_vars ((((tsd.auto c107).auto c119).auto c110).auto c42) fun args v h => ?_
  unfold s16 at h
  split at h
  · cases h; exact p16
  · cases h
noncomputable def CUz : Cfg := ⟨TUz, at_ [(6, 32), (6, 43), (40, 17), (109, 13), (43, 19)] .bool (at_ [(109, 17), (43, 7)] (.ints []) no_), off_, noL⟩
section
variable (cs : List Value) (n : Nat) (lim : Int) (t s : Nat) (ex : Bool)
noncomputable def o6 (C : Cfg) : Out QRes := execO Tryz.prog 5 C 80 (.call 6 ⟨[sl 4 0 n n, i lim]⟩ (heapL (hA ++ [.cells cs t s ex])))
noncomputable def o6z : Out QRes := execO Tryz.prog 5 CUz 80 (.call 6 ⟨[sl 4 0 0 0, i lim]⟩ (heapL (hA ++ [.cells [] t s ex])))
end
end Go.Proofs.YtafpmehhdcmllaaGreatDoor.Ways
set_option maxRecDepth 10000
noncomputable section
namespace Go.Proofs.YtafpmehhdcmllaaGreatDoor.Ways
open Go Go.Ex Go.RowKit Go.Ex.Srt
/-! ### MarketCurtails: the law's trees come out true -/
def lt1 : VT := .leaf (b_ true)
def lf1 : VT := .leaf (b_ false)
section
variable (cs : List Value) (n : Nat) (lim : Int) (t s : Nat) (ex : Bool)
def cE (cs : List Value) (n : Nat) : Int := c42E cs n 64 100000
def lE (lim : Int) : Int := rgE lim 0 6400000
def bdE (cs : List Value) (n : Nat) (lim : Int) : Int := firstF (eI [i (cE cs n), i (lE lim)]) 2 0
def lawU (M : VT) : VT := .br (ltF 10 n) (.br (!eqF n 65) lt1 M) M
noncomputable def M0 : VT := aV (tru (CiE cs n n)) <| aV (tru (BdE cs n n lim)) <| aV (tru (okI cs n n)) <| aV (tru (okI [i (cE cs n), i (lE lim)] 2 2)) <| .br (eqF (bdE cs n lim) 0) .fail (.br (eqF (b3 cs n lim) (bdE cs n lim)) lt1 lf1)
def cu1 (g : Bool) : List Value := cond g cs (nmL (resF cs n lim) n)
noncomputable def M1 (g : Bool) : VT := aV (tru (CiE cs n n)) <| aV (tru (CuE g cs n n lim)) <| aV (tru (okI cs n n)) <| aV (tru (okI [i (cE cs n), i (lE lim)] 2 2 ∧ bdE cs n lim = 0)) <| aV (tru (CuE g cs n n lim)) <| aV (tru (SiE (cu1 cs n lim g) (cu1 cs n lim g) n n n n)) <| .br (eqF 0 0) lt1 lf1
theorem w60 : (o6 cs n lim t s ex CU0).vals = lawU n (M0 cs n lim) := by kernel_rfl
theorem y60 : o6 cs n lim t s ex CU0 = (o6 cs n lim t s ex CU0).fix := by kernel_rfl
theorem w61 : (o6 cs n lim t s ex (CU 1 true)).vals = lawU n (M1 cs n lim true) := by kernel_rfl
theorem y61 : o6 cs n lim t s ex (CU 1 true) = (o6 cs n lim t s ex (CU 1 true)).fix := by kernel_rfl
theorem w62 : (o6 cs n lim t s ex (CU 2 false)).vals = lawU n (M1 cs n lim false) := by kernel_rfl
theorem y62 : o6 cs n lim t s ex (CU 2 false) = (o6 cs n lim t s ex (CU 2 false)).fix := by kernel_rfl
/-- no energies -/
noncomputable def Rz (have_ : Int) : VT := aV (tru (okI [] 0 0)) <| aV (tru (okI [i (cE [] 0), i (lE lim)] 2 2)) <| .br (eqF (bdE [] 0 lim) 0) (aV (tru (okI [] 0 0)) (.br (leF 0 lim) (.br (eqF have_ (bdE [] 0 lim)) lt1 lf1) .fail)) (.br (eqF have_ (bdE [] 0 lim)) lt1 lf1)
noncomputable def Mz : VT := aV (tru (okI [] 0 0)) <| aV (tru (okI [i (mnE 0 64), i (firstF (eE []) 0 0), i (toE lim)] 3 3)) <| .br (!eqF (b3 [] 0 lim) 0) (Rz lim (b3 [] 0 lim)) (aV (tru (okI [] 0 0)) (.br (leF 0 lim) (Rz lim 0) .fail))
theorem w6z : (o6z lim t s ex).vals = Mz lim := by kernel_rfl
theorem y6z : o6z lim t s ex = (o6z lim t s ex).fix := by kernel_rfl
end
section
variable {cs : List Value} {n : Nat} {lim : Int} {t s : Nat} {ex : Bool}
theorem eq_t {x y : Int} (h : x = y) : eqF x y = true := by rw [eqF_d]; exact decide_eq_true h
theorem bd_b3 (cs : List Value) (n : Nat) (lim : Int) : bdE cs n lim = b3 cs n lim := by
  show fst2 (cE cs n) (lE lim) = fst3 (mnE n 64) (firstF (eE cs) n 0) (toE lim)
  rw [fst2', fst3_eq]
  have e1 : mnE n 64 = if 64 < n then 5 else 0 := mnE_nat n 64
  have e2 : cE cs n = if 64 < n then 5 else firstF (eE cs) n 0 := by
    unfold cE c42E
    rw [eH_eE]
    by_cases h : 64 < n
    · rw [if_pos h, if_pos (by omega)]
    · rw [if_neg h, if_neg (by omega)]
  have e3 : lE lim = toE lim := rfl
  rw [e1, e2, e3]
  by_cases h : 64 < n
  · rw [if_pos h, if_pos h]; rfl
  · rw [if_neg h, if_neg h, if_neg (show ¬ (0 : Int) ≠ 0 by decide)]
    by_cases h2 : firstF (eE cs) n 0 ≠ 0
    · rw [if_pos h2, if_pos h2]
    · rw [if_neg h2, if_neg h2]
      by_cases h3 : toE lim ≠ 0
      · rw [if_pos h3]
      · rw [if_neg h3]; simpa using h3
def rawI (cs : List Value) (n : Nat) : Prop := cs.all Ex.flat = true ∧ cs.length = n * 1 ∧ ∀ j, j < n → areCells [.i .i64] cs (0 + j * 1) = true
theorem okI_of (h : rawI cs n) (hn : n < 1000000) : okI cs n n := ⟨h.1, Nat.le_refl _, by omega, fun j hj => by
  have := h.2.2 j hj
  unfold areCells at this
  rw [Bool.and_eq_true] at this
  exact this.1⟩
theorem lawU_sel {M : VT} (h : n ≤ 10 ∨ n = 65 → M.sel = some (b_ true)) : (lawU n M).sel = some (b_ true) := by
  unfold lawU
  by_cases h1 : 10 < n
  · rw [vb_t (by rw [ltF_eq]; exact decide_eq_true (by omega))]
    by_cases h2 : n = 65
    · rw [vb_f (by rw [eqF_d, decide_eq_true (by omega)]; rfl)]
      exact h (.inr h2)
    · rw [vb_t (by rw [eqF_d, decide_eq_false (by omega)]; rfl)]; rfl
  · rw [vb_f (by rw [ltF_eq]; exact decide_eq_false (by omega))]
    exact h (.inl (by omega))
theorem M0_sel (h : CiE cs n n) (hb : b3 cs n lim ≠ 0) : (M0 cs n lim).sel = some (b_ true) := by
  unfold M0
  rw [aP h, aP ⟨h.1, hb⟩, aP h.1, aP (okI2 _ _), vb_f (by rw [eqF_d, bd_b3]; exact decide_eq_false hb), vb_t (eq_t (bd_b3 cs n lim).symm)]; rfl
theorem M1_sel {g : Bool} (h : CuE g cs n n lim) : (M1 cs n lim g).sel = some (b_ true) := by
  have hc := h.1.1
  have hs : SiE (cu1 cs n lim g) (cu1 cs n lim g) n n n n := by
    have ho : okI (cu1 cs n lim g) n n := by
      cases g with
      | true => exact hc.1
      | false => exact nmL_ok _ hc.2.2.1
    exact ⟨ho, ho, rfl, fun _ _ => rfl⟩
  unfold M1
  rw [aP hc, aP h, aP hc.1, aP ⟨okI2 _ _, by rw [bd_b3]; exact b3_z h.1⟩, aP h, aP hs, vb_t (eq_t rfl)]; rfl
theorem ok0 : okI [] 0 0 := ⟨rfl, Nat.le_refl _, by decide, fun j hj => by omega⟩
theorem lim_z (h : bdE [] 0 lim = 0) : 0 ≤ lim := by
  have h' : fst2 (cE [] 0) (lE lim) = 0 := h
  rw [fst2'] at h'
  have h0 : cE [] 0 = 0 := rfl
  rw [h0, if_neg (show ¬ (0 : Int) ≠ 0 by decide)] at h'
  exact (rg_y (show rgE lim 0 6400000 = 0 from h')).1
theorem Rz_sel {x : Int} (h : x = bdE [] 0 lim) : (Rz lim x).sel = some (b_ true) := by
  unfold Rz
  rw [aP ok0, aP (okI2 _ _)]
  by_cases hb : bdE [] 0 lim = 0
  · rw [vb_t (eq_t hb), aP ok0, vb_t (by rw [leF_eq]; exact decide_eq_true (lim_z hb)), vb_t (eq_t h)]; rfl
  · rw [vb_f (by rw [eqF_d]; exact decide_eq_false hb), vb_t (eq_t h)]; rfl
theorem Mz_sel : (Mz lim).sel = some (b_ true) := by
  unfold Mz
  rw [aP ok0, aP (okI3 _ _ _)]
  by_cases hb : b3 [] 0 lim = 0
  · have hb' : bdE [] 0 lim = 0 := by rw [bd_b3]; exact hb
    rw [vb_f (ne_f hb), aP ok0, vb_t (by rw [leF_eq]; exact decide_eq_true (lim_z hb'))]
    exact Rz_sel hb'.symm
  · rw [vb_t (ne_t hb)]
    exact Rz_sel (bd_b3 [] 0 lim).symm
theorem law6_true (h : rawI cs n) : ∃ H', Sound Tryz.prog 5 (.call 6 ⟨[sl 4 0 n n, i lim]⟩ (heapL (hA ++ [.cells cs t s ex]))) (.val (b_ true) H') := by
  by_cases h1 : n = 0
  · subst h1
    have hcs : cs = [] := List.length_eq_zero_iff.1 (by have := h.2.1; omega)
    subst hcs
    obtain ⟨H', h'⟩ := Out.vals_sel (y6z lim t s ex) (v := b_ true) (by rw [w6z]; exact Mz_sel)
    exact ⟨H', execO_sound (C := CUz) tsUz .none 80 _ _ h'⟩
  · have hl := h.2.1
    by_cases hb : b3 cs n lim = 0
    · by_cases hs : sumW (eI cs) n ≤ lim
      · obtain ⟨H', h'⟩ := Out.vals_sel (y61 cs n lim t s ex) (v := b_ true) (by
          rw [w61]
          refine lawU_sel fun hn => ?_
          have hc : CiE cs n n := ⟨okI_of h (by omega), by omega, by omega, by omega⟩
          have h10 : n ≤ 10 := by
            rcases hn with hn | hn
            · exact hn
            · exfalso
              have := (bd_b3 cs n lim).trans hb
              subst hn
              have h5 : bdE cs 65 lim = 5 := rfl
              rw [h5] at this; cases this
          exact M1_sel (g := true) ⟨b3_va hc h10 hb, hs⟩)
        exact ⟨H', execO_sound (C := CU 1 true) (tsU 1 true true) .none 80 _ _ h'⟩
      · obtain ⟨H', h'⟩ := Out.vals_sel (y62 cs n lim t s ex) (v := b_ true) (by
          rw [w62]
          refine lawU_sel fun hn => ?_
          have hc : CiE cs n n := ⟨okI_of h (by omega), by omega, by omega, by omega⟩
          have h10 : n ≤ 10 := by
            rcases hn with hn | hn
            · exact hn
            · exfalso
              have := (bd_b3 cs n lim).trans hb
              subst hn
              have h5 : bdE cs 65 lim = 5 := rfl
              rw [h5] at this; cases this
          exact M1_sel (g := false) ⟨b3_va hc h10 hb, show lim < sumW (eI cs) n by omega⟩)
        exact ⟨H', execO_sound (C := CU 2 false) (tsU 2 true false) .none 80 _ _ h'⟩
    · obtain ⟨H', h'⟩ := Out.vals_sel (y60 cs n lim t s ex) (v := b_ true) (by
        rw [w60]
        refine lawU_sel fun hn => ?_
        have hc : CiE cs n n := ⟨okI_of h (by omega), by omega, by omega, by omega⟩
        exact M0_sel hc hb)
      exact ⟨H', execO_sound (C := CU0) (tsU 0 false true) .none 80 _ _ h'⟩
end
end Go.Proofs.YtafpmehhdcmllaaGreatDoor.Ways
