/- Engine, part 30: a listed variable lies as its datum says: what is read tells the cells. -/
import Derived.Test.YtbbkjmoomflecaaEngPure
import Derived.OpenShut
noncomputable section
namespace Go.Ex
open Go.RowKit

def flatT (P : Program) : Nat → TypeId → Bool
  | 0, _ => false
  | n + 1, t => match P.underlying t with
    | some .bool => true
    | some (.int _) => true
    | some .string => true
    | some (.struct fs) => fs.toList.all (fun f => flatT P n f.type) && (List.range (P.cellsOf t)).all fun j => fs.toList.any fun f => decide (f.offset ≤ j) && decide (j < f.offset + P.cellsOf f.type)
    | some (.array m e) => flatT P n e && decide (P.cellsOf t = m * P.cellsOf e)
    | _ => false
theorem chunk_get {cs cs' : List Value} {off c j : Nat} (h : (cs.drop off).take c = (cs'.drop off).take c) (h1 : off ≤ j) (h2 : j < off + c) : cs[j]? = cs'[j]? := by
  have := congrArg (fun l => l[j - off]?) h
  simp only [List.getElem?_take, List.getElem?_drop] at this
  rw [if_pos (by omega), if_pos (by omega), show off + (j - off) = j from by omega] at this
  exact this
theorem map_fst_get {α β : Type} {xs ys : List (α × β)} (h : xs.map (·.1) = ys.map (·.1)) {i : Nat} {x : α × β} (hx : xs[i]? = some x) : ∃ y, ys[i]? = some y ∧ y.1 = x.1 := by
  have := congrArg (fun l => l[i]?) h
  simp only [List.getElem?_map, hx, Option.map_some] at this
  cases hy : ys[i]? with
  | none => rw [hy] at this; cases this
  | some y => rw [hy] at this; exact ⟨y, rfl, by simpa using this.symm⟩
theorem trod_inj {H : Type} {enc : TypeId × Value → H} {P : Program} {w w' : World} {base : Nat} {spare : Nat → Bool} {held : Bool} : ∀ (n : Nat) (t : TypeId), flatT P n t = true →
    ∀ (fuel fuel' : Nat) (cs cs' : List Value) (d : DataW H) (p p' : List MemPlace), DataW.trod enc P w base spare held fuel t cs = some (d, p) → DataW.trod enc P w' base spare held fuel' t cs' = some (d, p') → cs = cs'
  | 0, _, h => by cases h
  | n + 1, t, h => by
    intro fuel fuel' cs cs' d p p' h1 h2
    unfold flatT at h
    split at h
    · rename_i hu
      obtain ⟨b, rfl, e1⟩ := DataW.trod_bool hu h1
      obtain ⟨b', rfl, e2⟩ := DataW.trod_bool hu h2
      cases e1; cases e2; rfl
    · rename_i k hu
      obtain ⟨b, rfl, e1, _⟩ := DataW.trod_int hu h1
      obtain ⟨b', rfl, e2, _⟩ := DataW.trod_int hu h2
      cases e1; cases e2; rfl
    · rename_i hu
      have key : ∀ {w : World} {fuel : Nat} {cs : List Value} {p : List MemPlace}, DataW.trod enc P w base spare held fuel t cs = some (d, p) → ∃ s : ByteArray, cs = [.string s] ∧ d = .lit (.string s.data.toList) := by
        intro w fuel cs p h
        cases fuel with
        | zero => simp [DataW.trod] at h
        | succ m =>
          unfold DataW.trod at h
          rw [hu] at h
          split at h <;> simp_all
      obtain ⟨s, rfl, rfl⟩ := key h1
      obtain ⟨s', rfl, e⟩ := key h2
      have : s.data = s'.data := by
        apply Array.toList_inj.1
        injection e with e
        injection e
      cases s; cases s'; simp at this; rw [this]
    · rename_i fs hu
      rw [Bool.and_eq_true] at h
      obtain ⟨xs, m, _, e1, l1, n1, f1⟩ := DataW.trod_struct hu h1
      obtain ⟨ys, m', _, e2, l2, n2, f2⟩ := DataW.trod_struct hu h2
      simp only [Prod.mk.injEq] at e1 e2
      have exy : xs.map (·.1) = ys.map (·.1) := by
        have := e1.1.symm.trans e2.1
        injection this
      apply List.ext_getElem?
      intro j
      by_cases hj : j < P.cellsOf t
      · have hc := List.all_eq_true.1 h.2 j (List.mem_range.2 hj)
        obtain ⟨f, hf, hjf⟩ := List.any_eq_true.1 hc
        rw [Bool.and_eq_true, decide_eq_true_eq, decide_eq_true_eq] at hjf
        obtain ⟨i, hi⟩ := List.getElem?_of_mem hf
        have hi' : fs[i]? = some f := by simpa using hi
        have g1 := f1 i f hi'
        have g2 := f2 i f hi'
        have hil : i < fs.size := (Array.getElem?_eq_some_iff.1 hi').1
        have hx : xs[i]? = some xs[i] := List.getElem?_eq_getElem (by omega)
        obtain ⟨y, hy, hyx⟩ := map_fst_get exy hx
        rw [hx] at g1
        rw [hy] at g2
        have hfl := List.all_eq_true.1 h.1 f hf
        have := trod_inj n f.type hfl _ _ _ _ xs[i].1 xs[i].2 y.2 g1 (by rw [g2, ← hyx])
        exact chunk_get this hjf.1 hjf.2
      · rw [List.getElem?_eq_none (by omega), List.getElem?_eq_none (by omega)]
    · rename_i k e hu
      rw [Bool.and_eq_true, decide_eq_true_eq] at h
      obtain ⟨xs, m, _, e1, l1, n1, f1⟩ := DataW.trod_array hu h1
      obtain ⟨ys, m', _, e2, l2, n2, f2⟩ := DataW.trod_array hu h2
      simp only [Prod.mk.injEq] at e1 e2
      have exy : xs.map (·.1) = ys.map (·.1) := by
        have := e1.1.symm.trans e2.1
        injection this
      apply List.ext_getElem?
      intro j
      by_cases hj : j < P.cellsOf t
      · have hpos : 0 < P.cellsOf e := by
          rcases Nat.eq_zero_or_pos (P.cellsOf e) with hz | hz
          · rw [h.2, hz, Nat.mul_zero] at hj; omega
          · exact hz
        have hi : j / P.cellsOf e < k := by
          rw [Nat.div_lt_iff_lt_mul hpos, ← h.2]; exact hj
        have g1 := f1 _ hi
        have g2 := f2 _ hi
        have hx : xs[j / P.cellsOf e]? = some xs[j / P.cellsOf e] := List.getElem?_eq_getElem (by omega)
        obtain ⟨y, hy, hyx⟩ := map_fst_get exy hx
        rw [hx] at g1
        rw [hy] at g2
        have := trod_inj n e h.1 _ _ _ _ xs[j / P.cellsOf e].1 xs[j / P.cellsOf e].2 y.2 g1 (by rw [g2, ← hyx])
        refine chunk_get this (Nat.div_mul_le_self _ _) ?_
        have := Nat.lt_div_mul_add (a := j) hpos
        omega
      · rw [List.getElem?_eq_none (by omega), List.getElem?_eq_none (by omega)]
    · cases h
theorem laidVars_get {P : Program} {w : World} : ∀ (l : List (String × DataW Unit)) (ps : List MemPlace), DataW.LaidVars P w l ps → ∀ (k : Nat) (n : String) (d : DataW Unit), l[k]? = some (n, d) →
    ∃ g t cs fuel p, P.globalNamed n = some g ∧ (P.globals[g]?).map (·.type) = some t ∧ w.var? P n = some cs ∧ DataW.trod (fun _ => ()) P w 0 (fun _ => true) false fuel t cs.toList = some (d, p)
  | [], _, _, k, n, d, h => by simp at h
  | (n0, d0) :: r, ps, hl, k, n, d, h => by
    obtain ⟨g, t, cs, fuel, p, q, h1, h2, h3, h4, h5, _⟩ := hl
    cases k with
    | zero =>
      simp at h
      obtain ⟨rfl, rfl⟩ := h
      exact ⟨g, t, cs, fuel, p, h1, h2, h3, h4⟩
    | succ k => exact laidVars_get r q h5 k n d (by simpa using h)
/-- a listed variable, at its number -/
theorem laid_at {P : Program} {W : World} {l : List (String × DataW Unit)} {name : String} {d : DataW Unit} {known : List Value} {g : Nat} {t0 t : TypeId} {s : Nat} (k m : Nat) (hs : W.ShapedOpen P) (hL : laidMet P l W) (hm : l[k]? = some (name, d))
    (hg : P.globalNamed name = some g) (hlt : g < P.globals.size) (hty : (P.globals[g]?).map (·.type) = some t0) (hflat : flatT P m t0 = true)
    (hknown : (DataW.trod (fun _ => ()) P W 0 (fun _ => true) false m t0 known).map (·.1) = some d)
    (h0 : (((begin P (fun _ _ => 0) default).world.heap[g]?).bind Obj.row?).map (·.2) = some t) (hc : known.all (clean 6) = true) : LaidAt W g (.cells known t s true) := by
  obtain ⟨ps, hv, _⟩ := hL
  obtain ⟨g', t', cs, fuel, p, h1, h2, h3, h4⟩ := laidVars_get l ps hv k name d hm
  obtain rfl := Option.some.inj (hg.symm.trans h1)
  obtain rfl := Option.some.inj (hty.symm.trans h2)
  obtain ⟨x, hx, rfl⟩ := map_some' hknown
  obtain ⟨d', p'⟩ := x
  have : cs.toList = known := trod_inj m t0 hflat _ _ _ _ d' p p' h4 hx
  refine laidAt_of hs hg hlt h0 ?_ hc
  rw [h3, ← this]
end Go.Ex
