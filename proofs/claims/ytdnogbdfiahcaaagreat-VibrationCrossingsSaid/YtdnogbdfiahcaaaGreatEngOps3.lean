/- Engine, part 5: cuts, places, parts; append, copy, make. -/
import Derived.Test.YtdnogbdfiahcaaaGreatEngOps2
noncomputable section
namespace Go.Ex
open Go.RowKit

/-! ### places -/
def fieldAtS (P : Program) (s : TypeId) (v : Value) (f : Nat) : Option Value :=
  match v with
  | .pointer (some ⟨b, off, none⟩) => match P.underlying s with
    | some (.struct fs) => match fs[f]? with
      | some fd => match P.info? fd.type with
        | some i => if i.size = 0 then none else some (.pointer (some ⟨b, off + fd.offset, none⟩))
        | none => none
      | none => none
    | _ => none
  | _ => none
theorem run_fieldAtS {E : Env} {P : Program} {s : TypeId} {v v' u : Value} {f : Nat} (hv : VR E v v') (hs : fieldAtS P s v f = some u) (w : World) :
    ∃ u', (Instr.fieldAt s v' f).run P w = .ok u' w ∧ VR E u u' := by
  unfold fieldAtS at hs
  split at hs
  case h_2 => cases hs
  rename_i b off
  obtain ⟨e, he, rfl⟩ := hv.ptr_inv
  cases hu : P.underlying s with
  | none => rw [hu] at hs; cases hs
  | some d =>
    rw [hu] at hs
    cases d with
    | struct fs =>
      dsimp only at hs
      cases hf : fs[f]? with
      | none => rw [hf] at hs; cases hs
      | some fd =>
        rw [hf] at hs
        dsimp only at hs
        cases hi : P.info? fd.type with
        | none => rw [hi] at hs; cases hs
        | some i =>
          rw [hi] at hs
          dsimp only at hs
          split at hs
          · cases hs
          · rename_i hz
            cases hs
            refine ⟨.pointer (some ⟨e.blk, off + fd.offset + e.sh, none⟩), ?_, .ptr he⟩
            simp only [Instr.fieldAt, Sem.run_bind, run_underlying' hu, Result.andThen_ok, hf, Instr.sureAddr, Sem.run_pure, fieldPlace, run_sizeOf hi]
            rw [if_neg hz]
            simp only [Sem.run_pure, Result.andThen_ok, add_eq, show off + e.sh + fd.offset = off + fd.offset + e.sh from by omega]
    | _ => cases hs

def indexAtS (P : Program) (t : TypeId) (v : Value) (i : Int) : Option Value :=
  match P.underlying t, v with
  | some (.array n e), .pointer (some ⟨b, off, none⟩) => if 0 ≤ i ∧ i < n then match P.info? e with
      | some j => some (.pointer (some ⟨b, off + i.toNat * j.size, none⟩))
      | none => none
    else none
  | some (.slice e), .slice (some ⟨b, off, none⟩) len cap => if 0 ≤ i ∧ i < len ∧ len ≤ cap then match P.info? e with
      | some j => some (.pointer (some ⟨b, off + i.toNat * j.size, none⟩))
      | none => none
    else none
  | _, _ => none
theorem run_indexAtS {E : Env} {P : Program} {t : TypeId} {v v' u : Value} {k : IntKind} {i : Int} (hv : VR E v v') (hs : indexAtS P t v i = some u) (w : World) :
    ∃ u', (Instr.indexAt t v' (.int k i)).run P w = .ok u' w ∧ VR E u u' := by
  unfold indexAtS at hs
  split at hs
  · rename_i n e b off hu
    obtain ⟨x, he, rfl⟩ := hv.ptr_inv
    split at hs
    case isFalse => cases hs
    rename_i hi
    cases hj : P.info? e with
    | none => rw [hj] at hs; cases hs
    | some j =>
      rw [hj] at hs
      cases hs
      refine ⟨.pointer (some ⟨x.blk, off + i.toNat * j.size + x.sh, none⟩), ?_, .ptr he⟩
      simp only [Instr.indexAt, asIntOf, Sem.run_bind, Sem.run_pure, run_underlying' hu, Result.andThen_ok, Instr.sureAddr]
      rw [if_pos hi]
      simp only [Sem.run_bind, run_sizeOf hj, Sem.run_pure, Result.andThen_ok, add_eq, show off + x.sh + i.toNat * j.size = off + i.toNat * j.size + x.sh from by omega]
  · rename_i e b off len cap hu
    split at hs
    case isFalse => cases hs
    rename_i hi
    obtain ⟨x, off', he, rfl, ho⟩ := hv.slice_inv (by omega)
    cases hj : P.info? e with
    | none => rw [hj] at hs; cases hs
    | some j =>
      rw [hj] at hs
      cases hs
      have ho' : off' = off + x.sh := by
        rcases ho with ho | ho
        · exact ho
        · omega
      subst ho'
      refine ⟨.pointer (some ⟨x.blk, off + i.toNat * j.size + x.sh, none⟩), ?_, .ptr he⟩
      simp only [Instr.indexAt, asIntOf, Sem.run_bind, Sem.run_pure, run_underlying' hu, Result.andThen_ok]
      rw [if_pos ⟨hi.1, hi.2.1⟩]
      simp only [Sem.run_bind, run_sizeOf hj, Sem.run_pure, Result.andThen_ok, add_eq, show off + x.sh + i.toNat * j.size = off + i.toNat * j.size + x.sh from by omega]
  · cases hs

/-! ### parts -/
def partS (P : Program) (t : TypeId) (cs : Array Value) (off : Nat) : Option Value :=
  match aggB P t with
  | some true => match P.info? t with
    | some i => some (.agg (cs.extract off (off + i.size)))
    | none => none
  | some false => cs[off]?
  | none => none
theorem run_partS {E : Env} {P : Program} {t : TypeId} {cs cs' : Array Value} {off : Nat} {v : Value} (hc : VRs E cs cs') (hs : partS P t cs off = some v) (w : World) :
    ∃ v', (part t cs' off).run P w = .ok v' w ∧ VR E v v' := by
  unfold partS at hs
  cases ha : aggB P t with
  | none => rw [ha] at hs; cases hs
  | some g =>
    rw [ha] at hs
    cases g with
    | false =>
      obtain ⟨v', h1, h2⟩ := hc.get hs
      refine ⟨v', ?_, h2⟩
      simp only [part, Sem.run_bind, run_isAgg ha, Result.andThen_ok, Bool.false_eq_true, if_false, h1, Sem.run_pure]
    | true =>
      dsimp only at hs
      cases hi : P.info? t with
      | none => rw [hi] at hs; cases hs
      | some i =>
        rw [hi] at hs
        cases hs
        have hx := hc.extract off (off + i.size)
        refine ⟨_, ?_, .agg hx.size hx.at_⟩
        simp only [part, Sem.run_bind, run_isAgg ha, Result.andThen_ok, if_true, run_sizeOf hi, Sem.run_pure]
def fieldS (P : Program) (t : TypeId) (v : Value) (f : Nat) : Option Value :=
  match v with
  | .agg cs => match P.underlying t with
    | some (.struct fs) => match fs[f]? with
      | some fd => partS P fd.type cs fd.offset
      | none => none
    | _ => none
  | _ => none
theorem run_fieldS {E : Env} {P : Program} {t : TypeId} {v v' u : Value} {f : Nat} (hv : VR E v v') (hs : fieldS P t v f = some u) (w : World) :
    ∃ u', (Instr.field t v' f).run P w = .ok u' w ∧ VR E u u' := by
  unfold fieldS at hs
  split at hs
  case h_2 => cases hs
  rename_i cs
  obtain ⟨cs', rfl, hc⟩ := hv.agg_inv
  cases hu : P.underlying t with
  | none => rw [hu] at hs; cases hs
  | some d =>
    rw [hu] at hs
    cases d with
    | struct fs =>
      dsimp only at hs
      cases hf : fs[f]? with
      | none => rw [hf] at hs; cases hs
      | some fd =>
        rw [hf] at hs
        obtain ⟨u', h1, h2⟩ := run_partS hc hs w
        refine ⟨u', ?_, h2⟩
        simp only [Instr.field, Sem.run_bind, run_underlying' hu, Result.andThen_ok, hf, asAgg, Sem.run_pure, h1]
    | _ => cases hs
def indexS (P : Program) (t : TypeId) (v : Value) (i : Int) : Option Value :=
  match v with
  | .agg cs => match P.underlying t with
    | some (.array n e) => if 0 ≤ i ∧ i < n then match P.info? e with
        | some j => partS P e cs (i.toNat * j.size)
        | none => none
      else none
    | _ => none
  | _ => none
theorem run_indexS {E : Env} {P : Program} {t : TypeId} {v v' u : Value} {k : IntKind} {i : Int} (hv : VR E v v') (hs : indexS P t v i = some u) (w : World) :
    ∃ u', (Instr.index t v' (.int k i)).run P w = .ok u' w ∧ VR E u u' := by
  unfold indexS at hs
  split at hs
  case h_2 => cases hs
  rename_i cs
  obtain ⟨cs', rfl, hc⟩ := hv.agg_inv
  cases hu : P.underlying t with
  | none => rw [hu] at hs; cases hs
  | some d =>
    rw [hu] at hs
    cases d with
    | array n e =>
      dsimp only at hs
      split at hs
      case isFalse => cases hs
      rename_i hi
      cases hj : P.info? e with
      | none => rw [hj] at hs; cases hs
      | some j =>
        rw [hj] at hs
        obtain ⟨u', h1, h2⟩ := run_partS hc hs w
        refine ⟨u', ?_, h2⟩
        simp only [Instr.index, asIntOf, Sem.run_bind, Sem.run_pure, run_underlying' hu, Result.andThen_ok]
        rw [if_pos hi]
        simp only [Sem.run_bind, run_sizeOf hj, Result.andThen_ok, h1]
    | _ => cases hs

/-! ### cuts of slices and of arrays -/
/-- a bound: none, or an int -/
def bnd : Option Value → Option (Option Int)
  | none => some none
  | some (.int _ i) => some (some i)
  | _ => none
theorem run_sliceBound {P : Program} {k : IntKind} {i : Int} {y : Nat} {c : BoundsCode} (h : 0 ≤ i ∧ i ≤ y) (w : World) : (Instr.sliceBound (.int k i) y c).run P w = .ok i.toNat w := by
  simp only [Instr.sliceBound, asIntOf, Sem.run_bind, Sem.run_pure, Result.andThen_ok]
  rw [if_pos h]; rfl

/-- the low and the high bound of a cut: len, cap as the canonical run has them -/
def boundsS (len cap : Nat) (lo hi : Option Value) : Option (Nat × Nat) :=
  match bnd hi with
  | none => none
  | some hi => match bnd lo with
    | none => none
    | some lo =>
      let h : Int := match hi with | some i => i | none => len
      let l : Int := match lo with | some i => i | none => 0
      if 0 ≤ l ∧ l ≤ h ∧ h ≤ cap then some (l.toNat, h.toNat) else none
theorem run_sliceBounds {P : Program} {b : Bool} {len cap cap' : Nat} {lo hi : Option Value} {l h : Nat} (hs : boundsS len cap lo hi = some (l, h)) (hc : cap ≤ cap') (w : World) :
    (Instr.sliceBounds b len cap' lo hi none).run P w = .ok (l, h, cap') w ∧ l ≤ h ∧ h ≤ cap := by
  unfold boundsS at hs
  have hlo : lo = none ∨ ∃ k i, lo = some (.int k i) := by
    cases lo with
    | none => exact .inl rfl
    | some v =>
      cases hi with
      | none => cases v <;> first | (exact .inr ⟨_, _, rfl⟩) | (simp [bnd] at hs)
      | some u => cases u <;> first | (simp [bnd] at hs; done) | (cases v <;> first | (exact .inr ⟨_, _, rfl⟩) | (simp [bnd] at hs))
  have hhi : hi = none ∨ ∃ k i, hi = some (.int k i) := by
    cases hi with
    | none => exact .inl rfl
    | some u => cases u <;> first | (exact .inr ⟨_, _, rfl⟩) | (simp [bnd] at hs)
  rcases hhi with rfl | ⟨kh, ih, rfl⟩ <;> rcases hlo with rfl | ⟨kl, il, rfl⟩ <;> simp only [bnd] at hs <;> split at hs <;> cases hs <;> rename_i hq
  · refine ⟨by simp [Instr.sliceBounds], by omega, by omega⟩
  · refine ⟨?_, by omega, by omega⟩
    simp only [Instr.sliceBounds, Sem.run_bind, Sem.run_pure, Result.andThen_ok]
    rw [run_sliceBound (by omega)]
    simp
  · refine ⟨?_, by omega, by omega⟩
    simp only [Instr.sliceBounds, Sem.run_bind, Sem.run_pure, Result.andThen_ok]
    rw [run_sliceBound (by omega)]
    simp
  · refine ⟨?_, by omega, by omega⟩
    simp only [Instr.sliceBounds, Sem.run_bind, Sem.run_pure, Result.andThen_ok]
    rw [run_sliceBound (by omega)]
    simp only [Result.andThen_ok]
    rw [run_sliceBound (by omega)]
    simp

def sliceS (P : Program) (H : CH) (t : TypeId) (v : Value) (lo hi : Option Value) : Option Value :=
  match P.underlying t, v with
  | some (.slice e), .slice (some ⟨b, off, none⟩) len cap => match P.info? e with
    | some i => (boundsS len cap lo hi).map fun (l, h) => .slice (some ⟨b, off + l * i.size, none⟩) (h - l) (cap - l)
    | none => none
  | some (.slice e), .slice none len cap => match P.info? e with
    | some _ => (boundsS len cap lo hi).map fun (l, h) => .slice none (h - l) (cap - l)
    | none => none
  | some (.array n e), .pointer (some ⟨b, off, none⟩) => match H[b]? with
    | some (.cells _ _ _ true) => match P.info? e with
      | some i => (boundsS n n lo hi).map fun (l, h) => .slice (some ⟨b, off + l * i.size, none⟩) (h - l) (n - l)
      | none => none
    | _ => none
  | _, _ => none
theorem run_sliceS {w0 : World} {G : Nat} {E : Env} {H : CH} {w : World} {P : Program} (hw : WR w0 G E H w) {t : TypeId} {v v' u : Value} {lo hi : Option Value} (hv : VR E v v') (hs : sliceS P H t v lo hi = some u) :
    ∃ u', (Instr.sliceAt t v' lo hi none).run P w = .ok u' w ∧ VR E u u' := by
  unfold sliceS at hs
  split at hs
  · rename_i e b off len cap hu
    cases hi' : P.info? e with
    | none => rw [hi'] at hs; cases hs
    | some i =>
      rw [hi'] at hs
      dsimp only at hs
      cases hb : boundsS len cap lo hi with
      | none => rw [hb] at hs; cases hs
      | some q =>
        obtain ⟨l, h⟩ := q
        rw [hb] at hs
        cases hs
        rcases hv.slice_inv' with ⟨rfl, rfl, rfl⟩ | ⟨x, off', he, rfl, ho⟩
        · obtain ⟨h1, h2, h3⟩ := run_sliceBounds (P := P) (b := true) hb (Nat.le_refl 0) w
          have hl : l = 0 := by omega
          have hh : h = 0 := by omega
          subst hl
          subst hh
          refine ⟨.slice none 0 0, ?_, .nils⟩
          simp only [Instr.sliceAt, Sem.run_bind, run_underlying' hu, Result.andThen_ok, Instr.slice, h1, run_sizeOf hi', Sem.run_pure, Option.map_none, ite_self]
        obtain ⟨h1, h2, h3⟩ := run_sliceBounds (P := P) (b := true) hb (Nat.le_add_right cap x.dl) w
        refine ⟨.slice (if cap + x.dl = l then some ⟨x.blk, off', none⟩ else some ⟨x.blk, off' + l * i.size, none⟩) (h - l) (cap + x.dl - l), ?_, ?_⟩
        · simp only [Instr.sliceAt, Sem.run_bind, run_underlying' hu, Result.andThen_ok, Instr.slice, h1, run_sizeOf hi', Sem.run_pure, Option.map_some, add_eq]
        · rw [show cap + x.dl - l = cap - l + x.dl from by omega]
          split
          · rename_i hcl
            exact .slice he (.inr (by omega))
          · rename_i hcl
            refine .slice he (.inl ?_)
            show off' + l * i.size = off + l * i.size + x.sh
            rcases ho with ho | ho
            · rw [ho]; omega
            · omega
  · rename_i e len cap hu
    cases hv with
    | flat _ =>
      cases hi' : P.info? e with
      | none => rw [hi'] at hs; cases hs
      | some i =>
        rw [hi'] at hs
        dsimp only at hs
        cases hb : boundsS len cap lo hi with
        | none => rw [hb] at hs; cases hs
        | some q =>
          obtain ⟨l, h⟩ := q
          rw [hb] at hs
          cases hs
          obtain ⟨h1, h2, h3⟩ := run_sliceBounds (P := P) (b := true) hb (Nat.le_refl cap) w
          refine ⟨.slice none (h - l) (cap - l), ?_, .flat rfl⟩
          simp only [Instr.sliceAt, Sem.run_bind, run_underlying' hu, Result.andThen_ok, Instr.slice, h1, run_sizeOf hi', Sem.run_pure, Option.map_none, ite_self]
  · rename_i n e b off hu
    obtain ⟨x, he, rfl⟩ := hv.ptr_inv
    split at hs
    case h_2 => cases hs
    rename_i cs tt ss hH
    obtain ⟨_, _, _, _, _, _, hex⟩ := (hw.obj b _ x hH he).there (.inr rfl)
    have hdl := hex rfl
    cases hi' : P.info? e with
    | none => rw [hi'] at hs; cases hs
    | some i =>
      rw [hi'] at hs
      dsimp only at hs
      cases hb : boundsS n n lo hi with
      | none => rw [hb] at hs; cases hs
      | some q =>
        obtain ⟨l, h⟩ := q
        rw [hb] at hs
        cases hs
        obtain ⟨h1, h2, h3⟩ := run_sliceBounds (P := P) (b := false) hb (Nat.le_refl n) w
        refine ⟨.slice (some (if n = l then ⟨x.blk, off + x.sh, none⟩ else ⟨x.blk, off + x.sh + l * i.size, none⟩)) (h - l) (n - l), ?_, ?_⟩
        · simp only [Instr.sliceAt, Sem.run_bind, run_underlying' hu, Result.andThen_ok, Instr.sureAddr, h1, run_sizeOf hi', Sem.run_pure, add_eq]
        · have hnl : n - l = n - l + x.dl := by omega
          rw [hnl]
          split
          · rename_i hcl
            have := VR.slice (E := E) (b := b) (off := off + l * i.size) (len := h - l) (cap := n - l) (off' := off + x.sh) he (.inr (by omega))
            simpa [hdl] using this
          · rename_i hcl
            have := VR.slice (E := E) (b := b) (off := off + l * i.size) (len := h - l) (cap := n - l) (off' := off + x.sh + l * i.size) he (.inl (by omega))
            simpa [hdl] using this
  · cases hs
/-- a cut with three bounds, of a block that has no room behind -/
def slice3S (P : Program) (H : CH) (t : TypeId) (v lo hi mx : Value) : Option Value :=
  match P.underlying t, v with
  | some (.slice e), .slice (some ⟨b, off, none⟩) _ cap => match lo, hi with
    | .int _ l, .int _ h => match mx with
      | .int _ m => match P.info? e, H[b]? with
        | some i, some (.cells _ _ _ true) => if 0 ≤ l ∧ l ≤ h ∧ h ≤ m ∧ m ≤ cap then some (.slice (some ⟨b, off + l.toNat * i.size, none⟩) (h.toNat - l.toNat) (m.toNat - l.toNat)) else none
        | _, _ => none
      | _ => none
    | _, _ => none
  | _, _ => none
theorem run_slice3S {w0 : World} {G : Nat} {E : Env} {H : CH} {w : World} {P : Program} (hw : WR w0 G E H w) {t : TypeId} {v v' u lo hi mx lo' hi' mx' : Value} (hv : VR E v v') (h1 : VR E lo lo') (h2 : VR E hi hi') (h3 : VR E mx mx') (hs : slice3S P H t v lo hi mx = some u) :
    ∃ u', (Instr.sliceAt t v' (some lo') (some hi') (some mx')).run P w = .ok u' w ∧ VR E u u' := by
  unfold slice3S at hs
  split at hs
  case h_2 => cases hs
  rename_i e b off len cap hu
  split at hs
  case h_2 => cases hs
  rename_i kl l kh h
  split at hs
  case h_2 => cases hs
  rename_i km m
  split at hs
  case h_2 => cases hs
  rename_i i cs tt ss hi' hH
  split at hs
  case isFalse => cases hs
  rename_i hq
  cases hs
  rw [h1.int_inv, h2.int_inv, h3.int_inv]
  have hb : ∀ (len cap' : Nat), cap ≤ cap' → (Instr.sliceBounds true len cap' (some (.int kl l)) (some (.int kh h)) (some (.int km m))).run P w = .ok (l.toNat, h.toNat, m.toNat) w := by
    intro len cap' hc
    simp only [Instr.sliceBounds, Sem.run_bind, Sem.run_pure]
    rw [run_sliceBound (by omega)]
    simp only [Result.andThen_ok]
    rw [run_sliceBound (by omega)]
    simp only [Result.andThen_ok]
    rw [run_sliceBound (by omega)]
    simp
  rcases hv.slice_inv' with ⟨rfl, rfl, rfl⟩ | ⟨x, off', he, rfl, ho⟩
  · have hl : l = 0 := by omega
    have hh : h = 0 := by omega
    have hm : m = 0 := by omega
    subst hl; subst hh; subst hm
    refine ⟨.slice none 0 0, ?_, .nils⟩
    simp only [Instr.sliceAt, Sem.run_bind, run_underlying' hu, Result.andThen_ok, Instr.slice, hb 0 0 (Nat.le_refl 0), run_sizeOf hi', Sem.run_pure, Option.map_none, ite_self]
    rfl
  · obtain ⟨_, _, _, _, _, _, hex⟩ := (hw.obj b _ x hH he).there (.inr rfl)
    obtain ⟨hdl, _, _⟩ := hex rfl
    refine ⟨.slice (if m.toNat = l.toNat then some ⟨x.blk, off', none⟩ else some ⟨x.blk, off' + l.toNat * i.size, none⟩) (h.toNat - l.toNat) (m.toNat - l.toNat), ?_, ?_⟩
    · simp only [Instr.sliceAt, Sem.run_bind, run_underlying' hu, Result.andThen_ok, Instr.slice, hb len (cap + x.dl) (Nat.le_add_right _ _), run_sizeOf hi', Sem.run_pure, Option.map_some, add_eq]
    · rw [show m.toNat - l.toNat = (m.toNat - l.toNat) + x.dl from by omega]
      split
      · rename_i hcl
        have := VR.slice (b := b) (off := off + l.toNat * i.size) (len := h.toNat - l.toNat) (cap := m.toNat - l.toNat) (off' := off') he (.inr (by omega))
        rw [hdl] at this ⊢
        exact this
      · have := VR.slice (b := b) (off := off + l.toNat * i.size) (len := h.toNat - l.toNat) (cap := m.toNat - l.toNat) (off' := off' + l.toNat * i.size) he (.inl (by
          rcases ho with ho | ho
          · rw [ho]; omega
          · omega))
        rw [hdl] at this ⊢
        exact this
/-- a slice as a pointer to an array -/
def arrPtrS (P : Program) (t : TypeId) (v : Value) : Option Value :=
  match P.underlying t, v with
  | some (.array n _), .slice (some ⟨b, off, none⟩) len cap => if n ≤ len ∧ 1 ≤ n ∧ 1 ≤ cap then some (.pointer (some ⟨b, off, none⟩)) else none
  | _, _ => none
theorem run_arrPtrS {E : Env} {P : Program} {t : TypeId} {v v' u : Value} (hv : VR E v v') (hs : arrPtrS P t v = some u) (w : World) : ∃ u', (Instr.arrayAt t v').run P w = .ok u' w ∧ VR E u u' := by
  unfold arrPtrS at hs
  split at hs
  case h_2 => cases hs
  rename_i n e b off len cap hu
  split at hs
  case isFalse => cases hs
  rename_i hq
  cases hs
  obtain ⟨x, off', he, rfl, ho⟩ := hv.slice_inv (by omega)
  have hoff : off' = off + x.sh := by
    rcases ho with ho | ho
    · exact ho
    · omega
  subst hoff
  refine ⟨.pointer (some ⟨x.blk, off + x.sh, none⟩), ?_, .ptr he⟩
  simp only [Instr.arrayAt, Sem.run_bind, run_underlying' hu, Result.andThen_ok]
  rw [if_neg (by omega)]
  rfl
end Go.Ex
