/- Part of the proof. -/
import Derived.Test.YteemponkignnhaaGreatEngPl
import Derived.Deep.Slices
import Derived.Carry
import Derived.ChangeArms
import Derived.ProofKit
import Derived.OpenShut
import Derived.Deep.DeepHandedRow
import Derived.Lib.SmallJoins
import Derived.WideKeyArgs
noncomputable section
namespace Go.Ex
open Go.RowKit
def cellKind (P : Program) : Nat → TypeId → Nat → Option CK
  | 0, _, _ => none
  | n + 1, t, i => match P.underlying t with
    | some (.struct fs) => match fs.toList.find? (fun f => decide (f.offset ≤ i) && decide (i < f.offset + P.cellsOf f.type)) with
      | some f => cellKind P n f.type (i - f.offset)
      | none => none
    | some (.array m e) => if i < m * P.cellsOf e then cellKind P n e (i % P.cellsOf e) else none
    | _ => if i = 0 then kindOf1 P t else none
def wfCell (v : Option Value) : Prop := ∀ (k : IntKind) (m : Int), v = some (.int k m) → (Lit.int k m).wf = true
section
variable {H : Type} {enc : TypeId × Value → H} {P : Program} {w : World} {base : Nat} {spare : Nat → Bool} {held : Bool}
theorem trod_string' {t : TypeId} {cs : List Value} {fuel : Nat} {x : DataW H × List MemPlace} (hu : P.underlying t = some .string) (h : DataW.trod enc P w base spare held fuel t cs = some x) : ∃ s : ByteArray, cs = [.string s] := by
  cases fuel with
  | zero => simp [DataW.trod] at h
  | succ m =>
    unfold DataW.trod at h
    rw [hu] at h
    split at h <;> simp_all
theorem trod_one_kind {t : TypeId} {k : CK} {cs : List Value} {fuel : Nat} {x : DataW H × List MemPlace} (hk : kindOf1 P t = some k) (h : DataW.trod enc P w base spare held fuel t cs = some x) : cs.length = 1 ∧ isCellB k cs[0]? = true ∧ wfCell cs[0]? := by
  unfold kindOf1 at hk
  split at hk
  · rename_i k' hu
    cases hk
    obtain ⟨n, rfl, _, hw⟩ := DataW.trod_int hu h
    refine ⟨rfl, ?_, ?_⟩
    · show sameKind k' k' = true
      exact decide_eq_true rfl
    · intro k m hm
      cases hm
      exact hw
  · rename_i hu
    cases hk
    obtain ⟨b, rfl, _⟩ := DataW.trod_bool hu h
    exact ⟨rfl, rfl, fun k m hm => by cases hm⟩
  · rename_i hu
    cases hk
    obtain ⟨s, rfl⟩ := trod_string' hu h
    exact ⟨rfl, rfl, fun k m hm => by cases hm⟩
  · cases hk
theorem chunk_at {cs : List Value} {off c i : Nat} (hi : i < c) : ((cs.drop off).take c)[i]? = cs[off + i]? := by
  rw [List.getElem?_take, if_pos hi, List.getElem?_drop]
theorem trod_kind : ∀ (n : Nat) (t : TypeId) (i : Nat) (k : CK), cellKind P n t i = some k → ∀ (fuel : Nat) (cs : List Value) (x : DataW H × List MemPlace), DataW.trod enc P w base spare held fuel t cs = some x → isCellB k cs[i]? = true ∧ wfCell cs[i]?
  | 0, _, _, _, h => by cases h
  | n + 1, t, i, k, h => by
    intro fuel cs x hx
    unfold cellKind at h
    split at h
    · rename_i fs hu
      split at h
      case h_2 => cases h
      rename_i f hf
      have hmem := List.mem_of_find?_eq_some hf
      have hp := List.find?_some hf
      simp only [Bool.and_eq_true, decide_eq_true_eq] at hp
      obtain ⟨xs, m, _, e1, l1, n1, f1⟩ := DataW.trod_struct hu hx
      obtain ⟨j, hj⟩ := List.getElem?_of_mem hmem
      have hj' : fs[j]? = some f := by simpa using hj
      have g := f1 j f hj'
      have hjl : j < fs.size := (Array.getElem?_eq_some_iff.1 hj').1
      have hxj : xs[j]? = some xs[j] := List.getElem?_eq_getElem (by omega)
      rw [hxj] at g
      have ih := trod_kind n f.type (i - f.offset) k h _ _ _ g
      rw [chunk_at (by omega), show f.offset + (i - f.offset) = i from by omega] at ih
      exact ih
    · rename_i m e hu
      split at h
      case isFalse => cases h
      rename_i hi
      obtain ⟨xs, m', _, e1, l1, n1, f1⟩ := DataW.trod_array hu hx
      have hpos : 0 < P.cellsOf e := by
        rcases Nat.eq_zero_or_pos (P.cellsOf e) with hz | hz
        · rw [hz, Nat.mul_zero] at hi; omega
        · exact hz
      have hq : i / P.cellsOf e < m := by rw [Nat.div_lt_iff_lt_mul hpos]; exact hi
      have g := f1 _ hq
      have hxj : xs[i / P.cellsOf e]? = some xs[i / P.cellsOf e] := List.getElem?_eq_getElem (by omega)
      rw [hxj] at g
      have ih := trod_kind n e (i % P.cellsOf e) k h _ _ _ g
      rw [chunk_at (Nat.mod_lt _ hpos), show i / P.cellsOf e * P.cellsOf e + i % P.cellsOf e = i from by rw [Nat.mul_comm]; exact Nat.div_add_mod _ _] at ih
      exact ih
    · split at h
      case isFalse => cases h
      rename_i hi
      subst hi
      exact (trod_one_kind h hx).2
end
theorem flat_of_cell {k : CK} {v : Value} (h : isCellB k (some v) = true) : Ex.flat v = true ∧ clean 6 v = true := by
  cases v <;> first
    | exact ⟨rfl, rfl⟩
    | cases h
def ArgAt (W : World) (e : En) (o : CO) : Prop :=
  ∃ cs t s, o = .cells cs t s false ∧ cs.all (clean 6) = true ∧ ((cs = [] ∧ (W.heap[e.blk]?).isSome = true) ∨ ∃ arr fz, W.heap[e.blk]? = some (.cells arr t fz) ∧ ∀ i x, cs[i]? = some x → arr[e.sh + i]? = some x)
structure SliceArg (W : World) (ks : List CK) (v : Value) (cs : List Value) (n : Nat) (t s : Nat) (e : En) : Prop where
  at_ : ArgAt W e (.cells cs t s false)
  vr : ∀ (E : Env) (b : Nat), E[b]? = some e → VR E (.slice (some ⟨b, 0, none⟩) n n) v
  len : cs.length = n * ks.length
  kinds : ∀ j, j < n → areCells ks cs (0 + j * ks.length) = true
  flat : cs.all Ex.flat = true
  wf : ∀ i : Nat, wfCell cs[i]?
  max : n ≤ maxLen
theorem areCells_of {cs : List Value} : ∀ (ks : List CK) (off : Nat), (∀ i k, ks[i]? = some k → isCellB k cs[off + i]? = true) → areCells ks cs off = true
  | [], _, _ => rfl
  | k :: r, off, h => by
    unfold areCells
    rw [Bool.and_eq_true]
    refine ⟨h 0 k rfl, areCells_of r (off + 1) fun i k' hk => ?_⟩
    have := h (i + 1) k' hk
    rwa [show off + (i + 1) = off + 1 + i from by omega] at this
def kindsOkB (P : Program) (m : Nat) (e : TypeId) (ks : List CK) : Bool := (List.range ks.length).all fun i => match cellKind P m e i, ks[i]? with
  | some (.i k), some (.i k') => sameKind k k'
  | some .b, some .b => true
  | some .s, some .s => true
  | _, _ => false
theorem kindsOkB_eq {P : Program} {m : Nat} {e : TypeId} {ks : List CK} (h : kindsOkB P m e ks = true) {i : Nat} {k : CK} (hk : ks[i]? = some k) : cellKind P m e i = some k := by
  have hi := (List.getElem?_eq_some_iff.1 hk).1
  have := List.all_eq_true.1 h i (List.mem_range.2 hi)
  rw [hk] at this
  split at this
  · rename_i k1 k2 h1 h2
    cases h2
    have : k1 = k2 := of_decide_eq_true this
    rw [h1, this]
  · rename_i h1 h2; cases h2; exact h1
  · rename_i h1 h2; cases h2; exact h1
  · cases this
theorem cellOk_slice {P : Program} {w : World} {r : Reach} {base : Nat} {t e : TypeId} {v : Value} (hu : P.underlying t = some (.slice e)) (h : Cell.okWide P w r base t v) :
    v = .slice none 0 0 ∨ ∃ a len cap, v = .slice (some a) len cap ∧ a.spot = none ∧ ∃ arr tt fz, w.heap[a.block]? = some (.cells arr tt fz) := by
  have h' : Cell.ok P w r base t v := by
    unfold Cell.okWide at h
    rw [hu] at h
    cases v <;> exact h
  unfold Cell.ok at h'
  rw [hu] at h'
  split at h' <;> first
    | (rename_i h0 _; cases h0; done)
    | skip
  all_goals first
    | (rename_i hh; cases hh; done)
    | skip
  · exact .inl rfl
  · rename_i e' a len cap hh
    cases hh
    obtain ⟨_, _, _, hs, row, cells, hsh, _⟩ := h'
    refine .inr ⟨a, len, cap, rfl, hs, ?_⟩
    unfold World.shape? at hsh
    split at hsh
    · rename_i c elem fz hb
      exact ⟨c, elem, fz, hb⟩
    · cases hsh
  · exact h'.elim
theorem open_arg {H : Type} {enc : TypeId × Value → H} {P : Program} {W : World} {r : Reach} {b0 : Nat} {t e : TypeId} {v : Value} {fuel : Nat} {x : DataW H × List MemPlace} (ks : List CK) (m : Nat) (hu : P.underlying t = some (.slice e)) (hc : P.cellsOf e = ks.length)
    (hk : kindsOkB P m e ks = true) (h0 : (W.heap[0]?).isSome = true) (hok : Cell.okWide P W r b0 t v) (h : DataW.trod enc P W 0 (fun _ => true) true fuel t [v] = some x) : ∃ cs n tt s en, SliceArg W ks v cs n tt s en := by
  rcases Go.Deep.open_slice hu h with ⟨hv, _⟩ | ⟨a, len, cap, m', nf, D, Pl, hv, hb, hl, hm, hm', hx, hel⟩
  · cases hv
    exact ⟨[], 0, 0, 0, ⟨0, 1, 0⟩, ⟨⟨[], 0, 0, rfl, rfl, .inl ⟨rfl, h0⟩⟩, fun E b hb => .nils hb (by decide), by simp, fun j hj => by omega, rfl, fun i k m hi => (by simp at hi), Nat.zero_le _⟩⟩
  · cases hv
    rcases cellOk_slice hu hok with h1 | ⟨a', len', cap', h1, hspot, arr, tt, fz, harr⟩
    · cases h1
    · cases h1
      have hm2 : m' = cap := by simpa using hm'
      subst hm2
      obtain ⟨blk, off, spot⟩ := a
      dsimp only at hspot harr
      subst hspot
      have hcell : ∀ i k, i < len → k < ks.length → ∃ y, arr[off + (i * ks.length + k)]? = some y ∧ isCellB (ks.getD k .b) (some y) = true ∧ wfCell (some y) := by
        intro i k hi hkl
        obtain ⟨cs', g1, g2⟩ := hel i (by omega)
        rw [hc] at g1
        obtain ⟨_, gl, gc⟩ := World.cells?_some g1
        have hck : cs'[k]? = some cs'[k] := List.getElem?_eq_getElem (by omega)
        have hkk : ks[k]? = some ks[k] := List.getElem?_eq_getElem hkl
        obtain ⟨q1, q2⟩ := trod_kind m e k ks[k] (kindsOkB_eq hk hkk) _ _ _ g2
        have hcl := gc k (by omega)
        rw [hck] at hcl
        rw [hck] at q1 q2
        refine ⟨cs'[k], ?_, by simpa [List.getD, hkk] using q1, q2⟩
        rw [add_eq, add_eq] at hcl
        unfold World.cell? at hcl
        simp only [harr] at hcl
        have hcl' : arr[off + i * ks.length + k]? = some cs'[k] := hcl
        rw [← hcl']
        congr 1
        omega
      have hsz : ∀ i, i < len * ks.length → ∃ y, arr[off + i]? = some y ∧ isCellB (ks.getD (i % ks.length) .b) (some y) = true ∧ wfCell (some y) := by
        intro i hi
        have hpos : 0 < ks.length := by
          rcases Nat.eq_zero_or_pos ks.length with hz | hz
          · rw [hz, Nat.mul_zero] at hi; omega
          · exact hz
        obtain ⟨y, y1, y2⟩ := hcell (i / ks.length) (i % ks.length) (by rw [Nat.div_lt_iff_lt_mul hpos]; exact hi) (Nat.mod_lt _ hpos)
        rw [show i / ks.length * ks.length + i % ks.length = i from by rw [Nat.mul_comm]; exact Nat.div_add_mod _ _] at y1
        exact ⟨y, y1, y2⟩
      let cs : List Value := (arr.toList.drop off).take (len * ks.length)
      have hcs : ∀ i, i < len * ks.length → cs[i]? = arr[off + i]? := by
        intro i hi
        show ((arr.toList.drop off).take (len * ks.length))[i]? = _
        rw [chunk_at hi]
        simp
      have hlen : cs.length = len * ks.length := by
        show ((arr.toList.drop off).take (len * ks.length)).length = _
        rw [List.length_take, List.length_drop]
        rcases Nat.eq_zero_or_pos (len * ks.length) with hz | hz
        · omega
        · obtain ⟨y, hy, _⟩ := hsz (len * ks.length - 1) (by omega)
          have := (Array.getElem?_eq_some_iff.1 hy).1
          have : arr.toList.length = arr.size := by simp
          omega
      have hval : ∀ i y, cs[i]? = some y → i < len * ks.length ∧ arr[off + i]? = some y ∧ isCellB (ks.getD (i % ks.length) .b) (some y) = true ∧ wfCell (some y) := by
        intro i y hy
        have hi : i < len * ks.length := by rw [← hlen]; exact (List.getElem?_eq_some_iff.1 hy).1
        obtain ⟨y', g1, g2⟩ := hsz i hi
        have := hcs i hi
        rw [hy, g1] at this
        cases this
        exact ⟨hi, g1, g2⟩
      refine ⟨cs, len, tt, ks.length, ⟨blk, off, m' - len⟩, ⟨⟨cs, tt, ks.length, rfl, ?_, .inr ⟨arr, fz, harr, fun i y hy => (hval i y hy).2.1⟩⟩, ?_, hlen, ?_, ?_, ?_, by omega⟩⟩
      · exact List.all_eq_true.2 fun y hy => by
          obtain ⟨i, hi⟩ := List.getElem?_of_mem hy
          exact (flat_of_cell (hval i y hi).2.2.1).2
      · intro E b hE
        have := VR.slice (E := E) (b := b) (off := 0) (len := len) (cap := len) (off' := off) hE (.inl (by simp))
        rw [show len + (m' - len) = m' from by omega] at this
        exact this
      · intro j hj
        refine areCells_of ks _ fun i k hki => ?_
        have hil := (List.getElem?_eq_some_iff.1 hki).1
        have hlt : j * ks.length + i < len * ks.length := by
          have := Nat.mul_le_mul_right ks.length (show j + 1 ≤ len from hj)
          rw [Nat.add_mul] at this
          omega
        rw [show 0 + j * ks.length + i = j * ks.length + i from by omega, hcs _ hlt]
        obtain ⟨y, g1, g2, _⟩ := hsz _ hlt
        rw [g1]
        rw [show (j * ks.length + i) % ks.length = i from by rw [Nat.mul_comm, Nat.mul_add_mod]; exact Nat.mod_eq_of_lt hil] at g2
        simpa [List.getD, hki] using g2
      · exact List.all_eq_true.2 fun y hy => by
          obtain ⟨i, hi⟩ := List.getElem?_of_mem hy
          exact (flat_of_cell (hval i y hi).2.2.1).1
      · intro i k mm hi
        exact (hval i _ hi).2.2.2 k mm rfl
theorem WR.startA {W : World} {Hv H : CH} {es : List En} (hlen : H.length = gl + es.length) (hv : Laid Hv W) (hsame : ∀ b, b < gl → H[b]? = Hv[b]?) (ha : ∀ (j : Nat) (e : En), es[j]? = some e → ∃ o, H[gl + j]? = some o ∧ ArgAt W e o) :
    WR W H.length (startE gl ++ es) H W := by
  have hsl : (startE gl).length = gl := by simp [startE]
  refine ⟨by simp [hsl, hlen], by simp [hsl, hlen], Below.refl _ _, ?_, ?_, ?_, by omega, ?_⟩
  · intro b o e hb he
    have hbl := Hp.lt hb
    by_cases hg : b < gl
    · rw [List.getElem?_append_left (by omega)] at he
      obtain ⟨_, rfl⟩ := startE_get he
      by_cases hal : o.alive = true
      · rw [hsame b hg] at hb
        obtain ⟨cs, t, s, rfl, hc, fz, hw⟩ := hv b o hb hal
        refine .inr ⟨⟨cs⟩, fz, hw, fun hh => by omega, fun hh => by omega, fun i x hx => ⟨x, by simpa using hx, VR.of_clean _ 6 x ?_⟩, fun _ => ⟨rfl, rfl, rfl⟩⟩
        exact List.all_eq_true.1 hc x (List.mem_of_getElem? hx)
      · cases o <;> first | exact trivial | (exact absurd rfl hal)
    · rw [List.getElem?_append_right (by omega), hsl] at he
      obtain ⟨o', ho', cs, t, s, rfl, hc, hcase⟩ := ha _ e he
      rw [show gl + (b - gl) = b from by omega, hb] at ho'
      cases ho'
      rcases hcase with ⟨rfl, hi⟩ | ⟨arr, fz, h1, h2⟩
      · exact .inl ⟨rfl, rfl, by omega, hi⟩
      · refine .inr ⟨arr, fz, h1, fun hh => by omega, fun hh => by omega, fun i x hx => ⟨x, h2 i x hx, VR.of_clean _ 6 x ?_⟩, fun hh => by cases hh⟩
        exact List.all_eq_true.1 hc x (List.mem_of_getElem? hx)
  · intro b b' o o' e e' hGG hb hb'
    have h1 := Hp.lt hb
    have h2 := Hp.lt hb'
    omega
  · intro b o e hb _ _ hG
    have h1 := Hp.lt hb
    omega
  · intro b e hb he
    rw [List.getElem?_append_left (by omega)] at he
    exact (startE_get he).2
theorem calls_args {P : Program} {G : Nat} {E : Env} {H H' : CH} {f : FuncId} {args : List Value} {args' : Array Value} {v : Value} {W : World} (hw : WR W G E H W) (ha : VRs E ⟨args⟩ args') (hv : clean 6 v = true) (h : Sound P G (.call f ⟨args⟩ H) (.val v H')) :
    Calls P f args' W fun e w' => e = .returned v ∧ Below W.heap.size W w' := by
  refine CallsIn.calls (n := 0) (h W E args' W none 0 _ hw ha fun F v' w' hw' hv' => ?_) (fun _ _ h => by cases h)
  rw [hv'.eq_of_clean 6 hv]
  exact ⟨rfl, hw'.below⟩
end Go.Ex
/- Engine, part 35: from a contract to a row: what is behind the call reads as it did. -/
noncomputable section
namespace Go.Ex
open Go.RowKit Go.ChangeShapes Go.WideShapes Go.ChangeAt
section
variable {H : Type} {enc : TypeId × Value → H} {P : Program}
theorem post_of_below {f : Func} {s : ChangeSpec} {apart fresh handsOn again : Bool} {W W' : World} {args : Array Value} {v : Value} {ds gs : List (DataW H)} {before pa pv : List MemPlace}
    (hW : DataW.Whole enc P f.params.toList s.vars apart W args.toList ds gs before)
    (hres : ∀ (b : Nat) (sp : Nat → Bool) (hd : Bool), DataW.TrodAll enc P W' b sp hd f.resultTypes.toList (v.resultList f.resultTypes.size) (s.fn H (ds ++ gs)).results [])
    (hargs : ∀ sp : Nat → Bool, (∀ p ∈ before, sp p.block = true) → DataW.TrodAll enc P W' 0 sp true f.params.toList args.toList (s.fn H (ds ++ gs)).args pa)
    (hvars : ∀ sp : Nat → Bool, (∀ p ∈ before, sp p.block = true) → DataW.TrodVars enc P W' sp s.vars (s.fn H (ds ++ gs)).vars pv)
    (hps : before = pa ++ pv) (hb : Below W.heap.size W W')
    (hok : ∀ (j : Nat) (t : TypeId) (r : Value), f.resultTypes[j]? = some t → (v.resultList f.resultTypes.size)[j]? = some r → Value.okWide P W' .any 0 t r) :
    s.post enc P f apart fresh handsOn again W args v W' := by
  have hlt : ∀ p ∈ before, p.block < W.heap.size := fun p hp => hW.lt p hp
  have hold : ∀ p ∈ before, (fun b => decide (b < W.heap.size)) p.block = true := fun p hp => by simpa using hlt p hp
  refine ⟨ds, gs, before, [], pa, pv, hW, hres _ _ _, hargs _ hold, hvars _ hold, World.keptBut_mono (fun p hp => ⟨hp, ?_⟩) (hb.frame (· ∈ before)), fun _ => ?_⟩
  · rw [hps, List.mem_append] at hp
    exact Or.inr hp
  · obtain ⟨_, _, _, _, _, hz, hn⟩ := hW
    refine ⟨hok, _, _, ([] ++ pa) ++ pv, ⟨[] ++ pa, pv, trodAll_append (hargs _ (fun _ _ => rfl)) (hres _ _ _), hvars _ (fun _ _ => rfl), rfl, ?_, ?_⟩, ?_⟩
    · intro b off hp
      have hin : MemPlace.cell b off ∈ before := by rw [hps]; simpa using hp
      rw [hb.frozen (hlt _ hin)]
      exact hz b off hin
    · intro ha
      have := hn ha
      rw [hps] at this
      simpa using this
    · intro p hp _
      rw [hps]
      simpa using hp
theorem stays {t : TypeId} (hl : laidOutB P = true) (hr : P.readableRec t = true) (hrow : t < P.types.size) {W W' : World} {v : Value} {d : DataW H} {ps : List MemPlace} (h : DataW.Trod enc P W 0 (fun _ => true) true t v d ps) (hb : Below W.heap.size W W') (hlt : ∀ x ∈ ps, x.block < W.heap.size)
    {sp : Nat → Bool} (hs : ∀ p ∈ ps, sp p.block = true) : DataW.Trod enc P W' 0 sp true t v d ps :=
  WideElems.Trod_stays hl hr hrow h (fun x hx => hb.same (hlt x hx)) hs
end
end Go.Ex
/- Engine, part 46: arguments that are slices of slices. -/
noncomputable section
namespace Go.Ex
open Go.RowKit
def ArgN (W : World) (E : Env) (e : En) (o : CO) : Prop :=
  o.alive = false ∨ ∃ cs t s, o = .cells cs t s false ∧ ((cs = [] ∧ (W.heap[e.blk]?).isSome = true) ∨ ∃ arr fz, W.heap[e.blk]? = some (.cells arr t fz) ∧ ∀ (i : Nat) (x : Value), cs[i]? = some x → ∃ x', arr[e.sh + i]? = some x' ∧ VR E x x')
theorem ArgAt.n {W : World} {E : Env} {e : En} {o : CO} (h : ArgAt W e o) : ArgN W E e o := by
  obtain ⟨cs, t, s, rfl, hc, hcase⟩ := h
  refine .inr ⟨cs, t, s, rfl, ?_⟩
  rcases hcase with h | ⟨arr, fz, h1, h2⟩
  · exact .inl h
  · exact .inr ⟨arr, fz, h1, fun i x hx => ⟨x, h2 i x hx, VR.of_clean _ 6 x (List.all_eq_true.1 hc x (List.mem_of_getElem? hx))⟩⟩
end Go.Ex
