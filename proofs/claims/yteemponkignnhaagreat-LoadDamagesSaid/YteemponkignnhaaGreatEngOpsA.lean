/- Part of the proof. -/
import Derived.Test.YteemponkignnhaaGreatEngWorld
noncomputable section
namespace Go.Ex
open Go.RowKit
theorem add_eq (b off i : Nat) : (⟨b, off, none⟩ : Addr).add i = ⟨b, off + i, none⟩ := by
  unfold Addr.add
  split
  · subst_vars; rfl
  · rfl
theorem VR.ptr_inv {E : Env} {b off : Nat} {v' : Value} (h : VR E (.pointer (some ⟨b, off, none⟩)) v') : ∃ e, E[b]? = some e ∧ v' = .pointer (some ⟨e.blk, off + e.sh, none⟩) := by
  cases h with
  | flat h => cases h
  | ptr h => exact ⟨_, h, rfl⟩
theorem VR.slice_inv' {E : Env} {b off len cap : Nat} {v' : Value} (h : VR E (.slice (some ⟨b, off, none⟩) len cap) v') : (len = 0 ∧ cap = 0 ∧ (∃ a', v' = .slice a' 0 0) ∧ ∃ e, E[b]? = some e ∧ 0 < e.sh) ∨
    ∃ e off', E[b]? = some e ∧ v' = .slice (some ⟨e.blk, off', none⟩) len (cap + e.dl) ∧ (off' = off + e.sh ∨ cap + e.dl = 0) := by
  cases h with
  | flat h => cases h
  | slice h ho => exact .inr ⟨_, _, h, rfl, ho⟩
  | nils h hs => exact .inl ⟨rfl, rfl, ⟨_, rfl⟩, _, h, hs⟩
theorem VR.slice_inv {E : Env} {b off len cap : Nat} {v' : Value} (h : VR E (.slice (some ⟨b, off, none⟩) len cap) v') (hc : cap ≠ 0) :
    ∃ e off', E[b]? = some e ∧ v' = .slice (some ⟨e.blk, off', none⟩) len (cap + e.dl) ∧ (off' = off + e.sh ∨ cap + e.dl = 0) := by
  cases h with
  | flat h => cases h
  | slice h ho => exact ⟨_, _, h, rfl, ho⟩
  | nils _ _ => exact absurd rfl hc
theorem VR.bool_inv {E : Env} {b : Bool} {v' : Value} (h : VR E (.bool b) v') : v' = .bool b := by cases h; rfl
theorem VR.int_inv {E : Env} {k : IntKind} {n : Int} {v' : Value} (h : VR E (.int k n) v') : v' = .int k n := by cases h; rfl
theorem VR.agg_inv {E : Env} {a : Array Value} {v' : Value} (h : VR E (.agg a) v') : ∃ a', v' = .agg a' ∧ VRs E a a' := by
  cases h with
  | flat h =>
    have : a = #[] := by simpa [Ex.flat] using h
    subst this
    exact ⟨#[], rfl, .nil E⟩
  | agg hs h => exact ⟨_, rfl, hs, h⟩
theorem VR.tuple_inv {E : Env} {a : Array Value} {v' : Value} (h : VR E (.tuple a) v') : ∃ a', v' = .tuple a' ∧ VRs E a a' := by
  cases h with
  | flat h =>
    have : a = #[] := by simpa [Ex.flat] using h
    subst this
    exact ⟨#[], rfl, .nil E⟩
  | tuple hs h => exact ⟨_, rfl, hs, h⟩
theorem VR.func_inv {E : Env} {f : FuncId} {a c : Array Value} {v' : Value} (h : VR E (.func (.func f) a c) v') : ∃ a' c', v' = .func (.func f) a' c' ∧ VRs E a a' ∧ VRs E c c' := by
  cases h with
  | flat h =>
    have h' : a.isEmpty = true ∧ c.isEmpty = true := by simpa [Ex.flat] using h
    have h1 : a = #[] := by simpa using h'.1
    have h2 : c = #[] := by simpa using h'.2
    subst h1; subst h2
    exact ⟨#[], #[], rfl, .nil E, .nil E⟩
  | func ha hc h1 h2 => exact ⟨_, _, rfl, ⟨ha, h1⟩, ⟨hc, h2⟩⟩
def CH.row? (H : CH) (b off : Nat) : Nat → Option (List Value)
  | 0 => some []
  | n + 1 => match H.cell? b off with
    | some x => (CH.row? H b (off + 1) n).map (x :: ·)
    | none => none
theorem run_loadCellsFrom {w0 : World} {G : Nat} {E : Env} {H : CH} {w : World} (P : Program) (h : WR w0 G E H w) {b : Nat} {e : En} (he : E[b]? = some e) (off : Nat) :
    ∀ (n i : Nat) (xs : List Value) (acc acc' : Array Value), H.row? b (off + i) n = some xs → VRs E acc acc' →
      ∃ ys, (loadCellsFrom ⟨e.blk, off + e.sh, none⟩ i n acc').run P w = .ok ys w ∧ VRs E (acc ++ xs.toArray) ys
  | 0, i, xs, acc, acc', hx, ha => by
    cases hx
    exact ⟨acc', rfl, by simpa using ha⟩
  | n + 1, i, xs, acc, acc', hx, ha => by
    simp only [CH.row?] at hx
    cases hc : H.cell? b (off + i) with
    | none => rw [hc] at hx; cases hx
    | some x =>
      rw [hc] at hx
      dsimp only at hx
      cases hr : H.row? b (off + i + 1) n with
      | none => rw [hr] at hx; cases hx
      | some rest =>
        rw [hr] at hx
        cases hx
        obtain ⟨x', hx', hv⟩ := h.cell he hc
        obtain ⟨ys, h1, h2⟩ := run_loadCellsFrom P h he off n (i + 1) rest (acc.push x) (acc'.push x') (by rw [← Nat.add_assoc]; exact hr) (by
          rw [← Array.append_singleton, ← Array.append_singleton]
          exact ha.append (.one hv))
        refine ⟨ys, ?_, by simpa using h2⟩
        simp only [loadCellsFrom, Sem.run_bind]
        rw [run_load, add_eq, show off + e.sh + i = off + i + e.sh from by omega, hx']
        exact h1
theorem run_loadCells {w0 : World} {G : Nat} {E : Env} {H : CH} {w : World} (P : Program) (h : WR w0 G E H w) {b : Nat} {e : En} (he : E[b]? = some e) {off n : Nat} {xs : List Value} (hx : H.row? b off n = some xs) :
    ∃ ys, (loadCells ⟨e.blk, off + e.sh, none⟩ n).run P w = .ok ys w ∧ VRs E xs.toArray ys := by
  obtain ⟨ys, h1, h2⟩ := run_loadCellsFrom P h he off n 0 xs #[] #[] hx (.nil E)
  exact ⟨ys, h1, by simpa using h2⟩
def aggB (P : Program) (t : TypeId) : Option Bool :=
  match P.underlying t with
  | some (.struct _) | some (.array _ _) => some true
  | some _ => some false
  | none => none
theorem run_isAgg {P : Program} {t : TypeId} {b : Bool} (h : aggB P t = some b) (w : World) : (isAgg t).run P w = .ok b w := by
  unfold aggB at h
  unfold isAgg underlying
  cases hu : P.underlying t with
  | none => rw [hu] at h; cases h
  | some d =>
    rw [hu] at h
    simp only [Sem.run_bind, run_program, Result.andThen_ok, hu, Sem.run_pure]
    cases d <;> (dsimp only at h; cases h; rfl)
theorem run_sizeOf {P : Program} {t : TypeId} {i : TypeInfo} (h : P.info? t = some i) (w : World) : (sizeOf t).run P w = .ok i.size w := by
  simp [sizeOf, typeInfo, h]
def loadS (P : Program) (H : CH) (t : TypeId) (b off : Nat) : Option Value :=
  match aggB P t with
  | some true => match P.info? t with
    | some i => (H.row? b off i.size).map fun xs => .agg xs.toArray
    | none => none
  | some false => H.cell? b off
  | none => none
theorem run_loadVar {w0 : World} {G : Nat} {E : Env} {H : CH} {w : World} {P : Program} (h : WR w0 G E H w) {b off : Nat} {e : En} (he : E[b]? = some e) {t : TypeId} {v : Value} (hl : loadS P H t b off = some v) :
    ∃ v', (loadVar t ⟨e.blk, off + e.sh, none⟩).run P w = .ok v' w ∧ VR E v v' := by
  unfold loadS at hl
  cases ha : aggB P t with
  | none => rw [ha] at hl; cases hl
  | some g =>
    rw [ha] at hl
    cases g with
    | false =>
      obtain ⟨v', h1, h2⟩ := h.cell he hl
      refine ⟨v', ?_, h2⟩
      simp only [loadVar, Sem.run_bind, run_isAgg ha, Result.andThen_ok]
      simp [h1]
    | true =>
      dsimp only at hl
      cases hi : P.info? t with
      | none => rw [hi] at hl; cases hl
      | some i =>
        rw [hi] at hl
        dsimp only at hl
        cases hr : H.row? b off i.size with
        | none => rw [hr] at hl; cases hl
        | some xs =>
          rw [hr] at hl
          cases hl
          obtain ⟨ys, h1, h2⟩ := run_loadCells P h he hr
          refine ⟨.agg ys, ?_, .agg h2.size h2.at_⟩
          simp only [loadVar, Sem.run_bind, run_isAgg ha, Result.andThen_ok, if_true, run_sizeOf hi, h1, Sem.run_pure]
def oneB : Value → Bool
  | .agg _ | .tuple _ | .chan (some _) => false
  | _ => true
theorem VR.one {E : Env} {v v' : Value} (h : VR E v v') (ho : oneB v = true) : v'.oneCell' = true := by
  cases h <;> first | rfl | (cases ho; done) | (rename_i hf; revert hf; cases v <;> first | (intro _; rfl) | (intro _; cases ho))
def storeRow (G : Nat) (H : CH) (b off : Nat) : List Value → Option CH
  | [] => some H
  | v :: r => if oneB v then match H.set? G b off v with
      | some H1 => storeRow G H1 b (off + 1) r
      | none => none
    else none
theorem run_storeCells {w0 : World} {G : Nat} (P : Program) {E : Env} {b : Nat} {e : En} (he : E[b]? = some e) (off : Nat) : ∀ (vs vs' : List Value) (i : Nat) (H H' : CH) (w : World), WR w0 G E H w → vs.length = vs'.length →
      (∀ (j : Nat) (x x' : Value), vs[j]? = some x → vs'[j]? = some x' → VR E x x') → storeRow G H b (off + i) vs = some H' →
      ∃ w', (storeCells ⟨e.blk, off + e.sh, none⟩ vs' i).run P w = .ok () w' ∧ WR w0 G E H' w'
  | [], [], i, H, H', w, h, _, _, hs => by cases hs; exact ⟨w, rfl, h⟩
  | [], x :: r, _, _, _, _, _, hl, _, _ => by simp at hl
  | x :: r, [], _, _, _, _, _, hl, _, _ => by simp at hl
  | v :: r, v' :: r', i, H, H', w, h, hl, hv, hs => by
    simp only [storeRow] at hs
    split at hs
    case isFalse => cases hs
    rename_i ho
    cases hset : H.set? G b (off + i) v with
    | none => rw [hset] at hs; cases hs
    | some H1 =>
      rw [hset] at hs
      dsimp only at hs
      have hr := hv 0 v v' rfl rfl
      obtain ⟨⟨u, hu⟩, hf, h1⟩ := h.store he hr hset
      obtain ⟨w', h2, h3⟩ := run_storeCells P he off r r' (i + 1) H1 H' _ h1 (by simpa using hl) (fun j x x' a b => hv (j + 1) x x' a b) (by rw [← Nat.add_assoc]; exact hs)
      refine ⟨w', ?_, h3⟩
      simp only [storeCells, Sem.run_bind]
      rw [run_store P w _ v' _ (hr.one ho), add_eq, show off + e.sh + i = off + i + e.sh from by omega, hu]
      simp only [hf, Bool.false_eq_true, if_false, Result.andThen_ok]
      exact h2
def storeS (P : Program) (G : Nat) (H : CH) (t : TypeId) (b off : Nat) (v : Value) : Option CH :=
  match P.info? t with
  | some i => if v.cells.size = i.size then storeRow G H b off v.cells.toList else none
  | none => none
theorem run_storeVar {w0 : World} {G : Nat} {E : Env} {H H' : CH} {w : World} {P : Program} (h : WR w0 G E H w) {b off : Nat} {e : En} (he : E[b]? = some e) {t : TypeId} {v v' : Value} (hv : VR E v v') (hs : storeS P G H t b off v = some H') :
    ∃ w', (storeVar t ⟨e.blk, off + e.sh, none⟩ v').run P w = .ok () w' ∧ WR w0 G E H' w' := by
  unfold storeS at hs
  cases hi : P.info? t with
  | none => rw [hi] at hs; cases hs
  | some i =>
    rw [hi] at hs
    dsimp only at hs
    split at hs
    case isFalse => cases hs
    rename_i hsz
    have hn : nw v = true := by
      cases v <;> first
        | rfl
        | (rename_i r
           cases r with
           | none => rfl
           | some k =>
             have h0 : storeRow G H b off [Value.chan (some k)] = some H' := hs
             simp [storeRow, oneB] at h0)
    have hc := hv.cells hn
    obtain ⟨w', h1, h2⟩ := run_storeCells P he off v.cells.toList v'.cells.toList 0 H H' w h (by simpa using hc.size) (fun j x x' a b => hc.at_ j x x' (by simpa using a) (by simpa using b)) hs
    refine ⟨w', ?_, h2⟩
    simp only [storeVar, Sem.run_bind, run_sizeOf hi, Result.andThen_ok]
    rw [if_neg (by rw [← hc.size]; simpa using hsz)]
    exact h1
end Go.Ex
/- Engine, part 4: building, slicing, indexing, appending. -/
noncomputable section
namespace Go.Ex
open Go.RowKit
theorem VRs.toList_get {E : Env} {a a' : Array Value} (h : VRs E a a') {i : Nat} {x : Value} (hx : a.toList[i]? = some x) : ∃ x', a'[i]? = some x' ∧ VR E x x' := h.get (by simpa using hx)
theorem VRs.of_list {E : Env} {l l' : List Value} (hl : l.length = l'.length) (h : ∀ (i : Nat) (x x' : Value), l[i]? = some x → l'[i]? = some x' → VR E x x') : VRs E l.toArray l'.toArray :=
  ⟨by simpa using hl, fun i x x' a b => h i x x' (by simpa using a) (by simpa using b)⟩
theorem fold_rel {E : Env} (off : Nat) : ∀ (l l' : List Value) (k : Nat) (cs cs' : Array Value), l.length = l'.length → (∀ (j : Nat) (x x' : Value), l[j]? = some x → l'[j]? = some x' → VR E x x') → VRs E cs cs' →
    VRs E ((l.zipIdx k).foldl (fun cs (p : Value × Nat) => cs.setIfInBounds (off + p.2) p.1) cs) ((l'.zipIdx k).foldl (fun cs (p : Value × Nat) => cs.setIfInBounds (off + p.2) p.1) cs')
  | [], [], _, _, _, _, _, h => h
  | [], _ :: _, _, _, _, hl, _, _ => by simp at hl
  | _ :: _, [], _, _, _, hl, _, _ => by simp at hl
  | x :: r, x' :: r', k, cs, cs', hl, hv, h => by
    rw [List.zipIdx_cons, List.zipIdx_cons, List.foldl_cons, List.foldl_cons]
    exact fold_rel off r r' (k + 1) _ _ (by simpa using hl) (fun j y y' a b => hv (j + 1) y y' a b) (h.set _ (hv 0 x x' rfl rfl))
theorem fill_rel0 {E : Env} (place : Nat → Option (Nat × Nat)) : ∀ (ps ps' : List (Nat × Value)) (cs cs' r : Array Value), ps.length = ps'.length → (ps.all fun p => nw p.2) = true →
      (∀ (j : Nat) (p p' : Nat × Value), ps[j]? = some p → ps'[j]? = some p' → p'.1 = p.1 ∧ VR E p.2 p'.2) → VRs E cs cs' → Instr.fill place cs ps = some r →
      ∃ r', Instr.fill place cs' ps' = some r' ∧ VRs E r r'
  | [], [], cs, cs', r, _, _, _, h, hf => by
    simp only [Instr.fill] at hf
    cases hf
    exact ⟨cs', rfl, h⟩
  | [], _ :: _, _, _, _, hl, _, _, _, _ => by simp at hl
  | _ :: _, [], _, _, _, hl, _, _, _, _ => by simp at hl
  | (i, v) :: ps, (i', v') :: ps', cs, cs', r, hl, hn, hp, h, hf => by
    rw [List.all_cons, Bool.and_eq_true] at hn
    obtain ⟨hi, hv⟩ := hp 0 (i, v) (i', v') rfl rfl
    dsimp only at hi hv
    rw [hi]
    simp only [Instr.fill] at hf ⊢
    cases hpl : place i with
    | none => rw [hpl] at hf; cases hf
    | some q =>
      obtain ⟨off, size⟩ := q
      rw [hpl] at hf
      dsimp only at hf ⊢
      have hc := hv.cells hn.1
      rw [← hc.size, ← h.size]
      split at hf
      · cases hf
      · rename_i hcond
        rw [if_neg hcond]
        refine fill_rel0 place ps ps' _ _ r (by simpa using hl) hn.2 (fun j p p' a b => hp (j + 1) p p' a b) ?_ hf
        rw [← Array.foldl_toList, ← Array.foldl_toList, Array.toList_zipIdx, Array.toList_zipIdx]
        exact fold_rel off _ _ 0 cs cs' (by simpa using hc.size) (fun j x x' a b => hc.at_ j x x' (by simpa using a) (by simpa using b)) h
def fillS (place : Nat → Option (Nat × Nat)) (cs : Array Value) (ps : List (Nat × Value)) : Option (Array Value) := cond (ps.all fun p => nw p.2) (Instr.fill place cs ps) none
theorem fill_rel {E : Env} (place : Nat → Option (Nat × Nat)) (ps ps' : List (Nat × Value)) (cs cs' r : Array Value) (hl : ps.length = ps'.length)
    (hp : ∀ (j : Nat) (p p' : Nat × Value), ps[j]? = some p → ps'[j]? = some p' → p'.1 = p.1 ∧ VR E p.2 p'.2) (h : VRs E cs cs') (hf : fillS place cs ps = some r) : ∃ r', Instr.fill place cs' ps' = some r' ∧ VRs E r r' := by
  unfold fillS at hf
  cases hn : (ps.all fun p => nw p.2) with
  | false => rw [hn] at hf; cases hf
  | true => rw [hn] at hf; exact fill_rel0 place ps ps' cs cs' r hl hn hp h hf
theorem WR.newCells {w0 : World} {G : Nat} {E : Env} {H : CH} {w : World} (h : WR w0 G E H w) {a a' : Array Value} (ha : VRs E a a') (t : TypeId) (s : Nat) :
    WR w0 G (E ++ [⟨w.heap.size, 0, 0⟩]) (H.push (.cells a.toList t s true)) (w.alloc (.cells a' t)) := by
  refine h.push _ _ _ rfl ⟨a', (0, 0), heap_alloc_new w _, .inl rfl, by simp [ha.size], fun i x hx => ?_, fun _ => ⟨rfl, rfl⟩⟩
  obtain ⟨x', h1, h2⟩ := ha.toList_get hx
  exact ⟨x', by simpa using h1, h2.mono _⟩
theorem Env.last (E : Env) (e : En) : (E ++ [e])[E.length]? = some e := by simp
theorem VR.new {w0 : World} {G : Nat} {E : Env} {H : CH} {w : World} (h : WR w0 G E H w) (e : En) (he : e.sh = 0) : VR (E ++ [e]) (.pointer (some ⟨H.length, 0, none⟩)) (.pointer (some ⟨e.blk, 0, none⟩)) := by
  have := VR.ptr (E := E ++ [e]) (b := H.length) (off := 0) (by rw [← h.len]; exact Env.last E e)
  rw [he] at this
  exact this
theorem VR.newSlice {w0 : World} {G : Nat} {E : Env} {H : CH} {w : World} (h : WR w0 G E H w) (e : En) (len cap off' : Nat) (he : off' = e.sh) : VR (E ++ [e]) (.slice (some ⟨H.length, 0, none⟩) len cap) (.slice (some ⟨e.blk, off', none⟩) len (cap + e.dl)) :=
  .slice (by rw [← h.len]; exact Env.last E e) (.inl (by omega))
theorem run_underlying' {P : Program} {t : TypeId} {d : TypeDesc} (h : P.underlying t = some d) (w : World) : (underlying t).run P w = .ok d w := by
  simp [underlying, h]
theorem run_zeroValue' {P : Program} {t : TypeId} {i : TypeInfo} {z : Value} (hi : P.info? t = some i) (hz : i.zero = some z) (w : World) : (zeroValue t).run P w = .ok z w := by
  simp [zeroValue, typeInfo, hi, hz]
def cleans (a : Array Value) : Bool := a.toList.all (clean 6)
theorem VRs.of_cleans (E : Env) {a : Array Value} (h : cleans a = true) : VRs E a a :=
  ⟨rfl, fun i x x' hx hx' => by rw [hx] at hx'; cases hx'; exact VR.of_clean E 6 x (all_at h hx)⟩
def allocS (P : Program) (H : CH) (t : TypeId) : Option (Value × CH) :=
  match P.info? t with
  | some i => match i.zero with
    | some z => if cleans z.cells then some (.pointer (some ⟨H.length, 0, none⟩), H.push (.cells z.cells.toList t 1 true)) else none
    | none => none
  | none => none
theorem run_allocS {w0 : World} {G : Nat} {E : Env} {H H' : CH} {w : World} {P : Program} (h : WR w0 G E H w) {t : TypeId} {v : Value} (hs : allocS P H t = some (v, H')) (old : Value) :
    ∃ F v' w', (Instr.alloc t true old).run P w = .ok v' w' ∧ VR (E ++ F) v v' ∧ WR w0 G (E ++ F) H' w' := by
  unfold allocS at hs
  cases hi : P.info? t with
  | none => rw [hi] at hs; cases hs
  | some i =>
    rw [hi] at hs
    dsimp only at hs
    cases hz : i.zero with
    | none => rw [hz] at hs; cases hs
    | some z =>
      rw [hz] at hs
      dsimp only at hs
      split at hs
      case isFalse => cases hs
      rename_i hc
      cases hs
      refine ⟨[⟨w.heap.size, 0, 0⟩], _, _, ?_, VR.new h _ rfl, h.newCells (VRs.of_cleans E hc) t 1⟩
      simp only [Instr.alloc, Sem.run_bind, run_zeroValue' hi hz, Result.andThen_ok]
      rfl
def boxS (H : CH) (t : TypeId) (x : Value) : Value × CH := (.pointer (some ⟨H.length, 0, none⟩), H.push (.cells x.cells.toList t 1 true))
theorem run_boxS {w0 : World} {G : Nat} {E : Env} {H : CH} {w : World} (P : Program) (h : WR w0 G E H w) (t : TypeId) {x x' : Value} (hx : VR E x x') (hn : nw x = true) :
    ∃ F v' w', (Instr.box t x').run P w = .ok v' w' ∧ VR (E ++ F) (boxS H t x).1 v' ∧ WR w0 G (E ++ F) (boxS H t x).2 w' :=
  ⟨[⟨w.heap.size, 0, 0⟩], _, _, rfl, VR.new h _ rfl, h.newCells (hx.cells hn) t 1⟩
theorem parts_rel {E : Env} {ρ ρ' : Operand → Value} (ps : Array (Nat × Operand)) (h : ∀ x, (∃ i, (i, x) ∈ ps.toList) → VR E (ρ x) (ρ' x)) :
    ∀ (j : Nat) (p p' : Nat × Value), (ps.map fun (i, x) => (i, ρ x)).toList[j]? = some p → (ps.map fun (i, x) => (i, ρ' x)).toList[j]? = some p' → p'.1 = p.1 ∧ VR E p.2 p'.2 := by
  intro j p p' hp hp'
  simp only [Array.toList_map, List.getElem?_map] at hp hp'
  cases hj : ps.toList[j]? with
  | none => rw [hj] at hp; cases hp
  | some q =>
    rw [hj] at hp hp'
    cases hp; cases hp'
    obtain ⟨i, x⟩ := q
    exact ⟨rfl, h x ⟨i, List.mem_of_getElem? hj⟩⟩
def placesS (P : Program) (fs : Array Field) : Option (List (Nat × Nat)) := fs.toList.mapM fun f => (P.info? f.type).map fun i => (f.offset, i.size)
def buildS (P : Program) (t : TypeId) (ps : List (Nat × Value)) : Option Value :=
  match P.info? t with
  | some i => match i.zero with
    | some z => if cleans z.cells then
        match P.underlying t with
        | some (.struct fs) => match placesS P fs with
          | some pl => (fillS (pl.toArray[·]?) z.cells ps).map .agg
          | none => none
        | some (.array _ e) => match P.info? e with
          | some j => (fillS (fun i => some (i * j.size, j.size)) z.cells ps).map .agg
          | none => none
        | _ => none
      else none
    | none => none
  | none => none
theorem run_places {P : Program} (w : World) : ∀ (l : List Field) (pl : List (Nat × Nat)), (l.mapM fun f => (P.info? f.type).map fun i => (f.offset, i.size)) = some pl →
    (l.mapM fun f => (do pure (f.offset, ← sizeOf f.type) : Sem (Nat × Nat))).run P w = .ok pl w
  | [], pl, h => by cases h; rfl
  | f :: r, pl, h => by
    rw [List.mapM_cons] at h ⊢
    cases hi : P.info? f.type with
    | none => rw [hi] at h; cases h
    | some i =>
      rw [hi] at h
      simp only [Option.map_some, Option.bind_eq_bind, Option.bind_some] at h
      cases hr : (r.mapM fun f => (P.info? f.type).map fun i => (f.offset, i.size)) with
      | none => rw [hr] at h; cases h
      | some q =>
        rw [hr] at h
        cases h
        simp only [Sem.run_bind, run_sizeOf hi, Result.andThen_ok, Sem.run_pure, run_places w r q hr]
theorem run_buildS {E : Env} {P : Program} {t : TypeId} {ps ps' : Array (Nat × Value)} (hl : ps.size = ps'.size)
    (hp : ∀ (j : Nat) (p p' : Nat × Value), ps.toList[j]? = some p → ps'.toList[j]? = some p' → p'.1 = p.1 ∧ VR E p.2 p'.2) {v : Value} (hs : buildS P t ps.toList = some v) (w : World) :
    ∃ v', (Instr.build t ps').run P w = .ok v' w ∧ VR E v v' := by
  unfold buildS at hs
  cases hi : P.info? t with
  | none => rw [hi] at hs; cases hs
  | some i =>
    rw [hi] at hs
    dsimp only at hs
    cases hz : i.zero with
    | none => rw [hz] at hs; cases hs
    | some z =>
      rw [hz] at hs
      dsimp only at hs
      split at hs
      case isFalse => cases hs
      rename_i hc
      have hl' : ps.toList.length = ps'.toList.length := by simpa using hl
      have hz0 := run_zeroValue' hi hz w
      cases hu : P.underlying t with
      | none => rw [hu] at hs; cases hs
      | some d =>
        rw [hu] at hs
        cases d with
        | struct fs =>
          dsimp only at hs
          cases hpl : placesS P fs with
          | none => rw [hpl] at hs; cases hs
          | some pl =>
            rw [hpl] at hs
            dsimp only at hs
            cases hf : fillS (pl.toArray[·]?) z.cells ps.toList with
            | none => rw [hf] at hs; cases hs
            | some r =>
              rw [hf] at hs
              cases hs
              obtain ⟨r', h1, h2⟩ := fill_rel _ _ _ _ _ r hl' hp (VRs.of_cleans E hc) hf
              refine ⟨.agg r', ?_, .agg h2.size h2.at_⟩
              have hm : (fs.mapM fun f => (do pure (f.offset, ← sizeOf f.type) : Sem (Nat × Nat))).run P w = .ok pl.toArray w := by
                rw [Array.mapM_eq_mapM_toList]
                simp only [Sem.run_map, run_places w fs.toList pl hpl, Result.andThen_ok]
              simp only [Instr.build, Sem.run_bind, hz0, run_underlying' hu, Result.andThen_ok, hm, h1, Sem.run_pure]
        | array n e =>
          dsimp only at hs
          cases hj : P.info? e with
          | none => rw [hj] at hs; cases hs
          | some j =>
            rw [hj] at hs
            dsimp only at hs
            cases hf : fillS (fun i => some (i * j.size, j.size)) z.cells ps.toList with
            | none => rw [hf] at hs; cases hs
            | some r =>
              rw [hf] at hs
              cases hs
              obtain ⟨r', h1, h2⟩ := fill_rel _ _ _ _ _ r hl' hp (VRs.of_cleans E hc) hf
              refine ⟨.agg r', ?_, .agg h2.size h2.at_⟩
              simp only [Instr.build, Sem.run_bind, hz0, run_underlying' hu, Result.andThen_ok, run_sizeOf hj, h1, Sem.run_pure]
        | _ => cases hs
def zeroRow (z : Array Value) (n : Nat) : Array Value := (Array.range n).map (z[· % z.size]!)
def zerosFor (P : Program) (e : TypeId) (n : Nat) : Option (Array Value) :=
  if n = 0 then some #[] else match P.info? e with
    | some i => match i.zero with
      | some z => if cleans z.cells then some z.cells else none
      | none => none
    | none => none
theorem cleans_zeroRow {z : Array Value} (hz : cleans z = true) (n : Nat) : cleans (zeroRow z n) = true := by
  unfold cleans zeroRow
  rw [Array.toList_map, List.all_map]
  refine List.all_eq_true.2 fun i _ => ?_
  show clean 6 (z[i % z.size]!) = true
  by_cases hi : i % z.size < z.size
  · rw [getElem!_pos z _ hi]
    exact all_at hz (Array.getElem?_eq_getElem hi)
  · rw [getElem!_neg z _ hi]; rfl
theorem run_zerosFor {P : Program} {e : TypeId} {n : Nat} {z : Array Value} (h : zerosFor P e n = some z) (w : World) :
    ((n = 0 ∧ z = #[]) ∨ (n ≠ 0 ∧ ∃ z0 : Value, (zeroValue e).run P w = .ok z0 w ∧ z0.cells = z)) ∧ cleans z = true := by
  unfold zerosFor at h
  split at h
  · rename_i hn; cases h; exact ⟨.inl ⟨hn, rfl⟩, rfl⟩
  · rename_i hn
    cases hi : P.info? e with
    | none => rw [hi] at h; cases h
    | some i =>
      rw [hi] at h
      dsimp only at h
      cases hz : i.zero with
      | none => rw [hz] at h; cases h
      | some z0 =>
        rw [hz] at h
        dsimp only at h
        split at h
        case isFalse => cases h
        rename_i hc
        cases h
        exact ⟨.inr ⟨hn, z0, run_zeroValue' hi hz w, rfl⟩, hc⟩
def buildSliceS (P : Program) (H : CH) (t : TypeId) (len : Nat) (ps : List (Nat × Value)) : Option (Value × CH) :=
  match P.underlying t with
  | some (.slice e) => match P.info? e with
    | some i => if len * i.size > 2 ^ 24 then none else match zerosFor P e (len * i.size) with
      | some z => match fillS (fun k => some (k * i.size, i.size)) (zeroRow z (len * i.size)) ps with
        | some r => some (.slice (some ⟨H.length, 0, none⟩) len len, H.push (.cells r.toList e i.size true))
        | none => none
      | none => none
    | none => none
  | _ => none
theorem run_buildSliceS {w0 : World} {G : Nat} {E : Env} {H H' : CH} {w : World} {P : Program} (h : WR w0 G E H w) {t : TypeId} {len : Nat} {ps ps' : Array (Nat × Value)} (hl : ps.size = ps'.size)
    (hp : ∀ (j : Nat) (p p' : Nat × Value), ps.toList[j]? = some p → ps'.toList[j]? = some p' → p'.1 = p.1 ∧ VR E p.2 p'.2) {v : Value} (hs : buildSliceS P H t len ps.toList = some (v, H')) :
    ∃ F v' w', (Instr.buildSlice t len ps').run P w = .ok v' w' ∧ VR (E ++ F) v v' ∧ WR w0 G (E ++ F) H' w' := by
  unfold buildSliceS at hs
  cases hu : P.underlying t with
  | none => rw [hu] at hs; cases hs
  | some d =>
    rw [hu] at hs
    cases d with
    | slice e =>
      dsimp only at hs
      cases hi : P.info? e with
      | none => rw [hi] at hs; cases hs
      | some i =>
        rw [hi] at hs
        dsimp only at hs
        split at hs
        case isTrue => cases hs
        rename_i hbig
        cases hz : zerosFor P e (len * i.size) with
        | none => rw [hz] at hs; cases hs
        | some z =>
          rw [hz] at hs
          dsimp only at hs
          cases hf : fillS (fun k => some (k * i.size, i.size)) (zeroRow z (len * i.size)) ps.toList with
          | none => rw [hf] at hs; cases hs
          | some r =>
            rw [hf] at hs
            cases hs
            obtain ⟨hz1, hz2⟩ := run_zerosFor hz w
            obtain ⟨r', h1, h2⟩ := fill_rel _ _ _ _ _ r (by simpa using hl) hp (VRs.of_cleans E (cleans_zeroRow hz2 (len * i.size))) hf
            refine ⟨[⟨w.heap.size, 0, 0⟩], .slice (some ⟨w.heap.size, 0, none⟩) len len, w.alloc (.cells r' e), ?_, VR.newSlice h ⟨w.heap.size, 0, 0⟩ len len 0 rfl, h.newCells h2 e i.size⟩
            simp only [Instr.buildSlice, Sem.run_bind, run_underlying' hu, Result.andThen_ok, run_sizeOf hi]
            rw [if_neg hbig]
            rcases hz1 with ⟨hn, rfl⟩ | ⟨hn, z0, hz0, rfl⟩
            · rw [if_pos hn]
              simp only [Sem.run_bind, Sem.run_pure, Result.andThen_ok]
              rw [show (Array.range (len * i.size)).map ((#[] : Array Value)[· % (#[] : Array Value).size]!) = zeroRow #[] (len * i.size) from rfl, h1]
              rfl
            · rw [if_neg hn]
              simp only [Sem.run_bind, hz0, Sem.run_pure, Result.andThen_ok]
              rw [show (Array.range (len * i.size)).map (z0.cells[· % z0.cells.size]!) = zeroRow z0.cells (len * i.size) from rfl, h1]
              rfl
    | _ => cases hs
end Go.Ex
/- Engine, part 5: cuts, places, parts; append, copy, make. -/
noncomputable section
namespace Go.Ex
open Go.RowKit
def fieldAtS (P : Program) (s : TypeId) (v : Value) (f : Nat) : Option Value :=
  match v with
  | .pointer (some ⟨b, off, none⟩) => match P.underlying s with
    | some (.struct fs) => match fs[f]? with
      | some fd => match P.info? fd.type with
        | some i => if i.size = 0 then none else some (.pointer (some ⟨b, off + fd.offset, none⟩))
        | none => none
      | none => none
    | _ => none
  | _ => none
theorem run_fieldAtS {E : Env} {P : Program} {s : TypeId} {v v' u : Value} {f : Nat} (hv : VR E v v') (hs : fieldAtS P s v f = some u) (w : World) :
    ∃ u', (Instr.fieldAt s v' f).run P w = .ok u' w ∧ VR E u u' := by
  unfold fieldAtS at hs
  split at hs
  case h_2 => cases hs
  rename_i b off
  obtain ⟨e, he, rfl⟩ := hv.ptr_inv
  cases hu : P.underlying s with
  | none => rw [hu] at hs; cases hs
  | some d =>
    rw [hu] at hs
    cases d with
    | struct fs =>
      dsimp only at hs
      cases hf : fs[f]? with
      | none => rw [hf] at hs; cases hs
      | some fd =>
        rw [hf] at hs
        dsimp only at hs
        cases hi : P.info? fd.type with
        | none => rw [hi] at hs; cases hs
        | some i =>
          rw [hi] at hs
          dsimp only at hs
          split at hs
          · cases hs
          · rename_i hz
            cases hs
            refine ⟨.pointer (some ⟨e.blk, off + fd.offset + e.sh, none⟩), ?_, .ptr he⟩
            simp only [Instr.fieldAt, Sem.run_bind, run_underlying' hu, Result.andThen_ok, hf, Instr.sureAddr, Sem.run_pure, fieldPlace, run_sizeOf hi]
            rw [if_neg hz]
            simp only [Sem.run_pure, Result.andThen_ok, add_eq, show off + e.sh + fd.offset = off + fd.offset + e.sh from by omega]
    | _ => cases hs
def indexAtS (P : Program) (t : TypeId) (v : Value) (i : Int) : Option Value :=
  match P.underlying t, v with
  | some (.array n e), .pointer (some ⟨b, off, none⟩) => if 0 ≤ i ∧ i < n then match P.info? e with
      | some j => some (.pointer (some ⟨b, off + i.toNat * j.size, none⟩))
      | none => none
    else none
  | some (.slice e), .slice (some ⟨b, off, none⟩) len cap => if 0 ≤ i ∧ i < len ∧ len ≤ cap then match P.info? e with
      | some j => some (.pointer (some ⟨b, off + i.toNat * j.size, none⟩))
      | none => none
    else none
  | _, _ => none
theorem run_indexAtS {E : Env} {P : Program} {t : TypeId} {v v' u : Value} {k : IntKind} {i : Int} (hv : VR E v v') (hs : indexAtS P t v i = some u) (w : World) :
    ∃ u', (Instr.indexAt t v' (.int k i)).run P w = .ok u' w ∧ VR E u u' := by
  unfold indexAtS at hs
  split at hs
  · rename_i n e b off hu
    obtain ⟨x, he, rfl⟩ := hv.ptr_inv
    split at hs
    case isFalse => cases hs
    rename_i hi
    cases hj : P.info? e with
    | none => rw [hj] at hs; cases hs
    | some j =>
      rw [hj] at hs
      cases hs
      refine ⟨.pointer (some ⟨x.blk, off + i.toNat * j.size + x.sh, none⟩), ?_, .ptr he⟩
      simp only [Instr.indexAt, asIntOf, Sem.run_bind, Sem.run_pure, run_underlying' hu, Result.andThen_ok, Instr.sureAddr]
      rw [if_pos hi]
      simp only [Sem.run_bind, run_sizeOf hj, Sem.run_pure, Result.andThen_ok, add_eq, show off + x.sh + i.toNat * j.size = off + i.toNat * j.size + x.sh from by omega]
  · rename_i e b off len cap hu
    split at hs
    case isFalse => cases hs
    rename_i hi
    obtain ⟨x, off', he, rfl, ho⟩ := hv.slice_inv (by omega)
    cases hj : P.info? e with
    | none => rw [hj] at hs; cases hs
    | some j =>
      rw [hj] at hs
      cases hs
      have ho' : off' = off + x.sh := by
        rcases ho with ho | ho
        · exact ho
        · omega
      subst ho'
      refine ⟨.pointer (some ⟨x.blk, off + i.toNat * j.size + x.sh, none⟩), ?_, .ptr he⟩
      simp only [Instr.indexAt, asIntOf, Sem.run_bind, Sem.run_pure, run_underlying' hu, Result.andThen_ok]
      rw [if_pos ⟨hi.1, hi.2.1⟩]
      simp only [Sem.run_bind, run_sizeOf hj, Sem.run_pure, Result.andThen_ok, add_eq, show off + x.sh + i.toNat * j.size = off + i.toNat * j.size + x.sh from by omega]
  · cases hs
def partS (P : Program) (t : TypeId) (cs : Array Value) (off : Nat) : Option Value :=
  match aggB P t with
  | some true => match P.info? t with
    | some i => some (.agg (cs.extract off (off + i.size)))
    | none => none
  | some false => cs[off]?
  | none => none
theorem run_partS {E : Env} {P : Program} {t : TypeId} {cs cs' : Array Value} {off : Nat} {v : Value} (hc : VRs E cs cs') (hs : partS P t cs off = some v) (w : World) :
    ∃ v', (part t cs' off).run P w = .ok v' w ∧ VR E v v' := by
  unfold partS at hs
  cases ha : aggB P t with
  | none => rw [ha] at hs; cases hs
  | some g =>
    rw [ha] at hs
    cases g with
    | false =>
      obtain ⟨v', h1, h2⟩ := hc.get hs
      refine ⟨v', ?_, h2⟩
      simp only [part, Sem.run_bind, run_isAgg ha, Result.andThen_ok, Bool.false_eq_true, if_false, h1, Sem.run_pure]
    | true =>
      dsimp only at hs
      cases hi : P.info? t with
      | none => rw [hi] at hs; cases hs
      | some i =>
        rw [hi] at hs
        cases hs
        have hx := hc.extract off (off + i.size)
        refine ⟨_, ?_, .agg hx.size hx.at_⟩
        simp only [part, Sem.run_bind, run_isAgg ha, Result.andThen_ok, if_true, run_sizeOf hi, Sem.run_pure]
def fieldS (P : Program) (t : TypeId) (v : Value) (f : Nat) : Option Value :=
  match v with
  | .agg cs => match P.underlying t with
    | some (.struct fs) => match fs[f]? with
      | some fd => partS P fd.type cs fd.offset
      | none => none
    | _ => none
  | _ => none
theorem run_fieldS {E : Env} {P : Program} {t : TypeId} {v v' u : Value} {f : Nat} (hv : VR E v v') (hs : fieldS P t v f = some u) (w : World) :
    ∃ u', (Instr.field t v' f).run P w = .ok u' w ∧ VR E u u' := by
  unfold fieldS at hs
  split at hs
  case h_2 => cases hs
  rename_i cs
  obtain ⟨cs', rfl, hc⟩ := hv.agg_inv
  cases hu : P.underlying t with
  | none => rw [hu] at hs; cases hs
  | some d =>
    rw [hu] at hs
    cases d with
    | struct fs =>
      dsimp only at hs
      cases hf : fs[f]? with
      | none => rw [hf] at hs; cases hs
      | some fd =>
        rw [hf] at hs
        obtain ⟨u', h1, h2⟩ := run_partS hc hs w
        refine ⟨u', ?_, h2⟩
        simp only [Instr.field, Sem.run_bind, run_underlying' hu, Result.andThen_ok, hf, asAgg, Sem.run_pure, h1]
    | _ => cases hs
def indexS (P : Program) (t : TypeId) (v : Value) (i : Int) : Option Value :=
  match v with
  | .agg cs => match P.underlying t with
    | some (.array n e) => if 0 ≤ i ∧ i < n then match P.info? e with
        | some j => partS P e cs (i.toNat * j.size)
        | none => none
      else none
    | _ => none
  | _ => none
theorem run_indexS {E : Env} {P : Program} {t : TypeId} {v v' u : Value} {k : IntKind} {i : Int} (hv : VR E v v') (hs : indexS P t v i = some u) (w : World) :
    ∃ u', (Instr.index t v' (.int k i)).run P w = .ok u' w ∧ VR E u u' := by
  unfold indexS at hs
  split at hs
  case h_2 => cases hs
  rename_i cs
  obtain ⟨cs', rfl, hc⟩ := hv.agg_inv
  cases hu : P.underlying t with
  | none => rw [hu] at hs; cases hs
  | some d =>
    rw [hu] at hs
    cases d with
    | array n e =>
      dsimp only at hs
      split at hs
      case isFalse => cases hs
      rename_i hi
      cases hj : P.info? e with
      | none => rw [hj] at hs; cases hs
      | some j =>
        rw [hj] at hs
        obtain ⟨u', h1, h2⟩ := run_partS hc hs w
        refine ⟨u', ?_, h2⟩
        simp only [Instr.index, asIntOf, Sem.run_bind, Sem.run_pure, run_underlying' hu, Result.andThen_ok]
        rw [if_pos hi]
        simp only [Sem.run_bind, run_sizeOf hj, Result.andThen_ok, h1]
    | _ => cases hs
def bnd : Option Value → Option (Option Int)
  | none => some none
  | some (.int _ i) => some (some i)
  | _ => none
theorem run_sliceBound {P : Program} {k : IntKind} {i : Int} {y : Nat} {c : BoundsCode} (h : 0 ≤ i ∧ i ≤ y) (w : World) : (Instr.sliceBound (.int k i) y c).run P w = .ok i.toNat w := by
  simp only [Instr.sliceBound, asIntOf, Sem.run_bind, Sem.run_pure, Result.andThen_ok]
  rw [if_pos h]; rfl
def boundsS (len cap : Nat) (lo hi : Option Value) : Option (Nat × Nat) :=
  match bnd hi with
  | none => none
  | some hi => match bnd lo with
    | none => none
    | some lo =>
      let h : Int := match hi with | some i => i | none => len
      let l : Int := match lo with | some i => i | none => 0
      if 0 ≤ l ∧ l ≤ h ∧ h ≤ cap then some (l.toNat, h.toNat) else none
theorem run_sliceBounds {P : Program} {b : Bool} {len cap cap' : Nat} {lo hi : Option Value} {l h : Nat} (hs : boundsS len cap lo hi = some (l, h)) (hc : cap ≤ cap') (w : World) :
    (Instr.sliceBounds b len cap' lo hi none).run P w = .ok (l, h, cap') w ∧ l ≤ h ∧ h ≤ cap := by
  unfold boundsS at hs
  have hlo : lo = none ∨ ∃ k i, lo = some (.int k i) := by
    cases lo with
    | none => exact .inl rfl
    | some v =>
      cases hi with
      | none => cases v <;> first | (exact .inr ⟨_, _, rfl⟩) | (simp [bnd] at hs)
      | some u => cases u <;> first | (simp [bnd] at hs; done) | (cases v <;> first | (exact .inr ⟨_, _, rfl⟩) | (simp [bnd] at hs))
  have hhi : hi = none ∨ ∃ k i, hi = some (.int k i) := by
    cases hi with
    | none => exact .inl rfl
    | some u => cases u <;> first | (exact .inr ⟨_, _, rfl⟩) | (simp [bnd] at hs)
  rcases hhi with rfl | ⟨kh, ih, rfl⟩ <;> rcases hlo with rfl | ⟨kl, il, rfl⟩ <;> simp only [bnd] at hs <;> split at hs <;> cases hs <;> rename_i hq
  · refine ⟨by simp [Instr.sliceBounds], by omega, by omega⟩
  · refine ⟨?_, by omega, by omega⟩
    simp only [Instr.sliceBounds, Sem.run_bind, Sem.run_pure, Result.andThen_ok]
    rw [run_sliceBound (by omega)]
    simp
  · refine ⟨?_, by omega, by omega⟩
    simp only [Instr.sliceBounds, Sem.run_bind, Sem.run_pure, Result.andThen_ok]
    rw [run_sliceBound (by omega)]
    simp
  · refine ⟨?_, by omega, by omega⟩
    simp only [Instr.sliceBounds, Sem.run_bind, Sem.run_pure, Result.andThen_ok]
    rw [run_sliceBound (by omega)]
    simp only [Result.andThen_ok]
    rw [run_sliceBound (by omega)]
    simp
def sliceS (P : Program) (H : CH) (t : TypeId) (v : Value) (lo hi : Option Value) : Option Value :=
  match P.underlying t, v with
  | some (.slice e), .slice (some ⟨b, off, none⟩) len cap => match P.info? e with
    | some i => (boundsS len cap lo hi).map fun (l, h) => .slice (some ⟨b, off + l * i.size, none⟩) (h - l) (cap - l)
    | none => none
  | some (.slice e), .slice none len cap => match P.info? e with
    | some _ => (boundsS len cap lo hi).map fun (l, h) => .slice none (h - l) (cap - l)
    | none => none
  | some (.array n e), .pointer (some ⟨b, off, none⟩) => match H[b]? with
    | some (.cells _ _ _ true) => match P.info? e with
      | some i => (boundsS n n lo hi).map fun (l, h) => .slice (some ⟨b, off + l * i.size, none⟩) (h - l) (n - l)
      | none => none
    | _ => none
  | _, _ => none
theorem run_sliceS {w0 : World} {G : Nat} {E : Env} {H : CH} {w : World} {P : Program} (hw : WR w0 G E H w) {t : TypeId} {v v' u : Value} {lo hi : Option Value} (hv : VR E v v') (hs : sliceS P H t v lo hi = some u) :
    ∃ u', (Instr.sliceAt t v' lo hi none).run P w = .ok u' w ∧ VR E u u' := by
  unfold sliceS at hs
  split at hs
  · rename_i e b off len cap hu
    cases hi' : P.info? e with
    | none => rw [hi'] at hs; cases hs
    | some i =>
      rw [hi'] at hs
      dsimp only at hs
      cases hb : boundsS len cap lo hi with
      | none => rw [hb] at hs; cases hs
      | some q =>
        obtain ⟨l, h⟩ := q
        rw [hb] at hs
        cases hs
        rcases hv.slice_inv' with ⟨rfl, rfl, ⟨a0, rfl⟩, e0, he0, hs0⟩ | ⟨x, off', he, rfl, ho⟩
        · obtain ⟨h1, h2, h3⟩ := run_sliceBounds (P := P) (b := true) hb (Nat.le_refl 0) w
          have hl : l = 0 := by omega
          have hh : h = 0 := by omega
          subst hl
          subst hh
          refine ⟨.slice a0 0 0, ?_, .nils he0 hs0⟩
          simp only [Instr.sliceAt, Sem.run_bind, run_underlying' hu, Result.andThen_ok, Instr.slice, h1, run_sizeOf hi', Sem.run_pure, if_true, Nat.sub_zero]
        obtain ⟨h1, h2, h3⟩ := run_sliceBounds (P := P) (b := true) hb (Nat.le_add_right cap x.dl) w
        refine ⟨.slice (if cap + x.dl = l then some ⟨x.blk, off', none⟩ else some ⟨x.blk, off' + l * i.size, none⟩) (h - l) (cap + x.dl - l), ?_, ?_⟩
        · simp only [Instr.sliceAt, Sem.run_bind, run_underlying' hu, Result.andThen_ok, Instr.slice, h1, run_sizeOf hi', Sem.run_pure, Option.map_some, add_eq]
        · rw [show cap + x.dl - l = cap - l + x.dl from by omega]
          split
          · rename_i hcl
            exact .slice he (.inr (by omega))
          · rename_i hcl
            refine .slice he (.inl ?_)
            show off' + l * i.size = off + l * i.size + x.sh
            rcases ho with ho | ho
            · rw [ho]; omega
            · omega
  · rename_i e len cap hu
    cases hv with
    | flat _ =>
      cases hi' : P.info? e with
      | none => rw [hi'] at hs; cases hs
      | some i =>
        rw [hi'] at hs
        dsimp only at hs
        cases hb : boundsS len cap lo hi with
        | none => rw [hb] at hs; cases hs
        | some q =>
          obtain ⟨l, h⟩ := q
          rw [hb] at hs
          cases hs
          obtain ⟨h1, h2, h3⟩ := run_sliceBounds (P := P) (b := true) hb (Nat.le_refl cap) w
          refine ⟨.slice none (h - l) (cap - l), ?_, .flat rfl⟩
          simp only [Instr.sliceAt, Sem.run_bind, run_underlying' hu, Result.andThen_ok, Instr.slice, h1, run_sizeOf hi', Sem.run_pure, Option.map_none, ite_self]
  · rename_i n e b off hu
    obtain ⟨x, he, rfl⟩ := hv.ptr_inv
    split at hs
    case h_2 => cases hs
    rename_i cs tt ss hH
    obtain ⟨_, _, _, _, _, _, hex⟩ := (hw.obj b _ x hH he).there (.inr rfl)
    have hdl := hex rfl
    cases hi' : P.info? e with
    | none => rw [hi'] at hs; cases hs
    | some i =>
      rw [hi'] at hs
      dsimp only at hs
      cases hb : boundsS n n lo hi with
      | none => rw [hb] at hs; cases hs
      | some q =>
        obtain ⟨l, h⟩ := q
        rw [hb] at hs
        cases hs
        obtain ⟨h1, h2, h3⟩ := run_sliceBounds (P := P) (b := false) hb (Nat.le_refl n) w
        refine ⟨.slice (some (if n = l then ⟨x.blk, off + x.sh, none⟩ else ⟨x.blk, off + x.sh + l * i.size, none⟩)) (h - l) (n - l), ?_, ?_⟩
        · simp only [Instr.sliceAt, Sem.run_bind, run_underlying' hu, Result.andThen_ok, Instr.sureAddr, h1, run_sizeOf hi', Sem.run_pure, add_eq]
        · have hnl : n - l = n - l + x.dl := by omega
          rw [hnl]
          split
          · rename_i hcl
            have := VR.slice (E := E) (b := b) (off := off + l * i.size) (len := h - l) (cap := n - l) (off' := off + x.sh) he (.inr (by omega))
            simpa [hdl] using this
          · rename_i hcl
            have := VR.slice (E := E) (b := b) (off := off + l * i.size) (len := h - l) (cap := n - l) (off' := off + x.sh + l * i.size) he (.inl (by omega))
            simpa [hdl] using this
  · cases hs
def slice3S (P : Program) (H : CH) (t : TypeId) (v lo hi mx : Value) : Option Value :=
  match P.underlying t, v with
  | some (.slice e), .slice (some ⟨b, off, none⟩) _ cap => match lo, hi with
    | .int _ l, .int _ h => match mx with
      | .int _ m => match P.info? e, H[b]? with
        | some i, some (.cells _ _ _ true) => if 0 ≤ l ∧ l ≤ h ∧ h ≤ m ∧ m ≤ cap then some (.slice (some ⟨b, off + l.toNat * i.size, none⟩) (h.toNat - l.toNat) (m.toNat - l.toNat)) else none
        | _, _ => none
      | _ => none
    | _, _ => none
  | _, _ => none
theorem run_slice3S {w0 : World} {G : Nat} {E : Env} {H : CH} {w : World} {P : Program} (hw : WR w0 G E H w) {t : TypeId} {v v' u lo hi mx lo' hi' mx' : Value} (hv : VR E v v') (h1 : VR E lo lo') (h2 : VR E hi hi') (h3 : VR E mx mx') (hs : slice3S P H t v lo hi mx = some u) :
    ∃ u', (Instr.sliceAt t v' (some lo') (some hi') (some mx')).run P w = .ok u' w ∧ VR E u u' := by
  unfold slice3S at hs
  split at hs
  case h_2 => cases hs
  rename_i e b off len cap hu
  split at hs
  case h_2 => cases hs
  rename_i kl l kh h
  split at hs
  case h_2 => cases hs
  rename_i km m
  split at hs
  case h_2 => cases hs
  rename_i i cs tt ss hi' hH
  split at hs
  case isFalse => cases hs
  rename_i hq
  cases hs
  rw [h1.int_inv, h2.int_inv, h3.int_inv]
  have hb : ∀ (len cap' : Nat), cap ≤ cap' → (Instr.sliceBounds true len cap' (some (.int kl l)) (some (.int kh h)) (some (.int km m))).run P w = .ok (l.toNat, h.toNat, m.toNat) w := by
    intro len cap' hc
    simp only [Instr.sliceBounds, Sem.run_bind, Sem.run_pure]
    rw [run_sliceBound (by omega)]
    simp only [Result.andThen_ok]
    rw [run_sliceBound (by omega)]
    simp only [Result.andThen_ok]
    rw [run_sliceBound (by omega)]
    simp
  rcases hv.slice_inv' with ⟨rfl, rfl, ⟨a0, rfl⟩, e0, he0, hs0⟩ | ⟨x, off', he, rfl, ho⟩
  · have hl : l = 0 := by omega
    have hh : h = 0 := by omega
    have hm : m = 0 := by omega
    subst hl; subst hh; subst hm
    refine ⟨.slice a0 0 0, ?_, .nils he0 hs0⟩
    simp only [Instr.sliceAt, Sem.run_bind, run_underlying' hu, Result.andThen_ok, Instr.slice, hb 0 0 (Nat.le_refl 0), run_sizeOf hi', Sem.run_pure, if_true]
    rfl
  · obtain ⟨_, _, _, _, _, _, hex⟩ := (hw.obj b _ x hH he).there (.inr rfl)
    obtain ⟨hdl, _, _⟩ := hex rfl
    refine ⟨.slice (if m.toNat = l.toNat then some ⟨x.blk, off', none⟩ else some ⟨x.blk, off' + l.toNat * i.size, none⟩) (h.toNat - l.toNat) (m.toNat - l.toNat), ?_, ?_⟩
    · simp only [Instr.sliceAt, Sem.run_bind, run_underlying' hu, Result.andThen_ok, Instr.slice, hb len (cap + x.dl) (Nat.le_add_right _ _), run_sizeOf hi', Sem.run_pure, Option.map_some, add_eq]
    · rw [show m.toNat - l.toNat = (m.toNat - l.toNat) + x.dl from by omega]
      split
      · rename_i hcl
        have := VR.slice (b := b) (off := off + l.toNat * i.size) (len := h.toNat - l.toNat) (cap := m.toNat - l.toNat) (off' := off') he (.inr (by omega))
        rw [hdl] at this ⊢
        exact this
      · have := VR.slice (b := b) (off := off + l.toNat * i.size) (len := h.toNat - l.toNat) (cap := m.toNat - l.toNat) (off' := off' + l.toNat * i.size) he (.inl (by
          rcases ho with ho | ho
          · rw [ho]; omega
          · omega))
        rw [hdl] at this ⊢
        exact this
def arrPtrS (P : Program) (t : TypeId) (v : Value) : Option Value :=
  match P.underlying t, v with
  | some (.array n _), .slice (some ⟨b, off, none⟩) len cap => if n ≤ len ∧ 1 ≤ n ∧ 1 ≤ cap then some (.pointer (some ⟨b, off, none⟩)) else none
  | _, _ => none
theorem run_arrPtrS {E : Env} {P : Program} {t : TypeId} {v v' u : Value} (hv : VR E v v') (hs : arrPtrS P t v = some u) (w : World) : ∃ u', (Instr.arrayAt t v').run P w = .ok u' w ∧ VR E u u' := by
  unfold arrPtrS at hs
  split at hs
  case h_2 => cases hs
  rename_i n e b off len cap hu
  split at hs
  case isFalse => cases hs
  rename_i hq
  cases hs
  obtain ⟨x, off', he, rfl, ho⟩ := hv.slice_inv (by omega)
  have hoff : off' = off + x.sh := by
    rcases ho with ho | ho
    · exact ho
    · omega
  subst hoff
  refine ⟨.pointer (some ⟨x.blk, off + x.sh, none⟩), ?_, .ptr he⟩
  simp only [Instr.arrayAt, Sem.run_bind, run_underlying' hu, Result.andThen_ok]
  rw [if_neg (by omega)]
  rfl
end Go.Ex
