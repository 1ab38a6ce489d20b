/- Engine, part 4: building, slicing, indexing, appending. -/
import Derived.Test.YtdnogbdfiahcaaaGreatEngOps
noncomputable section
namespace Go.Ex
open Go.RowKit

theorem VRs.toList_get {E : Env} {a a' : Array Value} (h : VRs E a a') {i : Nat} {x : Value} (hx : a.toList[i]? = some x) : ∃ x', a'[i]? = some x' ∧ VR E x x' := h.get (by simpa using hx)
theorem VRs.of_list {E : Env} {l l' : List Value} (hl : l.length = l'.length) (h : ∀ (i : Nat) (x x' : Value), l[i]? = some x → l'[i]? = some x' → VR E x x') : VRs E l.toArray l'.toArray :=
  ⟨by simpa using hl, fun i x x' a b => h i x x' (by simpa using a) (by simpa using b)⟩

/-! ### fill -/
theorem fold_rel {E : Env} (off : Nat) : ∀ (l l' : List Value) (k : Nat) (cs cs' : Array Value), l.length = l'.length → (∀ (j : Nat) (x x' : Value), l[j]? = some x → l'[j]? = some x' → VR E x x') → VRs E cs cs' →
    VRs E ((l.zipIdx k).foldl (fun cs (p : Value × Nat) => cs.setIfInBounds (off + p.2) p.1) cs) ((l'.zipIdx k).foldl (fun cs (p : Value × Nat) => cs.setIfInBounds (off + p.2) p.1) cs')
  | [], [], _, _, _, _, _, h => h
  | [], _ :: _, _, _, _, hl, _, _ => by simp at hl
  | _ :: _, [], _, _, _, hl, _, _ => by simp at hl
  | x :: r, x' :: r', k, cs, cs', hl, hv, h => by
    rw [List.zipIdx_cons, List.zipIdx_cons, List.foldl_cons, List.foldl_cons]
    exact fold_rel off r r' (k + 1) _ _ (by simpa using hl) (fun j y y' a b => hv (j + 1) y y' a b) (h.set _ (hv 0 x x' rfl rfl))
theorem fold_size {off : Nat} : ∀ (l : List (Value × Nat)) (cs : Array Value), (l.foldl (fun cs (p : Value × Nat) => cs.setIfInBounds (off + p.2) p.1) cs).size = cs.size
  | [], _ => rfl
  | x :: r, cs => by rw [List.foldl_cons, fold_size r]; simp
theorem fill_rel0 {E : Env} (place : Nat → Option (Nat × Nat)) : ∀ (ps ps' : List (Nat × Value)) (cs cs' r : Array Value), ps.length = ps'.length → (ps.all fun p => nw p.2) = true →
      (∀ (j : Nat) (p p' : Nat × Value), ps[j]? = some p → ps'[j]? = some p' → p'.1 = p.1 ∧ VR E p.2 p'.2) → VRs E cs cs' → Instr.fill place cs ps = some r →
      ∃ r', Instr.fill place cs' ps' = some r' ∧ VRs E r r'
  | [], [], cs, cs', r, _, _, _, h, hf => by
    simp only [Instr.fill] at hf
    cases hf
    exact ⟨cs', rfl, h⟩
  | [], _ :: _, _, _, _, hl, _, _, _, _ => by simp at hl
  | _ :: _, [], _, _, _, hl, _, _, _, _ => by simp at hl
  | (i, v) :: ps, (i', v') :: ps', cs, cs', r, hl, hn, hp, h, hf => by
    rw [List.all_cons, Bool.and_eq_true] at hn
    obtain ⟨hi, hv⟩ := hp 0 (i, v) (i', v') rfl rfl
    dsimp only at hi hv
    rw [hi]
    simp only [Instr.fill] at hf ⊢
    cases hpl : place i with
    | none => rw [hpl] at hf; cases hf
    | some q =>
      obtain ⟨off, size⟩ := q
      rw [hpl] at hf
      dsimp only at hf ⊢
      have hc := hv.cells hn.1
      rw [← hc.size, ← h.size]
      split at hf
      · cases hf
      · rename_i hcond
        rw [if_neg hcond]
        refine fill_rel0 place ps ps' _ _ r (by simpa using hl) hn.2 (fun j p p' a b => hp (j + 1) p p' a b) ?_ hf
        rw [← Array.foldl_toList, ← Array.foldl_toList, Array.toList_zipIdx, Array.toList_zipIdx]
        exact fold_rel off _ _ 0 cs cs' (by simpa using hc.size) (fun j x x' a b => hc.at_ j x x' (by simpa using a) (by simpa using b)) h

def fillS (place : Nat → Option (Nat × Nat)) (cs : Array Value) (ps : List (Nat × Value)) : Option (Array Value) := cond (ps.all fun p => nw p.2) (Instr.fill place cs ps) none
theorem fill_rel {E : Env} (place : Nat → Option (Nat × Nat)) (ps ps' : List (Nat × Value)) (cs cs' r : Array Value) (hl : ps.length = ps'.length)
    (hp : ∀ (j : Nat) (p p' : Nat × Value), ps[j]? = some p → ps'[j]? = some p' → p'.1 = p.1 ∧ VR E p.2 p'.2) (h : VRs E cs cs') (hf : fillS place cs ps = some r) : ∃ r', Instr.fill place cs' ps' = some r' ∧ VRs E r r' := by
  unfold fillS at hf
  cases hn : (ps.all fun p => nw p.2) with
  | false => rw [hn] at hf; cases hf
  | true => rw [hn] at hf; exact fill_rel0 place ps ps' cs cs' r hl hn hp h hf

/-- A new row of cells. -/
theorem WR.newCells {w0 : World} {G : Nat} {E : Env} {H : CH} {w : World} (h : WR w0 G E H w) {a a' : Array Value} (ha : VRs E a a') (t : TypeId) (s : Nat) :
    WR w0 G (E ++ [⟨w.heap.size, 0, 0⟩]) (H.push (.cells a.toList t s true)) (w.alloc (.cells a' t)) := by
  refine h.push _ _ _ rfl ⟨a', (0, 0), heap_alloc_new w _, .inl rfl, by simp [ha.size], fun i x hx => ?_, fun _ => ⟨rfl, rfl⟩⟩
  obtain ⟨x', h1, h2⟩ := ha.toList_get hx
  exact ⟨x', by simpa using h1, h2.mono _⟩
theorem Env.last (E : Env) (e : En) : (E ++ [e])[E.length]? = some e := by simp
theorem VR.new {w0 : World} {G : Nat} {E : Env} {H : CH} {w : World} (h : WR w0 G E H w) (e : En) (he : e.sh = 0) : VR (E ++ [e]) (.pointer (some ⟨H.length, 0, none⟩)) (.pointer (some ⟨e.blk, 0, none⟩)) := by
  have := VR.ptr (E := E ++ [e]) (b := H.length) (off := 0) (by rw [← h.len]; exact Env.last E e)
  rw [he] at this
  exact this
theorem VR.newSlice {w0 : World} {G : Nat} {E : Env} {H : CH} {w : World} (h : WR w0 G E H w) (e : En) (len cap off' : Nat) (he : off' = e.sh) : VR (E ++ [e]) (.slice (some ⟨H.length, 0, none⟩) len cap) (.slice (some ⟨e.blk, off', none⟩) len (cap + e.dl)) :=
  .slice (by rw [← h.len]; exact Env.last E e) (.inl (by omega))

theorem run_underlying' {P : Program} {t : TypeId} {d : TypeDesc} (h : P.underlying t = some d) (w : World) : (underlying t).run P w = .ok d w := by
  simp [underlying, h]
theorem run_zeroValue' {P : Program} {t : TypeId} {i : TypeInfo} {z : Value} (hi : P.info? t = some i) (hz : i.zero = some z) (w : World) : (zeroValue t).run P w = .ok z w := by
  simp [zeroValue, typeInfo, hi, hz]

def cleans (a : Array Value) : Bool := a.toList.all (clean 6)
theorem VRs.of_cleans (E : Env) {a : Array Value} (h : cleans a = true) : VRs E a a :=
  ⟨rfl, fun i x x' hx hx' => by rw [hx] at hx'; cases hx'; exact VR.of_clean E 6 x (all_at h hx)⟩

/-- alloc -/
def allocS (P : Program) (H : CH) (t : TypeId) : Option (Value × CH) :=
  match P.info? t with
  | some i => match i.zero with
    | some z => if cleans z.cells then some (.pointer (some ⟨H.length, 0, none⟩), H.push (.cells z.cells.toList t 1 true)) else none
    | none => none
  | none => none
theorem run_allocS {w0 : World} {G : Nat} {E : Env} {H H' : CH} {w : World} {P : Program} (h : WR w0 G E H w) {t : TypeId} {v : Value} (hs : allocS P H t = some (v, H')) (old : Value) :
    ∃ F v' w', (Instr.alloc t true old).run P w = .ok v' w' ∧ VR (E ++ F) v v' ∧ WR w0 G (E ++ F) H' w' := by
  unfold allocS at hs
  cases hi : P.info? t with
  | none => rw [hi] at hs; cases hs
  | some i =>
    rw [hi] at hs
    dsimp only at hs
    cases hz : i.zero with
    | none => rw [hz] at hs; cases hs
    | some z =>
      rw [hz] at hs
      dsimp only at hs
      split at hs
      case isFalse => cases hs
      rename_i hc
      cases hs
      refine ⟨[⟨w.heap.size, 0, 0⟩], _, _, ?_, VR.new h _ rfl, h.newCells (VRs.of_cleans E hc) t 1⟩
      simp only [Instr.alloc, Sem.run_bind, run_zeroValue' hi hz, Result.andThen_ok]
      rfl

/-- box -/
def boxS (H : CH) (t : TypeId) (x : Value) : Value × CH := (.pointer (some ⟨H.length, 0, none⟩), H.push (.cells x.cells.toList t 1 true))
theorem run_boxS {w0 : World} {G : Nat} {E : Env} {H : CH} {w : World} (P : Program) (h : WR w0 G E H w) (t : TypeId) {x x' : Value} (hx : VR E x x') (hn : nw x = true) :
    ∃ F v' w', (Instr.box t x').run P w = .ok v' w' ∧ VR (E ++ F) (boxS H t x).1 v' ∧ WR w0 G (E ++ F) (boxS H t x).2 w' :=
  ⟨[⟨w.heap.size, 0, 0⟩], _, _, rfl, VR.new h _ rfl, h.newCells (hx.cells hn) t 1⟩

/-- build -/
theorem parts_rel {E : Env} {ρ ρ' : Operand → Value} (ps : Array (Nat × Operand)) (h : ∀ x, (∃ i, (i, x) ∈ ps.toList) → VR E (ρ x) (ρ' x)) :
    ∀ (j : Nat) (p p' : Nat × Value), (ps.map fun (i, x) => (i, ρ x)).toList[j]? = some p → (ps.map fun (i, x) => (i, ρ' x)).toList[j]? = some p' → p'.1 = p.1 ∧ VR E p.2 p'.2 := by
  intro j p p' hp hp'
  simp only [Array.toList_map, List.getElem?_map] at hp hp'
  cases hj : ps.toList[j]? with
  | none => rw [hj] at hp; cases hp
  | some q =>
    rw [hj] at hp hp'
    cases hp; cases hp'
    obtain ⟨i, x⟩ := q
    exact ⟨rfl, h x ⟨i, List.mem_of_getElem? hj⟩⟩

def placesS (P : Program) (fs : Array Field) : Option (List (Nat × Nat)) := fs.toList.mapM fun f => (P.info? f.type).map fun i => (f.offset, i.size)
def buildS (P : Program) (t : TypeId) (ps : List (Nat × Value)) : Option Value :=
  match P.info? t with
  | some i => match i.zero with
    | some z => if cleans z.cells then
        match P.underlying t with
        | some (.struct fs) => match placesS P fs with
          | some pl => (fillS (pl.toArray[·]?) z.cells ps).map .agg
          | none => none
        | some (.array _ e) => match P.info? e with
          | some j => (fillS (fun i => some (i * j.size, j.size)) z.cells ps).map .agg
          | none => none
        | _ => none
      else none
    | none => none
  | none => none
theorem run_places {P : Program} (w : World) : ∀ (l : List Field) (pl : List (Nat × Nat)), (l.mapM fun f => (P.info? f.type).map fun i => (f.offset, i.size)) = some pl →
    (l.mapM fun f => (do pure (f.offset, ← sizeOf f.type) : Sem (Nat × Nat))).run P w = .ok pl w
  | [], pl, h => by cases h; rfl
  | f :: r, pl, h => by
    rw [List.mapM_cons] at h ⊢
    cases hi : P.info? f.type with
    | none => rw [hi] at h; cases h
    | some i =>
      rw [hi] at h
      simp only [Option.map_some, Option.bind_eq_bind, Option.bind_some] at h
      cases hr : (r.mapM fun f => (P.info? f.type).map fun i => (f.offset, i.size)) with
      | none => rw [hr] at h; cases h
      | some q =>
        rw [hr] at h
        cases h
        simp only [Sem.run_bind, run_sizeOf hi, Result.andThen_ok, Sem.run_pure, run_places w r q hr]
theorem run_buildS {E : Env} {P : Program} {t : TypeId} {ps ps' : Array (Nat × Value)} (hl : ps.size = ps'.size)
    (hp : ∀ (j : Nat) (p p' : Nat × Value), ps.toList[j]? = some p → ps'.toList[j]? = some p' → p'.1 = p.1 ∧ VR E p.2 p'.2) {v : Value} (hs : buildS P t ps.toList = some v) (w : World) :
    ∃ v', (Instr.build t ps').run P w = .ok v' w ∧ VR E v v' := by
  unfold buildS at hs
  cases hi : P.info? t with
  | none => rw [hi] at hs; cases hs
  | some i =>
    rw [hi] at hs
    dsimp only at hs
    cases hz : i.zero with
    | none => rw [hz] at hs; cases hs
    | some z =>
      rw [hz] at hs
      dsimp only at hs
      split at hs
      case isFalse => cases hs
      rename_i hc
      have hl' : ps.toList.length = ps'.toList.length := by simpa using hl
      have hz0 := run_zeroValue' hi hz w
      cases hu : P.underlying t with
      | none => rw [hu] at hs; cases hs
      | some d =>
        rw [hu] at hs
        cases d with
        | struct fs =>
          dsimp only at hs
          cases hpl : placesS P fs with
          | none => rw [hpl] at hs; cases hs
          | some pl =>
            rw [hpl] at hs
            dsimp only at hs
            cases hf : fillS (pl.toArray[·]?) z.cells ps.toList with
            | none => rw [hf] at hs; cases hs
            | some r =>
              rw [hf] at hs
              cases hs
              obtain ⟨r', h1, h2⟩ := fill_rel _ _ _ _ _ r hl' hp (VRs.of_cleans E hc) hf
              refine ⟨.agg r', ?_, .agg h2.size h2.at_⟩
              have hm : (fs.mapM fun f => (do pure (f.offset, ← sizeOf f.type) : Sem (Nat × Nat))).run P w = .ok pl.toArray w := by
                rw [Array.mapM_eq_mapM_toList]
                simp only [Sem.run_map, run_places w fs.toList pl hpl, Result.andThen_ok]
              simp only [Instr.build, Sem.run_bind, hz0, run_underlying' hu, Result.andThen_ok, hm, h1, Sem.run_pure]
        | array n e =>
          dsimp only at hs
          cases hj : P.info? e with
          | none => rw [hj] at hs; cases hs
          | some j =>
            rw [hj] at hs
            dsimp only at hs
            cases hf : fillS (fun i => some (i * j.size, j.size)) z.cells ps.toList with
            | none => rw [hf] at hs; cases hs
            | some r =>
              rw [hf] at hs
              cases hs
              obtain ⟨r', h1, h2⟩ := fill_rel _ _ _ _ _ r hl' hp (VRs.of_cleans E hc) hf
              refine ⟨.agg r', ?_, .agg h2.size h2.at_⟩
              simp only [Instr.build, Sem.run_bind, hz0, run_underlying' hu, Result.andThen_ok, run_sizeOf hj, h1, Sem.run_pure]
        | _ => cases hs

/-- buildSlice -/
def zeroRow (z : Array Value) (n : Nat) : Array Value := (Array.range n).map (z[· % z.size]!)
def zerosFor (P : Program) (e : TypeId) (n : Nat) : Option (Array Value) :=
  if n = 0 then some #[] else match P.info? e with
    | some i => match i.zero with
      | some z => if cleans z.cells then some z.cells else none
      | none => none
    | none => none
theorem cleans_zeroRow {z : Array Value} (hz : cleans z = true) (n : Nat) : cleans (zeroRow z n) = true := by
  unfold cleans zeroRow
  rw [Array.toList_map, List.all_map]
  refine List.all_eq_true.2 fun i _ => ?_
  show clean 6 (z[i % z.size]!) = true
  by_cases hi : i % z.size < z.size
  · rw [getElem!_pos z _ hi]
    exact all_at hz (Array.getElem?_eq_getElem hi)
  · rw [getElem!_neg z _ hi]; rfl
theorem run_zerosFor {P : Program} {e : TypeId} {n : Nat} {z : Array Value} (h : zerosFor P e n = some z) (w : World) :
    ((n = 0 ∧ z = #[]) ∨ (n ≠ 0 ∧ ∃ z0 : Value, (zeroValue e).run P w = .ok z0 w ∧ z0.cells = z)) ∧ cleans z = true := by
  unfold zerosFor at h
  split at h
  · rename_i hn; cases h; exact ⟨.inl ⟨hn, rfl⟩, rfl⟩
  · rename_i hn
    cases hi : P.info? e with
    | none => rw [hi] at h; cases h
    | some i =>
      rw [hi] at h
      dsimp only at h
      cases hz : i.zero with
      | none => rw [hz] at h; cases h
      | some z0 =>
        rw [hz] at h
        dsimp only at h
        split at h
        case isFalse => cases h
        rename_i hc
        cases h
        exact ⟨.inr ⟨hn, z0, run_zeroValue' hi hz w, rfl⟩, hc⟩

def buildSliceS (P : Program) (H : CH) (t : TypeId) (len : Nat) (ps : List (Nat × Value)) : Option (Value × CH) :=
  match P.underlying t with
  | some (.slice e) => match P.info? e with
    | some i => if len * i.size > 2 ^ 24 then none else match zerosFor P e (len * i.size) with
      | some z => match fillS (fun k => some (k * i.size, i.size)) (zeroRow z (len * i.size)) ps with
        | some r => some (.slice (some ⟨H.length, 0, none⟩) len len, H.push (.cells r.toList e i.size true))
        | none => none
      | none => none
    | none => none
  | _ => none
theorem run_buildSliceS {w0 : World} {G : Nat} {E : Env} {H H' : CH} {w : World} {P : Program} (h : WR w0 G E H w) {t : TypeId} {len : Nat} {ps ps' : Array (Nat × Value)} (hl : ps.size = ps'.size)
    (hp : ∀ (j : Nat) (p p' : Nat × Value), ps.toList[j]? = some p → ps'.toList[j]? = some p' → p'.1 = p.1 ∧ VR E p.2 p'.2) {v : Value} (hs : buildSliceS P H t len ps.toList = some (v, H')) :
    ∃ F v' w', (Instr.buildSlice t len ps').run P w = .ok v' w' ∧ VR (E ++ F) v v' ∧ WR w0 G (E ++ F) H' w' := by
  unfold buildSliceS at hs
  cases hu : P.underlying t with
  | none => rw [hu] at hs; cases hs
  | some d =>
    rw [hu] at hs
    cases d with
    | slice e =>
      dsimp only at hs
      cases hi : P.info? e with
      | none => rw [hi] at hs; cases hs
      | some i =>
        rw [hi] at hs
        dsimp only at hs
        split at hs
        case isTrue => cases hs
        rename_i hbig
        cases hz : zerosFor P e (len * i.size) with
        | none => rw [hz] at hs; cases hs
        | some z =>
          rw [hz] at hs
          dsimp only at hs
          cases hf : fillS (fun k => some (k * i.size, i.size)) (zeroRow z (len * i.size)) ps.toList with
          | none => rw [hf] at hs; cases hs
          | some r =>
            rw [hf] at hs
            cases hs
            obtain ⟨hz1, hz2⟩ := run_zerosFor hz w
            obtain ⟨r', h1, h2⟩ := fill_rel _ _ _ _ _ r (by simpa using hl) hp (VRs.of_cleans E (cleans_zeroRow hz2 (len * i.size))) hf
            refine ⟨[⟨w.heap.size, 0, 0⟩], .slice (some ⟨w.heap.size, 0, none⟩) len len, w.alloc (.cells r' e), ?_, VR.newSlice h ⟨w.heap.size, 0, 0⟩ len len 0 rfl, h.newCells h2 e i.size⟩
            simp only [Instr.buildSlice, Sem.run_bind, run_underlying' hu, Result.andThen_ok, run_sizeOf hi]
            rw [if_neg hbig]
            rcases hz1 with ⟨hn, rfl⟩ | ⟨hn, z0, hz0, rfl⟩
            · rw [if_pos hn]
              simp only [Sem.run_bind, Sem.run_pure, Result.andThen_ok]
              rw [show (Array.range (len * i.size)).map ((#[] : Array Value)[· % (#[] : Array Value).size]!) = zeroRow #[] (len * i.size) from rfl, h1]
              rfl
            · rw [if_neg hn]
              simp only [Sem.run_bind, hz0, Sem.run_pure, Result.andThen_ok]
              rw [show (Array.range (len * i.size)).map (z0.cells[· % z0.cells.size]!) = zeroRow z0.cells (len * i.size) from rfl, h1]
              rfl
    | _ => cases hs
end Go.Ex
