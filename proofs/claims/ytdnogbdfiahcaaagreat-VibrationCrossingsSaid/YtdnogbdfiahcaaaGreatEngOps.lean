/- Engine, part 3: the operations that read and write cells, one by one. -/
import Derived.Test.YtdnogbdfiahcaaaGreatEngWorld
noncomputable section
namespace Go.Ex
open Go.RowKit

theorem add_eq (b off i : Nat) : (⟨b, off, none⟩ : Addr).add i = ⟨b, off + i, none⟩ := by
  unfold Addr.add
  split
  · subst_vars; rfl
  · rfl

theorem VR.ptr_inv {E : Env} {b off : Nat} {v' : Value} (h : VR E (.pointer (some ⟨b, off, none⟩)) v') : ∃ e, E[b]? = some e ∧ v' = .pointer (some ⟨e.blk, off + e.sh, none⟩) := by
  cases h with
  | flat h => cases h
  | ptr h => exact ⟨_, h, rfl⟩
theorem VR.slice_inv' {E : Env} {b off len cap : Nat} {v' : Value} (h : VR E (.slice (some ⟨b, off, none⟩) len cap) v') : (len = 0 ∧ cap = 0 ∧ v' = .slice none 0 0) ∨
    ∃ e off', E[b]? = some e ∧ v' = .slice (some ⟨e.blk, off', none⟩) len (cap + e.dl) ∧ (off' = off + e.sh ∨ cap + e.dl = 0) := by
  cases h with
  | flat h => cases h
  | slice h ho => exact .inr ⟨_, _, h, rfl, ho⟩
  | nils => exact .inl ⟨rfl, rfl, rfl⟩
theorem VR.slice_inv {E : Env} {b off len cap : Nat} {v' : Value} (h : VR E (.slice (some ⟨b, off, none⟩) len cap) v') (hc : cap ≠ 0) :
    ∃ e off', E[b]? = some e ∧ v' = .slice (some ⟨e.blk, off', none⟩) len (cap + e.dl) ∧ (off' = off + e.sh ∨ cap + e.dl = 0) := by
  cases h with
  | flat h => cases h
  | slice h ho => exact ⟨_, _, h, rfl, ho⟩
  | nils => exact absurd rfl hc
theorem VR.bool_inv {E : Env} {b : Bool} {v' : Value} (h : VR E (.bool b) v') : v' = .bool b := by cases h; rfl
theorem VR.int_inv {E : Env} {k : IntKind} {n : Int} {v' : Value} (h : VR E (.int k n) v') : v' = .int k n := by cases h; rfl
theorem VR.agg_inv {E : Env} {a : Array Value} {v' : Value} (h : VR E (.agg a) v') : ∃ a', v' = .agg a' ∧ VRs E a a' := by
  cases h with
  | flat h =>
    have : a = #[] := by simpa [Ex.flat] using h
    subst this
    exact ⟨#[], rfl, .nil E⟩
  | agg hs h => exact ⟨_, rfl, hs, h⟩
theorem VR.tuple_inv {E : Env} {a : Array Value} {v' : Value} (h : VR E (.tuple a) v') : ∃ a', v' = .tuple a' ∧ VRs E a a' := by
  cases h with
  | flat h =>
    have : a = #[] := by simpa [Ex.flat] using h
    subst this
    exact ⟨#[], rfl, .nil E⟩
  | tuple hs h => exact ⟨_, rfl, hs, h⟩
theorem VR.func_inv {E : Env} {f : FuncId} {a c : Array Value} {v' : Value} (h : VR E (.func (.func f) a c) v') : ∃ a' c', v' = .func (.func f) a' c' ∧ VRs E a a' ∧ VRs E c c' := by
  cases h with
  | flat h =>
    have h' : a.isEmpty = true ∧ c.isEmpty = true := by simpa [Ex.flat] using h
    have h1 : a = #[] := by simpa using h'.1
    have h2 : c = #[] := by simpa using h'.2
    subst h1; subst h2
    exact ⟨#[], #[], rfl, .nil E, .nil E⟩
  | func ha hc h1 h2 => exact ⟨_, _, rfl, ⟨ha, h1⟩, ⟨hc, h2⟩⟩

/-! ### several cells at once -/
def CH.row? (H : CH) (b off : Nat) : Nat → Option (List Value)
  | 0 => some []
  | n + 1 => match H.cell? b off with
    | some x => (CH.row? H b (off + 1) n).map (x :: ·)
    | none => none
theorem run_loadCellsFrom {w0 : World} {G : Nat} {E : Env} {H : CH} {w : World} (P : Program) (h : WR w0 G E H w) {b : Nat} {e : En} (he : E[b]? = some e) (off : Nat) :
    ∀ (n i : Nat) (xs : List Value) (acc acc' : Array Value), H.row? b (off + i) n = some xs → VRs E acc acc' →
      ∃ ys, (loadCellsFrom ⟨e.blk, off + e.sh, none⟩ i n acc').run P w = .ok ys w ∧ VRs E (acc ++ xs.toArray) ys
  | 0, i, xs, acc, acc', hx, ha => by
    cases hx
    exact ⟨acc', rfl, by simpa using ha⟩
  | n + 1, i, xs, acc, acc', hx, ha => by
    simp only [CH.row?] at hx
    cases hc : H.cell? b (off + i) with
    | none => rw [hc] at hx; cases hx
    | some x =>
      rw [hc] at hx
      dsimp only at hx
      cases hr : H.row? b (off + i + 1) n with
      | none => rw [hr] at hx; cases hx
      | some rest =>
        rw [hr] at hx
        cases hx
        obtain ⟨x', hx', hv⟩ := h.cell he hc
        obtain ⟨ys, h1, h2⟩ := run_loadCellsFrom P h he off n (i + 1) rest (acc.push x) (acc'.push x') (by rw [← Nat.add_assoc]; exact hr) (by
          rw [← Array.append_singleton, ← Array.append_singleton]
          exact ha.append (.one hv))
        refine ⟨ys, ?_, by simpa using h2⟩
        simp only [loadCellsFrom, Sem.run_bind]
        rw [run_load, add_eq, show off + e.sh + i = off + i + e.sh from by omega, hx']
        exact h1
theorem run_loadCells {w0 : World} {G : Nat} {E : Env} {H : CH} {w : World} (P : Program) (h : WR w0 G E H w) {b : Nat} {e : En} (he : E[b]? = some e) {off n : Nat} {xs : List Value} (hx : H.row? b off n = some xs) :
    ∃ ys, (loadCells ⟨e.blk, off + e.sh, none⟩ n).run P w = .ok ys w ∧ VRs E xs.toArray ys := by
  obtain ⟨ys, h1, h2⟩ := run_loadCellsFrom P h he off n 0 xs #[] #[] hx (.nil E)
  exact ⟨ys, h1, by simpa using h2⟩

/-- is a type a struct or an array? -/
def aggB (P : Program) (t : TypeId) : Option Bool :=
  match P.underlying t with
  | some (.struct _) | some (.array _ _) => some true
  | some _ => some false
  | none => none
theorem run_isAgg {P : Program} {t : TypeId} {b : Bool} (h : aggB P t = some b) (w : World) : (isAgg t).run P w = .ok b w := by
  unfold aggB at h
  unfold isAgg underlying
  cases hu : P.underlying t with
  | none => rw [hu] at h; cases h
  | some d =>
    rw [hu] at h
    simp only [Sem.run_bind, run_program, Result.andThen_ok, hu, Sem.run_pure]
    cases d <;> (dsimp only at h; cases h; rfl)
theorem run_sizeOf {P : Program} {t : TypeId} {i : TypeInfo} (h : P.info? t = some i) (w : World) : (sizeOf t).run P w = .ok i.size w := by
  simp [sizeOf, typeInfo, h]

def loadS (P : Program) (H : CH) (t : TypeId) (b off : Nat) : Option Value :=
  match aggB P t with
  | some true => match P.info? t with
    | some i => (H.row? b off i.size).map fun xs => .agg xs.toArray
    | none => none
  | some false => H.cell? b off
  | none => none
theorem run_loadVar {w0 : World} {G : Nat} {E : Env} {H : CH} {w : World} {P : Program} (h : WR w0 G E H w) {b off : Nat} {e : En} (he : E[b]? = some e) {t : TypeId} {v : Value} (hl : loadS P H t b off = some v) :
    ∃ v', (loadVar t ⟨e.blk, off + e.sh, none⟩).run P w = .ok v' w ∧ VR E v v' := by
  unfold loadS at hl
  cases ha : aggB P t with
  | none => rw [ha] at hl; cases hl
  | some g =>
    rw [ha] at hl
    cases g with
    | false =>
      obtain ⟨v', h1, h2⟩ := h.cell he hl
      refine ⟨v', ?_, h2⟩
      simp only [loadVar, Sem.run_bind, run_isAgg ha, Result.andThen_ok]
      simp [h1]
    | true =>
      dsimp only at hl
      cases hi : P.info? t with
      | none => rw [hi] at hl; cases hl
      | some i =>
        rw [hi] at hl
        dsimp only at hl
        cases hr : H.row? b off i.size with
        | none => rw [hr] at hl; cases hl
        | some xs =>
          rw [hr] at hl
          cases hl
          obtain ⟨ys, h1, h2⟩ := run_loadCells P h he hr
          refine ⟨.agg ys, ?_, .agg h2.size h2.at_⟩
          simp only [loadVar, Sem.run_bind, run_isAgg ha, Result.andThen_ok, if_true, run_sizeOf hi, h1, Sem.run_pure]

def oneB : Value → Bool
  | .agg _ | .tuple _ | .chan (some _) => false
  | _ => true
theorem VR.one {E : Env} {v v' : Value} (h : VR E v v') (ho : oneB v = true) : v'.oneCell' = true := by
  cases h <;> first | rfl | (cases ho; done) | (rename_i hf; revert hf; cases v <;> first | (intro _; rfl) | (intro _; cases ho))
theorem oneB_nw {v : Value} (h : oneB v = true) : nw v = true := by
  cases v <;> first | rfl | (rename_i r; cases r <;> first | rfl | cases h)

def storeRow (G : Nat) (H : CH) (b off : Nat) : List Value → Option CH
  | [] => some H
  | v :: r => if oneB v then match H.set? G b off v with
      | some H1 => storeRow G H1 b (off + 1) r
      | none => none
    else none
theorem run_storeCells {w0 : World} {G : Nat} (P : Program) {E : Env} {b : Nat} {e : En} (he : E[b]? = some e) (off : Nat) : ∀ (vs vs' : List Value) (i : Nat) (H H' : CH) (w : World), WR w0 G E H w → vs.length = vs'.length →
      (∀ (j : Nat) (x x' : Value), vs[j]? = some x → vs'[j]? = some x' → VR E x x') → storeRow G H b (off + i) vs = some H' →
      ∃ w', (storeCells ⟨e.blk, off + e.sh, none⟩ vs' i).run P w = .ok () w' ∧ WR w0 G E H' w'
  | [], [], i, H, H', w, h, _, _, hs => by cases hs; exact ⟨w, rfl, h⟩
  | [], x :: r, _, _, _, _, _, hl, _, _ => by simp at hl
  | x :: r, [], _, _, _, _, _, hl, _, _ => by simp at hl
  | v :: r, v' :: r', i, H, H', w, h, hl, hv, hs => by
    simp only [storeRow] at hs
    split at hs
    case isFalse => cases hs
    rename_i ho
    cases hset : H.set? G b (off + i) v with
    | none => rw [hset] at hs; cases hs
    | some H1 =>
      rw [hset] at hs
      dsimp only at hs
      have hr := hv 0 v v' rfl rfl
      obtain ⟨⟨u, hu⟩, hf, h1⟩ := h.store he hr hset
      obtain ⟨w', h2, h3⟩ := run_storeCells P he off r r' (i + 1) H1 H' _ h1 (by simpa using hl) (fun j x x' a b => hv (j + 1) x x' a b) (by rw [← Nat.add_assoc]; exact hs)
      refine ⟨w', ?_, h3⟩
      simp only [storeCells, Sem.run_bind]
      rw [run_store P w _ v' _ (hr.one ho), add_eq, show off + e.sh + i = off + i + e.sh from by omega, hu]
      simp only [hf, Bool.false_eq_true, if_false, Result.andThen_ok]
      exact h2

def storeS (P : Program) (G : Nat) (H : CH) (t : TypeId) (b off : Nat) (v : Value) : Option CH :=
  match P.info? t with
  | some i => if v.cells.size = i.size then storeRow G H b off v.cells.toList else none
  | none => none
theorem run_storeVar {w0 : World} {G : Nat} {E : Env} {H H' : CH} {w : World} {P : Program} (h : WR w0 G E H w) {b off : Nat} {e : En} (he : E[b]? = some e) {t : TypeId} {v v' : Value} (hv : VR E v v') (hs : storeS P G H t b off v = some H') :
    ∃ w', (storeVar t ⟨e.blk, off + e.sh, none⟩ v').run P w = .ok () w' ∧ WR w0 G E H' w' := by
  unfold storeS at hs
  cases hi : P.info? t with
  | none => rw [hi] at hs; cases hs
  | some i =>
    rw [hi] at hs
    dsimp only at hs
    split at hs
    case isFalse => cases hs
    rename_i hsz
    have hn : nw v = true := by
      cases v <;> first
        | rfl
        | (rename_i r
           cases r with
           | none => rfl
           | some k =>
             have h0 : storeRow G H b off [Value.chan (some k)] = some H' := hs
             simp [storeRow, oneB] at h0)
    have hc := hv.cells hn
    obtain ⟨w', h1, h2⟩ := run_storeCells P he off v.cells.toList v'.cells.toList 0 H H' w h (by simpa using hc.size) (fun j x x' a b => hc.at_ j x x' (by simpa using a) (by simpa using b)) hs
    refine ⟨w', ?_, h2⟩
    simp only [storeVar, Sem.run_bind, run_sizeOf hi, Result.andThen_ok]
    rw [if_neg (by rw [← hc.size]; simpa using hsz)]
    exact h1
end Go.Ex
