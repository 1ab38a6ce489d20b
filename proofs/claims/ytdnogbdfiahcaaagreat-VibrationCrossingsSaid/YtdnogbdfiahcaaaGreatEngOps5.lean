/- Engine, part 7: copy, make, maps, strings' iterators; an operation, and the pure ones at once. -/
import Derived.Test.YtdnogbdfiahcaaaGreatEngOps4
noncomputable section
namespace Go.Ex
open Go.RowKit

/-- copy -/
def copyS (P : Program) (G : Nat) (H : CH) (t : TypeId) (d x : Value) : Option (Value × CH) :=
  match elemS P t, lenS x with
  | some (_, size), some n => match d with
    | .slice none len _ => if len = 0 then some (.int .i64 0, H) else none
    | .slice (some ⟨b, off, none⟩) len cap => if 0 < len ∧ len ≤ cap then
        match firstS H size (Nat.min n len) x with
        | some new => (storeRow G H b off new).map fun H' => (.int .i64 (Nat.min n len : Nat), H')
        | none => none
      else if len = 0 then some (.int .i64 0, H) else none
    | _ => none
  | _, _ => none
theorem firstCells_zero {E : Env} {P : Program} {size : Nat} {x x' : Value} (hx : VR E x x') {n : Nat} (hl : lenS x = some n) (w : World) : (Builtin.firstCells size 0 x').run P w = .ok #[] w := by
  cases hx with
  | slice _ _ => simp [Builtin.firstCells, loadCells, loadCellsFrom]
  | nils => rfl
  | flat hf =>
    cases x with
    | string s =>
      show Result.ok ((s.extract 0 0).data.map _) w = _
      simp
    | slice a _ _ =>
      cases a with
      | none => rfl
      | some a => cases hf
    | _ => cases hl
  | _ => cases hl
theorem run_copyS {w0 : World} {G : Nat} {E : Env} {H H' : CH} {w : World} {P : Program} (h : WR w0 G E H w) {t tx ty : TypeId} {s s' x x' v : Value} (hs' : VR E s s') (hx' : VR E x x') (hs : copyS P G H t s x = some (v, H')) :
    ∃ F v' w', (Builtin.copy_ #[t, tx] ty #[s', x']).run P w = .ok v' w' ∧ VR (E ++ F) v v' ∧ WR w0 G (E ++ F) H' w' := by
  unfold copyS at hs
  split at hs
  case h_2 => cases hs
  rename_i e size n hel hln
  obtain ⟨i, z, hE, rfl⟩ := elemS_is hel
  have hlw := run_lenS (P := P) hx' hln w
  have hz0 := firstCells_zero (P := P) (size := i.size) hx' hln w
  have hmin : Nat.min n 0 = 0 := Nat.min_zero n
  split at hs
  · rename_i len cap
    split at hs
    case isFalse => cases hs
    rename_i h0
    subst h0
    cases hs
    cases hs' with
    | flat _ =>
      refine ⟨[], .int .i64 0, w, ?_, .flat rfl, by simpa using h⟩
      simp only [Builtin.copy_, List.getElem?_toArray, List.getElem?_cons_zero, List.getElem?_cons_succ, Sem.run_bind, run_underlying' hE.und, Result.andThen_ok, hlw, run_sizeOf hE.inf, hmin, hz0, Sem.run_pure]
      rfl
  · rename_i b off len cap
    split at hs
    · rename_i hlen
      obtain ⟨en, off', he, rfl, ho⟩ := hs'.slice_inv (by omega)
      cases hf : firstS H i.size (Nat.min n len) x with
      | none => rw [hf] at hs; cases hs
      | some new =>
        rw [hf] at hs
        dsimp only at hs
        cases hst : storeRow G H b off new with
        | none => rw [hst] at hs; cases hs
        | some H1 =>
          rw [hst] at hs
          cases hs
          have ho' : off' = off + en.sh := by rcases ho with ho | ho; exact ho; omega
          subst ho'
          obtain ⟨ys, hy1, hy2⟩ := run_firstS P h hx' hf
          obtain ⟨w1, hw1, hw2⟩ := run_storeCells P he off new ys.toList 0 H H' w h (by simpa using hy2.size) (fun j y y' a b => hy2.at_ j y y' (by simpa using a) (by simpa using b)) hst
          refine ⟨[], .int .i64 (Nat.min n len : Nat), w1, ?_, .flat rfl, by simpa using hw2⟩
          simp only [Builtin.copy_, List.getElem?_toArray, List.getElem?_cons_zero, List.getElem?_cons_succ, Sem.run_bind, run_underlying' hE.und, Result.andThen_ok, hlw, run_sizeOf hE.inf, hy1, hw1, Sem.run_pure]
          rfl
    · split at hs
      case isFalse => cases hs
      rename_i h0
      subst h0
      cases hs
      rcases hs'.slice_inv' with ⟨_, rfl, rfl⟩ | ⟨en, off', he, rfl, ho⟩
      all_goals
        refine ⟨[], .int .i64 0, w, ?_, .flat rfl, by simpa using h⟩
        simp only [Builtin.copy_, List.getElem?_toArray, List.getElem?_cons_zero, List.getElem?_cons_succ, Sem.run_bind, run_underlying' hE.und, Result.andThen_ok, hlw, run_sizeOf hE.inf, hmin, hz0, Sem.run_pure]
        rfl
  · cases hs

/-- make of a slice: length and capacity are numbers -/
def makeSliceS (P : Program) (H : CH) (t : TypeId) (l c : Value) : Option (Value × CH) :=
  match l, c with
  | .int _ l, .int _ c => match P.underlying t with
    | some (.slice e) => match P.info? e with
      | some i => if 0 ≤ l ∧ l ≤ c ∧ c ≤ 1048576 ∧ i.bytes ≤ 65536 then
          match zerosFor P e (c.toNat * i.size) with
          | some z => some (.slice (some ⟨H.length, 0, none⟩) l.toNat c.toNat, H.push (.cells (zeroRow z (c.toNat * i.size)).toList e i.size true))
          | none => none
        else none
      | none => none
    | _ => none
  | _, _ => none
theorem wrap_small {c : Int} (h0 : 0 ≤ c) (h1 : c ≤ 1048576) : IntKind.i64.wrap c = c := by
  rw [IntKind.wrap_i64]; omega
theorem run_makeSliceS {w0 : World} {G : Nat} {E : Env} {H H' : CH} {w : World} {P : Program} (h : WR w0 G E H w) {t : TypeId} {l l' c c' v : Value} (hl : VR E l l') (hc : VR E c c') (hs : makeSliceS P H t l c = some (v, H')) :
    ∃ F v' w', (Instr.makeSlice t l' c').run P w = .ok v' w' ∧ VR (E ++ F) v v' ∧ WR w0 G (E ++ F) H' w' := by
  unfold makeSliceS at hs
  split at hs
  case h_2 => cases hs
  rename_i kl l kc c
  cases hl.int_inv
  cases hc.int_inv
  cases hu : P.underlying t with
  | none => rw [hu] at hs; cases hs
  | some d =>
    rw [hu] at hs
    cases d with
    | slice e =>
      dsimp only at hs
      cases hi : P.info? e with
      | none => rw [hi] at hs; cases hs
      | some i =>
        rw [hi] at hs
        dsimp only at hs
        split at hs
        case isFalse => cases hs
        rename_i hq
        obtain ⟨q0, q1, q2, q3⟩ := hq
        cases hz : zerosFor P e (c.toNat * i.size) with
        | none => rw [hz] at hs; cases hs
        | some z =>
          rw [hz] at hs
          cases hs
          obtain ⟨hz1, hz2⟩ := run_zerosFor hz w
          have hwl := wrap_small q0 (by omega)
          have hwc := wrap_small (show 0 ≤ c by omega) q2
          have hti : (typeInfo e).run P w = .ok i w := by simp [typeInfo, hi]
          have hb : ¬ ((i.bytes : Int) * c > 2 ^ 48) := by
            have : (i.bytes : Int) * c ≤ 65536 * 1048576 := Int.mul_le_mul (by omega) q2 (by omega) (by omega)
            omega
          refine ⟨[⟨w.heap.size, 0, 0⟩], .slice (some ⟨w.heap.size, 0, none⟩) l.toNat c.toNat, w.alloc (.cells (zeroRow z (c.toNat * i.size)) e), ?_, VR.newSlice h ⟨w.heap.size, 0, 0⟩ _ _ 0 rfl, h.newCells (VRs.of_cleans E (cleans_zeroRow hz2 _)) e i.size⟩
          simp only [Instr.makeSlice, asInt, asIntOf, Sem.run_bind, run_underlying' hu, Result.andThen_ok, Sem.run_pure, hti, hwl, hwc]
          rw [if_neg (by
            simp only [Bool.or_eq_true, decide_eq_true_eq]
            rintro (((hh | hh) | hh) | hh)
            · omega
            · exact hb hh
            · omega
            · omega)]
          simp only [Sem.run_bind, run_askRoom, Result.andThen_ok, run_sizeOf hi]
          rcases hz1 with ⟨hn, rfl⟩ | ⟨hn, z0, hz0, rfl⟩
          · rw [if_pos hn]
            rfl
          · rw [if_neg hn]
            simp only [Sem.run_bind, hz0, Sem.run_pure, Result.andThen_ok]
            rfl
    | _ => cases hs
end Go.Ex
