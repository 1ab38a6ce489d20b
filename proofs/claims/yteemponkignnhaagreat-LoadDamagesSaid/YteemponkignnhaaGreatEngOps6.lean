/- Part of the proof. -/
import Derived.Test.YteemponkignnhaaGreatEngMap
import Derived.Lib.Builder
import Derived.Lib.ConvBytes
import Derived.Lib.UnsafeStr
import Derived.LaidEqlPtr
import Derived.Laws.Externs
import Derived.Laws.BytesString
noncomputable section
namespace Go.Ex
open Go.RowKit
theorem map_some' {α β : Type} {f : α → β} {x : Option α} {y : β} (h : x.map f = some y) : ∃ z, x = some z ∧ f z = y := by
  cases x with
  | none => cases h
  | some z => exact ⟨z, rfl, by simpa using h⟩
def appendZ (P : Program) (H : CH) (t tx : TypeId) (s x : Value) : Option (Value × CH) :=
  match P.underlying t, P.underlying tx, s, x with
  | some (.slice e), some (.int _), .slice none 0 0, .int _ l =>
    match P.info? e with
    | some i => match i.zero with
      | some z => if cleans z.cells ∧ z.cells.size = i.size ∧ i.bytes ≤ 65536 ∧ 0 < l ∧ l ≤ 1048576 ∧ 0 < i.size then
          some (.slice (some ⟨H.length, 0, none⟩) l.toNat l.toNat, H.push (.cells (Builtin.zeroCells z.cells l.toNat).toList e i.size false))
        else none
      | none => none
    | none => none
  | _, _, _, _ => none
theorem zeroCells_cleans {z : Array Value} (h : cleans z = true) (n : Nat) : cleans (Builtin.zeroCells z n) = true := by
  unfold cleans at h ⊢
  rw [List.all_eq_true]
  intro x hx
  unfold Builtin.zeroCells at hx
  rw [Array.toList_map, List.mem_map] at hx
  obtain ⟨i, hi, rfl⟩ := hx
  have hi' : i < n * z.size := by simpa using hi
  have hz : 0 < z.size := by
    rcases Nat.eq_zero_or_pos z.size with h0 | h0
    · rw [h0] at hi'; simp at hi'
    · exact h0
  have hlt : i % z.size < z.size := Nat.mod_lt _ hz
  rw [getElem!_pos z (i % z.size) hlt]
  exact List.all_eq_true.1 h _ (by simp)
theorem run_appendZ {w0 : World} {G : Nat} {E : Env} {H H' : CH} {w : World} {P : Program} (h : WR w0 G E H w) {t tx ty : TypeId} {s s' x x' v : Value} (hs' : VR E s s') (hx' : VR E x x') (hs : appendZ P H t tx s x = some (v, H')) :
    ∃ F v' w', (Builtin.append_ #[t, tx] ty #[s', x']).run P w = .ok v' w' ∧ VR (E ++ F) v v' ∧ WR w0 G (E ++ F) H' w' := by
  unfold appendZ at hs
  split at hs
  case h_2 => cases hs
  rename_i e k kx l hu hux
  cases hx'.int_inv
  cases hs' with
  | flat _ =>
    cases hi : P.info? e with
    | none => rw [hi] at hs; cases hs
    | some i =>
      rw [hi] at hs
      dsimp only at hs
      cases hz : i.zero with
      | none => rw [hz] at hs; cases hs
      | some z =>
        rw [hz] at hs
        dsimp only at hs
        split at hs
        case isFalse => cases hs
        rename_i hq
        obtain ⟨q1, q2, q3, q4, q5, q6⟩ := hq
        cases hs
        have hwl := wrap_small (show 0 ≤ l by omega) q5
        have hti : ∀ w', (typeInfo e).run P w' = .ok i w' := fun w' => by simp [typeInfo, hi]
        have hb : ¬ (l * (i.bytes : Int) > 2 ^ 48) := by
          have : l * (i.bytes : Int) ≤ 1048576 * 65536 := Int.mul_le_mul q5 (by omega) (by omega) (by omega)
          omega
        have hl0 : ¬ l < 0 := by omega
        have hn : ¬ l.toNat ≤ 0 := by omega
        have hns := nextslicecap_le l.toNat 0 (by omega)
        have hmul : Builtin.nextslicecap l.toNat 0 * i.bytes ≤ 2097664 * 65536 := Nat.mul_le_mul (by omega) q3
        have hlim : ¬ Builtin.nextslicecap l.toNat 0 * i.bytes > 2 ^ 48 := by omega
        have h63 : ¬ (((l.toNat : Nat) : Int) > IntKind.i64.max ∧ (True ∨ i.bytes = 0)) := by
          rintro ⟨hh, _⟩
          have : ((l.toNat : Nat) : Int) > 9223372036854775807 := hh
          omega
        have hforced : (Question.appendCap l.toNat 0 e).forced = false := rfl
        have hcut : (Question.appendCap l.toNat 0 e).cut (w.tape w.drawn (.appendCap l.toNat 0 e)) = l.toNat + (w.tape w.drawn (.appendCap l.toNat 0 e)) % (2 ^ 63 - l.toNat) := rfl
        have hsz : ¬ l.toNat * i.size = 0 := by
          intro hh
          rcases Nat.mul_eq_zero.1 hh with hh | hh <;> omega
        refine ⟨[⟨w.heap.size, 0, (w.tape w.drawn (.appendCap l.toNat 0 e)) % (2 ^ 63 - l.toNat)⟩], _, _, ?_, VR.newSlice h ⟨w.heap.size, 0, (w.tape w.drawn (.appendCap l.toNat 0 e)) % (2 ^ 63 - l.toNat)⟩ l.toNat l.toNat 0 rfl,
          (h.draws (w.drawn + 1)).grown (z := z.cells) (VRs.of_cleans E (zeroCells_cleans q1 _)) e i.size _ q2⟩
        simp only [Builtin.append_, List.getElem?_toArray, List.getElem?_cons_zero, List.getElem?_cons_succ, Sem.run_bind, run_underlying' hu, run_underlying' hux, Result.andThen_ok, run_sizeOf hi, Sem.run_pure, if_true, asInt, asIntOf, hwl]
        rw [if_neg hl0]
        simp only [Sem.run_bind, hti, Result.andThen_ok]
        rw [if_neg hb]
        simp only [Sem.run_bind, Result.andThen_ok, Sem.run_pure, Nat.zero_add]
        rw [if_neg hn]
        simp only [Sem.run_bind, hti, Result.andThen_ok]
        rw [if_neg h63]
        simp only [Sem.run_bind, hti, Result.andThen_ok]
        rw [if_neg hlim]
        simp only [Sem.run_bind, run_choose, hforced, Bool.false_eq_true, if_false, Result.andThen_ok, hti, run_askRoom, hcut, run_zeroValue' hi hz, Builtin.firstCells, Sem.run_pure, Bool.not_true]
        rw [if_neg hsz]
        simp only [Sem.run_bind, run_zeroValue' hi hz, Result.andThen_ok, newRow, run_newObj, Sem.run_pure, Nat.add_sub_cancel_left, Array.empty_append]
        rfl
def clearS (P : Program) (G : Nat) (H : CH) (t : TypeId) (x : Value) : Option (Value × CH) :=
  match P.underlying t, x with
  | some (.slice _), .slice none _ _ => some (.tuple #[], H)
  | some (.slice e), .slice (some ⟨b, off, none⟩) n cap =>
    if n = 0 then some (.tuple #[], H) else if n ≤ cap then match P.info? e with
      | some i => match i.zero with
        | some z => if cleans z.cells then (storeRow G H b off (Builtin.zeroCells z.cells n).toList).map (.tuple #[], ·) else none
        | none => none
      | none => none
    else none
  | _, _ => none
theorem run_clearS {w0 : World} {G : Nat} {E : Env} {H H' : CH} {w : World} {P : Program} (h : WR w0 G E H w) {t ty : TypeId} {x x' v : Value} (hx' : VR E x x') (hs : clearS P G H t x = some (v, H')) :
    ∃ F v' w', (Builtin.clear_ #[t] ty #[x']).run P w = .ok v' w' ∧ VR (E ++ F) v v' ∧ WR w0 G (E ++ F) H' w' := by
  unfold clearS at hs
  split at hs
  · rename_i e n cap hu
    cases hs
    cases hx' with
    | flat _ =>
      refine ⟨[], .tuple #[], w, ?_, .flat rfl, by simpa using h⟩
      simp only [Builtin.clear_, List.getElem?_toArray, List.getElem?_cons_zero, Sem.run_bind, run_underlying' hu, Result.andThen_ok, Sem.run_pure]
  · rename_i e b off n cap hu
    split at hs
    · rename_i hn
      subst hn
      cases hs
      rcases hx'.slice_inv' with ⟨_, rfl, ⟨a0, rfl⟩, _⟩ | ⟨en, off', he, rfl, ho⟩
      · refine ⟨[], .tuple #[], w, ?_, .flat rfl, by simpa using h⟩
        cases a0 <;> simp only [Builtin.clear_, List.getElem?_toArray, List.getElem?_cons_zero, Sem.run_bind, run_underlying' hu, Result.andThen_ok, Sem.run_pure]
      · refine ⟨[], .tuple #[], w, ?_, .flat rfl, by simpa using h⟩
        simp only [Builtin.clear_, List.getElem?_toArray, List.getElem?_cons_zero, Sem.run_bind, run_underlying' hu, Result.andThen_ok, Sem.run_pure]
    · rename_i hn
      split at hs
      case isFalse => cases hs
      rename_i hcap
      obtain ⟨en, off', he, rfl, ho⟩ := hx'.slice_inv (by omega)
      cases hi : P.info? e with
      | none => rw [hi] at hs; cases hs
      | some i =>
        rw [hi] at hs
        dsimp only at hs
        cases hz : i.zero with
        | none => rw [hz] at hs; cases hs
        | some z =>
          rw [hz] at hs
          dsimp only at hs
          split at hs
          case isFalse => cases hs
          rename_i hcl
          cases hst : storeRow G H b off (Builtin.zeroCells z.cells n).toList with
          | none => rw [hst] at hs; cases hs
          | some H1 =>
            rw [hst] at hs
            cases hs
            have ho' : off' = off + en.sh := by rcases ho with ho | ho; exact ho; omega
            subst ho'
            have hv := VRs.of_cleans E (zeroCells_cleans hcl n)
            obtain ⟨w1, hw1, hw2⟩ := run_storeCells P he off (Builtin.zeroCells z.cells n).toList (Builtin.zeroCells z.cells n).toList 0 H H' w h rfl (fun j y y' a b => hv.at_ j y y' (by simpa using a) (by simpa using b)) hst
            refine ⟨[], .tuple #[], w1, ?_, .flat rfl, by simpa using hw2⟩
            obtain ⟨m, rfl⟩ : ∃ m, n = m + 1 := ⟨n - 1, by omega⟩
            simp only [Builtin.clear_, List.getElem?_toArray, List.getElem?_cons_zero, Sem.run_bind, run_underlying' hu, Result.andThen_ok, run_zeroValue' hi hz, hw1, Sem.run_pure]
  · cases hs
def ptrEq (P : Program) (t : TypeId) (a b : Value) : Option Bool :=
  match P.underlying t, a, b with
  | some (.pointer te), .pointer (some ⟨b, o, none⟩), .pointer (some ⟨b', o', none⟩) => if b = b' ∧ o = o' ∧ (P.info? te).isSome then some true else none
  | _, _, _ => none
theorem run_ptrEq {E : Env} {P : Program} {t : TypeId} {a a' b b' : Value} {r : Bool} (ha : VR E a a') (hb : VR E b b') (hs : ptrEq P t a b = some r) (w : World) (x y : Operand) :
    (∀ op, (eqGuard op t x y a' b').run P w = .ok () w) ∧ (binOp .eql t a' b').run P w = .ok (.bool r) w ∧ (binOp .neq t a' b').run P w = .ok (.bool !r) w := by
  unfold ptrEq at hs
  split at hs
  case h_2 => cases hs
  rename_i te b o b' o' hu
  split at hs
  case isFalse => cases hs
  rename_i hc
  obtain ⟨rfl, rfl, hi⟩ := hc
  cases hs
  obtain ⟨e, he, rfl⟩ := ha.ptr_inv
  obtain ⟨e', he', rfl⟩ := hb.ptr_inv
  rw [he] at he'; cases he'
  obtain ⟨j, hj⟩ := Option.isSome_iff_exists.1 hi
  exact ⟨fun op => by cases op <;> rfl, Go.run_eql_ptr_same w _ hu hj, Lib.run_neq_ptr_same w _ hu hj⟩
def convPtrS (P : Program) (H : CH) (s d : TypeId) (x : Value) : Option Value :=
  match x with
  | .pointer (some ⟨b, off, none⟩) => match P.underlying s, P.underlying d, H[b]? with
    | some (.pointer t), some .unsafePointer, some (.cells cs _ _ _) => match P.info? t with
      | some j => if j.size ≠ 0 ∧ off < cs.length then some (.pointer (some ⟨b, off, none⟩)) else none
      | none => none
    | some .unsafePointer, some (.pointer u), some (.cells cs e _ true) => match P.info? u with
      | some _ => if liesAt P P.depth e (cs.length / P.cellsOf e) off u 1 = true then some (.pointer (some ⟨b, off, none⟩)) else none
      | none => none
    | _, _, _ => none
  | _ => none
theorem shape_of {w : World} {b : Nat} {arr : Array Value} {t : TypeId} {fz : Nat × Nat} (h : w.heap[b]? = some (.cells arr t fz)) : w.shape? b = some (t, arr.size) := by
  simp [World.shape?, h]
theorem run_convPtrS {w0 : World} {G : Nat} {E : Env} {H : CH} {w : World} {P : Program} (h : WR w0 G E H w) {s d : TypeId} {x x' v : Value} (hx' : VR E x x') (hs : convPtrS P H s d x = some v) :
    (convert s d x').run P w = .ok x' w ∧ VR E v x' := by
  unfold convPtrS at hs
  split at hs
  case h_2 => cases hs
  rename_i b off
  obtain ⟨e, he, rfl⟩ := hx'.ptr_inv
  split at hs
  · rename_i t cs te s' ex hus hud hH
    cases hi : P.info? t with
    | none => rw [hi] at hs; cases hs
    | some j =>
      rw [hi] at hs
      dsimp only at hs
      split at hs
      case isFalse => cases hs
      rename_i hc
      cases hs
      obtain ⟨arr, fz, h1, _, _, h4, _⟩ := (h.obj b _ e hH he).there (.inl (fun h0 => by rw [h0] at hc; simp at hc))
      have hlt : e.sh + off < arr.size := by
        obtain ⟨x', hx1, _⟩ := h4 off _ (List.getElem?_eq_getElem (by omega))
        exact (Array.getElem?_eq_some_iff.1 hx1).1
      exact ⟨Lib.run_to_unsafe w _ hus hud hi hc.1 (shape_of h1) (by show off + e.sh < arr.size; omega), hx'⟩
  · rename_i u cs te s' hus hud hH
    cases hi : P.info? u with
    | none => rw [hi] at hs; cases hs
    | some j =>
      rw [hi] at hs
      dsimp only at hs
      split at hs
      case isFalse => cases hs
      rename_i hc
      cases hs
      obtain ⟨arr, fz, h1, _, _, _, h5⟩ := (h.obj b _ e hH he).there (.inr rfl)
      obtain ⟨hd0, hs0, h3⟩ := h5 rfl
      refine ⟨Lib.run_from_unsafe w _ hus hud hi (shape_of h1) ?_, hx'⟩
      show liesAt P P.depth te (arr.size / P.cellsOf te) (off + e.sh) u 1 = true
      rw [h3, hs0]
      simpa using hc
  · cases hs
def sliceDataS (x : Value) : Option Value :=
  match x with
  | .slice none _ _ => some (.pointer none)
  | .slice (some ⟨b, off, none⟩) _ c => if c = 0 then none else some (.pointer (some ⟨b, off, none⟩))
  | _ => none
theorem run_sliceDataS {E : Env} {P : Program} {ts : Array TypeId} {ty : TypeId} {x x' v : Value} (hx' : VR E x x') (hs : sliceDataS x = some v) (w : World) :
    ∃ v', (Builtin.unsafeSliceData_ ts ty #[x']).run P w = .ok v' w ∧ VR E v v' := by
  unfold sliceDataS at hs
  split at hs
  · cases hs
    cases hx' with
    | flat _ => exact ⟨_, rfl, .flat rfl⟩
  · rename_i b off n c
    split at hs
    · cases hs
    · rename_i hc
      cases hs
      obtain ⟨e, off', he, rfl, ho⟩ := hx'.slice_inv hc
      have ho' : off' = off + e.sh := by rcases ho with ho | ho; exact ho; omega
      subst ho'
      have hc' : c + e.dl ≠ 0 := by omega
      refine ⟨.pointer (some ⟨e.blk, off + e.sh, none⟩), ?_, .ptr he⟩
      exact Lib.run_unsafeSliceData_row w ts ty _ n _ hc'
  · cases hs
def bytesL : List Value → Nat → Option (List UInt8)
  | _, 0 => some []
  | .int .u8 v :: r, n + 1 => if 0 ≤ v ∧ v < 256 then (bytesL r n).map (v.toNat.toUInt8 :: ·) else none
  | _, _ => none
theorem bytesL_at : ∀ (cs : List Value) (n : Nat) (l : List UInt8), bytesL cs n = some l → l.length = n ∧ n ≤ cs.length ∧ ∀ (j : Nat) (x : UInt8), l[j]? = some x → cs[j]? = some (.int .u8 x.toNat)
  | cs, 0, l, h => by
    simp only [bytesL] at h
    cases h
    exact ⟨rfl, Nat.zero_le _, fun j x hx => by simp at hx⟩
  | [], n + 1, l, h => by simp [bytesL] at h
  | c :: r, n + 1, l, h => by
    unfold bytesL at h
    split at h
    · rename_i hh; cases hh
    · rename_i v r' n' hr hn
      cases hr; cases hn
      split at h
      case isFalse => cases h
      rename_i hv
      cases hb : bytesL r n with
      | none => rw [hb] at h; cases h
      | some l' =>
        rw [hb] at h
        cases h
        obtain ⟨h1, h2, h3⟩ := bytesL_at r n l' hb
        refine ⟨by simp [h1], by simp; omega, fun j x hx => ?_⟩
        cases j with
        | zero =>
          simp at hx
          subst hx
          have : ((v.toNat.toUInt8).toNat : Int) = v := by
            have : v.toNat < 256 := by omega
            rw [Nat.toUInt8, UInt8.toNat_ofNat_of_lt' this]
            omega
          show some (Value.int .u8 v) = some (.int .u8 ((v.toNat.toUInt8.toNat : Nat) : Int))
          rw [this]
        | succ j => simpa using h3 j x (by simpa using hx)
    · cases h
def unsafeStringS (P : Program) (G : Nat) (H : CH) (pt : TypeId) (p n : Value) : Option (Value × CH) :=
  match p, n with
  | .pointer (some ⟨b, off, none⟩), .int .i64 n => match P.underlying pt, H[b]? with
    | some (.pointer e), some (.cells cs e' _ _) => if e' = e ∧ P.cellsOf e = 1 ∧ G ≤ b ∧ 0 < n ∧ n ≤ 1048576 then
        match bytesL (cs.drop off) n.toNat with
        | some l => some (.string ⟨l.toArray⟩, H.set b .dead)
        | none => none
      else none
    | _, _ => none
  | .pointer none, .int .i64 0 => some (.string .empty, H)
  | _, _ => none
theorem liesAt_bytes_at {P : Program} {e : TypeId} (hc : P.cellsOf e = 1) (count off n : Nat) (hn : off + n ≤ count) : liesAt P P.depth e count off e n = true := by
  have hd : P.depth = (2 * (P.types.size + Made.depth) + 1) + 1 := rfl
  rw [hd]
  simp only [liesAt, Bool.or_eq_true]
  left
  rw [hd]
  simp [rowAt, hc, hn, sameLayout, Nat.mod_one]
theorem run_unsafeString_at {P : Program} {w : World} (pt it ty e : TypeId) (hp : P.underlying pt = some (.pointer e)) (hc : P.cellsOf e = 1) (g off cells : Nat) (hsh : w.shape? g = some (e, cells)) (l : List UInt8) (h0 : l ≠ []) (hn : off + l.length ≤ cells) (h63 : l.length ≤ 9223372036854775807)
    (hcell : ∀ j x, l[j]? = some x → w.cell? ((⟨g, off, none⟩ : Addr).add j) = some (.int .u8 x.toNat)) :
    (Builtin.unsafeString_ #[pt, it] ty #[.pointer (some ⟨g, off, none⟩), .int .i64 l.length]).run P w = .ok (.string ⟨l.toArray⟩) (w.freeze ⟨g, off, none⟩ l.length) := by
  have hl : l.length ≠ 0 := by simpa using h0
  have hlb := Lib.run_loadBytes (P := P) w l ⟨g, off, none⟩ .empty hcell
  have hlies := liesAt_bytes_at (P := P) hc (cells / P.cellsOf e) off l.length (by rw [hc]; simpa using hn)
  have h63' : ¬ (9223372036854775807 : Int) < (l.length : Int) := by omega
  have hdef : Builtin.unsafeString_ #[pt, it] ty #[.pointer (some ⟨g, off, none⟩), .int .i64 l.length] =
      (do
        let n ← asInt (.int .i64 l.length)
        if n < 0 then runtimePanic (.error "unsafe.String: len out of range")
        if n > IntKind.i64.max then unsupported (.unsafePointer "String: a length above the largest int")
        if n = 0 then pure (.string .empty)
        else if ← variablesAt ⟨g, off, none⟩ (← elemOf pt) n.toNat then do
          let s ← loadBytes ⟨g, off, none⟩ .empty n.toNat
          freeze ⟨g, off, none⟩ n.toNat
          pure (.string s)
        else unsupported (.unsafePointer "String: not so many bytes at ptr")) := rfl
  rw [hdef]
  have hmax : IntKind.i64.max = 9223372036854775807 := rfl
  have hneg : ¬ (l.length : Int) < 0 := by omega
  simp [asInt, asIntOf, hmax, h63', hneg, hl, variablesAt, hsh, elemOf, run_underlying hp, hlies, hlb]
theorem freeze_other (w : World) (a : Addr) (n k : Nat) (hk : k ≠ a.block) : (w.freeze a n).heap[k]? = w.heap[k]? := by
  unfold World.freeze
  split
  · rfl
  · simp [Array.getElem?_modify, Ne.symm hk]
theorem run_unsafeStringS {w0 : World} {G : Nat} {E : Env} {H H' : CH} {w : World} {P : Program} (h : WR w0 G E H w) {pt it ty : TypeId} {p p' n n' v : Value} (hp' : VR E p p') (hn' : VR E n n') (hs : unsafeStringS P G H pt p n = some (v, H')) :
    ∃ F v' w', (Builtin.unsafeString_ #[pt, it] ty #[p', n']).run P w = .ok v' w' ∧ VR (E ++ F) v v' ∧ WR w0 G (E ++ F) H' w' := by
  unfold unsafeStringS at hs
  split at hs
  · rename_i b off n
    cases hn'.int_inv
    obtain ⟨e, he, rfl⟩ := hp'.ptr_inv
    split at hs
    case h_2 => cases hs
    rename_i te cs te' s' ex hu hH
    split at hs
    case isFalse => cases hs
    rename_i hq
    obtain ⟨rfl, q2, q3, q4, q5⟩ := hq
    cases hb : bytesL (cs.drop off) n.toNat with
    | none => rw [hb] at hs; cases hs
    | some l =>
      rw [hb] at hs
      cases hs
      obtain ⟨l1, l2, l3⟩ := bytesL_at _ _ _ hb
      obtain ⟨arr, fz, h1, h2, h3, h4, h5⟩ := (h.obj b _ e hH he).full (by assumption)
      have hlen : (l.length : Int) = n := by omega
      rw [List.length_drop] at l2
      refine ⟨[], .string ⟨l.toArray⟩, w.freeze ⟨e.blk, off + e.sh, none⟩ l.length, ?_, .flat rfl, ?_⟩
      · have := run_unsafeString_at (P := P) (w := w) pt it ty te' hu q2 e.blk (off + e.sh) arr.size (shape_of h1) l (by intro hl; subst hl; simp at l1; omega) (by omega) (by omega) (fun j x hx => by
          have hc := l3 j x hx
          rw [List.getElem?_drop] at hc
          obtain ⟨x', hx1, hx2⟩ := h4 (off + j) _ hc
          cases hx2.int_inv
          rw [add_eq]
          unfold World.cell?
          simp only [h1]
          rw [show off + e.sh + j = e.sh + (off + j) from by omega]
          exact hx1)
        rw [hlen] at this
        exact this
      · have hl0 : l.length ≠ 0 := by omega
        simp only [List.append_nil]
        refine h.upd hH he rfl q3 ?_ ?_ ?_ ?_ ?_ trivial
        · unfold World.freeze; split <;> rfl
        · unfold World.freeze; split <;> rfl
        · unfold World.freeze; split <;> rfl
        · unfold World.freeze; split
          · rfl
          · simp
        · intro k hk; exact freeze_other w _ _ k hk
  · cases hs
    cases hn'.int_inv
    cases hp' with
    | flat _ => exact ⟨[], .string .empty, w, Lib.run_unsafeString_none w _ _ _ _, .flat rfl, by simpa using h⟩
  · cases hs
def strBytesS (P : Program) (H : CH) (s d : TypeId) (x : Value) : Option (Value × CH) :=
  match x with
  | .string b => match P.underlying s, P.underlying d with
    | some .string, some (.slice e) => match P.underlying e with
      | some (.int .u8) => some (.slice (some ⟨H.length, 0, none⟩) b.size b.size, H.push (.cells (b.data.toList.map fun c => .int .u8 c.toNat) e 1 false))
      | _ => none
    | _, _ => none
  | _ => none
theorem bytesWorld_eq (w : World) (e : TypeId) (s : ByteArray) : Lib.bytesWorld w e s = { w.drew with heap := w.heap.push (.cells (Lib.bytesCells w e s) e ((Lib.bytesCells w e s).size, (Lib.bytesCells w e s).size + 1)) } := by
  unfold Lib.bytesWorld World.freeze
  rw [if_neg (by decide)]
  simp only [World.alloc, World.drew]
  congr 1
  apply Array.ext
  · simp
  · intro i h1 h2
    rw [Array.getElem_modify]
    by_cases hi : w.heap.size = i
    · subst hi; simp
    · rw [if_neg hi]
      have : i < w.heap.size := by simp at h2; omega
      simp [Array.getElem_push, this]
theorem run_strBytesS {w0 : World} {G : Nat} {E : Env} {H H' : CH} {w : World} {P : Program} (h : WR w0 G E H w) {s d : TypeId} {x x' v : Value} (hx' : VR E x x') (hs : strBytesS P H s d x = some (v, H')) :
    ∃ F v' w', (convert s d x').run P w = .ok v' w' ∧ VR (E ++ F) v v' ∧ WR w0 G (E ++ F) H' w' := by
  unfold strBytesS at hs
  split at hs
  case h_2 => cases hs
  rename_i b
  split at hs
  case h_2 => cases hs
  rename_i e hus hud
  split at hs
  case h_2 => cases hs
  rename_i hue
  cases hs
  cases hx' with
  | flat _ =>
    have hr := Lib.run_convert_string_bytes (P := P) w s d e b hus hud hue
    have hcap : grownCap w b.size 0 e = b.size + (grownCap w b.size 0 e - b.size) := by
      have : b.size ≤ grownCap w b.size 0 e := by
        show b.size ≤ b.size + _
        omega
      omega
    generalize grownCap w b.size 0 e - b.size = dl at hcap
    rw [hcap] at hr
    have hbc : Lib.bytesCells w e b = (b.data.map fun c => Value.int .u8 c.toNat) ++ Array.replicate dl (.int .u8 0) := by
      unfold Lib.bytesCells
      rw [hcap, Nat.add_sub_cancel_left]
    have hsz : (Lib.bytesCells w e b).size = b.size + dl := by rw [hbc]; simp
    refine ⟨[⟨w.heap.size, 0, dl⟩], _, _, hr, VR.newSlice h ⟨w.heap.size, 0, dl⟩ b.size b.size 0 rfl, ?_⟩
    rw [bytesWorld_eq]
    refine (h.draws (w.drawn + 1)).push (.cells (b.data.toList.map fun c => .int .u8 c.toNat) e 1 false) (.cells (Lib.bytesCells w e b) e ((Lib.bytesCells w e b).size, (Lib.bytesCells w e b).size + 1)) ⟨w.heap.size, 0, dl⟩ rfl ?_
    refine ⟨Lib.bytesCells w e b, _, heap_alloc_new _ _, .inr (Nat.le_refl _), ?_, fun i x hx => ?_, fun hh => by cases hh⟩
    · rw [hsz]; simp
    · rw [← Array.toList_map, Array.getElem?_toList] at hx
      refine ⟨x, ?_, ?_⟩
      · show (Lib.bytesCells w e b)[0 + i]? = some x
        rw [Nat.zero_add, hbc, Array.getElem?_append_left (Array.getElem?_eq_some_iff.1 hx).1]
        exact hx
      · rw [Array.getElem?_map] at hx
        cases hg : b.data[i]? with
        | none => rw [hg] at hx; cases hx
        | some c => rw [hg] at hx; cases hx; exact .flat rfl
def markS (P : Program) (G : Nat) (H : CH) (s d : TypeId) (x : Value) : Option (Value × CH) :=
  match x with
  | .slice (some ⟨b, off, none⟩) l c => match P.underlying s, P.underlying d, H[b]? with
    | some (.slice _), some (.slice e), some (.cells _ _ _ _) => match P.underlying e with
      | some (.int .u8) => if s = d ∧ G ≤ b ∧ c ≠ 0 then some (.slice (some ⟨b, off, none⟩) l c, H) else none
      | _ => none
    | _, _, _ => none
  | _ => none
theorem WR.same {w0 : World} {G : Nat} {E : Env} {H H' : CH} {w : World} (h : WR w0 G E H w) (hl : H'.length = H.length) (hg : ∀ c : Nat, H'[c]? = H[c]?) : WR w0 G E H' w :=
  ⟨h.len.trans hl.symm, h.glen, h.below, fun b o e hb he => h.obj b o e (by rw [← hg]; exact hb) he, fun b b' o o' e e' hGG hb hb' he he' => h.inj b b' o o' e e' hGG (by rw [← hg]; exact hb) (by rw [← hg]; exact hb') he he',
    fun b o e hb he => h.new b o e (by rw [← hg]; exact hb) he, h.old⟩
theorem run_markS {w0 : World} {G : Nat} {E : Env} {H H' : CH} {w : World} {P : Program} (h : WR w0 G E H w) {s d : TypeId} {x x' v : Value} (hx' : VR E x x') (hs : markS P G H s d x = some (v, H')) :
    ∃ F v' w', (convert s d x').run P w = .ok v' w' ∧ VR (E ++ F) v v' ∧ WR w0 G (E ++ F) H' w' := by
  unfold markS at hs
  split at hs
  case h_2 => cases hs
  rename_i b off l c
  split at hs
  case h_2 => cases hs
  rename_i e0 e cs t sz ex hus hud hH
  split at hs
  case h_2 => cases hs
  rename_i hue
  split at hs
  case isFalse => cases hs
  rename_i hc
  obtain ⟨rfl, hG, hc0⟩ := hc
  cases hs
  rw [hus] at hud
  cases hud
  obtain ⟨en, off', he, rfl, ho⟩ := hx'.slice_inv hc0
  obtain ⟨arr, fz, h1, h2, h3, h4, h5⟩ := (h.obj b _ en hH he).full hG
  have hsh := shape_of h1
  refine ⟨[], _, w.freeze ⟨en.blk, arr.size, none⟩ 1, ?_, by rw [List.append_nil]; exact hx', ?_⟩
  · simp only [convert, Sem.run_bind, run_underlying' hus, Result.andThen_ok]
    simp [markStringish, hsh, run_underlying' hue, Result.andThen]
  · rw [List.append_nil]
    have hfr : (w.freeze ⟨en.blk, arr.size, none⟩ 1).heap[en.blk]? = some (.cells arr t (if fz.1 == fz.2 then (arr.size, arr.size + 1) else (min fz.1 arr.size, max fz.2 (arr.size + 1)))) := by
      unfold World.freeze
      rw [if_neg (by decide)]
      obtain ⟨lo, hi⟩ := fz
      simp [Array.getElem?_modify, h1]
    have := h.upd (o' := .cells cs t sz ex) (w' := w.freeze ⟨en.blk, arr.size, none⟩ 1) hH he rfl hG (by unfold World.freeze; split <;> rfl) (by unfold World.freeze; split <;> rfl) (by unfold World.freeze; split <;> rfl)
      (by unfold World.freeze; split <;> simp) (fun k hk => freeze_other w _ _ k hk) ⟨arr, _, hfr, .inr ?_, h3, h4, h5⟩
    · refine this.same rfl fun c => ?_
      rw [Hp.get_set]
      by_cases hbc : b = c
      · subst hbc; rw [if_pos rfl, if_pos (Hp.lt hH), hH]
      · rw [if_neg hbc]
    · split
      · exact Nat.le_refl _
      · rename_i hne
        rcases h2 with rfl | h2
        · simp at hne
        · show arr.size ≤ min fz.1 arr.size
          omega
def intsU8 : List Value → Option (List Int)
  | [] => some []
  | .int .u8 n :: r => (intsU8 r).map (n :: ·)
  | _ => none
theorem intsU8_eq : ∀ (xs : List Value) (ns : List Int), intsU8 xs = some ns → xs = ns.map (Value.int .u8)
  | [], ns, h => by cases h; rfl
  | x :: r, ns, h => by
    unfold intsU8 at h
    split at h
    · rename_i hh; cases hh
    · rename_i n r' hh
      cases hh
      cases hr : intsU8 r with
      | none => rw [hr] at h; cases h
      | some ms =>
        rw [hr] at h
        cases h
        rw [intsU8_eq r ms hr]; rfl
    · cases h
def strOfS (P : Program) (H : CH) (s d : TypeId) (x : Value) : Option Value :=
  match x with
  | .slice (some ⟨b, off, none⟩) n c => match P.underlying s, P.underlying d with
    | some (.slice e), some .string => match P.underlying e with
      | some (.int .u8) => match firstS H 1 n (.slice (some ⟨b, off, none⟩) n c) with
        | some xs => (intsU8 xs).map fun ns => .string (ns.foldl (fun r n => r.push (UInt8.ofNat n.toNat)) ByteArray.empty)
        | none => none
      | _ => none
    | _, _ => none
  | _ => none
theorem run_strOfS {w0 : World} {G : Nat} {E : Env} {H : CH} {w : World} {P : Program} (h : WR w0 G E H w) {s d : TypeId} {x x' v : Value} (hx' : VR E x x') (hs : strOfS P H s d x = some v) :
    ∃ v', (convert s d x').run P w = .ok v' w ∧ VR E v v' := by
  unfold strOfS at hs
  split at hs
  case h_2 => cases hs
  rename_i b off n c
  split at hs
  case h_2 => cases hs
  rename_i e hus hud
  split at hs
  case h_2 => cases hs
  rename_i hue
  split at hs
  case h_2 => cases hs
  rename_i xs hf
  obtain ⟨ns, hns, rfl⟩ := map_some' hs
  obtain ⟨ys, h1, h2⟩ := run_firstS P h hx' hf
  have hxs := intsU8_eq xs ns hns
  have hys : ys = xs.toArray := eq_of_VRs h2.size fun i y y' p q => by
    have hr := h2.at_ i y y' p q
    rw [hxs] at p
    have p' : (ns.map (Value.int .u8))[i]? = some y := by simpa using p
    rw [List.getElem?_map] at p'
    cases hn : ns[i]? with
    | none => rw [hn] at p'; cases p'
    | some m => rw [hn] at p'; cases p'; exact hr.int_inv
  rw [hys, hxs] at h1
  rcases hx'.slice_inv' with ⟨rfl, rfl, ⟨a0, rfl⟩, _⟩ | ⟨en, off', he, rfl, ho⟩
  · have hn0 : ns = [] := by
      have hz : (Builtin.firstCells 1 0 (.slice a0 0 0)).run P w = .ok #[] w := by cases a0 <;> first | rfl | simp [Builtin.firstCells, loadCells, loadCellsFrom]
      have h1' : Result.ok (#[] : Array Value) w = .ok (ns.map (Value.int .u8)).toArray w := hz.symm.trans h1
      injection h1' with h1' _
      cases ns with
      | nil => rfl
      | cons n r => simp at h1'
    subst hn0
    refine ⟨_, ?_, .flat rfl⟩
    rw [run_convert_bytes_string w s d e a0 0 0 hus hue hud]
    cases a0 with
    | none =>
      simp only [Conv.bytesToString, List.foldl_nil]
      rfl
    | some a => exact run_bytesToString w a 0 _ [] (by simp [loadCells, loadCellsFrom])
  have h1' : (loadCells ⟨en.blk, off', none⟩ (n * 1)).run P w = .ok (ns.map (Value.int .u8)).toArray w := h1
  rw [Nat.mul_one] at h1'
  exact ⟨_, by rw [run_convert_bytes_string w s d e _ _ _ hus hue hud]; exact run_bytesToString w _ n _ ns h1', .flat rfl⟩
theorem find_noEscape {fn : Func} (h : fn.name = "internal/abi.NoEscape") (ho : fn.origin = "") : Extern.findNext fn = none ∧ Extern.find fn = some Extern.AbiNoEscape.same := by
  have h1 : Extern.allNextRows.lookup "internal/abi.NoEscape" = none := by rfl
  have h2 : Extern.allNextRows.lookup "" = none := by rfl
  have h3 : Extern.allGenericRows.lookup "internal/abi.NoEscape" = none := by rfl
  have h4 : Extern.allTypedRows.lookup "internal/abi.NoEscape" = none := by rfl
  have h5 : Extern.allRows.lookup "internal/abi.NoEscape" = some Extern.AbiNoEscape.same := by rfl
  simp [Extern.findNext, Extern.find, h, ho, h1, h2, h3, h4, h5]
end Go.Ex
