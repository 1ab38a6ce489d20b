/- Part of the proof. -/
import Derived.Test.YteemponkignnhaaGreatEngOpsB
noncomputable section
namespace Go.Ex
open Go.RowKit
theorem run_getObj' {P : Program} {w : World} {r : Nat} {o : Obj} (h : w.heap[r]? = some o) (hc : ∀ c e f, o ≠ .cells c e f) : (getObj r).run P w = .ok o w := by
  simp only [getObj, Sem.run, h]
  try (cases o <;> first | rfl | (exact absurd rfl (hc _ _ _)))
theorem run_setObj' {P : Program} {w : World} {r : Nat} {o o' : Obj} (h : w.heap[r]? = some o) (hc : ∀ c e f, o ≠ .cells c e f) : (setObj r o').run P w = .ok () { w with heap := w.heap.setIfInBounds r o' } := by
  simp only [setObj, Sem.run, h]
  try (cases o <;> first | rfl | (exact absurd rfl (hc _ _ _)))
theorem WR.setObj {w0 : World} {G : Nat} {E : Env} {H : CH} {w : World} (h : WR w0 G E H w) {b : Nat} {o o' : CO} {e : En} {ob : Obj} (hb : H[b]? = some o) (he : E[b]? = some e) (ha : o.alive = true) (hG : G ≤ b)
    (hn : OR E e { w with heap := w.heap.setIfInBounds e.blk ob } o') : WR w0 G E (H.set b o') { w with heap := w.heap.setIfInBounds e.blk ob } :=
  h.upd hb he ha hG rfl rfl rfl (by simp) (fun k hk => by
    show (w.heap.setIfInBounds e.blk ob)[k]? = _
    rw [Array.getElem?_setIfInBounds_ne (fun x => hk x.symm)]) hn
theorem heap_set_same {w : World} {k : Nat} {ob : Obj} (hk : k < w.heap.size) : ({ w with heap := w.heap.setIfInBounds k ob } : World).heap[k]? = some ob := by
  show (w.heap.setIfInBounds k ob)[k]? = _
  rw [Array.getElem?_setIfInBounds_self_of_lt hk]
def rangeS (P : Program) (H : CH) (t : TypeId) (v : Value) : Option (Value × CH) :=
  match P.underlying t, v with
  | some .string, .string s => some (.pointer (some ⟨H.length, 0, none⟩), H.push (.iter s 0))
  | _, _ => none
theorem run_rangeS {w0 : World} {G : Nat} {E : Env} {H H' : CH} {w : World} {P : Program} (h : WR w0 G E H w) {t : TypeId} {x x' v : Value} (hx : VR E x x') (hs : rangeS P H t x = some (v, H')) :
    ∃ F v' w', (Instr.range t x').run P w = .ok v' w' ∧ VR (E ++ F) v v' ∧ WR w0 G (E ++ F) H' w' := by
  unfold rangeS at hs
  split at hs
  case h_2 => cases hs
  rename_i s hu
  cases hs
  cases hx with
  | flat _ =>
    refine ⟨[⟨w.heap.size, 0, 0⟩], .pointer (some ⟨w.heap.size, 0, none⟩), w.alloc (.stringIter s 0), ?_, VR.new h _ rfl, h.push _ _ _ rfl ⟨heap_alloc_new w _, rfl⟩⟩
    simp only [Instr.range, Sem.run_bind, run_underlying' hu, Result.andThen_ok, Sem.run_pure]
    rfl
def nextS (G : Nat) (H : CH) (v : Value) : Option (Value × CH) :=
  match v with
  | .pointer (some ⟨b, 0, none⟩) => if G ≤ b then match H[b]? with
    | some (.iter s pos) => if pos < s.size then
        some (.tuple #[.bool true, goInt pos, .int .i32 (Utf8.decode s pos).1], H.set b (.iter s (pos + (Utf8.decode s pos).2)))
      else some (.tuple #[.bool false], H)
    | _ => none
    else none
  | _ => none
theorem VR.tuple_flat {E : Env} {a : Array Value} (h : cleans a = true) : VR E (.tuple a) (.tuple a) := .tuple rfl (VRs.of_cleans E h).at_
theorem run_nextS {w0 : World} {G : Nat} {E : Env} {H H' : CH} {w : World} {P : Program} (h : WR w0 G E H w) {ty : TypeId} {x x' v : Value} (hx : VR E x x') (hs : nextS G H x = some (v, H')) :
    ∃ F v' w', (Instr.next x' true ty).run P w = .ok v' w' ∧ VR (E ++ F) v v' ∧ WR w0 G (E ++ F) H' w' := by
  unfold nextS at hs
  split at hs
  case h_2 => cases hs
  rename_i b
  obtain ⟨e, he, rfl⟩ := hx.ptr_inv
  split at hs
  case isFalse => cases hs
  rename_i hG
  split at hs
  case h_2 => cases hs
  rename_i s pos hH
  obtain ⟨ho, hsh⟩ : w.heap[e.blk]? = some (.stringIter s pos) ∧ e.sh = 0 := h.obj b _ e hH he
  have hne : ∀ c f g, Obj.stringIter s pos ≠ .cells c f g := fun _ _ _ x => by cases x
  have hlt := lt_of_heap ho
  rw [hsh]
  have hg := run_getObj' (P := P) ho hne
  split at hs
  · rename_i hp
    cases hs
    refine ⟨[], .tuple #[.bool true, goInt pos, .int .i32 (Utf8.decode s pos).1], { w with heap := w.heap.setIfInBounds e.blk (.stringIter s (pos + (Utf8.decode s pos).2)) }, ?_, VR.tuple_flat rfl, ?_⟩
    · simp only [Instr.next, Sem.run_bind, hg, Result.andThen_ok]
      rw [if_pos hp]
      simp only [Sem.run_bind, run_setObj' (P := P) ho hne, Result.andThen_ok, Sem.run_pure]
    · rw [List.append_nil]
      exact h.setObj hH he rfl hG ⟨heap_set_same hlt, hsh⟩
  · rename_i hp
    cases hs
    refine ⟨[], .tuple #[.bool false], w, ?_, VR.tuple_flat rfl, by simpa using h⟩
    simp only [Instr.next, Sem.run_bind, hg, Result.andThen_ok]
    rw [if_neg hp]
    rfl
def makeMapS (H : CH) (r : Option Value) : Option (Value × CH) :=
  match r with
  | none => some (.map (some H.length), H.push (.map [] 0))
  | some _ => none
theorem run_makeMapS {w0 : World} {G : Nat} {E : Env} {H H' : CH} {w : World} {P : Program} (h : WR w0 G E H w) {t : TypeId} {v : Value} (hs : makeMapS H none = some (v, H')) :
    ∃ F v' w', (Instr.makeMap t none).run P w = .ok v' w' ∧ VR (E ++ F) v v' ∧ WR w0 G (E ++ F) H' w' := by
  cases hs
  refine ⟨[⟨w.heap.size, 0, 0⟩], .map (some w.heap.size), w.alloc (.map #[] 0), rfl, ?_, h.push _ _ _ rfl ⟨#[], heap_alloc_new w _, rfl, fun i m hm => by simp at hm⟩⟩
  exact VR.map (E := E ++ [⟨w.heap.size, 0, 0⟩]) (r := H.length) (e := ⟨w.heap.size, 0, 0⟩) (by rw [← h.len]; exact Env.last E _)
theorem findNow_rel {E : Env} (kd : TypeDesc) (k : Value) : ∀ (es es' : List MapEntry) (i : Nat) (r : Option (Nat × Value)), es.length = es'.length → (∀ (j : Nat) (m m' : MapEntry), es[j]? = some m → es'[j]? = some m' → ER E m m') →
    Instr.findNow kd k es i = some r → ∃ r', Instr.findNow kd k es' i = some r' ∧ (r = none → r' = none) ∧ ∀ j v, r = some (j, v) → ∃ v', r' = some (j, v') ∧ VR E v v'
  | [], [], i, r, _, _, h => by
    simp only [Instr.findNow] at h
    cases h
    exact ⟨none, rfl, (fun _ => rfl), (fun _ _ h => by cases h)⟩
  | [], _ :: _, _, _, hl, _, _ => by simp at hl
  | _ :: _, [], _, _, hl, _, _ => by simp at hl
  | m :: es, m' :: es', i, r, hl, he, h => by
    have hm := he 0 m m' rfl rfl
    simp only [Instr.findNow] at h ⊢
    rw [hm.key]
    cases hq : Instr.sameNow kd k m.key with
    | none => rw [hq] at h; cases h
    | some b =>
      rw [hq] at h
      cases b with
      | true =>
        cases h
        exact ⟨_, rfl, (fun h => by cases h), (fun j v h => by cases h; exact ⟨_, rfl, hm.val⟩)⟩
      | false => exact findNow_rel kd k es es' (i + 1) r (by simpa using hl) (fun j x x' a b => he (j + 1) x x' a b) h
def mapKeyS (P : Program) (kt : TypeId) (empty : Bool) (k : Value) : Option TypeDesc :=
  if clean 6 k && (evalPure P (Instr.checkKey empty 10000 kt k)).isSome then P.underlying kt else none
theorem mapKeyS_spec {P : Program} {kt : TypeId} {em : Bool} {k : Value} {d : TypeDesc} (h : mapKeyS P kt em k = some d) : clean 6 k = true ∧ (∀ w, (Instr.checkKey em 10000 kt k).run P w = .ok () w) ∧ P.underlying kt = some d := by
  unfold mapKeyS at h
  split at h
  case isFalse => cases h
  rename_i hc
  rw [Bool.and_eq_true] at hc
  obtain ⟨u, hu⟩ := Option.isSome_iff_exists.1 hc.2
  exact ⟨hc.1, fun w => evalPure_run w hu, h⟩
def lookupS (P : Program) (H : CH) (t : TypeId) (m k : Value) (ok : Bool) : Option Value :=
  match P.underlying t, m with
  | some (.map kt et), .map (some b) => match H[b]? with
    | some (.map es _) => match mapKeyS P kt es.isEmpty k with
      | some d => match Instr.findNow d k es 0 with
        | some (some (_, v)) => some (if ok then .tuple #[v, .bool true] else v)
        | some none => match P.info? et with
          | some i => match i.zero with
            | some z => if clean 6 z then some (if ok then .tuple #[z, .bool false] else z) else none
            | none => none
          | none => none
        | none => none
      | none => none
    | _ => none
  | _, _ => none
theorem VR.map_inv {E : Env} {r : Nat} {v' : Value} (h : VR E (.map (some r)) v') : ∃ e, E[r]? = some e ∧ v' = .map (some e.blk) := by
  cases h with
  | flat h => cases h
  | map h => exact ⟨_, h, rfl⟩
theorem VR.tuple2 {E : Env} {a a' b b' : Value} (h : VR E a a') (k : VR E b b') : VR E (.tuple #[a, b]) (.tuple #[a', b']) := by
  have := (VRs.one h).append (VRs.one k)
  exact .tuple this.size this.at_
theorem run_lookupS {w0 : World} {G : Nat} {E : Env} {H : CH} {w : World} {P : Program} (h : WR w0 G E H w) {t : TypeId} {m m' k k' v : Value} {ok : Bool} (hm : VR E m m') (hk : VR E k k') (hs : lookupS P H t m k ok = some v) :
    ∃ v', (Instr.lookup t m' k' ok).run P w = .ok v' w ∧ VR E v v' := by
  unfold lookupS at hs
  split at hs
  case h_2 => cases hs
  rename_i kt et b hu
  obtain ⟨e, he, rfl⟩ := hm.map_inv
  split at hs
  case h_2 => cases hs
  rename_i es clock hH
  obtain ⟨es', ho, hsz, hes⟩ := h.obj b _ e hH he
  cases hd : mapKeyS P kt es.isEmpty k with
  | none => rw [hd] at hs; cases hs
  | some d =>
    rw [hd] at hs
    obtain ⟨hcl, hck, hkt⟩ := mapKeyS_spec hd
    cases hk.eq_of_clean 6 hcl
    dsimp only at hs
    have hemp : es'.isEmpty = es.isEmpty := by
      rw [Bool.eq_iff_iff]; simp only [Array.isEmpty_iff_size_eq_zero, List.isEmpty_iff_length_eq_zero]; omega
    have hrel : ∀ (j : Nat) (x x' : MapEntry), es[j]? = some x → es'.toList[j]? = some x' → ER E x x' := fun j x x' a c => by
      obtain ⟨y, hy1, hy2⟩ := hes j x a
      rw [show es'.toList[j]? = es'[j]? from by simp, hy1] at c
      cases c; exact hy2
    have hg := run_getObj' (P := P) ho (fun _ _ _ x => by cases x)
    cases hf : Instr.findNow d k es 0 with
    | none => rw [hf] at hs; cases hs
    | some r =>
      rw [hf] at hs
      obtain ⟨r', hr1, hr2, hr3⟩ := findNow_rel d k es es'.toList 0 r (by simpa using hsz) hrel hf
      cases r with
      | none =>
        dsimp only at hs
        cases hr2 rfl
        cases hi : P.info? et with
        | none => rw [hi] at hs; cases hs
        | some i =>
          rw [hi] at hs
          dsimp only at hs
          cases hz : i.zero with
          | none => rw [hz] at hs; cases hs
          | some z =>
            rw [hz] at hs
            dsimp only at hs
            split at hs
            case isFalse => cases hs
            rename_i hcz
            cases hs
            refine ⟨if ok = true then .tuple #[z, .bool false] else z, ?_, ?_⟩
            · simp only [Instr.lookup, Sem.run_bind, run_underlying' hu, Result.andThen_ok, hg, Sem.run_pure, hemp, hck, Instr.findKey, run_underlying' hkt, hr1, run_zeroValue' hi hz]
            · cases ok
              · exact VR.of_clean E 6 z hcz
              · exact VR.tuple2 (VR.of_clean E 6 z hcz) (.flat rfl)
      | some jv =>
        obtain ⟨j, u⟩ := jv
        dsimp only at hs
        cases hs
        obtain ⟨u', rfl, hu'⟩ := hr3 j u rfl
        refine ⟨if ok = true then .tuple #[u', .bool true] else u', ?_, ?_⟩
        · simp only [Instr.lookup, Sem.run_bind, run_underlying' hu, Result.andThen_ok, hg, Sem.run_pure, hemp, hck, Instr.findKey, run_underlying' hkt, hr1]
        · cases ok
          · exact hu'
          · exact VR.tuple2 hu' (.flat rfl)
def mapUpdateS (P : Program) (G : Nat) (H : CH) (t : TypeId) (m k v : Value) : Option CH :=
  match P.underlying t, m with
  | some (.map kt _), .map (some b) => if G ≤ b then match H[b]? with
    | some (.map es clock) => match mapKeyS P kt false k with
      | some d => match Instr.findNow d k es 0 with
        | some none => some (H.set b (.map (es ++ [{ key := k, val := v, born := clock }]) (clock + 1)))
        | some (some (i, _)) => match es[i]? with
          | some m0 => if Instr.sameBits 10000 m0.key k then some (H.set b (.map (es.set i { m0 with key := k, val := v }) clock)) else none
          | none => none
        | none => none
      | none => none
    | _ => none
    else none
  | _, _ => none
theorem run_mapUpdateS {w0 : World} {G : Nat} {E : Env} {H H' : CH} {w : World} {P : Program} (h : WR w0 G E H w) {t : TypeId} {m m' k k' v v' : Value} (hm : VR E m m') (hk : VR E k k') (hv : VR E v v') (hs : mapUpdateS P G H t m k v = some H') :
    ∃ w', (Instr.mapUpdate t m' k' v').run P w = .ok () w' ∧ WR w0 G E H' w' := by
  unfold mapUpdateS at hs
  split at hs
  case h_2 => cases hs
  rename_i kt et b hu
  obtain ⟨e, he, rfl⟩ := hm.map_inv
  split at hs
  case isFalse => cases hs
  rename_i hG
  split at hs
  case h_2 => cases hs
  rename_i es clock hH
  obtain ⟨es', ho, hsz, hes⟩ := h.obj b _ e hH he
  have hlt := lt_of_heap ho
  have hne : ∀ c f g, Obj.map es' clock ≠ .cells c f g := fun _ _ _ x => by cases x
  cases hd : mapKeyS P kt false k with
  | none => rw [hd] at hs; cases hs
  | some d =>
    rw [hd] at hs
    obtain ⟨hcl, hck, hkt⟩ := mapKeyS_spec hd
    cases hk.eq_of_clean 6 hcl
    dsimp only at hs
    have hrel : ∀ (j : Nat) (x x' : MapEntry), es[j]? = some x → es'.toList[j]? = some x' → ER E x x' := fun j x x' a c => by
      obtain ⟨y, hy1, hy2⟩ := hes j x a
      rw [show es'.toList[j]? = es'[j]? from by simp, hy1] at c
      cases c; exact hy2
    have hg := run_getObj' (P := P) ho hne
    cases hf : Instr.findNow d k es 0 with
    | none => rw [hf] at hs; cases hs
    | some r =>
      rw [hf] at hs
      obtain ⟨r', hr1, hr2, hr3⟩ := findNow_rel d k es es'.toList 0 r (by simpa using hsz) hrel hf
      cases r with
      | none =>
        cases hr2 rfl
        cases hs
        refine ⟨{ w with heap := w.heap.setIfInBounds e.blk (.map (es'.push { key := k, val := v', born := clock }) (clock + 1)) }, ?_, ?_⟩
        · simp only [Instr.mapUpdate, Sem.run_bind, run_underlying' hu, Result.andThen_ok, hg, hck, Instr.findKey, run_underlying' hkt, hr1, Sem.run_pure, run_setObj' (P := P) ho hne]
        · refine h.setObj hH he rfl hG ⟨_, heap_set_same hlt, by simp [hsz], fun i x hx => ?_⟩
          rcases getElem?_snoc_some hx with hx | ⟨rfl, rfl⟩
          · obtain ⟨y, hy1, hy2⟩ := hes i x hx
            refine ⟨y, ?_, hy2⟩
            have hl := (Array.getElem?_eq_some_iff.1 hy1).1
            rw [Array.getElem?_push, if_neg (by omega)]
            exact hy1
          · exact ⟨{ key := k, val := v', born := clock }, by rw [hsz]; simp, ⟨rfl, hv, rfl⟩⟩
      | some jv =>
        obtain ⟨j, u⟩ := jv
        dsimp only at hs
        obtain ⟨u', rfl, hu'⟩ := hr3 j u rfl
        cases hj : es[j]? with
        | none => rw [hj] at hs; cases hs
        | some m0 =>
          rw [hj] at hs
          dsimp only at hs
          split at hs
          case isFalse => cases hs
          rename_i hsb
          cases hs
          obtain ⟨m1, hm1, hm2⟩ := hes j m0 hj
          refine ⟨{ w with heap := w.heap.setIfInBounds e.blk (.map (es'.modify j fun x => { x with key := k, val := v' }) clock) }, ?_, ?_⟩
          · simp only [Instr.mapUpdate, Sem.run_bind, run_underlying' hu, Result.andThen_ok, hg, hck, Instr.findKey, run_underlying' hkt, hr1, Sem.run_pure, hm1, Option.map_some, Option.getD_some, Instr.keyThatStays, hm2.key, hsb, if_true, run_setObj' (P := P) ho hne]
          · refine h.setObj hH he rfl hG ⟨_, heap_set_same hlt, by simp [hsz], fun i x hx => ?_⟩
            rw [List.getElem?_set] at hx
            by_cases hij : j = i
            · subst hij
              rw [if_pos rfl, if_pos (List.getElem?_eq_some_iff.1 hj).1] at hx
              cases hx
              exact ⟨{ m1 with key := k, val := v' }, by rw [Array.getElem?_modify, if_pos rfl, hm1]; rfl, ⟨rfl, hv, hm2.born⟩⟩
            · rw [if_neg hij] at hx
              obtain ⟨y, hy1, hy2⟩ := hes i x hx
              exact ⟨y, by rw [Array.getElem?_modify, if_neg hij]; exact hy1, hy2⟩
end Go.Ex
