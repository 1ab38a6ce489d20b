/- Part of the proof. -/
import Derived.Test.YteemponkignnhaaGreatEngMap
noncomputable section
namespace Go.Ex
open Go.RowKit
def keysI (es : List MapEntry) : Bool := es.all fun m => match m.key with
  | .int .i64 _ => true
  | _ => false
def valsB (es : List MapEntry) : Bool := es.all fun m => match m.val with
  | .bool _ => true
  | _ => false
def valsI (es : List MapEntry) : Bool := es.all fun m => match m.val with
  | .int .i64 _ => true
  | _ => false
def keyI (m : MapEntry) : Int := match m.key with
  | .int _ a => a
  | _ => 0
def findI (k : Int) : List MapEntry → Nat → Option (Nat × Value)
  | [], _ => none
  | e :: es, i => if k = keyI e then some (i, e.val) else findI k es (i + 1)
theorem findNow_int {kd : IntKind} {k : Int} : ∀ (es : List MapEntry) (i : Nat), keysI es = true → Instr.findNow (.int kd) (.int .i64 k) es i = some (findI k es i)
  | [], _, _ => rfl
  | e :: es, i, h => by
    have h' : ((match e.key with
      | .int .i64 _ => true
      | _ => false) && keysI es) = true := h
    rw [Bool.and_eq_true] at h'
    obtain ⟨h1, h2⟩ := h'
    have ih := findNow_int (kd := kd) (k := k) es (i + 1) h2
    obtain ⟨key, val, born⟩ := e
    dsimp only at h1
    split at h1
    · rename_i a
      have e1 : Instr.sameNow (.int kd) (.int .i64 k) (.int .i64 a) = some (k == a) := rfl
      show (match Instr.sameNow (.int kd) (.int .i64 k) (.int .i64 a) with
        | some true => some (some (i, val))
        | some false => Instr.findNow (.int kd) (.int .i64 k) es (i + 1)
        | none => none) = some (if k = a then some (i, val) else findI k es (i + 1))
      rw [e1]
      by_cases hk : k = a
      · rw [if_pos hk, hk, beq_self_eq_true]
      · rw [if_neg hk, show (k == a) = false from by simpa using hk]
        exact ih
    · cases h1
theorem findI_val {k : Int} : ∀ (es : List MapEntry) (i : Nat) (r : Nat × Value), findI k es i = some r → ∃ m, es[r.1 - i]? = some m ∧ i ≤ r.1 ∧ m.val = r.2 ∧ keyI m = k
  | [], _, _, h => by cases h
  | e :: es, i, r, h => by
    have h' : (if k = keyI e then some (i, e.val) else findI k es (i + 1)) = some r := h
    by_cases hk : k = keyI e
    · rw [if_pos hk] at h'
      cases h'
      exact ⟨e, by rw [Nat.sub_self]; rfl, Nat.le_refl _, rfl, hk.symm⟩
    · rw [if_neg hk] at h'
      obtain ⟨m, h1, h2, h3, h4⟩ := findI_val es (i + 1) r h'
      refine ⟨m, ?_, by omega, h3, h4⟩
      rw [show r.1 - i = r.1 - (i + 1) + 1 from by omega]
      exact h1
def mapBV (es : List MapEntry) (k : Int) : Bool := match findI k es 0 with
  | some (_, .bool b) => b
  | _ => false
def mapIV (es : List MapEntry) (k : Int) : Int := match findI k es 0 with
  | some (_, .int _ n) => n
  | _ => 0
theorem lookupS_bool {P : Program} {H : CH} {t kt et : TypeId} {b : Nat} {es : List MapEntry} {clock : Nat} {k : Int} {kd : IntKind} {inf : TypeInfo} (hu : P.underlying t = some (.map kt et)) (hH : H[b]? = some (.map es clock))
    (hk : mapKeyS P kt es.isEmpty (.int .i64 k) = some (.int kd)) (hi : P.info? et = some inf) (hz : inf.zero = some (.bool false)) (h1 : keysI es = true) (h2 : valsB es = true) : lookupS P H t (.map (some b)) (.int .i64 k) false = some (.bool (mapBV es k)) := by
  unfold lookupS
  rw [hu]
  dsimp only
  rw [hH]
  dsimp only
  rw [hk]
  dsimp only
  rw [findNow_int es 0 h1]
  unfold mapBV
  cases hf : findI k es 0 with
  | none =>
    dsimp only
    rw [hi]
    dsimp only
    rw [hz]; rfl
  | some r =>
    obtain ⟨m, g1, _, g3, _⟩ := findI_val es 0 r hf
    have g4 := List.all_eq_true.1 h2 m (List.mem_of_getElem? g1)
    obtain ⟨j, v⟩ := r
    dsimp only at g3 ⊢
    rw [g3] at g4
    cases v <;> first
      | (cases g4; done)
      | rfl
theorem lookupS_int {P : Program} {H : CH} {t kt et : TypeId} {b : Nat} {es : List MapEntry} {clock : Nat} {k : Int} {kd : IntKind} {inf : TypeInfo} (hu : P.underlying t = some (.map kt et)) (hH : H[b]? = some (.map es clock))
    (hk : mapKeyS P kt es.isEmpty (.int .i64 k) = some (.int kd)) (hi : P.info? et = some inf) (hz : inf.zero = some (.int .i64 0)) (h1 : keysI es = true) (h2 : valsI es = true) : lookupS P H t (.map (some b)) (.int .i64 k) false = some (.int .i64 (mapIV es k)) := by
  unfold lookupS
  rw [hu]
  dsimp only
  rw [hH]
  dsimp only
  rw [hk]
  dsimp only
  rw [findNow_int es 0 h1]
  unfold mapIV
  cases hf : findI k es 0 with
  | none =>
    dsimp only
    rw [hi]
    dsimp only
    rw [hz]; rfl
  | some r =>
    obtain ⟨m, g1, _, g3, _⟩ := findI_val es 0 r hf
    have g4 := List.all_eq_true.1 h2 m (List.mem_of_getElem? g1)
    obtain ⟨j, v⟩ := r
    dsimp only at g3 ⊢
    rw [g3] at g4
    cases v with
    | int kd n =>
      cases kd <;> first
        | (cases g4; done)
        | rfl
    | _ => cases g4
def symLook (P : Program) (H : CH) (t : TypeId) (m k : Value) : Option (Bool × Value) :=
  match P.underlying t, m, k with
  | some (.map kt et), .map (some b), .int .i64 n => match H[b]? with
    | some (.map es _) => match mapKeyS P kt true (.int .i64 n), mapKeyS P kt false (.int .i64 n), P.info? et with
      | some (.int _), some (.int _), some inf => match inf.zero with
        | some (.bool false) => some (keysI es && valsB es, .bool (mapBV es n))
        | some (.int .i64 0) => some (keysI es && valsI es, .int .i64 (mapIV es n))
        | _ => none
      | _, _, _ => none
    | _ => none
  | _, _, _ => none
theorem symLook_eq {P : Program} {H : CH} {t : TypeId} {m k v : Value} (h : symLook P H t m k = some (true, v)) : lookupS P H t m k false = some v := by
  unfold symLook at h
  split at h
  case h_2 => cases h
  rename_i kt et b n hu
  split at h
  case h_2 => cases h
  rename_i es clock hH
  split at h
  case h_2 => cases h
  rename_i k1 k2 inf h1 h2 hi
  have hk : ∃ kd, mapKeyS P kt es.isEmpty (.int .i64 n) = some (.int kd) := by
    cases es.isEmpty with
    | true => exact ⟨_, h1⟩
    | false => exact ⟨_, h2⟩
  obtain ⟨kd, hk⟩ := hk
  split at h
  · rename_i hz
    simp only [Option.some.injEq, Prod.mk.injEq, Bool.and_eq_true] at h
    obtain ⟨⟨g1, g2⟩, rfl⟩ := h
    exact lookupS_bool hu hH hk hi hz g1 g2
  · rename_i hz
    simp only [Option.some.injEq, Prod.mk.injEq, Bool.and_eq_true] at h
    obtain ⟨⟨g1, g2⟩, rfl⟩ := h
    exact lookupS_int hu hH hk hi hz g1 g2
  · cases h
def updE (k : Int) (v : Value) (clock : Nat) : List MapEntry → List MapEntry
  | [] => [{ key := .int .i64 k, val := v, born := clock }]
  | e :: es => if k = keyI e then { e with key := .int .i64 k, val := v } :: es else e :: updE k v clock es
def hasI (k : Int) (es : List MapEntry) : Bool := (findI k es 0).isSome
def clkE (k : Int) (clock : Nat) (es : List MapEntry) : Nat := cond (hasI k es) clock (clock + 1)
theorem updE_none {k : Int} {v : Value} {clock : Nat} : ∀ (es : List MapEntry) (i : Nat), findI k es i = none → updE k v clock es = es ++ [{ key := .int .i64 k, val := v, born := clock }]
  | [], _, _ => rfl
  | e :: es, i, h => by
    have h' : (if k = keyI e then some (i, e.val) else findI k es (i + 1)) = none := h
    by_cases hk : k = keyI e
    · rw [if_pos hk] at h'; cases h'
    · rw [if_neg hk] at h'
      show (if k = keyI e then _ else e :: updE k v clock es) = _
      rw [if_neg hk, updE_none es (i + 1) h']; rfl
theorem updE_some {k : Int} {v : Value} {clock : Nat} : ∀ (es : List MapEntry) (i : Nat) (r : Nat × Value), findI k es i = some r → ∃ m, es[r.1 - i]? = some m ∧ updE k v clock es = es.set (r.1 - i) { m with key := .int .i64 k, val := v }
  | [], _, _, h => by cases h
  | e :: es, i, r, h => by
    have h' : (if k = keyI e then some (i, e.val) else findI k es (i + 1)) = some r := h
    by_cases hk : k = keyI e
    · rw [if_pos hk] at h'
      cases h'
      refine ⟨e, by rw [Nat.sub_self]; rfl, ?_⟩
      show (if k = keyI e then _ else e :: updE k v clock es) = _
      rw [if_pos hk, Nat.sub_self]; rfl
    · rw [if_neg hk] at h'
      obtain ⟨m, h1, h2⟩ := updE_some (v := v) (clock := clock) es (i + 1) r h'
      obtain ⟨_, _, h3, _⟩ := findI_val es (i + 1) r h'
      have e1 : r.1 - i = r.1 - (i + 1) + 1 := by omega
      refine ⟨m, by rw [e1]; exact h1, ?_⟩
      show (if k = keyI e then _ else e :: updE k v clock es) = _
      rw [if_neg hk, e1, h2]; rfl
theorem key_of {es : List MapEntry} {m : MapEntry} (h : keysI es = true) (hm : m ∈ es) : m.key = .int .i64 (keyI m) := by
  have h1 := List.all_eq_true.1 h m hm
  unfold keyI
  obtain ⟨key, val, born⟩ := m
  dsimp only at h1 ⊢
  split at h1
  · rfl
  · cases h1
theorem mapUpdateS_int {P : Program} {G : Nat} {H : CH} {t kt et : TypeId} {b : Nat} {es : List MapEntry} {clock : Nat} {k : Int} {v : Value} {kd : IntKind} (hu : P.underlying t = some (.map kt et)) (hG : G ≤ b) (hH : H[b]? = some (.map es clock))
    (hk : mapKeyS P kt false (.int .i64 k) = some (.int kd)) (h1 : keysI es = true) : mapUpdateS P G H t (.map (some b)) (.int .i64 k) v = some (H.set b (.map (updE k v clock es) (clkE k clock es))) := by
  unfold mapUpdateS
  rw [hu]
  dsimp only
  rw [if_pos hG, hH]
  dsimp only
  rw [hk]
  dsimp only
  rw [findNow_int es 0 h1]
  unfold clkE hasI
  cases hf : findI k es 0 with
  | none => rw [updE_none es 0 hf]; rfl
  | some r =>
    obtain ⟨m, g1, g2⟩ := updE_some (v := v) (clock := clock) es 0 r hf
    obtain ⟨m', q1, _, _, q4⟩ := findI_val es 0 r hf
    rw [g1] at q1
    cases q1
    obtain ⟨j, u⟩ := r
    dsimp only at g1 g2 ⊢
    rw [Nat.sub_zero] at g1 g2
    rw [g1]
    dsimp only
    have hkey := key_of h1 (List.mem_of_getElem? g1)
    rw [q4] at hkey
    rw [hkey, if_pos (by simp [Instr.sameBits]), g2]; rfl
def symUpd (P : Program) (G : Nat) (H : CH) (t : TypeId) (m k v : Value) : Option (Bool × CH) :=
  match P.underlying t, m, k with
  | some (.map kt _), .map (some b), .int .i64 n => match H[b]? with
    | some (.map es clock) => cond (Nat.ble G b) (match mapKeyS P kt false (.int .i64 n) with
      | some (.int _) => some (keysI es, H.set b (.map (updE n v clock es) (clkE n clock es)))
      | _ => none) none
    | _ => none
  | _, _, _ => none
theorem symUpd_eq {P : Program} {G : Nat} {H H' : CH} {t : TypeId} {m k v : Value} (h : symUpd P G H t m k v = some (true, H')) : mapUpdateS P G H t m k v = some H' := by
  unfold symUpd at h
  split at h
  case h_2 => cases h
  rename_i kt et b n hu
  split at h
  case h_2 => cases h
  rename_i es clock hH
  cases hG : Nat.ble G b with
  | false => rw [hG] at h; cases h
  | true =>
    rw [hG] at h
    dsimp only [cond] at h
    split at h
    case h_2 => cases h
    rename_i kd hk
    simp only [Option.some.injEq, Prod.mk.injEq] at h
    obtain ⟨g1, rfl⟩ := h
    exact mapUpdateS_int hu (Nat.le_of_ble_eq_true hG) hH hk g1
theorem keysI_upd {k : Int} {v : Value} {clock : Nat} : ∀ {es : List MapEntry}, keysI es = true → keysI (updE k v clock es) = true
  | [], _ => rfl
  | e :: es, h => by
    have h' : ((match e.key with
      | .int .i64 _ => true
      | _ => false) && keysI es) = true := h
    rw [Bool.and_eq_true] at h'
    show keysI (if k = keyI e then { e with key := .int .i64 k, val := v } :: es else e :: updE k v clock es) = true
    by_cases hk : k = keyI e
    · rw [if_pos hk]
      exact h'.2
    · rw [if_neg hk]
      show (_ && keysI (updE k v clock es)) = true
      rw [keysI_upd h'.2, Bool.and_true]
      exact h'.1
def valAt (k : Int) : List MapEntry → Option Value
  | [] => none
  | e :: es => if k = keyI e then some e.val else valAt k es
theorem findI_valAt {k : Int} : ∀ (es : List MapEntry) (i : Nat), (findI k es i).map (·.2) = valAt k es
  | [], _ => rfl
  | e :: es, i => by
    show (if k = keyI e then some (i, e.val) else findI k es (i + 1)).map (·.2) = if k = keyI e then some e.val else valAt k es
    by_cases hk : k = keyI e
    · rw [if_pos hk, if_pos hk]; rfl
    · rw [if_neg hk, if_neg hk]
      exact findI_valAt es (i + 1)
theorem valAt_upd {k k' : Int} {v : Value} {clock : Nat} : ∀ (es : List MapEntry), valAt k' (updE k v clock es) = if k' = k then some v else valAt k' es
  | [] => by
    show (if k' = k then some v else none) = if k' = k then some v else none
    rfl
  | e :: es => by
    show valAt k' (if k = keyI e then { e with key := .int .i64 k, val := v } :: es else e :: updE k v clock es) = if k' = k then some v else (if k' = keyI e then some e.val else valAt k' es)
    by_cases hk : k = keyI e
    · rw [if_pos hk]
      show (if k' = k then some v else valAt k' es) = _
      by_cases h1 : k' = k
      · rw [if_pos h1, if_pos h1]
      · rw [if_neg h1, if_neg h1, if_neg (by rw [← hk]; exact h1)]
    · rw [if_neg hk]
      show (if k' = keyI e then some e.val else valAt k' (updE k v clock es)) = _
      rw [valAt_upd es]
      by_cases h1 : k' = keyI e
      · rw [if_pos h1, if_neg (by rw [h1]; exact fun h => hk h.symm), if_pos h1]
      · rw [if_neg h1, if_neg h1]
end Go.Ex
