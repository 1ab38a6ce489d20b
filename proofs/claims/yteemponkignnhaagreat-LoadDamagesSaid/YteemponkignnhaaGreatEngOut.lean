/- Part of the proof. -/
import Derived.Test.YteemponkignnhaaGreatEngFlt
noncomputable section
namespace Go.Ex
open Go.RowKit
inductive Out (α : Type) where
  | fail
  | leaf (a : α)
  | br (b : Bool) (t e : Out α)
  | same (l : List (Option CO × Option CO)) (k : Out α)
  | code (a b : Code) (k : Out α)
def Same (l : List (Option CO × Option CO)) : Prop := ∀ x ∈ l, x.1 = x.2
noncomputable def ifCode {α : Type} (a b : Code) (k : Option α) : Option α := @ite _ (a = b) (Classical.propDecidable _) k none
noncomputable def ifSame {α : Type} (l : List (Option CO × Option CO)) (k : Option α) : Option α := @ite _ (Same l) (Classical.propDecidable _) k none
noncomputable def Out.sel {α : Type} (o : Out α) : Option α := Out.rec (motive := fun _ => Option α) none (fun a => some a) (fun b _ _ t e => cond b t e) (fun l _ k => ifSame l k) (fun a b _ k => ifCode a b k) o
noncomputable def Out.bind {α β : Type} (o : Out α) (f : α → Out β) : Out β := Out.rec (motive := fun _ => Out β) .fail f (fun b _ _ t e => .br b t e) (fun l _ k => .same l k) (fun a b _ k => .code a b k) o
theorem ifSame_some {α : Type} {l : List (Option CO × Option CO)} {k : Option α} {a : α} (h : ifSame l k = some a) : Same l ∧ k = some a := by
  unfold ifSame at h
  by_cases hl : Same l
  · rw [if_pos hl] at h; exact ⟨hl, h⟩
  · rw [if_neg hl] at h; cases h
theorem ifCode_some {α : Type} {a b : Code} {k : Option α} {r : α} (h : ifCode a b k = some r) : a = b ∧ k = some r := by
  unfold ifCode at h
  by_cases hl : a = b
  · rw [if_pos hl] at h; exact ⟨hl, h⟩
  · rw [if_neg hl] at h; cases h
theorem ifCode_of {α : Type} {a b : Code} {k : Option α} (h : a = b) : ifCode a b k = k := by unfold ifCode; rw [if_pos h]
theorem ifSame_of {α : Type} {l : List (Option CO × Option CO)} {k : Option α} (h : Same l) : ifSame l k = k := by unfold ifSame; rw [if_pos h]
def Out.ofOpt {α : Type} : Option α → Out α
  | none => .fail
  | some a => .leaf a
theorem Out.sel_ofOpt {α : Type} (o : Option α) : (Out.ofOpt o).sel = o := by cases o <;> rfl
theorem Out.sel_br {α : Type} (b : Bool) (t e : Out α) : (Out.br b t e).sel = cond b t.sel e.sel := rfl
theorem Out.sel_bind {α β : Type} (o : Out α) (f : α → Out β) : (o.bind f).sel = o.sel.bind fun a => (f a).sel := by
  induction o with
  | fail => rfl
  | leaf a => rfl
  | br b t e iht ihe =>
    show cond b (t.bind f).sel (e.bind f).sel = (cond b t.sel e.sel).bind _
    cases b with
    | true => exact iht
    | false => exact ihe
  | same l k ih =>
    show ifSame l (k.bind f).sel = (ifSame l k.sel).bind _
    by_cases hl : Same l
    · rw [ifSame_of hl, ifSame_of hl]; exact ih
    · unfold ifSame; rw [if_neg hl, if_neg hl]; rfl
  | code x y k ih =>
    show ifCode x y (k.bind f).sel = (ifCode x y k.sel).bind _
    by_cases hl : x = y
    · rw [ifCode_of hl, ifCode_of hl]; exact ih
    · unfold ifCode; rw [if_neg hl, if_neg hl]; rfl
theorem Out.bind_some {α β : Type} {o : Out α} {f : α → Out β} {r : β} (h : (o.bind f).sel = some r) : ∃ a, o.sel = some a ∧ (f a).sel = some r := by
  rw [Out.sel_bind] at h
  cases ho : o.sel with
  | none => rw [ho] at h; cases h
  | some a => rw [ho] at h; exact ⟨a, rfl, h⟩
inductive OTask where
  | code (f : Nat) (c : Code) (ro : Option Nat) (tm : TM) (H : CH) (df : List Nat)
  | call (f : FuncId) (args : Array Value) (H : CH)
  | round (l : Nat) (args : Array Value) (H : CH)
def OTask.abs : OTask → Task
  | .code _ c ro tm H df => .code c ro (absT tm) H df
  | .call f args H => .call f args H
  | .round l args H => .round l args H
inductive Split where
  | no
  | bool
  | ints (ks : List Int)
structure Cfg where
  T : FuncId → List Value → CH → Option (Option Bool × Value × CH × List (Option CO × Option CO))
  sp : Nat → Nat → Split
  sy : Nat → Nat → Bool
  L : Nat → Nat → TM → CH → List Nat → Option (Code × Out QRes)
def splitInts (k : IntKind) (n : Int) (ks : List Int) : Out Value := ks.foldr (fun i r => .br (decide (n = i)) (.leaf (.int k i)) r) .fail
def splitV (s : Split) (v : Value) : Out Value :=
  match s with
  | .no => .leaf v
  | .bool => match v with
    | .bool b => .br b (.leaf (.bool true)) (.leaf (.bool false))
    | _ => .fail
  | .ints ks => match v with
    | .int k n => splitInts k n ks
    | _ => .fail
theorem splitInts_eq (k : IntKind) (n : Int) : ∀ (ks : List Int) (v : Value), (splitInts k n ks).sel = some v → v = .int k n
  | [], v, h => by cases h
  | i :: r, v, h => by
    have h' : cond (decide (n = i)) (some (Value.int k i)) (splitInts k n r).sel = some v := h
    by_cases hi : n = i
    · rw [decide_eq_true hi] at h'
      cases h'
      rw [hi]
    · rw [decide_eq_false hi] at h'
      exact splitInts_eq k n r v h'
theorem splitV_eq {s : Split} {v v' : Value} (h : (splitV s v).sel = some v') : v' = v := by
  unfold splitV at h
  cases s with
  | no => cases h; rfl
  | bool =>
    cases v <;> first
      | (cases h; done)
      | skip
    rename_i b
    cases b <;> (cases h; rfl)
  | ints ks =>
    cases v <;> first
      | (cases h; done)
      | exact splitInts_eq _ _ _ _ h
def symRowW (G b : Nat) : List Value → Nat → CH → Option (Bool × CH)
  | [], _, H => some (true, H)
  | v :: r, off, H => match H[b]? with
    | some (.cells cs t s ex) => cond (Nat.ble G b && oneB v) (match symRowW G b r (off + 1) (H.set b (.cells (cs.set off v) t s ex)) with
      | some x => some (decide (off < cs.length) && x.1, x.2)
      | none => none) none
    | _ => none
theorem symRowW_eq {G b : Nat} : ∀ (vs : List Value) (off : Nat) (H H' : CH), symRowW G b vs off H = some (true, H') → storeRow G H b off vs = some H'
  | [], off, H, H', h => by cases h; rfl
  | v :: r, off, H, H', h => by
    unfold symRowW at h
    split at h
    case h_2 => cases h
    rename_i cs t s ex hb
    cases hg : Nat.ble G b && oneB v with
    | false => rw [hg] at h; cases h
    | true =>
      rw [hg] at h
      have h' : (match symRowW G b r (off + 1) (H.set b (.cells (cs.set off v) t s ex)) with
        | some x => some (decide (off < cs.length) && x.1, x.2)
        | none => none) = some (true, H') := h
      split at h'
      case h_2 => cases h'
      rename_i x hx
      simp only [Option.some.injEq, Prod.mk.injEq, Bool.and_eq_true, decide_eq_true_eq] at h'
      obtain ⟨⟨h1, h2⟩, h3⟩ := h'
      rw [Bool.and_eq_true] at hg
      obtain ⟨x1, x2⟩ := x
      dsimp only at h2 h3
      subst h2
      subst h3
      have ih := symRowW_eq r (off + 1) _ _ hx
      unfold storeRow
      rw [if_pos hg.2]
      have : H.set? G b off v = some (H.set b (.cells (cs.set off v) t s ex)) := by
        unfold CH.set?
        rw [if_pos (Nat.le_of_ble_eq_true hg.1), hb]
        dsimp only
        rw [if_pos h1]
      rw [this]
      exact ih
def symStore (P : Program) (G : Nat) (H : CH) (t : TypeId) (b off : Nat) (v : Value) : Out (Value × CH) :=
  match P.info? t with
  | some i => cond (Nat.beq v.cells.size i.size) (match symRowW G b v.cells.toList off H with
    | some x => .br x.1 (.leaf (undef, x.2)) .fail
    | none => .fail) .fail
  | none => .fail
theorem symStore_eq {P : Program} {G : Nat} {H : CH} {t : TypeId} {b off : Nat} {v : Value} {r : Value × CH} (h : (symStore P G H t b off v).sel = some r) : (storeS P G H t b off v).map (fun H' => (undef, H')) = some r := by
  unfold symStore at h
  unfold storeS
  split at h
  case h_2 => cases h
  rename_i i hi
  rw [hi]
  dsimp only
  cases hs : Nat.beq v.cells.size i.size with
  | false => rw [hs] at h; cases h
  | true =>
    rw [hs] at h
    rw [if_pos (Nat.eq_of_beq_eq_true hs)]
    have h' : (match symRowW G b v.cells.toList off H with
      | some x => Out.br x.1 (.leaf (undef, x.2)) .fail
      | none => .fail).sel = some r := h
    split at h'
    case h_2 => cases h'
    rename_i x hx
    obtain ⟨x1, x2⟩ := x
    have h2 : cond x1 (some (undef, x2)) none = some r := h'
    cases x1 with
    | false => cases h2
    | true =>
      cases h2
      rw [symRowW_eq _ _ _ _ hx]
      rfl
def symMake (P : Program) (H : CH) (t : TypeId) (l c : Value) : Out (Value × CH) :=
  match l, c with
  | .int _ l, .int _ c => match P.underlying t with
    | some (.slice e) => match P.info? e with
      | some i => match i.zero with
        | some z => cond (Nat.ble i.bytes 65536 && cleans z.cells)
            (.br (leF 0 l && (leF l c && leF c 1048576)) (.leaf (.slice (some ⟨H.length, 0, none⟩) l.toNat c.toNat, H.push (.cells (zeroRow z.cells (c.toNat * i.size)).toList e i.size true))) .fail) .fail
        | none => .fail
      | none => .fail
    | _ => .fail
  | _, _ => .fail
theorem zeroRow_zero (z : Array Value) : zeroRow z 0 = #[] := by unfold zeroRow; simp
theorem symMake_eq {P : Program} {H : CH} {t : TypeId} {l c : Value} {r : Value × CH} (h : (symMake P H t l c).sel = some r) : makeSliceS P H t l c = some r := by
  unfold symMake at h
  split at h
  case h_2 => cases h
  rename_i kl l kc c
  split at h
  case h_2 => cases h
  rename_i e hu
  split at h
  case h_2 => cases h
  rename_i i hi
  split at h
  case h_2 => cases h
  rename_i z hz
  cases hb : Nat.ble i.bytes 65536 && cleans z.cells with
  | false => rw [hb] at h; cases h
  | true =>
    rw [hb] at h
    rw [Bool.and_eq_true] at hb
    have h' : cond (leF 0 l && (leF l c && leF c 1048576)) (some (Value.slice (some ⟨H.length, 0, none⟩) l.toNat c.toNat, H.push (.cells (zeroRow z.cells (c.toNat * i.size)).toList e i.size true))) none = some r := h
    cases hc : leF 0 l && (leF l c && leF c 1048576) with
    | false => rw [hc] at h'; cases h'
    | true =>
      rw [hc] at h'
      cases h'
      simp only [Bool.and_eq_true, leF_eq, decide_eq_true_eq] at hc
      unfold makeSliceS
      dsimp only
      rw [hu]
      dsimp only
      rw [hi]
      dsimp only
      rw [if_pos ⟨hc.1, hc.2.1, hc.2.2, Nat.le_of_ble_eq_true hb.1⟩]
      unfold zerosFor
      by_cases h0 : c.toNat * i.size = 0
      · rw [if_pos h0]
        dsimp only
        rw [h0, zeroRow_zero, zeroRow_zero]
      · rw [if_neg h0, hi]
        dsimp only
        rw [hz]
        dsimp only
        rw [if_pos hb.2]
theorem row_take {H : CH} {b : Nat} {cs : List Value} {t : TypeId} {s : Nat} {ex : Bool} (h : H[b]? = some (.cells cs t s ex)) : ∀ (m off : Nat), off + m ≤ cs.length → H.row? b off m = some ((cs.drop off).take m)
  | 0, off, _ => rfl
  | m + 1, off, hl => by
    have hc : H.cell? b off = some cs[off] := by
      unfold CH.cell?
      rw [h]
      exact List.getElem?_eq_getElem (by omega)
    show H.row? b off (m + 1) = _
    simp only [CH.row?, hc]
    rw [row_take h m (off + 1) (by omega)]
    rw [List.drop_eq_getElem_cons (by omega : off < cs.length)]
    rfl
def symAppend (ne : Bool) (P : Program) (H : CH) (t tx : TypeId) (s x : Value) : Out (Value × CH) :=
  match elemS P t with
  | some (e, size) => cond (plainArg P tx) (match s with
    | .slice (some ⟨b0, o0, none⟩) 0 0 => match H[b0]? with
      | some (.cells _ _ _ true) => match x with
        | .slice (some ⟨b, off, none⟩) n cap => match H[b]? with
          | some (.cells cs _ _ _) => cond ne
              (.br (!decide (n = 0) && (decide (n ≤ cap) && (decide (n ≤ 1048576) && decide (off + n * size ≤ cs.length)))) (.leaf (.slice (some ⟨H.length, 0, none⟩) n n, H.push (.cells ((cs.drop off).take (n * size)) e size false))) .fail)
              (.br (decide (n ≤ cap)) (.br (decide (n = 0)) (.leaf (.slice (some ⟨b0, o0, none⟩) 0 0, H))
                (.br (decide (n ≤ 1048576) && decide (off + n * size ≤ cs.length)) (.leaf (.slice (some ⟨H.length, 0, none⟩) n n, H.push (.cells ((cs.drop off).take (n * size)) e size false))) .fail)) .fail)
          | _ => .fail
        | _ => .fail
      | _ => .fail
    | _ => .fail) .fail
  | none => .fail
theorem symAppend_eq {ne : Bool} {P : Program} {G : Nat} {H : CH} {t tx : TypeId} {s x : Value} {r : Value × CH} (h : (symAppend ne P H t tx s x).sel = some r) : appendS P G H t tx s x = some r := by
  unfold symAppend at h
  split at h
  case h_2 => cases h
  rename_i e size hel
  cases hp : plainArg P tx with
  | false => rw [hp] at h; cases h
  | true =>
    rw [hp] at h
    dsimp only [cond] at h
    split at h
    case h_2 => cases h
    rename_i b0 o0
    split at h
    case h_2 => cases h
    rename_i cs0 t0 s0 h0
    split at h
    case h_2 => cases h
    rename_i b off n cap
    split at h
    case h_2 => cases h
    rename_i cs t1 s1 ex1 hb
    have fin : n ≤ cap → (n = 0 → r = (Value.slice (some ⟨b0, o0, none⟩) 0 0, H)) → (n ≠ 0 → n ≤ 1048576 ∧ off + n * size ≤ cs.length ∧ r = (Value.slice (some ⟨H.length, 0, none⟩) n n, H.push (.cells ((cs.drop off).take (n * size)) e size false))) → appendS P G H t tx (.slice (some ⟨b0, o0, none⟩) 0 0) (.slice (some ⟨b, off, none⟩) n cap) = some r := by
      intro hn hz0 hz1
      unfold appendS
      rw [hel, hp]
      simp only [lenS, firstS]
      rw [if_pos ⟨Nat.le_refl n, hn⟩]
      by_cases hz : n = 0
      · rw [hz0 hz]
        subst hz
        simp [CH.row?, storeRow]
      · obtain ⟨h1, h2, h3⟩ := hz1 hz
        rw [row_take hb _ _ h2, h3]
        have hl : ((cs.drop off).take (n * size)).length = n * size := by
          rw [List.length_take, List.length_drop]; omega
        dsimp only
        rw [if_pos hl, if_pos (Nat.le_refl 0), if_neg (by omega), if_pos (by omega), Nat.zero_mul]
        show (match some ([] : List Value) with
          | some old => _
          | none => none) = _
        dsimp only
        rw [h0]
        simp
    cases ne with
    | true =>
      have h' : cond (!decide (n = 0) && (decide (n ≤ cap) && (decide (n ≤ 1048576) && decide (off + n * size ≤ cs.length)))) (some (Value.slice (some ⟨H.length, 0, none⟩) n n, H.push (.cells ((cs.drop off).take (n * size)) e size false))) none = some r := h
      cases hc : (!decide (n = 0) && (decide (n ≤ cap) && (decide (n ≤ 1048576) && decide (off + n * size ≤ cs.length)))) with
      | false => rw [hc] at h'; cases h'
      | true =>
        rw [hc] at h'
        simp only [Bool.and_eq_true, Bool.not_eq_true', decide_eq_true_eq, decide_eq_false_iff_not] at hc
        exact fin hc.2.1 (fun hz => absurd hz hc.1) fun _ => ⟨hc.2.2.1, hc.2.2.2, (Option.some.inj h').symm⟩
    | false =>
      have h' : cond (decide (n ≤ cap)) (cond (decide (n = 0)) (some (Value.slice (some ⟨b0, o0, none⟩) 0 0, H)) (cond (decide (n ≤ 1048576) && decide (off + n * size ≤ cs.length)) (some (Value.slice (some ⟨H.length, 0, none⟩) n n, H.push (.cells ((cs.drop off).take (n * size)) e size false))) none)) none = some r := h
      by_cases hn : n ≤ cap
      case neg => rw [decide_eq_false hn] at h'; cases h'
      rw [decide_eq_true hn] at h'
      by_cases hz : n = 0
      · rw [decide_eq_true hz] at h'
        exact fin hn (fun _ => (Option.some.inj h').symm) fun hh => absurd hz hh
      · rw [decide_eq_false hz] at h'
        have h2 : cond (decide (n ≤ 1048576) && decide (off + n * size ≤ cs.length)) (some (Value.slice (some ⟨H.length, 0, none⟩) n n, H.push (.cells ((cs.drop off).take (n * size)) e size false))) none = some r := h'
        cases hc : decide (n ≤ 1048576) && decide (off + n * size ≤ cs.length) with
        | false => rw [hc] at h2; cases h2
        | true =>
          rw [hc] at h2
          simp only [Bool.and_eq_true, decide_eq_true_eq] at hc
          exact fin hn (fun hh => absurd hh hz) fun _ => ⟨hc.1, hc.2, (Option.some.inj h2).symm⟩
def symAppendN (P : Program) (G : Nat) (H : CH) (t tx : TypeId) (s x : Value) : Out (Value × CH) :=
  match elemS P t with
  | some (e, size) => cond (plainArg P tx) (match lenS x with
    | some (m + 1) => match firstS H size (m + 1) x with
      | some new => cond (Nat.beq new.length ((m + 1) * size)) (match s with
        | .slice (some ⟨b, 0, none⟩) len cap => match H[b]? with
          | some (.cells cs e' s' ex) => cond (ex || (Nat.beq e' e && (Nat.beq s' size && (Nat.ble G b && new.all oneB))))
              (.br (decide (cap = len) && (decide (cs.length = len * size) && decide (len + (m + 1) ≤ 1048576)))
                (.leaf (.slice (some ⟨H.length, 0, none⟩) (len + (m + 1)) (len + (m + 1)), (cond ex H (H.set b .dead)).push (.cells (cs ++ new) e size false))) .fail) .fail
          | _ => .fail
        | _ => .fail) .fail
      | none => .fail
    | _ => .fail) .fail
  | none => .fail
theorem symAppendN_eq {P : Program} {G : Nat} {H : CH} {t tx : TypeId} {s x : Value} {r : Value × CH} (h : (symAppendN P G H t tx s x).sel = some r) : appendS P G H t tx s x = some r := by
  unfold symAppendN at h
  split at h
  case h_2 => cases h
  rename_i e size hel
  cases hp : plainArg P tx with
  | false => rw [hp] at h; cases h
  | true =>
    rw [hp] at h
    dsimp only [cond] at h
    split at h
    case h_2 => cases h
    rename_i m hln
    split at h
    case h_2 => cases h
    rename_i new hnew
    cases hnl : Nat.beq new.length ((m + 1) * size) with
    | false => rw [hnl] at h; cases h
    | true =>
      rw [hnl] at h
      dsimp only [cond] at h
      split at h
      case h_2 => cases h
      rename_i b len cap
      split at h
      case h_2 => cases h
      rename_i cs e' s' ex hb
      cases hex : (ex || (Nat.beq e' e && (Nat.beq s' size && (Nat.ble G b && new.all oneB)))) with
      | false => rw [hex] at h; cases h
      | true =>
        rw [hex] at h
        have h' : cond (decide (cap = len) && (decide (cs.length = len * size) && decide (len + (m + 1) ≤ 1048576)))
          (some (Value.slice (some ⟨H.length, 0, none⟩) (len + (m + 1)) (len + (m + 1)), (cond ex H (H.set b .dead)).push (.cells (cs ++ new) e size false))) none = some r := h
        cases hc : decide (cap = len) && (decide (cs.length = len * size) && decide (len + (m + 1) ≤ 1048576)) with
        | false => rw [hc] at h'; cases h'
        | true =>
          rw [hc] at h'
          cases h'
          simp only [Bool.and_eq_true, decide_eq_true_eq] at hc
          obtain ⟨rfl, h2, h3⟩ := hc
          unfold appendS
          rw [hel, hp, hln]
          dsimp only
          rw [hnew]
          dsimp only
          rw [if_pos (Nat.eq_of_beq_eq_true hnl), if_pos (Nat.le_refl _), if_neg (by omega), if_pos h3, row_take hb _ _ (by omega)]
          dsimp only
          rw [hb]
          dsimp only
          have h0 : (cs.drop 0).take (cap * size) = cs := by rw [List.drop_zero, ← h2, List.take_length]
          rw [h0]
          cases ex with
          | true => rw [if_pos rfl]; rfl
          | false =>
            simp only [Bool.false_or, Bool.and_eq_true] at hex
            obtain ⟨g1, g2, g3, g4⟩ := hex
            rw [if_neg (by simp), if_pos ⟨Nat.eq_of_beq_eq_true g1, Nat.eq_of_beq_eq_true g2, by omega, Nat.le_of_ble_eq_true g3, g4⟩]
            rfl
def symAppendP (P : Program) (G : Nat) (H : CH) (t tx : TypeId) (s x : Value) : Out (Value × CH) :=
  match elemS P t with
  | some (e, size) => cond (plainArg P tx) (match lenS x with
    | some (m + 1) => match firstS H size (m + 1) x with
      | some new => cond (Nat.beq new.length ((m + 1) * size)) (match s with
        | .slice (some ⟨b, 0, none⟩) len cap => match H[b]? with
          | some (.cells cs e' s' ex) => cond (!ex && (Nat.beq e' e && (Nat.beq s' size && (Nat.ble G b && new.all oneB))))
              (.br (decide (len + (m + 1) ≤ cap))
                (match symRowW G b new (len * size) H with
                  | some y => .br y.1 (.leaf (.slice (some ⟨b, 0, none⟩) (len + (m + 1)) cap, y.2)) .fail
                  | none => .fail)
                (.br (decide (len ≤ cap) && (decide (cs.length = cap * size) && decide (len + (m + 1) ≤ 1048576)))
                  (.leaf (.slice (some ⟨H.length, 0, none⟩) (len + (m + 1)) (len + (m + 1)), (H.set b .dead).push (.cells (cs.take (len * size) ++ new) e size false))) .fail)) .fail
          | _ => .fail
        | _ => .fail) .fail
      | none => .fail
    | _ => .fail) .fail
  | none => .fail
theorem symAppendP_eq {P : Program} {G : Nat} {H : CH} {t tx : TypeId} {s x : Value} {r : Value × CH} (h : (symAppendP P G H t tx s x).sel = some r) : appendS P G H t tx s x = some r := by
  unfold symAppendP at h
  split at h
  case h_2 => cases h
  rename_i e size hel
  cases hp : plainArg P tx with
  | false => rw [hp] at h; cases h
  | true =>
    rw [hp] at h
    dsimp only [cond] at h
    split at h
    case h_2 => cases h
    rename_i m hln
    split at h
    case h_2 => cases h
    rename_i new hnew
    cases hnl : Nat.beq new.length ((m + 1) * size) with
    | false => rw [hnl] at h; cases h
    | true =>
      rw [hnl] at h
      dsimp only [cond] at h
      split at h
      case h_2 => cases h
      rename_i b len cap
      split at h
      case h_2 => cases h
      rename_i cs e' s' ex hb
      cases hex : (!ex && (Nat.beq e' e && (Nat.beq s' size && (Nat.ble G b && new.all oneB)))) with
      | false => rw [hex] at h; cases h
      | true =>
        rw [hex] at h
        simp only [Bool.and_eq_true, Bool.not_eq_true'] at hex
        obtain ⟨g0, g1, g2, g3, g4⟩ := hex
        have h' : cond (decide (len + (m + 1) ≤ cap)) ((match symRowW G b new (len * size) H with
            | some y => Out.br y.1 (.leaf (Value.slice (some ⟨b, 0, none⟩) (len + (m + 1)) cap, y.2)) .fail
            | none => .fail).sel)
          (cond (decide (len ≤ cap) && (decide (cs.length = cap * size) && decide (len + (m + 1) ≤ 1048576))) (some (Value.slice (some ⟨H.length, 0, none⟩) (len + (m + 1)) (len + (m + 1)), (H.set b .dead).push (.cells (cs.take (len * size) ++ new) e size false))) none) = some r := h
        unfold appendS
        rw [hel, hp, hln]
        dsimp only
        rw [hnew]
        dsimp only
        rw [if_pos (Nat.eq_of_beq_eq_true hnl)]
        by_cases hr : len + (m + 1) ≤ cap
        · rw [decide_eq_true hr] at h'
          have h2 : (match symRowW G b new (len * size) H with
            | some y => Out.br y.1 (.leaf (Value.slice (some ⟨b, 0, none⟩) (len + (m + 1)) cap, y.2)) .fail
            | none => .fail).sel = some r := h'
          split at h2
          case h_2 => cases h2
          rename_i y hy
          obtain ⟨y1, y2⟩ := y
          have h3 : cond y1 (some (Value.slice (some ⟨b, 0, none⟩) (len + (m + 1)) cap, y2)) none = some r := h2
          cases y1 with
          | false => cases h3
          | true =>
            cases h3
            rw [if_pos (by omega : len ≤ cap), if_pos hr, Nat.zero_add, symRowW_eq _ _ _ _ hy]
            rfl
        · rw [decide_eq_false hr] at h'
          have h2 : cond (decide (len ≤ cap) && (decide (cs.length = cap * size) && decide (len + (m + 1) ≤ 1048576))) (some (Value.slice (some ⟨H.length, 0, none⟩) (len + (m + 1)) (len + (m + 1)), (H.set b .dead).push (.cells (cs.take (len * size) ++ new) e size false))) none = some r := h'
          cases hc : decide (len ≤ cap) && (decide (cs.length = cap * size) && decide (len + (m + 1) ≤ 1048576)) with
          | false => rw [hc] at h2; cases h2
          | true =>
            rw [hc] at h2
            cases h2
            simp only [Bool.and_eq_true, decide_eq_true_eq] at hc
            obtain ⟨c1, c2, c3⟩ := hc
            have hm : len * size ≤ cap * size := Nat.mul_le_mul_right size c1
            rw [if_pos c1, if_neg hr, if_pos c3, row_take hb _ _ (by omega)]
            dsimp only
            rw [hb]
            dsimp only
            rw [List.drop_zero, g0, if_neg (by simp), if_pos ⟨Nat.eq_of_beq_eq_true g1, Nat.eq_of_beq_eq_true g2, by omega, Nat.le_of_ble_eq_true g3, g4⟩]
def roomB (n cap2 len cap size off2 : Nat) (ds cs : List Value) : Bool :=
  decide (n ≤ cap2) && (decide (len ≤ cap) && (decide (len + n ≤ cap) && (decide (0 < n * size) && (decide (off2 + n * size ≤ ds.length) && (decide (len * size + n * size ≤ cs.length) && ((ds.drop off2).take (n * size)).all oneB)))))
def putR (size len n off2 : Nat) (ds cs : List Value) : List Value := cs.take (len * size) ++ ((ds.drop off2).take (n * size) ++ cs.drop (len * size + n * size))
def symGrow (P : Program) (H : CH) (t tx : TypeId) (l : Int) : Out (Value × CH) :=
  match P.underlying t, P.underlying tx with
  | some (.slice e), some (.int _) => match P.info? e with
    | some i => match i.zero with
      | some z => cond (cleans z.cells && (Nat.beq z.cells.size i.size && (Nat.ble i.bytes 65536 && Nat.blt 0 i.size)))
          (.br (ltF 0 l && leF l 1048576) (.leaf (.slice (some ⟨H.length, 0, none⟩) l.toNat l.toNat, H.push (.cells (Builtin.zeroCells z.cells l.toNat).toList e i.size false))) .fail) .fail
      | none => .fail
    | none => .fail
  | _, _ => .fail
def symRoom (P : Program) (G : Nat) (H : CH) (t tx : TypeId) (b len cap : Nat) (x : Value) : Out (Value × CH) :=
  match elemS P t with
  | some (_, size) => cond (plainArg P tx && Nat.ble G b) (match x with
    | .slice none 0 0 => .br (decide (len ≤ cap)) (.leaf (.slice (some ⟨b, 0, none⟩) len cap, H)) .fail
    | .slice (some ⟨b2, off2, none⟩) n cap2 => match H[b2]? with
      | some (.cells ds _ _ _) => match H[b]? with
        | some (.cells cs t' s' ex) => .br (roomB n cap2 len cap size off2 ds cs) (.leaf (.slice (some ⟨b, 0, none⟩) (len + n) cap, H.set b (.cells (putR size len n off2 ds cs) t' s' ex))) .fail
        | _ => .fail
      | _ => .fail
    | _ => .fail) .fail
  | none => .fail
def symAppendR (P : Program) (G : Nat) (H : CH) (t tx : TypeId) (s x : Value) : Out (Value × CH) :=
  match s with
  | .slice none 0 0 => match x with
    | .int _ l => symGrow P H t tx l
    | _ => .fail
  | .slice (some ⟨b, 0, none⟩) len cap => symRoom P G H t tx b len cap x
  | _ => .fail
theorem symAppendR_eq {P : Program} {G : Nat} {H : CH} {t tx : TypeId} {s x : Value} {r : Value × CH} (h : (symAppendR P G H t tx s x).sel = some r) : appendS P G H t tx s x = some r ∨ (appendS P G H t tx s x = none ∧ appendZ P H t tx s x = some r) := by
  unfold symAppendR at h
  split at h
  · split at h
    case h_2 => cases h
    rename_i k l
    unfold symGrow at h
    split at h
    case h_2 => cases h
    rename_i e k' hu hux
    split at h
    case h_2 => cases h
    rename_i i hi
    split at h
    case h_2 => cases h
    rename_i z hz
    cases hc : (cleans z.cells && (Nat.beq z.cells.size i.size && (Nat.ble i.bytes 65536 && Nat.blt 0 i.size))) with
    | false => rw [hc] at h; cases h
    | true =>
      rw [hc] at h
      simp only [Bool.and_eq_true] at hc
      obtain ⟨c1, c2, c3, c4⟩ := hc
      have h' : cond (ltF 0 l && leF l 1048576) (some (Value.slice (some ⟨H.length, 0, none⟩) l.toNat l.toNat, H.push (.cells (Builtin.zeroCells z.cells l.toNat).toList e i.size false))) none = some r := h
      cases hl : (ltF 0 l && leF l 1048576) with
      | false => rw [hl] at h'; cases h'
      | true =>
        rw [hl] at h'
        cases h'
        simp only [Bool.and_eq_true, ltF_eq, leF_eq, decide_eq_true_eq] at hl
        have ha : appendS P G H t tx (.slice none 0 0) (.int k l) = none := by
          unfold appendS
          simp only [lenS]
          split <;> first | rfl | (rename_i heq _; cases heq) | (rename_i h1 h2 h3; cases h3)
        refine .inr ⟨ha, ?_⟩
        unfold appendZ
        rw [hu, hux]
        simp only [hi, hz]
        rw [if_pos ⟨c1, Nat.eq_of_beq_eq_true c2, Nat.le_of_ble_eq_true c3, hl.1, hl.2, Nat.le_of_ble_eq_true c4⟩]
  · rename_i b len cap
    have key : appendS P G H t tx (.slice (some ⟨b, 0, none⟩) len cap) x = some r := by
      unfold symRoom at h
      split at h
      case h_2 => cases h
      rename_i e size hel
      cases hp : (plainArg P tx && Nat.ble G b) with
      | false => rw [hp] at h; cases h
      | true =>
        rw [hp] at h
        rw [Bool.and_eq_true] at hp
        dsimp only [cond] at h
        unfold appendS
        rw [hel, hp.1]
        split at h
        · have h' : cond (decide (len ≤ cap)) (some (Value.slice (some ⟨b, 0, none⟩) len cap, H)) none = some r := h
          by_cases hl : len ≤ cap
          · rw [decide_eq_true hl] at h'
            cases h'
            simp only [lenS, firstS]
            simp [hl, storeRow]
          · rw [decide_eq_false hl] at h'; cases h'
        · rename_i b2 off2 n cap2
          split at h
          case h_2 => cases h
          rename_i ds t2 s2 ex2 hb2
          split at h
          case h_2 => cases h
          rename_i cs t' s' ex hb
          have h' : cond (roomB n cap2 len cap size off2 ds cs) (some (Value.slice (some ⟨b, 0, none⟩) (len + n) cap, H.set b (.cells (putR size len n off2 ds cs) t' s' ex))) none = some r := h
          cases hr : roomB n cap2 len cap size off2 ds cs with
          | false => rw [hr] at h'; cases h'
          | true =>
            rw [hr] at h'
            cases h'
            unfold roomB at hr
            simp only [Bool.and_eq_true, decide_eq_true_eq] at hr
            obtain ⟨r1, r2, r3, r4, r5, r6, r7⟩ := hr
            have hlen : ((ds.drop off2).take (n * size)).length = n * size := by rw [List.length_take, List.length_drop]; omega
            simp only [lenS, firstS]
            rw [if_pos ⟨Nat.le_refl n, r1⟩, row_take hb2 _ _ r5]
            dsimp only
            rw [if_pos hlen, if_pos r2, if_pos r3, Nat.zero_add]
            cases hv : (ds.drop off2).take (n * size) with
            | nil => rw [hv] at hlen; simp only [List.length_nil] at hlen; omega
            | cons v vs =>
              rw [hv] at hlen r7
              rw [storeRow_at (Nat.le_of_ble_eq_true hp.2) v vs H (len * size) cs hb (by omega) r7]
              unfold putR
              rw [hv, hlen, List.append_assoc]
              rfl
        · cases h
    exact .inl key
  · cases h
def fullB (n cap2 len cap size off2 : Nat) (ds cs : List Value) : Bool :=
  decide (cap = len) && (decide (cs.length = len * size) && (!decide (n = 0) && (decide (n ≤ cap2) && (decide (off2 + n * size ≤ ds.length) && (decide (len + n ≤ 1048576) && ((ds.drop off2).take (n * size)).all oneB)))))
def symAppendF (P : Program) (G : Nat) (H : CH) (t tx : TypeId) (s x : Value) : Out (Value × CH) :=
  match elemS P t with
  | some (e, size) => cond (plainArg P tx) (match s with
    | .slice (some ⟨b, 0, none⟩) len cap => match H[b]? with
      | some (.cells cs e' s' ex) => match x with
        | .slice (some ⟨b2, off2, none⟩) n cap2 => match H[b2]? with
          | some (.cells ds _ _ _) => cond (ex || (Nat.beq e' e && (Nat.beq s' size && Nat.ble G b)))
              (.br (fullB n cap2 len cap size off2 ds cs) (.leaf (.slice (some ⟨H.length, 0, none⟩) (len + n) (len + n), (cond ex H (H.set b .dead)).push (.cells (cs ++ (ds.drop off2).take (n * size)) e size false))) .fail) .fail
          | _ => .fail
        | _ => .fail
      | _ => .fail
    | _ => .fail) .fail
  | none => .fail
theorem symAppendF_eq {P : Program} {G : Nat} {H : CH} {t tx : TypeId} {s x : Value} {r : Value × CH} (h : (symAppendF P G H t tx s x).sel = some r) : appendS P G H t tx s x = some r := by
  unfold symAppendF at h
  split at h
  case h_2 => cases h
  rename_i e size hel
  cases hp : plainArg P tx with
  | false => rw [hp] at h; cases h
  | true =>
    rw [hp] at h
    dsimp only [cond] at h
    split at h
    case h_2 => cases h
    rename_i b len cap
    split at h
    case h_2 => cases h
    rename_i cs e' s' ex hb
    split at h
    case h_2 => cases h
    rename_i b2 off2 n cap2
    split at h
    case h_2 => cases h
    rename_i ds t2 s2 ex2 hb2
    cases hex : (ex || (Nat.beq e' e && (Nat.beq s' size && Nat.ble G b))) with
    | false => rw [hex] at h; cases h
    | true =>
      rw [hex] at h
      have h' : cond (fullB n cap2 len cap size off2 ds cs) (some (Value.slice (some ⟨H.length, 0, none⟩) (len + n) (len + n), (cond ex H (H.set b .dead)).push (.cells (cs ++ (ds.drop off2).take (n * size)) e size false))) none = some r := h
      cases hr : fullB n cap2 len cap size off2 ds cs with
      | false => rw [hr] at h'; cases h'
      | true =>
        rw [hr] at h'
        cases h'
        unfold fullB at hr
        simp only [Bool.and_eq_true, Bool.not_eq_true', decide_eq_true_eq, decide_eq_false_iff_not] at hr
        obtain ⟨rfl, r2, r3, r4, r5, r6, r7⟩ := hr
        have hlen : ((ds.drop off2).take (n * size)).length = n * size := by rw [List.length_take, List.length_drop]; omega
        unfold appendS
        rw [hel, hp]
        simp only [lenS, firstS]
        rw [if_pos ⟨Nat.le_refl n, r4⟩, row_take hb2 _ _ r5]
        dsimp only
        rw [if_pos hlen, if_pos (Nat.le_refl _), if_neg (by omega), if_pos r6, row_take hb _ _ (by omega)]
        dsimp only
        rw [hb]
        dsimp only
        have h0 : (cs.drop 0).take (cap * size) = cs := by rw [List.drop_zero, ← r2, List.take_length]
        rw [h0]
        cases ex with
        | true => rw [if_pos rfl]; rfl
        | false =>
          simp only [Bool.false_or, Bool.and_eq_true] at hex
          obtain ⟨g1, g2, g3⟩ := hex
          rw [if_neg (by simp), if_pos ⟨Nat.eq_of_beq_eq_true g1, Nat.eq_of_beq_eq_true g2, by omega, Nat.le_of_ble_eq_true g3, r7⟩]
          rfl
def symAppend0 (P : Program) (H : CH) (t tx : TypeId) (s x : Value) : Out (Value × CH) :=
  match elemS P t with
  | some _ => cond (plainArg P tx) (match s with
    | .slice (some ⟨b, off, none⟩) len cap => match x with
      | .slice (some ⟨_, _, none⟩) n cap2 => .br (decide (n = 0) && (decide (n ≤ cap2) && decide (len ≤ cap))) (.leaf (.slice (some ⟨b, off, none⟩) len cap, H)) .fail
      | _ => .fail
    | _ => .fail) .fail
  | none => .fail
theorem symAppend0_eq {P : Program} {G : Nat} {H : CH} {t tx : TypeId} {s x : Value} {r : Value × CH} (h : (symAppend0 P H t tx s x).sel = some r) : appendS P G H t tx s x = some r := by
  unfold symAppend0 at h
  split at h
  case h_2 => cases h
  rename_i e hel
  obtain ⟨e, size⟩ := e
  cases hp : plainArg P tx with
  | false => rw [hp] at h; cases h
  | true =>
    rw [hp] at h
    dsimp only [cond] at h
    split at h
    case h_2 => cases h
    rename_i b off len cap
    split at h
    case h_2 => cases h
    rename_i b2 off2 n cap2
    have h' : cond (decide (n = 0) && (decide (n ≤ cap2) && decide (len ≤ cap))) (some (Value.slice (some ⟨b, off, none⟩) len cap, H)) none = some r := h
    cases hr : (decide (n = 0) && (decide (n ≤ cap2) && decide (len ≤ cap))) with
    | false => rw [hr] at h'; cases h'
    | true =>
      rw [hr] at h'
      cases h'
      simp only [Bool.and_eq_true, decide_eq_true_eq] at hr
      obtain ⟨rfl, r2, r3⟩ := hr
      unfold appendS
      rw [hel, hp]
      simp only [lenS, firstS]
      simp [r3, CH.row?, storeRow]
def symAppendZ (P : Program) (G : Nat) (H : CH) (t tx : TypeId) (s x : Value) : Out (Value × CH) :=
  match x with
  | .slice none 0 0 => symAppendR P G H t tx s x
  | .slice (some _) n _ => .br (decide (n = 0)) (symAppend0 P H t tx s x) (symAppendR P G H t tx s x)
  | _ => .fail
theorem symAppendZ_eq {P : Program} {G : Nat} {H : CH} {t tx : TypeId} {s x : Value} {r : Value × CH} (h : (symAppendZ P G H t tx s x).sel = some r) : appendS P G H t tx s x = some r ∨ (appendS P G H t tx s x = none ∧ appendZ P H t tx s x = some r) := by
  unfold symAppendZ at h
  split at h
  · exact symAppendR_eq h
  · rename_i n _
    rw [Out.sel_br] at h
    cases hn : decide (n = 0) with
    | true => rw [hn] at h; exact .inl (symAppend0_eq (G := G) h)
    | false => rw [hn] at h; exact symAppendR_eq h
  · cases h
def updOut (r : Option (Bool × CH)) : Out (Value × CH) :=
  match r with
  | some x => .br x.1 (.leaf (undef, x.2)) .fail
  | none => .fail
def symWO (ne ap rm : Bool) (P : Program) (G : Nat) (e : Operand → Value) (H : CH) (o : Op) : Out (Value × CH) :=
  match o with
  | .store t x y => cond (okOpd G x && okOpd G y) (match e x with
    | .pointer (some ⟨b, off, none⟩) => symStore P G H t b off (e y)
    | _ => .fail) .fail
  | .makeSlice t l c => cond (okOpd G l && okOpd G c) (symMake P H t (e l) (e c)) .fail
  | .mapUpdate t m k v => cond (okOpd G m && (okOpd G k && okOpd G v)) (updOut (symUpd P G H t (e m) (e k) (e v))) .fail
  | .call c => match c.callee with
    | .builtin .append => match c.args.toList, c.argTypes.toList with
      | [s, x], [t, tx] => cond (okOpd G s && okOpd G x) (cond rm (cond ne (cond ap (symAppendZ P G H t tx (e s) (e x)) (symAppendF P G H t tx (e s) (e x))) (cond ap (symAppend0 P H t tx (e s) (e x)) (symAppendR P G H t tx (e s) (e x)))) (cond ap (cond ne (symAppendP P G H t tx (e s) (e x)) (symAppendN P G H t tx (e s) (e x))) (symAppend ne P H t tx (e s) (e x)))) .fail
      | _, _ => .fail
    | _ => .fail
  | _ => .fail
theorem symWO_sound {ne ap rm : Bool} {self : Task → Option Res} {P : Program} {G : Nat} {tm : TM} {H : CH} {o : Oper} {r : Value × CH} (h : (symWO ne ap rm P G (evH tm) H o.op).sel = some r) : opX self P G (absT tm) H o = some r := by
  obtain ⟨dst, op, type, pos, after, guard⟩ := o
  rw [evH_fun] at h
  cases op <;> first
    | (cases h; done)
    | skip
  case store t x y =>
    have h' : (cond (okOpd G x && okOpd G y) (match ev (absT tm) x with
      | .pointer (some ⟨b, off, none⟩) => symStore P G H t b off (ev (absT tm) y)
      | _ => .fail) .fail).sel = some r := h
    cases hok : okOpd G x && okOpd G y with
    | false => rw [hok] at h'; cases h'
    | true =>
      rw [hok] at h'
      dsimp only [cond] at h'
      rw [opX_ok self P G (by simpa [Op.operands] using hok) (fun _ h => by cases h) (fun _ h => by cases h)]
      simp only [opS]
      split at h'
      · rename_i b off hv
        rw [hv]
        exact symStore_eq h'
      · cases h'
  case mapUpdate t m k v =>
    have h' : (cond (okOpd G m && (okOpd G k && okOpd G v)) (updOut (symUpd P G H t (ev (absT tm) m) (ev (absT tm) k) (ev (absT tm) v))) .fail).sel = some r := h
    cases hok : okOpd G m && (okOpd G k && okOpd G v) with
    | false => rw [hok] at h'; cases h'
    | true =>
      rw [hok] at h'
      have h2 : (updOut (symUpd P G H t (ev (absT tm) m) (ev (absT tm) k) (ev (absT tm) v))).sel = some r := h'
      rw [opX_ok self P G (by simpa [Op.operands] using hok) (fun _ h => by cases h) (fun _ h => by cases h)]
      simp only [opS]
      unfold updOut at h2
      split at h2
      case h_2 => cases h2
      rename_i x hx
      obtain ⟨c, H'⟩ := x
      cases c with
      | false => cases h2
      | true =>
        cases h2
        rw [symUpd_eq hx]; rfl
  case makeSlice t l c =>
    have h' : (cond (okOpd G l && okOpd G c) (symMake P H t (ev (absT tm) l) (ev (absT tm) c)) .fail).sel = some r := h
    cases hok : okOpd G l && okOpd G c with
    | false => rw [hok] at h'; cases h'
    | true =>
      rw [hok] at h'
      rw [opX_ok self P G (by simpa [Op.operands] using hok) (fun _ h => by cases h) (fun _ h => by cases h)]
      simp only [opS]
      exact symMake_eq h'
  case call c =>
    obtain ⟨callee, args, ts⟩ := c
    cases callee <;> first
      | (cases h; done)
      | skip
    rename_i b
    cases b <;> first
      | (cases h; done)
      | skip
    have h' : (match args.toList, ts.toList with
      | [s, x], [t, tx] => cond (okOpd G s && okOpd G x) (cond rm (cond ne (cond ap (symAppendZ P G H t tx (ev (absT tm) s) (ev (absT tm) x)) (symAppendF P G H t tx (ev (absT tm) s) (ev (absT tm) x))) (cond ap (symAppend0 P H t tx (ev (absT tm) s) (ev (absT tm) x)) (symAppendR P G H t tx (ev (absT tm) s) (ev (absT tm) x)))) (cond ap (cond ne (symAppendP P G H t tx (ev (absT tm) s) (ev (absT tm) x)) (symAppendN P G H t tx (ev (absT tm) s) (ev (absT tm) x))) (symAppend ne P H t tx (ev (absT tm) s) (ev (absT tm) x)))) .fail
      | _, _ => .fail).sel = some r := h
    split at h'
    case h_2 => cases h'
    rename_i s x t tx ha ht
    cases hok : okOpd G s && okOpd G x with
    | false => rw [hok] at h'; cases h'
    | true =>
      rw [hok] at h'
      have h2 : appendS P G H t tx (ev (absT tm) s) (ev (absT tm) x) = some r ∨ (appendS P G H t tx (ev (absT tm) s) (ev (absT tm) x) = none ∧ appendZ P H t tx (ev (absT tm) s) (ev (absT tm) x) = some r) := by
        cases rm with
        | true =>
          cases ne with
          | true =>
            cases ap with
            | true => exact symAppendZ_eq h'
            | false => exact .inl (symAppendF_eq h')
          | false =>
            cases ap with
            | true => exact .inl (symAppend0_eq (G := G) h')
            | false => exact symAppendR_eq h'
        | false =>
          have h3 : appendS P G H t tx (ev (absT tm) s) (ev (absT tm) x) = some r := by
            cases ap with
            | true =>
              cases ne with
              | true => exact symAppendP_eq h'
              | false => exact symAppendN_eq h'
            | false => exact symAppend_eq (G := G) h'
          exact .inl h3
      cases list_two ha
      cases list_two ht
      unfold opX
      rw [if_pos (by simpa [Op.operands, Call.operands] using hok)]
      simp only [opS, builtinS, List.map_toArray, List.map_cons, List.map_nil]
      rcases h2 with h2 | ⟨h2, h3⟩
      · rw [h2]
      · rw [h2, h3]
section
variable (w : OTask → Out QRes) (P : Program) (G : Nat) (C : Cfg)
def valO (r : QRes) : Out (Value × CH) :=
  match r with
  | .val v H => .leaf (v, H)
  | _ => .fail
noncomputable def callFnO (tm : TM) (H : CH) (o : Oper) (g : FuncId) (first cap : Array Value) (args : Array Operand) (fn : Func) : Out (Value × CH) :=
  match fn.body with
  | none => .ofOpt (slowQ P G tm H o)
  | some _ => cond (fn.name == "runtime.NumGoroutine") .fail (cond (args.toList.all (okOpd G)) ((w (.call g ⟨first.toList ++ ((args.toList.map (evH tm)) ++ cap.toList)⟩ H)).bind valO) .fail)
noncomputable def callVO (tm : TM) (H : CH) (o : Oper) (args : Array Operand) (v : Value) : Out (Value × CH) :=
  match v with
  | .func (.func g) first cap => match P.funcs[g]? with
    | some fn => callFnO w P G tm H o g first cap args fn
    | none => .fail
  | .func (.yield l) first cap => cond (first.isEmpty && (cap.isEmpty && args.toList.all (okOpd G))) ((w (.round l ⟨args.toList.map (evH tm)⟩ H)).bind valO) .fail
  | _ => .fail
noncomputable def callO (tm : TM) (H : CH) (o : Oper) : Out (Value × CH) := cond (okOpd G (arg1 o.op)) (callVO w P G tm H o (argsOf o.op) (evH tm (arg1 o.op))) .fail
def noQ : QTask → Option QRes := fun _ => none
def symOut (H : CH) (r : Option (Bool × Value)) : Out (Value × CH) :=
  match r with
  | some x => .br x.1 (.leaf (x.2, H)) .fail
  | none => .fail
def symAt (f : Nat) (d : Option Tmp) : Bool :=
  match d with
  | some t => C.sy f t
  | none => false
def symAtW (f : Nat) (o : Oper) : Bool :=
  match o.op with
  | .store _ x _ => match x with
    | .tmp t => C.sy f (t + 100000)
    | _ => false
  | .makeSlice _ _ _ => symAt C f o.dst
  | .mapUpdate _ _ k _ => match k with
    | .tmp t => C.sy f (t + 100000)
    | _ => false
  | .call c => match c.callee with
    | .builtin .append => symAt C f o.dst
    | _ => false
  | _ => false
def neAt (f : Nat) (d : Option Tmp) : Bool :=
  match d with
  | some t => C.sy f (t + 200000)
  | none => false
def apAt (f : Nat) (d : Option Tmp) : Bool :=
  match d with
  | some t => C.sy f (t + 300000)
  | none => false
def rmAt (f : Nat) (d : Option Tmp) : Bool :=
  match d with
  | some t => C.sy f (t + 500000)
  | none => false
def flAt (f : Nat) (d : Option Tmp) : Bool :=
  match d with
  | some t => C.sy f (t + 400000)
  | none => false
def flOut (H : CH) (r : Option (Bool × Value)) : Out (Value × CH) :=
  match r with
  | some x => .br x.1 (.leaf (x.2, H)) (.leaf (wildV, H))
  | none => .fail
noncomputable def opO (f : Nat) (tm : TM) (H : CH) (o : Oper) : Out (Value × CH) :=
  cond (flAt C f o.dst) (flOut H (symF P G (evH tm) o.op)) <|
  cond (symAtW C f o) (symWO (neAt C f o.dst) (apAt C f o.dst) (rmAt C f o.dst) P G (evH tm) H o.op)
    (cond (symAt C f o.dst) (symOut H (symOp P G (evH tm) H o.op)) (cond (Nat.beq (tagOf o.op) 7) (callO w P G tm H o) (.ofOpt (opQ noQ P G tm H o))))
def spOf (f : Nat) (d : Option Tmp) : Split :=
  match d with
  | some t => C.sp f t
  | none => .no
noncomputable def afterO (f : Nat) (o : Oper) (ih : TM → CH → Out (TM × CH)) (tm : TM) (r : Value × CH) : Out (TM × CH) :=
  (splitV (spOf C f o.dst) r.1).bind fun v => ih (putH tm o.dst v) r.2
noncomputable def opsStepO (f : Nat) (ops : Array Oper) (o : Oper) (ih : TM → CH → Out (TM × CH)) (tm : TM) (H : CH) : Out (TM × CH) :=
  cond (wantQ ops tm o) ((opO w P G C f tm H o).bind fun r => afterO C f o ih tm r) (cond (gkQ ops tm o) (ih (putH tm o.dst undef) H) .fail)
noncomputable def opsO (f : Nat) (ops : Array Oper) (l : List Oper) : TM → CH → Out (TM × CH) :=
  List.rec (motive := fun _ => TM → CH → Out (TM × CH)) (fun tm H => .leaf (tm, H)) (fun o _ ih tm H => opsStepO w P G C f ops o ih tm H) l
noncomputable def trAfterO (f : Nat) (o : Oper) (ih : TM → CH → Out TrQ) (tm : TM) (H : CH) (r : Value × CH) : Out TrQ :=
  (splitV (spOf C f o.dst) r.1).bind fun v => (ih (putH tm o.dst v) r.2).bind fun u => .leaf ((tm, H, v) :: u.1, u.2)
noncomputable def trStepO (f : Nat) (ops : Array Oper) (o : Oper) (ih : TM → CH → Out TrQ) (tm : TM) (H : CH) : Out TrQ :=
  cond (wantQ ops tm o) ((opO w P G C f tm H o).bind fun r => trAfterO C f o ih tm H r) (cond (gkQ ops tm o) ((ih (putH tm o.dst undef) H).bind fun u => .leaf ((tm, H, undef) :: u.1, u.2)) .fail)
noncomputable def trO (f : Nat) (ops : Array Oper) (l : List Oper) : TM → CH → Out TrQ :=
  List.rec (motive := fun _ => TM → CH → Out TrQ) (fun tm H => .leaf ([], tm, H)) (fun o _ ih tm H => trStepO w P G C f ops o ih tm H) l
def coOf (v : Value) : CO := .cells [v] 0 0 true
def blkOf (e : Operand → Value) (o : Op) : Nat :=
  match o with
  | .load _ x => match e x with
    | .pointer (some a) => a.block
    | _ => 0
  | .lookup _ x _ _ => match e x with
    | .map (some b) => b
    | _ => 0
  | _ => 0
def altO (f : Nat) (tr : List (TM × CH × Value)) (H' : CH) (o : Oper) (tm : TM) (H : CH) (v : Value) (p : Nat) : Option CO × Option CO :=
  cond (symAt C f o.dst) ((heapQ tr H' p)[blkOf (evH tm) o.op]?, H[blkOf (evH tm) o.op]?) ((opQ noQ P G tm (heapQ tr H' p) o).map fun r => coOf r.1, some (coOf v))
def altsO (f : Nat) (ops : Array Oper) (A : List Nat) (tr : List (TM × CH × Value)) (H' : CH) (i : Nat) (o : Oper) (tm : TM) (H : CH) (v : Value) : List (Option CO × Option CO) :=
  cond (Nat.beq (kindOf P o.op) 1) (cond (wantQ ops tm o) ((alts P ops A i).map (altO P G C f tr H' o tm H v)) []) []
def samesO (f : Nat) (ops : Array Oper) (A : List Nat) (tr : List (TM × CH × Value)) (H' : CH) : List (Option CO × Option CO) :=
  (List.range ops.size).flatMap fun i => match ops[i]?, tr[i]? with
    | some o, some (tm, H, v) => altsO P G C f ops A tr H' i o tm H v
    | _, _ => []
noncomputable def drawEndO (f : Nat) (ops : Array Oper) (r : TrQ) : Out (TM × CH) := .same (samesO P G C f ops (ancs ops) r.1 r.2.2) (.leaf (r.2.1, r.2.2))
noncomputable def drawO (f : Nat) (ops : Array Oper) (tm : TM) (H : CH) : Out (TM × CH) :=
  cond (P.follows .mixedOrders && ordOk P ops (ancs ops)) ((trO w P G C f ops ops.toList tm H).bind (drawEndO P G C f ops)) .fail
noncomputable def regionO (f : Nat) (ops : Array Oper) (d : Bool) (tm : TM) (H : CH) : Out (TM × CH) :=
  cond d (drawO w P G C f ops tm H) (opsO w P G C f ops ops.toList tm H)
noncomputable def seqO (f : Nat) (b : Code) (ro : Option Nat) (r : QRes) : Out QRes :=
  match r with
  | .ex x tm1 H1 df1 => match x with
    | .normal => w (.code f b ro tm1 H1 df1)
    | x => .leaf (.ex x tm1 H1 df1)
  | .val _ _ => .fail
noncomputable def condO (f : Nat) (x y : Code) (ro : Option Nat) (tm : TM) (H : CH) (df : List Nat) (v : Value) : Out QRes :=
  match v with
  | .bool b => w (.code f (cond b x y) ro tm H df)
  | _ => .fail
def blockO (id : Nat) (r : QRes) : Out QRes :=
  match r with
  | .ex x tm1 H1 df1 => match x with
    | .exit id' => .leaf (.ex (if id' = id then .normal else .exit id') tm1 H1 df1)
    | x => .leaf (.ex x tm1 H1 df1)
  | .val _ _ => .fail
def firstReg : Code → Nat
  | .region id _ _ => id
  | .seq a _ => firstReg a
  | .cond _ a _ => firstReg a
  | .block _ b => firstReg b
  | .scope b => firstReg b
  | .loop b => firstReg b
  | _ => 0
def loopO (b : Code) (r : Option (Code × Out QRes)) (slow : Out QRes) : Out QRes :=
  match r with
  | some (c, o) => .code b c o
  | none => slow
noncomputable def rangeEndO (f : Nat) (ro : Option Nat) (tm : TM) (len : Nat) (df1 : List Nat) (r : QRes) : Out QRes :=
  match r with
  | .val _ H3 => match H3[len]? with
    | some (.loop r3) => if r3.state = .busy then .fail else match r3.pending with
      | none => .leaf (.ex .normal tm (H3.set len (.loop { r3 with state := .exhausted })) df1)
      | some c => w (.code f c ro tm (H3.set len (.loop { r3 with state := .exhausted })) df1)
    | _ => .fail
  | .ex _ _ _ _ => .fail
noncomputable def rangeVO (f : Nat) (ps : Array Tmp) (assign body : Code) (ro : Option Nat) (tm : TM) (s : CH × List Nat × Nat) (v : Value) : Out QRes :=
  match v with
  | .func (.func k) first cap => match P.funcs[k]? with
    | some fn => if fn.name == "runtime.NumGoroutine" then .fail else if fn.body.isNone then .fail else
      (w (.call k (first ++ #[.func (.yield s.1.length) #[] #[]] ++ cap) (s.1.push (.loop { state := .ready, pending := none, fn := f, tmps := absT tm, params := ps, assign, body, defers := s.2.2 })))).bind (rangeEndO w f ro tm s.1.length s.2.1)
    | none => .fail
  | _ => .fail
noncomputable def rangeO (f : Nat) (g : Operand) (ps : Array Tmp) (assign body : Code) (ro : Option Nat) (tm : TM) (H : CH) (df : List Nat) : Out QRes :=
  match startO ro H df with
  | some s => cond (okOpd G g) (rangeVO w P f ps assign body ro tm s (evH tm g)) .fail
  | none => .fail
def roundEnd2 (l : Nat) (r : QRes) : Out QRes :=
  match r with
  | .ex x _ H3 _ => match H3[l]? with
    | some (.loop r3) => .leaf (.val (.bool (jumpOf x).isNone) (H3.set l (.loop { r3 with state := if (jumpOf x).isNone then .ready else .done, pending := jumpOf x })))
    | _ => .fail
  | .val _ _ => .fail
noncomputable def roundEnd1 (l : Nat) (fn : Nat) (body : Code) (r : QRes) : Out QRes :=
  match r with
  | .ex x tm1 H1 df1 => match x with
    | .normal => match H1[l]? with
      | some (.loop r1) => if r1.state = .ready then (w (.code fn body (some l) tm1 (H1.set l (.loop { r1 with state := .busy })) df1)).bind (roundEnd2 l) else .fail
      | _ => .fail
    | _ => .fail
  | .val _ _ => .fail
noncomputable def roundO (l : Nat) (args : Array Value) (H : CH) : Out QRes :=
  if G ≤ l then match H[l]? with
    | some (.loop r) => if r.state = .ready ∧ args.size = r.params.size then
        (w (.code r.fn r.assign (some l) (ofArr ((r.params.zip args).foldl (fun tmps (t, a) => tmps.setIfInBounds t a) r.tmps)) H [])).bind (roundEnd1 w l r.fn r.body)
      else .fail
    | _ => .fail
  else .fail
noncomputable def codeO (f : Nat) (c : Code) (ro : Option Nat) (tm : TM) (H : CH) (df : List Nat) : Out QRes :=
  match c with
  | .skip => .leaf (.ex .normal tm H df)
  | .label _ => .leaf (.ex .normal tm H df)
  | .seq a b => (w (.code f a ro tm H df)).bind (seqO w f b ro)
  | .cond o x y => cond (okOpd G o) (condO w f x y ro tm H df (evH tm o)) .fail
  | .block id b => (w (.code f b ro tm H df)).bind (blockO id)
  | .loop b => loopO (.loop b) (C.L f (firstReg b) tm H df) ((w (.code f b ro tm H df)).bind (seqO w f (.loop b) ro))
  | .scope b => w (.code f b ro tm H df)
  | .exit id => .leaf (.ex (.exit id) tm H df)
  | .ret => .leaf (.ex .ret tm H df)
  | .region id ops d => loopO (.region id ops d) (cond d (C.L f (id + 500000) tm H df) none) ((regionO w P G C f ops d tm H).bind fun r => .leaf (.ex .normal r.1 r.2 df))
  | .rangeFunc g ps assign body => rangeO w P G f g ps assign body ro tm H df
  | _ => .fail
def endO (fn : Func) (r : QRes) : Out QRes :=
  match r with
  | .ex x tm H1 df => match x with
    | .exit _ => .fail
    | _ => .ofOpt (valQ P fn tm (closeS G H1 df))
  | .val _ _ => .fail
noncomputable def enterO (f : FuncId) (fn : Func) (args : Array Value) (H : CH) : Out QRes :=
  match fn.body with
  | some c => (w (.code f c none (ofArgs args.toList fn.ntmps) H [])).bind (endO P G fn)
  | none => .fail
noncomputable def callXO (f : FuncId) (args : Array Value) (H : CH) : Out QRes :=
  match P.funcs[f]? with
  | some fn => enterO w P G f fn args H
  | none => .fail
def tabO (r : Option (Option Bool × Value × CH × List (Option CO × Option CO))) (alt slow : Out QRes) : Out QRes :=
  match r with
  | some (some b, v, H, l) => .same l (.br b (.leaf (.val v H)) alt)
  | some (none, v, H, l) => .same l (.leaf (.val v H))
  | none => slow
noncomputable def tabA (f : FuncId) (args : Array Value) (H : CH) (slow : Out QRes) : Out QRes :=
  cond (Nat.blt f 1000000) (tabO (C.T f args.toList H) (tabO (C.T (f + 1000000) args.toList H) (tabO (C.T (f + 2000000) args.toList H) (tabO (C.T (f + 3000000) args.toList H) .fail .fail) .fail) .fail) slow) slow
noncomputable def stepO (t : OTask) : Out QRes :=
  match t with
  | .code f c ro tm H df => codeO w P G C f c ro tm H df
  | .call f args H => tabA C f args H (callXO w P G f args H)
  | .round l args H => roundO w G l args H
end
noncomputable def execO (P : Program) (G : Nat) (C : Cfg) (n : Nat) : OTask → Out QRes :=
  Nat.rec (motive := fun _ => OTask → Out QRes) (fun _ => .fail) (fun _ f => stepO f P G C) n
def OSound (P : Program) (G : Nat) (w : OTask → Out QRes) : Prop := ∀ t r, (w t).sel = some r → Sound P G t.abs r.abs
def TSound (P : Program) (G : Nat) (T : FuncId → List Value → CH → Option (Option Bool × Value × CH × List (Option CO × Option CO))) : Prop := ∀ f args H c v H' l, T f args H = some (c, v, H', l) → c.getD true = true → Same l → Sound P G (.call (f % 1000000) ⟨args⟩ H) (.val v H')
def LSound (P : Program) (G : Nat) (L : Nat → Nat → TM → CH → List Nat → Option (Code × Out QRes)) : Prop :=
  ∀ f id tm H df c o r ro, L f id tm H df = some (c, o) → o.sel = some r → Sound P G (.code c ro (absT tm) H df) r.abs
section
variable {w : OTask → Out QRes} {P : Program} {G : Nat} {C : Cfg}
noncomputable def qS (w : OTask → Out QRes) (t : QTask) : Option QRes :=
  match t with
  | .code _ _ _ _ _ => none
  | .call f args H => (w (.call f args H)).sel
  | .round l args H => (w (.round l args H)).sel
theorem qS_rel (t : QTask) (r : QRes) (h : qS w t = some r) : selfA (qS w) t.abs = some r.abs := by
  cases t with
  | code c ro tm H df => cases h
  | call f args H =>
    show absO (qS w (.call f args H)) = _
    rw [h]; rfl
  | round l args H =>
    show absO (qS w (.round l args H)) = _
    rw [h]; rfl
theorem qS_selfSound (hw : OSound P G w) : SelfSound P G (selfA (qS w)) := by
  intro t r h
  cases t with
  | code c ro tm H df => cases h
  | call f args H =>
    have h' : absO (w (.call f args H)).sel = some r := h
    unfold absO at h'
    split at h'
    · rename_i u hu
      cases h'
      exact hw (.call f args H) u hu
    · cases h'
  | round l args H =>
    have h' : absO (w (.round l args H)).sel = some r := h
    unfold absO at h'
    split at h'
    · rename_i u hu
      cases h'
      exact hw (.round l args H) u hu
    · cases h'
theorem valO_bind {o : Out QRes} {r : Value × CH} (h : (o.bind valO).sel = some r) : o.sel = some (.val r.1 r.2) := by
  obtain ⟨a, h1, h2⟩ := Out.bind_some h
  rw [h1]
  cases a with
  | val v H => cases h2; rfl
  | ex x tm H df => cases h2
theorem callO_sel {tm : TM} {H : CH} {o : Oper} {r : Value × CH} (h : (callO w P G tm H o).sel = some r) : callQ (qS w) P G tm H o = some r := by
  unfold callO at h
  unfold callQ
  cases hok : okOpd G (arg1 o.op) with
  | false => rw [hok] at h; cases h
  | true =>
    rw [hok] at h
    show callVQ (qS w) P G tm H o (argsOf o.op) (evH tm (arg1 o.op)) = some r
    have h' : (callVO w P G tm H o (argsOf o.op) (evH tm (arg1 o.op))).sel = some r := h
    unfold callVO at h'
    unfold callVQ
    split at h'
    · rename_i g first cap hev
      rw [hev]
      dsimp only
      split at h'
      case h_2 => cases h'
      rename_i fn hfn
      rw [hfn]
      dsimp only
      unfold callFnO at h'
      unfold callFnQ
      split at h'
      · rename_i hb
        rw [hb]
        dsimp only
        rw [Out.sel_ofOpt] at h'
        exact h'
      · rename_i c hb
        rw [hb]
        dsimp only
        cases hn : fn.name == "runtime.NumGoroutine" with
        | true => rw [hn] at h'; cases h'
        | false =>
          rw [hn] at h'
          cases ha : (argsOf o.op).toList.all (okOpd G) with
          | false => rw [ha] at h'; cases h'
          | true =>
            rw [ha] at h'
            have h2 := valO_bind h'
            show valOfQ (w _).sel = some r
            rw [h2]; rfl
    · rename_i l first cap hev
      rw [hev]
      dsimp only
      cases hc : (first.isEmpty && (cap.isEmpty && (argsOf o.op).toList.all (okOpd G))) with
      | false => rw [hc] at h'; cases h'
      | true =>
        rw [hc] at h'
        have h2 := valO_bind h'
        show valOfQ (w _).sel = some r
        rw [h2]; rfl
    · cases h'
theorem symOut_sel {H : CH} {x : Option (Bool × Value)} {r : Value × CH} (h : (symOut H x).sel = some r) : x = some (true, r.1) ∧ r.2 = H := by
  cases x with
  | none => cases h
  | some y =>
    obtain ⟨b, v⟩ := y
    have h' : cond b (some (v, H)) none = some r := h
    cases b with
    | false => cases h'
    | true => cases h'; exact ⟨rfl, rfl⟩
theorem opO_sel {f : Nat} {tm : TM} {H : CH} {o : Oper} {r : Value × CH} (h : (opO w P G C f tm H o).sel = some r) : opX (selfA (qS w)) P G (absT tm) H o = some r := by
  unfold opO at h
  cases hfl : flAt C f o.dst with
  | true =>
    rw [hfl] at h
    replace h : (flOut H (symF P G (evH tm) o.op)).sel = some r := h
    unfold flOut at h
    split at h
    case h_2 => cases h
    rename_i x hx
    have h2 : cond x.1 (some (x.2, H)) (some (wildV, H)) = some r := h
    have h3 := symF_sound (self := selfA (qS w)) (H := H) hx
    rw [h3, ← h2]
    unfold pickW
    cases x.1 <;> rfl
  | false =>
  rw [hfl] at h
  replace h : (cond (symAtW C f o) (symWO (neAt C f o.dst) (apAt C f o.dst) (rmAt C f o.dst) P G (evH tm) H o.op)
    (cond (symAt C f o.dst) (symOut H (symOp P G (evH tm) H o.op)) (cond (Nat.beq (tagOf o.op) 7) (callO w P G tm H o) (.ofOpt (opQ noQ P G tm H o))))).sel = some r := h
  cases hsw : symAtW C f o with
  | true =>
    rw [hsw] at h
    exact symWO_sound h
  | false =>
  rw [hsw] at h
  replace h : (cond (symAt C f o.dst) (symOut H (symOp P G (evH tm) H o.op)) (cond (Nat.beq (tagOf o.op) 7) (callO w P G tm H o) (.ofOpt (opQ noQ P G tm H o)))).sel = some r := h
  cases hsy : symAt C f o.dst with
  | true =>
    rw [hsy] at h
    obtain ⟨h1, h2⟩ := symOut_sel (H := H) (x := symOp P G (evH tm) H o.op) h
    obtain ⟨v, H1⟩ := r
    dsimp only at h1 h2
    subst h2
    exact symOp_sound h1
  | false =>
  rw [hsy] at h
  replace h : (cond (Nat.beq (tagOf o.op) 7) (callO w P G tm H o) (.ofOpt (opQ noQ P G tm H o))).sel = some r := h
  cases ht : Nat.beq (tagOf o.op) 7 with
  | false =>
    rw [ht] at h
    have h' : (Out.ofOpt (opQ noQ P G tm H o)).sel = some r := h
    rw [Out.sel_ofOpt] at h'
    have := opQ_sound (q := noQ) (self := fun _ => none) (fun t r h => by cases h) h'
    exact opX_none_mono this
  | true =>
    rw [ht] at h
    have h' := callO_sel h
    have h7 : tagOf o.op = 7 := Nat.eq_of_beq_eq_true ht
    have ho : ∃ f args ts, o.op = .call { callee := .value f, args := args, argTypes := ts } := by
      obtain ⟨dst, op, type, pos, after, guard⟩ := o
      cases op <;> first
        | (simp [tagOf] at h7; done)
        | skip
      case call c =>
        obtain ⟨callee, args, ts⟩ := c
        cases callee with
        | value f => exact ⟨f, args, ts, rfl⟩
        | invoke r m => simp [tagOf] at h7
        | builtin b => simp [tagOf] at h7
    obtain ⟨f, args, ts, ho⟩ := ho
    exact callQ_sound qS_rel ho h'
theorem opsO_sel {f : Nat} {ops : Array Oper} : ∀ (l : List Oper) (tm : TM) (H : CH) (r : TM × CH), (opsO w P G C f ops l tm H).sel = some r → opsG (opX (selfA (qS w)) P G) ops l (absT tm) H = some (absT r.1, r.2)
  | [], tm, H, r, h => by cases h; rfl
  | o :: l, tm, H, r, h => by
    have h' : (opsStepO w P G C f ops o (opsO w P G C f ops l) tm H).sel = some r := h
    show opsStep (opX (selfA (qS w)) P G) ops o (opsG (opX (selfA (qS w)) P G) ops l) (absT tm) H = _
    unfold opsStepO at h'
    unfold opsStep
    rw [wantF_eq, ← wantQ_eq]
    cases hk : wantQ ops tm o with
    | true =>
      rw [hk] at h'
      have h'' : ((opO w P G C f tm H o).bind fun r => afterO C f o (opsO w P G C f ops l) tm r).sel = some r := h'
      obtain ⟨a, h1, h2⟩ := Out.bind_some h''
      unfold afterO at h2
      obtain ⟨v, h3, h4⟩ := Out.bind_some h2
      have hv := splitV_eq h3
      subst hv
      show afterF o (opsG (opX (selfA (qS w)) P G) ops l) (absT tm) (opX (selfA (qS w)) P G (absT tm) H o) = _
      rw [opO_sel h1]
      show opsG (opX (selfA (qS w)) P G) ops l (put (absT tm) o.dst a.1) a.2 = _
      rw [← putH_abs]
      exact opsO_sel l _ _ _ h4
    | false =>
      rw [hk] at h'
      cases hg : gkQ ops tm o with
      | false => rw [hg] at h'; cases h'
      | true =>
      rw [hg] at h'
      show cond (gk ops (absT tm) o) (opsG (opX (selfA (qS w)) P G) ops l (put (absT tm) o.dst undef) H) none = _
      rw [← gkQ_eq, hg, ← putH_abs]
      exact opsO_sel l _ _ _ h'
theorem trO_sel {f : Nat} {ops : Array Oper} : ∀ (l : List Oper) (tm : TM) (H : CH) (r : TrQ), (trO w P G C f ops l tm H).sel = some r →
    textRun (selfA (qS w)) P G ops l (absT tm) H = some (r.1.map absE, absT r.2.1, r.2.2)
  | [], tm, H, r, h => by cases h; rfl
  | o :: l, tm, H, r, h => by
    have h' : (trStepO w P G C f ops o (trO w P G C f ops l) tm H).sel = some r := h
    unfold trStepO at h'
    simp only [textRun]
    rw [← wantQ_eq]
    cases hk : wantQ ops tm o with
    | true =>
      rw [hk] at h'
      have h'' : ((opO w P G C f tm H o).bind fun r => trAfterO C f o (trO w P G C f ops l) tm H r).sel = some r := h'
      obtain ⟨a, h1, h2⟩ := Out.bind_some h''
      unfold trAfterO at h2
      obtain ⟨v, h3, h4⟩ := Out.bind_some h2
      obtain ⟨u, h5, h6⟩ := Out.bind_some h4
      cases h6
      have hv := splitV_eq h3
      subst hv
      have := trO_sel l _ _ _ h5
      rw [putH_abs] at this
      rw [if_pos rfl, opO_sel h1]
      dsimp only
      rw [this]
      rfl
    | false =>
      rw [hk] at h'
      cases hg : gkQ ops tm o with
      | false => rw [hg] at h'; cases h'
      | true =>
      rw [hg] at h'
      obtain ⟨u, h5, h6⟩ := Out.bind_some (o := trO w P G C f ops l (putH tm o.dst undef) H) (f := fun u => Out.leaf ((tm, H, undef) :: u.1, u.2)) h'
      cases h6
      have := trO_sel l _ _ _ h5
      rw [putH_abs] at this
      rw [if_neg (by simp), if_pos (by rw [← gkQ_eq]; exact hg), this]
      rfl
theorem trO_ops {f : Nat} {ops : Array Oper} : ∀ (l : List Oper) (tm : TM) (H : CH) (r : TrQ), (trO w P G C f ops l tm H).sel = some r →
    ∀ (i : Nat) (o : Oper) (tm1 : TM) (H1 : CH) (v : Value), l[i]? = some o → r.1[i]? = some (tm1, H1, v) → wantQ ops tm1 o = true → ∃ H2, (opO w P G C f tm1 H1 o).sel = some (v, H2)
  | [], tm, H, r, h => fun i o tm1 H1 v ho => by simp at ho
  | o :: l, tm, H, r, h => by
    have h' : (trStepO w P G C f ops o (trO w P G C f ops l) tm H).sel = some r := h
    unfold trStepO at h'
    cases hk : wantQ ops tm o with
    | true =>
      rw [hk] at h'
      have h'' : ((opO w P G C f tm H o).bind fun r => trAfterO C f o (trO w P G C f ops l) tm H r).sel = some r := h'
      obtain ⟨a, h1, h2⟩ := Out.bind_some h''
      unfold trAfterO at h2
      obtain ⟨v, h3, h4⟩ := Out.bind_some h2
      obtain ⟨u, h5, h6⟩ := Out.bind_some h4
      cases h6
      have hv := splitV_eq h3
      subst hv
      intro i o1 tm1 H1 v1 ho ht hw1
      cases i with
      | zero =>
        simp at ho ht
        obtain ⟨rfl, rfl, rfl⟩ := ht
        subst ho
        exact ⟨a.2, h1⟩
      | succ i => exact trO_ops l _ _ _ h5 i o1 tm1 H1 v1 (by simpa using ho) (by simpa using ht) hw1
    | false =>
      rw [hk] at h'
      cases hg : gkQ ops tm o with
      | false => rw [hg] at h'; cases h'
      | true =>
      rw [hg] at h'
      obtain ⟨u, h5, h6⟩ := Out.bind_some (o := trO w P G C f ops l (putH tm o.dst undef) H) (f := fun u => Out.leaf ((tm, H, undef) :: u.1, u.2)) h'
      cases h6
      intro i o1 tm1 H1 v1 ho ht hw1
      cases i with
      | zero =>
        simp at ho ht
        obtain ⟨rfl, rfl, rfl⟩ := ht
        subst ho
        rw [hk] at hw1
        cases hw1
      | succ i => exact trO_ops l _ _ _ h5 i o1 tm1 H1 v1 (by simpa using ho) (by simpa using ht) hw1
theorem kind1_symAtW {P : Program} {C : Cfg} {f : Nat} {o : Oper} (hk : kindOf P o.op = 1) : symAtW C f o = false := by
  obtain ⟨dst, op, type, pos, after, guard⟩ := o
  cases op <;> first
    | rfl
    | (cases hk; done)
    | skip
  case call c =>
    obtain ⟨callee, args, ts⟩ := c
    cases callee <;> first
      | rfl
      | skip
    rename_i b
    cases b <;> first
      | rfl
      | (cases hk; done)
theorem symOp_heap {P : Program} {G : Nat} {e : Operand → Value} {H1 H2 : CH} {o : Op} (hk : kindOf P o = 1) (h : H1[blkOf e o]? = H2[blkOf e o]?) : symOp P G e H1 o = symOp P G e H2 o := by
  cases o <;> first
    | rfl
    | skip
  case lookup t x k ok =>
    cases ok with
    | true => rfl
    | false =>
      show cond (okOpd G x && okOpd G k) (symLook P H1 t (e x) (e k)) none = cond (okOpd G x && okOpd G k) (symLook P H2 t (e x) (e k)) none
      have h' : H1[match e x with
        | .map (some b) => b
        | _ => 0]? = H2[match e x with
        | .map (some b) => b
        | _ => 0]? := h
      congr 1
      generalize e x = u at h' ⊢
      cases u with
      | map a =>
        cases a with
        | none => unfold symLook; split <;> first | rfl | contradiction | simp_all
        | some b =>
          dsimp only at h'
          unfold symLook
          split <;> first | rfl | contradiction | simp_all
      | _ => unfold symLook; split <;> first | rfl | contradiction | simp_all
  case slice t x lo hi mx => cases lo <;> cases hi <;> cases mx <;> rfl
  case load t x =>
    show cond (okOpd G x) (match e x with
      | .pointer (some ⟨b, off, none⟩) => symLoad P H1 t b off
      | _ => none) none = cond (okOpd G x) (match e x with
      | .pointer (some ⟨b, off, none⟩) => symLoad P H2 t b off
      | _ => none) none
    have h' : H1[match e x with
      | .pointer (some a) => a.block
      | _ => 0]? = H2[match e x with
      | .pointer (some a) => a.block
      | _ => 0]? := h
    congr 1
    generalize e x = u at h' ⊢
    cases u with
    | pointer a =>
      cases a with
      | none => rfl
      | some a =>
        obtain ⟨b, off, spot⟩ := a
        cases spot with
        | none =>
          dsimp only at h' ⊢
          unfold symLoad
          rw [h']
        | some s => rfl
    | _ => rfl
theorem draw_core {self : Task → Option Res} (hself : SelfSound P G self) {ops : Array Oper} {tm tm' : Array Value} {H H' : CH} {tr : List (Array Value × CH × Value)} (hm1 : P.follows .mixedOrders = true) (hm2 : ordOk P ops (ancs ops) = true)
    (hrun : textRun self P G ops ops.toList tm H = some (tr, tm', H'))
    (hre : ∀ i o tm1 H1 v, ops[i]? = some o → tr[i]? = some (tm1, H1, v) → kindOf P o.op = 1 → Region.wanted o (yielded ops tm1) = true → ∀ p ∈ alts P ops (ancs ops) i, ∃ H2, opX self P G tm1 (heapAt tr H' p) o = some (v, H2))
    (w0 : World) (E : Env) (a : Act) (w : World) (ro' : Option Nat) (n id : Nat) (Q : Exit → Act → World → Prop) (hw : WR w0 G E H w) (ht : VRs E tm a.tmps)
    (hq : ∀ F a' w', WR w0 G (E ++ F) H' w' → VRs (E ++ F) tm' a'.tmps → a'.defers = a.defers → Q .normal a' w') : (Code.region id ops true).wpIn (FW ro') n P Q a w := by
  have hO := ordOk_spec hm2
  obtain ⟨tmF, HF, vF, e1, e2, e3, e4, e5, e6⟩ := textRun_spec _ _ _ _ _ _ hrun
  rw [Array.length_toList] at e3 e4
  have hst : ∀ i o, ops[i]? = some o → tr[i]? = some (tmF i, HF i, vF i) ∧ Stp self P G ops tmF HF vF i o := fun i o ho => e6 i o (by simpa using ho)
  have hat : ∀ p, p ≤ ops.size → heapAt tr H' p = HF p := by
    intro p hp
    unfold heapAt
    rcases Nat.lt_or_ge p ops.size with hl | hl
    · rw [(hst p _ (Array.getElem?_eq_getElem hl)).1]
    · have : p = ops.size := by omega
      subst this
      rw [List.getElem?_eq_none (by have := e5; simp at this; omega), e4]
  refine wpIn_region_any hm1 ?_
  refine draw_any (A := ancs ops) (tmF := tmF) (HF := HF) (vF := vF) (d0 := a.defers) (w0 := w0) (E0 := E) hself hO (fun i o ho => (hst i o ho).2) ?_ ro' n ?_ _ _ E a _ ⟨[], by simp⟩ ?_ ?_
  · intro i o ho hk hwant p hp
    have hple : p ≤ ops.size := by
      unfold alts at hp
      rw [List.mem_filter] at hp
      rcases List.mem_append.1 hp.1 with h | h
      · unfold effIdx at h
        rw [List.mem_filter] at h
        exact Nat.le_of_lt (List.mem_range.1 h.1)
      · simp at h; omega
    obtain ⟨H2, hop⟩ := hre i o _ _ _ ho (hst i o ho).1 hk hwant p hp
    rw [hat p hple] at hop
    exact ⟨H2, hop⟩
  · intro F a' w' h1 h2 h3
    rw [e4] at h1
    rw [e3] at h2
    exact hq F a' w' h1 h2 h3
  · have hno : ∀ i, ¬ inD (Array.replicate ops.size false) i := by
      intro i hi
      unfold inD at hi
      have := inD_lt (listed := Array.replicate ops.size false) hi
      simp at this
      simp [this] at hi
    obtain ⟨p, h1, h2, h3, h4⟩ := next_eff P ops _ 0 rfl (Nat.zero_le _)
    refine ⟨by simp, fun i j hi => absurd hi (hno i), by rw [e1]; exact ht.size.symm, fun k o d hk => absurd hk (hno k), ?_, ⟨p, h2, h3, ?_, ?_⟩, rfl⟩
    · intro t x hx _
      rw [e1] at hx
      exact ht.get hx
    · intro k o hok hk
      constructor
      · intro hd; exact absurd hd (hno k)
      · intro hkp; exact absurd hk (h4 k o (Nat.zero_le _) hkp hok)
    · have : HF p = HF 0 := by
        have := heap_const (fun i o ho => (hst i o ho).2) 0 p (by omega) (fun k ok a1 a2 a3 => h4 k ok a1 (by omega) a3)
        rwa [Nat.zero_add] at this
      rw [this, e2]
      exact hw.draws _
  · unfold un
    have : ((List.range ops.size).countP fun i => !(Array.replicate ops.size false).getD i false) ≤ (List.range ops.size).length := List.countP_le_length
    simpa using this
theorem heapQ_eqO (tr : List (TM × CH × Value)) (H' : CH) (p : Nat) : heapAt (tr.map absE) H' p = heapQ tr H' p := by
  unfold heapAt heapQ
  rw [List.getElem?_map]
  cases tr[p]? <;> rfl
theorem region_sel (hw : OSound P G w) {f id : Nat} {ops : Array Oper} {d : Bool} {tm : TM} {H : CH} {r : TM × CH} {ro : Option Nat} {df : List Nat} (h : (regionO w P G C f ops d tm H).sel = some r) :
    Sound P G (.code (.region id ops d) ro (absT tm) H df) (.ex .normal (absT r.1) r.2 df) := by
  unfold regionO at h
  cases d with
  | true =>
    have h' : (drawO w P G C f ops tm H).sel = some r := h
    unfold drawO at h'
    cases hm : (P.follows .mixedOrders && ordOk P ops (ancs ops)) with
    | false => rw [hm] at h'; cases h'
    | true =>
      rw [hm] at h'
      obtain ⟨u, h1, h2⟩ := Out.bind_some (o := trO w P G C f ops ops.toList tm H) (f := drawEndO P G C f ops) h'
      obtain ⟨hsame, h3⟩ := ifSame_some (k := some (u.2.1, u.2.2)) h2
      cases h3
      rw [Bool.and_eq_true] at hm
      have hrun := trO_sel _ _ _ _ h1
      intro w0 E a w1 ro' n Q hw1 ht hd hr hq
      refine ⟨draw_core (qS_selfSound hw) hm.1 hm.2 hrun ?_ w0 E a w1 ro' n id Q hw1 ht fun F a' w' g1 g2 g3 => hq F a' w' g1 g2 (by rw [g3]; exact hd.mono F), fun b hb => by cases hb⟩
      intro i o tm1 H1 v ho hti hk hwant p hp
      rw [List.getElem?_map] at hti
      cases htu : u.1[i]? with
      | none => rw [htu] at hti; cases hti
      | some t =>
        rw [htu] at hti
        obtain ⟨tmq, Hq, vq⟩ := t
        cases hti
        rw [← wantQ_eq] at hwant
        have hlt : i < ops.size := (Array.getElem?_eq_some_iff.1 ho).1
        have hmem := hsame (altO P G C f u.1 u.2.2 o tmq Hq vq p) (by
          unfold samesO
          rw [List.mem_flatMap]
          refine ⟨i, List.mem_range.2 hlt, ?_⟩
          rw [ho, htu]
          show _ ∈ altsO P G C f ops (ancs ops) u.1 u.2.2 i o tmq Hq vq
          unfold altsO
          rw [hk, show wantQ ops tmq o = true from hwant]
          exact List.mem_map.2 ⟨p, hp, rfl⟩)
        unfold altO at hmem
        rw [heapQ_eqO]
        cases hsy : symAt C f o.dst with
        | true =>
          rw [hsy] at hmem
          have hmem' : (heapQ u.1 u.2.2 p)[blkOf (evH tmq) o.op]? = Hq[blkOf (evH tmq) o.op]? := hmem
          obtain ⟨H2, hop⟩ := trO_ops _ _ _ _ h1 i o tmq Hq vq (by simpa using ho) htu hwant
          have hop0 := hop
          unfold opO at hop
          cases hfl : flAt C f o.dst with
          | true =>
            rw [hfl] at hop
            cases h0 : symF P G (evH tmq) o.op with
            | none => rw [h0] at hop; cases hop
            | some r0 =>
              rw [h0] at hop
              obtain ⟨b0, x0⟩ := r0
              have h2 : cond b0 (some (x0, Hq)) (some (wildV, Hq)) = some (vq, H2) := hop
              refine ⟨heapQ u.1 u.2.2 p, (symF_sound (self := selfA (qS w)) (H := heapQ u.1 u.2.2 p) h0).trans ?_⟩
              unfold pickW
              cases b0 <;> (cases h2; rfl)
          | false =>
          rw [hfl] at hop
          rw [kind1_symAtW hk, hsy] at hop
          obtain ⟨g1, _⟩ := symOut_sel (H := Hq) (x := symOp P G (evH tmq) Hq o.op) hop
          rw [← symOp_heap hk hmem'] at g1
          exact ⟨_, symOp_sound g1⟩
        | false =>
        rw [hsy] at hmem
        replace hmem : ((opQ noQ P G tmq (heapQ u.1 u.2.2 p) o).map fun r => coOf r.1) = some (coOf vq) := hmem
        cases hop : opQ noQ P G tmq (heapQ u.1 u.2.2 p) o with
        | none => rw [hop] at hmem; cases hmem
        | some x =>
          rw [hop] at hmem
          have hv : x.1 = vq := by
            have : coOf x.1 = coOf vq := Option.some.inj hmem
            unfold coOf at this
            injection this with this
            injection this
          have hx := opX_none_mono (self := selfA (qS w)) (opQ_sound (q := noQ) (self := fun _ => none) (fun t r h => by cases h) hop)
          refine ⟨x.2, ?_⟩
          rw [hx, ← hv]
  | false =>
    have h' : (opsO w P G C f ops ops.toList tm H).sel = some r := h
    have ho := opsO_sel _ _ _ _ h'
    rw [opsG_eq ops.toList 0 rfl] at ho
    refine code_sound (qS_selfSound hw) (drawX_sound (qS_selfSound hw)) (fun _ _ _ _ _ _ _ _ _ h => range_sound (qS_selfSound hw) h) (c := .region id ops false) (r := .ex .normal (absT r.1) r.2 df) ?_
    simp only [step]
    rw [if_neg (by simp), List.range_eq_range']
    have ho' : opsX (selfA (qS w)) P G ops (List.range' 0 ops.size) (absT tm) H = some (absT r.1, r.2) := by simpa using ho
    rw [ho']
open Classical in
noncomputable def two (t1 : Task) (r1 : Res) (t2 : Task) (r2 : Res) : Task → Option Res := fun t => if t = t1 then some r1 else if t = t2 then some r2 else none
theorem two_sound {t1 t2 : Task} {r1 r2 : Res} (h1 : Sound P G t1 r1) (h2 : Sound P G t2 r2) : SelfSound P G (two t1 r1 t2 r2) := by
  intro t r h
  unfold two at h
  split at h
  · rename_i ht; cases h; rw [ht]; exact h1
  · split at h
    · rename_i ht; cases h; rw [ht]; exact h2
    · cases h
theorem two_fst {t1 t2 : Task} {r1 r2 : Res} : two t1 r1 t2 r2 t1 = some r1 := by unfold two; rw [if_pos rfl]
theorem two_snd {t1 t2 : Task} {r1 r2 : Res} (h : t2 ≠ t1) : two t1 r1 t2 r2 t2 = some r2 := by unfold two; rw [if_neg h, if_pos rfl]
theorem code2 {t1 t2 : Task} {r1 r2 : Res} (h1 : Sound P G t1 r1) (h2 : Sound P G t2 r2) {c : Code} {ro : Option Nat} {tm : Array Value} {H : CH} {df : List Nat} {r : Res}
    (h : step (two t1 r1 t2 r2) P G (drawX (two t1 r1 t2 r2) P G) (.code c ro tm H df) = some r) : Sound P G (.code c ro tm H df) r :=
  code_sound (two_sound h1 h2) (drawX_sound (two_sound h1 h2)) (fun _ _ _ _ _ _ _ _ _ h => range_sound (two_sound h1 h2) h) h
theorem loop_ne_body (b : Code) : Code.loop b ≠ b := by
  intro h
  have := congrArg (fun c : Code => SizeOf.sizeOf c) h
  simp at this
theorem two_call {f : FuncId} {args : Array Value} {H : CH} {r1 r2 : Res} {c : Code} {ro : Option Nat} {tm : Array Value} {H2 : CH} {df : List Nat} : two (.call f args H) r1 (.code c ro tm H2 df) r2 (.code c ro tm H2 df) = some r2 := two_snd (fun h => by cases h)
theorem rangeO_sound (hw : OSound P G w) {f : Nat} {g : Operand} {ps : Array Tmp} {assign body : Code} {ro : Option Nat} {tm : TM} {H : CH} {df : List Nat} {r : QRes} (h : (rangeO w P G f g ps assign body ro tm H df).sel = some r) :
    Sound P G (.code (.rangeFunc g ps assign body) ro (absT tm) H df) r.abs := by
  unfold rangeO at h
  split at h
  case h_2 => cases h
  rename_i s hst
  cases hok : okOpd G g with
  | false => rw [hok] at h; cases h
  | true =>
    rw [hok] at h
    have h' : (rangeVO w P f ps assign body ro tm s (evH tm g)).sel = some r := h
    unfold rangeVO at h'
    split at h'
    case h_2 => cases h'
    rename_i k first cap hev
    split at h'
    case h_2 => cases h'
    rename_i fn hfn
    split at h'
    case isTrue => cases h'
    rename_i hn
    split at h'
    case isTrue => cases h'
    rename_i hb
    obtain ⟨u, h1, h2⟩ := Out.bind_some h'
    have hs1 := hw _ _ h1
    cases u with
    | ex x tm1 H1 df1 => cases h2
    | val v3 H3 =>
      have h2' := h2
      unfold rangeEndO at h2'
      dsimp only at h2'
      split at h2'
      case h_2 => cases h2'
      rename_i r3 hr3
      split at h2'
      case isTrue => cases h2'
      rename_i hbusy
      obtain ⟨H1, df1, d⟩ := s
      have fin : ∀ (t2 : Task) (r2 : Res), Sound P G t2 r2 → (match r3.pending with
          | none => some (Res.ex .normal (absT tm) (H3.set H1.length (.loop { r3 with state := .exhausted })) df1)
          | some c => two (.call k (first ++ #[.func (.yield H1.length) #[] #[]] ++ cap) (H1.push (.loop { state := .ready, pending := none, fn := f, tmps := absT tm, params := ps, assign, body, defers := d }))) (.val v3 H3) t2 r2
              (.code c ro (absT tm) (H3.set H1.length (.loop { r3 with state := .exhausted })) df1)) = some r.abs →
          Sound P G (.code (.rangeFunc g ps assign body) ro (absT tm) H df) r.abs := by
        intro t2 r2 hs2 hq
        refine range_sound (fnr := f) (two_sound hs1 hs2) ?_
        unfold rangeX
        dsimp only
        rw [hst]
        dsimp only
        rw [if_pos hok, ← evH_fun, hev]
        dsimp only
        rw [hfn]
        dsimp only
        rw [if_neg hn, if_neg hb]
        show (match two _ _ t2 r2 (Task.call k (first ++ #[.func (.yield H1.length) #[] #[]] ++ cap) (H1.push (.loop { state := .ready, pending := none, fn := f, tmps := absT tm, params := ps, assign, body, defers := d }))) with
          | some (.val _ H3) => _
          | _ => none) = _
        erw [two_fst]
        dsimp only [QRes.abs]
        rw [hr3]
        dsimp only
        rw [if_neg hbusy]
        exact hq
      cases hp : r3.pending with
      | none =>
        rw [hp] at h2'
        cases h2'
        exact fin _ _ hs1 (by rw [hp]; rfl)
      | some c =>
        rw [hp] at h2'
        have hs2 := hw _ _ h2'
        refine fin _ _ hs2 ?_
        rw [hp]
        exact two_call
theorem roundO_sound (hw : OSound P G w) {l : Nat} {args : Array Value} {H : CH} {r : QRes} (h : (roundO w G l args H).sel = some r) : Sound P G (.round l args H) r.abs := by
  unfold roundO at h
  split at h
  case isFalse => cases h
  rename_i hG
  split at h
  case h_2 => cases h
  rename_i r0 hr0
  split at h
  case isFalse => cases h
  rename_i hsz
  obtain ⟨u, h1, h2⟩ := Out.bind_some h
  have hs1 := hw _ _ h1
  cases u with
  | val v H1 => cases h2
  | ex x tm1 H1 df1 =>
    cases x with
    | exit id => cases h2
    | ret => cases h2
    | normal =>
      have h2' := h2
      unfold roundEnd1 at h2'
      dsimp only at h2'
      split at h2'
      case h_2 => cases h2'
      rename_i r1 hr1
      split at h2'
      case isFalse => cases h2'
      rename_i hready
      obtain ⟨u2, h3, h4⟩ := Out.bind_some h2'
      have hs2 := hw _ _ h3
      cases u2 with
      | val v H2 => cases h4
      | ex x2 tm2 H3 df3 =>
        have h4' := h4
        unfold roundEnd2 at h4'
        dsimp only at h4'
        split at h4'
        case h_2 => cases h4'
        rename_i r3 hr3
        cases h4'
        have ht1 : (OTask.code r0.fn r0.assign (some l) (ofArr ((r0.params.zip args).foldl (fun tmps (t, a) => tmps.setIfInBounds t a) r0.tmps)) H []).abs = .code r0.assign (some l) ((r0.params.zip args).foldl (fun tmps (t, a) => tmps.setIfInBounds t a) r0.tmps) H [] := by
          show Task.code _ _ (absT (ofArr _)) _ _ = _
          rw [ofArr_abs]
        rw [ht1] at hs1
        have key : ∀ (self : Task → Option Res), SelfSound P G self → self (.code r0.assign (some l) ((r0.params.zip args).foldl (fun tmps (t, a) => tmps.setIfInBounds t a) r0.tmps) H []) = some (.ex .normal (absT tm1) H1 df1) →
            self (.code r0.body (some l) (absT tm1) (H1.set l (.loop { r1 with state := .busy })) df1) = some (.ex x2 (absT tm2) H3 df3) →
            Sound P G (.round l args H) (QRes.val (.bool (jumpOf x2).isNone) (H3.set l (.loop { r3 with state := if (jumpOf x2).isNone then .ready else .done, pending := jumpOf x2 }))).abs := by
          intro self hself e1 e2
          refine round_sound hself ?_
          unfold roundX
          rw [if_pos hG, hr0]
          dsimp only
          rw [if_pos hsz.2, e1]
          dsimp only
          rw [hr1]
          dsimp only
          rw [if_pos hready, e2]
          dsimp only
          rw [hr3]
          rfl
        by_cases heq : Task.code r0.body (some l) (absT tm1) (H1.set l (.loop { r1 with state := .busy })) df1 = Task.code r0.assign (some l) ((r0.params.zip args).foldl (fun tmps (t, a) => tmps.setIfInBounds t a) r0.tmps) H []
        · exfalso
          injection heq with _ _ _ hH _
          have hset : (H1.set l (.loop { r1 with state := .busy }))[l]? = some (.loop { r1 with state := .busy }) := by
            rw [Hp.get_set, if_pos rfl, if_pos (Hp.lt hr1)]
          rw [hH, hr0] at hset
          have hst0 : r0.state = .busy := by
            have := Option.some.inj hset
            injection this with this
            rw [this]
          rw [hst0] at hsz
          cases hsz.1
        · exact key (two _ _ _ _) (two_sound hs1 hs2) two_fst (two_snd heq)
theorem codeO_sound (hL : LSound P G C.L) (hw : OSound P G w) {f : Nat} {c : Code} {ro : Option Nat} {tm : TM} {H : CH} {df : List Nat} {r : QRes} (h : (codeO w P G C f c ro tm H df).sel = some r) : Sound P G (.code c ro (absT tm) H df) r.abs := by
  have one : ∀ {t1 : Task} {r1 : Res}, Sound P G t1 r1 → ∀ {c : Code} {r : Res}, step (two t1 r1 t1 r1) P G (drawX (two t1 r1 t1 r1) P G) (.code c ro (absT tm) H df) = some r → Sound P G (.code c ro (absT tm) H df) r := fun h1 => fun h => code2 h1 h1 h
  have triv : ∀ {c : Code} {r : Res}, step (fun _ => none) P G (drawX (fun _ => none) P G) (.code c ro (absT tm) H df) = some r → Sound P G (.code c ro (absT tm) H df) r := by
    intro c r h
    have hn : SelfSound P G (fun _ => none) := fun t r h => by cases h
    exact code_sound hn (drawX_sound hn) (fun _ _ _ _ _ _ _ _ _ h => range_sound hn h) h
  cases c with
  | skip => cases h; exact triv rfl
  | label l => cases h; exact triv rfl
  | exit id => cases h; exact triv rfl
  | ret => cases h; exact triv rfl
  | scope b =>
    have h' : (w (.code f b ro tm H df)).sel = some r := h
    refine one (hw _ _ h') ?_
    show two _ _ _ _ (Task.code b ro (absT tm) H df) = some r.abs
    exact two_fst
  | cond o x y =>
    have h' : (cond (okOpd G o) (condO w f x y ro tm H df (evH tm o)) .fail).sel = some r := h
    cases hok : okOpd G o with
    | false => rw [hok] at h'; cases h'
    | true =>
      rw [hok] at h'
      have h2 : (condO w f x y ro tm H df (evH tm o)).sel = some r := h'
      unfold condO at h2
      split at h2
      case h_2 => cases h2
      rename_i b hev
      refine one (hw _ _ h2) ?_
      simp only [step]
      rw [if_pos hok, ← evH_fun, hev]
      dsimp only
      have : (if b = true then x else y) = cond b x y := by cases b <;> rfl
      rw [this]
      exact two_fst
  | block id b =>
    obtain ⟨a, h1, h2⟩ := Out.bind_some (o := w (.code f b ro tm H df)) (f := blockO id) h
    refine one (hw _ _ h1) ?_
    simp only [step]
    rw [show two (OTask.code f b ro tm H df).abs a.abs (OTask.code f b ro tm H df).abs a.abs (Task.code b ro (absT tm) H df) = some a.abs from two_fst]
    cases a with
    | val v H1 => cases h2
    | ex x tm1 H1 df1 =>
      cases x with
      | normal => cases h2; rfl
      | ret => cases h2; rfl
      | exit id' => cases h2; rfl
  | seq a b =>
    obtain ⟨u, h1, h2⟩ := Out.bind_some (o := w (.code f a ro tm H df)) (f := seqO w f b ro) h
    cases u with
    | val v H1 => cases h2
    | ex x tm1 H1 df1 =>
      have hs1 := hw _ _ h1
      cases x with
      | normal =>
        have hs2 := hw (.code f b ro tm1 H1 df1) r h2
        cases r with
        | val v H2 => exact hs2.elim
        | ex x2 tm2 H2 df2 => exact Sound.chain hs1 hs2
      | ret =>
        cases h2
        refine one hs1 ?_
        simp only [step]
        rw [show two (OTask.code f a ro tm H df).abs (QRes.ex .ret tm1 H1 df1).abs (OTask.code f a ro tm H df).abs (QRes.ex .ret tm1 H1 df1).abs (Task.code a ro (absT tm) H df) = some (QRes.ex .ret tm1 H1 df1).abs from two_fst]
        rfl
      | exit id =>
        cases h2
        refine one hs1 ?_
        simp only [step]
        rw [show two (OTask.code f a ro tm H df).abs (QRes.ex (.exit id) tm1 H1 df1).abs (OTask.code f a ro tm H df).abs (QRes.ex (.exit id) tm1 H1 df1).abs (Task.code a ro (absT tm) H df) = some (QRes.ex (.exit id) tm1 H1 df1).abs from two_fst]
        rfl
  | loop b =>
    have h0 : (loopO (.loop b) (C.L f (firstReg b) tm H df) ((w (.code f b ro tm H df)).bind (seqO w f (.loop b) ro))).sel = some r := h
    unfold loopO at h0
    split at h0
    · rename_i c o hc
      obtain ⟨h1, h2⟩ := ifCode_some (a := .loop b) (b := c) (k := o.sel) h0
      subst h1
      exact hL f _ tm H df (.loop b) o r ro hc h2
    rename_i hc
    obtain ⟨u, h1, h2⟩ := Out.bind_some (o := w (.code f b ro tm H df)) (f := seqO w f (.loop b) ro) h0
    cases u with
    | val v H1 => cases h2
    | ex x tm1 H1 df1 =>
      have hs1 := hw _ _ h1
      cases x with
      | normal =>
        have hs2 := hw (.code f (.loop b) ro tm1 H1 df1) r h2
        refine code2 hs1 hs2 ?_
        simp only [step]
        rw [show two (OTask.code f b ro tm H df).abs (QRes.ex .normal tm1 H1 df1).abs (OTask.code f (.loop b) ro tm1 H1 df1).abs r.abs (Task.code b ro (absT tm) H df) = some (QRes.ex .normal tm1 H1 df1).abs from two_fst]
        dsimp only [QRes.abs]
        refine two_snd ?_
        intro he
        exact loop_ne_body b (Task.code.inj he).1
      | ret =>
        cases h2
        refine one hs1 ?_
        simp only [step]
        rw [show two (OTask.code f b ro tm H df).abs (QRes.ex .ret tm1 H1 df1).abs (OTask.code f b ro tm H df).abs (QRes.ex .ret tm1 H1 df1).abs (Task.code b ro (absT tm) H df) = some (QRes.ex .ret tm1 H1 df1).abs from two_fst]
        rfl
      | exit id =>
        cases h2
        refine one hs1 ?_
        simp only [step]
        rw [show two (OTask.code f b ro tm H df).abs (QRes.ex (.exit id) tm1 H1 df1).abs (OTask.code f b ro tm H df).abs (QRes.ex (.exit id) tm1 H1 df1).abs (Task.code b ro (absT tm) H df) = some (QRes.ex (.exit id) tm1 H1 df1).abs from two_fst]
        rfl
  | region id ops d =>
    have h0 : (loopO (.region id ops d) (cond d (C.L f (id + 500000) tm H df) none) ((regionO w P G C f ops d tm H).bind fun r => .leaf (.ex .normal r.1 r.2 df))).sel = some r := h
    unfold loopO at h0
    split at h0
    · rename_i c o hc
      obtain ⟨h1, h2⟩ := ifCode_some (a := .region id ops d) (b := c) (k := o.sel) h0
      subst h1
      cases d with
      | false => cases hc
      | true => exact hL f _ tm H df _ o r ro hc h2
    obtain ⟨u, h1, h2⟩ := Out.bind_some (o := regionO w P G C f ops d tm H) (f := fun r => Out.leaf (QRes.ex .normal r.1 r.2 df)) h0
    cases h2
    exact region_sel hw h1
  | rangeFunc g ps assign body => exact rangeO_sound hw h
  | _ => cases h
theorem callXO_sound (hw : OSound P G w) {f : FuncId} {args : Array Value} {H : CH} {r : QRes} (h : (callXO w P G f args H).sel = some r) : Sound P G (.call f args H) r.abs := by
  unfold callXO at h
  split at h
  case h_2 => cases h
  rename_i fn hfn
  unfold enterO at h
  split at h
  case h_2 => cases h
  rename_i c hc
  obtain ⟨u, h1, h2⟩ := Out.bind_some h
  have hs := hw _ _ h1
  cases u with
  | val v H1 => cases h2
  | ex x tm H1 df =>
    have h3 : valQ P fn tm (closeS G H1 df) = some r ∧ ∀ id, x ≠ .exit id := by
      cases x with
      | exit id => cases h2
      | normal =>
        have h2' : (Out.ofOpt (valQ P fn tm (closeS G H1 df))).sel = some r := h2
        rw [Out.sel_ofOpt] at h2'
        exact ⟨h2', fun _ he => by cases he⟩
      | ret =>
        have h2' : (Out.ofOpt (valQ P fn tm (closeS G H1 df))).sel = some r := h2
        rw [Out.sel_ofOpt] at h2'
        exact ⟨h2', fun _ he => by cases he⟩
    obtain ⟨h3, hx⟩ := h3
    have hs' : Sound P G (.code c none (args ++ Array.replicate (fn.ntmps - args.size) undef) H []) (.ex x (absT tm) H1 df) := by
      have : (OTask.code f c none (ofArgs args.toList fn.ntmps) H []).abs = .code c none (args ++ Array.replicate (fn.ntmps - args.size) undef) H [] := by
        show Task.code c none (absT (ofArgs args.toList fn.ntmps)) H [] = _
        rw [ofArgs_abs]
        congr 1
        apply Array.toList_inj.1
        simp
      rw [this] at hs
      exact hs
    refine call_sound (two_sound hs' hs') ?_
    unfold callX
    rw [hfn]
    dsimp only
    rw [hc]
    dsimp only
    rw [two_fst]
    dsimp only
    unfold valQ at h3
    split at h3
    · rename_i H2 hcl
      obtain ⟨vs, g1, g2⟩ := map_some' h3
      subst g2
      rw [← results_eq] at g1
      cases x with
      | exit id => exact absurd rfl (hx id)
      | normal => dsimp only; rw [hcl]; dsimp only; rw [g1]; rfl
      | ret => dsimp only; rw [hcl]; dsimp only; rw [g1]; rfl
    · cases h3
theorem alt_mod (f : Nat) (h : f < 1000000) : (f + 1000000) % 1000000 = f ∧ (f + 2000000) % 1000000 = f ∧ (f + 3000000) % 1000000 = f := by omega
theorem tabO_sel {f : FuncId} {args : Array Value} {H : CH} (hT : TSound P G C.T) (k : Nat) {alt slow : Out QRes} {r : QRes} (hf : f % 1000000 = k) (h : (tabO (C.T f args.toList H) alt slow).sel = some r) :
    Sound P G (.call k args H) r.abs ∨ alt.sel = some r ∨ slow.sel = some r := by
  unfold tabO at h
  split at h
  · rename_i b v H1 l ht
    have h0 : ifSame l (cond b (some (QRes.val v H1)) alt.sel) = some r := h
    obtain ⟨h1, h'⟩ := ifSame_some h0
    cases b with
    | true =>
      cases h'
      have := hT f args.toList H (some true) v H1 l ht rfl h1
      rw [hf] at this
      exact .inl this
    | false => exact .inr (.inl h')
  · rename_i v H1 l ht
    have h0 : ifSame l (some (QRes.val v H1)) = some r := h
    obtain ⟨h1, h2⟩ := ifSame_some h0
    cases h2
    have := hT f args.toList H none v H1 l ht rfl h1
    rw [hf] at this
    exact .inl this
  · exact .inr (.inr h)
theorem stepO_sound (hT : TSound P G C.T) (hL : LSound P G C.L) (hw : OSound P G w) : OSound P G (stepO w P G C) := by
  intro t r h
  cases t with
  | code f c ro tm H df => exact codeO_sound hL hw h
  | round l args H => exact roundO_sound hw h
  | call f args H =>
    have h' : (tabA C f args H (callXO w P G f args H)).sel = some r := h
    unfold tabA at h'
    cases hf : Nat.blt f 1000000 with
    | false => rw [hf] at h'; exact callXO_sound hw h'
    | true =>
      rw [hf] at h'
      have hlt : f < 1000000 := by
        rw [blt_eq, decide_eq_true_eq] at hf
        exact hf
      have hfail : ∀ {q : QRes}, (Out.fail : Out QRes).sel = some q → False := fun h => by cases h
      rcases tabO_sel hT f (Nat.mod_eq_of_lt hlt) h' with g | g | g
      · exact g
      · rcases tabO_sel hT f (alt_mod f hlt).1 g with g | g | g
        · exact g
        · rcases tabO_sel hT f (alt_mod f hlt).2.1 g with g | g | g
          · exact g
          · rcases tabO_sel hT f (alt_mod f hlt).2.2 g with g | g | g
            · exact g
            · exact (hfail g).elim
            · exact (hfail g).elim
          · exact (hfail g).elim
        · exact (hfail g).elim
      · exact callXO_sound hw g
end
theorem execO_sound {P : Program} {G : Nat} {C : Cfg} (hT : TSound P G C.T) (hL : LSound P G C.L) : ∀ n, OSound P G (execO P G C n)
  | 0 => fun t r h => by cases h
  | n + 1 => stepO_sound hT hL (execO_sound hT hL n)
end Go.Ex
