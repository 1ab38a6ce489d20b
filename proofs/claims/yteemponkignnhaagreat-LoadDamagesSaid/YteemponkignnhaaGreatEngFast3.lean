/- Part of the proof. -/
import Derived.Test.YteemponkignnhaaGreatEngFast2
noncomputable section
namespace Go.Ex
open Go.RowKit
def rowOf (cs : List Value) (off n : Nat) : Option (List Value) :=
  cond (Nat.ble n (cs.drop off).length) (some ((cs.drop off).take n)) none
def rowF (H : CH) (b off n : Nat) : Option (List Value) :=
  match H[b]? with
  | some (.cells cs _ _ _) => rowOf cs off n
  | _ => none
theorem row_eq {H : CH} {b : Nat} {cs : List Value} {t : TypeId} {s : Nat} {ex : Bool} (h : H[b]? = some (.cells cs t s ex)) : ∀ (n off : Nat) (xs : List Value), n ≤ (cs.drop off).length → (cs.drop off).take n = xs → H.row? b off n = some xs
  | 0, off, xs, _, hx => by simp at hx; subst hx; rfl
  | n + 1, off, xs, hn, hx => by
    rw [List.length_drop] at hn
    have hlt : off < cs.length := by omega
    have hc : H.cell? b off = some cs[off] := by
      unfold CH.cell?
      rw [h]
      exact List.getElem?_eq_getElem hlt
    simp only [CH.row?, hc]
    have := row_eq h n (off + 1) ((cs.drop (off + 1)).take n) (by rw [List.length_drop]; omega) rfl
    rw [this]
    rw [List.drop_eq_getElem_cons hlt, List.take_succ_cons] at hx
    rw [← hx]; rfl
theorem rowF_sound {H : CH} {b off n : Nat} {xs : List Value} (h : rowF H b off n = some xs) : H.row? b off n = some xs := by
  unfold rowF at h
  split at h
  case h_2 => cases h
  rename_i cs t s ex hb
  unfold rowOf at h
  rw [cond_eq] at h
  split at h
  case isFalse => cases h
  rename_i hn
  cases h
  exact row_eq hb n off _ (Nat.le_of_ble_eq_true hn) rfl
def aggF (r : Option (List Value)) : Option Value :=
  match r with
  | some xs => some (.agg ⟨xs⟩)
  | none => none
def loadSF (P : Program) (H : CH) (t : TypeId) (b off : Nat) : Option Value :=
  match aggB P t with
  | some true => match P.info? t with
    | some i => aggF (rowF H b off i.size)
    | none => none
  | some false => H.cell? b off
  | none => none
theorem loadSF_sound {P : Program} {H : CH} {t : TypeId} {b off : Nat} {v : Value} (h : loadSF P H t b off = some v) : loadS P H t b off = some v := by
  unfold loadSF at h
  unfold loadS
  split at h
  · rename_i ha
    rw [ha]
    dsimp only
    split at h
    · rename_i i hi
      rw [hi]
      dsimp only
      unfold aggF at h
      split at h
      · rename_i xs hx
        cases h
        rw [rowF_sound hx]; rfl
      · cases h
    · cases h
  · rename_i ha; rw [ha]; exact h
  · cases h
theorem Tr.set_set {α : Type} (x y : α) : ∀ (f : Nat) (t : Tr α) (n : Nat), Tr.setf x f (Tr.setf y f t n) n = Tr.setf x f t n
  | 0, _, _ => rfl
  | f + 1, t, 0 => rfl
  | f + 1, t, n + 1 => by
    rw [Tr.setf_succ, Tr.setf_succ, Tr.setf_succ]
    cases Nat.beq (n % 2) 0 with
    | true =>
      simp only [cond]
      show Tr.node (Tr.setf x f (Tr.setf y f t.left (n / 2)) (n / 2)) t.val t.right = _
      rw [Tr.set_set x y f]
    | false =>
      simp only [cond]
      show Tr.node t.left t.val (Tr.setf x f (Tr.setf y f t.right (n / 2)) (n / 2)) = _
      rw [Tr.set_set x y f]
theorem Hp.set_set {α : Type} (h : Hp α) (i : Nat) (x y : α) : (h.set i y).set i x = h.set i x := by
  unfold Hp.set
  simp only [Tr.set_set]
theorem storeRow_at {G : Nat} {b : Nat} (hG : G ≤ b) {t : TypeId} {s : Nat} {ex : Bool} : ∀ (v : Value) (vs : List Value) (H : CH) (off : Nat) (cs : List Value), H[b]? = some (.cells cs t s ex) → off + (v :: vs).length ≤ cs.length → (v :: vs).all oneB = true →
    storeRow G H b off (v :: vs) = some (H.set b (.cells (cs.take off ++ (v :: vs) ++ cs.drop (off + (v :: vs).length)) t s ex))
  | v, vs, H, off, cs, hb, hl, ha => by
    rw [List.all_cons, Bool.and_eq_true] at ha
    rw [List.length_cons] at hl
    have h1 : H.set? G b off v = some (H.set b (.cells (cs.set off v) t s ex)) := by
      unfold CH.set?
      rw [if_pos hG, hb]
      dsimp only
      rw [if_pos (by omega)]
    have hset : cs.set off v = cs.take off ++ v :: cs.drop (off + 1) := by
      rw [List.set_eq_take_append_cons_drop, if_pos (by omega)]
    simp only [storeRow, ha.1, if_true, h1]
    cases vs with
    | nil =>
      simp only [storeRow]
      rw [hset]
      simp
    | cons u us =>
      have hb1 : (H.set b (.cells (cs.set off v) t s ex))[b]? = some (.cells (cs.set off v) t s ex) := by
        rw [Hp.get_set, if_pos rfl, if_pos (Hp.lt hb)]
      rw [storeRow_at hG u us _ (off + 1) (cs.set off v) hb1 (by rw [List.length_set]; simp only [List.length_cons] at hl ⊢; omega) ha.2, Hp.set_set]
      congr 3
      have hlen : (cs.take off).length = off := by rw [List.length_take]; omega
      rw [hset]
      have e1 : (cs.take off).take (off + 1) = cs.take off := List.take_of_length_le (by rw [hlen]; omega)
      have e2 : (cs.take off).drop (off + 1 + (u :: us).length) = [] := List.drop_eq_nil_of_le (by rw [hlen]; omega)
      have e3 : (v :: cs.drop (off + 1)).drop (off + 1 + (u :: us).length - off) = cs.drop (off + (v :: u :: us).length) := by
        rw [show off + 1 + (u :: us).length - off = (u :: us).length + 1 from by omega, List.drop_succ_cons, List.drop_drop]
        congr 1
        simp only [List.length_cons]; omega
      rw [List.take_append, hlen, List.drop_append, hlen, e1, e2, e3, show off + 1 - off = 1 from by omega]
      simp
def spliceF (H : CH) (b : Nat) (vs cs : List Value) (off : Nat) (t : TypeId) (s : Nat) (ex : Bool) : Option CH :=
  cond (Nat.ble (off + vs.length) cs.length && vs.all oneB) (some (H.set b (.cells (cs.take off ++ vs ++ cs.drop (off + vs.length)) t s ex))) none
def storeRowF (G : Nat) (H : CH) (b off : Nat) (vs : List Value) : Option CH :=
  match vs with
  | [] => none
  | [_] => none
  | vs => cond (Nat.ble G b) (match H[b]? with
    | some (.cells cs t s ex) => spliceF H b vs cs off t s ex
    | _ => none) none
theorem storeRowF_sound {G : Nat} {H H' : CH} {b off : Nat} {vs : List Value} (h : storeRowF G H b off vs = some H') : storeRow G H b off vs = some H' := by
  unfold storeRowF at h
  split at h
  · cases h
  · cases h
  · rename_i hne _
    rw [cond_eq] at h
    split at h
    case isFalse => cases h
    rename_i hG
    split at h
    case h_2 => cases h
    rename_i cs t s ex hb
    unfold spliceF at h
    rw [cond_eq] at h
    split at h
    case isFalse => cases h
    rename_i hc
    rw [Bool.and_eq_true] at hc
    cases h
    cases vs with
    | nil => exact absurd rfl hne
    | cons v vs => exact storeRow_at (Nat.le_of_ble_eq_true hG) v vs H off cs hb (Nat.le_of_ble_eq_true hc.1) hc.2
def storeSF (P : Program) (G : Nat) (H : CH) (t : TypeId) (b off : Nat) (v : Value) : Option CH :=
  match P.info? t with
  | some i => cond (Nat.beq v.cells.toList.length i.size) (match storeRowF G H b off v.cells.toList with
    | some H' => some H'
    | none => storeRow G H b off v.cells.toList) none
  | none => none
theorem storeSF_sound {P : Program} {G : Nat} {H H' : CH} {t : TypeId} {b off : Nat} {v : Value} (h : storeSF P G H t b off v = some H') : storeS P G H t b off v = some H' := by
  unfold storeSF at h
  unfold storeS
  cases hi : P.info? t with
  | none => rw [hi] at h; cases h
  | some i =>
    rw [hi] at h
    dsimp only at h ⊢
    rw [cond_eq] at h
    split at h
    case isFalse => cases h
    rename_i hs
    rw [if_pos (by have := Nat.eq_of_beq_eq_true hs; simpa using this)]
    split at h
    · rename_i H1 h1
      cases h
      exact storeRowF_sound h1
    · exact h
def partF (P : Program) (t : TypeId) (cs : List Value) (off : Nat) : Option Value :=
  match aggB P t with
  | some true => match P.info? t with
    | some i => some (.agg ⟨(cs.drop off).take i.size⟩)
    | none => none
  | some false => cs[off]?
  | none => none
theorem partF_eq (P : Program) (t : TypeId) (cs : Array Value) (off : Nat) : partF P t cs.toList off = partS P t cs off := by
  unfold partF partS
  cases aggB P t with
  | none => rfl
  | some g =>
    cases g with
    | false => simp
    | true =>
      cases P.info? t with
      | none => rfl
      | some i =>
        dsimp only
        congr 2
        apply Array.toList_inj.1
        simp
def indexVF (P : Program) (H : CH) (t : TypeId) (cs : Array Value) (n : Int) : Option (Value × CH) :=
  match P.underlying t with
  | some (.array m e) => cond (leF 0 n && ltF n (.ofNat m)) (match P.info? e with
    | some j => (partF P e cs.toList (n.toNat * j.size)).map (·, H)
    | none => none) none
  | _ => none
theorem indexVF_eq (P : Program) (H : CH) (t : TypeId) (cs : Array Value) (n : Int) : indexVF P H t cs n = (indexS P t (.agg cs) n).map (·, H) := by
  unfold indexVF indexS
  dsimp only
  cases P.underlying t with
  | none => rfl
  | some d =>
    cases d with
    | array m e =>
      dsimp only
      simp only [leF_eq, ltF_eq, cond_eq, Bool.and_eq_true, decide_eq_true_eq, partF_eq]
      by_cases hc : 0 ≤ n ∧ n < Int.ofNat m
      · have hc' : 0 ≤ n ∧ n < (m : Int) := hc
        rw [if_pos hc, if_pos hc']
        cases P.info? e <;> rfl
      · have hc' : ¬ (0 ≤ n ∧ n < (m : Int)) := hc
        rw [if_neg hc, if_neg hc']; rfl
    | _ => rfl
section
variable (self : Task → Option Res) (P : Program) (G : Nat)
def loadAtF2 (H : CH) (t : TypeId) (v : Value) : Option (Value × CH) :=
  match v with
  | .pointer (some ⟨b, off, none⟩) => (loadSF P H t b off).map (·, H)
  | _ => none
def storeAtF (H : CH) (t : TypeId) (v y : Value) : Option (Value × CH) :=
  match v with
  | .pointer (some ⟨b, off, none⟩) => (storeSF P G H t b off y).map (undef, ·)
  | _ => none
def indexF (tm : Array Value) (H : CH) (o : Oper) (t : TypeId) (x i : Operand) : Option (Value × CH) :=
  match ev tm x with
  | .agg cs => cond (okOpd G x && okOpd G i) (match ev tm i with
    | .int _ n => indexVF P H t cs n
    | _ => none) none
  | _ => slowF self P G tm H o
def tagOf (o : Op) : Nat :=
  match o with
  | .move _ => 0
  | .assign _ => 0
  | .binOp .. => 1
  | .pick .. => 2
  | .load .. => 3
  | .fieldAddr .. => 4
  | .indexAddr .. => 5
  | .extract .. => 6
  | .call { callee := .value _, .. } => 7
  | .index .. => 8
  | .store .. => 9
  | _ => 10
def dummy : Operand := .const undef
def arg1 (o : Op) : Operand :=
  match o with
  | .move x => x
  | .assign x => x
  | .binOp _ _ x _ _ => x
  | .pick c _ _ => c
  | .load _ x => x
  | .fieldAddr _ x _ => x
  | .indexAddr _ x _ => x
  | .extract x _ => x
  | .call { callee := .value f, .. } => f
  | .index _ x _ => x
  | .store _ x _ => x
  | _ => dummy
def arg2 (o : Op) : Operand :=
  match o with
  | .binOp _ _ _ y _ => y
  | .pick _ a _ => a
  | .indexAddr _ _ i => i
  | .index _ _ i => i
  | .store _ _ y => y
  | _ => dummy
def arg3 (o : Op) : Operand :=
  match o with
  | .pick _ _ b => b
  | _ => dummy
def typeOf (o : Op) : TypeId :=
  match o with
  | .load t _ => t
  | .fieldAddr t _ _ => t
  | .indexAddr t _ _ => t
  | .index t _ _ => t
  | .store t _ _ => t
  | _ => 0
def numOf (o : Op) : Nat :=
  match o with
  | .fieldAddr _ _ f => f
  | .extract _ i => i
  | _ => 0
def binOf (o : Op) : BinOp :=
  match o with
  | .binOp op _ _ _ _ => op
  | _ => .add
def argsOf (o : Op) : Array Operand :=
  match o with
  | .call { args, .. } => args
  | _ => #[]
def quickOr (q s : Option (Value × CH)) : Option (Value × CH) :=
  match q with
  | some r => some r
  | none => s
def opT3 (tm : Array Value) (H : CH) (o : Oper) (n : Nat) : Option (Value × CH) :=
  cond (Nat.beq n 4) (fieldAddrF P G tm H (typeOf o.op) (arg1 o.op) (numOf o.op))
    (cond (Nat.beq n 6) (extractF G tm H (arg1 o.op) (numOf o.op))
      (cond (Nat.beq n 8) (indexF self P G tm H o (typeOf o.op) (arg1 o.op) (arg2 o.op))
        (cond (Nat.beq n 9) (quickOr (cond (okOpd G (arg1 o.op) && okOpd G (arg2 o.op)) (storeAtF P G H (typeOf o.op) (ev tm (arg1 o.op)) (ev tm (arg2 o.op))) none) (slowF self P G tm H o))
          (slowF self P G tm H o))))
def opT2 (tm : Array Value) (H : CH) (o : Oper) (n : Nat) : Option (Value × CH) :=
  cond (Nat.beq n 3) (quickOr (cond (okOpd G (arg1 o.op)) (loadAtF2 P H (typeOf o.op) (ev tm (arg1 o.op))) none) (slowF self P G tm H o))
    (cond (Nat.beq n 5) (indexAddrF P G tm H (typeOf o.op) (arg1 o.op) (arg2 o.op))
      (cond (Nat.beq n 7) (callF self P G tm H o (arg1 o.op) (argsOf o.op))
        (cond (Nat.beq n 2) (pickF G tm H (arg1 o.op) (arg2 o.op) (arg3 o.op)) (opT3 self P G tm H o n))))
def opT1 (tm : Array Value) (H : CH) (o : Oper) (n : Nat) : Option (Value × CH) :=
  cond (Nat.beq n 0) (moveF G tm H (arg1 o.op))
    (cond (Nat.beq n 1) (binOpF self P G tm H o (binOf o.op) (arg1 o.op) (arg2 o.op)) (opT2 self P G tm H o n))
def opT (tm : Array Value) (H : CH) (o : Oper) : Option (Value × CH) := opT1 self P G tm H o (tagOf o.op)
theorem opT_eq (tm : Array Value) (H : CH) (o : Oper) : opT self P G tm H o = opF self P G tm H o := by
  obtain ⟨dst, op, type, pos, after, guard⟩ := o
  have quick : ∀ (q s : Option (Value × CH)), (∀ r, q = some r → s = some r) → quickOr q s = s := by
    intro q s h
    cases q with
    | none => rfl
    | some r => exact (h r rfl).symm
  cases op <;> first
    | rfl
    | skip
  case load t x =>
    refine (quick _ _ fun r hr => ?_).trans (opF_eq self P G tm H _).symm
    show opX self P G tm H ⟨dst, .load t x, type, pos, after, guard⟩ = some r
    rw [← opF_eq]
    show loadF P G tm H t x = some r
    unfold loadF
    rw [cond_eq] at hr ⊢
    split at hr
    case isFalse => cases hr
    rename_i hx
    have hx' : okOpd G x = true := hx
    rw [if_pos hx']
    have hr' : loadAtF2 P H t (ev tm x) = some r := hr
    unfold loadAtF2 at hr'
    unfold loadAtF
    split at hr'
    · rename_i b off hv
      rw [hv]
      obtain ⟨u, hu, rfl⟩ := map_some' hr'
      simp only [loadSF_sound hu]; rfl
    · cases hr'
  case store t x y =>
    refine (quick _ _ fun r hr => ?_).trans (opF_eq self P G tm H _).symm
    show opX self P G tm H ⟨dst, .store t x y, type, pos, after, guard⟩ = some r
    rw [cond_eq] at hr
    split at hr
    case isFalse => cases hr
    rename_i hx
    have hx' : (okOpd G x && okOpd G y) = true := hx
    rw [opX_ok self P G (by simpa [Op.operands] using hx') (fun _ h => by cases h) (fun _ h => by cases h)]
    have hr' : storeAtF P G H t (ev tm x) (ev tm y) = some r := hr
    unfold storeAtF at hr'
    simp only [opS]
    split at hr'
    · rename_i b off hv
      rw [hv]
      obtain ⟨u, hu, rfl⟩ := map_some' hr'
      simp only [storeSF_sound hu]; rfl
    · cases hr'
  case index t x i =>
    show indexF self P G tm H _ t x i = slowF self P G tm H _
    unfold indexF
    split
    · rename_i cs hv
      show _ = opX self P G tm H _
      cases hx : okOpd G x && okOpd G i with
      | false => rw [opX_all self P G (by simpa [Op.operands] using hx)]; rfl
      | true =>
        rw [opX_ok self P G (by simpa [Op.operands] using hx) (fun _ h => by cases h) (fun _ h => by cases h)]
        simp only [opS, cond, hv, indexVF_eq]
        generalize ev tm i = y
        cases y <;> rfl
    · rfl
  case call c =>
    obtain ⟨callee, args, ts⟩ := c
    cases callee <;> rfl
end
section
variable (self : Task → Option Res) (P : Program) (G : Nat)
end
end Go.Ex
