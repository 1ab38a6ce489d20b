/- Part of the proof. -/
import Derived.Test.YteemponkignnhaaGreatEngCs
import Derived.Test.YteemponkignnhaaGreatEngMapK
noncomputable section
namespace Go.Ex
open Go.RowKit
inductive CK where
  | i (k : IntKind)
  | b
  | s
def isCellB (k : CK) (v : Option Value) : Bool :=
  match v with
  | some (.int k' _) => match k with
    | .i k => sameKind k k'
    | _ => false
  | some (.bool _) => match k with
    | .b => true
    | _ => false
  | some (.string _) => match k with
    | .s => true
    | _ => false
  | _ => false
def intO (v : Option Value) : Int :=
  match v with
  | some (.int _ n) => n
  | _ => 0
def boolO (v : Option Value) : Bool :=
  match v with
  | some (.bool b) => b
  | _ => false
def strO (v : Option Value) : ByteArray :=
  match v with
  | some (.string s) => s
  | _ => ByteArray.empty
def cellAt (k : CK) (v : Option Value) : Value :=
  match k with
  | .i k => .int k (intO v)
  | .b => .bool (boolO v)
  | .s => .string (strO v)
theorem cellAt_eq {k : CK} {v : Option Value} (h : isCellB k v = true) : v = some (cellAt k v) := by
  cases v with
  | none => cases h
  | some v =>
    cases v <;> first
      | (cases h; done)
      | skip
    all_goals (cases k <;> first | (cases h; done) | rfl | skip)
    rename_i k' n k
    have : k = k' := of_decide_eq_true h
    subst this
    rfl
def cellsAt : List CK → List Value → Nat → List Value
  | [], _, _ => []
  | k :: r, cs, off => cellAt k cs[off]? :: cellsAt r cs (off + 1)
def areCells : List CK → List Value → Nat → Bool
  | [], _, _ => true
  | k :: r, cs, off => isCellB k cs[off]? && areCells r cs (off + 1)
def kindOf1 (P : Program) (t : TypeId) : Option CK :=
  match P.underlying t with
  | some (.int k) => some (.i k)
  | some .bool => some .b
  | some .string => some .s
  | _ => none
def repK : Nat → List CK → List CK
  | 0, _ => []
  | n + 1, l => l ++ repK n l
def kindsOf (P : Program) : Nat → TypeId → Option (List CK)
  | 0, _ => none
  | n + 1, t => match P.underlying t with
    | some (.struct fs) => (fs.toList.mapM fun f => kindsOf P n f.type).map List.flatten
    | some (.array m e) => (kindsOf P n e).map (repK m)
    | _ => (kindOf1 P t).map fun k => [k]
theorem rows_cells {H : CH} {b : Nat} {cs : List Value} {t : TypeId} {s : Nat} {ex : Bool} (h : H[b]? = some (.cells cs t s ex)) : ∀ (ks : List CK) (off : Nat), areCells ks cs off = true → H.row? b off ks.length = some (cellsAt ks cs off)
  | [], off, _ => rfl
  | k :: r, off, ha => by
    unfold areCells at ha
    rw [Bool.and_eq_true] at ha
    have hc : H.cell? b off = some (cellAt k cs[off]?) := by
      unfold CH.cell?
      rw [h]
      exact cellAt_eq ha.1
    show H.row? b off (r.length + 1) = _
    simp only [CH.row?, hc]
    rw [rows_cells h r (off + 1) ha.2]
    rfl
def symRow (P : Program) (t : TypeId) (cs : List Value) (off : Nat) : Option (Bool × Value) :=
  match aggB P t with
  | some true => match P.info? t with
    | some j => match kindsOf P 4 t with
      | some ks => cond (Nat.beq ks.length j.size) (some (areCells ks cs off, .agg ⟨cellsAt ks cs off⟩)) none
      | none => none
    | none => none
  | some false => match kindOf1 P t with
    | some k => some (isCellB k cs[off]?, cellAt k cs[off]?)
    | none => none
  | none => none
def symLoad (P : Program) (H : CH) (t : TypeId) (b off : Nat) : Option (Bool × Value) :=
  match H[b]? with
  | some (.cells cs _ _ _) => symRow P t cs off
  | _ => none
theorem symLoad_eq {P : Program} {H : CH} {t : TypeId} {b off : Nat} {v : Value} (h : symLoad P H t b off = some (true, v)) : loadS P H t b off = some v := by
  unfold symLoad at h
  split at h
  case h_2 => cases h
  rename_i cs t' s ex hb
  unfold symRow at h
  unfold loadS
  cases ha : aggB P t with
  | none => rw [ha] at h; cases h
  | some g =>
    rw [ha] at h
    cases g with
    | true =>
      dsimp only at h ⊢
      cases hi : P.info? t with
      | none => rw [hi] at h; cases h
      | some j =>
        rw [hi] at h
        dsimp only at h ⊢
        cases hk : kindsOf P 4 t with
        | none => rw [hk] at h; cases h
        | some ks =>
          rw [hk] at h
          dsimp only at h
          cases hl : Nat.beq ks.length j.size with
          | false => rw [hl] at h; cases h
          | true =>
            rw [hl] at h
            have h' : some (areCells ks cs off, Value.agg ⟨cellsAt ks cs off⟩) = some (true, v) := h
            cases h1 : areCells ks cs off with
            | false => rw [h1] at h'; cases h'
            | true =>
              rw [h1] at h'
              cases h'
              rw [← Nat.eq_of_beq_eq_true hl, rows_cells hb ks off h1]
              rfl
    | false =>
      dsimp only at h ⊢
      cases hk : kindOf1 P t with
      | none => rw [hk] at h; cases h
      | some k =>
        rw [hk] at h
        dsimp only at h
        cases h1 : isCellB k cs[off]? with
        | false => rw [h1] at h; cases h
        | true =>
          rw [h1] at h
          cases h
          unfold CH.cell?
          rw [hb]
          exact cellAt_eq h1
def symAddr (P : Program) (t : TypeId) (v : Value) (i : Int) : Option (Bool × Value) :=
  match P.underlying t with
  | some (.array n e) => match v with
    | .pointer (some ⟨b, off, none⟩) => match P.info? e with
      | some j => some (leF 0 i && ltF i n, .pointer (some ⟨b, off + i.toNat * j.size, none⟩))
      | none => none
    | _ => none
  | some (.slice e) => match v with
    | .slice (some ⟨b, off, none⟩) len cap => match P.info? e with
      | some j => some (leF 0 i && (ltF i len && decide (len ≤ cap)), .pointer (some ⟨b, off + i.toNat * j.size, none⟩))
      | none => none
    | _ => none
  | _ => none
theorem symAddr_eq {P : Program} {t : TypeId} {v u : Value} {i : Int} (h : symAddr P t v i = some (true, u)) : indexAtS P t v i = some u := by
  unfold symAddr at h
  split at h
  · rename_i n e hu
    split at h
    case h_2 => cases h
    rename_i b off
    unfold indexAtS
    rw [hu]
    dsimp only
    cases hj : P.info? e with
    | none => rw [hj] at h; cases h
    | some j =>
      rw [hj] at h
      simp only [Option.some.injEq, Prod.mk.injEq, Bool.and_eq_true, leF_eq, ltF_eq, decide_eq_true_eq] at h
      rw [if_pos h.1]
      dsimp only
      rw [h.2]
  · rename_i e hu
    split at h
    case h_2 => cases h
    rename_i b off len cap
    unfold indexAtS
    rw [hu]
    dsimp only
    cases hj : P.info? e with
    | none => rw [hj] at h; cases h
    | some j =>
      rw [hj] at h
      simp only [Option.some.injEq, Prod.mk.injEq, Bool.and_eq_true, leF_eq, ltF_eq, decide_eq_true_eq] at h
      rw [if_pos h.1]
      dsimp only
      rw [h.2]
  · cases h
def symSlice (P : Program) (t : TypeId) (v lo hi : Value) : Option (Bool × Value) :=
  match lo with
  | .int _ a => match hi with
    | .int _ b => match P.underlying t with
      | some (.slice e) => match v with
        | .slice (some ⟨k, off, none⟩) _ cap => match P.info? e with
          | some i => some (leF 0 a && (leF a b && leF b cap), .slice (some ⟨k, off + a.toNat * i.size, none⟩) (b.toNat - a.toNat) (cap - a.toNat))
          | none => none
        | _ => none
      | _ => none
    | _ => none
  | _ => none
theorem symSlice_eq {P : Program} {H : CH} {t : TypeId} {v lo hi u : Value} (h : symSlice P t v lo hi = some (true, u)) : sliceS P H t v (some lo) (some hi) = some u ∧ (∃ k a, lo = .int k a) ∧ ∃ k b, hi = .int k b := by
  unfold symSlice at h
  split at h
  case h_2 => cases h
  rename_i k1 a
  split at h
  case h_2 => cases h
  rename_i k2 b
  split at h
  case h_2 => cases h
  rename_i e hu
  split at h
  case h_2 => cases h
  rename_i bk off len cap
  split at h
  case h_2 => cases h
  rename_i i hi
  refine ⟨?_, ⟨_, _, rfl⟩, ⟨_, _, rfl⟩⟩
  injection h with h
  injection h with h1 h2
  rw [leF_eq, leF_eq, leF_eq] at h1
  simp only [Bool.and_eq_true, decide_eq_true_eq] at h1
  unfold sliceS
  rw [hu]
  dsimp only
  rw [hi]
  dsimp only
  unfold boundsS bnd
  dsimp only
  rw [if_pos ⟨h1.1, h1.2.1, h1.2.2⟩, ← h2]; rfl
theorem sliceS_zero {P : Program} {H : CH} {t : TypeId} {v : Value} {hi : Option Value} : sliceS P H t v none hi = sliceS P H t v (some (.int .i64 0)) hi := by
  have h : ∀ len cap, boundsS len cap none hi = boundsS len cap (some (.int .i64 0)) hi := by
    intro len cap
    unfold boundsS
    cases bnd hi <;> rfl
  unfold sliceS
  simp only [h]
def symSliceE (P : Program) (t : TypeId) (v lo : Value) : Option (Bool × Value) :=
  match v with
  | .slice (some ⟨_, _, none⟩) len _ => symSlice P t v lo (.int .i64 len)
  | _ => none
theorem symSliceE_eq {P : Program} {H : CH} {t : TypeId} {v lo u : Value} (h : symSliceE P t v lo = some (true, u)) : sliceS P H t v (some lo) none = some u ∧ ∃ k a, lo = .int k a := by
  unfold symSliceE at h
  split at h
  case h_2 => cases h
  rename_i b off len cap
  obtain ⟨h1, h2, _⟩ := symSlice_eq (H := H) h
  refine ⟨?_, h2⟩
  rw [← h1]
  have hb : ∀ lo, boundsS len cap lo none = boundsS len cap lo (some (.int .i64 len)) := by
    intro lo
    unfold boundsS
    cases bnd lo <;> rfl
  unfold sliceS
  split <;> first
    | (rename_i heq; cases heq; rw [hb]; done)
    | (rename_i heq; cases heq; simp only [hb]; done)
    | (rename_i heq; cases heq; done)
    | rfl
def symArr (P : Program) (t : TypeId) (v : Value) : Option (Bool × Value) :=
  match P.underlying t, v with
  | some (.array n _), .slice (some ⟨b, off, none⟩) len cap => some (decide (n ≤ len ∧ 1 ≤ n ∧ 1 ≤ cap), .pointer (some ⟨b, off, none⟩))
  | _, _ => none
theorem symArr_eq {P : Program} {t : TypeId} {v u : Value} (h : symArr P t v = some (true, u)) : arrPtrS P t v = some u := by
  unfold symArr at h
  unfold arrPtrS
  split at h
  · rename_i n e b off len cap hu
    rw [hu]
    dsimp only
    injection h with h
    injection h with h1 h2
    rw [if_pos (of_decide_eq_true h1), h2]
  · cases h
def symOp (P : Program) (G : Nat) (e : Operand → Value) (H : CH) (o : Op) : Option (Bool × Value) :=
  match o with
  | .load t x => cond (okOpd G x) (match e x with
    | .pointer (some ⟨b, off, none⟩) => symLoad P H t b off
    | _ => none) none
  | .indexAddr t x i => cond (okOpd G x && okOpd G i) (match e i with
    | .int _ n => symAddr P t (e x) n
    | _ => none) none
  | .binOp op _ x y _ => cond (okOpd G x && okOpd G y) (match e x with
    | .int k a => match e y with
      | .int l b => cond (sameKind k l) (divF op k a b) none
      | _ => none
    | _ => none) none
  | .slice t x (some lo) (some hi) none => cond (okOpd G x && (okOpd G lo && okOpd G hi)) (symSlice P t (e x) (e lo) (e hi)) none
  | .slice t x none (some hi) none => cond (okOpd G x && okOpd G hi) (symSlice P t (e x) (.int .i64 0) (e hi)) none
  | .slice t x (some lo) none none => cond (okOpd G x && okOpd G lo) (symSliceE P t (e x) (e lo)) none
  | .sliceToArrayPointer t x => cond (okOpd G x) (symArr P t (e x)) none
  | .lookup t x k false => cond (okOpd G x && okOpd G k) (symLook P H t (e x) (e k)) none
  | _ => none
theorem symOp_sound {self : Task → Option Res} {P : Program} {G : Nat} {tm : TM} {H : CH} {o : Oper} {v : Value} (h : symOp P G (evH tm) H o.op = some (true, v)) : opX self P G (absT tm) H o = some (v, H) := by
  obtain ⟨dst, op, type, pos, after, guard⟩ := o
  rw [evH_fun] at h
  cases op <;> first
    | (cases h; done)
    | skip
  case lookup t x k ok =>
    cases ok with
    | true => cases h
    | false =>
      have h' : cond (okOpd G x && okOpd G k) (symLook P H t (ev (absT tm) x) (ev (absT tm) k)) none = some (true, v) := h
      cases hok : okOpd G x && okOpd G k with
      | false => rw [hok] at h'; cases h'
      | true =>
        rw [hok] at h'
        have h2 : symLook P H t (ev (absT tm) x) (ev (absT tm) k) = some (true, v) := h'
        rw [opX_ok self P G (by simpa [Op.operands] using hok) (fun _ h => by cases h) (fun _ h => by cases h)]
        simp only [opS]
        rw [symLook_eq h2]; rfl
  case load t x =>
    have h' : cond (okOpd G x) (match ev (absT tm) x with
      | .pointer (some ⟨b, off, none⟩) => symLoad P H t b off
      | _ => none) none = some (true, v) := h
    cases hok : okOpd G x with
    | false => rw [hok] at h'; cases h'
    | true =>
      rw [hok] at h'
      have h2 : (match ev (absT tm) x with
        | .pointer (some ⟨b, off, none⟩) => symLoad P H t b off
        | _ => none) = some (true, v) := h'
      rw [opX_ok self P G (by simpa [Op.operands] using hok) (fun _ h => by cases h) (fun _ h => by cases h)]
      simp only [opS]
      split at h2
      · rename_i b off hv
        rw [hv]
        dsimp only
        rw [symLoad_eq h2]; rfl
      · cases h2
  case slice t x lo hi mx =>
    cases lo with
    | none =>
      cases hi with
      | none => cases h
      | some hi =>
        cases mx with
        | some mx => cases h
        | none =>
          have h' : cond (okOpd G x && okOpd G hi) (symSlice P t (ev (absT tm) x) (.int .i64 0) (ev (absT tm) hi)) none = some (true, v) := h
          cases hok : okOpd G x && okOpd G hi with
          | false => rw [hok] at h'; cases h'
          | true =>
            rw [hok] at h'
            have h2 : symSlice P t (ev (absT tm) x) (.int .i64 0) (ev (absT tm) hi) = some (true, v) := h'
            obtain ⟨h1, _, ⟨k2, b, h3⟩⟩ := symSlice_eq (H := H) h2
            rw [opX_ok self P G (by simpa [Op.operands] using hok) (fun _ h => by cases h) (fun _ h => by cases h)]
            simp only [opS]
            rw [if_pos (by simp [isInt, h3])]
            simp only [Option.map]
            rw [sliceS_zero, h1]
    | some lo =>
      cases hi with
      | none =>
        cases mx with
        | some mx => cases h
        | none =>
          have h' : cond (okOpd G x && okOpd G lo) (symSliceE P t (ev (absT tm) x) (ev (absT tm) lo)) none = some (true, v) := h
          cases hok : okOpd G x && okOpd G lo with
          | false => rw [hok] at h'; cases h'
          | true =>
            rw [hok] at h'
            obtain ⟨h1, ⟨k1, a, h2⟩⟩ := symSliceE_eq (H := H) h'
            rw [opX_ok self P G (by simpa [Op.operands] using hok) (fun _ h => by cases h) (fun _ h => by cases h)]
            simp only [opS]
            rw [if_pos (by simp [isInt, h2])]
            simp only [Option.map]
            rw [h1]
      | some hi =>
        cases mx with
        | some mx => cases h
        | none =>
          have h' : cond (okOpd G x && (okOpd G lo && okOpd G hi)) (symSlice P t (ev (absT tm) x) (ev (absT tm) lo) (ev (absT tm) hi)) none = some (true, v) := h
          cases hok : okOpd G x && (okOpd G lo && okOpd G hi) with
          | false => rw [hok] at h'; cases h'
          | true =>
            rw [hok] at h'
            obtain ⟨h1, ⟨k1, a, h2⟩, ⟨k2, b, h3⟩⟩ := symSlice_eq (H := H) h'
            rw [opX_ok self P G (by simpa [Op.operands] using hok) (fun _ h => by cases h) (fun _ h => by cases h)]
            simp only [opS]
            rw [if_pos (by simp [isInt, h2, h3])]
            simp only [Option.map]
            rw [h1]
  case sliceToArrayPointer t x =>
    have h' : cond (okOpd G x) (symArr P t (ev (absT tm) x)) none = some (true, v) := h
    cases hok : okOpd G x with
    | false => rw [hok] at h'; cases h'
    | true =>
      rw [hok] at h'
      have h2 := symArr_eq h'
      rw [opX_ok self P G (by simpa [Op.operands] using hok) (fun _ h => by cases h) (fun _ h => by cases h)]
      simp only [opS]
      rw [h2]
  case indexAddr t x i =>
    have h' : cond (okOpd G x && okOpd G i) (match ev (absT tm) i with
      | .int _ n => symAddr P t (ev (absT tm) x) n
      | _ => none) none = some (true, v) := h
    cases hok : okOpd G x && okOpd G i with
    | false => rw [hok] at h'; cases h'
    | true =>
      rw [hok] at h'
      have h2 : (match ev (absT tm) i with
        | .int _ n => symAddr P t (ev (absT tm) x) n
        | _ => none) = some (true, v) := h'
      rw [opX_ok self P G (by simpa [Op.operands] using hok) (fun _ h => by cases h) (fun _ h => by cases h)]
      simp only [opS]
      split at h2
      · rename_i k n hv
        rw [hv]
        dsimp only
        rw [symAddr_eq h2]; rfl
      · cases h2
  case binOp op t x y ty2 =>
    have h' : cond (okOpd G x && okOpd G y) (match ev (absT tm) x with
      | .int k a => match ev (absT tm) y with
        | .int l b => cond (sameKind k l) (divF op k a b) none
        | _ => none
      | _ => none) none = some (true, v) := h
    cases hok : okOpd G x && okOpd G y with
    | false => rw [hok] at h'; cases h'
    | true =>
      rw [hok] at h'
      dsimp only [cond] at h'
      rw [opX_ok self P G (by simpa [Op.operands] using hok) (fun _ h => by cases h) (fun _ h => by cases h)]
      split at h'
      case h_2 => cases h'
      rename_i k a hx
      split at h'
      case h_2 => cases h'
      rename_i l b hy
      cases hk : sameKind k l with
      | false => rw [hk] at h'; cases h'
      | true =>
        rw [hk] at h'
        have hkl : k = l := of_decide_eq_true hk
        subst hkl
        have hag : aggEq P op t (ev (absT tm) x) (ev (absT tm) y) = none := by rw [hx]; rfl
        simp only [opS]
        rw [hag, divF_eq hx hy h']
end Go.Ex
