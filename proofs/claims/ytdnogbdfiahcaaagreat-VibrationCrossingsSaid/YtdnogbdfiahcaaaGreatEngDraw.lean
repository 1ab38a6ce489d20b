/- Engine, part 14: regions whose order is left open: run in the order of the text, and every other order is checked to end alike. -/
import Derived.Test.YtdnogbdfiahcaaaGreatEngSound3
noncomputable section
namespace Go.Ex
open Go.RowKit

/-! ### equal values -/
def eqV : Nat → Value → Value → Bool
  | _, .bool a, .bool b => a == b
  | _, .int k a, .int l b => decide (k = l) && decide (a = b)
  | _, .float k a, .float l b => decide (k = l) && Nat.beq a b
  | _, .complex k a b, .complex l c d => decide (k = l) && (Nat.beq a c && Nat.beq b d)
  | _, .string a, .string b => decide (a.data.toList = b.data.toList)
  | _, .pointer a, .pointer b => decide (a = b)
  | _, .slice a l c, .slice b m d => decide (a = b) && Nat.beq l m && Nat.beq c d
  | _, .map a, .map b => decide (a = b)
  | _, .nilFunc, .nilFunc => true
  | _, .nilIface, .nilIface => true
  | n + 1, .agg a, .agg b => Nat.beq a.size b.size && (a.toList.zip b.toList).all fun (x, y) => eqV n x y
  | n + 1, .tuple a, .tuple b => Nat.beq a.size b.size && (a.toList.zip b.toList).all fun (x, y) => eqV n x y
  | n + 1, .func (.func f) a c, .func (.func g) b d => decide (f = g) && (Nat.beq a.size b.size && (a.toList.zip b.toList).all fun (x, y) => eqV n x y) && (Nat.beq c.size d.size && (c.toList.zip d.toList).all fun (x, y) => eqV n x y)
  | n + 1, .iface t x, .iface u y => decide (t = u) && eqV n x y
  | _, _, _ => false

theorem zip_all_eq {p : Value → Value → Bool} (hp : ∀ x y, p x y = true → x = y) : ∀ (a b : List Value), a.length = b.length → (a.zip b).all (fun (x, y) => p x y) = true → a = b
  | [], [], _, _ => rfl
  | [], _ :: _, h, _ => by simp at h
  | _ :: _, [], h, _ => by simp at h
  | x :: a, y :: b, h, hh => by
    simp only [List.zip_cons_cons, List.all_cons, Bool.and_eq_true] at hh
    rw [hp x y hh.1, zip_all_eq hp a b (by simpa using h) hh.2]
theorem eqV_sound : ∀ (n : Nat) (a b : Value), eqV n a b = true → a = b := by
  have key : ∀ (n : Nat), (∀ m, n = m + 1 → ∀ a b, eqV m a b = true → a = b) → ∀ a b, eqV n a b = true → a = b := by
    intro n ih a b h
    unfold eqV at h
    split at h <;> first
      | (cases h; done)
      | rfl
      | (simp only [Bool.and_eq_true, decide_eq_true_eq, beq_iff_eq, Nat.beq_eq] at h; simp [h]; done)
      | skip
    · rename_i a b
      have : a.data = b.data := by simpa [← Array.toList_inj] using h
      cases a; cases b; simp at this; rw [this]
    · rename_i m a b
      simp only [Bool.and_eq_true, Nat.beq_eq] at h
      have := zip_all_eq (ih m rfl) a.toList b.toList (by simpa using h.1) h.2
      rw [Array.toList_inj.1 this]
    · rename_i m a b
      simp only [Bool.and_eq_true, Nat.beq_eq] at h
      have := zip_all_eq (ih m rfl) a.toList b.toList (by simpa using h.1) h.2
      rw [Array.toList_inj.1 this]
    · rename_i m f a c g b d
      simp only [Bool.and_eq_true, Nat.beq_eq, decide_eq_true_eq] at h
      have h1 := zip_all_eq (ih m rfl) a.toList b.toList (by simpa using h.1.2.1) h.1.2.2
      have h2 := zip_all_eq (ih m rfl) c.toList d.toList (by simpa using h.2.1) h.2.2
      rw [Array.toList_inj.1 h1, Array.toList_inj.1 h2, h.1.1]
    · rename_i m t x u y
      simp only [Bool.and_eq_true, decide_eq_true_eq] at h
      rw [h.1, ih m rfl _ _ h.2]
  intro n
  induction n with
  | zero => exact key 0 (fun m hm => by cases hm)
  | succ n ih => exact key (n + 1) (fun m hm => by cases hm; exact ih)

/-! ### what an operation may do -/
/-- 0: looks at no memory. 1: reads. 2: else. -/
def kindOf (P : Program) : Op → Nat
  | .move _ | .assign _ | .pick .. | .build .. | .nilCheck _ | .fieldAddr .. | .indexAddr .. | .field .. | .index .. | .extract .. | .makeInterface .. | .binOp .. | .unOp .. => 0
  | .convert _ d _ => match P.underlying d with
    | some (.int _) | some (.float _) => 0
    | _ => 2
  | .load .. | .lookup .. | .slice _ _ _ _ none => 1
  | .call { callee := .builtin .len, .. } | .call { callee := .builtin .min, .. } | .call { callee := .builtin .max, .. } | .call { callee := .builtin .cap, .. } | .call { callee := .builtin .unsafeSliceData, .. } => 1
  | _ => 2

theorem kind_le (P : Program) (o : Op) : kindOf P o ≤ 2 := by
  unfold kindOf
  split <;> first | omega | (split <;> omega)
theorem kind_call {P : Program} {c : Call} : kindOf P (.call c) ≠ 0 := by
  obtain ⟨callee, args, ts⟩ := c
  cases callee with
  | value f => intro h; cases h
  | invoke r m => intro h; cases h
  | builtin b => cases b <;> (intro h; cases h)
theorem kind_slice {P : Program} {t : TypeId} {x : Operand} {a b c : Option Operand} : kindOf P (.slice t x a b c) ≠ 0 := by
  cases c <;> (intro h; cases h)
theorem kind_pure {self : Task → Option Res} {P : Program} {G : Nat} {tm : Array Value} {o : Oper} (hk : kindOf P o.op = 0) : ∃ r : Option Value, ∀ H, opX self P G tm H o = r.map (·, H) := by
  obtain ⟨dst, op, type, pos, after, guard⟩ := o
  have h0 : ∃ r : Option Value, ∀ H, opS P G H (ev tm) ⟨dst, op, type, pos, after, guard⟩ = r.map (·, H) := by
    cases op <;> first
      | (cases hk; done)
      | exact ⟨_, fun H => rfl⟩
      | (refine ⟨some _, fun H => rfl⟩; done)
      | exact absurd hk kind_call
      | exact absurd hk kind_slice
      | skip
    case pick c a b =>
      refine ⟨(opS P G Hp.nil (ev tm) ⟨dst, .pick c a b, type, pos, after, guard⟩).map (·.1), fun H => ?_⟩
      simp only [opS]
      generalize ev tm c = x
      cases x <;> rfl
    case nilCheck x =>
      refine ⟨(opS P G Hp.nil (ev tm) ⟨dst, .nilCheck x, type, pos, after, guard⟩).map (·.1), fun H => ?_⟩
      simp only [opS]
      generalize ev tm x = x
      cases x with
      | pointer a =>
        cases a with
        | none => rfl
        | some a => obtain ⟨b, off, spot⟩ := a; cases spot <;> rfl
      | func f a c => cases f <;> rfl
      | _ => rfl
    case indexAddr t x i =>
      refine ⟨(opS P G Hp.nil (ev tm) ⟨dst, .indexAddr t x i, type, pos, after, guard⟩).map (·.1), fun H => ?_⟩
      simp only [opS]
      generalize ev tm i = y
      cases y with
      | int k n => dsimp only; cases indexAtS P t (ev tm x) n <;> rfl
      | _ => rfl
    case index t x i =>
      refine ⟨(opS P G Hp.nil (ev tm) ⟨dst, .index t x i, type, pos, after, guard⟩).map (·.1), fun H => ?_⟩
      simp only [opS]
      have hp : ∀ y : Option Value, y.map (·, H) = ((y.map (·, (Hp.nil : CH))).map (·.1)).map (·, H) := fun y => by cases y <;> rfl
      generalize ev tm x = y
      cases y with
      | agg a =>
        dsimp only
        generalize ev tm i = y
        cases y with
        | int k n => exact hp _
        | _ => rfl
      | _ => exact hp _
    case binOp op t x y ty =>
      refine ⟨(opS P G Hp.nil (ev tm) ⟨dst, .binOp op t x y ty, type, pos, after, guard⟩).map (·.1), fun H => ?_⟩
      simp only [opS]
      generalize aggEq P op t (ev tm x) (ev tm y) = q
      cases q with
      | some b => rfl
      | none =>
      dsimp only
      generalize pureS P (ev tm) _ = z
      cases z with
      | some v => rfl
      | none =>
        dsimp only
        generalize samePt P t (ev tm x) (ev tm y) = u
        generalize nanS op (ev tm x) (ev tm y) = z
        cases op <;> first | rfl | (cases u <;> rfl) | (cases z <;> rfl)
    case convert s d x =>
      have hd : (∃ k, P.underlying d = some (.int k)) ∨ (∃ k, P.underlying d = some (.float k)) := by
        simp only [kindOf] at hk
        split at hk
        · rename_i k hu; exact .inl ⟨k, hu⟩
        · rename_i k hu; exact .inr ⟨k, hu⟩
        · cases hk
      have h1 : ∀ H, convPtrS P H s d (ev tm x) = none := by
        intro H
        cases hc : convPtrS P H s d (ev tm x) with
        | none => rfl
        | some v =>
          exfalso
          unfold convPtrS at hc
          split at hc
          · split at hc
            · rename_i _ hu _ _
              rcases hd with ⟨k, hd⟩ | ⟨k, hd⟩ <;> simp_all
            · rename_i _ hu _ _
              rcases hd with ⟨k, hd⟩ | ⟨k, hd⟩ <;> simp_all
            · cases hc
          · cases hc
      have h2 : ∀ H, strBytesS P H s d (ev tm x) = none := by
        intro H
        cases hc : strBytesS P H s d (ev tm x) with
        | none => rfl
        | some v =>
          exfalso
          unfold strBytesS at hc
          split at hc
          · split at hc
            · rcases hd with ⟨k, hd⟩ | ⟨k, hd⟩ <;> simp_all
            · cases hc
          · cases hc
      have h3 : ∀ H, markS P G H s d (ev tm x) = none := by
        intro H
        cases hc : markS P G H s d (ev tm x) with
        | none => rfl
        | some v =>
          exfalso
          unfold markS at hc
          split at hc
          · split at hc
            · rcases hd with ⟨k, hd⟩ | ⟨k, hd⟩ <;> simp_all
            · cases hc
          · cases hc
      have h4 : ∀ H, strOfS P H s d (ev tm x) = none := by
        intro H
        cases hc : strOfS P H s d (ev tm x) with
        | none => rfl
        | some v =>
          exfalso
          unfold strOfS at hc
          split at hc
          · split at hc
            · rcases hd with ⟨k, hd⟩ | ⟨k, hd⟩ <;> simp_all
            · cases hc
          · cases hc
      refine ⟨(opS P G Hp.nil (ev tm) ⟨dst, .convert s d x, type, pos, after, guard⟩).map (·.1), fun H => ?_⟩
      simp only [opS, h1, h2, h3, h4]
      cases pureS P (ev tm) _ with
      | some v => rfl
      | none =>
        dsimp only
        cases (P.underlying s).isSome with
        | false => rfl
        | true =>
          simp only [cond]
          generalize nanC P d (ev tm x) = z
          cases z <;> rfl
    case extract x i =>
      refine ⟨(opS P G Hp.nil (ev tm) ⟨dst, .extract x i, type, pos, after, guard⟩).map (·.1), fun H => ?_⟩
      simp only [opS]
      generalize ev tm x = y
      cases y with
      | tuple vs => dsimp only; cases vs[i]? <;> rfl
      | _ => rfl
    case makeInterface t x =>
      refine ⟨(opS P G Hp.nil (ev tm) ⟨dst, .makeInterface t x, type, pos, after, guard⟩).map (·.1), fun H => ?_⟩
      simp only [opS]
      generalize P.underlying t = u
      cases u with
      | none => rfl
      | some d => cases d <;> rfl
  obtain ⟨r, hr⟩ := h0
  by_cases hall : (op.operands.toList.all (okOpd G)) = true
  · refine ⟨r, fun H => ?_⟩
    unfold opX
    rw [if_pos hall]
    cases op <;> first | (cases hk; done) | exact absurd hk kind_call | exact hr H
  · refine ⟨none, fun H => ?_⟩
    unfold opX
    rw [if_neg hall]
    rfl

theorem builtinS_keep {P : Program} {G : Nat} {H H' : CH} {b : Builtin} {ts : Array TypeId} {args : Array Value} {v : Value} (h1 : b ≠ .append) (h2 : b ≠ .copy) (h3 : b ≠ .clear) (h4 : b ≠ .unsafeString) (hb : builtinS P G H b ts args = some (v, H')) : H' = H := by
  unfold builtinS at hb
  split at hb
  · exact absurd rfl h1
  · exact absurd rfl h2
  · split at hb
    · cases hb; rfl
    · cases hb
  · split at hb
    · cases hb; rfl
    · cases hb
  · exact absurd rfl h3
  · obtain ⟨u, _, hq⟩ := map_some' hb
    cases hq; rfl
  · exact absurd rfl h4
  · cases hb
theorem kind_read {self : Task → Option Res} {P : Program} {G : Nat} {tm : Array Value} {H H' : CH} {o : Oper} {v : Value} (hk : kindOf P o.op = 1) (h : opX self P G tm H o = some (v, H')) : H' = H := by
  obtain ⟨hok, hnd, hs⟩ := opX_opS h
  obtain ⟨dst, op, type, pos, after, guard⟩ := o
  have mp : ∀ {x : Option Value}, x.map (·, H) = some (v, H') → H' = H := fun hx => by
    obtain ⟨z, _, hz⟩ := map_some' hx
    cases hz; rfl
  rcases hs with hs | ⟨f, args, ts, hop, _⟩
  · cases op <;> first
      | (cases hk; done)
      | skip
    case convert s d x =>
      exfalso
      simp only [kindOf] at hk
      split at hk <;> cases hk
    case load t x =>
      simp only [opS] at hs
      split at hs
      · exact mp hs
      · cases hs
    case lookup t m k ok => exact mp hs
    case slice t x lo hi mx =>
      cases mx with
      | some _ => cases hk
      | none =>
        simp only [opS] at hs
        split at hs
        · split at hs
          · cases hs; rfl
          · exact mp hs
        · cases hs
    case call c =>
      obtain ⟨callee, args, ts⟩ := c
      cases callee with
      | value f => cases hk
      | invoke r m => cases hk
      | builtin b =>
        simp only [opS] at hs
        split at hs
        · rename_i r hb
          cases hs
          refine builtinS_keep (fun hb => ?_) (fun hb => ?_) (fun hb => ?_) (fun hb => ?_) hb
          · subst hb; cases hk
          · subst hb; cases hk
          · subst hb; cases hk
          · subst hb; cases hk
        · exact mp hs
  · change op = _ at hop
    subst hop
    cases hk
end Go.Ex
