/- Engine, part 25: the executor over trees of temporaries. -/
import Derived.Test.YtdnogbdfiahcaaaGreatEngQuick2
noncomputable section
namespace Go.Ex
open Go.RowKit

section
variable {s1 s2 : Task → Option Res} {P : Program} {G : Nat}
theorem rangeX_mono (hm : ∀ t r, s1 t = some r → s2 t = some r) {fn0 : FuncId} {g : Operand} {ps : Array Tmp} {assign body : Code} {ro : Option Nat} {tm : Array Value} {H : CH} {df : List Nat} {r : Res} (h : rangeX s1 P G fn0 g ps assign body ro tm H df = some r) : rangeX s2 P G fn0 g ps assign body ro tm H df = some r := by
  unfold rangeX at h ⊢
  dsimp only at h ⊢
  split at h
  case h_1 => cases h
  rename_i H1 df1 d hst
  try rw [hst]
  try dsimp only
  split at h
  case isFalse => cases h
  rename_i hok
  try rw [if_pos hok]
  split at h
  case h_2 => cases h
  rename_i k first cap hev
  try rw [hev]
  try dsimp only
  split at h
  case h_2 => cases h
  rename_i fn hfn
  try rw [hfn]
  try dsimp only
  split at h
  case isTrue => cases h
  rename_i hn
  try rw [if_neg hn]
  split at h
  case isTrue => cases h
  rename_i hb
  try rw [if_neg hb]
  split at h
  case h_2 => cases h
  rename_i v3 H3 hc
  try rw [hm _ _ hc]
  try dsimp only
  split at h
  case h_2 => cases h
  rename_i r3 hr3
  try rw [hr3]
  try dsimp only
  split at h
  case isTrue => cases h
  rename_i hbusy
  try rw [if_neg hbusy]
  split at h
  · exact h
  · exact hm _ _ h
theorem roundX_mono (hm : ∀ t r, s1 t = some r → s2 t = some r) {l : Nat} {args : Array Value} {H : CH} {r : Res} (h : roundX s1 G l args H = some r) : roundX s2 G l args H = some r := by
  unfold roundX at h ⊢
  split at h
  case isFalse => cases h
  rename_i hG
  try rw [if_pos hG]
  split at h
  case h_2 => cases h
  rename_i r0 hr0
  try rw [hr0]
  try dsimp only
  split at h
  case isFalse => cases h
  rename_i hsz
  try rw [if_pos hsz]
  split at h
  case h_2 => cases h
  rename_i tm1 H1 df1 ha
  try rw [hm _ _ ha]
  try dsimp only
  split at h
  case h_2 => cases h
  rename_i r1 hr1
  try rw [hr1]
  try dsimp only
  split at h
  case isFalse => cases h
  rename_i hready
  try rw [if_pos hready]
  split at h
  case h_2 => cases h
  rename_i x tm2 H3 df3 hb
  try rw [hm _ _ hb]
  exact h
end

/-! ### statements -/
section
variable (q : QTask → Option QRes) (P : Program) (G : Nat)
def absO (r : Option QRes) : Option Res :=
  match r with
  | some r => some r.abs
  | none => none
/-- as it looks from an array -/
def selfA (t : Task) : Option Res :=
  match t with
  | .code c ro tm H df => absO (q (.code c ro (ofArr tm) H df))
  | .call f args H => absO (q (.call f args H))
  | .round l args H => absO (q (.round l args H))
def toQ (r : Option Res) : Option QRes :=
  match r with
  | some (.ex x tm H df) => some (.ex x (ofArr tm) H df)
  | some (.val v H) => some (.val v H)
  | none => none
def seqQ (b : Code) (ro : Option Nat) (r : Option QRes) : Option QRes :=
  match r with
  | some (.ex .normal tm1 H1 df1) => q (.code b ro tm1 H1 df1)
  | r => r
def condQ (x y : Code) (ro : Option Nat) (tm : TM) (H : CH) (df : List Nat) (v : Value) : Option QRes :=
  match v with
  | .bool b => q (.code (cond b x y) ro tm H df)
  | _ => none
def blockQ (id : Nat) (r : Option QRes) : Option QRes :=
  match r with
  | some (.ex (.exit id') tm1 H1 df1) => some (.ex (if id' = id then .normal else .exit id') tm1 H1 df1)
  | r => r
def normalQ (df : List Nat) (r : Option (TM × CH)) : Option QRes :=
  match r with
  | some (tm1, H1) => some (.ex .normal tm1 H1 df)
  | none => none
noncomputable def regionQ (ops : Array Oper) (d : Bool) (tm : TM) (H : CH) : Option (TM × CH) :=
  cond d (drawQ (opQ q P G) ops P tm H) (opsQ (opQ q P G) ops ops.toList tm H)
noncomputable def codeQ (c : Code) (ro : Option Nat) (tm : TM) (H : CH) (df : List Nat) : Option QRes :=
  match c with
  | .skip => some (.ex .normal tm H df)
  | .label _ => some (.ex .normal tm H df)
  | .seq a b => seqQ q b ro (q (.code a ro tm H df))
  | .cond o x y => cond (okOpd G o) (condQ q x y ro tm H df (evH tm o)) none
  | .block id b => blockQ id (q (.code b ro tm H df))
  | .loop b => seqQ q (.loop b) ro (q (.code b ro tm H df))
  | .scope b => q (.code b ro tm H df)
  | .exit id => some (.ex (.exit id) tm H df)
  | .ret => some (.ex .ret tm H df)
  | .region _ ops d => normalQ df (regionQ q P G ops d tm H)
  | .rangeFunc g ps assign body => toQ (rangeX (selfA q) P G 0 g ps assign body ro (absT tm) H df)
  | _ => none
def resultQ (tm : TM) (H : CH) (r : ResultVar) : Option Value :=
  match r with
  | .tmp t => some (tval tm t)
  | .cell a t => match tval tm a with
    | .pointer (some ⟨b, off, none⟩) => loadS P H t b off
    | _ => none
def resultsQ (tm : TM) (H : CH) : List ResultVar → Option (List Value)
  | [] => some []
  | r :: rs => match resultQ P tm H r with
    | some v => (resultsQ tm H rs).map (v :: ·)
    | none => none
def valQ (fn : Func) (tm : TM) (H : Option CH) : Option QRes :=
  match H with
  | some H2 => (resultsQ P tm H2 fn.results.toList).map fun vs => .val (oneOrTuple vs) H2
  | none => none
def endQ (fn : Func) (r : Option QRes) : Option QRes :=
  match r with
  | some (.ex x tm H1 df) => match x with
    | .exit _ => none
    | _ => valQ P fn tm (closeS G H1 df)
  | _ => none
def enterQ (fn : Func) (args : Array Value) (H : CH) : Option QRes :=
  match fn.body with
  | some c => endQ P G fn (q (.code c none (ofArgs args.toList fn.ntmps) H []))
  | none => none
def callXQ (f : FuncId) (args : Array Value) (H : CH) : Option QRes :=
  match P.funcs[f]? with
  | some fn => enterQ q P G fn args H
  | none => none
noncomputable def stepQ (t : QTask) : Option QRes :=
  match t with
  | .code c ro tm H df => codeQ q P G c ro tm H df
  | .call f args H => callXQ q P G f args H
  | .round l args H => toQ (roundX (selfA q) G l args H)
end

theorem toQ_abs {r : Option Res} {u : QRes} (h : toQ r = some u) : r = some u.abs := by
  unfold toQ at h
  split at h
  · cases h
    show _ = some (Res.ex _ (absT (ofArr _)) _ _)
    rw [ofArr_abs]
  · cases h; rfl
  · cases h
theorem result_eq (P : Program) (tm : TM) (H : CH) (r : ResultVar) : resultS P (absT tm) H r = resultQ P tm H r := by
  have hv : ∀ t : Nat, (absT tm).getD t undef = tval tm t := by
    intro t
    rw [tval_eq, getL_eq]
    rfl
  cases r with
  | tmp t => show some ((absT tm).getD t undef) = some (tval tm t); rw [hv]
  | cell a t =>
    show (match (absT tm).getD a undef with
      | .pointer (some ⟨b, off, none⟩) => loadS P H t b off
      | _ => none) = _
    rw [hv]
    rfl
theorem results_eq (P : Program) (tm : TM) (H : CH) : ∀ l : List ResultVar, resultsS P (absT tm) H l = resultsQ P tm H l
  | [] => rfl
  | r :: rs => by
    simp only [resultsS, resultsQ]
    rw [result_eq, results_eq P tm H rs]
    cases resultQ P tm H r <;> rfl

section
variable {q : QTask → Option QRes} {self : Task → Option Res} {P : Program} {G : Nat}
theorem absO_sound (hq : SelfQ q self) {t : QTask} {r : Res} (h : absO (q t) = some r) : self t.abs = some r := by
  unfold absO at h
  split at h
  · rename_i u hu
    cases h
    exact hq _ _ hu
  · cases h
theorem selfA_sound (hq : SelfQ q self) : ∀ t r, selfA q t = some r → self t = some r := by
  intro t r h
  cases t with
  | code c ro tm H df =>
    have := absO_sound hq (t := .code c ro (ofArr tm) H df) h
    have h2 : self (.code c ro (absT (ofArr tm)) H df) = some r := this
    rw [ofArr_abs] at h2
    exact h2
  | call f args H => exact absO_sound hq (t := .call f args H) h
  | round l args H => exact absO_sound hq (t := .round l args H) h
theorem regionQ_sound (hq : SelfQ q self) {ops : Array Oper} {d : Bool} {tm tm' : TM} {H H' : CH} (h : regionQ q P G ops d tm H = some (tm', H')) :
    (if d then drawX self P G ops (absT tm) H else opsX self P G ops (List.range ops.size) (absT tm) H) = some (absT tm', H') := by
  unfold regionQ at h
  cases d with
  | true => exact drawQ_sound hq h
  | false =>
    have h' : opsQ (opQ q P G) ops ops.toList tm H = some (tm', H') := h
    have := opsQ_sound hq _ _ _ _ _ h'
    rw [opsG_eq ops.toList 0 rfl] at this
    rw [if_neg (by simp), List.range_eq_range']
    simpa using this
theorem stepQ_sound (hq : SelfQ q self) : SelfQ (stepQ q P G) (step self P G (drawX self P G)) := by
  intro t r h
  cases t with
  | round l args H =>
    show roundX self G l args H = some r.abs
    exact roundX_mono (selfA_sound hq) (toQ_abs h)
  | call f args H =>
    show callX self P G f args H = some r.abs
    rw [← callXF_eq]
    have h' : callXQ q P G f args H = some r := h
    unfold callXQ at h'
    unfold callXF
    split at h'
    case h_2 => cases h'
    rename_i fn hfn
    rw [hfn]
    dsimp only
    unfold enterQ at h'
    unfold enterF
    split at h'
    case h_2 => cases h'
    rename_i c hc
    rw [hc]
    dsimp only
    unfold endQ at h'
    split at h'
    case h_2 => cases h'
    rename_i x tm H1 df hr
    have hs := hq _ _ hr
    have hs' : self (.code c none (absT (ofArgs args.toList fn.ntmps)) H []) = some (.ex x (absT tm) H1 df) := hs
    rw [ofArgs_abs] at hs'
    rw [hs']
    unfold endF
    have fin : ∀ Ho : Option CH, valQ P fn tm Ho = some r → valF P fn (absT tm) Ho = some r.abs := by
      intro Ho hv
      unfold valQ at hv
      unfold valF
      split at hv
      · obtain ⟨vs, h1, h2⟩ := map_some' hv
        subst h2
        dsimp only
        rw [results_eq, h1]; rfl
      · cases hv
    cases x with
    | exit id => cases h'
    | normal => exact fin _ h'
    | ret => exact fin _ h'
  | code c ro tm H df =>
    have h' : codeQ q P G c ro tm H df = some r := h
    show step self P G (drawX self P G) (.code c ro (absT tm) H df) = some r.abs
    have seqS : ∀ (a b : Code), seqQ q b ro (q (.code a ro tm H df)) = some r → seqF self b ro (self (.code a ro (absT tm) H df)) = some r.abs := by
      intro a b hs
      cases hu : q (.code a ro tm H df) with
      | none => rw [hu] at hs; cases hs
      | some u =>
        rw [hu] at hs
        have ha := hq _ _ hu
        have ha' : self (.code a ro (absT tm) H df) = some u.abs := ha
        rw [ha']
        cases u with
        | val v H' => cases hs; rfl
        | ex x tm1 H1 df1 =>
          cases x with
          | normal => exact hq _ _ hs
          | exit id => cases hs; rfl
          | ret => cases hs; rfl
    rw [← stepF_eq]
    cases c with
    | skip => cases h'; rfl
    | label l => cases h'; rfl
    | exit id => cases h'; rfl
    | ret => cases h'; rfl
    | seq a b => exact seqS a b h'
    | loop b => exact seqS b (.loop b) h'
    | scope b => exact hq _ _ h'
    | cond o x y =>
      have h2 : cond (okOpd G o) (condQ q x y ro tm H df (evH tm o)) none = some r := h'
      show cond (okOpd G o) (condF self x y ro (absT tm) H df (ev (absT tm) o)) none = some r.abs
      rw [cond_eq] at h2 ⊢
      split at h2
      case isFalse => cases h2
      rename_i hok
      rw [if_pos hok, ← evH_fun]
      unfold condQ at h2
      unfold condF
      split at h2
      · rename_i b hv
        rw [hv]
        exact hq _ _ h2
      · cases h2
    | block id b =>
      have h2 : blockQ id (q (.code b ro tm H df)) = some r := h'
      show blockF id (self (.code b ro (absT tm) H df)) = some r.abs
      cases hu : q (.code b ro tm H df) with
      | none => rw [hu] at h2; cases h2
      | some u =>
        rw [hu] at h2
        have ha : self (.code b ro (absT tm) H df) = some u.abs := hq _ _ hu
        rw [ha]
        cases u with
        | val v H' => cases h2; rfl
        | ex x tm1 H1 df1 =>
          cases x with
          | normal => cases h2; rfl
          | exit id => cases h2; rfl
          | ret => cases h2; rfl
    | region id ops d =>
      have h2 : normalQ df (regionQ q P G ops d tm H) = some r := h'
      rw [stepF_eq]
      simp only [step]
      unfold normalQ at h2
      split at h2
      · rename_i tm1 H1 hr
        cases h2
        rw [regionQ_sound hq hr]
        rfl
      · cases h2
    | rangeFunc g ps assign body =>
      show rangeX self P G 0 g ps assign body ro (absT tm) H df = some r.abs
      exact rangeX_mono (selfA_sound hq) (toQ_abs h')
    | _ => cases h'
end

noncomputable def execQ (P : Program) (G : Nat) (n : Nat) : QTask → Option QRes :=
  Nat.rec (motive := fun _ => QTask → Option QRes) (fun _ => none) (fun _ f => stepQ f P G) n
theorem execQ_sound (P : Program) (G : Nat) : ∀ n, SelfQ (execQ P G n) (execS P G n)
  | 0 => fun t r h => by cases h
  | n + 1 => stepQ_sound (execQ_sound P G n)
end Go.Ex
