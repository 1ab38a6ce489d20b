/- Engine, part 12: the executor is sound: statements, calls, rounds. -/
import Derived.Test.YtdnogbdfiahcaaaGreatEngSound
noncomputable section
namespace Go.Ex
open Go.RowKit

def DrawSound (P : Program) (G : Nat) (draw : Array Oper → Array Value → CH → Option (Array Value × CH)) : Prop :=
  ∀ (ops : Array Oper) (tm tm' : Array Value) (H H' : CH), draw ops tm H = some (tm', H') →
    ∀ (w0 : World) (E : Env) (a : Act) (w : World) (ro' : Option Nat) (n id : Nat) (Q : Exit → Act → World → Prop), WR w0 G E H w → VRs E tm a.tmps →
      (∀ F a' w', WR w0 G (E ++ F) H' w' → VRs (E ++ F) tm' a'.tmps → a'.defers = a.defers → Q .normal a' w') → (Code.region id ops true).wpIn (FW ro') n P Q a w

theorem app_assoc_WR {w0 : World} {G : Nat} {E F F' : Env} {H : CH} {w : World} (h : WR w0 G (E ++ F ++ F') H w) : WR w0 G (E ++ (F ++ F')) H w := by rw [← List.append_assoc]; exact h
theorem app_assoc_VRs {E F F' : Env} {a a' : Array Value} (h : VRs (E ++ F ++ F') a a') : VRs (E ++ (F ++ F')) a a' := by rw [← List.append_assoc]; exact h
theorem app_assoc_DR {E F F' : Env} {a : List Nat} {a' : List Deferred} (h : DR (E ++ F ++ F') a a') : DR (E ++ (F ++ F')) a a' := by rw [← List.append_assoc]; exact h
theorem app_assoc_VR {E F F' : Env} {a a' : Value} (h : VR (E ++ F ++ F') a a') : VR (E ++ (F ++ F')) a a' := by rw [← List.append_assoc]; exact h

theorem code_is_ex {P : Program} {G : Nat} {self : Task → Option Res} (hself : SelfSound P G self) {c : Code} {ro : Option Nat} {tm : Array Value} {H : CH} {df : List Nat} {r : Res} (h : self (.code c ro tm H df) = some r) :
    ∃ x tm' H' df', r = .ex x tm' H' df' := by
  cases r with
  | ex x tm' H' df' => exact ⟨x, tm', H', df', rfl⟩
  | val v H' => exact (hself _ _ h).elim

/-- the statement's own wp, from a sub-statement's task -/
theorem wp_of {P : Program} {G : Nat} {self : Task → Option Res} (hself : SelfSound P G self) {c : Code} {ro : Option Nat} {tm tm' : Array Value} {H H' : CH} {df df' : List Nat} {x : CX} (h : self (.code c ro tm H df) = some (.ex x tm' H' df'))
    {w0 : World} {E : Env} {a : Act} {w : World} {ro' : Option Nat} {n : Nat} {Q : Exit → Act → World → Prop} (hw : WR w0 G E H w) (ht : VRs E tm a.tmps) (hd : DR E df a.defers) (hr : RR E ro ro')
    (hq : ∀ F a' w', WR w0 G (E ++ F) H' w' → VRs (E ++ F) tm' a'.tmps → DR (E ++ F) df' a'.defers → Q x.toExit a' w') : c.wpIn (FW ro') n P Q a w :=
  (hself _ _ h w0 E a w ro' n Q hw ht hd hr hq).1

theorem code_sound {P : Program} {G : Nat} {self : Task → Option Res} (hself : SelfSound P G self) {draw : Array Oper → Array Value → CH → Option (Array Value × CH)} (hdraw : DrawSound P G draw)
    (hrange : ∀ g ps assign body ro tm H df r, rangeX self P G 0 g ps assign body ro tm H df = some r → Sound P G (.code (.rangeFunc g ps assign body) ro tm H df) r)
    {c : Code} {ro : Option Nat} {tm : Array Value} {H : CH} {df : List Nat} {r : Res} (h : step self P G draw (.code c ro tm H df) = some r) : Sound P G (.code c ro tm H df) r := by
  cases c with
  | skip =>
    cases h
    intro w0 E a w ro' n Q hw ht hd hr hq
    exact ⟨wpIn_skip (hq [] a w (by simpa using hw) (by simpa using ht) (by simpa using hd)), fun b hb => by cases hb⟩
  | label l =>
    cases h
    intro w0 E a w ro' n Q hw ht hd hr hq
    exact ⟨wpIn_label (hq [] a w (by simpa using hw) (by simpa using ht) (by simpa using hd)), fun b hb => by cases hb⟩
  | exit id =>
    cases h
    intro w0 E a w ro' n Q hw ht hd hr hq
    exact ⟨wpIn_exit (hq [] a w (by simpa using hw) (by simpa using ht) (by simpa using hd)), fun b hb => by cases hb⟩
  | ret =>
    cases h
    intro w0 E a w ro' n Q hw ht hd hr hq
    exact ⟨wpIn_ret (hq [] a w (by simpa using hw) (by simpa using ht) (by simpa using hd)), fun b hb => by cases hb⟩
  | seq x y =>
    simp only [step] at h
    cases hx : self (.code x ro tm H df) with
    | none => rw [hx] at h; cases h
    | some r1 =>
      obtain ⟨x1, tm1, H1, df1, rfl⟩ := code_is_ex hself hx
      rw [hx] at h
      cases x1 with
      | normal =>
        dsimp only at h
        obtain ⟨x2, tm2, H2, df2, rfl⟩ := code_is_ex hself h
        intro w0 E a w ro' n Q hw ht hd hr hq
        refine ⟨wpIn_seq (wp_of hself hx hw ht hd hr fun F a' w' h1 h2 h3 => ?_), fun b hb => by cases hb⟩
        exact wp_of hself h h1 h2 h3 (hr.mono F) fun F' a'' w'' h4 h5 h6 => hq (F ++ F') a'' w'' (app_assoc_WR h4) (app_assoc_VRs h5) (app_assoc_DR h6)
      | exit id =>
        cases h
        intro w0 E a w ro' n Q hw ht hd hr hq
        exact ⟨wpIn_seq (wp_of hself hx hw ht hd hr fun F a' w' h1 h2 h3 => hq F a' w' h1 h2 h3), fun b hb => by cases hb⟩
      | ret =>
        cases h
        intro w0 E a w ro' n Q hw ht hd hr hq
        exact ⟨wpIn_seq (wp_of hself hx hw ht hd hr fun F a' w' h1 h2 h3 => hq F a' w' h1 h2 h3), fun b hb => by cases hb⟩
  | cond o x y =>
    simp only [step] at h
    split at h
    case isFalse => cases h
    rename_i hok
    split at h
    case h_2 => cases h
    rename_i b hb
    obtain ⟨x2, tm2, H2, df2, rfl⟩ := code_is_ex hself h
    intro w0 E a w ro' n Q hw ht hd hr hq
    have hc := ev_rel hw ht hok
    rw [hb] at hc
    exact ⟨wpIn_cond hc.bool_inv (wp_of hself h hw ht hd hr hq), fun b hb => by cases hb⟩
  | block id b =>
    simp only [step] at h
    cases hx : self (.code b ro tm H df) with
    | none => rw [hx] at h; cases h
    | some r1 =>
      obtain ⟨x1, tm1, H1, df1, rfl⟩ := code_is_ex hself hx
      rw [hx] at h
      cases x1 with
      | normal =>
        cases h
        intro w0 E a w ro' n Q hw ht hd hr hq
        exact ⟨wpIn_block (wp_of hself hx hw ht hd hr fun F a' w' h1 h2 h3 => hq F a' w' h1 h2 h3), fun b hb => by cases hb⟩
      | ret =>
        cases h
        intro w0 E a w ro' n Q hw ht hd hr hq
        exact ⟨wpIn_block (wp_of hself hx hw ht hd hr fun F a' w' h1 h2 h3 => hq F a' w' h1 h2 h3), fun b hb => by cases hb⟩
      | exit id' =>
        dsimp only at h
        cases h
        intro w0 E a w ro' n Q hw ht hd hr hq
        refine ⟨wpIn_block (wp_of hself hx hw ht hd hr fun F a' w' h1 h2 h3 => ?_), fun b hb => by cases hb⟩
        have := hq F a' w' h1 h2 h3
        show Exit.inBlock id Q (.exit id') a' w'
        simp only [Exit.inBlock]
        split <;> simp_all [CX.toExit]
  | loop b =>
    simp only [step] at h
    cases hx : self (.code b ro tm H df) with
    | none => rw [hx] at h; cases h
    | some r1 =>
      obtain ⟨x1, tm1, H1, df1, rfl⟩ := code_is_ex hself hx
      rw [hx] at h
      have key : Sound P G (.code (.loop b) ro tm H df) r := by
        cases x1 with
        | normal =>
          dsimp only at h
          obtain ⟨x2, tm2, H2, df2, rfl⟩ := code_is_ex hself h
          intro w0 E a w ro' n Q hw ht hd hr hq
          have hl : LoopWp (FW ro') n P b Q a w := .of_body (wp_of hself hx hw ht hd hr fun F a' w' h1 h2 h3 =>
            (hself _ _ h w0 (E ++ F) a' w' ro' n Q h1 h2 h3 (hr.mono F) fun F' a'' w'' h4 h5 h6 => hq (F ++ F') a'' w'' (app_assoc_WR h4) (app_assoc_VRs h5) (app_assoc_DR h6)).2 b rfl)
          exact ⟨hl.loop, fun b' hb => by cases hb; exact hl⟩
        | exit id =>
          cases h
          intro w0 E a w ro' n Q hw ht hd hr hq
          have hl : LoopWp (FW ro') n P b Q a w := .of_body (wp_of hself hx hw ht hd hr fun F a' w' h1 h2 h3 => hq F a' w' h1 h2 h3)
          exact ⟨hl.loop, fun b' hb => by cases hb; exact hl⟩
        | ret =>
          cases h
          intro w0 E a w ro' n Q hw ht hd hr hq
          have hl : LoopWp (FW ro') n P b Q a w := .of_body (wp_of hself hx hw ht hd hr fun F a' w' h1 h2 h3 => hq F a' w' h1 h2 h3)
          exact ⟨hl.loop, fun b' hb => by cases hb; exact hl⟩
      exact key
  | scope b =>
    simp only [step] at h
    obtain ⟨x2, tm2, H2, df2, rfl⟩ := code_is_ex hself h
    intro w0 E a w ro' n Q hw ht hd hr hq
    exact ⟨wpIn_scope' (wp_of hself h hw ht hd hr fun F a' w' h1 h2 h3 => ⟨hq F a' w' h1 h2 h3, fun l hl => by cases x2 <;> cases hl⟩), fun b hb => by cases hb⟩
  | region id ops d =>
    simp only [step] at h
    split at h
    case h_2 => cases h
    rename_i tm1 H1 hrun
    cases h
    intro w0 E a w ro' n Q hw ht hd hr hq
    refine ⟨?_, fun b hb => by cases hb⟩
    cases d with
    | true =>
      simp only [if_true] at hrun
      exact hdraw ops tm tm1 H H1 hrun w0 E a w ro' n id Q hw ht fun F a' w' h1 h2 h3 => hq F a' w' h1 h2 (by rw [h3]; exact hd.mono F)
    | false =>
      simp only [Bool.false_eq_true, if_false] at hrun
      exact wpIn_region (opsX_sound hself ro' n _ _ _ _ _ _ hrun hw ht fun F a' w' h1 h2 h3 => hq F a' w' h1 h2 (by rw [h3]; exact hd.mono F))
  | rangeFunc g ps assign body => exact hrange _ _ _ _ _ _ _ _ _ h
  | goto l => cases h
  | refuse why => cases h

/-! ### a call -/
theorem run_takeDeferred' {P : Program} {w : World} {r : Nat} (h : w.heap[r]? = some (.deferred (some []))) : (Instr.takeDeferred r).run P w = .ok [] { w with heap := w.heap.setIfInBounds r (.deferred none) } := by
  simp only [Instr.takeDeferred, Sem.run_bind, run_getObj' (P := P) h (fun _ _ _ x => by cases x), Result.andThen_ok, run_setObj' (P := P) h (fun _ _ _ x => by cases x), Sem.run_pure]
theorem close_sound {P : Program} {G : Nat} {F : Fence} {n : Nat} {fn : Func} {tmps : Array Value} {R : Ending → World → Prop} {w0 : World} {E : Env} {H' : CH} (hfin : ∀ w', WR w0 G E H' w' → ∃ v, (results fn tmps).run P w' = .ok v w' ∧ R (.returned v) w') :
    ∀ (df : List Nat) (ds : List Deferred) (H : CH) (w : World), closeS G H df = some H' → WR w0 G E H w → DR E df ds → LeavesInM F n P fn tmps R ds .returning w
  | [], _, H, w, h, hw, hd => by
    cases h
    cases hd with
    | nil =>
      obtain ⟨v, h1, h2⟩ := hfin w hw
      exact ⟨v, h1, h2⟩
  | r :: df, _, H, w, h, hw, hd => by
    cases hd with
    | cons he hd =>
      rename_i e ds
      simp only [closeS] at h
      split at h
      case isFalse => cases h
      rename_i hG
      split at h
      case h_2 => cases h
      rename_i hH
      have ho : w.heap[e.blk]? = some (.deferred (some [])) := hw.obj r _ e hH he
      refine ⟨(fun x => by cases x), .inl ⟨e.blk, _, rfl, run_takeDeferred' ho, ?_⟩⟩
      exact close_sound hfin df ds _ _ h (hw.setObj hH he rfl hG (heap_set_same (lt_of_heap ho))) hd

def resSem (tm' : Array Value) : ResultVar → Sem Value
  | .tmp t => pure (tm'.getD t undef)
  | .cell a t => do loadVar t (← asAddr (tm'.getD a undef))
theorem run_resultS {w0 : World} {G : Nat} {E : Env} {H : CH} {w : World} {P : Program} (h : WR w0 G E H w) {tm tm' : Array Value} (ht : VRs E tm tm') {r : ResultVar} {v : Value} (hs : resultS P tm H r = some v) :
    ∃ v', (resSem tm' r).run P w = .ok v' w ∧ VR E v v' := by
  cases r with
  | tmp t => cases hs; exact ⟨_, rfl, ht.getD t⟩
  | cell a t =>
    simp only [resultS] at hs
    split at hs
    case h_2 => cases hs
    rename_i b off hx
    have h1 := ht.getD a
    rw [hx] at h1
    obtain ⟨e, he, h2⟩ := h1.ptr_inv
    obtain ⟨v', h3, h4⟩ := run_loadVar h he hs
    exact ⟨v', by simp only [resSem, h2, asAddr, Sem.run_bind, Sem.run_pure, Result.andThen_ok]; exact h3, h4⟩
theorem run_resultsS {w0 : World} {G : Nat} {E : Env} {H : CH} {w : World} {P : Program} (h : WR w0 G E H w) {tm tm' : Array Value} (ht : VRs E tm tm') : ∀ (rs : List ResultVar) (vs : List Value), resultsS P tm H rs = some vs →
    ∃ vs' : List Value, (rs.mapM (resSem tm')).run P w = .ok vs' w ∧ vs.length = vs'.length ∧ ∀ (i : Nat) (x x' : Value), vs[i]? = some x → vs'[i]? = some x' → VR E x x'
  | [], vs, hs => by cases hs; exact ⟨[], rfl, rfl, fun i x x' a _ => by simp at a⟩
  | r :: rs, vs, hs => by
    simp only [resultsS] at hs
    cases hr : resultS P tm H r with
    | none => rw [hr] at hs; cases hs
    | some v =>
      rw [hr] at hs
      obtain ⟨us, hu, hq⟩ := map_some' hs
      cases hq
      obtain ⟨v', h1, h2⟩ := run_resultS h ht hr
      obtain ⟨us', h3, h4, h5⟩ := run_resultsS h ht rs us hu
      refine ⟨v' :: us', ?_, by simpa using h4, fun i x x' a b => ?_⟩
      · rw [List.mapM_cons]
        simp only [Sem.run_bind]
        rw [h1]
        simp only [Result.andThen_ok]
        rw [h3]
        rfl
      · match i, a, b with
        | 0, a, b => cases a; cases b; exact h2
        | i + 1, a, b => exact h5 i x x' (by simpa using a) (by simpa using b)
theorem run_results {w0 : World} {G : Nat} {E : Env} {H : CH} {w : World} {P : Program} (h : WR w0 G E H w) {tm tm' : Array Value} (ht : VRs E tm tm') {fn : Func} {vs : List Value} (hs : resultsS P tm H fn.results.toList = some vs) :
    ∃ v', (results fn tm').run P w = .ok v' w ∧ VR E (oneOrTuple vs) v' := by
  obtain ⟨vs', h1, h2, h3⟩ := run_resultsS h ht _ _ hs
  refine ⟨oneOrTuple vs', ?_, ?_⟩
  · unfold results
    simp only [Sem.run_bind]
    rw [Array.mapM_eq_mapM_toList]
    simp only [Sem.run_map]
    show (((Sem.run P (List.mapM (resSem tm') fn.results.toList) w).andThen fun a w' => Result.ok a.toArray w').andThen fun a w' => Sem.run P (pure (if h : a.size = 1 then a[0] else Value.tuple a)) w') = _
    rw [h1]
    simp only [Result.andThen_ok, Sem.run_pure]
    match vs' with
    | [] => rfl
    | [v] => rfl
    | a :: b :: r => simp [oneOrTuple]
  · match vs, vs', h2, h3 with
    | [], [], _, _ => exact .flat rfl
    | [v], [v'], _, h3 => exact h3 0 v v' rfl rfl
    | a :: b :: r, a' :: b' :: r', h2, h3 =>
      have := VRs.of_list h2 h3
      exact .tuple this.size this.at_

theorem call_sound {P : Program} {G : Nat} {self : Task → Option Res} (hself : SelfSound P G self) {f : FuncId} {args : Array Value} {H : CH} {r : Res} (h : callX self P G f args H = some r) : Sound P G (.call f args H) r := by
  unfold callX at h
  split at h
  case h_2 => cases h
  rename_i fn hfn
  split at h
  case h_2 => cases h
  rename_i c hc
  split at h
  case h_2 => cases h
  rename_i x tm H1 df hrun
  have key : (∀ id, x ≠ .exit id) ∧ ∃ H2 vs, closeS G H1 df = some H2 ∧ resultsS P tm H2 fn.results.toList = some vs ∧ r = .val (oneOrTuple vs) H2 := by
    cases x with
    | exit id => cases h
    | normal | ret =>
      refine ⟨(fun id hx => by cases hx), ?_⟩
      dsimp only at h
      split at h
      case h_2 => cases h
      rename_i H2 hcl
      obtain ⟨vs, hvs, hq⟩ := map_some' h
      exact ⟨H2, vs, hcl, hvs, hq.symm⟩
  obtain ⟨hx, H2, vs, hcl, hvs, rfl⟩ := key
  intro w0 E args' w ro' n R hw ha hR
  have hcall : CallsIn Fence.wide n P f args' w R := by
    refine callsIn_of_wp_marks hfn hc trivial ?_ rfl
    have hsz := ha.size
    refine wp_of (ro' := none) (n := n) hself hrun hw (a := { tmps := args' ++ Array.replicate (fn.ntmps - args'.size) undef, defers := [] }) ?_ .nil trivial fun F a' w' h1 h2 h3 => ?_
    · rw [← hsz]; exact ha.append (VRs.replicate E _ (.undef E))
    · have hlv : LeavesInM Fence.wide n P fn a'.tmps R a'.defers .returning w' := close_sound (E := E ++ F) (fun w'' hw'' => by
        obtain ⟨v', g1, g2⟩ := run_results hw'' h2 hvs
        exact ⟨v', g1, hR F v' w'' hw'' g2⟩) df a'.defers H1 w' hcl h1 h3
      cases x with
      | normal => exact hlv
      | ret => exact hlv
      | exit id => exact absurd rfl (hx id)
  exact hcall
end Go.Ex
