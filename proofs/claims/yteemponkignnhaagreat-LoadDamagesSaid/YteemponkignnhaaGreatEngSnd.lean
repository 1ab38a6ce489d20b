/- Part of the proof. -/
import Derived.Test.YteemponkignnhaaGreatEngExec
noncomputable section
namespace Go.Ex
open Go.RowKit
theorem wpIn_of_run {ro' : Option Nat} {n : Nat} {P : Program} {o : Oper} {a : Act} {w w' : World} {next : Act → World → Prop} {Q : Exit → Act → World → Prop} (hd : ∀ c, o.op ≠ .defer c) {v' : Value}
    (h : (execOp a.eval o).run P w = .ok (.value v') w' ∨ ((execOp a.eval o).run P w = .ok .skip w' ∧ v' = undef)) (hn : next (a.put o.dst v') w') : o.wpIn (FW ro') n P a w next Q := by
  refine ⟨fun _ _ => trivial, ?_⟩
  rw [Oper.semAt_eq _ _ _ hd]
  rcases h with h | ⟨h, rfl⟩
  · rw [h]; exact hn
  · rw [h]; exact hn
theorem opX_opS {self : Task → Option Res} {P : Program} {G : Nat} {tm : Array Value} {H H' : CH} {o : Oper} {v : Value} (h : opX self P G tm H o = some (v, H')) :
    (∀ x ∈ o.op.operands, okOpd G x = true) ∧ (∀ c, o.op ≠ .defer c) ∧ (opS P G H (ev tm) o = some (v, H') ∨ ∃ (f : Operand) (args : Array Operand) (ts : Array TypeId), o.op = .call { callee := .value f, args, argTypes := ts } ∧
      ((∃ g first cap fn, ev tm f = .func (.func g) first cap ∧ P.funcs[g]? = some fn ∧ (fn.name == "runtime.NumGoroutine") = false ∧ fn.body.isNone = false ∧ self (.call g (first ++ args.map (ev tm) ++ cap) H) = some (.val v H')) ∨
       (∃ u, pureS P (ev tm) o = some u ∧ u = v ∧ H = H') ∨
       (∃ g fn x, ev tm f = .func (.func g) #[] #[] ∧ P.funcs[g]? = some fn ∧ fn.name = "internal/abi.NoEscape" ∧ fn.origin = "" ∧ fn.body.isNone = true ∧ args = #[x] ∧ ev tm x = v ∧ H = H') ∨
       (∃ l, ev tm f = .func (.yield l) #[] #[] ∧ self (.round l (args.map (ev tm)) H) = some (.val v H')))) := by
  unfold opX at h
  split at h
  case isFalse => cases h
  rename_i hall
  have hok : ∀ x ∈ o.op.operands, okOpd G x = true := fun x hx => List.all_eq_true.1 hall x (by simpa using hx)
  split at h
  · cases h
  · rename_i f args ts hop
    refine ⟨hok, (fun c hc => by rw [hop] at hc; cases hc), .inr ⟨f, args, ts, hop, ?_⟩⟩
    split at h
    · rename_i g first cap hf
      split at h
      case h_2 => cases h
      rename_i fn hfn
      split at h
      · cases h
      · rename_i hname
        split at h
        · rename_i hbn
          split at h
          · rename_i u hu
            cases h
            exact .inr (.inl ⟨_, hu, rfl, rfl⟩)
          · split at h
            case isFalse => cases h
            rename_i hc
            simp only [Bool.and_eq_true, beq_iff_eq] at hc
            obtain ⟨⟨h1, h2⟩, h3, h4⟩ := hc
            have e1 : first = #[] := by simpa using h3
            have e2 : cap = #[] := by simpa using h4
            subst e1; subst e2
            split at h
            · rename_i x hx
              cases h
              exact .inr (.inr (.inl ⟨g, fn, x, hf, hfn, h1, h2, hbn, list_one hx, rfl, rfl⟩))
            · cases h
        · rename_i hbody
          split at h
          · rename_i v1 H1 hs
            cases h
            exact .inl ⟨g, first, cap, fn, hf, hfn, Bool.eq_false_iff.2 hname, Bool.eq_false_iff.2 hbody, hs⟩
          · cases h
    · rename_i l first cap hf
      split at h
      case isFalse => cases h
      rename_i hemp
      rw [Bool.and_eq_true] at hemp
      have e1 : first = #[] := by simpa using hemp.1
      have e2 : cap = #[] := by simpa using hemp.2
      subst e1; subst e2
      split at h
      · rename_i v1 H1 hs
        cases h
        exact .inr (.inr (.inr ⟨l, hf, hs⟩))
      · cases h
    · cases h
  · rename_i hnd hnc
    exact ⟨hok, fun c hc => hnd c hc, .inl h⟩
theorem opX_soundρ {self : Task → Option Res} {P : Program} {G : Nat} (hself : SelfSound P G self) {tm : Array Value} {H H' : CH} {o : Oper} {v : Value} (h : opX self P G tm H o = some (v, H'))
    {w0 : World} {E : Env} {a : Act} {w : World} (ro' : Option Nat) (n : Nat) {next : Act → World → Prop} {Q : Exit → Act → World → Prop} (hw : WR w0 G E H w) (ht : ∀ x ∈ o.op.operands, okOpd G x = true → VR E (ev tm x) (a.eval x))
    (fin : ∀ F v' w', WR w0 G (E ++ F) H' w' → VR (E ++ F) v v' → next (a.put o.dst v') w') : o.wpIn (FW ro') n P a w next Q := by
  obtain ⟨hok, hnd, hs⟩ := opX_opS h
  have hρ : ∀ x ∈ o.op.operands, VR E (ev tm x) (a.eval x) := fun x hx => ht x hx (hok x hx)
  rcases hs with hs | ⟨f, args, ts, hop, hs⟩
  · obtain ⟨F, v', w', hr, hv, hw'⟩ := (run_opS hw hρ hs).out
    exact wpIn_of_run hnd hr (fin F v' w' hw' hv)
  · rcases hs with ⟨g, first, cap, fn, hf, hfn, hname, hbody, hcall⟩ | ⟨u, hu, rfl, rfl⟩ | ⟨g, fn, x, hf, hfn, hname, horigin, hbody, rfl, rfl, rfl⟩ | ⟨l, hf, hround⟩
    · -- a call of a function
      have hfr : VR E (ev tm f) (a.eval f) := hρ f (by rw [hop]; simp [Op.operands, Call.operands])
      rw [hf] at hfr
      obtain ⟨first', cap', hf', r1, r2⟩ := hfr.func_inv
      have hargs : VRs E (args.map (ev tm)) (args.map a.eval) := VRs.map args _ _ fun x hx => hρ x (by rw [hop]; simp [Op.operands, Call.operands, hx])
      have hrun : (execOp a.eval o).run P w = .ok (.enter g (first' ++ args.map a.eval ++ cap')) w := by
        unfold execOp
        rw [hop]
        simp only [resolve, hf', Deferred.ofValue, Sem.run_bind, Sem.run_pure, Result.andThen_ok, invoke, callFunc, run_program, hfn, hname, Bool.false_eq_true, if_false, hbody]
      refine ⟨fun _ _ => trivial, ?_⟩
      rw [Oper.semAt_eq _ _ _ hnd, hrun]
      refine ⟨(fun hd => by cases hd), ?_⟩
      exact hself _ _ hcall w0 E _ w ro' (n - 1) _ hw ((r1.append hargs).append r2) (fun F v' w' h1 h2 => fin F v' w' h1 h2)
    · -- an extern
      obtain ⟨h1, h2⟩ := run_pureS hρ hu w
      exact wpIn_of_run hnd (.inl h1) (fin [] u w (by simpa using hw) (by simpa using h2))
    · -- internal/abi.NoEscape
      have hfr : VR E (ev tm f) (a.eval f) := hρ f (by rw [hop]; simp [Op.operands, Call.operands])
      rw [hf] at hfr
      obtain ⟨first', cap', hf', r1, r2⟩ := hfr.func_inv
      have hx : VR E (ev tm x) (a.eval x) := hρ x (by rw [hop]; simp [Op.operands, Call.operands])
      have z1 : first' = #[] := Array.eq_empty_of_size_eq_zero (by rw [← r1.size]; rfl)
      have z2 : cap' = #[] := Array.eq_empty_of_size_eq_zero (by rw [← r2.size]; rfl)
      subst z1; subst z2
      obtain ⟨n1, n2⟩ := find_noEscape hname horigin
      have hnm : (fn.name == "runtime.NumGoroutine") = false := by rw [hname]; decide
      have hrun : (execOp a.eval o).run P w = .ok (.value (a.eval x)) w := by
        unfold execOp
        rw [hop]
        simp only [resolve, hf', Deferred.ofValue, Sem.run_bind, Sem.run_pure, Result.andThen_ok, invoke]
        rw [run_callFunc_extern hfn hnm hbody n1 n2]
        simp [Lib.run_noEscape, Result.andThen]
      exact wpIn_of_run hnd (.inl hrun) (fin [] (a.eval x) w (by simpa using hw) (by simpa using hx))
    · -- a round
      have hfr : VR E (ev tm f) (a.eval f) := hρ f (by rw [hop]; simp [Op.operands, Call.operands])
      rw [hf] at hfr
      obtain ⟨e, he, hf'⟩ : ∃ e : En, E[l]? = some e ∧ a.eval f = .func (.yield e.blk) #[] #[] := by
        generalize a.eval f = y at hfr
        cases hfr with
        | flat hh => cases hh
        | yield hh => exact ⟨_, hh, rfl⟩
      have hargs : VRs E (args.map (ev tm)) (args.map a.eval) := VRs.map args _ _ fun x hx => hρ x (by rw [hop]; simp [Op.operands, Call.operands, hx])
      obtain ⟨fn, tmps, assign, body, hy, hR⟩ := hself _ _ hround w0 E e _ w ro' (n - 1) (fun | .returned v, w'' => next (a.put o.dst v) w'' | .panicked chain, w'' => Q (.panic chain) a w'' | .outgrown, _ => LetsOut Q) he hw hargs (fun F v' w' h1 h2 => fin F v' w' h1 h2)
      have hrun : (execOp a.eval o).run P w = .ok (.round e.blk fn tmps assign body) w := by
        unfold execOp
        rw [hop]
        simp only [resolve, hf', Deferred.ofValue, Sem.run_bind, Sem.run_pure, Result.andThen_ok, invoke]
        rw [show (#[] : Array Value) ++ args.map a.eval = args.map a.eval from by simp]
        exact hy
      refine ⟨fun _ _ => trivial, ?_⟩
      rw [Oper.semAt_eq _ _ _ hnd, hrun]
      exact ⟨(fun hd => by cases hd), hR⟩
theorem opX_sound {self : Task → Option Res} {P : Program} {G : Nat} (hself : SelfSound P G self) {tm : Array Value} {H H' : CH} {o : Oper} {v : Value} (h : opX self P G tm H o = some (v, H'))
    {w0 : World} {E : Env} {a : Act} {w : World} (ro' : Option Nat) (n : Nat) {next : Act → World → Prop} {Q : Exit → Act → World → Prop} (hw : WR w0 G E H w) (ht : VRs E tm a.tmps)
    (hn : ∀ F a' w', WR w0 G (E ++ F) H' w' → VRs (E ++ F) (put tm o.dst v) a'.tmps → a'.defers = a.defers → (∃ v', VR (E ++ F) v v' ∧ a' = a.put o.dst v') → next a' w') : o.wpIn (FW ro') n P a w next Q := by
  refine opX_soundρ hself h ro' n hw (fun x _ hx => ev_rel hw ht hx) fun F v' w' h1 h2 => ?_
  obtain ⟨p1, p2⟩ := put_rel (ht.mono F) o.dst h2
  exact hn F _ w' h1 p1 p2 ⟨v', h2, rfl⟩
theorem opsX_sound {self : Task → Option Res} {P : Program} {G : Nat} (hself : SelfSound P G self) {ops : Array Oper} (ro' : Option Nat) (n : Nat) {Q : Exit → Act → World → Prop} {w0 : World} {tm' : Array Value} {H' : CH} :
    ∀ (l : List Nat) (tm : Array Value) (H : CH) (E : Env) (a : Act) (w : World), opsX self P G ops l tm H = some (tm', H') → WR w0 G E H w → VRs E tm a.tmps →
      (∀ F a' w', WR w0 G (E ++ F) H' w' → VRs (E ++ F) tm' a'.tmps → a'.defers = a.defers → Q .normal a' w') → wpOpsIn (FW ro') n P ops Q l a w
  | [], tm, H, E, a, w, h, hw, ht, hq => by
    cases h
    exact hq [] a w (by simpa using hw) (by simpa using ht) rfl
  | i :: r, tm, H, E, a, w, h, hw, ht, hq => by
    simp only [opsX] at h
    simp only [wpOpsIn]
    cases ho : ops[i]? with
    | none => rw [ho] at h; cases h
    | some o =>
      rw [ho] at h
      dsimp only at h ⊢
      split at h
      · rename_i hwant
        rw [wanted_rel ht ops o (wanted_gk hwant), if_pos hwant]
        split at h
        case h_2 => cases h
        rename_i v H1 hop
        exact opX_sound hself hop ro' n hw ht fun F a' w' h1 h2 h3 _ => opsX_sound hself ro' n r _ _ _ a' w' h h1 h2 fun F' a'' w'' h4 h5 h6 => hq (F ++ F') a'' w'' (by rw [← List.append_assoc]; exact h4) (by rw [← List.append_assoc]; exact h5) (h6.trans h3)
      · rename_i hwant
        split at h
        case isFalse => cases h
        rename_i hgk
        rw [wanted_rel ht ops o hgk, if_neg hwant]
        obtain ⟨p1, p2⟩ := put_rel ht o.dst (.undef E)
        exact ⟨fun _ _ => trivial, opsX_sound hself ro' n r _ _ _ _ w h hw p1 fun F a'' w'' h4 h5 h6 => hq F a'' w'' h4 h5 (h6.trans p2)⟩
end Go.Ex
/- Engine, part 12: the executor is sound: statements, calls, rounds. -/
noncomputable section
namespace Go.Ex
open Go.RowKit
def DrawSound (P : Program) (G : Nat) (draw : Array Oper → Array Value → CH → Option (Array Value × CH)) : Prop :=
  ∀ (ops : Array Oper) (tm tm' : Array Value) (H H' : CH), draw ops tm H = some (tm', H') →
    ∀ (w0 : World) (E : Env) (a : Act) (w : World) (ro' : Option Nat) (n id : Nat) (Q : Exit → Act → World → Prop), WR w0 G E H w → VRs E tm a.tmps →
      (∀ F a' w', WR w0 G (E ++ F) H' w' → VRs (E ++ F) tm' a'.tmps → a'.defers = a.defers → Q .normal a' w') → (Code.region id ops true).wpIn (FW ro') n P Q a w
theorem app_assoc_WR {w0 : World} {G : Nat} {E F F' : Env} {H : CH} {w : World} (h : WR w0 G (E ++ F ++ F') H w) : WR w0 G (E ++ (F ++ F')) H w := by rw [← List.append_assoc]; exact h
theorem app_assoc_VRs {E F F' : Env} {a a' : Array Value} (h : VRs (E ++ F ++ F') a a') : VRs (E ++ (F ++ F')) a a' := by rw [← List.append_assoc]; exact h
theorem app_assoc_DR {E F F' : Env} {a : List Nat} {a' : List Deferred} (h : DR (E ++ F ++ F') a a') : DR (E ++ (F ++ F')) a a' := by rw [← List.append_assoc]; exact h
theorem code_is_ex {P : Program} {G : Nat} {self : Task → Option Res} (hself : SelfSound P G self) {c : Code} {ro : Option Nat} {tm : Array Value} {H : CH} {df : List Nat} {r : Res} (h : self (.code c ro tm H df) = some r) :
    ∃ x tm' H' df', r = .ex x tm' H' df' := by
  cases r with
  | ex x tm' H' df' => exact ⟨x, tm', H', df', rfl⟩
  | val v H' => exact (hself _ _ h).elim
theorem wp_of {P : Program} {G : Nat} {self : Task → Option Res} (hself : SelfSound P G self) {c : Code} {ro : Option Nat} {tm tm' : Array Value} {H H' : CH} {df df' : List Nat} {x : CX} (h : self (.code c ro tm H df) = some (.ex x tm' H' df'))
    {w0 : World} {E : Env} {a : Act} {w : World} {ro' : Option Nat} {n : Nat} {Q : Exit → Act → World → Prop} (hw : WR w0 G E H w) (ht : VRs E tm a.tmps) (hd : DR E df a.defers) (hr : RR E ro ro')
    (hq : ∀ F a' w', WR w0 G (E ++ F) H' w' → VRs (E ++ F) tm' a'.tmps → DR (E ++ F) df' a'.defers → Q x.toExit a' w') : c.wpIn (FW ro') n P Q a w :=
  (hself _ _ h w0 E a w ro' n Q hw ht hd hr hq).1
theorem code_sound {P : Program} {G : Nat} {self : Task → Option Res} (hself : SelfSound P G self) {draw : Array Oper → Array Value → CH → Option (Array Value × CH)} (hdraw : DrawSound P G draw)
    (hrange : ∀ g ps assign body ro tm H df r, rangeX self P G 0 g ps assign body ro tm H df = some r → Sound P G (.code (.rangeFunc g ps assign body) ro tm H df) r)
    {c : Code} {ro : Option Nat} {tm : Array Value} {H : CH} {df : List Nat} {r : Res} (h : step self P G draw (.code c ro tm H df) = some r) : Sound P G (.code c ro tm H df) r := by
  cases c with
  | skip =>
    cases h
    intro w0 E a w ro' n Q hw ht hd hr hq
    exact ⟨wpIn_skip (hq [] a w (by simpa using hw) (by simpa using ht) (by simpa using hd)), fun b hb => by cases hb⟩
  | label l =>
    cases h
    intro w0 E a w ro' n Q hw ht hd hr hq
    exact ⟨wpIn_label (hq [] a w (by simpa using hw) (by simpa using ht) (by simpa using hd)), fun b hb => by cases hb⟩
  | exit id =>
    cases h
    intro w0 E a w ro' n Q hw ht hd hr hq
    exact ⟨wpIn_exit (hq [] a w (by simpa using hw) (by simpa using ht) (by simpa using hd)), fun b hb => by cases hb⟩
  | ret =>
    cases h
    intro w0 E a w ro' n Q hw ht hd hr hq
    exact ⟨wpIn_ret (hq [] a w (by simpa using hw) (by simpa using ht) (by simpa using hd)), fun b hb => by cases hb⟩
  | seq x y =>
    simp only [step] at h
    cases hx : self (.code x ro tm H df) with
    | none => rw [hx] at h; cases h
    | some r1 =>
      obtain ⟨x1, tm1, H1, df1, rfl⟩ := code_is_ex hself hx
      rw [hx] at h
      cases x1 with
      | normal =>
        dsimp only at h
        obtain ⟨x2, tm2, H2, df2, rfl⟩ := code_is_ex hself h
        intro w0 E a w ro' n Q hw ht hd hr hq
        refine ⟨wpIn_seq (wp_of hself hx hw ht hd hr fun F a' w' h1 h2 h3 => ?_), fun b hb => by cases hb⟩
        exact wp_of hself h h1 h2 h3 (hr.mono F) fun F' a'' w'' h4 h5 h6 => hq (F ++ F') a'' w'' (app_assoc_WR h4) (app_assoc_VRs h5) (app_assoc_DR h6)
      | exit id =>
        cases h
        intro w0 E a w ro' n Q hw ht hd hr hq
        exact ⟨wpIn_seq (wp_of hself hx hw ht hd hr fun F a' w' h1 h2 h3 => hq F a' w' h1 h2 h3), fun b hb => by cases hb⟩
      | ret =>
        cases h
        intro w0 E a w ro' n Q hw ht hd hr hq
        exact ⟨wpIn_seq (wp_of hself hx hw ht hd hr fun F a' w' h1 h2 h3 => hq F a' w' h1 h2 h3), fun b hb => by cases hb⟩
  | cond o x y =>
    simp only [step] at h
    split at h
    case isFalse => cases h
    rename_i hok
    split at h
    case h_2 => cases h
    rename_i b hb
    obtain ⟨x2, tm2, H2, df2, rfl⟩ := code_is_ex hself h
    intro w0 E a w ro' n Q hw ht hd hr hq
    have hc := ev_rel hw ht hok
    rw [hb] at hc
    exact ⟨wpIn_cond hc.bool_inv (wp_of hself h hw ht hd hr hq), fun b hb => by cases hb⟩
  | block id b =>
    simp only [step] at h
    cases hx : self (.code b ro tm H df) with
    | none => rw [hx] at h; cases h
    | some r1 =>
      obtain ⟨x1, tm1, H1, df1, rfl⟩ := code_is_ex hself hx
      rw [hx] at h
      cases x1 with
      | normal =>
        cases h
        intro w0 E a w ro' n Q hw ht hd hr hq
        exact ⟨wpIn_block (wp_of hself hx hw ht hd hr fun F a' w' h1 h2 h3 => hq F a' w' h1 h2 h3), fun b hb => by cases hb⟩
      | ret =>
        cases h
        intro w0 E a w ro' n Q hw ht hd hr hq
        exact ⟨wpIn_block (wp_of hself hx hw ht hd hr fun F a' w' h1 h2 h3 => hq F a' w' h1 h2 h3), fun b hb => by cases hb⟩
      | exit id' =>
        dsimp only at h
        cases h
        intro w0 E a w ro' n Q hw ht hd hr hq
        refine ⟨wpIn_block (wp_of hself hx hw ht hd hr fun F a' w' h1 h2 h3 => ?_), fun b hb => by cases hb⟩
        have := hq F a' w' h1 h2 h3
        show Exit.inBlock id Q (.exit id') a' w'
        simp only [Exit.inBlock]
        split <;> simp_all [CX.toExit]
  | loop b =>
    simp only [step] at h
    cases hx : self (.code b ro tm H df) with
    | none => rw [hx] at h; cases h
    | some r1 =>
      obtain ⟨x1, tm1, H1, df1, rfl⟩ := code_is_ex hself hx
      rw [hx] at h
      have key : Sound P G (.code (.loop b) ro tm H df) r := by
        cases x1 with
        | normal =>
          dsimp only at h
          obtain ⟨x2, tm2, H2, df2, rfl⟩ := code_is_ex hself h
          intro w0 E a w ro' n Q hw ht hd hr hq
          have hl : LoopWp (FW ro') n P b Q a w := .of_body (wp_of hself hx hw ht hd hr fun F a' w' h1 h2 h3 =>
            (hself _ _ h w0 (E ++ F) a' w' ro' n Q h1 h2 h3 (hr.mono F) fun F' a'' w'' h4 h5 h6 => hq (F ++ F') a'' w'' (app_assoc_WR h4) (app_assoc_VRs h5) (app_assoc_DR h6)).2 b rfl)
          exact ⟨hl.loop, fun b' hb => by cases hb; exact hl⟩
        | exit id =>
          cases h
          intro w0 E a w ro' n Q hw ht hd hr hq
          have hl : LoopWp (FW ro') n P b Q a w := .of_body (wp_of hself hx hw ht hd hr fun F a' w' h1 h2 h3 => hq F a' w' h1 h2 h3)
          exact ⟨hl.loop, fun b' hb => by cases hb; exact hl⟩
        | ret =>
          cases h
          intro w0 E a w ro' n Q hw ht hd hr hq
          have hl : LoopWp (FW ro') n P b Q a w := .of_body (wp_of hself hx hw ht hd hr fun F a' w' h1 h2 h3 => hq F a' w' h1 h2 h3)
          exact ⟨hl.loop, fun b' hb => by cases hb; exact hl⟩
      exact key
  | scope b =>
    simp only [step] at h
    obtain ⟨x2, tm2, H2, df2, rfl⟩ := code_is_ex hself h
    intro w0 E a w ro' n Q hw ht hd hr hq
    exact ⟨wpIn_scope' (wp_of hself h hw ht hd hr fun F a' w' h1 h2 h3 => ⟨hq F a' w' h1 h2 h3, fun l hl => by cases x2 <;> cases hl⟩), fun b hb => by cases hb⟩
  | region id ops d =>
    simp only [step] at h
    split at h
    case h_2 => cases h
    rename_i tm1 H1 hrun
    cases h
    intro w0 E a w ro' n Q hw ht hd hr hq
    refine ⟨?_, fun b hb => by cases hb⟩
    cases d with
    | true =>
      simp only [if_true] at hrun
      exact hdraw ops tm tm1 H H1 hrun w0 E a w ro' n id Q hw ht fun F a' w' h1 h2 h3 => hq F a' w' h1 h2 (by rw [h3]; exact hd.mono F)
    | false =>
      simp only [Bool.false_eq_true, if_false] at hrun
      exact wpIn_region (opsX_sound hself ro' n _ _ _ _ _ _ hrun hw ht fun F a' w' h1 h2 h3 => hq F a' w' h1 h2 (by rw [h3]; exact hd.mono F))
  | rangeFunc g ps assign body => exact hrange _ _ _ _ _ _ _ _ _ h
  | goto l => cases h
  | refuse why => cases h
theorem run_takeDeferred' {P : Program} {w : World} {r : Nat} (h : w.heap[r]? = some (.deferred (some []))) : (Instr.takeDeferred r).run P w = .ok [] { w with heap := w.heap.setIfInBounds r (.deferred none) } := by
  simp only [Instr.takeDeferred, Sem.run_bind, run_getObj' (P := P) h (fun _ _ _ x => by cases x), Result.andThen_ok, run_setObj' (P := P) h (fun _ _ _ x => by cases x), Sem.run_pure]
theorem close_sound {P : Program} {G : Nat} {F : Fence} {n : Nat} {fn : Func} {tmps : Array Value} {R : Ending → World → Prop} {w0 : World} {E : Env} {H' : CH} (hfin : ∀ w', WR w0 G E H' w' → ∃ v, (results fn tmps).run P w' = .ok v w' ∧ R (.returned v) w') :
    ∀ (df : List Nat) (ds : List Deferred) (H : CH) (w : World), closeS G H df = some H' → WR w0 G E H w → DR E df ds → LeavesInM F n P fn tmps R ds .returning w
  | [], _, H, w, h, hw, hd => by
    cases h
    cases hd with
    | nil =>
      obtain ⟨v, h1, h2⟩ := hfin w hw
      exact ⟨v, h1, h2⟩
  | r :: df, _, H, w, h, hw, hd => by
    cases hd with
    | cons he hd =>
      rename_i e ds
      simp only [closeS] at h
      split at h
      case isFalse => cases h
      rename_i hG
      split at h
      case h_2 => cases h
      rename_i hH
      have ho : w.heap[e.blk]? = some (.deferred (some [])) := hw.obj r _ e hH he
      refine ⟨(fun x => by cases x), .inl ⟨e.blk, _, rfl, run_takeDeferred' ho, ?_⟩⟩
      exact close_sound hfin df ds _ _ h (hw.setObj hH he rfl hG (heap_set_same (lt_of_heap ho))) hd
def resSem (tm' : Array Value) : ResultVar → Sem Value
  | .tmp t => pure (tm'.getD t undef)
  | .cell a t => do loadVar t (← asAddr (tm'.getD a undef))
theorem run_resultS {w0 : World} {G : Nat} {E : Env} {H : CH} {w : World} {P : Program} (h : WR w0 G E H w) {tm tm' : Array Value} (ht : VRs E tm tm') {r : ResultVar} {v : Value} (hs : resultS P tm H r = some v) :
    ∃ v', (resSem tm' r).run P w = .ok v' w ∧ VR E v v' := by
  cases r with
  | tmp t => cases hs; exact ⟨_, rfl, ht.getD t⟩
  | cell a t =>
    simp only [resultS] at hs
    split at hs
    case h_2 => cases hs
    rename_i b off hx
    have h1 := ht.getD a
    rw [hx] at h1
    obtain ⟨e, he, h2⟩ := h1.ptr_inv
    obtain ⟨v', h3, h4⟩ := run_loadVar h he hs
    exact ⟨v', by simp only [resSem, h2, asAddr, Sem.run_bind, Sem.run_pure, Result.andThen_ok]; exact h3, h4⟩
theorem run_resultsS {w0 : World} {G : Nat} {E : Env} {H : CH} {w : World} {P : Program} (h : WR w0 G E H w) {tm tm' : Array Value} (ht : VRs E tm tm') : ∀ (rs : List ResultVar) (vs : List Value), resultsS P tm H rs = some vs →
    ∃ vs' : List Value, (rs.mapM (resSem tm')).run P w = .ok vs' w ∧ vs.length = vs'.length ∧ ∀ (i : Nat) (x x' : Value), vs[i]? = some x → vs'[i]? = some x' → VR E x x'
  | [], vs, hs => by cases hs; exact ⟨[], rfl, rfl, fun i x x' a _ => by simp at a⟩
  | r :: rs, vs, hs => by
    simp only [resultsS] at hs
    cases hr : resultS P tm H r with
    | none => rw [hr] at hs; cases hs
    | some v =>
      rw [hr] at hs
      obtain ⟨us, hu, hq⟩ := map_some' hs
      cases hq
      obtain ⟨v', h1, h2⟩ := run_resultS h ht hr
      obtain ⟨us', h3, h4, h5⟩ := run_resultsS h ht rs us hu
      refine ⟨v' :: us', ?_, by simpa using h4, fun i x x' a b => ?_⟩
      · rw [List.mapM_cons]
        simp only [Sem.run_bind]
        rw [h1]
        simp only [Result.andThen_ok]
        rw [h3]
        rfl
      · match i, a, b with
        | 0, a, b => cases a; cases b; exact h2
        | i + 1, a, b => exact h5 i x x' (by simpa using a) (by simpa using b)
theorem run_results {w0 : World} {G : Nat} {E : Env} {H : CH} {w : World} {P : Program} (h : WR w0 G E H w) {tm tm' : Array Value} (ht : VRs E tm tm') {fn : Func} {vs : List Value} (hs : resultsS P tm H fn.results.toList = some vs) :
    ∃ v', (results fn tm').run P w = .ok v' w ∧ VR E (oneOrTuple vs) v' := by
  obtain ⟨vs', h1, h2, h3⟩ := run_resultsS h ht _ _ hs
  refine ⟨oneOrTuple vs', ?_, ?_⟩
  · unfold results
    simp only [Sem.run_bind]
    rw [Array.mapM_eq_mapM_toList]
    simp only [Sem.run_map]
    show (((Sem.run P (List.mapM (resSem tm') fn.results.toList) w).andThen fun a w' => Result.ok a.toArray w').andThen fun a w' => Sem.run P (pure (if h : a.size = 1 then a[0] else Value.tuple a)) w') = _
    rw [h1]
    simp only [Result.andThen_ok, Sem.run_pure]
    match vs' with
    | [] => rfl
    | [v] => rfl
    | a :: b :: r => simp [oneOrTuple]
  · match vs, vs', h2, h3 with
    | [], [], _, _ => exact .flat rfl
    | [v], [v'], _, h3 => exact h3 0 v v' rfl rfl
    | a :: b :: r, a' :: b' :: r', h2, h3 =>
      have := VRs.of_list h2 h3
      exact .tuple this.size this.at_
theorem call_sound {P : Program} {G : Nat} {self : Task → Option Res} (hself : SelfSound P G self) {f : FuncId} {args : Array Value} {H : CH} {r : Res} (h : callX self P G f args H = some r) : Sound P G (.call f args H) r := by
  unfold callX at h
  split at h
  case h_2 => cases h
  rename_i fn hfn
  split at h
  case h_2 => cases h
  rename_i c hc
  split at h
  case h_2 => cases h
  rename_i x tm H1 df hrun
  have key : (∀ id, x ≠ .exit id) ∧ ∃ H2 vs, closeS G H1 df = some H2 ∧ resultsS P tm H2 fn.results.toList = some vs ∧ r = .val (oneOrTuple vs) H2 := by
    cases x with
    | exit id => cases h
    | normal | ret =>
      refine ⟨(fun id hx => by cases hx), ?_⟩
      dsimp only at h
      split at h
      case h_2 => cases h
      rename_i H2 hcl
      obtain ⟨vs, hvs, hq⟩ := map_some' h
      exact ⟨H2, vs, hcl, hvs, hq.symm⟩
  obtain ⟨hx, H2, vs, hcl, hvs, rfl⟩ := key
  intro w0 E args' w ro' n R hw ha hR
  have hcall : CallsIn Fence.wide n P f args' w R := by
    refine callsIn_of_wp_marks hfn hc trivial ?_ rfl
    have hsz := ha.size
    refine wp_of (ro' := none) (n := n) hself hrun hw (a := { tmps := args' ++ Array.replicate (fn.ntmps - args'.size) undef, defers := [] }) ?_ .nil trivial fun F a' w' h1 h2 h3 => ?_
    · rw [← hsz]; exact ha.append (VRs.replicate E _ (.undef E))
    · have hlv : LeavesInM Fence.wide n P fn a'.tmps R a'.defers .returning w' := close_sound (E := E ++ F) (fun w'' hw'' => by
        obtain ⟨v', g1, g2⟩ := run_results hw'' h2 hvs
        exact ⟨v', g1, hR F v' w'' hw'' g2⟩) df a'.defers H1 w' hcl h1 h3
      cases x with
      | normal => exact hlv
      | ret => exact hlv
      | exit id => exact absurd rfl (hx id)
  exact hcall
end Go.Ex
/- Engine, part 13: ranges over functions. -/
noncomputable section
namespace Go.Ex
open Go.RowKit
theorem zipfold_rel {E : Env} : ∀ (ps : List Tmp) (as as' : List Value) (tm tm' : Array Value), as.length = as'.length → (∀ (i : Nat) (x x' : Value), as[i]? = some x → as'[i]? = some x' → VR E x x') → VRs E tm tm' →
    VRs E ((ps.zip as).foldl (fun tmps (p : Tmp × Value) => tmps.setIfInBounds p.1 p.2) tm) ((ps.zip as').foldl (fun tmps (p : Tmp × Value) => tmps.setIfInBounds p.1 p.2) tm')
  | [], _, _, _, _, _, _, h => by simpa using h
  | p :: ps, [], [], tm, tm', _, _, h => by simpa using h
  | p :: ps, [], _ :: _, _, _, hl, _, _ => by simp at hl
  | p :: ps, _ :: _, [], _, _, hl, _, _ => by simp at hl
  | p :: ps, x :: r, x' :: r', tm, tm', hl, hv, h => by
    rw [List.zip_cons_cons, List.zip_cons_cons, List.foldl_cons, List.foldl_cons]
    exact zipfold_rel ps r r' _ _ (by simpa using hl) (fun i y y' a b => hv (i + 1) y y' a b) (h.set p (hv 0 x x' rfl rfl))
theorem run_getLoop {P : Program} {w : World} {l : Nat} {r : Loop} (h : w.heap[l]? = some (.loop r)) : (Instr.getLoop l).run P w = .ok r w := by
  simp only [Instr.getLoop, Sem.run_bind, run_getObj' (P := P) h (fun _ _ _ x => by cases x), Result.andThen_ok, Sem.run_pure]
theorem loop_ne (r : Loop) : ∀ c e f, Obj.loop r ≠ .cells c e f := fun _ _ _ x => by cases x
theorem loop_of {w0 : World} {G : Nat} {E : Env} {H : CH} {w : World} (hw : WR w0 G E H w) {l : Nat} {r : Loop} {e : En} (hH : H[l]? = some (.loop r)) (he : E[l]? = some e) :
    ∃ (tmps : Array Value) (d : En) (fn : FuncId), w.heap[e.blk]? = some (.loop { r with tmps := tmps, defers := d.blk, fn := fn }) ∧ VRs E r.tmps tmps ∧ E[r.defers]? = some d := hw.obj l _ e hH he
theorem setLoop_of {w0 : World} {G : Nat} {E : Env} {H : CH} {w : World} (hw : WR w0 G E H w) {l : Nat} {r r' : Loop} {e : En} (hH : H[l]? = some (.loop r)) (he : E[l]? = some e) (hG : G ≤ l)
    {tmps : Array Value} {d : En} {fn : FuncId} (hh : w.heap[e.blk]? = some (.loop { r with tmps := tmps, defers := d.blk, fn := fn })) (ht : VRs E r.tmps tmps) (hd : E[r.defers]? = some d) (h1 : r'.tmps = r.tmps) (h2 : r'.defers = r.defers) :
    WR w0 G E (H.set l (.loop r')) { w with heap := w.heap.setIfInBounds e.blk (.loop { r' with tmps := tmps, defers := d.blk, fn := fn }) } :=
  hw.setObj hH he rfl hG ⟨tmps, d, fn, heap_set_same (lt_of_heap hh), by rw [h1]; exact ht, by rw [h2]; exact hd⟩
theorem run_endRound {P : Program} {w : World} {l : Nat} {r : Loop} (h : w.heap[l]? = some (.loop r)) (j : Option Code) :
    (Instr.endRound l j).run P w = .ok (.bool j.isNone) { w with heap := w.heap.setIfInBounds l (.loop { r with state := if j.isNone then .ready else .done, pending := j }) } := by
  simp only [Instr.endRound, Sem.run_bind, run_getLoop h, Result.andThen_ok, run_setObj' (P := P) h (loop_ne r), Sem.run_pure]
theorem roundPost_of {P : Program} {l : Nat} {R : Ending → World → Prop} {x : CX} {a : Act} {w w' : World} {v : Value} (h : (Instr.endRound l (jumpOf x)).run P w = .ok v w') (hR : R (.returned v) w') : roundPost P l R x.toExit a w := by
  cases x with
  | normal => exact ⟨v, w', h, hR⟩
  | exit id => exact ⟨v, w', h, hR⟩
  | ret => exact ⟨v, w', h, hR⟩
theorem round_sound {P : Program} {G : Nat} {self : Task → Option Res} (hself : SelfSound P G self) {l : Nat} {args : Array Value} {H : CH} {r : Res} (h : roundX self G l args H = some r) : Sound P G (.round l args H) r := by
  unfold roundX at h
  split at h
  case isFalse => cases h
  rename_i hG
  split at h
  case h_2 => cases h
  rename_i lp hH
  split at h
  case isFalse => cases h
  rename_i hsz
  split at h
  case h_2 => cases h
  rename_i tm1 H1 df1 hassign
  split at h
  case h_2 => cases h
  rename_i lp1 hH1
  split at h
  case isFalse => cases h
  rename_i hready
  split at h
  case h_2 => cases h
  rename_i x tm2 H3 df3 hbody
  split at h
  case h_2 => cases h
  rename_i lp3 hH3
  cases h
  intro w0 E e args' w ro' n R he hw ha hR
  obtain ⟨tmps, d, fn, hh, ht, hd⟩ := loop_of hw hH he
  have hsz' : args'.size = lp.params.size := by rw [← ha.size]; exact hsz
  refine ⟨fn, (lp.params.zip args').foldl (fun tmps (t, a) => tmps.setIfInBounds t a) tmps, lp.assign, lp.body, ?_, ?_⟩
  · simp only [Instr.yield, Sem.run_bind, run_getLoop hh, Result.andThen_ok]
    rw [if_neg (by simpa using hsz')]
    simp only [Sem.run_pure]
  · refine roundIn_of_wpIn (fw_fn ro' fn) ?_
    have hfold : VRs E ((lp.params.zip args).foldl (fun tmps (t, a) => tmps.setIfInBounds t a) lp.tmps) ((lp.params.zip args').foldl (fun tmps (t, a) => tmps.setIfInBounds t a) tmps) := by
      rw [← Array.foldl_toList, ← Array.foldl_toList, Array.toList_zip, Array.toList_zip]
      exact zipfold_rel _ _ _ _ _ (by simpa using ha.size) (fun i x x' p q => ha.at_ i x x' (by simpa using p) (by simpa using q)) ht
    refine wp_of (ro' := some e.blk) (n := n) hself hassign hw hfold .nil ⟨e, he, rfl⟩ fun F a' w' h1 h2 h3 => ?_
    have he1 : (E ++ F)[l]? = some e := Env.get_mono he
    obtain ⟨tmps1, d1, fn1, hh1, ht1, hd1⟩ := loop_of h1 hH1 he1
    refine ⟨{ w' with heap := w'.heap.setIfInBounds e.blk (.loop { lp1 with state := .busy, tmps := tmps1, defers := d1.blk, fn := fn1 }) }, ?_, ?_⟩
    · simp only [Instr.beginRound, Sem.run_bind, run_getLoop hh1, Result.andThen_ok, run_setObj' (P := P) hh1 (loop_ne _), hready]
      rfl
    · refine wp_of (ro' := some e.blk) (n := n) hself hbody (setLoop_of h1 hH1 he1 hG hh1 ht1 hd1 rfl rfl) h2 h3 ⟨e, he1, rfl⟩ fun F' a'' w'' h4 h5 h6 => ?_
      have he2 : (E ++ F ++ F')[l]? = some e := Env.get_mono he1
      obtain ⟨tmps3, d3, fn3, hh3, ht3, hd3⟩ := loop_of h4 hH3 he2
      refine roundPost_of (run_endRound hh3 (jumpOf x)) ?_
      exact hR (F ++ F') _ _ (app_assoc_WR (setLoop_of h4 (r' := { lp3 with state := if (jumpOf x).isNone then .ready else .done, pending := jumpOf x }) hH3 he2 hG hh3 ht3 hd3 rfl rfl)) (.flat rfl)
theorem run_endLoop {P : Program} {w : World} {l : Nat} {r : Loop} (h : w.heap[l]? = some (.loop r)) (hb : r.state ≠ .busy) :
    (Instr.endLoop l).run P w = .ok r.pending { w with heap := w.heap.setIfInBounds l (.loop { r with state := .exhausted }) } := by
  have hb' : (r.state == LoopState.busy) = false := by simpa using hb
  simp only [Instr.endLoop, Sem.run_bind, run_getLoop h, Result.andThen_ok, hb']
  rw [if_neg (by simp)]
  simp only [Sem.run_bind, run_setObj' (P := P) h (loop_ne r), Result.andThen_ok, Sem.run_pure]
theorem range_sound {P : Program} {G : Nat} {self : Task → Option Res} (hself : SelfSound P G self) {fnr : FuncId} {g : Operand} {ps : Array Tmp} {assign body : Code} {ro : Option Nat} {tm : Array Value} {H : CH} {df : List Nat} {r : Res}
    (h : rangeX self P G fnr g ps assign body ro tm H df = some r) : Sound P G (.code (.rangeFunc g ps assign body) ro tm H df) r := by
  unfold rangeX at h
  dsimp only at h
  split at h
  case h_1 => cases h
  rename_i H1 df1 dd hstart
  unfold startO at hstart
  split at h
  case isFalse => cases h
  rename_i hok
  split at h
  case h_2 => cases h
  rename_i k first cap hg
  split at h
  case h_2 => cases h
  rename_i fn0 hfn
  split at h
  case isTrue => cases h
  rename_i hname
  split at h
  case isTrue => cases h
  rename_i hbodyN
  split at h
  case h_2 => cases h
  rename_i v3 H3 hcall
  split at h
  case h_2 => cases h
  rename_i r3 hH3
  split at h
  case isTrue => cases h
  rename_i hbusy
  have start : ∀ (w0 : World) (E : Env) (a : Act) (w : World) (ro' : Option Nat), WR w0 G E H w → VRs E tm a.tmps → DR E df a.defers → RR E ro ro' → ∀ fn : FuncId,
      ∃ (F : Env) (l : Nat) (mark : List Deferred) (w1 : World), (Instr.enterLoop fn a.tmps ps assign body ro').run P w = .ok (l, mark) w1 ∧
        WR w0 G (E ++ F) (H1.push (.loop { state := .ready, pending := none, fn := fnr, tmps := tm, params := ps, assign, body, defers := dd })) w1 ∧ DR (E ++ F) df1 (mark ++ a.defers) ∧ (E ++ F)[H1.length]? = some ⟨l, 0, 0⟩ := by
    intro w0 E a w ro' hw ht hd hr fn
    cases ro with
    | none =>
      cases ro' with
      | some b => exact hr.elim
      | none =>
        cases hstart
        have hw1 : WR w0 G (E ++ [⟨w.heap.size, 0, 0⟩]) (H.push (.dfr false)) (w.alloc (.deferred (some []))) := hw.push _ _ _ rfl (heap_alloc_new w _)
        have hl1 : (H.push (CO.dfr false)).length = (E ++ [(⟨w.heap.size, 0, 0⟩ : En)]).length := hw1.len.symm
        have hlast : (E ++ [(⟨w.heap.size, 0, 0⟩ : En)])[H.length]? = some ⟨w.heap.size, 0, 0⟩ := by rw [← hw.len]; exact Env.last E _
        have hw2 : WR w0 G (E ++ [⟨w.heap.size, 0, 0⟩] ++ [⟨w.heap.size + 1, 0, 0⟩]) ((H.push (.dfr false)).push (.loop { state := .ready, pending := none, fn := fnr, tmps := tm, params := ps, assign, body, defers := H.length }))
            ((w.alloc (.deferred (some []))).alloc (.loop { state := .ready, pending := none, fn := fn, tmps := a.tmps, params := ps, assign, body, defers := w.heap.size })) := by
          refine hw1.push _ _ _ (by rw [size_alloc]) ⟨a.tmps, ⟨w.heap.size, 0, 0⟩, fn, ?_, (ht.mono _).mono _, Env.get_mono hlast⟩
          have := heap_alloc_new (w.alloc (.deferred (some []))) (.loop { state := .ready, pending := none, fn := fn, tmps := a.tmps, params := ps, assign, body, defers := w.heap.size })
          rw [size_alloc] at this
          exact this
        refine ⟨[⟨w.heap.size, 0, 0⟩, ⟨w.heap.size + 1, 0, 0⟩], w.heap.size + 1, [{ target := .collected w.heap.size, args := #[] }], _, ?_, by simpa using hw2, ?_, ?_⟩
        · simp only [Instr.enterLoop, Sem.run_bind, run_newObj, Sem.run_pure, Result.andThen_ok]
          simp only [Array.size_push]
          rfl
        · refine DR.cons (e := ⟨w.heap.size, 0, 0⟩) ?_ (hd.mono _)
          rw [show E ++ [(⟨w.heap.size, 0, 0⟩ : En), ⟨w.heap.size + 1, 0, 0⟩] = (E ++ [⟨w.heap.size, 0, 0⟩]) ++ [⟨w.heap.size + 1, 0, 0⟩] from by simp]
          exact Env.get_mono hlast
        · rw [show E ++ [(⟨w.heap.size, 0, 0⟩ : En), ⟨w.heap.size + 1, 0, 0⟩] = (E ++ [⟨w.heap.size, 0, 0⟩]) ++ [⟨w.heap.size + 1, 0, 0⟩] from by simp, hl1]
          exact Env.last _ _
    | some l0 =>
      cases ro' with
      | none => exact hr.elim
      | some b =>
        obtain ⟨e0, he0, rfl⟩ := hr
        dsimp only at hstart
        split at hstart
        case h_2 => cases hstart
        rename_i lp hH
        cases hstart
        obtain ⟨tmps, d, fn1, hh, ht1, hd1⟩ := loop_of hw hH he0
        have hw2 : WR w0 G (E ++ [⟨w.heap.size, 0, 0⟩]) (H.push (.loop { state := .ready, pending := none, fn := fnr, tmps := tm, params := ps, assign, body, defers := lp.defers }))
            (w.alloc (.loop { state := .ready, pending := none, fn := fn, tmps := a.tmps, params := ps, assign, body, defers := d.blk })) :=
          hw.push _ _ _ rfl ⟨a.tmps, d, fn, heap_alloc_new w _, ht.mono _, Env.get_mono hd1⟩
        refine ⟨[⟨w.heap.size, 0, 0⟩], w.heap.size, [], _, ?_, hw2, by simpa using hd.mono _, by rw [← hw.len]; exact Env.last E _⟩
        simp only [Instr.enterLoop, Sem.run_bind, run_getLoop hh, run_newObj, Sem.run_pure, Result.andThen_ok]
        rfl
  have hres : ∃ x tm' H' df', r = .ex x tm' H' df' := by
    split at h
    · cases h; exact ⟨_, _, _, _, rfl⟩
    · exact code_is_ex hself h
  obtain ⟨x, tm', H', df', rfl⟩ := hres
  intro w0 E a w ro' n Q hw ht hd hr hq
  refine ⟨wpIn_rangeFunc fun fn _ => ?_, fun b hb => by cases hb⟩
  obtain ⟨F, l, mark, w1, hent, hw1, hd1, hl⟩ := start w0 E a w ro' hw ht hd hr fn
  have hfr := ev_rel hw ht hok
  rw [hg] at hfr
  obtain ⟨first', cap', hf', r1, r2⟩ := hfr.func_inv
  have hlen : (H1.push (CO.loop { state := .ready, pending := none, fn := fnr, tmps := tm, params := ps, assign, body, defers := dd })).length = H1.length + 1 := rfl
  refine ⟨l, mark, w1, { target := .fn (.func k) cap', args := first' ++ #[.func (.yield l) #[] #[]] }, w1, k, first' ++ #[.func (.yield l) #[] #[]] ++ cap', w1, hent, ?_, fun _ _ => trivial, ?_, (fun hd => by cases hd), ?_⟩
  · have hm : Array.map a.eval #[Operand.const (Value.func (Fn.yield l) #[] #[])] = #[Value.func (Fn.yield l) #[] #[]] := by simp [Act.eval]
    simp only [resolve, hf', Deferred.ofValue, Sem.run_pure, hm]
  · simp only [invoke, callFunc, Sem.run_bind, run_program, Result.andThen_ok, hfn, Bool.eq_false_iff.2 hname, Bool.eq_false_iff.2 hbodyN, Bool.false_eq_true, if_false, Sem.run_pure]
  · have hy : VR (E ++ F) (.func (.yield H1.length) #[] #[]) (.func (.yield l) #[] #[]) := VR.yield (e := ⟨l, 0, 0⟩) hl
    refine hself _ _ hcall w0 (E ++ F) _ w1 ro' (n - 1) _ hw1 (((r1.mono F).append (.one hy)).append (r2.mono F)) fun F' v' w' h1 h2 => ?_
    have he3 : (E ++ F ++ F')[H1.length]? = some ⟨l, 0, 0⟩ := Env.get_mono hl
    obtain ⟨tmps3, d3, fn3, hh3, ht3, hd3⟩ := loop_of h1 hH3 he3
    have hG3 : G ≤ H1.length := by
      have h0 := hw.glen
      have : H.length ≤ H1.length := by
        cases ro with
        | none => cases hstart; exact Nat.le_succ _
        | some l0 =>
          dsimp only at hstart
          split at hstart
          · cases hstart; exact Nat.le_refl _
          · cases hstart
      rw [hw.len] at h0; omega
    have hw4 := setLoop_of h1 (r' := { r3 with state := .exhausted }) hH3 he3 hG3 hh3 ht3 hd3 rfl rfl
    refine ⟨r3.pending, _, run_endLoop (r := { r3 with tmps := tmps3, defers := d3.blk, fn := fn3 }) hh3 hbusy, ?_⟩
    split at h
    · rename_i hp
      cases h
      rw [hp]
      exact hq (F ++ F') _ _ (by simpa only [hp] using app_assoc_WR hw4) (app_assoc_VRs ((ht.mono F).mono F')) (app_assoc_DR (hd1.mono F'))
    · rename_i c hp
      rw [hp]
      simp only [hp] at hw4 h
      exact wp_of hself h hw4 ((ht.mono F).mono F') (hd1.mono F') ((hr.mono F).mono F') fun F'' a'' w'' h4 h5 h6 => hq (F ++ (F' ++ F'')) a'' w'' (by simpa [List.append_assoc] using h4) (by simpa [List.append_assoc] using h5) (by simpa [List.append_assoc] using h6)
theorem step_sound {P : Program} {G : Nat} {self : Task → Option Res} (hself : SelfSound P G self) {draw : Array Oper → Array Value → CH → Option (Array Value × CH)} (hdraw : DrawSound P G draw) : SelfSound P G (step self P G draw) := by
  intro t r h
  cases t with
  | code c ro tm H df => exact code_sound hself hdraw (fun _ _ _ _ _ _ _ _ _ h => range_sound hself h) h
  | call f args H => exact call_sound hself h
  | round l args H => exact round_sound hself h
end Go.Ex
