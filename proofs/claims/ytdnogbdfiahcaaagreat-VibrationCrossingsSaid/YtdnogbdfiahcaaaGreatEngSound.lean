/- Engine, part 11: the executor is sound, operation by operation and statement by statement. -/
import Derived.Test.YtdnogbdfiahcaaaGreatEngExec
noncomputable section
namespace Go.Ex
open Go.RowKit

theorem en_of {w0 : World} {G : Nat} {E : Env} {H : CH} {w : World} (h : WR w0 G E H w) {b : Nat} {o : CO} (hb : H[b]? = some o) : ∃ e, E[b]? = some e := by
  have hl : b < E.length := by rw [h.len]; exact Hp.lt hb
  exact ⟨E[b], List.getElem?_eq_getElem hl⟩

theorem wpIn_of_run {ro' : Option Nat} {n : Nat} {P : Program} {o : Oper} {a : Act} {w w' : World} {next : Act → World → Prop} {Q : Exit → Act → World → Prop} (hd : ∀ c, o.op ≠ .defer c) {v' : Value}
    (h : (execOp a.eval o).run P w = .ok (.value v') w' ∨ ((execOp a.eval o).run P w = .ok .skip w' ∧ v' = undef)) (hn : next (a.put o.dst v') w') : o.wpIn (FW ro') n P a w next Q := by
  refine ⟨fun _ _ => trivial, ?_⟩
  rw [Oper.semAt_eq _ _ _ hd]
  rcases h with h | ⟨h, rfl⟩
  · rw [h]; exact hn
  · rw [h]; exact hn

theorem opX_opS {self : Task → Option Res} {P : Program} {G : Nat} {tm : Array Value} {H H' : CH} {o : Oper} {v : Value} (h : opX self P G tm H o = some (v, H')) :
    (∀ x ∈ o.op.operands, okOpd G x = true) ∧ (∀ c, o.op ≠ .defer c) ∧ (opS P G H (ev tm) o = some (v, H') ∨ ∃ (f : Operand) (args : Array Operand) (ts : Array TypeId), o.op = .call { callee := .value f, args, argTypes := ts } ∧
      ((∃ g first cap fn, ev tm f = .func (.func g) first cap ∧ P.funcs[g]? = some fn ∧ (fn.name == "runtime.NumGoroutine") = false ∧ fn.body.isNone = false ∧ self (.call g (first ++ args.map (ev tm) ++ cap) H) = some (.val v H')) ∨
       (∃ u, pureS P (ev tm) o = some u ∧ u = v ∧ H = H') ∨
       (∃ g fn x, ev tm f = .func (.func g) #[] #[] ∧ P.funcs[g]? = some fn ∧ fn.name = "internal/abi.NoEscape" ∧ fn.origin = "" ∧ fn.body.isNone = true ∧ args = #[x] ∧ ev tm x = v ∧ H = H') ∨
       (∃ l, ev tm f = .func (.yield l) #[] #[] ∧ self (.round l (args.map (ev tm)) H) = some (.val v H')))) := by
  unfold opX at h
  split at h
  case isFalse => cases h
  rename_i hall
  have hok : ∀ x ∈ o.op.operands, okOpd G x = true := fun x hx => List.all_eq_true.1 hall x (by simpa using hx)
  split at h
  · cases h
  · rename_i f args ts hop
    refine ⟨hok, (fun c hc => by rw [hop] at hc; cases hc), .inr ⟨f, args, ts, hop, ?_⟩⟩
    split at h
    · rename_i g first cap hf
      split at h
      case h_2 => cases h
      rename_i fn hfn
      split at h
      · cases h
      · rename_i hname
        split at h
        · rename_i hbn
          split at h
          · rename_i u hu
            cases h
            exact .inr (.inl ⟨_, hu, rfl, rfl⟩)
          · split at h
            case isFalse => cases h
            rename_i hc
            simp only [Bool.and_eq_true, beq_iff_eq] at hc
            obtain ⟨⟨h1, h2⟩, h3, h4⟩ := hc
            have e1 : first = #[] := by simpa using h3
            have e2 : cap = #[] := by simpa using h4
            subst e1; subst e2
            split at h
            · rename_i x hx
              cases h
              exact .inr (.inr (.inl ⟨g, fn, x, hf, hfn, h1, h2, hbn, list_one hx, rfl, rfl⟩))
            · cases h
        · rename_i hbody
          split at h
          · rename_i v1 H1 hs
            cases h
            exact .inl ⟨g, first, cap, fn, hf, hfn, Bool.eq_false_iff.2 hname, Bool.eq_false_iff.2 hbody, hs⟩
          · cases h
    · rename_i l first cap hf
      split at h
      case isFalse => cases h
      rename_i hemp
      rw [Bool.and_eq_true] at hemp
      have e1 : first = #[] := by simpa using hemp.1
      have e2 : cap = #[] := by simpa using hemp.2
      subst e1; subst e2
      split at h
      · rename_i v1 H1 hs
        cases h
        exact .inr (.inr (.inr ⟨l, hf, hs⟩))
      · cases h
    · cases h
  · rename_i hnd hnc
    exact ⟨hok, fun c hc => hnd c hc, .inl h⟩

theorem opX_soundρ {self : Task → Option Res} {P : Program} {G : Nat} (hself : SelfSound P G self) {tm : Array Value} {H H' : CH} {o : Oper} {v : Value} (h : opX self P G tm H o = some (v, H'))
    {w0 : World} {E : Env} {a : Act} {w : World} (ro' : Option Nat) (n : Nat) {next : Act → World → Prop} {Q : Exit → Act → World → Prop} (hw : WR w0 G E H w) (ht : ∀ x ∈ o.op.operands, okOpd G x = true → VR E (ev tm x) (a.eval x))
    (fin : ∀ F v' w', WR w0 G (E ++ F) H' w' → VR (E ++ F) v v' → next (a.put o.dst v') w') : o.wpIn (FW ro') n P a w next Q := by
  obtain ⟨hok, hnd, hs⟩ := opX_opS h
  have hρ : ∀ x ∈ o.op.operands, VR E (ev tm x) (a.eval x) := fun x hx => ht x hx (hok x hx)
  rcases hs with hs | ⟨f, args, ts, hop, hs⟩
  · obtain ⟨F, v', w', hr, hv, hw'⟩ := (run_opS hw hρ hs).out
    exact wpIn_of_run hnd hr (fin F v' w' hw' hv)
  · rcases hs with ⟨g, first, cap, fn, hf, hfn, hname, hbody, hcall⟩ | ⟨u, hu, rfl, rfl⟩ | ⟨g, fn, x, hf, hfn, hname, horigin, hbody, rfl, rfl, rfl⟩ | ⟨l, hf, hround⟩
    · -- a call of a function
      have hfr : VR E (ev tm f) (a.eval f) := hρ f (by rw [hop]; simp [Op.operands, Call.operands])
      rw [hf] at hfr
      obtain ⟨first', cap', hf', r1, r2⟩ := hfr.func_inv
      have hargs : VRs E (args.map (ev tm)) (args.map a.eval) := VRs.map args _ _ fun x hx => hρ x (by rw [hop]; simp [Op.operands, Call.operands, hx])
      have hrun : (execOp a.eval o).run P w = .ok (.enter g (first' ++ args.map a.eval ++ cap')) w := by
        unfold execOp
        rw [hop]
        simp only [resolve, hf', Deferred.ofValue, Sem.run_bind, Sem.run_pure, Result.andThen_ok, invoke, callFunc, run_program, hfn, hname, Bool.false_eq_true, if_false, hbody]
      refine ⟨fun _ _ => trivial, ?_⟩
      rw [Oper.semAt_eq _ _ _ hnd, hrun]
      refine ⟨(fun hd => by cases hd), ?_⟩
      exact hself _ _ hcall w0 E _ w ro' (n - 1) _ hw ((r1.append hargs).append r2) (fun F v' w' h1 h2 => fin F v' w' h1 h2)
    · -- an extern
      obtain ⟨h1, h2⟩ := run_pureS hρ hu w
      exact wpIn_of_run hnd (.inl h1) (fin [] u w (by simpa using hw) (by simpa using h2))
    · -- internal/abi.NoEscape
      have hfr : VR E (ev tm f) (a.eval f) := hρ f (by rw [hop]; simp [Op.operands, Call.operands])
      rw [hf] at hfr
      obtain ⟨first', cap', hf', r1, r2⟩ := hfr.func_inv
      have hx : VR E (ev tm x) (a.eval x) := hρ x (by rw [hop]; simp [Op.operands, Call.operands])
      have z1 : first' = #[] := Array.eq_empty_of_size_eq_zero (by rw [← r1.size]; rfl)
      have z2 : cap' = #[] := Array.eq_empty_of_size_eq_zero (by rw [← r2.size]; rfl)
      subst z1; subst z2
      obtain ⟨n1, n2⟩ := find_noEscape hname horigin
      have hnm : (fn.name == "runtime.NumGoroutine") = false := by rw [hname]; decide
      have hrun : (execOp a.eval o).run P w = .ok (.value (a.eval x)) w := by
        unfold execOp
        rw [hop]
        simp only [resolve, hf', Deferred.ofValue, Sem.run_bind, Sem.run_pure, Result.andThen_ok, invoke]
        rw [run_callFunc_extern hfn hnm hbody n1 n2]
        simp [Lib.run_noEscape, Result.andThen]
      exact wpIn_of_run hnd (.inl hrun) (fin [] (a.eval x) w (by simpa using hw) (by simpa using hx))
    · -- a round
      have hfr : VR E (ev tm f) (a.eval f) := hρ f (by rw [hop]; simp [Op.operands, Call.operands])
      rw [hf] at hfr
      obtain ⟨e, he, hf'⟩ : ∃ e : En, E[l]? = some e ∧ a.eval f = .func (.yield e.blk) #[] #[] := by
        generalize a.eval f = y at hfr
        cases hfr with
        | flat hh => cases hh
        | yield hh => exact ⟨_, hh, rfl⟩
      have hargs : VRs E (args.map (ev tm)) (args.map a.eval) := VRs.map args _ _ fun x hx => hρ x (by rw [hop]; simp [Op.operands, Call.operands, hx])
      obtain ⟨fn, tmps, assign, body, hy, hR⟩ := hself _ _ hround w0 E e _ w ro' (n - 1) (fun | .returned v, w'' => next (a.put o.dst v) w'' | .panicked chain, w'' => Q (.panic chain) a w'' | .outgrown, _ => LetsOut Q) he hw hargs (fun F v' w' h1 h2 => fin F v' w' h1 h2)
      have hrun : (execOp a.eval o).run P w = .ok (.round e.blk fn tmps assign body) w := by
        unfold execOp
        rw [hop]
        simp only [resolve, hf', Deferred.ofValue, Sem.run_bind, Sem.run_pure, Result.andThen_ok, invoke]
        rw [show (#[] : Array Value) ++ args.map a.eval = args.map a.eval from by simp]
        exact hy
      refine ⟨fun _ _ => trivial, ?_⟩
      rw [Oper.semAt_eq _ _ _ hnd, hrun]
      exact ⟨(fun hd => by cases hd), hR⟩

theorem opX_sound {self : Task → Option Res} {P : Program} {G : Nat} (hself : SelfSound P G self) {tm : Array Value} {H H' : CH} {o : Oper} {v : Value} (h : opX self P G tm H o = some (v, H'))
    {w0 : World} {E : Env} {a : Act} {w : World} (ro' : Option Nat) (n : Nat) {next : Act → World → Prop} {Q : Exit → Act → World → Prop} (hw : WR w0 G E H w) (ht : VRs E tm a.tmps)
    (hn : ∀ F a' w', WR w0 G (E ++ F) H' w' → VRs (E ++ F) (put tm o.dst v) a'.tmps → a'.defers = a.defers → (∃ v', VR (E ++ F) v v' ∧ a' = a.put o.dst v') → next a' w') : o.wpIn (FW ro') n P a w next Q := by
  refine opX_soundρ hself h ro' n hw (fun x _ hx => ev_rel hw ht hx) fun F v' w' h1 h2 => ?_
  obtain ⟨p1, p2⟩ := put_rel (ht.mono F) o.dst h2
  exact hn F _ w' h1 p1 p2 ⟨v', h2, rfl⟩

theorem opsX_sound {self : Task → Option Res} {P : Program} {G : Nat} (hself : SelfSound P G self) {ops : Array Oper} (ro' : Option Nat) (n : Nat) {Q : Exit → Act → World → Prop} {w0 : World} {tm' : Array Value} {H' : CH} :
    ∀ (l : List Nat) (tm : Array Value) (H : CH) (E : Env) (a : Act) (w : World), opsX self P G ops l tm H = some (tm', H') → WR w0 G E H w → VRs E tm a.tmps →
      (∀ F a' w', WR w0 G (E ++ F) H' w' → VRs (E ++ F) tm' a'.tmps → a'.defers = a.defers → Q .normal a' w') → wpOpsIn (FW ro') n P ops Q l a w
  | [], tm, H, E, a, w, h, hw, ht, hq => by
    cases h
    exact hq [] a w (by simpa using hw) (by simpa using ht) rfl
  | i :: r, tm, H, E, a, w, h, hw, ht, hq => by
    simp only [opsX] at h
    simp only [wpOpsIn]
    cases ho : ops[i]? with
    | none => rw [ho] at h; cases h
    | some o =>
      rw [ho] at h
      dsimp only at h ⊢
      split at h
      · rename_i hwant
        rw [wanted_rel ht ops o (wanted_gk hwant), if_pos hwant]
        split at h
        case h_2 => cases h
        rename_i v H1 hop
        exact opX_sound hself hop ro' n hw ht fun F a' w' h1 h2 h3 _ => opsX_sound hself ro' n r _ _ _ a' w' h h1 h2 fun F' a'' w'' h4 h5 h6 => hq (F ++ F') a'' w'' (by rw [← List.append_assoc]; exact h4) (by rw [← List.append_assoc]; exact h5) (h6.trans h3)
      · rename_i hwant
        split at h
        case isFalse => cases h
        rename_i hgk
        rw [wanted_rel ht ops o hgk, if_neg hwant]
        obtain ⟨p1, p2⟩ := put_rel ht o.dst (.undef E)
        exact ⟨fun _ _ => trivial, opsX_sound hself ro' n r _ _ _ _ w h hw p1 fun F a'' w'' h4 h5 h6 => hq F a'' w'' h4 h5 (h6.trans p2)⟩
end Go.Ex
