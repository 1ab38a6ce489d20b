/- Engine, part 13: ranges over functions. -/
import Derived.Test.YtdnogbdfiahcaaaGreatEngSound2
noncomputable section
namespace Go.Ex
open Go.RowKit

theorem zipfold_rel {E : Env} : ∀ (ps : List Tmp) (as as' : List Value) (tm tm' : Array Value), as.length = as'.length → (∀ (i : Nat) (x x' : Value), as[i]? = some x → as'[i]? = some x' → VR E x x') → VRs E tm tm' →
    VRs E ((ps.zip as).foldl (fun tmps (p : Tmp × Value) => tmps.setIfInBounds p.1 p.2) tm) ((ps.zip as').foldl (fun tmps (p : Tmp × Value) => tmps.setIfInBounds p.1 p.2) tm')
  | [], _, _, _, _, _, _, h => by simpa using h
  | p :: ps, [], [], tm, tm', _, _, h => by simpa using h
  | p :: ps, [], _ :: _, _, _, hl, _, _ => by simp at hl
  | p :: ps, _ :: _, [], _, _, hl, _, _ => by simp at hl
  | p :: ps, x :: r, x' :: r', tm, tm', hl, hv, h => by
    rw [List.zip_cons_cons, List.zip_cons_cons, List.foldl_cons, List.foldl_cons]
    exact zipfold_rel ps r r' _ _ (by simpa using hl) (fun i y y' a b => hv (i + 1) y y' a b) (h.set p (hv 0 x x' rfl rfl))

theorem run_getLoop {P : Program} {w : World} {l : Nat} {r : Loop} (h : w.heap[l]? = some (.loop r)) : (Instr.getLoop l).run P w = .ok r w := by
  simp only [Instr.getLoop, Sem.run_bind, run_getObj' (P := P) h (fun _ _ _ x => by cases x), Result.andThen_ok, Sem.run_pure]
theorem loop_ne (r : Loop) : ∀ c e f, Obj.loop r ≠ .cells c e f := fun _ _ _ x => by cases x

theorem loop_of {w0 : World} {G : Nat} {E : Env} {H : CH} {w : World} (hw : WR w0 G E H w) {l : Nat} {r : Loop} {e : En} (hH : H[l]? = some (.loop r)) (he : E[l]? = some e) :
    ∃ (tmps : Array Value) (d : En) (fn : FuncId), w.heap[e.blk]? = some (.loop { r with tmps := tmps, defers := d.blk, fn := fn }) ∧ VRs E r.tmps tmps ∧ E[r.defers]? = some d := hw.obj l _ e hH he
theorem setLoop_of {w0 : World} {G : Nat} {E : Env} {H : CH} {w : World} (hw : WR w0 G E H w) {l : Nat} {r r' : Loop} {e : En} (hH : H[l]? = some (.loop r)) (he : E[l]? = some e) (hG : G ≤ l)
    {tmps : Array Value} {d : En} {fn : FuncId} (hh : w.heap[e.blk]? = some (.loop { r with tmps := tmps, defers := d.blk, fn := fn })) (ht : VRs E r.tmps tmps) (hd : E[r.defers]? = some d) (h1 : r'.tmps = r.tmps) (h2 : r'.defers = r.defers) :
    WR w0 G E (H.set l (.loop r')) { w with heap := w.heap.setIfInBounds e.blk (.loop { r' with tmps := tmps, defers := d.blk, fn := fn }) } :=
  hw.setObj hH he rfl hG ⟨tmps, d, fn, heap_set_same (lt_of_heap hh), by rw [h1]; exact ht, by rw [h2]; exact hd⟩

theorem run_endRound {P : Program} {w : World} {l : Nat} {r : Loop} (h : w.heap[l]? = some (.loop r)) (j : Option Code) :
    (Instr.endRound l j).run P w = .ok (.bool j.isNone) { w with heap := w.heap.setIfInBounds l (.loop { r with state := if j.isNone then .ready else .done, pending := j }) } := by
  simp only [Instr.endRound, Sem.run_bind, run_getLoop h, Result.andThen_ok, run_setObj' (P := P) h (loop_ne r), Sem.run_pure]

theorem roundPost_of {P : Program} {l : Nat} {R : Ending → World → Prop} {x : CX} {a : Act} {w w' : World} {v : Value} (h : (Instr.endRound l (jumpOf x)).run P w = .ok v w') (hR : R (.returned v) w') : roundPost P l R x.toExit a w := by
  cases x with
  | normal => exact ⟨v, w', h, hR⟩
  | exit id => exact ⟨v, w', h, hR⟩
  | ret => exact ⟨v, w', h, hR⟩

theorem round_sound {P : Program} {G : Nat} {self : Task → Option Res} (hself : SelfSound P G self) {l : Nat} {args : Array Value} {H : CH} {r : Res} (h : roundX self G l args H = some r) : Sound P G (.round l args H) r := by
  unfold roundX at h
  split at h
  case isFalse => cases h
  rename_i hG
  split at h
  case h_2 => cases h
  rename_i lp hH
  split at h
  case isFalse => cases h
  rename_i hsz
  split at h
  case h_2 => cases h
  rename_i tm1 H1 df1 hassign
  split at h
  case h_2 => cases h
  rename_i lp1 hH1
  split at h
  case isFalse => cases h
  rename_i hready
  split at h
  case h_2 => cases h
  rename_i x tm2 H3 df3 hbody
  split at h
  case h_2 => cases h
  rename_i lp3 hH3
  cases h
  intro w0 E e args' w ro' n R he hw ha hR
  obtain ⟨tmps, d, fn, hh, ht, hd⟩ := loop_of hw hH he
  have hsz' : args'.size = lp.params.size := by rw [← ha.size]; exact hsz
  refine ⟨fn, (lp.params.zip args').foldl (fun tmps (t, a) => tmps.setIfInBounds t a) tmps, lp.assign, lp.body, ?_, ?_⟩
  · simp only [Instr.yield, Sem.run_bind, run_getLoop hh, Result.andThen_ok]
    rw [if_neg (by simpa using hsz')]
    simp only [Sem.run_pure]
  · refine roundIn_of_wpIn (fw_fn ro' fn) ?_
    have hfold : VRs E ((lp.params.zip args).foldl (fun tmps (t, a) => tmps.setIfInBounds t a) lp.tmps) ((lp.params.zip args').foldl (fun tmps (t, a) => tmps.setIfInBounds t a) tmps) := by
      rw [← Array.foldl_toList, ← Array.foldl_toList, Array.toList_zip, Array.toList_zip]
      exact zipfold_rel _ _ _ _ _ (by simpa using ha.size) (fun i x x' p q => ha.at_ i x x' (by simpa using p) (by simpa using q)) ht
    refine wp_of (ro' := some e.blk) (n := n) hself hassign hw hfold .nil ⟨e, he, rfl⟩ fun F a' w' h1 h2 h3 => ?_
    have he1 : (E ++ F)[l]? = some e := Env.get_mono he
    obtain ⟨tmps1, d1, fn1, hh1, ht1, hd1⟩ := loop_of h1 hH1 he1
    refine ⟨{ w' with heap := w'.heap.setIfInBounds e.blk (.loop { lp1 with state := .busy, tmps := tmps1, defers := d1.blk, fn := fn1 }) }, ?_, ?_⟩
    · simp only [Instr.beginRound, Sem.run_bind, run_getLoop hh1, Result.andThen_ok, run_setObj' (P := P) hh1 (loop_ne _), hready]
      rfl
    · refine wp_of (ro' := some e.blk) (n := n) hself hbody (setLoop_of h1 hH1 he1 hG hh1 ht1 hd1 rfl rfl) h2 h3 ⟨e, he1, rfl⟩ fun F' a'' w'' h4 h5 h6 => ?_
      have he2 : (E ++ F ++ F')[l]? = some e := Env.get_mono he1
      obtain ⟨tmps3, d3, fn3, hh3, ht3, hd3⟩ := loop_of h4 hH3 he2
      refine roundPost_of (run_endRound hh3 (jumpOf x)) ?_
      exact hR (F ++ F') _ _ (app_assoc_WR (setLoop_of h4 (r' := { lp3 with state := if (jumpOf x).isNone then .ready else .done, pending := jumpOf x }) hH3 he2 hG hh3 ht3 hd3 rfl rfl)) (.flat rfl)

theorem run_endLoop {P : Program} {w : World} {l : Nat} {r : Loop} (h : w.heap[l]? = some (.loop r)) (hb : r.state ≠ .busy) :
    (Instr.endLoop l).run P w = .ok r.pending { w with heap := w.heap.setIfInBounds l (.loop { r with state := .exhausted }) } := by
  have hb' : (r.state == LoopState.busy) = false := by simpa using hb
  simp only [Instr.endLoop, Sem.run_bind, run_getLoop h, Result.andThen_ok, hb']
  rw [if_neg (by simp)]
  simp only [Sem.run_bind, run_setObj' (P := P) h (loop_ne r), Result.andThen_ok, Sem.run_pure]

/-- what stands ready when the statement begins: the record, the block for deferred calls -/
theorem range_sound {P : Program} {G : Nat} {self : Task → Option Res} (hself : SelfSound P G self) {fnr : FuncId} {g : Operand} {ps : Array Tmp} {assign body : Code} {ro : Option Nat} {tm : Array Value} {H : CH} {df : List Nat} {r : Res}
    (h : rangeX self P G fnr g ps assign body ro tm H df = some r) : Sound P G (.code (.rangeFunc g ps assign body) ro tm H df) r := by
  unfold rangeX at h
  dsimp only at h
  split at h
  case h_1 => cases h
  rename_i H1 df1 dd hstart
  unfold startO at hstart
  split at h
  case isFalse => cases h
  rename_i hok
  split at h
  case h_2 => cases h
  rename_i k first cap hg
  split at h
  case h_2 => cases h
  rename_i fn0 hfn
  split at h
  case isTrue => cases h
  rename_i hname
  split at h
  case isTrue => cases h
  rename_i hbodyN
  split at h
  case h_2 => cases h
  rename_i v3 H3 hcall
  split at h
  case h_2 => cases h
  rename_i r3 hH3
  split at h
  case isTrue => cases h
  rename_i hbusy
  -- the start, in the real run
  have start : ∀ (w0 : World) (E : Env) (a : Act) (w : World) (ro' : Option Nat), WR w0 G E H w → VRs E tm a.tmps → DR E df a.defers → RR E ro ro' → ∀ fn : FuncId,
      ∃ (F : Env) (l : Nat) (mark : List Deferred) (w1 : World), (Instr.enterLoop fn a.tmps ps assign body ro').run P w = .ok (l, mark) w1 ∧
        WR w0 G (E ++ F) (H1.push (.loop { state := .ready, pending := none, fn := fnr, tmps := tm, params := ps, assign, body, defers := dd })) w1 ∧ DR (E ++ F) df1 (mark ++ a.defers) ∧ (E ++ F)[H1.length]? = some ⟨l, 0, 0⟩ := by
    intro w0 E a w ro' hw ht hd hr fn
    cases ro with
    | none =>
      cases ro' with
      | some b => exact hr.elim
      | none =>
        cases hstart
        have hw1 : WR w0 G (E ++ [⟨w.heap.size, 0, 0⟩]) (H.push (.dfr false)) (w.alloc (.deferred (some []))) := hw.push _ _ _ rfl (heap_alloc_new w _)
        have hl1 : (H.push (CO.dfr false)).length = (E ++ [(⟨w.heap.size, 0, 0⟩ : En)]).length := hw1.len.symm
        have hlast : (E ++ [(⟨w.heap.size, 0, 0⟩ : En)])[H.length]? = some ⟨w.heap.size, 0, 0⟩ := by rw [← hw.len]; exact Env.last E _
        have hw2 : WR w0 G (E ++ [⟨w.heap.size, 0, 0⟩] ++ [⟨w.heap.size + 1, 0, 0⟩]) ((H.push (.dfr false)).push (.loop { state := .ready, pending := none, fn := fnr, tmps := tm, params := ps, assign, body, defers := H.length }))
            ((w.alloc (.deferred (some []))).alloc (.loop { state := .ready, pending := none, fn := fn, tmps := a.tmps, params := ps, assign, body, defers := w.heap.size })) := by
          refine hw1.push _ _ _ (by rw [size_alloc]) ⟨a.tmps, ⟨w.heap.size, 0, 0⟩, fn, ?_, (ht.mono _).mono _, Env.get_mono hlast⟩
          have := heap_alloc_new (w.alloc (.deferred (some []))) (.loop { state := .ready, pending := none, fn := fn, tmps := a.tmps, params := ps, assign, body, defers := w.heap.size })
          rw [size_alloc] at this
          exact this
        refine ⟨[⟨w.heap.size, 0, 0⟩, ⟨w.heap.size + 1, 0, 0⟩], w.heap.size + 1, [{ target := .collected w.heap.size, args := #[] }], _, ?_, by simpa using hw2, ?_, ?_⟩
        · simp only [Instr.enterLoop, Sem.run_bind, run_newObj, Sem.run_pure, Result.andThen_ok]
          simp only [Array.size_push]
          rfl
        · refine DR.cons (e := ⟨w.heap.size, 0, 0⟩) ?_ (hd.mono _)
          rw [show E ++ [(⟨w.heap.size, 0, 0⟩ : En), ⟨w.heap.size + 1, 0, 0⟩] = (E ++ [⟨w.heap.size, 0, 0⟩]) ++ [⟨w.heap.size + 1, 0, 0⟩] from by simp]
          exact Env.get_mono hlast
        · rw [show E ++ [(⟨w.heap.size, 0, 0⟩ : En), ⟨w.heap.size + 1, 0, 0⟩] = (E ++ [⟨w.heap.size, 0, 0⟩]) ++ [⟨w.heap.size + 1, 0, 0⟩] from by simp, hl1]
          exact Env.last _ _
    | some l0 =>
      cases ro' with
      | none => exact hr.elim
      | some b =>
        obtain ⟨e0, he0, rfl⟩ := hr
        dsimp only at hstart
        split at hstart
        case h_2 => cases hstart
        rename_i lp hH
        cases hstart
        obtain ⟨tmps, d, fn1, hh, ht1, hd1⟩ := loop_of hw hH he0
        have hw2 : WR w0 G (E ++ [⟨w.heap.size, 0, 0⟩]) (H.push (.loop { state := .ready, pending := none, fn := fnr, tmps := tm, params := ps, assign, body, defers := lp.defers }))
            (w.alloc (.loop { state := .ready, pending := none, fn := fn, tmps := a.tmps, params := ps, assign, body, defers := d.blk })) :=
          hw.push _ _ _ rfl ⟨a.tmps, d, fn, heap_alloc_new w _, ht.mono _, Env.get_mono hd1⟩
        refine ⟨[⟨w.heap.size, 0, 0⟩], w.heap.size, [], _, ?_, hw2, by simpa using hd.mono _, by rw [← hw.len]; exact Env.last E _⟩
        simp only [Instr.enterLoop, Sem.run_bind, run_getLoop hh, run_newObj, Sem.run_pure, Result.andThen_ok]
        rfl
  have hres : ∃ x tm' H' df', r = .ex x tm' H' df' := by
    split at h
    · cases h; exact ⟨_, _, _, _, rfl⟩
    · exact code_is_ex hself h
  obtain ⟨x, tm', H', df', rfl⟩ := hres
  intro w0 E a w ro' n Q hw ht hd hr hq
  refine ⟨wpIn_rangeFunc fun fn _ => ?_, fun b hb => by cases hb⟩
  obtain ⟨F, l, mark, w1, hent, hw1, hd1, hl⟩ := start w0 E a w ro' hw ht hd hr fn
  have hfr := ev_rel hw ht hok
  rw [hg] at hfr
  obtain ⟨first', cap', hf', r1, r2⟩ := hfr.func_inv
  have hlen : (H1.push (CO.loop { state := .ready, pending := none, fn := fnr, tmps := tm, params := ps, assign, body, defers := dd })).length = H1.length + 1 := rfl
  refine ⟨l, mark, w1, { target := .fn (.func k) cap', args := first' ++ #[.func (.yield l) #[] #[]] }, w1, k, first' ++ #[.func (.yield l) #[] #[]] ++ cap', w1, hent, ?_, fun _ _ => trivial, ?_, (fun hd => by cases hd), ?_⟩
  · have hm : Array.map a.eval #[Operand.const (Value.func (Fn.yield l) #[] #[])] = #[Value.func (Fn.yield l) #[] #[]] := by simp [Act.eval]
    simp only [resolve, hf', Deferred.ofValue, Sem.run_pure, hm]
  · simp only [invoke, callFunc, Sem.run_bind, run_program, Result.andThen_ok, hfn, Bool.eq_false_iff.2 hname, Bool.eq_false_iff.2 hbodyN, Bool.false_eq_true, if_false, Sem.run_pure]
  · have hy : VR (E ++ F) (.func (.yield H1.length) #[] #[]) (.func (.yield l) #[] #[]) := VR.yield (e := ⟨l, 0, 0⟩) hl
    refine hself _ _ hcall w0 (E ++ F) _ w1 ro' (n - 1) _ hw1 (((r1.mono F).append (.one hy)).append (r2.mono F)) fun F' v' w' h1 h2 => ?_
    have he3 : (E ++ F ++ F')[H1.length]? = some ⟨l, 0, 0⟩ := Env.get_mono hl
    obtain ⟨tmps3, d3, fn3, hh3, ht3, hd3⟩ := loop_of h1 hH3 he3
    have hG3 : G ≤ H1.length := by
      have h0 := hw.glen
      have : H.length ≤ H1.length := by
        cases ro with
        | none => cases hstart; exact Nat.le_succ _
        | some l0 =>
          dsimp only at hstart
          split at hstart
          · cases hstart; exact Nat.le_refl _
          · cases hstart
      rw [hw.len] at h0; omega
    have hw4 := setLoop_of h1 (r' := { r3 with state := .exhausted }) hH3 he3 hG3 hh3 ht3 hd3 rfl rfl
    refine ⟨r3.pending, _, run_endLoop (r := { r3 with tmps := tmps3, defers := d3.blk, fn := fn3 }) hh3 hbusy, ?_⟩
    split at h
    · rename_i hp
      cases h
      rw [hp]
      exact hq (F ++ F') _ _ (by simpa only [hp] using app_assoc_WR hw4) (app_assoc_VRs ((ht.mono F).mono F')) (app_assoc_DR (hd1.mono F'))
    · rename_i c hp
      rw [hp]
      simp only [hp] at hw4 h
      exact wp_of hself h hw4 ((ht.mono F).mono F') (hd1.mono F') ((hr.mono F).mono F') fun F'' a'' w'' h4 h5 h6 => hq (F ++ (F' ++ F'')) a'' w'' (by simpa [List.append_assoc] using h4) (by simpa [List.append_assoc] using h5) (by simpa [List.append_assoc] using h6)

theorem step_sound {P : Program} {G : Nat} {self : Task → Option Res} (hself : SelfSound P G self) {draw : Array Oper → Array Value → CH → Option (Array Value × CH)} (hdraw : DrawSound P G draw) : SelfSound P G (step self P G draw) := by
  intro t r h
  cases t with
  | code c ro tm H df => exact code_sound hself hdraw (fun _ _ _ _ _ _ _ _ _ h => range_sound hself h) h
  | call f args H => exact call_sound hself h
  | round l args H => exact round_sound hself h
end Go.Ex
