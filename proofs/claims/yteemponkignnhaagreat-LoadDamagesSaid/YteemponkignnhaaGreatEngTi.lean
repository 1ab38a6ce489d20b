/- Part of the proof. -/
import Derived.Test.YteemponkignnhaaGreatEngMk
import Derived.Test.YteemponkignnhaaGreatEngAuto
noncomputable section
namespace Go.Ex
open Go.RowKit
inductive NC where
  | v (x : Value)
  | s (l c : Nat) (cs : List Value) (t sz : Nat) (ex : Bool)
def NC.vals : Nat → List NC → List Value
  | _, [] => []
  | N, .v x :: r => x :: NC.vals N r
  | N, .s l c _ _ _ _ :: r => .slice (some ⟨N, 0, none⟩) l c :: NC.vals (N + 1) r
def NC.blks : List NC → List CO
  | [] => []
  | .v _ :: r => NC.blks r
  | .s _ _ cs t sz ex :: r => .cells cs t sz ex :: NC.blks r
abbrev TSpec := List Value → List (List Value) → Option (Prop × List NC)
noncomputable def twoV (gs : List Nat) (H0 H : CH) (r : Option (Prop × List NC)) : Option (Option Bool × Value × CH × List (Option CO × Option CO)) :=
  match r with
  | some x => some (some (tru x.1), .tuple ⟨NC.vals H.length x.2⟩, pushesL H (NC.blks x.2), reqs gs H0 H)
  | none => none
noncomputable def twoE (spec : TSpec) (gs : List Nat) (H0 : CH) : Ent := fun args H =>
  match cellsOf H (dedupB (args.flatMap (blksV 8)) []) with
  | some css => cond (okBs (dedupB (args.flatMap (blksV 8)) []) && (Nat.ble gl H.length && args.all (okV (dedupB (args.flatMap (blksV 8)) []) 8))) (twoV gs H0 H (spec (args.map (absV (dedupB (args.flatMap (blksV 8)) []) 8)) css)) none
  | none => none
def NC.valsAt : List Nat → List NC → List Value
  | _, [] => []
  | κ, .v x :: r => x :: NC.valsAt κ r
  | b :: κ, .s l c _ _ _ _ :: r => .slice (some ⟨b, 0, none⟩) l c :: NC.valsAt κ r
  | [], .s _ _ _ _ _ _ :: r => undef :: NC.valsAt [] r
def NC.flatB : List NC → Bool
  | [] => true
  | .v x :: r => flat x && NC.flatB r
  | .s _ _ cs _ _ _ :: r => cs.all flat && NC.flatB r
def NC.Ok (P : Program) (f : FuncId) (al : List Value) (g os : List CO) (G : Nat) (l : List NC) : Prop :=
  NC.flatB l = true ∧ ∃ κ H', κ.length = (NC.blks l).length ∧ κ.Nodup ∧ (∀ c ∈ κ, G ≤ c) ∧ κ.map (fun c => H'[c]?) = (NC.blks l).map some ∧ Sound P G (.call f ⟨al⟩ (heapL (g ++ os))) (.val (.tuple ⟨NC.valsAt κ l⟩) H')
theorem NC.rn {N M : Nat} {κ0 : List Nat} : ∀ (l : List NC) (κ : List Nat) (k : Nat), NC.flatB l = true → κ.length = (NC.blks l).length → (∀ j c, κ[j]? = some c → (List.replicate N M ++ κ0)[N + k + j]? = some c) →
    (NC.vals (N + k) l).length = (NC.valsAt κ l).length ∧ ∀ (i : Nat) (x y : Value), (NC.vals (N + k) l)[i]? = some x → (NC.valsAt κ l)[i]? = some y → RN (List.replicate N M ++ κ0) x y
  | [], κ, k, _, _, _ => by
    refine ⟨by cases κ <;> rfl, fun i x y hx _ => ?_⟩
    simp [NC.vals] at hx
  | .v z :: r, κ, k, hf, hl, hκ => by
    have hf' : (flat z && NC.flatB r) = true := hf
    rw [Bool.and_eq_true] at hf'
    obtain ⟨h1, h2⟩ := NC.rn r κ k hf'.2 hl hκ
    have e : NC.valsAt κ (.v z :: r) = z :: NC.valsAt κ r := by cases κ <;> rfl
    rw [e]
    refine ⟨by simp [NC.vals, h1], fun i x y hx hy => ?_⟩
    match i, hx, hy with
    | 0, hx, hy => cases hx; cases hy; exact .flat hf'.1
    | i + 1, hx, hy => exact h2 i x y hx hy
  | .s l c cs t sz ex :: r, κ, k, hf, hl, hκ => by
    have hf' : (cs.all flat && NC.flatB r) = true := hf
    rw [Bool.and_eq_true] at hf'
    match κ, hl, hκ with
    | [], hl, _ => simp [NC.blks] at hl
    | b :: κ, hl, hκ =>
      have hl' : κ.length = (NC.blks r).length := by simpa [NC.blks] using hl
      obtain ⟨h1, h2⟩ := NC.rn r κ (k + 1) hf'.2 hl' (fun j c hc => by
        have := hκ (j + 1) c hc
        rwa [show N + (k + 1) + j = N + k + (j + 1) from by omega])
      refine ⟨?_, fun i x y hx hy => ?_⟩
      · show (NC.vals (N + k + 1) r).length + 1 = (NC.valsAt κ r).length + 1
        rw [show N + k + 1 = N + (k + 1) from by omega, h1]
      match i, hx, hy with
      | 0, hx, hy =>
        cases hx; cases hy
        exact .slice (by have := hκ 0 b rfl; simpa using this)
      | i + 1, hx, hy => exact h2 i x y hx hy
theorem NC.blk_flat : ∀ (l : List NC), NC.flatB l = true → ∀ o ∈ NC.blks l, FlatO o
  | [], _, o, ho => by cases ho
  | .v _ :: r, hf, o, ho => NC.blk_flat r (by have h : (_ && _) = true := hf; rw [Bool.and_eq_true] at h; exact h.2) o ho
  | .s _ _ cs _ _ _ :: r, hf, o, ho => by
    have h : (cs.all flat && NC.flatB r) = true := hf
    rw [Bool.and_eq_true] at h
    rcases List.mem_cons.1 ho with rfl | ho
    · exact fun x hx => List.all_eq_true.1 h.1 x hx
    · exact NC.blk_flat r h.2 o ho
theorem two_ok {P : Program} {G : Nat} {f : FuncId} {spec : TSpec} {gs : List Nat} {g : List CO} (hg : g.length = gl) (hgf : ∀ o ∈ g, FlatO o) (hmem : ∀ (b : Nat) (o : CO), g[b]? = some o → o.alive = true → b ∈ gs)
    (h : ∀ al css os p v, spec al css = some (p, v) → p → Blks css os → (∀ cs ∈ css, cs.all Ex.flat = true) ∧ NC.Ok P f al g os (gl + css.length) v) :
    ∀ args H c v H' l, twoE spec gs (heapL g) args H = some (c, v, H', l) → c.getD true = true → Same l → Sound P G (.call f ⟨args⟩ H) (.val v H') := by
  intro args H c v H' l he hc' hsm
  unfold twoE at he
  generalize dedupB (args.flatMap (blksV 8)) [] = bs at he
  split at he
  case h_2 => cases he
  rename_i css hcs
  cases hgb : okBs bs && (Nat.ble gl H.length && args.all (okV bs 8)) with
  | false => rw [hgb] at he; cases he
  | true =>
    rw [hgb] at he
    have he' : twoV gs (heapL g) H (spec (args.map (absV bs 8)) css) = some (c, v, H', l) := he
    unfold twoV at he'
    split at he'
    case h_2 => cases he'
    rename_i x hx
    cases he'
    obtain ⟨p, nc⟩ := x
    simp only [Bool.and_eq_true] at hgb
    obtain ⟨g1, g2, g3⟩ := hgb
    have hok : p := tru_iff.1 hc'
    obtain ⟨os, o1, o2, o3⟩ := cellsOf_blks bs css hcs
    obtain ⟨r1, r2⟩ := absL_ok (fun v hv => absV_ok 8 v hv) g3
    obtain ⟨h1, hfl, κ, H2, k1, k2, k3, k4, k5⟩ := h _ css os p nc hx hok o1
    have hcl : css.length = os.length := o1.len
    have hgH : ∀ (b : Nat) (o : CO), g[b]? = some o → o.alive = true → H[b]? = some o := by
      intro b o ho ha
      have := hsm (H[b]?, (heapL g)[b]?) (List.mem_map.2 ⟨b, hmem b o ho ha, rfl⟩)
      dsimp only at this
      rw [this, heapL_get, ho]
    have hlen : (heapL (g ++ os)).length = gl + css.length := by rw [heapL_len]; simp [hg, hcl]
    have hat : ∀ (j c : Nat) (o : CO), (NC.blks nc)[j]? = some o → κ[j]? = some c → H2[c]? = some o := fun j c o hj hc => by
      have := congrArg (fun l => l[j]?) k4
      simp only [List.getElem?_map, hj, hc, Option.map_some] at this
      exact Option.some.inj this
    refine Sound.makes (Hs' := H2) (g := g) (os := os) (bs := bs) (nb := NC.blks nc) (κ := κ) (al := args.map (absV bs 8)) hg hgf hgH g1 o2 (o1.flat h1) o3 r1 r2.symm (by rw [hlen]; exact k5) (Nat.le_of_ble_eq_true g2) k1 k2 ?_ ?_ ?_
    · intro c hc
      rw [hlen]
      refine ⟨k3 c hc, ?_⟩
      obtain ⟨j, hj⟩ := List.getElem?_of_mem hc
      have hjl : j < (NC.blks nc).length := by rw [← k1]; exact (List.getElem?_eq_some_iff.1 hj).1
      exact Hp.lt (hat j c _ (List.getElem?_eq_getElem hjl) hj)
    · obtain ⟨q1, q2⟩ := NC.rn (N := H.length) (M := H2.length) (κ0 := κ) nc κ 0 hfl k1 (fun j c hc => by rw [Nat.add_zero]; exact rep_get hc)
      exact .tuple (by simpa using q1) fun i x x' hx hx' => q2 i x x' (by simpa using hx) (by simpa using hx')
    · intro j c o hj hc _
      exact ⟨o, hat j c o hj hc, flat_RO (NC.blk_flat nc hfl o (List.mem_of_getElem? hj))⟩
theorem TSound.two {P : Program} {G : Nat} {T : Tb} {f f' : FuncId} {spec : TSpec} (hT : TSound P G T)
    (h : ∀ al css os p v, spec al css = some (p, v) → p → Blks css os → (∀ cs ∈ css, cs.all Ex.flat = true) ∧ NC.Ok P f al deads os (gl + css.length) v) (hf : f' % 1000000 = f := by rfl) :
    TSound P G (Ex.ext T f' (twoE spec [] (heapL deads))) := hT.alt (two_ok deads_len deads_flat deads_mem h) hf
inductive TT where
  | fail
  | leaf (v : Value) (os : List (Option CO))
  | br (b : Bool) (t e : TT)
def TT.sel : TT → Option (Value × List (Option CO))
  | .fail => none
  | .leaf v os => some (v, os)
  | .br b t e => cond b t.sel e.sel
def twoN (κ : List Nat) (r : QRes) : TT :=
  match r with
  | .val v H => .leaf v (κ.map fun c => H[c]?)
  | .ex _ _ _ _ => .fail
noncomputable def Out.twos (κ : List Nat) (o : Out QRes) : TT := Out.rec (motive := fun _ => TT) .fail (twoN κ) (fun b _ _ t e => .br b t e) (fun _ _ k => k) (fun _ _ _ k => k) o
theorem Out.twos_sel {κ : List Nat} {o : Out QRes} {v : Value} {os : List (Option CO)} (hf : o = o.fix) (h : (o.twos κ).sel = some (v, os)) : ∃ H, o.sel = some (.val v H) ∧ κ.map (fun c => H[c]?) = os := by
  induction o with
  | fail => cases h
  | leaf q =>
    cases q with
    | val v' H => cases h; exact ⟨H, rfl, rfl⟩
    | ex _ _ _ _ => cases h
  | br c t e iht ihe =>
    injection hf with _ h1 h2
    have h' : cond c (t.twos κ).sel (e.twos κ).sel = some (v, os) := h
    cases c with
    | true => exact iht h1 h'
    | false => exact ihe h2 h'
  | same l k ih =>
    injection hf with h1 h2
    obtain ⟨H, hk, ha⟩ := ih h2 h
    exact ⟨H, (ifSame_of (same_of_fix h1)).trans hk, ha⟩
  | code a c k ih =>
    injection hf with _ h1 h2
    obtain ⟨H, hk, ha⟩ := ih h2 h
    exact ⟨H, (ifCode_of h1.symm).trans hk, ha⟩
theorem twos_ok {P : Program} {G : Nat} {C : Cfg} {n : Nat} {f : FuncId} {al : List Value} {g os : List CO} {κ : List Nat} {l : List NC} (hT : TSound P G C.T) (hL : LSound P G C.L)
    (hf : execO P G C n (.call f ⟨al⟩ (heapL (g ++ os))) = (execO P G C n (.call f ⟨al⟩ (heapL (g ++ os)))).fix) (h : ((execO P G C n (.call f ⟨al⟩ (heapL (g ++ os)))).twos κ).sel = some (.tuple ⟨NC.valsAt κ l⟩, (NC.blks l).map some))
    (h1 : κ.length = (NC.blks l).length) (h2 : κ.Nodup) (h3 : ∀ c ∈ κ, G ≤ c) (hfl : NC.flatB l = true) : NC.Ok P f al g os G l := by
  obtain ⟨H, hq, ha⟩ := Out.twos_sel hf h
  exact ⟨hfl, κ, H, h1, h2, h3, ha, execO_sound hT hL n _ _ hq⟩
end Go.Ex
/- Engine, part 53: a loop in a table whose entry asks for a condition; what a run of rounds keeps. -/
noncomputable section
namespace Go.Ex
open Go.RowKit
variable {σ : Type}
theorem runS_good {step : σ → SS σ} {Good : σ → Prop} (h : ∀ s s', Good s → (step s).sel = some (.inl s') → Good s') : ∀ {m : Nat} {s : σ} {r : Nat × σ}, Good s → runS step m s = some r → Good r.2
  | 0, _, _, _, h2 => by cases h2
  | m + 1, s, r, h1, h2 => by
    have h2' : (match (step s).sel with
      | some (.inl s') => runS step m s'
      | some (.inr j) => some (j, s)
      | none => none) = some r := h2
    split at h2'
    · rename_i s' hs'
      exact runS_good h (h s s' h1 hs') h2'
    · cases h2'; exact h1
    · cases h2'
def endP (step : σ → SS σ) (s : σ) : Prop := ∃ m r, runS step m s = some (0, r)
noncomputable def endE (step : σ → SS σ) (s : σ) : σ := @dite _ (endP step s) (Classical.propDecidable _) (fun h => h.choose_spec.choose) (fun _ => s)
theorem endE_run {step : σ → SS σ} {s : σ} (h : endP step s) : ∃ m, runS step m s = some (0, endE step s) := by
  refine ⟨h.choose, ?_⟩
  unfold endE
  rw [dif_pos h]
  exact h.choose_spec.choose_spec
theorem runS_le {step : σ → SS σ} : ∀ {m k : Nat} {s : σ} {r : Nat × σ}, m ≤ k → runS step m s = some r → runS step k s = some r
  | 0, _, _, _, _, h => by cases h
  | m + 1, 0, _, _, hk, _ => by omega
  | m + 1, k + 1, s, r, hk, h => by
    have h' : (match (step s).sel with
      | some (.inl s') => runS step m s'
      | some (.inr j) => some (j, s)
      | none => none) = some r := h
    show (match (step s).sel with
      | some (.inl s') => runS step k s'
      | some (.inr j) => some (j, s)
      | none => none) = some r
    split at h'
    · exact runS_le (by omega) h'
    · exact h'
    · cases h'
theorem endE_eq {step : σ → SS σ} {s r : σ} {m : Nat} (h : runS step m s = some (0, r)) : endP step s ∧ endE step s = r := by
  have hp : endP step s := ⟨m, r, h⟩
  obtain ⟨k, hk⟩ := endE_run hp
  refine ⟨hp, ?_⟩
  have h1 := runS_le (Nat.le_max_left m k) h
  have h2 := runS_le (Nat.le_max_right m k) hk
  rw [h1] at h2
  injection h2 with h2
  injection h2 with _ h2
  exact h2.symm
theorem endE_good {step : σ → SS σ} {Good : σ → Prop} (h : ∀ s s', Good s → (step s).sel = some (.inl s') → Good s') {s : σ} (hs : Good s) : Good (endE step s) := by
  by_cases hp : endP step s
  · obtain ⟨k, hk⟩ := endE_run hp
    exact runS_good h hs hk
  · unfold endE
    rw [dif_neg hp]
    exact hs
end Go.Ex
