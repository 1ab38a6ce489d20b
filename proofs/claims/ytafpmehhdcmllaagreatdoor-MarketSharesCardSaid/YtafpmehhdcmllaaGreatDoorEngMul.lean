/- Engine, part 46: contracts whose result is a tuple with several new slices. -/
import Derived.Test.YtafpmehhdcmllaaGreatDoorEngMk
noncomputable section
namespace Go.Ex
open Go.RowKit
/-- a part of the result: what names no block; a new slice -/
inductive NV where
  | old (v : Value)
  | sl (l c : Nat) (cs : List Value) (t s : Nat) (ex : Bool)
abbrev MSpec := List Value → List (List Value) → Option (Prop × List NV)
def nvVals : Nat → List NV → List Value
  | _, [] => []
  | N, .old v :: r => v :: nvVals N r
  | N, .sl l c _ _ _ _ :: r => .slice (some ⟨N, 0, none⟩) l c :: nvVals (N + 1) r
def nvHeap : CH → List NV → CH
  | H, [] => H
  | H, .old _ :: r => nvHeap H r
  | H, .sl _ _ cs t s ex :: r => nvHeap (H.push (.cells cs t s ex)) r
def nvBlks : List NV → List CO
  | [] => []
  | .old _ :: r => nvBlks r
  | .sl _ _ cs t s ex :: r => .cells cs t s ex :: nvBlks r
theorem nvHeap_eq : ∀ (l : List NV) (H : CH), nvHeap H l = pushesL H (nvBlks l)
  | [], _ => rfl
  | .old _ :: r, H => nvHeap_eq r H
  | .sl _ _ cs t s ex :: r, H => nvHeap_eq r (H.push (.cells cs t s ex))
noncomputable def mulV (gs : List Nat) (H0 H : CH) (r : Option (Prop × List NV)) : Option (Option Bool × Value × CH × List (Option CO × Option CO)) :=
  match r with
  | some x => some (some (tru x.1), .tuple ⟨nvVals H.length x.2⟩, nvHeap H x.2, reqs gs H0 H)
  | none => none
noncomputable def mulE (spec : MSpec) (gs : List Nat) (H0 : CH) : Ent := fun args H =>
  match cellsOf H (dedupB (args.flatMap (blksV 8)) []) with
  | some css => cond (okBs (dedupB (args.flatMap (blksV 8)) []) && (Nat.ble gl H.length && args.all (okV (dedupB (args.flatMap (blksV 8)) []) 8))) (mulV gs H0 H (spec (args.map (absV (dedupB (args.flatMap (blksV 8)) []) 8)) css)) none
  | none => none
/-- the values of the small run: the blocks of the new slices -/
def nvReal : List Nat → List NV → List Value
  | _, [] => []
  | bs, .old v :: r => v :: nvReal bs r
  | b :: bs, .sl l c _ _ _ _ :: r => .slice (some ⟨b, 0, none⟩) l c :: nvReal bs r
  | [], .sl _ _ _ _ _ _ :: r => undef :: nvReal [] r
def nvFl : List NV → Prop
  | [] => True
  | .old v :: r => Ex.flat v = true ∧ nvFl r
  | .sl _ _ cs _ _ _ :: r => cs.all Ex.flat = true ∧ nvFl r
/-- what is asked of a run over the small heap -/
def MOk (P : Program) (f : FuncId) (al : List Value) (g os : List CO) (G : Nat) (l : List NV) : Prop :=
  nvFl l ∧ ∃ (bs : List Nat) (H' : CH), bs.length = (nvBlks l).length ∧ bs.Nodup ∧ (∀ b ∈ bs, G ≤ b) ∧ (∀ (j b : Nat) (o : CO), (nvBlks l)[j]? = some o → bs[j]? = some b → H'[b]? = some o) ∧ Sound P G (.call f ⟨al⟩ (heapL (g ++ os))) (.val (.tuple ⟨nvReal bs l⟩) H')
theorem nvBlks_flat : ∀ {l : List NV}, nvFl l → ∀ o ∈ nvBlks l, FlatO o
  | [], _, o, ho => by cases ho
  | .old _ :: r, h, o, ho => nvBlks_flat (l := r) h.2 o ho
  | .sl _ _ cs t s ex :: r, h, o, ho => by
    rcases List.mem_cons.1 ho with rfl | ho
    · exact fun x hx => List.all_eq_true.1 h.1 x hx
    · exact nvBlks_flat (l := r) h.2 o ho
theorem nv_rn {M : Nat} : ∀ (l : List NV) (N : Nat) (pre bs : List Nat), nvFl l → bs.length = (nvBlks l).length → pre.length = N → ∀ (i : Nat) (x x' : Value), (nvVals N l)[i]? = some x → (nvReal bs l)[i]? = some x' → RN (pre ++ bs) x x'
  | [], N, pre, bs, _, _, _, i, x, x', hx, _ => by simp [nvVals] at hx
  | .old v :: r, N, pre, bs, h, hl, hp, i, x, x', hx, hx' => by
    cases i with
    | zero => cases hx; cases bs <;> (cases hx'; exact .flat h.1)
    | succ i =>
      have hx2 : (nvVals N r)[i]? = some x := hx
      have hx3 : (nvReal bs r)[i]? = some x' := by cases bs <;> exact hx'
      exact nv_rn (M := M) r N pre bs h.2 hl hp i x x' hx2 hx3
  | .sl l c cs t s ex :: r, N, pre, bs, h, hl, hp, i, x, x', hx, hx' => by
    cases bs with
    | nil => simp [nvBlks] at hl
    | cons b bs =>
      cases i with
      | zero =>
        cases hx; cases hx'
        exact .slice (by rw [List.getElem?_append_right (by omega), hp, Nat.sub_self]; rfl)
      | succ i =>
        have hx2 : (nvVals (N + 1) r)[i]? = some x := hx
        have hx3 : (nvReal bs r)[i]? = some x' := hx'
        have := nv_rn (M := M) r (N + 1) (pre ++ [b]) bs h.2 (by simpa [nvBlks] using hl) (by simp [hp]) i x x' hx2 hx3
        rwa [List.append_assoc] at this
theorem nv_size : ∀ (l : List NV) (N : Nat) (bs : List Nat), bs.length = (nvBlks l).length → (nvVals N l).length = (nvReal bs l).length
  | [], N, bs, _ => by cases bs <;> rfl
  | .old v :: r, N, bs, h => by
    have := nv_size r N bs h
    cases bs <;> simp [nvVals, nvReal, this]
  | .sl l c cs t s ex :: r, N, [], h => by simp [nvBlks] at h
  | .sl l c cs t s ex :: r, N, b :: bs, h => by
    have := nv_size r (N + 1) bs (by simpa [nvBlks] using h)
    simp [nvVals, nvReal, this]
theorem mul_ok {P : Program} {G : Nat} {f : FuncId} {spec : MSpec} {gs : List Nat} {g : List CO} (hg : g.length = gl) (hgf : ∀ o ∈ g, FlatO o) (hmem : ∀ (b : Nat) (o : CO), g[b]? = some o → o.alive = true → b ∈ gs)
    (h : ∀ al css os p v, spec al css = some (p, v) → p → Blks css os → (∀ cs ∈ css, cs.all Ex.flat = true) ∧ MOk P f al g os (gl + css.length) v) :
    ∀ args H c v H' l, mulE spec gs (heapL g) args H = some (c, v, H', l) → c.getD true = true → Same l → Sound P G (.call f ⟨args⟩ H) (.val v H') := by
  intro args H c v H' l he hc' hsm
  unfold mulE at he
  generalize dedupB (args.flatMap (blksV 8)) [] = bs at he
  split at he
  case h_2 => cases he
  rename_i css hcs
  cases hgb : okBs bs && (Nat.ble gl H.length && args.all (okV bs 8)) with
  | false => rw [hgb] at he; cases he
  | true =>
    rw [hgb] at he
    have he' : mulV gs (heapL g) H (spec (args.map (absV bs 8)) css) = some (c, v, H', l) := he
    unfold mulV at he'
    split at he'
    case h_2 => cases he'
    rename_i x hx
    cases he'
    obtain ⟨p, l⟩ := x
    simp only [Bool.and_eq_true] at hgb
    obtain ⟨g1, g2, g3⟩ := hgb
    have hok : p := tru_iff.1 hc'
    obtain ⟨os, o1, o2, o3⟩ := cellsOf_blks bs css hcs
    obtain ⟨r1, r2⟩ := absL_ok (fun v hv => absV_ok 8 v hv) g3
    obtain ⟨h1, h3⟩ := h _ css os p l hx hok o1
    have hcl : css.length = os.length := o1.len
    have hgH : ∀ (b : Nat) (o : CO), g[b]? = some o → o.alive = true → H[b]? = some o := by
      intro b o ho ha
      have := hsm (H[b]?, (heapL g)[b]?) (List.mem_map.2 ⟨b, hmem b o ho ha, rfl⟩)
      dsimp only at this
      rw [this, heapL_get, ho]
    have hlen : (heapL (g ++ os)).length = gl + css.length := by rw [heapL_len]; simp [hg, hcl]
    obtain ⟨k1, κ, H2, k2, k3, k4, k5, k6⟩ := h3
    rw [nvHeap_eq]
    refine Sound.makes (Hs' := H2) (g := g) (os := os) (bs := bs) (nb := nvBlks l) (κ := κ) (al := args.map (absV bs 8)) hg hgf hgH g1 o2 (o1.flat h1) o3 r1 r2.symm (by rw [hlen]; exact k6) (Nat.le_of_ble_eq_true g2) k2 k3 ?_ ?_ ?_
    · intro c hc
      refine ⟨by rw [hlen]; exact k4 c hc, ?_⟩
      obtain ⟨j, hj⟩ := List.getElem?_of_mem hc
      have hjl : j < (nvBlks l).length := by rw [← k2]; exact (List.getElem?_eq_some_iff.1 hj).1
      exact Hp.lt (k5 j c _ (List.getElem?_eq_getElem hjl) hj)
    · exact .tuple (by simpa using nv_size l H.length κ k2) fun i x x' hx hx' => nv_rn (M := 0) l H.length (List.replicate H.length H2.length) κ k1 k2 (by simp) i x x' (by simpa using hx) (by simpa using hx')
    · intro j c o hj hc _
      exact ⟨o, k5 j c o hj hc, flat_RO (nvBlks_flat k1 o (List.mem_of_getElem? hj))⟩
theorem TSound.mul {P : Program} {G : Nat} {T : Tb} {f f' : FuncId} {spec : MSpec} (hT : TSound P G T)
    (h : ∀ al css os p v, spec al css = some (p, v) → p → Blks css os → (∀ cs ∈ css, cs.all Ex.flat = true) ∧ MOk P f al deads os (gl + css.length) v) (hf : f' % 1000000 = f := by rfl) :
    TSound P G (Ex.ext T f' (mulE spec [] (heapL deads))) := hT.alt (mul_ok deads_len deads_flat deads_mem h) hf
/-! ### what is observed of a run: the results, and the new blocks -/
inductive MT where
  | fail
  | leaf (bs : List Nat) (l : List NV)
  | br (b : Bool) (t e : MT)
def MT.sel : MT → Option (List Nat × List NV)
  | .fail => none
  | .leaf bs l => some (bs, l)
  | .br b t e => cond b t.sel e.sel
def mulAt (v : Value) (H : CH) : Option (Option Nat × NV) :=
  match v with
  | .slice (some ⟨b, 0, none⟩) l c => match H[b]? with
    | some (.cells cs t s ex) => some (some b, .sl l c cs t s ex)
    | _ => none
  | .slice (some _) _ _ => none
  | .pointer _ => none
  | v => some (none, .old v)
def mulL (H : CH) : List Value → Option (List Nat × List NV)
  | [] => some ([], [])
  | v :: r => match mulAt v H with
    | some x => match mulL H r with
      | some y => some (match x.1 with
        | some b => b :: y.1
        | none => y.1, x.2 :: y.2)
      | none => none
    | none => none
def mulN (r : QRes) : MT :=
  match r with
  | .val (.tuple ⟨l⟩) H => match mulL H l with
    | some x => .leaf x.1 x.2
    | none => .fail
  | _ => .fail
noncomputable def Out.muls (o : Out QRes) : MT := Out.rec (motive := fun _ => MT) .fail mulN (fun b _ _ t e => .br b t e) (fun _ _ k => k) (fun _ _ _ k => k) o
def MAt (bs : List Nat) (l : List NV) (q : QRes) : Prop := ∃ H, bs.length = (nvBlks l).length ∧ (∀ (j b : Nat) (o : CO), (nvBlks l)[j]? = some o → bs[j]? = some b → H[b]? = some o) ∧ q = .val (.tuple ⟨nvReal bs l⟩) H
theorem mulAt_eq {v : Value} {H : CH} {x : Option Nat × NV} (h : mulAt v H = some x) : (x.1 = none ∧ x.2 = .old v) ∨ ∃ b l c cs t s ex, x = (some b, .sl l c cs t s ex) ∧ v = .slice (some ⟨b, 0, none⟩) l c ∧ H[b]? = some (.cells cs t s ex) := by
  unfold mulAt at h
  split at h
  · split at h
    · rename_i hb
      cases h
      exact .inr ⟨_, _, _, _, _, _, _, rfl, rfl, hb⟩
    · cases h
  · cases h
  · cases h
  · cases h
    exact .inl ⟨rfl, rfl⟩
theorem mulL_at {H : CH} : ∀ (vs : List Value) (bs : List Nat) (l : List NV), mulL H vs = some (bs, l) → bs.length = (nvBlks l).length ∧ (∀ (j b : Nat) (o : CO), (nvBlks l)[j]? = some o → bs[j]? = some b → H[b]? = some o) ∧ vs = nvReal bs l
  | [], bs, l, h => by cases h; exact ⟨rfl, fun j b o hj => by simp [nvBlks] at hj, rfl⟩
  | v :: r, bs, l, h => by
    unfold mulL at h
    split at h
    case h_2 => cases h
    rename_i x hx
    split at h
    case h_2 => cases h
    rename_i y hy
    obtain ⟨i1, i2, i3⟩ := mulL_at r y.1 y.2 hy
    rcases mulAt_eq hx with ⟨e1, e2⟩ | ⟨b, ln, c, cs, t, s, ex, rfl, e2, e3⟩
    · obtain ⟨x1, x2⟩ := x
      dsimp only at e1 e2
      subst e1
      subst e2
      cases h
      refine ⟨i1, i2, ?_⟩
      rw [i3]
      cases y.1 <;> rfl
    · cases h
      refine ⟨by simp [nvBlks, i1], fun j b' o hj hb => ?_, by rw [e2, i3]; rfl⟩
      cases j with
      | zero => cases hj; cases hb; exact e3
      | succ j => exact i2 j b' o hj hb
theorem mulN_at {q : QRes} {bs : List Nat} {l : List NV} (h : (mulN q).sel = some (bs, l)) : MAt bs l q := by
  unfold mulN at h
  split at h
  · split at h
    · rename_i x hx
      cases h
      obtain ⟨h1, h2, h3⟩ := mulL_at _ _ _ hx
      exact ⟨_, h1, h2, by rw [← h3]⟩
    · cases h
  · cases h
theorem Out.muls_sel {o : Out QRes} {bs : List Nat} {l : List NV} (hf : o = o.fix) (h : o.muls.sel = some (bs, l)) : ∃ q, o.sel = some q ∧ MAt bs l q := by
  induction o with
  | fail => cases h
  | leaf q => exact ⟨q, rfl, mulN_at h⟩
  | br c t e iht ihe =>
    injection hf with _ h1 h2
    have h' : cond c t.muls.sel e.muls.sel = some (bs, l) := h
    cases c with
    | true => exact iht h1 h'
    | false => exact ihe h2 h'
  | same l' k ih =>
    injection hf with h1 h2
    obtain ⟨q, hk, ha⟩ := ih h2 h
    exact ⟨q, (ifSame_of (same_of_fix h1)).trans hk, ha⟩
  | code a c k ih =>
    injection hf with _ h1 h2
    obtain ⟨q, hk, ha⟩ := ih h2 h
    exact ⟨q, (ifCode_of h1.symm).trans hk, ha⟩
theorem muls_ok {P : Program} {G : Nat} {C : Cfg} {n : Nat} {f : FuncId} {al : List Value} {g os : List CO} {bs : List Nat} {l : List NV} (hT : TSound P G C.T) (hL : LSound P G C.L)
    (hf : execO P G C n (.call f ⟨al⟩ (heapL (g ++ os))) = (execO P G C n (.call f ⟨al⟩ (heapL (g ++ os)))).fix) (h : (execO P G C n (.call f ⟨al⟩ (heapL (g ++ os)))).muls.sel = some (bs, l)) (hb : ∀ b ∈ bs, G ≤ b) (hnd : bs.Nodup) (hfl : nvFl l) : MOk P f al g os G l := by
  obtain ⟨q, hq, H, h1, h2, rfl⟩ := Out.muls_sel hf h
  exact ⟨hfl, bs, H, h1, hnd, hb, h2, execO_sound hT hL n _ _ hq⟩
end Go.Ex
