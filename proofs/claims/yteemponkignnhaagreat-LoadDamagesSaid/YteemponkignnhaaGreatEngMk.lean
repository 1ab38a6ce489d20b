/- Part of the proof. -/
import Derived.Test.YteemponkignnhaaGreatEngZr
import Derived.Test.YteemponkignnhaaGreatEngEnt
noncomputable section
namespace Go.Ex
open Go.RowKit
theorem Sound.makes {P : Program} {G : Nat} {f : FuncId} {args al : List Value} {H Hs' : CH} {v u : Value} {g os nb : List CO} {bs κ : List Nat} (hg : g.length = gl) (hgf : ∀ o ∈ g, FlatO o) (hgH : ∀ (b : Nat) (o : CO), g[b]? = some o → o.alive = true → H[b]? = some o)
    (hbs : okBs bs = true) (hl : os.length = bs.length) (hof : ∀ o ∈ os, FlatO o) (hb : ∀ (j b : Nat) (o : CO), bs[j]? = some b → os[j]? = some o → H[b]? = some o)
    (has : al.all (renOk (List.range gl ++ bs) 8) = true) (hargs : args = al.map (ren (List.range gl ++ bs) 8))
    (hs : Sound P (heapL (g ++ os)).length (.call f ⟨al⟩ (heapL (g ++ os))) (.val v Hs')) (hgl : gl ≤ H.length)
    (hκ : κ.length = nb.length) (hκn : κ.Nodup) (hκg : ∀ c ∈ κ, (heapL (g ++ os)).length ≤ c ∧ c < Hs'.length) (hu : RN (List.replicate H.length Hs'.length ++ κ) u v)
    (hnb : ∀ (j c : Nat) (o : CO), nb[j]? = some o → κ[j]? = some c → o.alive = true → ∃ o', Hs'[c]? = some o' ∧ RO (List.replicate H.length Hs'.length ++ κ) o o') : Sound P G (.call f ⟨args⟩ H) (.val u (pushesL H nb)) := by
  subst hargs
  obtain ⟨hnd, hge⟩ := okBs_spec bs hbs
  have hlen : (heapL (g ++ os)).length = gl + os.length := by rw [heapL_len]; simp [hg]
  have hin : ∀ j b, bs[j]? = some b → b < H.length := fun j b hj => by
    have hjl : j < os.length := by rw [hl]; exact (List.getElem?_eq_some_iff.1 hj).1
    exact Hp.lt (hb j b _ hj (List.getElem?_eq_getElem hjl))
  refine Sound.smallN (Hs := heapL (g ++ os)) (Hs' := Hs') (args2 := al) (List.range gl ++ bs) κ nb hs (by rw [hlen]; omega) (by rw [hlen]; simp [hl]) (fun b hb => by rw [List.getElem?_append_left (by simpa using hb), List.getElem?_range hb]) ?_ ?_ (by simp) ?_ ?_ hκ hκn hκg hu hnb
  · rw [List.nodup_append]
    refine ⟨List.nodup_range, hnd, fun a ha c hc => ?_⟩
    rw [List.mem_range] at ha
    have := hge c hc
    omega
  · intro c hc
    rcases List.mem_append.1 hc with h | h
    · rw [List.mem_range] at h; omega
    · obtain ⟨j, hj⟩ := List.getElem?_of_mem h
      exact hin j c hj
  · intro i x x' hx hx'
    rw [List.getElem?_map, hx] at hx'
    cases hx'
    exact ren_RN 8 x (List.all_eq_true.1 has x (List.mem_of_getElem? hx))
  · intro b c o ho hc ha
    rw [heapL_get] at ho
    rcases range_app hc with ⟨h1, rfl⟩ | ⟨h1, h2⟩
    · rw [List.getElem?_append_left (by rw [hg]; exact h1)] at ho
      exact ⟨o, hgH _ o ho ha, flat_RO (hgf o (List.mem_of_getElem? ho))⟩
    · rw [List.getElem?_append_right (by rw [hg]; exact h1), hg] at ho
      exact ⟨o, hb _ c o h2 ho, flat_RO (hof o (List.mem_of_getElem? ho))⟩
theorem rep_get {N M : Nat} {κ : List Nat} {j c : Nat} (h : κ[j]? = some c) : (List.replicate N M ++ κ)[N + j]? = some c := by
  rw [List.getElem?_append_right (by simp)]; simpa using h
end Go.Ex
/- Engine, part 44: entries that tell several ways by conditions (numbers f, f + 1000000, f + 2000000 ..), and such whose result is a new slice. -/
noncomputable section
namespace Go.Ex
open Go.RowKit
inductive NRes where
  | old (v : Value)
  | sl (l c : Nat) (cs : List Value) (t s : Nat) (ex : Bool)
  | tup (l c : Nat) (cs : List Value) (t s : Nat) (ex : Bool) (w : Value)
abbrev NSpec := List Value → List (List Value) → Option (Prop × NRes)
def NRes.val (N : Nat) : NRes → Value
  | .old v => v
  | .sl l c _ _ _ _ => .slice (some ⟨N, 0, none⟩) l c
  | .tup l c _ _ _ _ w => .tuple ⟨[.slice (some ⟨N, 0, none⟩) l c, w]⟩
def NRes.heap (H : CH) : NRes → CH
  | .old _ => H
  | .sl _ _ cs t s ex => H.push (.cells cs t s ex)
  | .tup _ _ cs t s ex _ => H.push (.cells cs t s ex)
noncomputable def newV (gs : List Nat) (H0 H : CH) (r : Option (Prop × NRes)) : Option (Option Bool × Value × CH × List (Option CO × Option CO)) :=
  match r with
  | some x => some (some (tru x.1), x.2.val H.length, x.2.heap H, reqs gs H0 H)
  | none => none
noncomputable def newE (spec : NSpec) (gs : List Nat) (H0 : CH) : Ent := fun args H =>
  match cellsOf H (dedupB (args.flatMap (blksV 8)) []) with
  | some css => cond (okBs (dedupB (args.flatMap (blksV 8)) []) && (Nat.ble gl H.length && args.all (okV (dedupB (args.flatMap (blksV 8)) []) 8))) (newV gs H0 H (spec (args.map (absV (dedupB (args.flatMap (blksV 8)) []) 8)) css)) none
  | none => none
def NRes.Ok (P : Program) (f : FuncId) (al : List Value) (g os : List CO) (G : Nat) : NRes → Prop
  | .old v => clean 6 v = true ∧ ∃ H', Sound P G (.call f ⟨al⟩ (heapL (g ++ os))) (.val v H')
  | .sl l c cs t s ex => cs.all Ex.flat = true ∧ ∃ b H', G ≤ b ∧ H'[b]? = some (.cells cs t s ex) ∧ Sound P G (.call f ⟨al⟩ (heapL (g ++ os))) (.val (.slice (some ⟨b, 0, none⟩) l c) H')
  | .tup l c cs t s ex w => cs.all Ex.flat = true ∧ Ex.flat w = true ∧ ∃ b H', G ≤ b ∧ H'[b]? = some (.cells cs t s ex) ∧ Sound P G (.call f ⟨al⟩ (heapL (g ++ os))) (.val (.tuple ⟨[.slice (some ⟨b, 0, none⟩) l c, w]⟩) H')
theorem rn_new {N M b l c : Nat} : RN (List.replicate N M ++ [b]) (.slice (some ⟨N, 0, none⟩) l c) (.slice (some ⟨b, 0, none⟩) l c) :=
  .slice (by simp)
theorem new_ok {P : Program} {G : Nat} {f : FuncId} {spec : NSpec} {gs : List Nat} {g : List CO} (hg : g.length = gl) (hgf : ∀ o ∈ g, FlatO o) (hmem : ∀ (b : Nat) (o : CO), g[b]? = some o → o.alive = true → b ∈ gs)
    (h : ∀ al css os p v, spec al css = some (p, v) → p → Blks css os → (∀ cs ∈ css, cs.all Ex.flat = true) ∧ v.Ok P f al g os (gl + css.length)) :
    ∀ args H c v H' l, newE spec gs (heapL g) args H = some (c, v, H', l) → c.getD true = true → Same l → Sound P G (.call f ⟨args⟩ H) (.val v H') := by
  intro args H c v H' l he hc' hsm
  unfold newE at he
  generalize dedupB (args.flatMap (blksV 8)) [] = bs at he
  split at he
  case h_2 => cases he
  rename_i css hcs
  cases hgb : okBs bs && (Nat.ble gl H.length && args.all (okV bs 8)) with
  | false => rw [hgb] at he; cases he
  | true =>
    rw [hgb] at he
    have he' : newV gs (heapL g) H (spec (args.map (absV bs 8)) css) = some (c, v, H', l) := he
    unfold newV at he'
    split at he'
    case h_2 => cases he'
    rename_i x hx
    cases he'
    obtain ⟨p, v'⟩ := x
    simp only [Bool.and_eq_true] at hgb
    obtain ⟨g1, g2, g3⟩ := hgb
    have hok : p := tru_iff.1 hc'
    obtain ⟨os, o1, o2, o3⟩ := cellsOf_blks bs css hcs
    obtain ⟨r1, r2⟩ := absL_ok (fun v hv => absV_ok 8 v hv) g3
    obtain ⟨h1, h3⟩ := h _ css os p v' hx hok o1
    have hcl : css.length = os.length := o1.len
    have hgH : ∀ (b : Nat) (o : CO), g[b]? = some o → o.alive = true → H[b]? = some o := by
      intro b o ho ha
      have := hsm (H[b]?, (heapL g)[b]?) (List.mem_map.2 ⟨b, hmem b o ho ha, rfl⟩)
      dsimp only at this
      rw [this, heapL_get, ho]
    have hlen : (heapL (g ++ os)).length = gl + css.length := by rw [heapL_len]; simp [hg, hcl]
    cases v' with
    | old u =>
      obtain ⟨h2, H2, h3⟩ := h3
      exact Sound.blocks (Hs' := H2) (g := g) (os := os) (bs := bs) (al := args.map (absV bs 8)) hg hgf hgH g1 o2 (o1.flat h1) o3 r1 r2.symm (by rw [hlen]; exact h3) h2 (Nat.le_of_ble_eq_true g2)
    | sl ln cp cs t s ex =>
      obtain ⟨h2, b, H2, hb1, hb2, h3⟩ := h3
      refine Sound.makes (Hs' := H2) (g := g) (os := os) (bs := bs) (nb := [.cells cs t s ex]) (κ := [b]) (al := args.map (absV bs 8)) hg hgf hgH g1 o2 (o1.flat h1) o3 r1 r2.symm (by rw [hlen]; exact h3) (Nat.le_of_ble_eq_true g2) rfl (by simp) ?_ rn_new ?_
      · intro c hc
        rw [List.mem_singleton] at hc
        subst hc
        exact ⟨by rw [hlen]; exact hb1, Hp.lt hb2⟩
      · intro j c o hj hc ha
        match j, hj, hc with
        | 0, hj, hc =>
          cases hj; cases hc
          exact ⟨_, hb2, flat_RO fun x hx => List.all_eq_true.1 h2 x hx⟩
        | j + 1, hj, _ => simp at hj
    | tup ln cp cs t s ex w =>
      obtain ⟨h2, h4, b, H2, hb1, hb2, h3⟩ := h3
      refine Sound.makes (Hs' := H2) (g := g) (os := os) (bs := bs) (nb := [.cells cs t s ex]) (κ := [b]) (al := args.map (absV bs 8)) hg hgf hgH g1 o2 (o1.flat h1) o3 r1 r2.symm (by rw [hlen]; exact h3) (Nat.le_of_ble_eq_true g2) rfl (by simp) ?_ ?_ ?_
      · intro c hc
        rw [List.mem_singleton] at hc
        subst hc
        exact ⟨by rw [hlen]; exact hb1, Hp.lt hb2⟩
      · refine .tuple rfl fun i x x' hx hx' => ?_
        match i, hx, hx' with
        | 0, hx, hx' => cases hx; cases hx'; exact rn_new
        | 1, hx, hx' => cases hx; cases hx'; exact .flat h4
        | k + 2, hx, _ => simp at hx
      · intro j c o hj hc ha
        match j, hj, hc with
        | 0, hj, hc =>
          cases hj; cases hc
          exact ⟨_, hb2, flat_RO fun x hx => List.all_eq_true.1 h2 x hx⟩
        | j + 1, hj, _ => simp at hj
theorem TSound.new {P : Program} {G : Nat} {T : Tb} {f f' : FuncId} {spec : NSpec} (hT : TSound P G T)
    (h : ∀ al css os p v, spec al css = some (p, v) → p → Blks css os → (∀ cs ∈ css, cs.all Ex.flat = true) ∧ v.Ok P f al deads os (gl + css.length)) (hf : f' % 1000000 = f := by rfl) :
    TSound P G (Ex.ext T f' (newE spec [] (heapL deads))) := hT.alt (new_ok deads_len deads_flat deads_mem h) hf
inductive NT where
  | fail
  | leaf (b : Nat) (r : NRes)
  | br (b : Bool) (t e : NT)
def NT.sel : NT → Option (Nat × NRes)
  | .fail => none
  | .leaf b r => some (b, r)
  | .br b t e => cond b t.sel e.sel
def slN (b l c : Nat) (o : Option CO) : NT :=
  match o with
  | some (.cells cs t s ex) => .leaf b (.sl l c cs t s ex)
  | _ => .fail
def tupN (b l c : Nat) (w : Value) (o : Option CO) : NT :=
  match o with
  | some (.cells cs t s ex) => .leaf b (.tup l c cs t s ex w)
  | _ => .fail
def newN (r : QRes) : NT :=
  match r with
  | .val (.slice (some ⟨b, 0, none⟩) l c) H => slN b l c H[b]?
  | .val (.tuple ⟨[.slice (some ⟨b, 0, none⟩) l c, w]⟩) H => tupN b l c w H[b]?
  | .val v _ => .leaf 1000000 (.old v)
  | .ex _ _ _ _ => .fail
noncomputable def Out.news (o : Out QRes) : NT := Out.rec (motive := fun _ => NT) .fail newN (fun b _ _ t e => .br b t e) (fun _ _ k => k) (fun _ _ _ k => k) o
def NRes.At (b : Nat) (q : QRes) : NRes → Prop
  | .old v => ∃ H, q = .val v H
  | .sl l c cs t s ex => ∃ H, H[b]? = some (.cells cs t s ex) ∧ q = .val (.slice (some ⟨b, 0, none⟩) l c) H
  | .tup l c cs t s ex w => ∃ H, H[b]? = some (.cells cs t s ex) ∧ q = .val (.tuple ⟨[.slice (some ⟨b, 0, none⟩) l c, w]⟩) H
theorem newN_at {q : QRes} {b : Nat} {r : NRes} (h : (newN q).sel = some (b, r)) : r.At b q := by
  unfold newN at h
  split at h
  · rename_i b' l c H
    unfold slN at h
    split at h
    · rename_i cs t s ex hb
      cases h
      exact ⟨H, hb, rfl⟩
    · cases h
  · rename_i b' l c w H
    unfold tupN at h
    split at h
    · rename_i cs t s ex hb
      cases h
      exact ⟨H, hb, rfl⟩
    · cases h
  · cases h
    exact ⟨_, rfl⟩
  · cases h
theorem Out.news_sel {o : Out QRes} {b : Nat} {r : NRes} (hf : o = o.fix) (h : o.news.sel = some (b, r)) : ∃ q, o.sel = some q ∧ r.At b q := by
  induction o with
  | fail => cases h
  | leaf q => exact ⟨q, rfl, newN_at h⟩
  | br c t e iht ihe =>
    injection hf with _ h1 h2
    have h' : cond c t.news.sel e.news.sel = some (b, r) := h
    cases c with
    | true => exact iht h1 h'
    | false => exact ihe h2 h'
  | same l k ih =>
    injection hf with h1 h2
    obtain ⟨q, hk, ha⟩ := ih h2 h
    exact ⟨q, (ifSame_of (same_of_fix h1)).trans hk, ha⟩
  | code a c k ih =>
    injection hf with _ h1 h2
    obtain ⟨q, hk, ha⟩ := ih h2 h
    exact ⟨q, (ifCode_of h1.symm).trans hk, ha⟩
def NRes.Fl : NRes → Prop
  | .old v => clean 6 v = true
  | .sl _ _ cs _ _ _ => cs.all Ex.flat = true
  | .tup _ _ cs _ _ _ w => cs.all Ex.flat = true ∧ Ex.flat w = true
theorem news_ok {P : Program} {G : Nat} {C : Cfg} {n : Nat} {f : FuncId} {al : List Value} {g os : List CO} {b : Nat} {r : NRes} (hT : TSound P G C.T) (hL : LSound P G C.L)
    (hf : execO P G C n (.call f ⟨al⟩ (heapL (g ++ os))) = (execO P G C n (.call f ⟨al⟩ (heapL (g ++ os)))).fix) (h : (execO P G C n (.call f ⟨al⟩ (heapL (g ++ os)))).news.sel = some (b, r)) (hb : G ≤ b) (hfl : r.Fl) : r.Ok P f al g os G := by
  obtain ⟨q, hq, ha⟩ := Out.news_sel hf h
  have hs := execO_sound hT hL n _ _ hq
  cases r with
  | old v =>
    obtain ⟨H, rfl⟩ := ha
    exact ⟨hfl, H, hs⟩
  | sl l c cs t s ex =>
    obtain ⟨H, h1, rfl⟩ := ha
    exact ⟨hfl, b, H, hb, h1, hs⟩
  | tup l c cs t s ex w =>
    obtain ⟨H, h1, rfl⟩ := ha
    exact ⟨hfl.1, hfl.2, b, H, hb, h1, hs⟩
end Go.Ex
/- Engine, part 45: contracts of functions whose arguments lead to blocks that lead to others: the outer blocks are told with their places renamed, the inner ones name no block. -/
noncomputable section
namespace Go.Ex
open Go.RowKit
theorem Sound.nest {P : Program} {G : Nat} {f : FuncId} {args al : List Value} {H Hs' : CH} {v : Value} {g os : List CO} {bs : List Nat} (hg : g.length = gl) (hgf : ∀ o ∈ g, FlatO o) (hgH : ∀ (b : Nat) (o : CO), g[b]? = some o → o.alive = true → H[b]? = some o)
    (hbs : okBs bs = true) (hl : os.length = bs.length) (hb : ∀ (j b : Nat) (o : CO), bs[j]? = some b → os[j]? = some o → ∃ o', H[b]? = some o' ∧ RO (List.range gl ++ bs) o o')
    (has : al.all (renOk (List.range gl ++ bs) 8) = true) (hargs : args = al.map (ren (List.range gl ++ bs) 8))
    (hs : Sound P (heapL (g ++ os)).length (.call f ⟨al⟩ (heapL (g ++ os))) (.val v Hs')) (hv : clean 6 v = true) (hgl : gl ≤ H.length) : Sound P G (.call f ⟨args⟩ H) (.val v H) := by
  subst hargs
  obtain ⟨hnd, hge⟩ := okBs_spec bs hbs
  have hlen : (heapL (g ++ os)).length = gl + os.length := by rw [heapL_len]; simp [hg]
  have hin : ∀ j b, bs[j]? = some b → b < H.length := fun j b hj => by
    have hjl : j < os.length := by rw [hl]; exact (List.getElem?_eq_some_iff.1 hj).1
    obtain ⟨o', h1, _⟩ := hb j b _ hj (List.getElem?_eq_getElem hjl)
    exact Hp.lt h1
  refine Sound.small (Hs := heapL (g ++ os)) (Hs' := Hs') (args2 := al) (List.range gl ++ bs) hs hv (by rw [hlen]; omega) (by rw [hlen]; simp [hl]) (fun b hb => by rw [List.getElem?_append_left (by simpa using hb), List.getElem?_range hb]) ?_ ?_ (by simp) ?_ ?_
  · rw [List.nodup_append]
    refine ⟨List.nodup_range, hnd, fun a ha c hc => ?_⟩
    rw [List.mem_range] at ha
    have := hge c hc
    omega
  · intro c hc
    rcases List.mem_append.1 hc with h | h
    · rw [List.mem_range] at h; omega
    · obtain ⟨j, hj⟩ := List.getElem?_of_mem h
      exact hin j c hj
  · intro i x x' hx hx'
    rw [List.getElem?_map, hx] at hx'
    cases hx'
    exact ren_RN 8 x (List.all_eq_true.1 has x (List.mem_of_getElem? hx))
  · intro b c o ho hc ha
    rw [heapL_get] at ho
    rcases range_app hc with ⟨h1, rfl⟩ | ⟨h1, h2⟩
    · rw [List.getElem?_append_left (by rw [hg]; exact h1)] at ho
      exact ⟨o, hgH _ o ho ha, flat_RO (hgf o (List.mem_of_getElem? ho))⟩
    · rw [List.getElem?_append_right (by rw [hg]; exact h1), hg] at ho
      exact hb _ c o h2 ho
theorem Sound.nestN {P : Program} {G : Nat} {f : FuncId} {args al : List Value} {H Hs' : CH} {v u : Value} {g os nb : List CO} {bs κ : List Nat} (hg : g.length = gl) (hgf : ∀ o ∈ g, FlatO o) (hgH : ∀ (b : Nat) (o : CO), g[b]? = some o → o.alive = true → H[b]? = some o)
    (hbs : okBs bs = true) (hl : os.length = bs.length) (hb : ∀ (j b : Nat) (o : CO), bs[j]? = some b → os[j]? = some o → ∃ o', H[b]? = some o' ∧ RO (List.range gl ++ bs) o o')
    (has : al.all (renOk (List.range gl ++ bs) 8) = true) (hargs : args = al.map (ren (List.range gl ++ bs) 8))
    (hs : Sound P (heapL (g ++ os)).length (.call f ⟨al⟩ (heapL (g ++ os))) (.val v Hs')) (hgl : gl ≤ H.length)
    (hκ : κ.length = nb.length) (hκn : κ.Nodup) (hκg : ∀ c ∈ κ, (heapL (g ++ os)).length ≤ c ∧ c < Hs'.length) (hu : RN (List.replicate H.length Hs'.length ++ κ) u v)
    (hnb : ∀ (j c : Nat) (o : CO), nb[j]? = some o → κ[j]? = some c → o.alive = true → ∃ o', Hs'[c]? = some o' ∧ RO (List.replicate H.length Hs'.length ++ κ) o o') : Sound P G (.call f ⟨args⟩ H) (.val u (pushesL H nb)) := by
  subst hargs
  obtain ⟨hnd, hge⟩ := okBs_spec bs hbs
  have hlen : (heapL (g ++ os)).length = gl + os.length := by rw [heapL_len]; simp [hg]
  have hin : ∀ j b, bs[j]? = some b → b < H.length := fun j b hj => by
    have hjl : j < os.length := by rw [hl]; exact (List.getElem?_eq_some_iff.1 hj).1
    obtain ⟨o', h1, _⟩ := hb j b _ hj (List.getElem?_eq_getElem hjl)
    exact Hp.lt h1
  refine Sound.smallN (Hs := heapL (g ++ os)) (Hs' := Hs') (args2 := al) (List.range gl ++ bs) κ nb hs (by rw [hlen]; omega) (by rw [hlen]; simp [hl]) (fun b hb => by rw [List.getElem?_append_left (by simpa using hb), List.getElem?_range hb]) ?_ ?_ (by simp) ?_ ?_ hκ hκn hκg hu hnb
  · rw [List.nodup_append]
    refine ⟨List.nodup_range, hnd, fun a ha c hc => ?_⟩
    rw [List.mem_range] at ha
    have := hge c hc
    omega
  · intro c hc
    rcases List.mem_append.1 hc with h | h
    · rw [List.mem_range] at h; omega
    · obtain ⟨j, hj⟩ := List.getElem?_of_mem h
      exact hin j c hj
  · intro i x x' hx hx'
    rw [List.getElem?_map, hx] at hx'
    cases hx'
    exact ren_RN 8 x (List.all_eq_true.1 has x (List.mem_of_getElem? hx))
  · intro b c o ho hc ha
    rw [heapL_get] at ho
    rcases range_app hc with ⟨h1, rfl⟩ | ⟨h1, h2⟩
    · rw [List.getElem?_append_left (by rw [hg]; exact h1)] at ho
      exact ⟨o, hgH _ o ho ha, flat_RO (hgf o (List.mem_of_getElem? ho))⟩
    · rw [List.getElem?_append_right (by rw [hg]; exact h1), hg] at ho
      exact hb _ c o h2 ho
abbrev RdB := List Value → CH → Option (List Nat × List Nat)
abbrev XSpec := List Value → List CO → Option (Prop × NRes)
def objs (H : CH) : List Nat → Option (List CO)
  | [] => some []
  | b :: r => match H[b]? with
    | some (.cells cs t s ex) => match objs H r with
      | some l => some (.cells cs t s ex :: l)
      | none => none
    | _ => none
theorem objs_get {H : CH} : ∀ (bs : List Nat) (os : List CO), objs H bs = some os → os.length = bs.length ∧ ∀ (j b : Nat) (o : CO), bs[j]? = some b → os[j]? = some o → H[b]? = some o
  | [], os, h => by cases h; exact ⟨rfl, fun j b o hb => by simp at hb⟩
  | b :: r, os, h => by
    unfold objs at h
    split at h
    case h_2 => cases h
    rename_i cs t s ex hb
    split at h
    case h_2 => cases h
    rename_i l hl
    cases h
    obtain ⟨h1, h2⟩ := objs_get r l hl
    refine ⟨by simp [h1], fun j c o hc ho => ?_⟩
    cases j with
    | zero => cases hc; cases ho; exact hb
    | succ j => exact h2 j c o (by simpa using hc) (by simpa using ho)
def absCO (bs : List Nat) : CO → CO
  | .cells cs t s ex => .cells (cs.map (absV bs 8)) t s ex
  | o => o
def okOB (bs : List Nat) : CO → Bool
  | .cells cs _ _ _ => cs.all (okV bs 8)
  | _ => false
theorem absCO_RO {bs : List Nat} {o : CO} (h : okOB bs o = true) : RO (List.range gl ++ bs) (absCO bs o) o := by
  cases o with
  | cells cs t s ex =>
    refine .cells id (by simp) fun i x x' hx hx' => ?_
    rw [List.getElem?_map, hx'] at hx
    cases hx
    obtain ⟨h1, h2⟩ := absV_ok 8 x' (List.all_eq_true.1 h x' (List.mem_of_getElem? hx'))
    have := ren_RN 8 _ h1
    rwa [h2] at this
  | _ => cases h
noncomputable def xE (k : Nat) (rd : RdB) (spec : XSpec) (gs : List Nat) (H0 : CH) : Ent := fun args H =>
  match rd args H with
  | some x => match objs H x.1 with
    | some o1 => match objs H x.2 with
      | some o2 => cond (Nat.beq x.1.length k && (okBs (x.1 ++ x.2) && (Nat.ble gl H.length && (args.all (okV (x.1 ++ x.2) 8) && o1.all (okOB (x.1 ++ x.2)))))) (newV gs H0 H (spec (args.map (absV (x.1 ++ x.2) 8)) (o1.map (absCO (x.1 ++ x.2)) ++ o2))) none
      | none => none
    | none => none
  | none => none
def NRes.OkX (P : Program) (f : FuncId) (al : List Value) (g os : List CO) (G : Nat) : NRes → Prop
  | .old v => clean 6 v = true ∧ ∃ H', Sound P G (.call f ⟨al⟩ (heapL (g ++ os))) (.val v H')
  | .sl l c cs t s ex => cs.all Ex.flat = true ∧ ∃ b H' ex', G ≤ b ∧ (ex = true → ex' = true) ∧ H'[b]? = some (.cells cs t s ex') ∧ Sound P G (.call f ⟨al⟩ (heapL (g ++ os))) (.val (.slice (some ⟨b, 0, none⟩) l c) H')
  | .tup l c cs t s ex w => cs.all Ex.flat = true ∧ Ex.flat w = true ∧ ∃ b H' ex', G ≤ b ∧ (ex = true → ex' = true) ∧ H'[b]? = some (.cells cs t s ex') ∧ Sound P G (.call f ⟨al⟩ (heapL (g ++ os))) (.val (.tuple ⟨[.slice (some ⟨b, 0, none⟩) l c, w]⟩) H')
theorem NRes.Ok.x {P : Program} {f : FuncId} {al : List Value} {g os : List CO} {G : Nat} {r : NRes} (h : r.Ok P f al g os G) : r.OkX P f al g os G := by
  cases r with
  | old v => exact h
  | sl l c cs t s ex => obtain ⟨h1, b, H', h2, h3, h4⟩ := h; exact ⟨h1, b, H', ex, h2, id, h3, h4⟩
  | tup l c cs t s ex w => obtain ⟨h1, h0, b, H', h2, h3, h4⟩ := h; exact ⟨h1, h0, b, H', ex, h2, id, h3, h4⟩
theorem flat_ROx {ρ : List Nat} {cs : List Value} {t s : Nat} {ex ex' : Bool} (h : cs.all Ex.flat = true) (he : ex = true → ex' = true) : RO ρ (.cells cs t s ex) (.cells cs t s ex') :=
  .cells he rfl fun i x x' hx hx' => by
    rw [hx] at hx'
    cases hx'
    exact .flat (List.all_eq_true.1 h x (List.mem_of_getElem? hx))
theorem x_ok {P : Program} {G : Nat} {f : FuncId} {k : Nat} {rd : RdB} {spec : XSpec} {gs : List Nat} {g : List CO} (hg : g.length = gl) (hgf : ∀ o ∈ g, FlatO o) (hmem : ∀ (b : Nat) (o : CO), g[b]? = some o → o.alive = true → b ∈ gs)
    (h : ∀ al os p v, spec al os = some (p, v) → p → (∀ o ∈ os.drop k, FlatO o) ∧ v.OkX P f al g os (gl + os.length)) :
    ∀ args H c v H' l, xE k rd spec gs (heapL g) args H = some (c, v, H', l) → c.getD true = true → Same l → Sound P G (.call f ⟨args⟩ H) (.val v H') := by
  intro args H c v H' l he hc' hsm
  unfold xE at he
  split at he
  case h_2 => cases he
  rename_i x hx
  obtain ⟨b1, b2⟩ := x
  dsimp only at he
  split at he
  case h_2 => cases he
  rename_i o1 ho1
  split at he
  case h_2 => cases he
  rename_i o2 ho2
  cases hgb : Nat.beq b1.length k && (okBs (b1 ++ b2) && (Nat.ble gl H.length && (args.all (okV (b1 ++ b2) 8) && o1.all (okOB (b1 ++ b2))))) with
  | false => rw [hgb] at he; cases he
  | true =>
    rw [hgb] at he
    simp only [Bool.and_eq_true] at hgb
    obtain ⟨g0, g1, g2, g3, g4⟩ := hgb
    generalize hbs : b1 ++ b2 = bs at g1 g3 g4 he
    have he' : newV gs (heapL g) H (spec (args.map (absV bs 8)) (o1.map (absCO bs) ++ o2)) = some (c, v, H', l) := he
    unfold newV at he'
    split at he'
    case h_2 => cases he'
    rename_i x hx
    cases he'
    obtain ⟨p, v'⟩ := x
    have hok : p := tru_iff.1 hc'
    obtain ⟨l1, q1⟩ := objs_get b1 o1 ho1
    obtain ⟨l2, q2⟩ := objs_get b2 o2 ho2
    obtain ⟨r1, r2⟩ := absL_ok (fun v hv => absV_ok 8 v hv) g3
    have hk : b1.length = k := Nat.eq_of_beq_eq_true g0
    obtain ⟨h1, h3⟩ := h _ _ p v' hx hok
    have hdrop : (o1.map (absCO bs) ++ o2).drop k = o2 := by rw [List.drop_left' (by simp [l1, hk])]
    rw [hdrop] at h1
    have hgH : ∀ (b : Nat) (o : CO), g[b]? = some o → o.alive = true → H[b]? = some o := by
      intro b o ho ha
      have := hsm (H[b]?, (heapL g)[b]?) (List.mem_map.2 ⟨b, hmem b o ho ha, rfl⟩)
      dsimp only at this
      rw [this, heapL_get, ho]
    have hb : ∀ (j b : Nat) (o : CO), bs[j]? = some b → (o1.map (absCO bs) ++ o2)[j]? = some o → ∃ o', H[b]? = some o' ∧ RO (List.range gl ++ bs) o o' := by
      intro j b o hj ho
      rw [← hbs] at hj
      by_cases hjk : j < b1.length
      · rw [List.getElem?_append_left hjk] at hj
        rw [List.getElem?_append_left (by simpa [l1] using hjk), List.getElem?_map] at ho
        cases ho1' : o1[j]? with
        | none => rw [ho1'] at ho; cases ho
        | some o' =>
          rw [ho1'] at ho
          cases ho
          exact ⟨o', q1 j b o' hj ho1', absCO_RO (List.all_eq_true.1 g4 o' (List.mem_of_getElem? ho1'))⟩
      · rw [List.getElem?_append_right (by omega)] at hj
        rw [List.getElem?_append_right (by simp [l1]; omega)] at ho
        simp only [List.length_map, l1] at ho
        exact ⟨o, q2 _ b o hj ho, flat_RO (h1 o (List.mem_of_getElem? ho))⟩
    have hlb : (o1.map (absCO bs) ++ o2).length = bs.length := by rw [← hbs]; simp [l1, l2]
    have hlen : (heapL (g ++ (o1.map (absCO bs) ++ o2))).length = gl + (o1.map (absCO bs) ++ o2).length := by rw [heapL_len, List.length_append, hg]
    cases v' with
    | old u =>
      obtain ⟨h2, H2, h3⟩ := h3
      exact Sound.nest (Hs' := H2) (g := g) (os := o1.map (absCO bs) ++ o2) (bs := bs) (al := args.map (absV bs 8)) hg hgf hgH g1 hlb hb r1 r2.symm (by rw [hlen]; exact h3) h2 (Nat.le_of_ble_eq_true g2)
    | sl ln cp cs t s ex =>
      obtain ⟨h2, b, H2, ex', hb1, hex, hb2, h3⟩ := h3
      refine Sound.nestN (Hs' := H2) (g := g) (os := o1.map (absCO bs) ++ o2) (bs := bs) (nb := [.cells cs t s ex]) (κ := [b]) (al := args.map (absV bs 8)) hg hgf hgH g1 hlb hb r1 r2.symm (by rw [hlen]; exact h3) (Nat.le_of_ble_eq_true g2) rfl (by simp) ?_ rn_new ?_
      · intro c hc
        rw [List.mem_singleton] at hc
        subst hc
        exact ⟨by rw [hlen]; exact hb1, Hp.lt hb2⟩
      · intro j c o hj hc ha
        match j, hj, hc with
        | 0, hj, hc =>
          cases hj; cases hc
          exact ⟨_, hb2, flat_ROx h2 hex⟩
        | j + 1, hj, _ => simp at hj
    | tup ln cp cs t s ex w =>
      obtain ⟨h2, h4, b, H2, ex', hb1, hex, hb2, h3⟩ := h3
      refine Sound.nestN (Hs' := H2) (g := g) (os := o1.map (absCO bs) ++ o2) (bs := bs) (nb := [.cells cs t s ex]) (κ := [b]) (al := args.map (absV bs 8)) hg hgf hgH g1 hlb hb r1 r2.symm (by rw [hlen]; exact h3) (Nat.le_of_ble_eq_true g2) rfl (by simp) ?_ ?_ ?_
      · intro c hc
        rw [List.mem_singleton] at hc
        subst hc
        exact ⟨by rw [hlen]; exact hb1, Hp.lt hb2⟩
      · refine .tuple rfl fun i x x' hx hx' => ?_
        match i, hx, hx' with
        | 0, hx, hx' => cases hx; cases hx'; exact rn_new
        | 1, hx, hx' => cases hx; cases hx'; exact .flat h4
        | k + 2, hx, _ => simp at hx
      · intro j c o hj hc ha
        match j, hj, hc with
        | 0, hj, hc =>
          cases hj; cases hc
          exact ⟨_, hb2, flat_ROx h2 hex⟩
        | j + 1, hj, _ => simp at hj
theorem TSound.x {P : Program} {G : Nat} {T : Tb} {f f' : FuncId} {k : Nat} {rd : RdB} {spec : XSpec} (hT : TSound P G T)
    (h : ∀ al os p v, spec al os = some (p, v) → p → (∀ o ∈ os.drop k, FlatO o) ∧ v.OkX P f al deads os (gl + os.length)) (hf : f' % 1000000 = f := by rfl) :
    TSound P G (Ex.ext T f' (xE k rd spec [] (heapL deads))) := hT.alt (x_ok deads_len deads_flat deads_mem h) hf
def slBlk (v : Value) : Nat :=
  match v with
  | .slice (some ⟨b, _, none⟩) _ _ => b
  | _ => 0
def isBlk (b : Nat) : Bool := !Nat.beq b 0
def rd0 : RdB := fun args _ => some ([], dedupB ((args.map slBlk).filter isBlk) [])
end Go.Ex
