/- Engine, part 17: a region whose order is left open ends as the text's order does (the induction). -/
import Derived.Test.YtdnogbdfiahcaaaGreatEngDraw3
noncomputable section
namespace Go.Ex
open Go.RowKit

theorem countP_lt {f g : Nat → Bool} {i : Nat} (hle : ∀ x, g x = true → f x = true) (hf : f i = true) (hg : g i = false) : ∀ (l : List Nat), i ∈ l → l.countP g < l.countP f
  | [], h => by cases h
  | x :: l, h => by
    have hmono : l.countP g ≤ l.countP f := List.countP_mono_left fun y _ hy => hle y hy
    rw [List.countP_cons, List.countP_cons]
    rcases List.mem_cons.1 h with rfl | h
    · rw [hf, hg]; simp; omega
    · have := countP_lt hle hf hg l h
      by_cases hx : g x = true
      · rw [hx, hle x hx]; simp; omega
      · rw [Bool.eq_false_iff.2 hx]; simp; split <;> omega

def un (n : Nat) (listed : Array Bool) : Nat := (List.range n).countP fun i => !listed.getD i false

section
variable {self : Task → Option Res} {P : Program} {G : Nat} {ops : Array Oper} {A : List Nat} {tmF : Nat → Array Value} {HF : Nat → CH} {vF : Nat → Value} {w0 : World} {d0 : List Deferred}

theorem un_set {listed : Array Bool} {i : Nat} (hs : listed.size = ops.size) (hi : i < ops.size) (hn : ¬ inD listed i) : un ops.size (listed.setIfInBounds i true) < un ops.size listed := by
  refine countP_lt (i := i) (fun x hx => ?_) ?_ ?_ _ (List.mem_range.2 hi)
  · by_cases h : i = x
    · subst h; simpa [inD] using hn
    · rw [getD_set_ne false h] at hx; exact hx
  · simpa [inD] using hn
  · have : inD (listed.setIfInBounds i true) i := (inD_set (by omega)).2 (.inl rfl)
    unfold inD at this
    rw [this]; rfl

theorem all_in {listed : Array Bool} (hO : Ordered P ops A) (hs : listed.size = ops.size) (hr : Region.ready .any ops listed = []) : ∀ i, i < ops.size → inD listed i := by
  intro i
  induction i using Nat.strongRecOn with
  | ind i ih =>
    intro hi
    apply Decidable.byContradiction
    intro hn
    have : i ∈ Region.ready .any ops listed := by
      rw [mem_ready]
      refine ⟨?_, ops[i], Array.getElem?_eq_getElem hi, fun e he hb => ?_⟩
      · unfold inD at hn
        have hi' : i < listed.size := by omega
        simp [hi'] at hn ⊢
        exact hn
      · have := hO.back i _ (Array.getElem?_eq_getElem hi) e he hb
        exact ih e.on this (by omega)
    rw [hr] at this
    cases this

theorem sizes (hst : ∀ i o, ops[i]? = some o → Stp self P G ops tmF HF vF i o) : ∀ j, j ≤ ops.size → (tmF j).size = (tmF 0).size
  | 0, _ => rfl
  | j + 1, hj => by
    have hj' : j < ops.size := by omega
    rw [(hst j _ (Array.getElem?_eq_getElem hj')).tm, Ex.put_size, sizes hst j (by omega)]

theorem jv_end (hst : ∀ i o, ops[i]? = some o → Stp self P G ops tmF HF vF i o) {E : Env} {listed : Array Bool} {a : Act} {w : World} (J : Jv P G ops A tmF HF vF w0 d0 E listed a w)
    (hall : ∀ i, i < ops.size → inD listed i) : WR w0 G E (HF ops.size) w ∧ VRs E (tmF ops.size) a.tmps := by
  constructor
  · obtain ⟨p, h1, h2, h3, h4⟩ := J.heap
    rcases h2 with rfl | ⟨o, ho, hk⟩
    · exact h4
    · have hp := (Array.getElem?_eq_some_iff.1 ho).1
      have := (h3 p o ho hk).1 (hall p hp)
      omega
  · have hsz := sizes hst ops.size (Nat.le_refl _)
    refine ⟨by rw [hsz, J.tsz], fun t x x' hx hx' => ?_⟩
    have ht : t < (tmF 0).size := by rw [← hsz]; exact (Array.getElem?_eq_some_iff.1 hx).1
    rcases (tm_at hst t ht ops.size (Nat.le_refl _)).2 with ⟨k, ok, h1, h2, h3, h4⟩ | ⟨h1, h2⟩
    · obtain ⟨y, hy, hr⟩ := J.done k ok t (hall k h1) h2 h3 ht
      rw [h4] at hx; cases hx
      rw [hy] at hx'; cases hx'
      exact hr
    · rw [h2] at hx
      obtain ⟨y, hy, hr⟩ := J.still t x hx fun k ok hk hok => h1 k ok (Array.getElem?_eq_some_iff.1 hok).1 hok
      rw [hy] at hx'; cases hx'
      exact hr

theorem jv_step (hO : Ordered P ops A) {E : Env} {listed : Array Bool} {a : Act} {w : World} (J : Jv P G ops A tmF HF vF w0 d0 E listed a w) {i : Nat} {o : Oper} (ho : ops[i]? = some o) (hni : ¬ inD listed i) (hanc : ∀ j, anB A i j = true → inD listed j)
    {F : Env} {v' : Value} {w' : World} (hv : VR (E ++ F) (vF i) v')
    (hh : ∃ p, p ≤ ops.size ∧ (p = ops.size ∨ ∃ o, ops[p]? = some o ∧ kindOf P o.op = 2) ∧ (∀ k o, ops[k]? = some o → kindOf P o.op = 2 → (k = i ∨ inD listed k ↔ k < p)) ∧ WR w0 G (E ++ F) (HF p) w') :
    Jv P G ops A tmF HF vF w0 d0 (E ++ F) (listed.setIfInBounds i true) (a.put o.dst v') w' := by
  have hlt : i < listed.size := by rw [J.size]; exact (Array.getElem?_eq_some_iff.1 ho).1
  refine ⟨by simp [J.size], ?_, by rw [Act.put_size, J.tsz], ?_, ?_, ?_, by rw [Act.put_dfr, J.dfr]⟩
  · intro x j hx hj
    rw [inD_set hlt] at hx ⊢
    rcases hx with rfl | hx
    · exact .inr (hanc j hj)
    · exact .inr (J.clos x j hx hj)
  · intro k ok d hk hok hd hdl
    rw [inD_set hlt] at hk
    rw [Act.put_get]
    by_cases hki : k = i
    · subst hki
      rw [ho] at hok; cases hok
      exact ⟨v', by rw [if_pos ⟨hd, by rw [J.tsz]; exact hdl⟩], hv⟩
    · rw [if_neg (fun x => hO.one i k o ok d ho hok hki hd x.1)]
      obtain ⟨x', h1, h2⟩ := J.done k ok d (hk.resolve_left hki) hok hd hdl
      exact ⟨x', h1, h2.mono F⟩
  · intro t x hx hnot
    rw [Act.put_get, if_neg (fun y => hnot i o ((inD_set hlt).2 (.inl rfl)) ho y.1)]
    obtain ⟨x', h1, h2⟩ := J.still t x hx fun k ok hk hok => hnot k ok ((inD_set hlt).2 (.inr hk)) hok
    exact ⟨x', h1, h2.mono F⟩
  · obtain ⟨p, h1, h2, h3, h4⟩ := hh
    exact ⟨p, h1, h2, fun k ok hok hk => by rw [inD_set hlt]; exact h3 k ok hok hk, h4⟩

theorem draw_any (hself : SelfSound P G self) (hO : Ordered P ops A) (hst : ∀ i o, ops[i]? = some o → Stp self P G ops tmF HF vF i o)
    (hre : ∀ i o, ops[i]? = some o → kindOf P o.op = 1 → Region.wanted o (yielded ops (tmF i)) = true → ∀ p, p ∈ alts P ops A i → ∃ H', opX self P G (tmF i) (HF p) o = some (vF i, H'))
    {E0 : Env} (ro' : Option Nat) (n : Nat) {Q : Exit → Act → World → Prop}
    (hq : ∀ F a' w', WR w0 G (E0 ++ F) (HF ops.size) w' → VRs (E0 ++ F) (tmF ops.size) a'.tmps → a'.defers = d0 → Q .normal a' w') :
    ∀ (fuel : Nat) (listed : Array Bool) (E : Env) (a : Act) (w : World), (∃ F, E = E0 ++ F) → Jv P G ops A tmF HF vF w0 d0 E listed a w → un ops.size listed ≤ fuel → wpAnyIn (FW ro') n P .any ops Q fuel listed a w := by
  have hend : ∀ (listed : Array Bool) (E : Env) (a : Act) (w : World), (∃ F, E = E0 ++ F) → Jv P G ops A tmF HF vF w0 d0 E listed a w → Region.ready .any ops listed = [] → Q .normal a w := by
    intro listed E a w hF J hr
    obtain ⟨F, rfl⟩ := hF
    obtain ⟨h1, h2⟩ := jv_end hst J (all_in hO J.size hr)
    exact hq F a w h1 h2 J.dfr
  intro fuel
  induction fuel with
  | zero =>
    intro listed E a w hF J hu
    have hr : Region.ready .any ops listed = [] := by
      apply List.eq_nil_iff_forall_not_mem.2
      intro i hi
      rw [mem_ready] at hi
      obtain ⟨h0, o, ho, _⟩ := hi
      have := un_set J.size (Array.getElem?_eq_some_iff.1 ho).1 (not_inD h0)
      omega
    exact ⟨hr, hend listed E a w hF J hr⟩
  | succ fuel ih =>
    intro listed E a w hF J hu
    refine ⟨hend listed E a w hF J, fun i hi => ?_⟩
    obtain ⟨h0, o, ho, hedges⟩ := mem_ready.1 hi
    have hlt : i < ops.size := (Array.getElem?_eq_some_iff.1 ho).1
    have hni := not_inD h0
    have hanc : ∀ j, anB A i j = true → inD listed j := by
      intro j hj
      obtain ⟨e, he, hb, h | h⟩ := hO.anc i o j ho hj
      · subst h; exact hedges e he hb
      · exact J.clos e.on j (hedges e he hb) h
    have hun : un ops.size (listed.setIfInBounds i true) ≤ fuel := by
      have := un_set J.size hlt hni
      omega
    have hs := hst i o ho
    -- the heap before and behind
    obtain ⟨p, hp1, hp2, hp3, hw⟩ := J.heap
    have key : ∃ H1, (Region.wanted o (yielded ops (tmF i)) = true → opX self P G (tmF i) (HF p) o = some (vF i, H1)) ∧ (Region.wanted o (yielded ops (tmF i)) = false → H1 = HF p) ∧
        ∃ p', p' ≤ ops.size ∧ (p' = ops.size ∨ ∃ o, ops[p']? = some o ∧ kindOf P o.op = 2) ∧ (∀ k o, ops[k]? = some o → kindOf P o.op = 2 → (k = i ∨ inD listed k ↔ k < p')) ∧ H1 = HF p' := by
      by_cases hk : kindOf P o.op = 2
      · have hpi : p = i := by
          have h1 : ¬ i < p := fun h => hni ((hp3 i o ho hk).2 h)
          apply Decidable.byContradiction
          intro hne
          have hlt' : p < i := by omega
          rcases hp2 with rfl | ⟨op, hop, hkp⟩
          · omega
          · have := (hp3 p op hop hkp).1 (hanc p (hO.effs i p o op ho hop hlt' hk hkp))
            omega
        subst hpi
        obtain ⟨p', h1, h2, h3, h4⟩ := next_eff P ops _ (p + 1) rfl (by omega)
        have hH : HF p' = HF (p + 1) := by
          have := heap_const hst (p + 1) (p' - (p + 1)) (by omega) (fun k ok a1 a2 a3 => h4 k ok a1 (by omega) a3)
          rwa [show p + 1 + (p' - (p + 1)) = p' from by omega] at this
        refine ⟨HF p', ?_, ?_, p', h2, h3, ?_, rfl⟩
        · intro hwant
          rcases hs.run with ⟨_, hr⟩ | ⟨hr, _⟩
          · rw [hH]; exact hr
          · rw [hwant] at hr; cases hr
        · intro hwant
          rcases hs.run with ⟨hr, _⟩ | ⟨_, _, hr⟩
          · rw [hwant] at hr; cases hr
          · rw [hH, hr]
        · intro k ok hok hkk
          rw [hp3 k ok hok hkk]
          constructor
          · intro h; omega
          · intro h
            apply Decidable.byContradiction
            intro hne
            exact h4 k ok (by omega) h hok hkk
      · refine ⟨HF p, ?_, fun _ => rfl, p, hp1, hp2, ?_, rfl⟩
        · intro hwant
          have h01 : kindOf P o.op = 0 ∨ kindOf P o.op = 1 := by
            have : kindOf P o.op ≤ 2 := kind_le P o.op
            omega
          have hrun : opX self P G (tmF i) (HF i) o = some (vF i, HF (i + 1)) := by
            rcases hs.run with ⟨_, hr⟩ | ⟨hr, _⟩
            · exact hr
            · rw [hwant] at hr; cases hr
          rcases h01 with hk0 | hk1
          · obtain ⟨r, hr⟩ := kind_pure (self := self) (P := P) (G := G) (tm := tmF i) hk0
            rw [hr] at hrun
            obtain ⟨z, hz, hz2⟩ := map_some' hrun
            rw [hr, hz, ← (Prod.mk.inj hz2).1]; rfl
          · have halt : p ∈ alts P ops A i := by
              unfold alts
              rw [List.mem_filter]
              refine ⟨?_, ?_⟩
              · rcases hp2 with h | ⟨op, hop, hkp⟩
                · rw [h]; simp
                · refine List.mem_append_left _ ?_
                  unfold effIdx
                  rw [List.mem_filter]
                  exact ⟨List.mem_range.2 (Array.getElem?_eq_some_iff.1 hop).1, by rw [hop]; simpa using hkp⟩
              · rw [Bool.and_eq_true]
                constructor
                · rw [Bool.not_eq_true']
                  apply Bool.eq_false_iff.2
                  intro hb
                  have hD := hanc p hb
                  rcases hp2 with h | ⟨op, hop, hkp⟩
                  · have := inD_lt hD; rw [J.size] at this; omega
                  · have := (hp3 p op hop hkp).1 hD; omega
                · rw [List.all_eq_true]
                  intro k hk'
                  unfold effIdx at hk'
                  rw [List.mem_filter] at hk'
                  obtain ⟨hkr, hkk⟩ := hk'
                  have hkl := List.mem_range.1 hkr
                  rw [Array.getElem?_eq_getElem hkl] at hkk
                  rw [Bool.or_eq_true]
                  by_cases hkp : k < p
                  · right
                    rw [Bool.not_eq_true']
                    apply Bool.eq_false_iff.2
                    intro hb
                    exact hni (J.clos k i ((hp3 k _ (Array.getElem?_eq_getElem hkl) (by simpa using hkk)).2 hkp) hb)
                  · left; simp [hkp]
            obtain ⟨H', hH⟩ := hre i o ho hk1 hwant p halt
            rw [hH, kind_read hk1 hH]
        · intro k ok hok hkk
          rw [← hp3 k ok hok hkk]
          constructor
          · rintro (h | h)
            · subst h; rw [ho] at hok; cases hok; exact absurd hkk hk
            · exact h
          · exact .inr
    obtain ⟨H1, hrun, hskip, p', hq1, hq2, hq3, hq4⟩ := key
    have next : ∀ (F : Env) (v' : Value) (w' : World), WR w0 G (E ++ F) H1 w' → VR (E ++ F) (vF i) v' → wpAnyIn (FW ro') n P .any ops Q fuel (listed.setIfInBounds i true) (a.put o.dst v') w' := by
      intro F v' w' h1 h2
      refine ih _ (E ++ F) _ _ ?_ (jv_step hO J ho hni hanc h2 ⟨p', hq1, hq2, hq3, hq4 ▸ h1⟩) hun
      obtain ⟨F0, rfl⟩ := hF
      exact ⟨F0 ++ F, by simp⟩
    unfold wpOpIn
    rw [ho]
    dsimp only
    rw [agree_wanted hO hst J ho hni hanc]
    split
    · rename_i hwant
      exact opX_soundρ hself (hrun hwant) ro' n hw (fun x hx hok => agree_ev hO hst J hw ho hni hanc hx hok) next
    · rename_i hwant
      refine ⟨fun _ _ => trivial, ?_⟩
      have hv : vF i = undef := by
        rcases hs.run with ⟨hr, _⟩ | ⟨_, hr, _⟩
        · exact absurd hr hwant
        · exact hr
      exact next [] undef w (by rw [hskip (by simpa using hwant)]; simpa using hw) (by rw [hv]; exact .undef _)
end

theorem drawX_sound {self : Task → Option Res} {P : Program} {G : Nat} (hself : SelfSound P G self) : DrawSound P G (drawX self P G) := by
  intro ops tm tm' H H' h w0 E a w ro' n id Q hw ht hq
  unfold drawX at h
  split at h
  case isFalse => cases h
  rename_i hm
  rw [Bool.and_eq_true] at hm
  split at h
  case h_2 => cases h
  rename_i tr tm1 H1 hrun
  split at h
  case isFalse => cases h
  rename_i hre
  cases h
  have hO := ordOk_spec hm.2
  obtain ⟨tmF, HF, vF, e1, e2, e3, e4, e5, e6⟩ := textRun_spec _ _ _ _ _ _ hrun
  rw [Array.length_toList] at e3 e4
  have hst : ∀ i o, ops[i]? = some o → tr[i]? = some (tmF i, HF i, vF i) ∧ Stp self P G ops tmF HF vF i o := fun i o ho => e6 i o (by simpa using ho)
  have hat : ∀ p, p ≤ ops.size → heapAt tr H' p = HF p := by
    intro p hp
    unfold heapAt
    rcases Nat.lt_or_ge p ops.size with hl | hl
    · rw [(hst p _ (Array.getElem?_eq_getElem hl)).1]
    · have : p = ops.size := by omega
      subst this
      rw [List.getElem?_eq_none (by have := e5; simp at this; omega), e4]
  refine wpIn_region_any hm.1 ?_
  refine draw_any (A := ancs ops) (tmF := tmF) (HF := HF) (vF := vF) (d0 := a.defers) (w0 := w0) (E0 := E) hself hO (fun i o ho => (hst i o ho).2) ?_ ro' n ?_ _ _ E a _ ⟨[], by simp⟩ ?_ ?_
  · intro i o ho hk hwant p hp
    have hlt : i < ops.size := (Array.getElem?_eq_some_iff.1 ho).1
    have hr := List.all_eq_true.1 hre i (List.mem_range.2 hlt)
    rw [ho, (hst i o ho).1] at hr
    dsimp only at hr
    rw [hk, hwant] at hr
    have hr2 : ((alts P ops (ancs ops) i).all fun p => sameAs (opX self P G (tmF i) (heapAt tr H' p) o) (vF i)) = true := by simpa using hr
    have hr3 := List.all_eq_true.1 hr2 p hp
    have hple : p ≤ ops.size := by
      unfold alts at hp
      rw [List.mem_filter] at hp
      rcases List.mem_append.1 hp.1 with h | h
      · unfold effIdx at h
        rw [List.mem_filter] at h
        exact Nat.le_of_lt (List.mem_range.1 h.1)
      · simp at h; omega
    rw [hat p hple] at hr3
    unfold sameAs at hr3
    split at hr3
    · rename_i v' H2 hop
      rw [eqV_sound 6 _ _ hr3] at hop
      exact ⟨H2, hop⟩
    · cases hr3
  · intro F a' w' h1 h2 h3
    rw [e4] at h1
    rw [e3] at h2
    exact hq F a' w' h1 h2 h3
  · have hno : ∀ i, ¬ inD (Array.replicate ops.size false) i := by
      intro i hi
      unfold inD at hi
      have := inD_lt (listed := Array.replicate ops.size false) hi
      simp at this
      simp [this] at hi
    obtain ⟨p, h1, h2, h3, h4⟩ := next_eff P ops _ 0 rfl (Nat.zero_le _)
    refine ⟨by simp, fun i j hi => absurd hi (hno i), by rw [e1]; exact ht.size.symm, fun k o d hk => absurd hk (hno k), ?_, ⟨p, h2, h3, ?_, ?_⟩, rfl⟩
    · intro t x hx _
      rw [e1] at hx
      exact ht.get hx
    · intro k o hok hk
      constructor
      · intro hd; exact absurd hd (hno k)
      · intro hkp; exact absurd hk (h4 k o (Nat.zero_le _) hkp hok)
    · have : HF p = HF 0 := by
        have := heap_const (fun i o ho => (hst i o ho).2) 0 p (by omega) (fun k ok a1 a2 a3 => h4 k ok a1 (by omega) a3)
        rwa [Nat.zero_add] at this
      rw [this, e2]
      exact hw.draws _
  · unfold un
    have : ((List.range ops.size).countP fun i => !(Array.replicate ops.size false).getD i false) ≤ (List.range ops.size).length := List.countP_le_length
    simpa using this
end Go.Ex
