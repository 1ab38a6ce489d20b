/- Part of the proof. -/
import Derived.Test.YteemponkignnhaaGreatEngOut
import Derived.OpenShut
noncomputable section
namespace Go.Ex
open Go.RowKit
noncomputable def Out.fix {α : Type} (o : Out α) : Out α := Out.rec (motive := fun _ => Out α) .fail .leaf (fun b _ _ t e => .br b t e) (fun l _ k => .same (l.map fun x => (x.1, x.1)) k) (fun a _ _ k => .code a a k) o
inductive VT where
  | fail
  | leaf (v : Value)
  | br (b : Bool) (t e : VT)
def valT (r : QRes) : VT :=
  match r with
  | .val v _ => .leaf v
  | .ex _ _ _ _ => .fail
noncomputable def Out.vals (o : Out QRes) : VT := Out.rec (motive := fun _ => VT) .fail valT (fun b _ _ t e => .br b t e) (fun _ _ k => k) (fun _ _ _ k => k) o
def VT.sel : VT → Option Value
  | .fail => none
  | .leaf v => some v
  | .br b t e => cond b t.sel e.sel
theorem same_of_fix {l : List (Option CO × Option CO)} (h : l = l.map fun x => (x.1, x.1)) : Same l := by
  intro x hx
  rw [h] at hx
  obtain ⟨y, _, rfl⟩ := List.mem_map.1 hx
  rfl
theorem Out.vals_sel {o : Out QRes} {v : Value} (hf : o = o.fix) (h : o.vals.sel = some v) : ∃ H, o.sel = some (.val v H) := by
  induction o with
  | fail => cases h
  | leaf r =>
    cases r with
    | val u H => cases h; exact ⟨H, rfl⟩
    | ex x tm H df => cases h
  | br b t e iht ihe =>
    injection hf with _ h1 h2
    have h' : cond b t.vals.sel e.vals.sel = some v := h
    cases b with
    | true => exact iht h1 h'
    | false => exact ihe h2 h'
  | same l k ih =>
    injection hf with h1 h2
    obtain ⟨H, hk⟩ := ih h2 h
    exact ⟨H, (ifSame_of (same_of_fix h1)).trans hk⟩
  | code a b k ih =>
    injection hf with _ h1 h2
    obtain ⟨H, hk⟩ := ih h2 h
    exact ⟨H, (ifCode_of h1.symm).trans hk⟩
def LaidAt' (W : World) (b : Nat) (o : CO) : Prop :=
  ∃ cs t s, o = .cells cs t s true ∧ cs.all (clean 6) = true ∧ ∃ fz : Nat × Nat, W.heap[b]? = some (.cells ⟨cs⟩ t fz)
theorem LaidAt.weak {W : World} {b : Nat} {o : CO} (h : LaidAt W b o) : LaidAt' W b o := by
  obtain ⟨cs, t, s, rfl, hc, hw⟩ := h
  exact ⟨cs, t, s, rfl, hc, (0, 0), hw⟩
def Laid (H0 : CH) (W : World) : Prop := ∀ (b : Nat) (o : CO), H0[b]? = some o → o.alive = true → LaidAt' W b o
def AllDead (H0 : CH) : Prop := ∀ (b : Nat) (o : CO), H0[b]? = some o → o.alive = false
theorem Laid.of_dead {H0 : CH} (h : AllDead H0) (W : World) : Laid H0 W := fun b o hb ha => by rw [h b o hb] at ha; cases ha
theorem Laid.below {H0 : CH} {W W' : World} (h : Laid H0 W) (hb : Below W.heap.size W W') : Laid H0 W' := by
  intro b o ho ha
  obtain ⟨cs, t, s, rfl, hc, fz, hw⟩ := h b o ho ha
  refine ⟨cs, t, s, rfl, hc, fz, ?_⟩
  rw [hb.block b (lt_of_heap hw)]; exact hw
theorem WR.start' {W : World} {G : Nat} {H : CH} (hgl : gl ≤ G) (hG : H.length = G) (hobj : Laid H W) : WR W G (startE G) H W := by
  refine ⟨by simp [startE, hG], by simp [startE], Below.refl _ _, ?_, ?_, ?_, hgl, fun b e _ he => (startE_get he).2⟩
  · intro b o e hb he
    obtain ⟨_, rfl⟩ := startE_get he
    by_cases ha : o.alive = true
    · obtain ⟨cs, t, s, rfl, hc, fz, hw⟩ := hobj b o hb ha
      have hbG : ¬ G ≤ b := by have := Hp.lt hb; omega
      refine .inr ⟨⟨cs⟩, fz, hw, fun hh => absurd hh hbG, fun hh => absurd hh hbG, fun i x hx => ⟨x, by simpa using hx, VR.of_clean _ 6 x ?_⟩, fun _ => ⟨rfl, rfl, rfl⟩⟩
      · exact List.all_eq_true.1 hc x (List.mem_of_getElem? hx)
    · cases o <;> first | exact trivial | (exact absurd rfl ha)
  · intro b b' o o' e e' _ _ _ he he' _ _ hblk
    obtain ⟨_, rfl⟩ := startE_get he
    obtain ⟨_, rfl⟩ := startE_get he'
    exact hblk
  · intro b o e _ he _ hGb
    have := (startE_get he).1
    omega
theorem VRs.of_clean {E : Env} {l : List Value} (h : l.all (clean 6) = true) : VRs E ⟨l⟩ ⟨l⟩ := by
  refine ⟨rfl, fun i x x' hx hx' => ?_⟩
  rw [hx] at hx'
  cases hx'
  exact VR.of_clean E 6 x (List.all_eq_true.1 h x (List.mem_of_getElem? (by simpa using hx)))
theorem VRs.eq_of_clean {E : Env} {l : List Value} {a : Array Value} (h : l.all (clean 6) = true) (hr : VRs E ⟨l⟩ a) : a = ⟨l⟩ :=
  eq_of_VRs hr.size fun i x x' hx hx' => (hr.at_ i x x' hx hx').eq_of_clean 6 (List.all_eq_true.1 h x (List.mem_of_getElem? (by simpa using hx)))
structure Pure (P : Program) (H0 : CH) (f : FuncId) (args : List Value) (v : Value) : Prop where
  cargs : args.all (clean 6) = true
  cval : clean 6 v = true
  calls : ∀ (w : World) (ro' : Option Nat) (n : Nat) (R : Ending → World → Prop), Laid H0 w → (∀ w', Below w.heap.size w w' → R (.returned v) w') → CallsIn (FW ro') n P f ⟨args⟩ w R
theorem Pure.of_sound {P : Program} {G : Nat} {H0 : CH} {f : FuncId} {args : List Value} {v : Value} {H' : CH} (hgl : gl ≤ G) (hG : H0.length = G) (hc : (args.all (clean 6) && clean 6 v) = true) (h : Sound P G (.call f ⟨args⟩ H0) (.val v H')) : Pure P H0 f args v := by
  rw [Bool.and_eq_true] at hc
  refine ⟨hc.1, hc.2, fun w ro' n R hl hR => ?_⟩
  refine h w (startE G) ⟨args⟩ w ro' n R (WR.start' hgl hG hl) (VRs.of_clean hc.1) fun F v' w' hw hv => ?_
  rw [hv.eq_of_clean 6 hc.2]
  exact hR w' hw.below
def reqs (gs : List Nat) (H0 H : CH) : List (Option CO × Option CO) := gs.map fun b => (H[b]?, H0[b]?)
structure Vars (H0 : CH) (gs : List Nat) : Prop where
  len : H0.length = gl
  mem : ∀ (b : Nat) (o : CO), H0[b]? = some o → o.alive = true → b ∈ gs
  cells : ∀ (b : Nat) (o : CO), H0[b]? = some o → o.alive = true → ∃ cs t s, o = .cells cs t s true ∧ cs.all (clean 6) = true
theorem Vars.of_dead {H0 : CH} (hG : H0.length = gl) (h : AllDead H0) : Vars H0 [] := ⟨hG, fun b o hb ha => (by rw [h b o hb] at ha; cases ha), fun b o hb ha => (by rw [h b o hb] at ha; cases ha)⟩
theorem laid_of_WR {H0 H : CH} {G : Nat} {gs : List Nat} (hV : Vars H0 gs) (hs : Same (reqs gs H0 H)) {w0 w : World} {E : Env} (hw : WR w0 G E H w) : Laid H0 w := by
  intro b o hb ha
  obtain ⟨cs, t, s, rfl, hc⟩ := hV.cells b o hb ha
  have hH : H[b]? = H0[b]? := hs (H[b]?, H0[b]?) (List.mem_map.2 ⟨b, hV.mem b _ hb ha, rfl⟩)
  rw [hb] at hH
  have hltg : b < gl := by rw [← hV.len]; exact Hp.lt hb
  have hlt : b < G := by have := hw.old.1; omega
  have hE : b < E.length := Nat.lt_of_lt_of_le hlt hw.glen
  have he : E[b]? = some E[b] := List.getElem?_eq_getElem hE
  have hold := hw.old.2 b _ hltg he
  have hobj := hw.obj b _ _ hH he
  rw [hold] at hobj
  obtain ⟨arr, fz, h1, h2, h3, h4, h5⟩ := hobj.there (.inr rfl)
  have hsz : arr.size = cs.length := (h5 rfl).2.2
  have harr : arr = ⟨cs⟩ := by
    refine eq_of_VRs (a := ⟨cs⟩) (by simp [hsz]) fun i x x' hx hx' => ?_
    obtain ⟨y, hy, hr⟩ := h4 i x (by simpa using hx)
    have hy' : arr[i]? = some y := by
      have : arr[0 + i]? = some y := hy
      rwa [Nat.zero_add] at this
    rw [hy'] at hx'
    cases hx'
    exact hr.eq_of_clean 6 (List.all_eq_true.1 hc x (List.mem_of_getElem? (by simpa using hx)))
  exact ⟨cs, t, s, rfl, hc, fz, by rw [← harr]; exact h1⟩
theorem WR.later {w0 : World} {G : Nat} {E : Env} {H : CH} {w w' : World} (h : WR w0 G E H w) (hb : Below w.heap.size w w') : WR w0 G E H w' := by
  refine ⟨h.len, h.glen, h.below.trans (hb.mono h.below.size), ?_, h.inj, ?_, h.old⟩
  · intro b o e x y
    exact ORg.keep (fun k hk => hb.block k hk) (h.obj b o e x y)
  · intro b o e x y ha hG
    have := h.new b o e x y ha hG
    have := hb.size
    omega
theorem Pure.sound {P : Program} {G : Nat} {H0 H : CH} {f : FuncId} {args : List Value} {v : Value} {gs : List Nat} (h : Pure P H0 f args v) (hV : Vars H0 gs) (hs : Same (reqs gs H0 H)) : Sound P G (.call f ⟨args⟩ H) (.val v H) := by
  intro w0 E args' w ro' n R hw ha hR
  rw [VRs.eq_of_clean h.cargs ha]
  refine h.calls w ro' n R (laid_of_WR hV hs hw) fun w' hb => ?_
  refine hR [] v w' ?_ (VR.of_clean _ 6 v h.cval)
  rw [List.append_nil]
  exact hw.later hb
abbrev Ent := List Value → CH → Option (Option Bool × Value × CH × List (Option CO × Option CO))
abbrev Tb := FuncId → Ent
def noT : Tb := fun _ _ _ => none
def ext (T : Tb) (g : FuncId) (e : Ent) : Tb := fun f args H => cond (Nat.beq f g) (e args H) (T f args H)
def noL : Nat → Nat → TM → CH → List Nat → Option (Code × Out QRes) := fun _ _ _ _ _ => none
theorem LSound.none {P : Program} {G : Nat} : LSound P G noL := fun _ _ _ _ _ _ _ _ _ h => by cases h
theorem TSound.none {P : Program} {G : Nat} : TSound P G noT := fun _ _ _ _ _ _ _ h => by cases h
theorem TSound.alt {P : Program} {G : Nat} {T : Tb} {g g' : FuncId} {e : Ent} (h : TSound P G T) (he : ∀ args H c v H' l, e args H = some (c, v, H', l) → c.getD true = true → Same l → Sound P G (.call g ⟨args⟩ H) (.val v H')) (hg : g' % 1000000 = g := by rfl) : TSound P G (ext T g' e) := by
  intro f args H c v H' l hf hc hs
  unfold Ex.ext at hf
  cases hb : Nat.beq f g' with
  | true =>
    rw [hb] at hf
    have : f = g' := Nat.eq_of_beq_eq_true hb
    subst this
    rw [hg]
    exact he args H c v H' l hf hc hs
  | false =>
    rw [hb] at hf
    exact h f args H c v H' l hf hc hs
theorem TSound.ext {P : Program} {G : Nat} {T : Tb} {g : FuncId} {e : Ent} (h : TSound P G T) (he : ∀ args H c v H' l, e args H = some (c, v, H', l) → c.getD true = true → Same l → Sound P G (.call g ⟨args⟩ H) (.val v H')) (hg : g % 1000000 = g := by rfl) : TSound P G (Ex.ext T g e) := h.alt he hg
def pureE' (gs : List Nat) (H0 H : CH) (r : Option Value) : Option (Option Bool × Value × CH × List (Option CO × Option CO)) :=
  match r with
  | some v => some (none, v, H, reqs gs H0 H)
  | none => none
def pureE (spec : List Value → Option Value) (gs : List Nat) (H0 : CH) : Ent := fun args H => pureE' gs H0 H (spec args)
theorem TSound.pure {P : Program} {G : Nat} {T : Tb} {g : FuncId} {spec : List Value → Option Value} {gs : List Nat} {H0 : CH} (hV : Vars H0 gs) (h : TSound P G T) (he : ∀ args v, spec args = some v → Pure P H0 g args v) (hg : g % 1000000 = g := by rfl) :
    TSound P G (Ex.ext T g (pureE spec gs H0)) := by
  refine h.ext (hg := hg) fun args H c v H' l hx _ hs => ?_
  unfold pureE pureE' at hx
  split at hx
  · rename_i u hu
    cases hx
    exact (he args _ hu).sound hV hs
  · cases hx
theorem pure_run {P : Program} {G : Nat} {C : Cfg} {H0 : CH} {f : FuncId} {args : List Value} {v : Value} (n : Nat) (t : VT) (hT : TSound P G C.T) (hL : LSound P G C.L) (hgl : gl ≤ G) (hG : H0.length = G) (hc : (args.all (clean 6) && clean 6 v) = true)
    (h1 : execO P G C n (.call f ⟨args⟩ H0) = (execO P G C n (.call f ⟨args⟩ H0)).fix) (h2 : (execO P G C n (.call f ⟨args⟩ H0)).vals = t) (h3 : t.sel = some v) : Pure P H0 f args v := by
  obtain ⟨H', hs⟩ := Out.vals_sel h1 (by rw [h2]; exact h3)
  exact Pure.of_sound hgl hG hc (execO_sound hT hL n _ _ hs)
end Go.Ex
/- Engine, part 30: a listed variable lies as its datum says: what is read tells the cells. -/
noncomputable section
namespace Go.Ex
open Go.RowKit
end Go.Ex
/- Engine, part 31: loops. Between two rounds the state is told anew: other numbers for the blocks, and what nobody reads any more is unknown. -/
noncomputable section
namespace Go.Ex
open Go.RowKit
def wild : Value := .chan (some 0)
inductive RN (ρ : List Nat) : Value → Value → Prop
  | flat {v : Value} (h : flat v = true) : RN ρ v v
  | wild {v : Value} : RN ρ wild v
  | ptr {b c off : Nat} (h : ρ[b]? = some c) : RN ρ (.pointer (some ⟨b, off, none⟩)) (.pointer (some ⟨c, off, none⟩))
  | slice {b c off len cap : Nat} (h : ρ[b]? = some c) : RN ρ (.slice (some ⟨b, off, none⟩) len cap) (.slice (some ⟨c, off, none⟩) len cap)
  | map {b c : Nat} (h : ρ[b]? = some c) : RN ρ (.map (some b)) (.map (some c))
  | func {f : FuncId} {a a' c c' : Array Value} (ha : a.size = a'.size) (hc : c.size = c'.size) (h1 : ∀ (i : Nat) (x x' : Value), a[i]? = some x → a'[i]? = some x' → RN ρ x x')
      (h2 : ∀ (i : Nat) (x x' : Value), c[i]? = some x → c'[i]? = some x' → RN ρ x x') : RN ρ (.func (.func f) a c) (.func (.func f) a' c')
  | yield {l c : Nat} (h : ρ[l]? = some c) : RN ρ (.func (.yield l) ⟨[]⟩ ⟨[]⟩) (.func (.yield c) ⟨[]⟩ ⟨[]⟩)
  | iface {t : TypeId} {v v' : Value} (h : RN ρ v v') : RN ρ (.iface t v) (.iface t v')
  | agg {a a' : Array Value} (hs : a.size = a'.size) (h : ∀ (i : Nat) (x x' : Value), a[i]? = some x → a'[i]? = some x' → RN ρ x x') : RN ρ (.agg a) (.agg a')
  | tuple {a a' : Array Value} (hs : a.size = a'.size) (h : ∀ (i : Nat) (x x' : Value), a[i]? = some x → a'[i]? = some x' → RN ρ x x') : RN ρ (.tuple a) (.tuple a')
def renE (ρ : List Nat) (E : Env) : Env := ρ.map fun b => E.getD b ⟨0, 0, 0⟩
theorem renE_get {ρ : List Nat} {E : Env} {b c : Nat} {e : En} (h : ρ[b]? = some c) (he : E[c]? = some e) : (renE ρ E)[b]? = some e := by
  unfold renE
  rw [List.getElem?_map, h]
  simp [List.getD, he]
theorem renE_inv {ρ : List Nat} {E : Env} {b : Nat} {e : En} (hlt : ∀ c ∈ ρ, c < E.length) (h : (renE ρ E)[b]? = some e) : ∃ c, ρ[b]? = some c ∧ E[c]? = some e := by
  unfold renE at h
  rw [List.getElem?_map] at h
  cases hc : ρ[b]? with
  | none => rw [hc] at h; cases h
  | some c =>
    rw [hc] at h
    refine ⟨c, rfl, ?_⟩
    have hl := hlt c (List.mem_of_getElem? hc)
    simp [List.getD, List.getElem?_eq_getElem hl] at h
    rw [List.getElem?_eq_getElem hl, h]
theorem arr_mid {a b : Array Value} (h1 : a.size = b.size) {i : Nat} {x : Value} (hx : a[i]? = some x) : ∃ y, b[i]? = some y := by
  have : i < b.size := by rw [← h1]; exact (Array.getElem?_eq_some_iff.1 hx).1
  exact ⟨b[i], Array.getElem?_eq_getElem this⟩
theorem RN.vr' {ρ : List Nat} {E E1 : Env} (hE : ∀ (b c : Nat) (e : En), ρ[b]? = some c → E[c]? = some e → E1[b]? = some e) {u v : Value} (h : RN ρ u v) : ∀ {x : Value}, VR E v x → VR E1 u x := by
  induction h with
  | flat hf =>
    intro x hx
    have : x = _ := hx.eq_of_clean 1 (by
      rename_i v
      cases v <;> first
        | rfl
        | exact hf
        | (rename_i vs; have : vs = #[] := by simpa [Ex.flat] using hf
           subst this; rfl)
        | (rename_i fn a c; cases fn <;> first | exact hf | cases hf)
        | cases hf)
    rw [this]
    exact .flat hf
  | wild => intro x _; exact .wild
  | ptr h =>
    intro x hx
    cases hx with
    | flat hf => cases hf
    | ptr he => exact .ptr (hE _ _ _ h he)
  | slice h =>
    intro x hx
    cases hx with
    | flat hf => cases hf
    | slice he ho => exact .slice (hE _ _ _ h he) ho
    | nils he hs => exact .nils (hE _ _ _ h he) hs
  | map h =>
    intro x hx
    cases hx with
    | flat hf => cases hf
    | map he => exact .map (hE _ _ _ h he)
  | yield h =>
    intro x hx
    cases hx with
    | flat hf => cases hf
    | yield he => exact .yield (hE _ _ _ h he)
  | @func f a a' c c' ha hc h1 h2 i1 i2 =>
    intro x hx
    cases hx with
    | flat hf =>
      have hf' : (a'.isEmpty && c'.isEmpty) = true := hf
      rw [Bool.and_eq_true] at hf'
      have ea : a' = #[] := by simpa using hf'.1
      have ec : c' = #[] := by simpa using hf'.2
      subst ea; subst ec
      have : a = #[] := Array.eq_empty_of_size_eq_zero (by simpa using ha)
      subst this
      have : c = #[] := Array.eq_empty_of_size_eq_zero (by simpa using hc)
      subst this
      exact .flat rfl
    | func ka kc k1 k2 =>
      refine .func (ha.trans ka) (hc.trans kc) (fun i p q hp hq => ?_) (fun i p q hp hq => ?_)
      · obtain ⟨r, hr⟩ := arr_mid ha hp
        exact i1 i p r hp hr (k1 i r q hr hq)
      · obtain ⟨r, hr⟩ := arr_mid hc hp
        exact i2 i p r hp hr (k2 i r q hr hq)
  | iface h ih =>
    intro x hx
    cases hx with
    | flat hf => cases hf
    | iface hv => exact .iface (ih hv)
  | @agg a a' hs h ih =>
    intro x hx
    cases hx with
    | flat hf =>
      have ea : a' = #[] := by simpa [Ex.flat] using hf
      subst ea
      have : a = #[] := Array.eq_empty_of_size_eq_zero (by simpa using hs)
      subst this
      exact .flat rfl
    | agg ks k =>
      refine .agg (hs.trans ks) (fun i p q hp hq => ?_)
      obtain ⟨r, hr⟩ := arr_mid hs hp
      exact ih i p r hp hr (k i r q hr hq)
  | @tuple a a' hs h ih =>
    intro x hx
    cases hx with
    | flat hf =>
      have ea : a' = #[] := by simpa [Ex.flat] using hf
      subst ea
      have : a = #[] := Array.eq_empty_of_size_eq_zero (by simpa using hs)
      subst this
      exact .flat rfl
    | tuple ks k =>
      refine .tuple (hs.trans ks) (fun i p q hp hq => ?_)
      obtain ⟨r, hr⟩ := arr_mid hs hp
      exact ih i p r hp hr (k i r q hr hq)
theorem RN.vr {ρ : List Nat} {E : Env} {u v : Value} (h : RN ρ u v) {x : Value} (hx : VR E v x) : VR (renE ρ E) u x := h.vr' (fun _ _ _ h he => renE_get h he) hx
inductive RO (ρ : List Nat) : CO → CO → Prop
  | dead {o : CO} : RO ρ .dead o
  | cells {cs cs' : List Value} {t s : Nat} {ex ex' : Bool} (hex : ex = true → ex' = true) (hl : cs.length = cs'.length) (h : ∀ (i : Nat) (x x' : Value), cs[i]? = some x → cs'[i]? = some x' → RN ρ x x') : RO ρ (.cells cs t s ex) (.cells cs' t s ex')
  | dfr {b : Bool} : RO ρ (.dfr b) (.dfr b)
  | iter {s : ByteArray} {p : Nat} : RO ρ (.iter s p) (.iter s p)
  | map {es : List MapEntry} {c : Nat} (h : ∀ m ∈ es, flat m.val = true) : RO ρ (.map es c) (.map es c)
  | loop {l : Loop} {tmps' : Array Value} {d' : Nat} (hs : l.tmps.size = tmps'.size) (h : ∀ (i : Nat) (x x' : Value), l.tmps[i]? = some x → tmps'[i]? = some x' → RN ρ x x') (hd : ρ[l.defers]? = some d') :
      RO ρ (.loop l) (.loop { l with tmps := tmps', defers := d' })
theorem RO.alive {ρ : List Nat} {o o' : CO} (h : RO ρ o o') (ha : o.alive = true) : o'.alive = true := by
  cases h <;> first | rfl | cases ha
theorem RO.or' {ρ : List Nat} {E E1 : Env} (hE : ∀ (b c : Nat) (e : En), ρ[b]? = some c → E[c]? = some e → E1[b]? = some e) {e : En} {w : World} {o o' : CO} (h : RO ρ o o') (hw : OR E e w o') : OR E1 e w o := by
  cases h with
  | dead => exact trivial
  | cells hex hl h =>
    obtain ⟨arr, fz, h1, h2, h3, h4, h5⟩ := hw
    refine ⟨arr, fz, h1, h2, by rw [hl]; exact h3, fun i x hx => ?_, fun hh => h5 (hex hh)⟩
    have hi := (List.getElem?_eq_some_iff.1 hx).1
    rw [hl] at hi
    obtain ⟨y, hy, hr⟩ := h4 i _ (List.getElem?_eq_getElem hi)
    exact ⟨y, hy, (h i x _ hx (List.getElem?_eq_getElem hi)).vr' hE hr⟩
  | dfr => exact hw
  | iter => exact hw
  | map h =>
    obtain ⟨es', h1, h2, h3⟩ := hw
    refine ⟨es', h1, h2, fun i m hm => ?_⟩
    obtain ⟨m', g1, g2⟩ := h3 i m hm
    exact ⟨m', g1, ⟨g2.key, (RN.flat (h m (List.mem_of_getElem? hm))).vr' hE g2.val, g2.born⟩⟩
  | loop hs h hd =>
    obtain ⟨tmps, d, fn, h1, h2, h3⟩ := hw
    refine ⟨tmps, d, fn, h1, ⟨hs.trans h2.1, fun i x x2 hx hx2 => ?_⟩, hE _ _ _ hd h3⟩
    obtain ⟨y, hy⟩ := arr_mid hs hx
    exact (h i x y hx hy).vr' hE (h2.2 i y x2 hy hx2)
theorem RO.org' {p q : Prop} {ρ : List Nat} {E E1 : Env} (hE : ∀ (b c : Nat) (e : En), ρ[b]? = some c → E[c]? = some e → E1[b]? = some e) {e : En} {w : World} {o o' : CO} (h : RO ρ o o') (hq : q → p) (hw : ORg p E e w o') : ORg q E1 e w o := by
  cases h with
  | dead => exact trivial
  | cells hex hl h =>
    rcases hw with ⟨h1, h2, hn, h4⟩ | ⟨arr, fz, h1, h2, h3, h4, h5⟩
    · subst h1
      exact .inl ⟨List.eq_nil_of_length_eq_zero hl, Bool.eq_false_iff.2 (fun hx => by rw [hex hx] at h2; cases h2), fun x => hn (hq x), h4⟩
    refine .inr ⟨arr, fz, h1, fun x => h2 (hq x), fun x => by rw [hl]; exact h3 (hq x), fun i x hx => ?_, fun hh => by rw [hl]; exact h5 (hex hh)⟩
    have hi := (List.getElem?_eq_some_iff.1 hx).1
    rw [hl] at hi
    obtain ⟨y, hy, hr⟩ := h4 i _ (List.getElem?_eq_getElem hi)
    exact ⟨y, hy, (h i x _ hx (List.getElem?_eq_getElem hi)).vr' hE hr⟩
  | dfr => exact hw
  | iter => exact hw
  | map h =>
    obtain ⟨es', h1, h2, h3⟩ := hw
    refine ⟨es', h1, h2, fun i m hm => ?_⟩
    obtain ⟨m', g1, g2⟩ := h3 i m hm
    exact ⟨m', g1, ⟨g2.key, (RN.flat (h m (List.mem_of_getElem? hm))).vr' hE g2.val, g2.born⟩⟩
  | loop hs h hd =>
    obtain ⟨tmps, d, fn, h1, h2, h3⟩ := hw
    refine ⟨tmps, d, fn, h1, ⟨hs.trans h2.1, fun i x x2 hx hx2 => ?_⟩, hE _ _ _ hd h3⟩
    obtain ⟨y, hy⟩ := arr_mid hs hx
    exact (h i x y hx hy).vr' hE (h2.2 i y x2 hy hx2)
theorem RO.org {p q : Prop} {ρ : List Nat} {E : Env} {e : En} {w : World} {o o' : CO} (h : RO ρ o o') (hq : q → p) (hw : ORg p E e w o') : ORg q (renE ρ E) e w o := h.org' (fun _ _ _ h he => renE_get h he) hq hw
theorem RO.or {ρ : List Nat} {E : Env} {e : En} {w : World} {o o' : CO} (h : RO ρ o o') (hw : OR E e w o') : OR (renE ρ E) e w o := h.or' (fun _ _ _ h he => renE_get h he) hw
structure Restate (k : Nat) (tm1 : Array Value) (H1 : CH) (tm2 : Array Value) (H2 : CH) : Prop where
  ex : ∃ ρ : List Nat, ρ.length = H2.length ∧ k ≤ ρ.length ∧ (∀ b, b < k → ρ[b]? = some b) ∧ ρ.Nodup ∧ (∀ c ∈ ρ, c < H1.length) ∧ tm2.size = tm1.size ∧
    (∀ (i : Nat) (x x' : Value), tm2[i]? = some x → tm1[i]? = some x' → RN ρ x x') ∧ ∀ (b c : Nat) (o : CO), H2[b]? = some o → ρ[b]? = some c → o.alive = true → ∃ o', H1[c]? = some o' ∧ RO ρ o o'
theorem Restate.use {k : Nat} {tm1 tm2 : Array Value} {H1 H2 : CH} (h : Restate k tm1 H1 tm2 H2) {w0 : World} {G : Nat} (hG : G ≤ k) {E : Env} {w : World} (hw : WR w0 G E H1 w) {a : Array Value} (ha : VRs E tm1 a) :
    ∃ E2 : Env, E2.take k = E.take k ∧ WR w0 G E2 H2 w ∧ VRs E2 tm2 a := by
  obtain ⟨ρ, hlen, hk, hid, hnd, hlt, hsz, htm, hH⟩ := h.ex
  have hltE : ∀ c ∈ ρ, c < E.length := fun c hc => by rw [hw.len]; exact hlt c hc
  have hElen : (renE ρ E).length = ρ.length := by unfold renE; simp
  refine ⟨renE ρ E, ?_, ?_, ?_⟩
  · apply List.ext_getElem?
    intro b
    rw [List.getElem?_take, List.getElem?_take]
    split
    · rename_i hb
      have hb' := hid b hb
      have hbE : b < E.length := hltE b (List.mem_of_getElem? hb')
      rw [renE_get hb' (List.getElem?_eq_getElem hbE), List.getElem?_eq_getElem hbE]
    · rfl
  · have back : ∀ (b : Nat) (o : CO) (e : En), H2[b]? = some o → (renE ρ E)[b]? = some e → o.alive = true → ∃ c o', ρ[b]? = some c ∧ E[c]? = some e ∧ H1[c]? = some o' ∧ RO ρ o o' := by
      intro b o e hb he hal
      obtain ⟨c, hc, hec⟩ := renE_inv hltE he
      obtain ⟨o', hH1, hro⟩ := hH b c o hb hc hal
      exact ⟨c, o', hc, hec, hH1, hro⟩
    have hGc : ∀ (b c : Nat), ρ[b]? = some c → G ≤ b → G ≤ c := by
      intro b c hc hGb
      rcases Nat.lt_or_ge b k with hbk | hbk
      · have := hid b hbk
        rw [hc] at this
        cases this
        exact hGb
      · rcases Nat.lt_or_ge c G with hcG | hcG
        · exfalso
          have hck : c < k := by omega
          have h1 := (List.getElem?_eq_some_iff.1 hc).1
          have := (List.getElem?_inj h1 hnd).1 (hc.trans (hid c hck).symm)
          omega
        · exact hcG
    refine ⟨by rw [hElen, hlen], by rw [hElen]; omega, hw.below, ?_, ?_, ?_, ?_⟩
    · intro b o e hb he
      by_cases hal : o.alive = true
      · obtain ⟨c, o', hc, hec, hH1, hro⟩ := back b o e hb he hal
        exact hro.org (hGc b c hc) (hw.obj c o' e hH1 hec)
      · cases o <;> first | exact trivial | exact absurd rfl hal
    · intro b b' o o' e e' hGG hb hb' he he' hal hal' hblk
      obtain ⟨c, p, hc, hec, hH1, hro⟩ := back b o e hb he hal
      obtain ⟨c', p', hc', hec', hH1', hro'⟩ := back b' o' e' hb' he' hal'
      have hcc := hw.inj c c' p p' e e' (hGG.imp (hGc b c hc) (hGc b' c' hc')) hH1 hH1' hec hec' (hro.alive hal) (hro'.alive hal') hblk
      subst hcc
      have h1 := (List.getElem?_eq_some_iff.1 hc).1
      exact (List.getElem?_inj h1 hnd).1 (hc.trans hc'.symm)
    · intro b o e hb he hal hGb
      obtain ⟨c, p, hc, hec, hH1, hro⟩ := back b o e hb he hal
      exact hw.new c p e hH1 hec (hro.alive hal) (hGc b c hc hGb)
    · refine ⟨hw.old.1, fun b e hb he => ?_⟩
      obtain ⟨c, hc, hec⟩ := renE_inv hltE he
      have := hid b (by have := hw.old.1; omega)
      rw [hc] at this
      cases this
      exact hw.old.2 b e hb hec
  · refine ⟨hsz.trans ha.size, fun i x y hx hy => ?_⟩
    obtain ⟨z, hz⟩ := arr_mid hsz hx
    exact (htm i x z hx hz).vr (ha.at_ i z y hz hy)
theorem take_app {E F : Env} {k : Nat} (h : k ≤ E.length) : (E ++ F).take k = E.take k := List.take_append_of_le_length h
theorem get_of_take {E E' : Env} {k l : Nat} (h : E'.take k = E.take k) (hl : l < k) : E'[l]? = E[l]? := by
  have := congrArg (fun x => x[l]?) h
  simp only [List.getElem?_take, if_pos hl] at this
  exact this
theorem DR.take {E E' : Env} {k : Nat} (h : E'.take k = E.take k) {df : List Nat} {ds : List Deferred} (hd : DR E df ds) (hk : ∀ r ∈ df, r < k) : DR E' df ds := by
  induction hd with
  | nil => exact .nil
  | @cons r e df ds he hd ih =>
    exact .cons (by rw [get_of_take h (hk r (by simp))]; exact he) (ih fun r' hr' => hk r' (by simp [hr']))
theorem RR.take {E E' : Env} {k : Nat} (h : E'.take k = E.take k) {ro ro' : Option Nat} (hr : RR E ro ro') (hk : ∀ l, ro = some l → l < k) : RR E' ro ro' := by
  cases ro with
  | none => cases ro' <;> exact hr
  | some l =>
    cases ro' with
    | none => exact hr
    | some b =>
      obtain ⟨e, h1, h2⟩ := hr
      exact ⟨e, by rw [get_of_take h (hk l rfl)]; exact h1, h2⟩
def Round (P : Program) (G : Nat) (b : Code) (df : List Nat) {σ : Type} (tm : σ → Array Value) (H : σ → CH) (m : σ → Nat) (Good : σ → Prop) (k : Nat) (x : CX) (tmF : Array Value) (HF : CH) (ro : Option Nat) (s : σ) : Prop :=
  (∃ s' tm1 H1, Good s' ∧ m s' < m s ∧ Sound P G (.code b ro (tm s) (H s) df) (.ex .normal tm1 H1 df) ∧ Restate k tm1 H1 (tm s') (H s')) ∨
    (x ≠ .normal ∧ ∃ tm1 H1, Sound P G (.code b ro (tm s) (H s) df) (.ex x tm1 H1 df) ∧ Restate k tm1 H1 tmF HF)
theorem rounds {P : Program} {G : Nat} {b : Code} {df : List Nat} {σ : Type} {tm : σ → Array Value} {H : σ → CH} {m : σ → Nat} {Good : σ → Prop} {k : Nat} (hG : G ≤ k) (hdf : ∀ r ∈ df, r < k) {x : CX} {tmF : Array Value} {HF : CH} (ro : Option Nat)
    (hro : ∀ l, ro = some l → l < k) (step : ∀ s, Good s → Round P G b df tm H m Good k x tmF HF ro s) {w0 : World} {ro' : Option Nat} {n : Nat} {Q : Exit → Act → World → Prop} :
    ∀ (j : Nat) (s : σ), m s ≤ j → Good s → ∀ (E : Env) (a : Act) (w : World), WR w0 G E (H s) w → VRs E (tm s) a.tmps → DR E df a.defers → RR E ro ro' → k ≤ E.length →
      (∀ E' a' w', E'.take k = E.take k → WR w0 G E' HF w' → VRs E' tmF a'.tmps → DR E' df a'.defers → Q x.toExit a' w') → LoopWp (FW ro') n P b Q a w := by
  intro j
  induction j with
  | zero =>
    intro s hm hg E a w hw ht hd hr hk hq
    rcases step s hg with ⟨s', tm1, H1, _, hlt, _, _⟩ | ⟨hx, tm1, H1, hs, hre⟩
    · omega
    · refine .of_body ((hs w0 E a w ro' n _ hw ht hd hr fun F a' w' h1 h2 h3 => ?_).1)
      have : Exit.then (fun a w => LoopWp (FW ro') n P b Q a w) Q x.toExit a' w' = Q x.toExit a' w' := by cases x <;> first | rfl | exact absurd rfl hx
      rw [this]
      obtain ⟨E2, e1, e2, e3⟩ := hre.use hG h1 h2
      rw [take_app hk] at e1
      exact hq E2 a' w' e1 e2 e3 (h3.take (by rw [e1, take_app hk]) hdf)
  | succ j ih =>
    intro s hm hg E a w hw ht hd hr hk hq
    rcases step s hg with ⟨s', tm1, H1, hg', hlt, hs, hre⟩ | ⟨hx, tm1, H1, hs, hre⟩
    · refine .of_body ((hs w0 E a w ro' n _ hw ht hd hr fun F a' w' h1 h2 h3 => ?_).1)
      obtain ⟨E2, e1, e2, e3⟩ := hre.use hG h1 h2
      rw [take_app hk] at e1
      have hk2 : k ≤ E2.length := by
        have h0 := congrArg List.length e1
        rw [List.length_take, List.length_take] at h0
        omega
      show LoopWp (FW ro') n P b Q a' w'
      exact ih s' (by omega) hg' E2 a' w' e2 e3 (h3.take (by rw [e1, take_app hk]) hdf) (hr.take e1 hro) hk2 fun E' a'' w'' h4 => hq E' a'' w'' (h4.trans e1)
    · refine .of_body ((hs w0 E a w ro' n _ hw ht hd hr fun F a' w' h1 h2 h3 => ?_).1)
      have : Exit.then (fun a w => LoopWp (FW ro') n P b Q a w) Q x.toExit a' w' = Q x.toExit a' w' := by cases x <;> first | rfl | exact absurd rfl hx
      rw [this]
      obtain ⟨E2, e1, e2, e3⟩ := hre.use hG h1 h2
      rw [take_app hk] at e1
      exact hq E2 a' w' e1 e2 e3 (h3.take (by rw [e1, take_app hk]) hdf)
theorem loop_sound {P : Program} {G : Nat} {b : Code} {df : List Nat} {σ : Type} {tm : σ → Array Value} {H : σ → CH} (m : σ → Nat) (Good : σ → Prop) {x : CX} {tmF tm0 : Array Value} {HF H0 : CH} (ro : Option Nat) (s0 : σ) (hG : G ≤ H0.length)
    (hdf : ∀ r ∈ df, r < H0.length) (h0 : Good s0) (hst : Restate H0.length tm0 H0 (tm s0) (H s0))
    (step : (∀ l, ro = some l → l < H0.length) → ∀ s, Good s → Round P G b df tm H m Good H0.length x tmF HF ro s) : Sound P G (.code (.loop b) ro tm0 H0 df) (.ex x tmF HF df) := by
  intro w0 E a w ro' n Q hw ht hd hr hq
  have hlen := hw.len
  have hro : ∀ l, ro = some l → l < H0.length := by
    intro l hl
    subst hl
    cases ro' with
    | none => exact hr.elim
    | some c =>
      obtain ⟨e, h1, _⟩ := hr
      have := (List.getElem?_eq_some_iff.1 h1).1
      omega
  obtain ⟨E1, e1, e2, e3⟩ := hst.use hG hw ht
  have hk1 : H0.length ≤ E1.length := by
    have h9 := congrArg List.length e1
    rw [List.length_take, List.length_take] at h9
    omega
  have hl : LoopWp (FW ro') n P b Q a w := by
    refine rounds hG hdf ro hro (step hro) (m s0) s0 (Nat.le_refl _) h0 E1 a w e2 e3 (hd.take e1 hdf) (hr.take e1 hro) hk1 fun E' a' w' h1 h2 h3 h4 => ?_
    have hE : E'.take H0.length = E := by
      rw [h1, e1, ← hlen]; exact List.take_length
    have hE' : E' = E ++ E'.drop H0.length := by
      conv => lhs; rw [← List.take_append_drop H0.length E', hE]
    rw [hE'] at h2 h3 h4
    exact hq _ a' w' h2 h3 h4
  exact ⟨hl.loop, fun b' hb => by cases hb; exact hl⟩
end Go.Ex
/- Engine, part 32: rounds, looked at by the kernel: the state before a round and behind it, written out. -/
noncomputable section
namespace Go.Ex
open Go.RowKit
def ren (ρ : List Nat) : Nat → Value → Value
  | _, .pointer (some ⟨b, off, none⟩) => .pointer (some ⟨ρ.getD b 0, off, none⟩)
  | _, .slice (some ⟨b, off, none⟩) l c => .slice (some ⟨ρ.getD b 0, off, none⟩) l c
  | _, .map (some b) => .map (some (ρ.getD b 0))
  | _, .func (.yield l) ⟨[]⟩ ⟨[]⟩ => .func (.yield (ρ.getD l 0)) ⟨[]⟩ ⟨[]⟩
  | n + 1, .func (.func f) a c => .func (.func f) ⟨a.toList.map (ren ρ n)⟩ ⟨c.toList.map (ren ρ n)⟩
  | n + 1, .iface t v => .iface t (ren ρ n v)
  | n + 1, .agg a => .agg ⟨a.toList.map (ren ρ n)⟩
  | n + 1, .tuple a => .tuple ⟨a.toList.map (ren ρ n)⟩
  | _, v => v
def renOk (ρ : List Nat) : Nat → Value → Bool
  | _, .bool _ | _, .int _ _ | _, .float _ _ | _, .complex _ _ _ | _, .string _ | _, .nilFunc | _, .nilIface => true
  | _, .pointer none | _, .slice none _ _ | _, .map none | _, .chan none => true
  | _, .pointer (some ⟨b, _, none⟩) => Nat.blt b ρ.length
  | _, .slice (some ⟨b, _, none⟩) _ _ => Nat.blt b ρ.length
  | _, .map (some b) => Nat.blt b ρ.length
  | _, .func (.yield l) ⟨[]⟩ ⟨[]⟩ => Nat.blt l ρ.length
  | n + 1, .func (.func _) a c => a.toList.all (renOk ρ n) && c.toList.all (renOk ρ n)
  | n + 1, .iface _ v => renOk ρ n v
  | n + 1, .agg a => a.toList.all (renOk ρ n)
  | n + 1, .tuple a => a.toList.all (renOk ρ n)
  | _, _ => false
theorem blt_lt {b n : Nat} (h : Nat.blt b n = true) : b < n := by
  rw [blt_eq] at h; simpa using h
theorem getD_some {ρ : List Nat} {b : Nat} (h : b < ρ.length) : ρ[b]? = some (ρ.getD b 0) := by
  rw [List.getD_eq_getElem?_getD, List.getElem?_eq_getElem h]; rfl
theorem ren_arr {ρ : List Nat} {n : Nat} (ih : ∀ v, renOk ρ n v = true → RN ρ v (ren ρ n v)) {a : Array Value} (h : a.toList.all (renOk ρ n) = true) :
    a.size = (⟨a.toList.map (ren ρ n)⟩ : Array Value).size ∧ ∀ (i : Nat) (x x' : Value), a[i]? = some x → (⟨a.toList.map (ren ρ n)⟩ : Array Value)[i]? = some x' → RN ρ x x' := by
  refine ⟨by simp, fun i x x' hx hx' => ?_⟩
  have : (⟨a.toList.map (ren ρ n)⟩ : Array Value)[i]? = some (ren ρ n x) := by simp [hx]
  rw [this] at hx'
  cases hx'
  exact ih x (all_at h hx)
theorem ren_RN {ρ : List Nat} : ∀ (n : Nat) (v : Value), renOk ρ n v = true → RN ρ v (ren ρ n v) := by
  have key : ∀ (n : Nat), (∀ m, n = m + 1 → ∀ v, renOk ρ m v = true → RN ρ v (ren ρ m v)) → ∀ v, renOk ρ n v = true → RN ρ v (ren ρ n v) := by
    intro n ih v h
    cases v with
    | bool b => cases n <;> exact .flat rfl
    | int k z => cases n <;> exact .flat rfl
    | float k z => cases n <;> exact .flat rfl
    | complex k y z => cases n <;> exact .flat rfl
    | string s => cases n <;> exact .flat rfl
    | nilFunc => cases n <;> exact .flat rfl
    | nilIface => cases n <;> exact .flat rfl
    | pointer a =>
      cases a with
      | none => cases n <;> exact .flat rfl
      | some a =>
        obtain ⟨b, off, spot⟩ := a
        cases spot with
        | none =>
          have hb : Nat.blt b ρ.length = true := by cases n <;> exact h
          have := getD_some (blt_lt hb)
          cases n <;> exact .ptr this
        | some s => cases n <;> cases h
    | slice a l c =>
      cases a with
      | none => cases n <;> exact .flat rfl
      | some a =>
        obtain ⟨b, off, spot⟩ := a
        cases spot with
        | none =>
          have hb : Nat.blt b ρ.length = true := by cases n <;> exact h
          have := getD_some (blt_lt hb)
          cases n <;> exact .slice this
        | some s => cases n <;> cases h
    | map r =>
      cases r with
      | none => cases n <;> exact .flat rfl
      | some b =>
        have hb : Nat.blt b ρ.length = true := by cases n <;> exact h
        have := getD_some (blt_lt hb)
        cases n <;> exact .map this
    | chan r =>
      cases r with
      | none => cases n <;> exact .flat rfl
      | some b => cases n <;> cases h
    | func fn a c =>
      cases fn with
      | func f =>
        cases n with
        | zero => cases h
        | succ m =>
          have h' : (a.toList.all (renOk ρ m) && c.toList.all (renOk ρ m)) = true := h
          rw [Bool.and_eq_true] at h'
          obtain ⟨h1, h2⟩ := ren_arr (ih m rfl) h'.1
          obtain ⟨h3, h4⟩ := ren_arr (ih m rfl) h'.2
          exact .func h1 h3 h2 h4
      | yield l =>
        obtain ⟨a⟩ := a
        obtain ⟨c⟩ := c
        cases a with
        | nil =>
          cases c with
          | nil =>
            have hb : Nat.blt l ρ.length = true := by cases n <;> exact h
            have := getD_some (blt_lt hb)
            cases n <;> exact .yield this
          | cons x r => cases n <;> cases h
        | cons x r => cases n <;> cases h
      | _ => cases n <;> cases h
    | iface t v =>
      cases n with
      | zero => cases h
      | succ m => exact .iface (ih m rfl v h)
    | agg a =>
      cases n with
      | zero => cases h
      | succ m =>
        obtain ⟨h1, h2⟩ := ren_arr (ih m rfl) h
        exact .agg h1 h2
    | tuple a =>
      cases n with
      | zero => cases h
      | succ m =>
        obtain ⟨h1, h2⟩ := ren_arr (ih m rfl) h
        exact .tuple h1 h2
  intro n
  induction n with
  | zero => exact key 0 (fun m hm => by cases hm)
  | succ n ih => exact key (n + 1) (fun m hm => by cases hm; exact ih)
def lookL (l : List (Nat × Value)) (i : Nat) : Value :=
  match l with
  | [] => wild
  | p :: r => cond (Nat.beq p.1 i) p.2 (lookL r i)
def tmL (N : Nat) (l : List (Nat × Value)) : TM := ⟨(pushAll ((List.range N).map (lookL l)) Hp.nil).tree, N⟩
theorem tmL_val (N : Nat) (l : List (Nat × Value)) {i : Nat} (h : i < N) : tval (tmL N l) i = lookL l i := by
  obtain ⟨_, _, _, h4⟩ := pushAll_spec ((List.range N).map (lookL l)) Hp.nil blank_nil
  have := h4 i (lookL l i) (by rw [List.getElem?_map, List.getElem?_range h]; rfl)
  have h0 : (Hp.nil : TM).length + i = i := by show 0 + i = i; omega
  rw [h0] at this
  unfold tval
  show cond (Nat.blt i N) _ _ = _
  rw [blt_eq, decide_eq_true h]
  show orUndef ((pushAll ((List.range N).map (lookL l)) Hp.nil).tree.get i) = _
  rw [this]; rfl
def heapL (l : List CO) : CH := l.foldl (fun h o => h.push o) Hp.nil
theorem heapL_spec : ∀ (l : List CO) (h : CH), (l.foldl (fun h o => h.push o) h).length = h.length + l.length ∧ ∀ b, (l.foldl (fun h o => h.push o) h)[b]? = if b < h.length then h[b]? else l[b - h.length]?
  | [], h => ⟨rfl, fun b => by
      split
      · rfl
      · rename_i hb
        show h[b]? = none
        rw [Hp.get_eq, if_neg hb]⟩
  | o :: r, h => by
    obtain ⟨h1, h2⟩ := heapL_spec r (h.push o)
    refine ⟨by rw [List.foldl_cons, h1, Hp.length_push]; simp; omega, fun b => ?_⟩
    rw [List.foldl_cons, h2 b, Hp.length_push, Hp.get_push]
    by_cases hb : b = h.length
    · subst hb
      rw [if_pos (by omega), if_pos rfl, if_neg (by omega), Nat.sub_self]; rfl
    · by_cases hlt : b < h.length
      · rw [if_pos (by omega), if_neg hb, if_pos hlt]
      · rw [if_neg (by omega), if_neg hlt, show b - h.length = (b - (h.length + 1)) + 1 from by omega]; rfl
theorem heapL_len (l : List CO) : (heapL l).length = l.length := by
  have := (heapL_spec l Hp.nil).1
  rw [show heapL l = l.foldl (fun h o => h.push o) Hp.nil from rfl, this]
  show 0 + l.length = _
  omega
theorem heapL_get (l : List CO) (b : Nat) : (heapL l)[b]? = l[b]? := by
  have := (heapL_spec l Hp.nil).2 b
  rw [show heapL l = l.foldl (fun h o => h.push o) Hp.nil from rfl, this]
  rw [if_neg (by show ¬ b < 0; omega)]
  rfl
def renO (ρ : List Nat) : CO → CO
  | .cells cs t s ex => .cells (cs.map (ren ρ 8)) t s ex
  | .loop l => .loop { l with tmps := ⟨l.tmps.toList.map (ren ρ 8)⟩, defers := (ρ[l.defers]?).getD 0 }
  | o => o
def renOkO (ρ : List Nat) : CO → Bool
  | .cells cs _ _ _ => cs.all (renOk ρ 8)
  | .dead | .dfr _ | .iter _ _ => true
  | .loop l => l.tmps.toList.all (renOk ρ 8) && Nat.blt l.defers ρ.length
  | _ => false
def FlatO : CO → Prop
  | .cells cs _ _ _ => ∀ x ∈ cs, Ex.flat x = true
  | .dead | .dfr _ | .iter _ _ => True
  | .map es _ => ∀ m ∈ es, Ex.flat m.val = true
  | _ => False
def obsH (H : CH) : List (CO × Bool) → List Nat → List (Option CO)
  | p :: r, c :: ρ => (cond p.1.alive (H[c]?) none) :: obsH H r ρ
  | _, _ => []
def expH (ρ0 : List Nat) : List (CO × Bool) → List Nat → List (Option CO)
  | p :: r, _ :: ρ => (cond p.1.alive (some (cond p.2 p.1 (renO ρ0 p.1))) none) :: expH ρ0 r ρ
  | _, _ => []
theorem obs_exp {H : CH} {ρ0 : List Nat} : ∀ (hp : List (CO × Bool)) (ρ : List Nat), obsH H hp ρ = expH ρ0 hp ρ → ∀ (b c : Nat) (p : CO × Bool), hp[b]? = some p → ρ[b]? = some c → p.1.alive = true → H[c]? = some (cond p.2 p.1 (renO ρ0 p.1))
  | [], _, _, b, c, p, hb, _, _ => by simp at hb
  | _ :: _, [], _, b, c, p, _, hc, _ => by simp at hc
  | q :: r, d :: ρ, h, b, c, p, hb, hc, ha => by
    unfold obsH expH at h
    injection h with h1 h2
    cases b with
    | zero =>
      cases hb; cases hc
      rw [ha] at h1
      exact h1
    | succ b => exact obs_exp r ρ h2 b c p (by simpa using hb) (by simpa using hc) ha
theorem renO_RO {ρ : List Nat} {o : CO} (h : renOkO ρ o = true) : RO ρ o (renO ρ o) := by
  cases o with
  | cells cs t s ex =>
    refine .cells (fun h => h) (by simp) fun i x x' hx hx' => ?_
    rw [List.getElem?_map, hx] at hx'
    cases hx'
    exact ren_RN 8 x (List.all_eq_true.1 h x (List.mem_of_getElem? hx))
  | dead => exact .dead
  | dfr b => exact .dfr
  | iter s p => exact .iter
  | loop l =>
    have h1 := (Bool.and_eq_true _ _ ▸ h : _ ∧ _)
    have hd : l.defers < ρ.length := by simpa [blt_eq] using h1.2
    refine RO.loop (l := l) (by simp) (fun i x x' hx hx' => ?_) (by rw [List.getElem?_eq_getElem hd]; rfl)
    rw [← Array.getElem?_toList] at hx hx'
    rw [List.getElem?_map, hx] at hx'
    cases hx'
    exact ren_RN 8 x (List.all_eq_true.1 h1.1 x (List.mem_of_getElem? hx))
  | _ => cases h
theorem flat_RO {ρ : List Nat} {o : CO} (h : FlatO o) : RO ρ o o := by
  cases o with
  | cells cs t s ex =>
    refine .cells (fun h => h) rfl fun i x x' hx hx' => ?_
    rw [hx] at hx'
    cases hx'
    exact .flat (h x (List.mem_of_getElem? hx))
  | dead => exact .dead
  | dfr b => exact .dfr
  | iter s p => exact .iter
  | map es c => exact .map h
  | _ => exact h.elim
theorem lookL_mem : ∀ (l : List (Nat × Value)) (i : Nat), lookL l i = wild ∨ ∃ p ∈ l, p.1 = i ∧ lookL l i = p.2
  | [], i => .inl rfl
  | p :: r, i => by
    unfold lookL
    cases hb : Nat.beq p.1 i with
    | true => exact .inr ⟨p, by simp, Nat.eq_of_beq_eq_true hb, rfl⟩
    | false =>
      rcases lookL_mem r i with h | ⟨q, h1, h2, h3⟩
      · exact .inl h
      · exact .inr ⟨q, by simp [h1], h2, h3⟩
theorem map_eq_mem {α β : Type} {f g : α → β} : ∀ (l : List α), l.map f = l.map g → ∀ x ∈ l, f x = g x
  | [], _, x, hx => by cases hx
  | y :: r, h, x, hx => by
    injection h with h1 h2
    rcases List.mem_cons.1 hx with rfl | hx
    · exact h1
    · exact map_eq_mem r h2 x hx
theorem restate_of {k N : Nat} {tm1 : TM} {H1 : CH} (ρ : List Nat) (live : List (Nat × Value)) (hp : List (CO × Bool)) (hN : tm1.length = N) (hρ : ρ.length = hp.length) (hk : k ≤ ρ.length) (hid : ρ.take k = List.range k) (hnd : ρ.Nodup)
    (hlt : ∀ c ∈ ρ, c < H1.length) (hlive : live.map (fun p => tval tm1 p.1) = live.map fun p => ren ρ 8 p.2) (hok : (live.all fun p => renOk ρ 8 p.2) = true) (hheap : obsH H1 hp ρ = expH ρ hp ρ)
    (hokH : (hp.all fun p => p.2 || renOkO ρ p.1) = true) (hflat : ∀ o, (o, true) ∈ hp → FlatO o) : Restate k (absT tm1) H1 (absT (tmL N live)) (heapL (hp.map (·.1))) := by
  refine ⟨ρ, by rw [heapL_len]; simp [hρ], hk, fun b hb => ?_, hnd, hlt, by rw [absT_size, absT_size, hN]; rfl, fun i x x' hx hx' => ?_, fun b c o hb hc ha => ?_⟩
  · have := congrArg (fun l => l[b]?) hid
    simp only [List.getElem?_take, if_pos hb, List.getElem?_range hb] at this
    exact this
  · rw [absT_get] at hx hx'
    split at hx'
    case isFalse => cases hx'
    rename_i hi
    cases hx'
    split at hx
    case isFalse => cases hx
    cases hx
    rw [tmL_val N live (by omega)]
    rcases lookL_mem live i with h | ⟨p, h1, h2, h3⟩
    · rw [h]; exact .wild
    · rw [h3]
      have h4 := map_eq_mem live hlive p h1
      rw [h2] at h4
      rw [h4]
      exact ren_RN 8 p.2 (List.all_eq_true.1 hok p h1)
  · rw [heapL_get, List.getElem?_map] at hb
    cases hq : hp[b]? with
    | none => rw [hq] at hb; cases hb
    | some q =>
      rw [hq] at hb
      cases hb
      have h1 := obs_exp hp ρ hheap b c q hq hc ha
      refine ⟨_, h1, ?_⟩
      obtain ⟨o, m⟩ := q
      cases m with
      | true => exact flat_RO (hflat o (List.mem_of_getElem? hq))
      | false =>
        have := List.all_eq_true.1 hokH (o, false) (List.mem_of_getElem? hq)
        exact renO_RO (by simpa using this)
noncomputable def Out.way {α : Type} (o : Out α) : List Bool → Option (List Bool × α) :=
  Out.rec (motive := fun _ => List Bool → Option (List Bool × α)) (fun _ => none) (fun a _ => some ([], a))
    (fun b _ _ t e ans => match ans with
      | [] => none
      | x :: r => (cond x (t r) (e r)).map fun y => (b :: y.1, y.2)) (fun _ _ k => k) (fun _ _ _ k => k) o
theorem Out.way_sel {α : Type} {o : Out α} : ∀ {ans cs : List Bool} {a : α}, o = o.fix → o.way ans = some (cs, a) → cs = ans.take cs.length → o.sel = some a := by
  induction o with
  | fail => intro ans cs a _ h _; cases h
  | leaf r => intro ans cs a _ h _; cases h; rfl
  | br b t e iht ihe =>
    intro ans cs a hf h hc
    injection hf with _ h1 h2
    cases ans with
    | nil => cases h
    | cons x r =>
      have h' : (cond x (t.way r) (e.way r)).map (fun y => (b :: y.1, y.2)) = some (cs, a) := h
      obtain ⟨y, hy, hq⟩ := map_some' h'
      cases hq
      simp only [List.length_cons, List.take_succ_cons, List.cons.injEq] at hc
      obtain ⟨rfl, hc⟩ := hc
      show cond b t.sel e.sel = _
      cases b with
      | true => exact iht h1 hy hc
      | false => exact ihe h2 hy hc
  | same l k ih =>
    intro ans cs a hf h hc
    injection hf with h1 h2
    exact (ifSame_of (same_of_fix h1)).trans (ih h2 h hc)
  | code x y k ih =>
    intro ans cs a hf h hc
    injection hf with _ h1 h2
    exact (ifCode_of h1.symm).trans (ih h2 h hc)
def obs (live : List (Nat × Value)) (hp : List (CO × Bool)) (ρ : List Nat) (r : QRes) : Option (CX × Nat × Nat × List Nat × List Value × List (Option CO)) :=
  match r with
  | .ex x tm H df => some (x, tm.length, H.length, df, live.map (fun p => tval tm p.1), obsH H hp ρ)
  | .val _ _ => none
def expect (x : CX) (N len : Nat) (df : List Nat) (live : List (Nat × Value)) (hp : List (CO × Bool)) (ρ : List Nat) : Option (CX × Nat × Nat × List Nat × List Value × List (Option CO)) :=
  some (x, N, len, df, live.map (fun p => ren ρ 8 p.2), expH ρ hp ρ)
def goodR (k len : Nat) (live : List (Nat × Value)) (hp : List (CO × Bool)) (ρ : List Nat) : Bool :=
  Nat.beq ρ.length hp.length && (Nat.ble k ρ.length && ((ρ.take k == List.range k) && (decide ρ.Nodup && (ρ.all (fun c => Nat.blt c len) && ((live.all fun p => renOk ρ 8 p.2) && hp.all fun p => p.2 || renOkO ρ p.1)))))
end Go.Ex
/- Engine, part 33: a call that reads what its arguments lead to: told over a small heap of its own, used in any. -/
noncomputable section
namespace Go.Ex
open Go.RowKit
theorem Sound.small {P : Program} {G : Nat} {f : FuncId} {args args2 : List Value} {H Hs Hs' : CH} {v : Value} (ρ : List Nat) (hs : Sound P Hs.length (.call f ⟨args2⟩ Hs) (.val v Hs')) (hv : clean 6 v = true) (hgl : gl ≤ Hs.length)
    (hlen : ρ.length = Hs.length) (hid : ∀ b, b < gl → ρ[b]? = some b) (_hnd : ρ.Nodup) (hlt : ∀ c ∈ ρ, c < H.length) (hargs : args2.length = args.length) (hrn : ∀ (i : Nat) (x x' : Value), args2[i]? = some x → args[i]? = some x' → RN ρ x x')
    (hH : ∀ (b c : Nat) (o : CO), Hs[b]? = some o → ρ[b]? = some c → o.alive = true → ∃ o', H[c]? = some o' ∧ RO ρ o o') : Sound P G (.call f ⟨args⟩ H) (.val v H) := by
  intro w0 E args' w ro' n R hw ha hR
  have hltE : ∀ c ∈ ρ, c < E.length := fun c hc => by rw [hw.len]; exact hlt c hc
  have hElen : (renE ρ E).length = ρ.length := by unfold renE; simp
  have back : ∀ (b : Nat) (o : CO) (e : En), Hs[b]? = some o → (renE ρ E)[b]? = some e → o.alive = true → ∃ c o', ρ[b]? = some c ∧ E[c]? = some e ∧ H[c]? = some o' ∧ RO ρ o o' := by
    intro b o e hb he hal
    obtain ⟨c, hc, hec⟩ := renE_inv hltE he
    obtain ⟨o', hH1, hro⟩ := hH b c o hb hc hal
    exact ⟨c, o', hc, hec, hH1, hro⟩
  have hw2 : WR w Hs.length (renE ρ E) Hs w := by
    refine ⟨by rw [hElen, hlen], by rw [hElen, hlen]; omega, Below.refl _ _, ?_, ?_, ?_, hgl, ?_⟩
    · intro b o e hb he
      by_cases hal : o.alive = true
      · obtain ⟨c, o', hc, hec, hH1, hro⟩ := back b o e hb he hal
        exact hro.org (fun hGb => by have := Hp.lt hb; omega) (hw.obj c o' e hH1 hec)
      · cases o <;> first | exact trivial | exact absurd rfl hal
    · intro b b' o o' e e' hGG hb hb'
      have h1 := Hp.lt hb
      have h2 := Hp.lt hb'
      omega
    · intro b o e hb _ _ hG
      have := Hp.lt hb
      omega
    · intro b e hb he
      obtain ⟨c, hc, hec⟩ := renE_inv hltE he
      rw [hid b hb] at hc
      cases hc
      exact hw.old.2 b e hb hec
  have ha2 : VRs (renE ρ E) ⟨args2⟩ args' := by
    refine ⟨by have := ha.size; simp at this ⊢; omega, fun i x y hx hy => ?_⟩
    have hx' : args2[i]? = some x := by simpa using hx
    have hi : i < args.length := by rw [← hargs]; exact (List.getElem?_eq_some_iff.1 hx').1
    have hz : args[i]? = some args[i] := List.getElem?_eq_getElem hi
    exact (hrn i x _ hx' hz).vr (ha.at_ i _ y (by simp [hz]) hy)
  refine hs w (renE ρ E) args' w ro' n R hw2 ha2 fun F v' w' hw' hv' => ?_
  rw [hv'.eq_of_clean 6 hv]
  refine hR [] v w' ?_ (VR.of_clean _ 6 v hv)
  rw [List.append_nil]
  exact hw.later hw'.below
def pushesL (H : CH) (nb : List CO) : CH := nb.foldl (fun h o => h.push o) H
theorem Sound.smallN {P : Program} {G : Nat} {f : FuncId} {args args2 : List Value} {H Hs Hs' : CH} {v u : Value} (ρ κ : List Nat) (nb : List CO) (hs : Sound P Hs.length (.call f ⟨args2⟩ Hs) (.val v Hs')) (hgl : gl ≤ Hs.length)
    (hlen : ρ.length = Hs.length) (hid : ∀ b, b < gl → ρ[b]? = some b) (_hnd : ρ.Nodup) (hlt : ∀ c ∈ ρ, c < H.length) (hargs : args2.length = args.length) (hrn : ∀ (i : Nat) (x x' : Value), args2[i]? = some x → args[i]? = some x' → RN ρ x x')
    (hH : ∀ (b c : Nat) (o : CO), Hs[b]? = some o → ρ[b]? = some c → o.alive = true → ∃ o', H[c]? = some o' ∧ RO ρ o o')
    (hκ : κ.length = nb.length) (hκn : κ.Nodup) (hκg : ∀ c ∈ κ, Hs.length ≤ c ∧ c < Hs'.length) (hu : RN (List.replicate H.length Hs'.length ++ κ) u v)
    (hnb : ∀ (j c : Nat) (o : CO), nb[j]? = some o → κ[j]? = some c → o.alive = true → ∃ o', Hs'[c]? = some o' ∧ RO (List.replicate H.length Hs'.length ++ κ) o o') : Sound P G (.call f ⟨args⟩ H) (.val u (pushesL H nb)) := by
  intro w0 E args' w ro' n R hw ha hR
  have hltE : ∀ c ∈ ρ, c < E.length := fun c hc => by rw [hw.len]; exact hlt c hc
  have hElen : (renE ρ E).length = ρ.length := by unfold renE; simp
  have back : ∀ (b : Nat) (o : CO) (e : En), Hs[b]? = some o → (renE ρ E)[b]? = some e → o.alive = true → ∃ c o', ρ[b]? = some c ∧ E[c]? = some e ∧ H[c]? = some o' ∧ RO ρ o o' := by
    intro b o e hb he hal
    obtain ⟨c, hc, hec⟩ := renE_inv hltE he
    obtain ⟨o', hH1, hro⟩ := hH b c o hb hc hal
    exact ⟨c, o', hc, hec, hH1, hro⟩
  have hw2 : WR w Hs.length (renE ρ E) Hs w := by
    refine ⟨by rw [hElen, hlen], by rw [hElen, hlen]; omega, Below.refl _ _, ?_, ?_, ?_, hgl, ?_⟩
    · intro b o e hb he
      by_cases hal : o.alive = true
      · obtain ⟨c, o', hc, hec, hH1, hro⟩ := back b o e hb he hal
        exact hro.org (fun hGb => by have := Hp.lt hb; omega) (hw.obj c o' e hH1 hec)
      · cases o <;> first | exact trivial | exact absurd rfl hal
    · intro b b' o o' e e' hGG hb hb'
      have h1 := Hp.lt hb
      have h2 := Hp.lt hb'
      omega
    · intro b o e hb _ _ hG
      have := Hp.lt hb
      omega
    · intro b e hb he
      obtain ⟨c, hc, hec⟩ := renE_inv hltE he
      rw [hid b hb] at hc
      cases hc
      exact hw.old.2 b e hb hec
  have ha2 : VRs (renE ρ E) ⟨args2⟩ args' := by
    refine ⟨by have := ha.size; simp at this ⊢; omega, fun i x y hx hy => ?_⟩
    have hx' : args2[i]? = some x := by simpa using hx
    have hi : i < args.length := by rw [← hargs]; exact (List.getElem?_eq_some_iff.1 hx').1
    have hz : args[i]? = some args[i] := List.getElem?_eq_getElem hi
    exact (hrn i x _ hx' hz).vr (ha.at_ i _ y (by simp [hz]) hy)
  refine hs w (renE ρ E) args' w ro' n R hw2 ha2 fun F v' w' hw' hv' => ?_
  let E' : Env := renE ρ E ++ F
  let Fn : Env := κ.map fun c => E'.getD c ⟨0, 0, 0⟩
  have hE'len : E'.length = Hs'.length := hw'.len
  have hFn : ∀ (j c : Nat), κ[j]? = some c → ∃ e, E'[c]? = some e ∧ Fn[j]? = some e := by
    intro j c hj
    have hc := (hκg c (List.mem_of_getElem? hj)).2
    have hcE : c < E'.length := by rw [hE'len]; exact hc
    refine ⟨E'[c], List.getElem?_eq_getElem hcE, ?_⟩
    show (κ.map fun c => E'.getD c ⟨0, 0, 0⟩)[j]? = _
    rw [List.getElem?_map, hj]
    simp [List.getD, List.getElem?_eq_getElem hcE]
  have hElH : E.length = H.length := hw.len
  have hE : ∀ (b c : Nat) (e : En), (List.replicate H.length Hs'.length ++ κ)[b]? = some c → E'[c]? = some e → (E ++ Fn)[b]? = some e := by
    intro b c e hb he
    by_cases hbl : b < H.length
    · rw [List.getElem?_append_left (by simpa using hbl), List.getElem?_replicate, if_pos hbl] at hb
      cases hb
      have := (List.getElem?_eq_some_iff.1 he).1
      omega
    · rw [List.getElem?_append_right (by simpa using hbl)] at hb
      simp only [List.length_replicate] at hb
      obtain ⟨e', h1, h2⟩ := hFn _ c hb
      rw [h1] at he
      cases he
      rw [List.getElem?_append_right (by omega), hElH]
      exact h2
  have hpl : (pushesL H nb).length = H.length + nb.length := (heapL_spec nb H).1
  have hpg : ∀ b, (pushesL H nb)[b]? = if b < H.length then H[b]? else nb[b - H.length]? := (heapL_spec nb H).2
  have hbw : Below w.heap.size w w' := hw'.below
  have hFnl : Fn.length = nb.length := by show (κ.map _).length = _; rw [List.length_map, hκ]
  have newb : ∀ (b : Nat) (o : CO) (e : En), ¬ b < H.length → nb[b - H.length]? = some o → (E ++ Fn)[b]? = some e → o.alive = true → ∃ c o', κ[b - H.length]? = some c ∧ E'[c]? = some e ∧ Hs'[c]? = some o' ∧ RO (List.replicate H.length Hs'.length ++ κ) o o' ∧ Hs.length ≤ c := by
    intro b o e hb ho he hal
    have hj : b - H.length < κ.length := by rw [hκ]; exact (List.getElem?_eq_some_iff.1 ho).1
    have hc : κ[b - H.length]? = some κ[b - H.length] := List.getElem?_eq_getElem hj
    obtain ⟨e', h1, h2⟩ := hFn _ _ hc
    rw [List.getElem?_append_right (by omega), hElH, h2] at he
    cases he
    obtain ⟨o', h3, h4⟩ := hnb _ _ o ho hc hal
    exact ⟨_, o', hc, h1, h3, h4, (hκg _ (List.mem_of_getElem? hc)).1⟩
  refine hR Fn v' w' ⟨?_, ?_, ?_, ?_, ?_, ?_, hw.old.1, ?_⟩ (hu.vr' hE hv')
  · rw [List.length_append, hFnl, hElH, hpl]
  · rw [List.length_append]; have := hw.glen; omega
  · exact hw.below.trans (hbw.mono hw.below.size)
  · intro b o e hb he
    rw [hpg] at hb
    split at hb
    · rename_i hbl
      rw [List.getElem?_append_left (by omega)] at he
      exact ORg.mono Fn (ORg.keep (fun k hk => hbw.block k hk) (hw.obj b o e hb he))
    · rename_i hbl
      by_cases hal : o.alive = true
      · obtain ⟨c, o', _, h2, h3, h4, h5⟩ := newb b o e hbl hb he hal
        exact h4.org' hE (fun _ => h5) (hw'.obj c o' e h3 h2)
      · cases o <;> first | exact trivial | exact absurd rfl hal
  · intro b b' o o' e e' hGG hb hb' he he' hal hal' hblk
    rw [hpg] at hb hb'
    split at hb <;> split at hb'
    · rename_i h1 h2
      rw [List.getElem?_append_left (by omega)] at he he'
      exact hw.inj b b' o o' e e' hGG hb hb' he he' hal hal' hblk
    · rename_i h1 h2
      rw [List.getElem?_append_left (by omega)] at he
      obtain ⟨c, p, _, h4, h5, h6, h7⟩ := newb b' o' e' h2 hb' he' hal'
      have g1 := (hw.obj b o e hb he).lt hal
      have g2 := (hw'.new c p e' h5 h4 (h6.alive hal') h7).1
      omega
    · rename_i h1 h2
      rw [List.getElem?_append_left (by omega)] at he'
      obtain ⟨c, p, _, h4, h5, h6, h7⟩ := newb b o e h1 hb he hal
      have g1 := (hw.obj b' o' e' hb' he').lt hal'
      have g2 := (hw'.new c p e h5 h4 (h6.alive hal) h7).1
      omega
    · rename_i h1 h2
      obtain ⟨c, p, h3, h4, h5, h6, h7⟩ := newb b o e h1 hb he hal
      obtain ⟨c', p', h3', h4', h5', h6', h7'⟩ := newb b' o' e' h2 hb' he' hal'
      have hcc := hw'.inj c c' p p' e e' (.inl h7) h5 h5' h4 h4' (h6.alive hal) (h6'.alive hal') hblk
      subst hcc
      have g1 := (List.getElem?_eq_some_iff.1 h3).1
      have := (List.getElem?_inj g1 hκn).1 (h3.trans h3'.symm)
      omega
  · intro b o e hb he hal hGb
    rw [hpg] at hb
    split at hb
    · rename_i hbl
      rw [List.getElem?_append_left (by omega)] at he
      have g1 := hw.new b o e hb he hal hGb
      have g2 := hbw.size
      omega
    · rename_i hbl
      obtain ⟨c, p, _, h4, h5, h6, h7⟩ := newb b o e hbl hb he hal
      have g2 := hw'.new c p e h5 h4 (h6.alive hal) h7
      have g3 := hw.below.size
      omega
  · intro b e hb he
    have hbl : b < E.length := by have := hw.glen; have := hw.old.1; omega
    rw [List.getElem?_append_left hbl] at he
    exact hw.old.2 b e hb he
def findL (id : Nat) : Code → Option Code
  | .seq a b => match findL id a with
    | some c => some c
    | none => findL id b
  | .cond _ a b => match findL id a with
    | some c => some c
    | none => findL id b
  | .block _ b => findL id b
  | .scope b => findL id b
  | .loop b => cond (Nat.beq (firstReg b) id) (some b) (findL id b)
  | _ => none
def bodyL (fn : Func) (id : Nat) : Code :=
  match fn.body with
  | some c => match findL id c with
    | some b => b
    | none => .skip
  | none => .skip
def pairsH : List (Option CO) → List (Option CO) → List (Option CO × Option CO)
  | a :: r, b :: q => (a, b) :: pairsH r q
  | _, _ => []
theorem pairsH_same : ∀ (a b : List (Option CO)), a.length = b.length → Same (pairsH a b) → a = b
  | [], [], _, _ => rfl
  | [], _ :: _, h, _ => by simp at h
  | _ :: _, [], h, _ => by simp at h
  | x :: a, y :: b, h, hs => by
    have h1 : x = y := hs (x, y) (by simp [pairsH])
    have h2 := pairsH_same a b (by simpa using h) fun z hz => hs z (by simp [pairsH, hz])
    rw [h1, h2]
theorem obsH_len (H : CH) (ρ0 : List Nat) : ∀ (hp : List (CO × Bool)) (ρ : List Nat), (obsH H hp ρ).length = (expH ρ0 hp ρ).length
  | [], _ => by cases ‹List Nat› <;> rfl
  | _ :: _, [] => rfl
  | _ :: r, _ :: ρ => by
    show (obsH H r ρ).length + 1 = (expH ρ0 r ρ).length + 1
    rw [obsH_len H ρ0 r ρ]
def reqT (k : Nat) (live : List (Nat × Value)) (tm : TM) : List (Option CO × Option CO) := live.map fun p => (some (coOf (tval tm p.1)), some (coOf (ren (List.range k) 8 p.2)))
def reqH (k : Nat) (hp : List (CO × Bool)) (H : CH) : List (Option CO × Option CO) := pairsH (obsH H hp (List.range k)) (expH (List.range k) hp (List.range k))
abbrev LTab := Nat → Nat → TM → CH → List Nat → Option (Code × Out QRes)
def isNil (df : List Nat) : Bool :=
  match df with
  | [] => true
  | _ => false
noncomputable def loopE (L : LTab) (f0 id0 N k : Nat) (b : Code) (live0 : List (Nat × Value)) (hp0 : List (CO × Bool)) (o : Out QRes) : LTab := fun f id tm H df =>
  cond (Nat.beq f f0 && (Nat.beq id id0 && (Nat.beq tm.length N && (Nat.beq H.length k && isNil df)))) (some (.loop b, .same (reqT k live0 tm ++ reqH k hp0 H) o)) (L f id tm H df)
theorem reqT_of {k : Nat} {tm : TM} : ∀ (live : List (Nat × Value)), Same (reqT k live tm) → live.map (fun p => tval tm p.1) = live.map fun p => ren (List.range k) 8 p.2
  | [], _ => rfl
  | p :: r, h => by
    have h1 : some (coOf (tval tm p.1)) = some (coOf (ren (List.range k) 8 p.2)) := h (_, _) (List.mem_cons_self ..)
    have h2 := reqT_of r fun z hz => h z (List.mem_cons_of_mem _ hz)
    have h3 : tval tm p.1 = ren (List.range k) 8 p.2 := by
      have := Option.some.inj h1
      unfold coOf at this
      injection this with this
      injection this
    rw [List.map_cons, List.map_cons, h2, h3]
theorem LSound.loop {P : Program} {G : Nat} {L : LTab} {f0 id0 N k : Nat} {b : Code} {live0 : List (Nat × Value)} {hp0 : List (CO × Bool)} {o : Out QRes} (hL : LSound P G L) (hgood : goodR k k live0 hp0 (List.range k) = true) (hflat : ∀ o, (o, true) ∈ hp0 → FlatO o)
    (h : ∀ r, o.sel = some r → ∀ ro (tm0 : Array Value) (H0 : CH), H0.length = k → Restate k tm0 H0 (absT (tmL N live0)) (heapL (hp0.map (·.1))) → Sound P G (.code (.loop b) ro tm0 H0 []) r.abs) : LSound P G (loopE L f0 id0 N k b live0 hp0 o) := by
  intro f id tm H df c o' r ro he hr
  unfold loopE at he
  cases hc : (Nat.beq f f0 && (Nat.beq id id0 && (Nat.beq tm.length N && (Nat.beq H.length k && isNil df)))) with
  | false => rw [hc] at he; exact hL f id tm H df c o' r ro he hr
  | true =>
    rw [hc] at he
    cases he
    simp only [Bool.and_eq_true] at hc
    obtain ⟨_, _, h3, h4, h5⟩ := hc
    have hdf : df = [] := by cases df <;> first | rfl | cases h5
    subst hdf
    obtain ⟨hs, hsel⟩ := ifSame_some (k := o.sel) hr
    have hk := Nat.eq_of_beq_eq_true h4
    refine h r hsel ro (absT tm) H hk ?_
    unfold goodR at hgood
    simp only [Bool.and_eq_true, beq_iff_eq, decide_eq_true_eq] at hgood
    obtain ⟨g1, g2, g3, g4, g5, g6, g7⟩ := hgood
    refine restate_of (List.range k) live0 hp0 (Nat.eq_of_beq_eq_true h3) (Nat.eq_of_beq_eq_true g1) (Nat.le_of_ble_eq_true g2) g3 g4 (fun c hc => by rw [hk]; exact List.mem_range.1 hc) (reqT_of _ fun z hz => hs z (List.mem_append_left _ hz)) g6 ?_ g7 hflat
    exact pairsH_same _ _ (obsH_len _ _ _ _) fun z hz => hs z (List.mem_append_right _ hz)
end Go.Ex
