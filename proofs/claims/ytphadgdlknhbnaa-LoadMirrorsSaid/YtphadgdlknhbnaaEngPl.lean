/- Part of the proof. -/
import Derived.Test.YtphadgdlknhbnaaEngOut
import Derived.OpenShut
noncomputable section
namespace Go.Ex
open Go.RowKit
noncomputable def Out.fix {α : Type} (o : Out α) : Out α := Out.rec (motive := fun _ => Out α) .fail .leaf (fun b _ _ t e => .br b t e) (fun l _ k => .same (l.map fun x => (x.1, x.1)) k) (fun a _ _ k => .code a a k) o
inductive VT where
  | fail
  | leaf (v : Value)
  | br (b : Bool) (t e : VT)
def valT (r : QRes) : VT :=
  match r with
  | .val v _ => .leaf v
  | .ex _ _ _ _ => .fail
noncomputable def Out.vals (o : Out QRes) : VT := Out.rec (motive := fun _ => VT) .fail valT (fun b _ _ t e => .br b t e) (fun _ _ k => k) (fun _ _ _ k => k) o
def VT.sel : VT → Option Value
  | .fail => none
  | .leaf v => some v
  | .br b t e => cond b t.sel e.sel
theorem same_of_fix {l : List (Option CO × Option CO)} (h : l = l.map fun x => (x.1, x.1)) : Same l := by
  intro x hx
  rw [h] at hx
  obtain ⟨y, _, rfl⟩ := List.mem_map.1 hx
  rfl
theorem Out.vals_sel {o : Out QRes} {v : Value} (hf : o = o.fix) (h : o.vals.sel = some v) : ∃ H, o.sel = some (.val v H) := by
  induction o with
  | fail => cases h
  | leaf r =>
    cases r with
    | val u H => cases h; exact ⟨H, rfl⟩
    | ex x tm H df => cases h
  | br b t e iht ihe =>
    injection hf with _ h1 h2
    have h' : cond b t.vals.sel e.vals.sel = some v := h
    cases b with
    | true => exact iht h1 h'
    | false => exact ihe h2 h'
  | same l k ih =>
    injection hf with h1 h2
    obtain ⟨H, hk⟩ := ih h2 h
    exact ⟨H, (ifSame_of (same_of_fix h1)).trans hk⟩
  | code a b k ih =>
    injection hf with _ h1 h2
    obtain ⟨H, hk⟩ := ih h2 h
    exact ⟨H, (ifCode_of h1.symm).trans hk⟩
def LaidAt' (W : World) (b : Nat) (o : CO) : Prop :=
  ∃ cs t s, o = .cells cs t s true ∧ cs.all (clean 6) = true ∧ ∃ fz : Nat × Nat, W.heap[b]? = some (.cells ⟨cs⟩ t fz)
theorem LaidAt.weak {W : World} {b : Nat} {o : CO} (h : LaidAt W b o) : LaidAt' W b o := by
  obtain ⟨cs, t, s, rfl, hc, hw⟩ := h
  exact ⟨cs, t, s, rfl, hc, (0, 0), hw⟩
def Laid (H0 : CH) (W : World) : Prop := ∀ (b : Nat) (o : CO), H0[b]? = some o → o.alive = true → LaidAt' W b o
def AllDead (H0 : CH) : Prop := ∀ (b : Nat) (o : CO), H0[b]? = some o → o.alive = false
theorem Laid.of_dead {H0 : CH} (h : AllDead H0) (W : World) : Laid H0 W := fun b o hb ha => by rw [h b o hb] at ha; cases ha
theorem Laid.below {H0 : CH} {W W' : World} (h : Laid H0 W) (hb : Below W.heap.size W W') : Laid H0 W' := by
  intro b o ho ha
  obtain ⟨cs, t, s, rfl, hc, fz, hw⟩ := h b o ho ha
  refine ⟨cs, t, s, rfl, hc, fz, ?_⟩
  rw [hb.block b (lt_of_heap hw)]; exact hw
theorem WR.start' {W : World} {G : Nat} {H : CH} (hgl : gl ≤ G) (hG : H.length = G) (hobj : Laid H W) : WR W G (startE G) H W := by
  refine ⟨by simp [startE, hG], by simp [startE], Below.refl _ _, ?_, ?_, ?_, hgl, fun b e _ he => (startE_get he).2⟩
  · intro b o e hb he
    obtain ⟨_, rfl⟩ := startE_get he
    by_cases ha : o.alive = true
    · obtain ⟨cs, t, s, rfl, hc, fz, hw⟩ := hobj b o hb ha
      have hbG : ¬ G ≤ b := by have := Hp.lt hb; omega
      refine .inr ⟨⟨cs⟩, fz, hw, fun hh => absurd hh hbG, fun hh => absurd hh hbG, fun i x hx => ⟨x, by simpa using hx, VR.of_clean _ 6 x ?_⟩, fun _ => ⟨rfl, rfl, rfl⟩⟩
      · exact List.all_eq_true.1 hc x (List.mem_of_getElem? hx)
    · cases o <;> first | exact trivial | (exact absurd rfl ha)
  · intro b b' o o' e e' _ _ _ he he' _ _ hblk
    obtain ⟨_, rfl⟩ := startE_get he
    obtain ⟨_, rfl⟩ := startE_get he'
    exact hblk
  · intro b o e _ he _ hGb
    have := (startE_get he).1
    omega
theorem VRs.of_clean {E : Env} {l : List Value} (h : l.all (clean 6) = true) : VRs E ⟨l⟩ ⟨l⟩ := by
  refine ⟨rfl, fun i x x' hx hx' => ?_⟩
  rw [hx] at hx'
  cases hx'
  exact VR.of_clean E 6 x (List.all_eq_true.1 h x (List.mem_of_getElem? (by simpa using hx)))
theorem VRs.eq_of_clean {E : Env} {l : List Value} {a : Array Value} (h : l.all (clean 6) = true) (hr : VRs E ⟨l⟩ a) : a = ⟨l⟩ :=
  eq_of_VRs hr.size fun i x x' hx hx' => (hr.at_ i x x' hx hx').eq_of_clean 6 (List.all_eq_true.1 h x (List.mem_of_getElem? (by simpa using hx)))
structure Pure (P : Program) (H0 : CH) (f : FuncId) (args : List Value) (v : Value) : Prop where
  cargs : args.all (clean 6) = true
  cval : clean 6 v = true
  calls : ∀ (w : World) (ro' : Option Nat) (n : Nat) (R : Ending → World → Prop), Laid H0 w → (∀ w', Below w.heap.size w w' → R (.returned v) w') → CallsIn (FW ro') n P f ⟨args⟩ w R
theorem Pure.of_sound {P : Program} {G : Nat} {H0 : CH} {f : FuncId} {args : List Value} {v : Value} {H' : CH} (hgl : gl ≤ G) (hG : H0.length = G) (hc : (args.all (clean 6) && clean 6 v) = true) (h : Sound P G (.call f ⟨args⟩ H0) (.val v H')) : Pure P H0 f args v := by
  rw [Bool.and_eq_true] at hc
  refine ⟨hc.1, hc.2, fun w ro' n R hl hR => ?_⟩
  refine h w (startE G) ⟨args⟩ w ro' n R (WR.start' hgl hG hl) (VRs.of_clean hc.1) fun F v' w' hw hv => ?_
  rw [hv.eq_of_clean 6 hc.2]
  exact hR w' hw.below
def reqs (gs : List Nat) (H0 H : CH) : List (Option CO × Option CO) := gs.map fun b => (H[b]?, H0[b]?)
structure Vars (H0 : CH) (gs : List Nat) : Prop where
  len : H0.length = gl
  mem : ∀ (b : Nat) (o : CO), H0[b]? = some o → o.alive = true → b ∈ gs
  cells : ∀ (b : Nat) (o : CO), H0[b]? = some o → o.alive = true → ∃ cs t s, o = .cells cs t s true ∧ cs.all (clean 6) = true
theorem Vars.of_dead {H0 : CH} (hG : H0.length = gl) (h : AllDead H0) : Vars H0 [] := ⟨hG, fun b o hb ha => (by rw [h b o hb] at ha; cases ha), fun b o hb ha => (by rw [h b o hb] at ha; cases ha)⟩
theorem laid_of_WR {H0 H : CH} {G : Nat} {gs : List Nat} (hV : Vars H0 gs) (hs : Same (reqs gs H0 H)) {w0 w : World} {E : Env} (hw : WR w0 G E H w) : Laid H0 w := by
  intro b o hb ha
  obtain ⟨cs, t, s, rfl, hc⟩ := hV.cells b o hb ha
  have hH : H[b]? = H0[b]? := hs (H[b]?, H0[b]?) (List.mem_map.2 ⟨b, hV.mem b _ hb ha, rfl⟩)
  rw [hb] at hH
  have hltg : b < gl := by rw [← hV.len]; exact Hp.lt hb
  have hlt : b < G := by have := hw.old.1; omega
  have hE : b < E.length := Nat.lt_of_lt_of_le hlt hw.glen
  have he : E[b]? = some E[b] := List.getElem?_eq_getElem hE
  have hold := hw.old.2 b _ hltg he
  have hobj := hw.obj b _ _ hH he
  rw [hold] at hobj
  obtain ⟨arr, fz, h1, h2, h3, h4, h5⟩ := hobj.there (.inr rfl)
  have hsz : arr.size = cs.length := (h5 rfl).2.2
  have harr : arr = ⟨cs⟩ := by
    refine eq_of_VRs (a := ⟨cs⟩) (by simp [hsz]) fun i x x' hx hx' => ?_
    obtain ⟨y, hy, hr⟩ := h4 i x (by simpa using hx)
    have hy' : arr[i]? = some y := by
      have : arr[0 + i]? = some y := hy
      rwa [Nat.zero_add] at this
    rw [hy'] at hx'
    cases hx'
    exact hr.eq_of_clean 6 (List.all_eq_true.1 hc x (List.mem_of_getElem? (by simpa using hx)))
  exact ⟨cs, t, s, rfl, hc, fz, by rw [← harr]; exact h1⟩
theorem WR.later {w0 : World} {G : Nat} {E : Env} {H : CH} {w w' : World} (h : WR w0 G E H w) (hb : Below w.heap.size w w') : WR w0 G E H w' := by
  refine ⟨h.len, h.glen, h.below.trans (hb.mono h.below.size), ?_, h.inj, ?_, h.old⟩
  · intro b o e x y
    exact ORg.keep (fun k hk => hb.block k hk) (h.obj b o e x y)
  · intro b o e x y ha hG
    have := h.new b o e x y ha hG
    have := hb.size
    omega
theorem Pure.sound {P : Program} {G : Nat} {H0 H : CH} {f : FuncId} {args : List Value} {v : Value} {gs : List Nat} (h : Pure P H0 f args v) (hV : Vars H0 gs) (hs : Same (reqs gs H0 H)) : Sound P G (.call f ⟨args⟩ H) (.val v H) := by
  intro w0 E args' w ro' n R hw ha hR
  rw [VRs.eq_of_clean h.cargs ha]
  refine h.calls w ro' n R (laid_of_WR hV hs hw) fun w' hb => ?_
  refine hR [] v w' ?_ (VR.of_clean _ 6 v h.cval)
  rw [List.append_nil]
  exact hw.later hb
abbrev Ent := List Value → CH → Option (Option Bool × Value × CH × List (Option CO × Option CO))
abbrev Tb := FuncId → Ent
def noT : Tb := fun _ _ _ => none
def ext (T : Tb) (g : FuncId) (e : Ent) : Tb := fun f args H => cond (Nat.beq f g) (e args H) (T f args H)
def noL : Nat → Nat → TM → CH → List Nat → Option (Code × Out QRes) := fun _ _ _ _ _ => none
theorem LSound.none {P : Program} {G : Nat} : LSound P G noL := fun _ _ _ _ _ _ _ _ _ h => by cases h
theorem TSound.none {P : Program} {G : Nat} : TSound P G noT := fun _ _ _ _ _ _ _ h => by cases h
theorem TSound.alt {P : Program} {G : Nat} {T : Tb} {g g' : FuncId} {e : Ent} (h : TSound P G T) (he : ∀ args H c v H' l, e args H = some (c, v, H', l) → c.getD true = true → Same l → Sound P G (.call g ⟨args⟩ H) (.val v H')) (hg : g' % 1000000 = g := by rfl) : TSound P G (ext T g' e) := by
  intro f args H c v H' l hf hc hs
  unfold Ex.ext at hf
  cases hb : Nat.beq f g' with
  | true =>
    rw [hb] at hf
    have : f = g' := Nat.eq_of_beq_eq_true hb
    subst this
    rw [hg]
    exact he args H c v H' l hf hc hs
  | false =>
    rw [hb] at hf
    exact h f args H c v H' l hf hc hs
theorem TSound.ext {P : Program} {G : Nat} {T : Tb} {g : FuncId} {e : Ent} (h : TSound P G T) (he : ∀ args H c v H' l, e args H = some (c, v, H', l) → c.getD true = true → Same l → Sound P G (.call g ⟨args⟩ H) (.val v H')) (hg : g % 1000000 = g := by rfl) : TSound P G (Ex.ext T g e) := h.alt he hg
def pureE' (gs : List Nat) (H0 H : CH) (r : Option Value) : Option (Option Bool × Value × CH × List (Option CO × Option CO)) :=
  match r with
  | some v => some (none, v, H, reqs gs H0 H)
  | none => none
def pureE (spec : List Value → Option Value) (gs : List Nat) (H0 : CH) : Ent := fun args H => pureE' gs H0 H (spec args)
theorem TSound.pure {P : Program} {G : Nat} {T : Tb} {g : FuncId} {spec : List Value → Option Value} {gs : List Nat} {H0 : CH} (hV : Vars H0 gs) (h : TSound P G T) (he : ∀ args v, spec args = some v → Pure P H0 g args v) (hg : g % 1000000 = g := by rfl) :
    TSound P G (Ex.ext T g (pureE spec gs H0)) := by
  refine h.ext (hg := hg) fun args H c v H' l hx _ hs => ?_
  unfold pureE pureE' at hx
  split at hx
  · rename_i u hu
    cases hx
    exact (he args _ hu).sound hV hs
  · cases hx
theorem pure_run {P : Program} {G : Nat} {C : Cfg} {H0 : CH} {f : FuncId} {args : List Value} {v : Value} (n : Nat) (t : VT) (hT : TSound P G C.T) (hL : LSound P G C.L) (hgl : gl ≤ G) (hG : H0.length = G) (hc : (args.all (clean 6) && clean 6 v) = true)
    (h1 : execO P G C n (.call f ⟨args⟩ H0) = (execO P G C n (.call f ⟨args⟩ H0)).fix) (h2 : (execO P G C n (.call f ⟨args⟩ H0)).vals = t) (h3 : t.sel = some v) : Pure P H0 f args v := by
  obtain ⟨H', hs⟩ := Out.vals_sel h1 (by rw [h2]; exact h3)
  exact Pure.of_sound hgl hG hc (execO_sound hT hL n _ _ hs)
end Go.Ex
/- Engine, part 30: a listed variable lies as its datum says: what is read tells the cells. -/
noncomputable section
namespace Go.Ex
open Go.RowKit
end Go.Ex
