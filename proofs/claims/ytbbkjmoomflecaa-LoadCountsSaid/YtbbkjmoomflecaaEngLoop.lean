/- Engine, part 31: loops. Between two rounds the state is told anew: other numbers for the blocks, and what nobody reads any more is unknown. -/
import Derived.Test.YtbbkjmoomflecaaEngLaid
noncomputable section
namespace Go.Ex
open Go.RowKit

/-! ### other numbers -/
def wild : Value := .chan (some 0)
/-- the new value, the old one; ρ: the old number of each block -/
inductive RN (ρ : List Nat) : Value → Value → Prop
  | flat {v : Value} (h : flat v = true) : RN ρ v v
  | wild {v : Value} : RN ρ wild v
  | ptr {b c off : Nat} (h : ρ[b]? = some c) : RN ρ (.pointer (some ⟨b, off, none⟩)) (.pointer (some ⟨c, off, none⟩))
  | slice {b c off len cap : Nat} (h : ρ[b]? = some c) : RN ρ (.slice (some ⟨b, off, none⟩) len cap) (.slice (some ⟨c, off, none⟩) len cap)
  | map {b c : Nat} (h : ρ[b]? = some c) : RN ρ (.map (some b)) (.map (some c))
  | func {f : FuncId} {a a' c c' : Array Value} (ha : a.size = a'.size) (hc : c.size = c'.size) (h1 : ∀ (i : Nat) (x x' : Value), a[i]? = some x → a'[i]? = some x' → RN ρ x x')
      (h2 : ∀ (i : Nat) (x x' : Value), c[i]? = some x → c'[i]? = some x' → RN ρ x x') : RN ρ (.func (.func f) a c) (.func (.func f) a' c')
  | iface {t : TypeId} {v v' : Value} (h : RN ρ v v') : RN ρ (.iface t v) (.iface t v')
  | agg {a a' : Array Value} (hs : a.size = a'.size) (h : ∀ (i : Nat) (x x' : Value), a[i]? = some x → a'[i]? = some x' → RN ρ x x') : RN ρ (.agg a) (.agg a')
  | tuple {a a' : Array Value} (hs : a.size = a'.size) (h : ∀ (i : Nat) (x x' : Value), a[i]? = some x → a'[i]? = some x' → RN ρ x x') : RN ρ (.tuple a) (.tuple a')
def renE (ρ : List Nat) (E : Env) : Env := ρ.map fun b => E.getD b ⟨0, 0, 0⟩
theorem renE_get {ρ : List Nat} {E : Env} {b c : Nat} {e : En} (h : ρ[b]? = some c) (he : E[c]? = some e) : (renE ρ E)[b]? = some e := by
  unfold renE
  rw [List.getElem?_map, h]
  simp [List.getD, he]
theorem renE_inv {ρ : List Nat} {E : Env} {b : Nat} {e : En} (hlt : ∀ c ∈ ρ, c < E.length) (h : (renE ρ E)[b]? = some e) : ∃ c, ρ[b]? = some c ∧ E[c]? = some e := by
  unfold renE at h
  rw [List.getElem?_map] at h
  cases hc : ρ[b]? with
  | none => rw [hc] at h; cases h
  | some c =>
    rw [hc] at h
    refine ⟨c, rfl, ?_⟩
    have hl := hlt c (List.mem_of_getElem? hc)
    simp [List.getD, List.getElem?_eq_getElem hl] at h
    rw [List.getElem?_eq_getElem hl, h]
theorem arr_mid {a b : Array Value} (h1 : a.size = b.size) {i : Nat} {x : Value} (hx : a[i]? = some x) : ∃ y, b[i]? = some y := by
  have : i < b.size := by rw [← h1]; exact (Array.getElem?_eq_some_iff.1 hx).1
  exact ⟨b[i], Array.getElem?_eq_getElem this⟩
theorem flat_size {v : Value} (h : Ex.flat v = true) : (∀ vs, v = .agg vs → vs = #[]) ∧ (∀ vs, v = .tuple vs → vs = #[]) := by
  refine ⟨fun vs hv => ?_, fun vs hv => ?_⟩ <;> (subst hv; simpa [Ex.flat] using h)
theorem RN.vr' {ρ : List Nat} {E E1 : Env} (hE : ∀ (b c : Nat) (e : En), ρ[b]? = some c → E[c]? = some e → E1[b]? = some e) {u v : Value} (h : RN ρ u v) : ∀ {x : Value}, VR E v x → VR E1 u x := by
  induction h with
  | flat hf =>
    intro x hx
    have : x = _ := hx.eq_of_clean 1 (by
      rename_i v
      cases v <;> first
        | rfl
        | exact hf
        | (rename_i vs; have : vs = #[] := by simpa [Ex.flat] using hf
           subst this; rfl)
        | (rename_i fn a c; cases fn <;> first | exact hf | cases hf)
        | cases hf)
    rw [this]
    exact .flat hf
  | wild => intro x _; exact .wild
  | ptr h =>
    intro x hx
    cases hx with
    | flat hf => cases hf
    | ptr he => exact .ptr (hE _ _ _ h he)
  | slice h =>
    intro x hx
    cases hx with
    | flat hf => cases hf
    | slice he ho => exact .slice (hE _ _ _ h he) ho
    | nils he hs => exact .nils (hE _ _ _ h he) hs
  | map h =>
    intro x hx
    cases hx with
    | flat hf => cases hf
    | map he => exact .map (hE _ _ _ h he)
  | @func f a a' c c' ha hc h1 h2 i1 i2 =>
    intro x hx
    cases hx with
    | flat hf =>
      have hf' : (a'.isEmpty && c'.isEmpty) = true := hf
      rw [Bool.and_eq_true] at hf'
      have ea : a' = #[] := by simpa using hf'.1
      have ec : c' = #[] := by simpa using hf'.2
      subst ea; subst ec
      have : a = #[] := Array.eq_empty_of_size_eq_zero (by simpa using ha)
      subst this
      have : c = #[] := Array.eq_empty_of_size_eq_zero (by simpa using hc)
      subst this
      exact .flat rfl
    | func ka kc k1 k2 =>
      refine .func (ha.trans ka) (hc.trans kc) (fun i p q hp hq => ?_) (fun i p q hp hq => ?_)
      · obtain ⟨r, hr⟩ := arr_mid ha hp
        exact i1 i p r hp hr (k1 i r q hr hq)
      · obtain ⟨r, hr⟩ := arr_mid hc hp
        exact i2 i p r hp hr (k2 i r q hr hq)
  | iface h ih =>
    intro x hx
    cases hx with
    | flat hf => cases hf
    | iface hv => exact .iface (ih hv)
  | @agg a a' hs h ih =>
    intro x hx
    cases hx with
    | flat hf =>
      have ea : a' = #[] := by simpa [Ex.flat] using hf
      subst ea
      have : a = #[] := Array.eq_empty_of_size_eq_zero (by simpa using hs)
      subst this
      exact .flat rfl
    | agg ks k =>
      refine .agg (hs.trans ks) (fun i p q hp hq => ?_)
      obtain ⟨r, hr⟩ := arr_mid hs hp
      exact ih i p r hp hr (k i r q hr hq)
  | @tuple a a' hs h ih =>
    intro x hx
    cases hx with
    | flat hf =>
      have ea : a' = #[] := by simpa [Ex.flat] using hf
      subst ea
      have : a = #[] := Array.eq_empty_of_size_eq_zero (by simpa using hs)
      subst this
      exact .flat rfl
    | tuple ks k =>
      refine .tuple (hs.trans ks) (fun i p q hp hq => ?_)
      obtain ⟨r, hr⟩ := arr_mid hs hp
      exact ih i p r hp hr (k i r q hr hq)

theorem RN.vr {ρ : List Nat} {E : Env} {u v : Value} (h : RN ρ u v) {x : Value} (hx : VR E v x) : VR (renE ρ E) u x := h.vr' (fun _ _ _ h he => renE_get h he) hx
/-- a block, told anew -/
inductive RO (ρ : List Nat) : CO → CO → Prop
  | dead {o : CO} : RO ρ .dead o
  | cells {cs cs' : List Value} {t s : Nat} {ex ex' : Bool} (hex : ex = true → ex' = true) (hl : cs.length = cs'.length) (h : ∀ (i : Nat) (x x' : Value), cs[i]? = some x → cs'[i]? = some x' → RN ρ x x') : RO ρ (.cells cs t s ex) (.cells cs' t s ex')
  | dfr {b : Bool} : RO ρ (.dfr b) (.dfr b)
  | iter {s : ByteArray} {p : Nat} : RO ρ (.iter s p) (.iter s p)
theorem RO.alive {ρ : List Nat} {o o' : CO} (h : RO ρ o o') (ha : o.alive = true) : o'.alive = true := by
  cases h <;> first | rfl | cases ha
theorem RO.or' {ρ : List Nat} {E E1 : Env} (hE : ∀ (b c : Nat) (e : En), ρ[b]? = some c → E[c]? = some e → E1[b]? = some e) {e : En} {w : World} {o o' : CO} (h : RO ρ o o') (hw : OR E e w o') : OR E1 e w o := by
  cases h with
  | dead => exact trivial
  | cells hex hl h =>
    obtain ⟨arr, fz, h1, h2, h3, h4, h5⟩ := hw
    refine ⟨arr, fz, h1, h2, by rw [hl]; exact h3, fun i x hx => ?_, fun hh => h5 (hex hh)⟩
    have hi := (List.getElem?_eq_some_iff.1 hx).1
    rw [hl] at hi
    obtain ⟨y, hy, hr⟩ := h4 i _ (List.getElem?_eq_getElem hi)
    exact ⟨y, hy, (h i x _ hx (List.getElem?_eq_getElem hi)).vr' hE hr⟩
  | dfr => exact hw
  | iter => exact hw
theorem RO.org' {p q : Prop} {ρ : List Nat} {E E1 : Env} (hE : ∀ (b c : Nat) (e : En), ρ[b]? = some c → E[c]? = some e → E1[b]? = some e) {e : En} {w : World} {o o' : CO} (h : RO ρ o o') (hq : q → p) (hw : ORg p E e w o') : ORg q E1 e w o := by
  cases h with
  | dead => exact trivial
  | cells hex hl h =>
    rcases hw with ⟨h1, h2, hn, h4⟩ | ⟨arr, fz, h1, h2, h3, h4, h5⟩
    · subst h1
      exact .inl ⟨List.eq_nil_of_length_eq_zero hl, Bool.eq_false_iff.2 (fun hx => by rw [hex hx] at h2; cases h2), fun x => hn (hq x), h4⟩
    refine .inr ⟨arr, fz, h1, fun x => h2 (hq x), fun x => by rw [hl]; exact h3 (hq x), fun i x hx => ?_, fun hh => by rw [hl]; exact h5 (hex hh)⟩
    have hi := (List.getElem?_eq_some_iff.1 hx).1
    rw [hl] at hi
    obtain ⟨y, hy, hr⟩ := h4 i _ (List.getElem?_eq_getElem hi)
    exact ⟨y, hy, (h i x _ hx (List.getElem?_eq_getElem hi)).vr' hE hr⟩
  | dfr => exact hw
  | iter => exact hw
theorem RO.org {p q : Prop} {ρ : List Nat} {E : Env} {e : En} {w : World} {o o' : CO} (h : RO ρ o o') (hq : q → p) (hw : ORg p E e w o') : ORg q (renE ρ E) e w o := h.org' (fun _ _ _ h he => renE_get h he) hq hw
theorem RO.or {ρ : List Nat} {E : Env} {e : En} {w : World} {o o' : CO} (h : RO ρ o o') (hw : OR E e w o') : OR (renE ρ E) e w o := h.or' (fun _ _ _ h he => renE_get h he) hw

/-- the state of a frame, told anew: the first k blocks keep their numbers -/
structure Restate (k : Nat) (tm1 : Array Value) (H1 : CH) (tm2 : Array Value) (H2 : CH) : Prop where
  ex : ∃ ρ : List Nat, ρ.length = H2.length ∧ k ≤ ρ.length ∧ (∀ b, b < k → ρ[b]? = some b) ∧ ρ.Nodup ∧ (∀ c ∈ ρ, c < H1.length) ∧ tm2.size = tm1.size ∧
    (∀ (i : Nat) (x x' : Value), tm2[i]? = some x → tm1[i]? = some x' → RN ρ x x') ∧ ∀ (b c : Nat) (o : CO), H2[b]? = some o → ρ[b]? = some c → o.alive = true → ∃ o', H1[c]? = some o' ∧ RO ρ o o'
theorem Restate.use {k : Nat} {tm1 tm2 : Array Value} {H1 H2 : CH} (h : Restate k tm1 H1 tm2 H2) {w0 : World} {G : Nat} (hG : G ≤ k) {E : Env} {w : World} (hw : WR w0 G E H1 w) {a : Array Value} (ha : VRs E tm1 a) :
    ∃ E2 : Env, E2.take k = E.take k ∧ WR w0 G E2 H2 w ∧ VRs E2 tm2 a := by
  obtain ⟨ρ, hlen, hk, hid, hnd, hlt, hsz, htm, hH⟩ := h.ex
  have hltE : ∀ c ∈ ρ, c < E.length := fun c hc => by rw [hw.len]; exact hlt c hc
  have hElen : (renE ρ E).length = ρ.length := by unfold renE; simp
  refine ⟨renE ρ E, ?_, ?_, ?_⟩
  · apply List.ext_getElem?
    intro b
    rw [List.getElem?_take, List.getElem?_take]
    split
    · rename_i hb
      have hb' := hid b hb
      have hbE : b < E.length := hltE b (List.mem_of_getElem? hb')
      rw [renE_get hb' (List.getElem?_eq_getElem hbE), List.getElem?_eq_getElem hbE]
    · rfl
  · have back : ∀ (b : Nat) (o : CO) (e : En), H2[b]? = some o → (renE ρ E)[b]? = some e → o.alive = true → ∃ c o', ρ[b]? = some c ∧ E[c]? = some e ∧ H1[c]? = some o' ∧ RO ρ o o' := by
      intro b o e hb he hal
      obtain ⟨c, hc, hec⟩ := renE_inv hltE he
      obtain ⟨o', hH1, hro⟩ := hH b c o hb hc hal
      exact ⟨c, o', hc, hec, hH1, hro⟩
    have hGc : ∀ (b c : Nat), ρ[b]? = some c → G ≤ b → G ≤ c := by
      intro b c hc hGb
      rcases Nat.lt_or_ge b k with hbk | hbk
      · have := hid b hbk
        rw [hc] at this
        cases this
        exact hGb
      · rcases Nat.lt_or_ge c G with hcG | hcG
        · exfalso
          have hck : c < k := by omega
          have h1 := (List.getElem?_eq_some_iff.1 hc).1
          have := (List.getElem?_inj h1 hnd).1 (hc.trans (hid c hck).symm)
          omega
        · exact hcG
    refine ⟨by rw [hElen, hlen], by rw [hElen]; omega, hw.below, ?_, ?_, ?_, ?_⟩
    · intro b o e hb he
      by_cases hal : o.alive = true
      · obtain ⟨c, o', hc, hec, hH1, hro⟩ := back b o e hb he hal
        exact hro.org (hGc b c hc) (hw.obj c o' e hH1 hec)
      · cases o <;> first | exact trivial | exact absurd rfl hal
    · intro b b' o o' e e' hGG hb hb' he he' hal hal' hblk
      obtain ⟨c, p, hc, hec, hH1, hro⟩ := back b o e hb he hal
      obtain ⟨c', p', hc', hec', hH1', hro'⟩ := back b' o' e' hb' he' hal'
      have hcc := hw.inj c c' p p' e e' (hGG.imp (hGc b c hc) (hGc b' c' hc')) hH1 hH1' hec hec' (hro.alive hal) (hro'.alive hal') hblk
      subst hcc
      have h1 := (List.getElem?_eq_some_iff.1 hc).1
      exact (List.getElem?_inj h1 hnd).1 (hc.trans hc'.symm)
    · intro b o e hb he hal hGb
      obtain ⟨c, p, hc, hec, hH1, hro⟩ := back b o e hb he hal
      exact hw.new c p e hH1 hec (hro.alive hal) (hGc b c hc hGb)
    · refine ⟨hw.old.1, fun b e hb he => ?_⟩
      obtain ⟨c, hc, hec⟩ := renE_inv hltE he
      have := hid b (by have := hw.old.1; omega)
      rw [hc] at this
      cases this
      exact hw.old.2 b e hb hec
  · refine ⟨hsz.trans ha.size, fun i x y hx hy => ?_⟩
    obtain ⟨z, hz⟩ := arr_mid hsz hx
    exact (htm i x z hx hz).vr (ha.at_ i z y hz hy)

/-! ### the rule -/
theorem take_app {E F : Env} {k : Nat} (h : k ≤ E.length) : (E ++ F).take k = E.take k := List.take_append_of_le_length h
theorem get_of_take {E E' : Env} {k l : Nat} (h : E'.take k = E.take k) (hl : l < k) : E'[l]? = E[l]? := by
  have := congrArg (fun x => x[l]?) h
  simp only [List.getElem?_take, if_pos hl] at this
  exact this
theorem DR.take {E E' : Env} {k : Nat} (h : E'.take k = E.take k) {df : List Nat} {ds : List Deferred} (hd : DR E df ds) (hk : ∀ r ∈ df, r < k) : DR E' df ds := by
  induction hd with
  | nil => exact .nil
  | @cons r e df ds he hd ih =>
    exact .cons (by rw [get_of_take h (hk r (by simp))]; exact he) (ih fun r' hr' => hk r' (by simp [hr']))
theorem RR.take {E E' : Env} {k : Nat} (h : E'.take k = E.take k) {ro ro' : Option Nat} (hr : RR E ro ro') (hk : ∀ l, ro = some l → l < k) : RR E' ro ro' := by
  cases ro with
  | none => cases ro' <;> exact hr
  | some l =>
    cases ro' with
    | none => exact hr
    | some b =>
      obtain ⟨e, h1, h2⟩ := hr
      exact ⟨e, by rw [get_of_take h (hk l rfl)]; exact h1, h2⟩

/-- one round, or the last one -/
def Round (P : Program) (G : Nat) (b : Code) (df : List Nat) {σ : Type} (tm : σ → Array Value) (H : σ → CH) (m : σ → Nat) (Good : σ → Prop) (k : Nat) (x : CX) (tmF : Array Value) (HF : CH) (ro : Option Nat) (s : σ) : Prop :=
  (∃ s' tm1 H1, Good s' ∧ m s' < m s ∧ Sound P G (.code b ro (tm s) (H s) df) (.ex .normal tm1 H1 df) ∧ Restate k tm1 H1 (tm s') (H s')) ∨
    (x ≠ .normal ∧ ∃ tm1 H1, Sound P G (.code b ro (tm s) (H s) df) (.ex x tm1 H1 df) ∧ Restate k tm1 H1 tmF HF)
theorem rounds {P : Program} {G : Nat} {b : Code} {df : List Nat} {σ : Type} {tm : σ → Array Value} {H : σ → CH} {m : σ → Nat} {Good : σ → Prop} {k : Nat} (hG : G ≤ k) (hdf : ∀ r ∈ df, r < k) {x : CX} {tmF : Array Value} {HF : CH} (ro : Option Nat)
    (hro : ∀ l, ro = some l → l < k) (step : ∀ s, Good s → Round P G b df tm H m Good k x tmF HF ro s) {w0 : World} {ro' : Option Nat} {n : Nat} {Q : Exit → Act → World → Prop} :
    ∀ (j : Nat) (s : σ), m s ≤ j → Good s → ∀ (E : Env) (a : Act) (w : World), WR w0 G E (H s) w → VRs E (tm s) a.tmps → DR E df a.defers → RR E ro ro' → k ≤ E.length →
      (∀ E' a' w', E'.take k = E.take k → WR w0 G E' HF w' → VRs E' tmF a'.tmps → DR E' df a'.defers → Q x.toExit a' w') → LoopWp (FW ro') n P b Q a w := by
  intro j
  induction j with
  | zero =>
    intro s hm hg E a w hw ht hd hr hk hq
    rcases step s hg with ⟨s', tm1, H1, _, hlt, _, _⟩ | ⟨hx, tm1, H1, hs, hre⟩
    · omega
    · refine .of_body ((hs w0 E a w ro' n _ hw ht hd hr fun F a' w' h1 h2 h3 => ?_).1)
      have : Exit.then (fun a w => LoopWp (FW ro') n P b Q a w) Q x.toExit a' w' = Q x.toExit a' w' := by cases x <;> first | rfl | exact absurd rfl hx
      rw [this]
      obtain ⟨E2, e1, e2, e3⟩ := hre.use hG h1 h2
      rw [take_app hk] at e1
      exact hq E2 a' w' e1 e2 e3 (h3.take (by rw [e1, take_app hk]) hdf)
  | succ j ih =>
    intro s hm hg E a w hw ht hd hr hk hq
    rcases step s hg with ⟨s', tm1, H1, hg', hlt, hs, hre⟩ | ⟨hx, tm1, H1, hs, hre⟩
    · refine .of_body ((hs w0 E a w ro' n _ hw ht hd hr fun F a' w' h1 h2 h3 => ?_).1)
      obtain ⟨E2, e1, e2, e3⟩ := hre.use hG h1 h2
      rw [take_app hk] at e1
      have hk2 : k ≤ E2.length := by
        have h0 := congrArg List.length e1
        rw [List.length_take, List.length_take] at h0
        omega
      show LoopWp (FW ro') n P b Q a' w'
      exact ih s' (by omega) hg' E2 a' w' e2 e3 (h3.take (by rw [e1, take_app hk]) hdf) (hr.take e1 hro) hk2 fun E' a'' w'' h4 => hq E' a'' w'' (h4.trans e1)
    · refine .of_body ((hs w0 E a w ro' n _ hw ht hd hr fun F a' w' h1 h2 h3 => ?_).1)
      have : Exit.then (fun a w => LoopWp (FW ro') n P b Q a w) Q x.toExit a' w' = Q x.toExit a' w' := by cases x <;> first | rfl | exact absurd rfl hx
      rw [this]
      obtain ⟨E2, e1, e2, e3⟩ := hre.use hG h1 h2
      rw [take_app hk] at e1
      exact hq E2 a' w' e1 e2 e3 (h3.take (by rw [e1, take_app hk]) hdf)
/-- a loop, from its rounds: what was there keeps its numbers -/
theorem loop_sound {P : Program} {G : Nat} {b : Code} {df : List Nat} {σ : Type} {tm : σ → Array Value} {H : σ → CH} (m : σ → Nat) (Good : σ → Prop) {x : CX} {tmF tm0 : Array Value} {HF H0 : CH} (ro : Option Nat) (s0 : σ) (hG : G ≤ H0.length)
    (hdf : ∀ r ∈ df, r < H0.length) (h0 : Good s0) (hst : Restate H0.length tm0 H0 (tm s0) (H s0))
    (step : (∀ l, ro = some l → l < H0.length) → ∀ s, Good s → Round P G b df tm H m Good H0.length x tmF HF ro s) : Sound P G (.code (.loop b) ro tm0 H0 df) (.ex x tmF HF df) := by
  intro w0 E a w ro' n Q hw ht hd hr hq
  have hlen := hw.len
  have hro : ∀ l, ro = some l → l < H0.length := by
    intro l hl
    subst hl
    cases ro' with
    | none => exact hr.elim
    | some c =>
      obtain ⟨e, h1, _⟩ := hr
      have := (List.getElem?_eq_some_iff.1 h1).1
      omega
  obtain ⟨E1, e1, e2, e3⟩ := hst.use hG hw ht
  have hk1 : H0.length ≤ E1.length := by
    have h9 := congrArg List.length e1
    rw [List.length_take, List.length_take] at h9
    omega
  have hl : LoopWp (FW ro') n P b Q a w := by
    refine rounds hG hdf ro hro (step hro) (m s0) s0 (Nat.le_refl _) h0 E1 a w e2 e3 (hd.take e1 hdf) (hr.take e1 hro) hk1 fun E' a' w' h1 h2 h3 h4 => ?_
    have hE : E'.take H0.length = E := by
      rw [h1, e1, ← hlen]; exact List.take_length
    have hE' : E' = E ++ E'.drop H0.length := by
      conv => lhs; rw [← List.take_append_drop H0.length E', hE]
    rw [hE'] at h2 h3 h4
    exact hq _ a' w' h2 h3 h4
  exact ⟨hl.loop, fun b' hb => by cases hb; exact hl⟩
end Go.Ex
