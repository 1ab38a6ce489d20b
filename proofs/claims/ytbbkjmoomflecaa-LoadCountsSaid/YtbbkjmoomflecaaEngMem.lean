/- Engine, part 33: a call that reads what its arguments lead to: told over a small heap of its own, used in any. -/
import Derived.Test.YtbbkjmoomflecaaEngRound
noncomputable section
namespace Go.Ex
open Go.RowKit

/-- The call is run over the blocks that its arguments lead to, and no other ones; it returns a value that names no block, and leaves all as it was. -/
theorem Sound.small {P : Program} {G : Nat} {f : FuncId} {args args2 : List Value} {H Hs Hs' : CH} {v : Value} (ρ : List Nat) (hs : Sound P Hs.length (.call f ⟨args2⟩ Hs) (.val v Hs')) (hv : clean 6 v = true) (hgl : gl ≤ Hs.length)
    (hlen : ρ.length = Hs.length) (hid : ∀ b, b < gl → ρ[b]? = some b) (_hnd : ρ.Nodup) (hlt : ∀ c ∈ ρ, c < H.length) (hargs : args2.length = args.length) (hrn : ∀ (i : Nat) (x x' : Value), args2[i]? = some x → args[i]? = some x' → RN ρ x x')
    (hH : ∀ (b c : Nat) (o : CO), Hs[b]? = some o → ρ[b]? = some c → o.alive = true → ∃ o', H[c]? = some o' ∧ RO ρ o o') : Sound P G (.call f ⟨args⟩ H) (.val v H) := by
  intro w0 E args' w ro' n R hw ha hR
  have hltE : ∀ c ∈ ρ, c < E.length := fun c hc => by rw [hw.len]; exact hlt c hc
  have hElen : (renE ρ E).length = ρ.length := by unfold renE; simp
  have back : ∀ (b : Nat) (o : CO) (e : En), Hs[b]? = some o → (renE ρ E)[b]? = some e → o.alive = true → ∃ c o', ρ[b]? = some c ∧ E[c]? = some e ∧ H[c]? = some o' ∧ RO ρ o o' := by
    intro b o e hb he hal
    obtain ⟨c, hc, hec⟩ := renE_inv hltE he
    obtain ⟨o', hH1, hro⟩ := hH b c o hb hc hal
    exact ⟨c, o', hc, hec, hH1, hro⟩
  have hw2 : WR w Hs.length (renE ρ E) Hs w := by
    refine ⟨by rw [hElen, hlen], by rw [hElen, hlen]; omega, Below.refl _ _, ?_, ?_, ?_, hgl, ?_⟩
    · intro b o e hb he
      by_cases hal : o.alive = true
      · obtain ⟨c, o', hc, hec, hH1, hro⟩ := back b o e hb he hal
        exact hro.org (fun hGb => by have := Hp.lt hb; omega) (hw.obj c o' e hH1 hec)
      · cases o <;> first | exact trivial | exact absurd rfl hal
    · intro b b' o o' e e' hGG hb hb'
      have h1 := Hp.lt hb
      have h2 := Hp.lt hb'
      omega
    · intro b o e hb _ _ hG
      have := Hp.lt hb
      omega
    · intro b e hb he
      obtain ⟨c, hc, hec⟩ := renE_inv hltE he
      rw [hid b hb] at hc
      cases hc
      exact hw.old.2 b e hb hec
  have ha2 : VRs (renE ρ E) ⟨args2⟩ args' := by
    refine ⟨by have := ha.size; simp at this ⊢; omega, fun i x y hx hy => ?_⟩
    have hx' : args2[i]? = some x := by simpa using hx
    have hi : i < args.length := by rw [← hargs]; exact (List.getElem?_eq_some_iff.1 hx').1
    have hz : args[i]? = some args[i] := List.getElem?_eq_getElem hi
    exact (hrn i x _ hx' hz).vr (ha.at_ i _ y (by simp [hz]) hy)
  refine hs w (renE ρ E) args' w ro' n R hw2 ha2 fun F v' w' hw' hv' => ?_
  rw [hv'.eq_of_clean 6 hv]
  refine hR [] v w' ?_ (VR.of_clean _ 6 v hv)
  rw [List.append_nil]
  exact hw.later hw'.below
/-- what is new behind a call: its blocks are told behind all others -/
def pushesL (H : CH) (nb : List CO) : CH := nb.foldl (fun h o => h.push o) H
theorem Sound.smallN {P : Program} {G : Nat} {f : FuncId} {args args2 : List Value} {H Hs Hs' : CH} {v u : Value} (ρ κ : List Nat) (nb : List CO) (hs : Sound P Hs.length (.call f ⟨args2⟩ Hs) (.val v Hs')) (hgl : gl ≤ Hs.length)
    (hlen : ρ.length = Hs.length) (hid : ∀ b, b < gl → ρ[b]? = some b) (_hnd : ρ.Nodup) (hlt : ∀ c ∈ ρ, c < H.length) (hargs : args2.length = args.length) (hrn : ∀ (i : Nat) (x x' : Value), args2[i]? = some x → args[i]? = some x' → RN ρ x x')
    (hH : ∀ (b c : Nat) (o : CO), Hs[b]? = some o → ρ[b]? = some c → o.alive = true → ∃ o', H[c]? = some o' ∧ RO ρ o o')
    (hκ : κ.length = nb.length) (hκn : κ.Nodup) (hκg : ∀ c ∈ κ, Hs.length ≤ c ∧ c < Hs'.length) (hu : RN (List.replicate H.length Hs'.length ++ κ) u v)
    (hnb : ∀ (j c : Nat) (o : CO), nb[j]? = some o → κ[j]? = some c → o.alive = true → ∃ o', Hs'[c]? = some o' ∧ RO (List.replicate H.length Hs'.length ++ κ) o o') : Sound P G (.call f ⟨args⟩ H) (.val u (pushesL H nb)) := by
  intro w0 E args' w ro' n R hw ha hR
  have hltE : ∀ c ∈ ρ, c < E.length := fun c hc => by rw [hw.len]; exact hlt c hc
  have hElen : (renE ρ E).length = ρ.length := by unfold renE; simp
  have back : ∀ (b : Nat) (o : CO) (e : En), Hs[b]? = some o → (renE ρ E)[b]? = some e → o.alive = true → ∃ c o', ρ[b]? = some c ∧ E[c]? = some e ∧ H[c]? = some o' ∧ RO ρ o o' := by
    intro b o e hb he hal
    obtain ⟨c, hc, hec⟩ := renE_inv hltE he
    obtain ⟨o', hH1, hro⟩ := hH b c o hb hc hal
    exact ⟨c, o', hc, hec, hH1, hro⟩
  have hw2 : WR w Hs.length (renE ρ E) Hs w := by
    refine ⟨by rw [hElen, hlen], by rw [hElen, hlen]; omega, Below.refl _ _, ?_, ?_, ?_, hgl, ?_⟩
    · intro b o e hb he
      by_cases hal : o.alive = true
      · obtain ⟨c, o', hc, hec, hH1, hro⟩ := back b o e hb he hal
        exact hro.org (fun hGb => by have := Hp.lt hb; omega) (hw.obj c o' e hH1 hec)
      · cases o <;> first | exact trivial | exact absurd rfl hal
    · intro b b' o o' e e' hGG hb hb'
      have h1 := Hp.lt hb
      have h2 := Hp.lt hb'
      omega
    · intro b o e hb _ _ hG
      have := Hp.lt hb
      omega
    · intro b e hb he
      obtain ⟨c, hc, hec⟩ := renE_inv hltE he
      rw [hid b hb] at hc
      cases hc
      exact hw.old.2 b e hb hec
  have ha2 : VRs (renE ρ E) ⟨args2⟩ args' := by
    refine ⟨by have := ha.size; simp at this ⊢; omega, fun i x y hx hy => ?_⟩
    have hx' : args2[i]? = some x := by simpa using hx
    have hi : i < args.length := by rw [← hargs]; exact (List.getElem?_eq_some_iff.1 hx').1
    have hz : args[i]? = some args[i] := List.getElem?_eq_getElem hi
    exact (hrn i x _ hx' hz).vr (ha.at_ i _ y (by simp [hz]) hy)
  refine hs w (renE ρ E) args' w ro' n R hw2 ha2 fun F v' w' hw' hv' => ?_
  let E' : Env := renE ρ E ++ F
  let Fn : Env := κ.map fun c => E'.getD c ⟨0, 0, 0⟩
  have hE'len : E'.length = Hs'.length := hw'.len
  have hFn : ∀ (j c : Nat), κ[j]? = some c → ∃ e, E'[c]? = some e ∧ Fn[j]? = some e := by
    intro j c hj
    have hc := (hκg c (List.mem_of_getElem? hj)).2
    have hcE : c < E'.length := by rw [hE'len]; exact hc
    refine ⟨E'[c], List.getElem?_eq_getElem hcE, ?_⟩
    show (κ.map fun c => E'.getD c ⟨0, 0, 0⟩)[j]? = _
    rw [List.getElem?_map, hj]
    simp [List.getD, List.getElem?_eq_getElem hcE]
  have hElH : E.length = H.length := hw.len
  have hE : ∀ (b c : Nat) (e : En), (List.replicate H.length Hs'.length ++ κ)[b]? = some c → E'[c]? = some e → (E ++ Fn)[b]? = some e := by
    intro b c e hb he
    by_cases hbl : b < H.length
    · rw [List.getElem?_append_left (by simpa using hbl), List.getElem?_replicate, if_pos hbl] at hb
      cases hb
      have := (List.getElem?_eq_some_iff.1 he).1
      omega
    · rw [List.getElem?_append_right (by simpa using hbl)] at hb
      simp only [List.length_replicate] at hb
      obtain ⟨e', h1, h2⟩ := hFn _ c hb
      rw [h1] at he
      cases he
      rw [List.getElem?_append_right (by omega), hElH]
      exact h2
  have hpl : (pushesL H nb).length = H.length + nb.length := (heapL_spec nb H).1
  have hpg : ∀ b, (pushesL H nb)[b]? = if b < H.length then H[b]? else nb[b - H.length]? := (heapL_spec nb H).2
  have hbw : Below w.heap.size w w' := hw'.below
  have hFnl : Fn.length = nb.length := by show (κ.map _).length = _; rw [List.length_map, hκ]
  have newb : ∀ (b : Nat) (o : CO) (e : En), ¬ b < H.length → nb[b - H.length]? = some o → (E ++ Fn)[b]? = some e → o.alive = true → ∃ c o', κ[b - H.length]? = some c ∧ E'[c]? = some e ∧ Hs'[c]? = some o' ∧ RO (List.replicate H.length Hs'.length ++ κ) o o' ∧ Hs.length ≤ c := by
    intro b o e hb ho he hal
    have hj : b - H.length < κ.length := by rw [hκ]; exact (List.getElem?_eq_some_iff.1 ho).1
    have hc : κ[b - H.length]? = some κ[b - H.length] := List.getElem?_eq_getElem hj
    obtain ⟨e', h1, h2⟩ := hFn _ _ hc
    rw [List.getElem?_append_right (by omega), hElH, h2] at he
    cases he
    obtain ⟨o', h3, h4⟩ := hnb _ _ o ho hc hal
    exact ⟨_, o', hc, h1, h3, h4, (hκg _ (List.mem_of_getElem? hc)).1⟩
  refine hR Fn v' w' ⟨?_, ?_, ?_, ?_, ?_, ?_, hw.old.1, ?_⟩ (hu.vr' hE hv')
  · rw [List.length_append, hFnl, hElH, hpl]
  · rw [List.length_append]; have := hw.glen; omega
  · exact hw.below.trans (hbw.mono hw.below.size)
  · intro b o e hb he
    rw [hpg] at hb
    split at hb
    · rename_i hbl
      rw [List.getElem?_append_left (by omega)] at he
      exact ORg.mono Fn (ORg.keep (fun k hk => hbw.block k hk) (hw.obj b o e hb he))
    · rename_i hbl
      by_cases hal : o.alive = true
      · obtain ⟨c, o', _, h2, h3, h4, h5⟩ := newb b o e hbl hb he hal
        exact h4.org' hE (fun _ => h5) (hw'.obj c o' e h3 h2)
      · cases o <;> first | exact trivial | exact absurd rfl hal
  · intro b b' o o' e e' hGG hb hb' he he' hal hal' hblk
    rw [hpg] at hb hb'
    split at hb <;> split at hb'
    · rename_i h1 h2
      rw [List.getElem?_append_left (by omega)] at he he'
      exact hw.inj b b' o o' e e' hGG hb hb' he he' hal hal' hblk
    · rename_i h1 h2
      rw [List.getElem?_append_left (by omega)] at he
      obtain ⟨c, p, _, h4, h5, h6, h7⟩ := newb b' o' e' h2 hb' he' hal'
      have g1 := (hw.obj b o e hb he).lt hal
      have g2 := (hw'.new c p e' h5 h4 (h6.alive hal') h7).1
      omega
    · rename_i h1 h2
      rw [List.getElem?_append_left (by omega)] at he'
      obtain ⟨c, p, _, h4, h5, h6, h7⟩ := newb b o e h1 hb he hal
      have g1 := (hw.obj b' o' e' hb' he').lt hal'
      have g2 := (hw'.new c p e h5 h4 (h6.alive hal) h7).1
      omega
    · rename_i h1 h2
      obtain ⟨c, p, h3, h4, h5, h6, h7⟩ := newb b o e h1 hb he hal
      obtain ⟨c', p', h3', h4', h5', h6', h7'⟩ := newb b' o' e' h2 hb' he' hal'
      have hcc := hw'.inj c c' p p' e e' (.inl h7) h5 h5' h4 h4' (h6.alive hal) (h6'.alive hal') hblk
      subst hcc
      have g1 := (List.getElem?_eq_some_iff.1 h3).1
      have := (List.getElem?_inj g1 hκn).1 (h3.trans h3'.symm)
      omega
  · intro b o e hb he hal hGb
    rw [hpg] at hb
    split at hb
    · rename_i hbl
      rw [List.getElem?_append_left (by omega)] at he
      have g1 := hw.new b o e hb he hal hGb
      have g2 := hbw.size
      omega
    · rename_i hbl
      obtain ⟨c, p, _, h4, h5, h6, h7⟩ := newb b o e hbl hb he hal
      have g2 := hw'.new c p e h5 h4 (h6.alive hal) h7
      have g3 := hw.below.size
      omega
  · intro b e hb he
    have hbl : b < E.length := by have := hw.glen; have := hw.old.1; omega
    rw [List.getElem?_append_left hbl] at he
    exact hw.old.2 b e hb he

/-- a small heap: no variable, one block -/
def small1 (o : CO) : CH := heapL (List.replicate gl .dead ++ [o])
theorem small1_len (o : CO) : (small1 o).length = gl + 1 := by unfold small1; rw [heapL_len]; simp
theorem small1_get {o o' : CO} {b : Nat} (h : (small1 o)[b]? = some o') (ha : o'.alive = true) : b = gl ∧ o' = o := by
  unfold small1 at h
  rw [heapL_get] at h
  by_cases hb : b < gl
  · rw [List.getElem?_append_left (by simpa using hb), List.getElem?_replicate] at h
    rw [if_pos hb] at h
    cases h
    cases ha
  · rw [List.getElem?_append_right (by simpa using hb)] at h
    simp only [List.length_replicate] at h
    match hk : b - gl, h with
    | 0, h => exact ⟨by omega, by simpa using h.symm⟩
    | k + 1, h => simp at h
/-- a function of one slice whose cells name no block, and of values that name none -/
theorem Sound.slice1 {P : Program} {G : Nat} {f : FuncId} {b off len cap : Nat} {rest : List Value} {cs : List Value} {t s : Nat} {ex : Bool} {H Hs' : CH} {v : Value} (hb : H[b]? = some (.cells cs t s ex)) (hgb : gl ≤ b)
    (hs : Sound P (gl + 1) (.call f ⟨.slice (some ⟨gl, off, none⟩) len cap :: rest⟩ (small1 (.cells cs t s ex))) (.val v Hs')) (hv : clean 6 v = true) (hrest : rest.all Ex.flat = true) (hcs : cs.all Ex.flat = true) :
    Sound P G (.call f ⟨.slice (some ⟨b, off, none⟩) len cap :: rest⟩ H) (.val v H) := by
  have hbl := Hp.lt hb
  have hlast : (List.range gl ++ [b])[gl]? = some b := by rw [List.getElem?_append_right (by simp)]; simp
  have hfirst : ∀ c, c < gl → (List.range gl ++ [b])[c]? = some c := fun c hc => by rw [List.getElem?_append_left (by simpa using hc), List.getElem?_range hc]
  refine Sound.small (Hs := small1 (.cells cs t s ex)) (Hs' := Hs') (args2 := .slice (some ⟨gl, off, none⟩) len cap :: rest) (List.range gl ++ [b]) (by rw [small1_len]; exact hs) hv (by rw [small1_len]; omega) (by rw [small1_len]; simp) hfirst ?_ ?_ (by simp) ?_ ?_
  · rw [List.nodup_append]
    refine ⟨List.nodup_range, by simp, fun a ha c hc => ?_⟩
    rw [List.mem_range] at ha
    simp at hc
    omega
  · intro c hc
    rcases List.mem_append.1 hc with h | h
    · rw [List.mem_range] at h; omega
    · simp at h; omega
  · intro i x x' hx hx'
    cases i with
    | zero => cases hx; cases hx'; exact .slice hlast
    | succ i =>
      simp only [List.getElem?_cons_succ] at hx hx'
      rw [hx] at hx'
      cases hx'
      exact .flat (List.all_eq_true.1 hrest x (List.mem_of_getElem? hx))
  · intro b' c o ho hc ha
    obtain ⟨rfl, rfl⟩ := small1_get ho ha
    rw [hlast] at hc
    cases hc
    exact ⟨_, hb, flat_RO fun x hx => List.all_eq_true.1 hcs x hx⟩

/-- a small heap: the variables, one block -/
def small1g (g : List CO) (o : CO) : CH := heapL (g ++ [o])
/-- a function of one slice whose cells name no block, of values that name none, and of variables -/
theorem Sound.slice1g {P : Program} {G : Nat} {f : FuncId} {b off len cap : Nat} {rest : List Value} {cs : List Value} {t s : Nat} {ex : Bool} {H Hs' : CH} {v : Value} {g : List CO} (hg : g.length = gl) (hgf : ∀ o ∈ g, FlatO o) (hgH : ∀ (b : Nat) (o : CO), g[b]? = some o → o.alive = true → H[b]? = some o)
    (hb : H[b]? = some (.cells cs t s ex)) (hgb : gl ≤ b)
    (hs : Sound P (gl + 1) (.call f ⟨.slice (some ⟨gl, off, none⟩) len cap :: rest⟩ (small1g g (.cells cs t s ex))) (.val v Hs')) (hv : clean 6 v = true) (hrest : rest.all Ex.flat = true) (hcs : cs.all Ex.flat = true) :
    Sound P G (.call f ⟨.slice (some ⟨b, off, none⟩) len cap :: rest⟩ H) (.val v H) := by
  have hbl := Hp.lt hb
  have hl : (small1g g (.cells cs t s ex)).length = gl + 1 := by unfold small1g; rw [heapL_len]; simp [hg]
  have hlast : (List.range gl ++ [b])[gl]? = some b := by rw [List.getElem?_append_right (by simp)]; simp
  have hfirst : ∀ c, c < gl → (List.range gl ++ [b])[c]? = some c := fun c hc => by rw [List.getElem?_append_left (by simpa using hc), List.getElem?_range hc]
  refine Sound.small (Hs := small1g g (.cells cs t s ex)) (Hs' := Hs') (args2 := .slice (some ⟨gl, off, none⟩) len cap :: rest) (List.range gl ++ [b]) (by rw [hl]; exact hs) hv (by rw [hl]; omega) (by rw [hl]; simp) hfirst ?_ ?_ (by simp) ?_ ?_
  · rw [List.nodup_append]
    refine ⟨List.nodup_range, by simp, fun a ha c hc => ?_⟩
    rw [List.mem_range] at ha
    simp at hc
    omega
  · intro c hc
    rcases List.mem_append.1 hc with h | h
    · rw [List.mem_range] at h; omega
    · simp at h; omega
  · intro i x x' hx hx'
    cases i with
    | zero => cases hx; cases hx'; exact .slice hlast
    | succ i =>
      simp only [List.getElem?_cons_succ] at hx hx'
      rw [hx] at hx'
      cases hx'
      exact .flat (List.all_eq_true.1 hrest x (List.mem_of_getElem? hx))
  · intro b' c o ho hc ha
    unfold small1g at ho
    rw [heapL_get] at ho
    by_cases hb' : b' < gl
    · rw [List.getElem?_append_left (by rw [hg]; exact hb')] at ho
      rw [hfirst b' hb'] at hc
      cases hc
      exact ⟨o, hgH b' o ho ha, flat_RO (hgf o (List.mem_of_getElem? ho))⟩
    · rw [List.getElem?_append_right (by rw [hg]; omega), hg] at ho
      match hk : b' - gl, ho with
      | 0, ho =>
        have : b' = gl := by omega
        subst this
        rw [hlast] at hc
        cases hc
        simp at ho
        subst ho
        exact ⟨_, hb, flat_RO fun x hx => List.all_eq_true.1 hcs x hx⟩
      | k + 1, ho => simp at ho

/-! ### loops in a table -/
/-- the body of the loop that begins with a region -/
def findL (id : Nat) : Code → Option Code
  | .seq a b => match findL id a with
    | some c => some c
    | none => findL id b
  | .cond _ a b => match findL id a with
    | some c => some c
    | none => findL id b
  | .block _ b => findL id b
  | .scope b => findL id b
  | .loop b => cond (Nat.beq (firstReg b) id) (some b) (findL id b)
  | _ => none
def bodyL (fn : Func) (id : Nat) : Code :=
  match fn.body with
  | some c => match findL id c with
    | some b => b
    | none => .skip
  | none => .skip
def pairsH : List (Option CO) → List (Option CO) → List (Option CO × Option CO)
  | a :: r, b :: q => (a, b) :: pairsH r q
  | _, _ => []
theorem pairsH_same : ∀ (a b : List (Option CO)), a.length = b.length → Same (pairsH a b) → a = b
  | [], [], _, _ => rfl
  | [], _ :: _, h, _ => by simp at h
  | _ :: _, [], h, _ => by simp at h
  | x :: a, y :: b, h, hs => by
    have h1 : x = y := hs (x, y) (by simp [pairsH])
    have h2 := pairsH_same a b (by simpa using h) fun z hz => hs z (by simp [pairsH, hz])
    rw [h1, h2]
theorem obsH_len (H : CH) (ρ0 : List Nat) : ∀ (hp : List (CO × Bool)) (ρ : List Nat), (obsH H hp ρ).length = (expH ρ0 hp ρ).length
  | [], _ => by cases ‹List Nat› <;> rfl
  | _ :: _, [] => rfl
  | _ :: r, _ :: ρ => by
    show (obsH H r ρ).length + 1 = (expH ρ0 r ρ).length + 1
    rw [obsH_len H ρ0 r ρ]
def reqT (k : Nat) (live : List (Nat × Value)) (tm : TM) : List (Option CO × Option CO) := live.map fun p => (some (coOf (tval tm p.1)), some (coOf (ren (List.range k) 8 p.2)))
def reqH (k : Nat) (hp : List (CO × Bool)) (H : CH) : List (Option CO × Option CO) := pairsH (obsH H hp (List.range k)) (expH (List.range k) hp (List.range k))
abbrev LTab := Nat → Nat → TM → CH → List Nat → Option (Code × Out QRes)
def isNil (df : List Nat) : Bool :=
  match df with
  | [] => true
  | _ => false
noncomputable def loopE (L : LTab) (f0 id0 N k : Nat) (b : Code) (live0 : List (Nat × Value)) (hp0 : List (CO × Bool)) (o : Out QRes) : LTab := fun f id tm H df =>
  cond (Nat.beq f f0 && (Nat.beq id id0 && (Nat.beq tm.length N && (Nat.beq H.length k && isNil df)))) (some (.loop b, .same (reqT k live0 tm ++ reqH k hp0 H) o)) (L f id tm H df)
theorem reqT_of {k : Nat} {tm : TM} : ∀ (live : List (Nat × Value)), Same (reqT k live tm) → live.map (fun p => tval tm p.1) = live.map fun p => ren (List.range k) 8 p.2
  | [], _ => rfl
  | p :: r, h => by
    have h1 : some (coOf (tval tm p.1)) = some (coOf (ren (List.range k) 8 p.2)) := h (_, _) (List.mem_cons_self ..)
    have h2 := reqT_of r fun z hz => h z (List.mem_cons_of_mem _ hz)
    have h3 : tval tm p.1 = ren (List.range k) 8 p.2 := by
      have := Option.some.inj h1
      unfold coOf at this
      injection this with this
      injection this
    rw [List.map_cons, List.map_cons, h2, h3]
theorem LSound.loop {P : Program} {G : Nat} {L : LTab} {f0 id0 N k : Nat} {b : Code} {live0 : List (Nat × Value)} {hp0 : List (CO × Bool)} {o : Out QRes} (hL : LSound P G L) (hgood : goodR k k live0 hp0 (List.range k) = true) (hflat : ∀ o, (o, true) ∈ hp0 → FlatO o)
    (h : ∀ r, o.sel = some r → ∀ ro (tm0 : Array Value) (H0 : CH), H0.length = k → Restate k tm0 H0 (absT (tmL N live0)) (heapL (hp0.map (·.1))) → Sound P G (.code (.loop b) ro tm0 H0 []) r.abs) : LSound P G (loopE L f0 id0 N k b live0 hp0 o) := by
  intro f id tm H df c o' r ro he hr
  unfold loopE at he
  cases hc : (Nat.beq f f0 && (Nat.beq id id0 && (Nat.beq tm.length N && (Nat.beq H.length k && isNil df)))) with
  | false => rw [hc] at he; exact hL f id tm H df c o' r ro he hr
  | true =>
    rw [hc] at he
    cases he
    simp only [Bool.and_eq_true] at hc
    obtain ⟨_, _, h3, h4, h5⟩ := hc
    have hdf : df = [] := by cases df <;> first | rfl | cases h5
    subst hdf
    obtain ⟨hs, hsel⟩ := ifSame_some (k := o.sel) hr
    have hk := Nat.eq_of_beq_eq_true h4
    refine h r hsel ro (absT tm) H hk ?_
    unfold goodR at hgood
    simp only [Bool.and_eq_true, beq_iff_eq, decide_eq_true_eq] at hgood
    obtain ⟨g1, g2, g3, g4, g5, g6, g7⟩ := hgood
    refine restate_of (List.range k) live0 hp0 (Nat.eq_of_beq_eq_true h3) (Nat.eq_of_beq_eq_true g1) (Nat.le_of_ble_eq_true g2) g3 g4 (fun c hc => by rw [hk]; exact List.mem_range.1 hc) (reqT_of _ fun z hz => hs z (List.mem_append_left _ hz)) g6 ?_ g7 hflat
    exact pairsH_same _ _ (obsH_len _ _ _ _) fun z hz => hs z (List.mem_append_right _ hz)
end Go.Ex
