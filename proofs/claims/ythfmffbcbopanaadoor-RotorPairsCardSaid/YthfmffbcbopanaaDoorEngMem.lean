/- Engine, part 33: a call that reads what its arguments lead to: told over a small heap of its own, used in any. -/
import Derived.Test.YthfmffbcbopanaaDoorEngRound
noncomputable section
namespace Go.Ex
open Go.RowKit

/-- The call is run over the blocks that its arguments lead to, and no other ones; it returns a value that names no block, and leaves all as it was. -/
theorem Sound.small {P : Program} {G : Nat} {f : FuncId} {args args2 : List Value} {H Hs Hs' : CH} {v : Value} (ρ : List Nat) (hs : Sound P Hs.length (.call f ⟨args2⟩ Hs) (.val v Hs')) (hv : clean 6 v = true) (hgl : gl ≤ Hs.length)
    (hlen : ρ.length = Hs.length) (hid : ∀ b, b < gl → ρ[b]? = some b) (hnd : ρ.Nodup) (hlt : ∀ c ∈ ρ, c < H.length) (hargs : args2.length = args.length) (hrn : ∀ (i : Nat) (x x' : Value), args2[i]? = some x → args[i]? = some x' → RN ρ x x')
    (hH : ∀ (b c : Nat) (o : CO), Hs[b]? = some o → ρ[b]? = some c → o.alive = true → ∃ o', H[c]? = some o' ∧ RO ρ o o') : Sound P G (.call f ⟨args⟩ H) (.val v H) := by
  intro w0 E args' w ro' n R hw ha hR
  have hltE : ∀ c ∈ ρ, c < E.length := fun c hc => by rw [hw.len]; exact hlt c hc
  have hElen : (renE ρ E).length = ρ.length := by unfold renE; simp
  have back : ∀ (b : Nat) (o : CO) (e : En), Hs[b]? = some o → (renE ρ E)[b]? = some e → o.alive = true → ∃ c o', ρ[b]? = some c ∧ E[c]? = some e ∧ H[c]? = some o' ∧ RO ρ o o' := by
    intro b o e hb he hal
    obtain ⟨c, hc, hec⟩ := renE_inv hltE he
    obtain ⟨o', hH1, hro⟩ := hH b c o hb hc hal
    exact ⟨c, o', hc, hec, hH1, hro⟩
  have hw2 : WR w Hs.length (renE ρ E) Hs w := by
    refine ⟨by rw [hElen, hlen], by rw [hElen, hlen]; omega, Below.refl _ _, ?_, ?_, ?_, hgl, ?_⟩
    · intro b o e hb he
      by_cases hal : o.alive = true
      · obtain ⟨c, o', hc, hec, hH1, hro⟩ := back b o e hb he hal
        exact hro.or (hw.obj c o' e hH1 hec)
      · cases o <;> first | exact trivial | exact absurd rfl hal
    · intro b b' o o' e e' hb hb' he he' hal hal' hblk
      obtain ⟨c, p, hc, hec, hH1, hro⟩ := back b o e hb he hal
      obtain ⟨c', p', hc', hec', hH1', hro'⟩ := back b' o' e' hb' he' hal'
      have hcc := hw.inj c c' p p' e e' hH1 hH1' hec hec' (hro.alive hal) (hro'.alive hal') hblk
      subst hcc
      have h1 := (List.getElem?_eq_some_iff.1 hc).1
      exact (List.getElem?_inj h1 hnd).1 (hc.trans hc'.symm)
    · intro b o e hb _ _ hG
      have := Hp.lt hb
      omega
    · intro b e hb he
      obtain ⟨c, hc, hec⟩ := renE_inv hltE he
      rw [hid b hb] at hc
      cases hc
      exact hw.old.2 b e hb hec
  have ha2 : VRs (renE ρ E) ⟨args2⟩ args' := by
    refine ⟨by have := ha.size; simp at this ⊢; omega, fun i x y hx hy => ?_⟩
    have hx' : args2[i]? = some x := by simpa using hx
    have hi : i < args.length := by rw [← hargs]; exact (List.getElem?_eq_some_iff.1 hx').1
    have hz : args[i]? = some args[i] := List.getElem?_eq_getElem hi
    exact (hrn i x _ hx' hz).vr (ha.at_ i _ y (by simp [hz]) hy)
  refine hs w (renE ρ E) args' w ro' n R hw2 ha2 fun F v' w' hw' hv' => ?_
  rw [hv'.eq_of_clean 6 hv]
  refine hR [] v w' ?_ (VR.of_clean _ 6 v hv)
  rw [List.append_nil]
  exact hw.later hw'.below
/-- a small heap: no variable, one block -/
def small1 (o : CO) : CH := heapL (List.replicate gl .dead ++ [o])
theorem small1_len (o : CO) : (small1 o).length = gl + 1 := by unfold small1; rw [heapL_len]; simp
theorem small1_get {o o' : CO} {b : Nat} (h : (small1 o)[b]? = some o') (ha : o'.alive = true) : b = gl ∧ o' = o := by
  unfold small1 at h
  rw [heapL_get] at h
  by_cases hb : b < gl
  · rw [List.getElem?_append_left (by simpa using hb), List.getElem?_replicate] at h
    rw [if_pos hb] at h
    cases h
    cases ha
  · rw [List.getElem?_append_right (by simpa using hb)] at h
    simp only [List.length_replicate] at h
    match hk : b - gl, h with
    | 0, h => exact ⟨by omega, by simpa using h.symm⟩
    | k + 1, h => simp at h
/-- a function of one slice whose cells name no block, and of values that name none -/
theorem Sound.slice1 {P : Program} {G : Nat} {f : FuncId} {b off len cap : Nat} {rest : List Value} {cs : List Value} {t s : Nat} {ex : Bool} {H Hs' : CH} {v : Value} (hb : H[b]? = some (.cells cs t s ex)) (hgb : gl ≤ b)
    (hs : Sound P (gl + 1) (.call f ⟨.slice (some ⟨gl, off, none⟩) len cap :: rest⟩ (small1 (.cells cs t s ex))) (.val v Hs')) (hv : clean 6 v = true) (hrest : rest.all Ex.flat = true) (hcs : cs.all Ex.flat = true) :
    Sound P G (.call f ⟨.slice (some ⟨b, off, none⟩) len cap :: rest⟩ H) (.val v H) := by
  have hbl := Hp.lt hb
  have hlast : (List.range gl ++ [b])[gl]? = some b := by rw [List.getElem?_append_right (by simp)]; simp
  have hfirst : ∀ c, c < gl → (List.range gl ++ [b])[c]? = some c := fun c hc => by rw [List.getElem?_append_left (by simpa using hc), List.getElem?_range hc]
  refine Sound.small (Hs := small1 (.cells cs t s ex)) (Hs' := Hs') (args2 := .slice (some ⟨gl, off, none⟩) len cap :: rest) (List.range gl ++ [b]) (by rw [small1_len]; exact hs) hv (by rw [small1_len]; omega) (by rw [small1_len]; simp) hfirst ?_ ?_ (by simp) ?_ ?_
  · rw [List.nodup_append]
    refine ⟨List.nodup_range, by simp, fun a ha c hc => ?_⟩
    rw [List.mem_range] at ha
    simp at hc
    omega
  · intro c hc
    rcases List.mem_append.1 hc with h | h
    · rw [List.mem_range] at h; omega
    · simp at h; omega
  · intro i x x' hx hx'
    cases i with
    | zero => cases hx; cases hx'; exact .slice hlast
    | succ i =>
      simp only [List.getElem?_cons_succ] at hx hx'
      rw [hx] at hx'
      cases hx'
      exact .flat (List.all_eq_true.1 hrest x (List.mem_of_getElem? hx))
  · intro b' c o ho hc ha
    obtain ⟨rfl, rfl⟩ := small1_get ho ha
    rw [hlast] at hc
    cases hc
    exact ⟨_, hb, flat_RO fun x hx => List.all_eq_true.1 hcs x hx⟩

/-- a small heap: the variables, one block -/
def small1g (g : List CO) (o : CO) : CH := heapL (g ++ [o])
/-- a function of one slice whose cells name no block, of values that name none, and of variables -/
theorem Sound.slice1g {P : Program} {G : Nat} {f : FuncId} {b off len cap : Nat} {rest : List Value} {cs : List Value} {t s : Nat} {ex : Bool} {H Hs' : CH} {v : Value} {g : List CO} (hg : g.length = gl) (hgf : ∀ o ∈ g, FlatO o) (hgH : ∀ (b : Nat) (o : CO), g[b]? = some o → o.alive = true → H[b]? = some o)
    (hb : H[b]? = some (.cells cs t s ex)) (hgb : gl ≤ b)
    (hs : Sound P (gl + 1) (.call f ⟨.slice (some ⟨gl, off, none⟩) len cap :: rest⟩ (small1g g (.cells cs t s ex))) (.val v Hs')) (hv : clean 6 v = true) (hrest : rest.all Ex.flat = true) (hcs : cs.all Ex.flat = true) :
    Sound P G (.call f ⟨.slice (some ⟨b, off, none⟩) len cap :: rest⟩ H) (.val v H) := by
  have hbl := Hp.lt hb
  have hl : (small1g g (.cells cs t s ex)).length = gl + 1 := by unfold small1g; rw [heapL_len]; simp [hg]
  have hlast : (List.range gl ++ [b])[gl]? = some b := by rw [List.getElem?_append_right (by simp)]; simp
  have hfirst : ∀ c, c < gl → (List.range gl ++ [b])[c]? = some c := fun c hc => by rw [List.getElem?_append_left (by simpa using hc), List.getElem?_range hc]
  refine Sound.small (Hs := small1g g (.cells cs t s ex)) (Hs' := Hs') (args2 := .slice (some ⟨gl, off, none⟩) len cap :: rest) (List.range gl ++ [b]) (by rw [hl]; exact hs) hv (by rw [hl]; omega) (by rw [hl]; simp) hfirst ?_ ?_ (by simp) ?_ ?_
  · rw [List.nodup_append]
    refine ⟨List.nodup_range, by simp, fun a ha c hc => ?_⟩
    rw [List.mem_range] at ha
    simp at hc
    omega
  · intro c hc
    rcases List.mem_append.1 hc with h | h
    · rw [List.mem_range] at h; omega
    · simp at h; omega
  · intro i x x' hx hx'
    cases i with
    | zero => cases hx; cases hx'; exact .slice hlast
    | succ i =>
      simp only [List.getElem?_cons_succ] at hx hx'
      rw [hx] at hx'
      cases hx'
      exact .flat (List.all_eq_true.1 hrest x (List.mem_of_getElem? hx))
  · intro b' c o ho hc ha
    unfold small1g at ho
    rw [heapL_get] at ho
    by_cases hb' : b' < gl
    · rw [List.getElem?_append_left (by rw [hg]; exact hb')] at ho
      rw [hfirst b' hb'] at hc
      cases hc
      exact ⟨o, hgH b' o ho ha, flat_RO (hgf o (List.mem_of_getElem? ho))⟩
    · rw [List.getElem?_append_right (by rw [hg]; omega), hg] at ho
      match hk : b' - gl, ho with
      | 0, ho =>
        have : b' = gl := by omega
        subst this
        rw [hlast] at hc
        cases hc
        simp at ho
        subst ho
        exact ⟨_, hb, flat_RO fun x hx => List.all_eq_true.1 hcs x hx⟩
      | k + 1, ho => simp at ho

/-! ### loops in a table -/
/-- the body of the loop that begins with a region -/
def findL (id : Nat) : Code → Option Code
  | .seq a b => match findL id a with
    | some c => some c
    | none => findL id b
  | .cond _ a b => match findL id a with
    | some c => some c
    | none => findL id b
  | .block _ b => findL id b
  | .scope b => findL id b
  | .loop b => cond (Nat.beq (firstReg b) id) (some b) (findL id b)
  | _ => none
def bodyL (fn : Func) (id : Nat) : Code :=
  match fn.body with
  | some c => match findL id c with
    | some b => b
    | none => .skip
  | none => .skip
def pairsH : List (Option CO) → List (Option CO) → List (Option CO × Option CO)
  | a :: r, b :: q => (a, b) :: pairsH r q
  | _, _ => []
theorem pairsH_same : ∀ (a b : List (Option CO)), a.length = b.length → Same (pairsH a b) → a = b
  | [], [], _, _ => rfl
  | [], _ :: _, h, _ => by simp at h
  | _ :: _, [], h, _ => by simp at h
  | x :: a, y :: b, h, hs => by
    have h1 : x = y := hs (x, y) (by simp [pairsH])
    have h2 := pairsH_same a b (by simpa using h) fun z hz => hs z (by simp [pairsH, hz])
    rw [h1, h2]
theorem obsH_len (H : CH) (ρ0 : List Nat) : ∀ (hp : List (CO × Bool)) (ρ : List Nat), (obsH H hp ρ).length = (expH ρ0 hp ρ).length
  | [], _ => by cases ‹List Nat› <;> rfl
  | _ :: _, [] => rfl
  | _ :: r, _ :: ρ => by
    show (obsH H r ρ).length + 1 = (expH ρ0 r ρ).length + 1
    rw [obsH_len H ρ0 r ρ]
def reqT (k : Nat) (live : List (Nat × Value)) (tm : TM) : List (Option CO × Option CO) := live.map fun p => (some (coOf (tval tm p.1)), some (coOf (ren (List.range k) 8 p.2)))
def reqH (k : Nat) (hp : List (CO × Bool)) (H : CH) : List (Option CO × Option CO) := pairsH (obsH H hp (List.range k)) (expH (List.range k) hp (List.range k))
abbrev LTab := Nat → Nat → TM → CH → List Nat → Option (Code × Out QRes)
def isNil (df : List Nat) : Bool :=
  match df with
  | [] => true
  | _ => false
noncomputable def loopE (L : LTab) (f0 id0 N k : Nat) (b : Code) (live0 : List (Nat × Value)) (hp0 : List (CO × Bool)) (o : Out QRes) : LTab := fun f id tm H df =>
  cond (Nat.beq f f0 && (Nat.beq id id0 && (Nat.beq tm.length N && (Nat.beq H.length k && isNil df)))) (some (b, .same (reqT k live0 tm ++ reqH k hp0 H) o)) (L f id tm H df)
theorem reqT_of {k : Nat} {tm : TM} : ∀ (live : List (Nat × Value)), Same (reqT k live tm) → live.map (fun p => tval tm p.1) = live.map fun p => ren (List.range k) 8 p.2
  | [], _ => rfl
  | p :: r, h => by
    have h1 : some (coOf (tval tm p.1)) = some (coOf (ren (List.range k) 8 p.2)) := h (_, _) (List.mem_cons_self ..)
    have h2 := reqT_of r fun z hz => h z (List.mem_cons_of_mem _ hz)
    have h3 : tval tm p.1 = ren (List.range k) 8 p.2 := by
      have := Option.some.inj h1
      unfold coOf at this
      injection this with this
      injection this
    rw [List.map_cons, List.map_cons, h2, h3]
theorem LSound.loop {P : Program} {G : Nat} {L : LTab} {f0 id0 N k : Nat} {b : Code} {live0 : List (Nat × Value)} {hp0 : List (CO × Bool)} {o : Out QRes} (hL : LSound P G L) (hgood : goodR k k live0 hp0 (List.range k) = true) (hflat : ∀ o, (o, true) ∈ hp0 → FlatO o)
    (h : ∀ r, o.sel = some r → ∀ ro (tm0 : Array Value) (H0 : CH), H0.length = k → Restate k tm0 H0 (absT (tmL N live0)) (heapL (hp0.map (·.1))) → Sound P G (.code (.loop b) ro tm0 H0 []) r.abs) : LSound P G (loopE L f0 id0 N k b live0 hp0 o) := by
  intro f id tm H df c o' r ro he hr
  unfold loopE at he
  cases hc : (Nat.beq f f0 && (Nat.beq id id0 && (Nat.beq tm.length N && (Nat.beq H.length k && isNil df)))) with
  | false => rw [hc] at he; exact hL f id tm H df c o' r ro he hr
  | true =>
    rw [hc] at he
    cases he
    simp only [Bool.and_eq_true] at hc
    obtain ⟨_, _, h3, h4, h5⟩ := hc
    have hdf : df = [] := by cases df <;> first | rfl | cases h5
    subst hdf
    obtain ⟨hs, hsel⟩ := ifSame_some (k := o.sel) hr
    have hk := Nat.eq_of_beq_eq_true h4
    refine h r hsel ro (absT tm) H hk ?_
    unfold goodR at hgood
    simp only [Bool.and_eq_true, beq_iff_eq, decide_eq_true_eq] at hgood
    obtain ⟨g1, g2, g3, g4, g5, g6, g7⟩ := hgood
    refine restate_of (List.range k) live0 hp0 (Nat.eq_of_beq_eq_true h3) (Nat.eq_of_beq_eq_true g1) (Nat.le_of_ble_eq_true g2) g3 g4 (fun c hc => by rw [hk]; exact List.mem_range.1 hc) (reqT_of _ fun z hz => hs z (List.mem_append_left _ hz)) g6 ?_ g7 hflat
    exact pairsH_same _ _ (obsH_len _ _ _ _) fun z hz => hs z (List.mem_append_right _ hz)
end Go.Ex
