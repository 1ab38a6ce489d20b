/- Engine, part 32: rounds, looked at by the kernel: the state before a round and behind it, written out. -/
import Derived.Test.YtbbkjmoomflecaaEngLoop
noncomputable section
namespace Go.Ex
open Go.RowKit

def ren (ρ : List Nat) : Nat → Value → Value
  | _, .pointer (some ⟨b, off, none⟩) => .pointer (some ⟨ρ.getD b 0, off, none⟩)
  | _, .slice (some ⟨b, off, none⟩) l c => .slice (some ⟨ρ.getD b 0, off, none⟩) l c
  | _, .map (some b) => .map (some (ρ.getD b 0))
  | n + 1, .func (.func f) a c => .func (.func f) ⟨a.toList.map (ren ρ n)⟩ ⟨c.toList.map (ren ρ n)⟩
  | n + 1, .iface t v => .iface t (ren ρ n v)
  | n + 1, .agg a => .agg ⟨a.toList.map (ren ρ n)⟩
  | n + 1, .tuple a => .tuple ⟨a.toList.map (ren ρ n)⟩
  | _, v => v
def renOk (ρ : List Nat) : Nat → Value → Bool
  | _, .bool _ | _, .int _ _ | _, .float _ _ | _, .complex _ _ _ | _, .string _ | _, .nilFunc | _, .nilIface => true
  | _, .pointer none | _, .slice none _ _ | _, .map none | _, .chan none => true
  | _, .pointer (some ⟨b, _, none⟩) => Nat.blt b ρ.length
  | _, .slice (some ⟨b, _, none⟩) _ _ => Nat.blt b ρ.length
  | _, .map (some b) => Nat.blt b ρ.length
  | n + 1, .func (.func _) a c => a.toList.all (renOk ρ n) && c.toList.all (renOk ρ n)
  | n + 1, .iface _ v => renOk ρ n v
  | n + 1, .agg a => a.toList.all (renOk ρ n)
  | n + 1, .tuple a => a.toList.all (renOk ρ n)
  | _, _ => false
theorem blt_lt {b n : Nat} (h : Nat.blt b n = true) : b < n := by
  rw [blt_eq] at h; simpa using h
theorem getD_some {ρ : List Nat} {b : Nat} (h : b < ρ.length) : ρ[b]? = some (ρ.getD b 0) := by
  rw [List.getD_eq_getElem?_getD, List.getElem?_eq_getElem h]; rfl
theorem ren_arr {ρ : List Nat} {n : Nat} (ih : ∀ v, renOk ρ n v = true → RN ρ v (ren ρ n v)) {a : Array Value} (h : a.toList.all (renOk ρ n) = true) :
    a.size = (⟨a.toList.map (ren ρ n)⟩ : Array Value).size ∧ ∀ (i : Nat) (x x' : Value), a[i]? = some x → (⟨a.toList.map (ren ρ n)⟩ : Array Value)[i]? = some x' → RN ρ x x' := by
  refine ⟨by simp, fun i x x' hx hx' => ?_⟩
  have : (⟨a.toList.map (ren ρ n)⟩ : Array Value)[i]? = some (ren ρ n x) := by simp [hx]
  rw [this] at hx'
  cases hx'
  exact ih x (all_at h hx)
theorem ren_RN {ρ : List Nat} : ∀ (n : Nat) (v : Value), renOk ρ n v = true → RN ρ v (ren ρ n v) := by
  have key : ∀ (n : Nat), (∀ m, n = m + 1 → ∀ v, renOk ρ m v = true → RN ρ v (ren ρ m v)) → ∀ v, renOk ρ n v = true → RN ρ v (ren ρ n v) := by
    intro n ih v h
    cases v with
    | bool b => cases n <;> exact .flat rfl
    | int k z => cases n <;> exact .flat rfl
    | float k z => cases n <;> exact .flat rfl
    | complex k y z => cases n <;> exact .flat rfl
    | string s => cases n <;> exact .flat rfl
    | nilFunc => cases n <;> exact .flat rfl
    | nilIface => cases n <;> exact .flat rfl
    | pointer a =>
      cases a with
      | none => cases n <;> exact .flat rfl
      | some a =>
        obtain ⟨b, off, spot⟩ := a
        cases spot with
        | none =>
          have hb : Nat.blt b ρ.length = true := by cases n <;> exact h
          have := getD_some (blt_lt hb)
          cases n <;> exact .ptr this
        | some s => cases n <;> cases h
    | slice a l c =>
      cases a with
      | none => cases n <;> exact .flat rfl
      | some a =>
        obtain ⟨b, off, spot⟩ := a
        cases spot with
        | none =>
          have hb : Nat.blt b ρ.length = true := by cases n <;> exact h
          have := getD_some (blt_lt hb)
          cases n <;> exact .slice this
        | some s => cases n <;> cases h
    | map r =>
      cases r with
      | none => cases n <;> exact .flat rfl
      | some b =>
        have hb : Nat.blt b ρ.length = true := by cases n <;> exact h
        have := getD_some (blt_lt hb)
        cases n <;> exact .map this
    | chan r =>
      cases r with
      | none => cases n <;> exact .flat rfl
      | some b => cases n <;> cases h
    | func fn a c =>
      cases fn with
      | func f =>
        cases n with
        | zero => cases h
        | succ m =>
          have h' : (a.toList.all (renOk ρ m) && c.toList.all (renOk ρ m)) = true := h
          rw [Bool.and_eq_true] at h'
          obtain ⟨h1, h2⟩ := ren_arr (ih m rfl) h'.1
          obtain ⟨h3, h4⟩ := ren_arr (ih m rfl) h'.2
          exact .func h1 h3 h2 h4
      | _ => cases n <;> cases h
    | iface t v =>
      cases n with
      | zero => cases h
      | succ m => exact .iface (ih m rfl v h)
    | agg a =>
      cases n with
      | zero => cases h
      | succ m =>
        obtain ⟨h1, h2⟩ := ren_arr (ih m rfl) h
        exact .agg h1 h2
    | tuple a =>
      cases n with
      | zero => cases h
      | succ m =>
        obtain ⟨h1, h2⟩ := ren_arr (ih m rfl) h
        exact .tuple h1 h2
  intro n
  induction n with
  | zero => exact key 0 (fun m hm => by cases hm)
  | succ n ih => exact key (n + 1) (fun m hm => by cases hm; exact ih)

/-! ### the states, written out -/
def lookL (l : List (Nat × Value)) (i : Nat) : Value :=
  match l with
  | [] => wild
  | p :: r => cond (Nat.beq p.1 i) p.2 (lookL r i)
def tmL (N : Nat) (l : List (Nat × Value)) : TM := ⟨(pushAll ((List.range N).map (lookL l)) Hp.nil).tree, N⟩
theorem tmL_val (N : Nat) (l : List (Nat × Value)) {i : Nat} (h : i < N) : tval (tmL N l) i = lookL l i := by
  obtain ⟨_, _, _, h4⟩ := pushAll_spec ((List.range N).map (lookL l)) Hp.nil blank_nil
  have := h4 i (lookL l i) (by rw [List.getElem?_map, List.getElem?_range h]; rfl)
  have h0 : (Hp.nil : TM).length + i = i := by show 0 + i = i; omega
  rw [h0] at this
  unfold tval
  show cond (Nat.blt i N) _ _ = _
  rw [blt_eq, decide_eq_true h]
  show orUndef ((pushAll ((List.range N).map (lookL l)) Hp.nil).tree.get i) = _
  rw [this]; rfl
def heapL (l : List CO) : CH := l.foldl (fun h o => h.push o) Hp.nil
theorem heapL_spec : ∀ (l : List CO) (h : CH), (l.foldl (fun h o => h.push o) h).length = h.length + l.length ∧ ∀ b, (l.foldl (fun h o => h.push o) h)[b]? = if b < h.length then h[b]? else l[b - h.length]?
  | [], h => ⟨rfl, fun b => by
      split
      · rfl
      · rename_i hb
        show h[b]? = none
        rw [Hp.get_eq, if_neg hb]⟩
  | o :: r, h => by
    obtain ⟨h1, h2⟩ := heapL_spec r (h.push o)
    refine ⟨by rw [List.foldl_cons, h1, Hp.length_push]; simp; omega, fun b => ?_⟩
    rw [List.foldl_cons, h2 b, Hp.length_push, Hp.get_push]
    by_cases hb : b = h.length
    · subst hb
      rw [if_pos (by omega), if_pos rfl, if_neg (by omega), Nat.sub_self]; rfl
    · by_cases hlt : b < h.length
      · rw [if_pos (by omega), if_neg hb, if_pos hlt]
      · rw [if_neg (by omega), if_neg hlt, show b - h.length = (b - (h.length + 1)) + 1 from by omega]; rfl
theorem heapL_len (l : List CO) : (heapL l).length = l.length := by
  have := (heapL_spec l Hp.nil).1
  rw [show heapL l = l.foldl (fun h o => h.push o) Hp.nil from rfl, this]
  show 0 + l.length = _
  omega
theorem heapL_get (l : List CO) (b : Nat) : (heapL l)[b]? = l[b]? := by
  have := (heapL_spec l Hp.nil).2 b
  rw [show heapL l = l.foldl (fun h o => h.push o) Hp.nil from rfl, this]
  rw [if_neg (by show ¬ b < 0; omega)]
  rfl
def renO (ρ : List Nat) : CO → CO
  | .cells cs t s ex => .cells (cs.map (ren ρ 8)) t s ex
  | o => o
def renOkO (ρ : List Nat) : CO → Bool
  | .cells cs _ _ _ => cs.all (renOk ρ 8)
  | .dead | .dfr _ | .iter _ _ => true
  | _ => false
def FlatO : CO → Prop
  | .cells cs _ _ _ => ∀ x ∈ cs, Ex.flat x = true
  | .dead | .dfr _ | .iter _ _ => True
  | _ => False
/-- the blocks: each with the mark whether it is known to name no block -/
def obsH (H : CH) : List (CO × Bool) → List Nat → List (Option CO)
  | p :: r, c :: ρ => (cond p.1.alive (H[c]?) none) :: obsH H r ρ
  | _, _ => []
def expH (ρ0 : List Nat) : List (CO × Bool) → List Nat → List (Option CO)
  | p :: r, _ :: ρ => (cond p.1.alive (some (cond p.2 p.1 (renO ρ0 p.1))) none) :: expH ρ0 r ρ
  | _, _ => []
theorem obs_exp {H : CH} {ρ0 : List Nat} : ∀ (hp : List (CO × Bool)) (ρ : List Nat), obsH H hp ρ = expH ρ0 hp ρ → ∀ (b c : Nat) (p : CO × Bool), hp[b]? = some p → ρ[b]? = some c → p.1.alive = true → H[c]? = some (cond p.2 p.1 (renO ρ0 p.1))
  | [], _, _, b, c, p, hb, _, _ => by simp at hb
  | _ :: _, [], _, b, c, p, _, hc, _ => by simp at hc
  | q :: r, d :: ρ, h, b, c, p, hb, hc, ha => by
    unfold obsH expH at h
    injection h with h1 h2
    cases b with
    | zero =>
      cases hb; cases hc
      rw [ha] at h1
      exact h1
    | succ b => exact obs_exp r ρ h2 b c p (by simpa using hb) (by simpa using hc) ha
theorem renO_alive {ρ : List Nat} (o : CO) : (renO ρ o).alive = o.alive := by cases o <;> rfl
theorem renO_RO {ρ : List Nat} {o : CO} (h : renOkO ρ o = true) : RO ρ o (renO ρ o) := by
  cases o with
  | cells cs t s ex =>
    refine .cells (fun h => h) (by simp) fun i x x' hx hx' => ?_
    rw [List.getElem?_map, hx] at hx'
    cases hx'
    exact ren_RN 8 x (List.all_eq_true.1 h x (List.mem_of_getElem? hx))
  | dead => exact .dead
  | dfr b => exact .dfr
  | iter s p => exact .iter
  | _ => cases h
theorem flat_RO {ρ : List Nat} {o : CO} (h : FlatO o) : RO ρ o o := by
  cases o with
  | cells cs t s ex =>
    refine .cells (fun h => h) rfl fun i x x' hx hx' => ?_
    rw [hx] at hx'
    cases hx'
    exact .flat (h x (List.mem_of_getElem? hx))
  | dead => exact .dead
  | dfr b => exact .dfr
  | iter s p => exact .iter
  | _ => exact h.elim
theorem lookL_mem : ∀ (l : List (Nat × Value)) (i : Nat), lookL l i = wild ∨ ∃ p ∈ l, p.1 = i ∧ lookL l i = p.2
  | [], i => .inl rfl
  | p :: r, i => by
    unfold lookL
    cases hb : Nat.beq p.1 i with
    | true => exact .inr ⟨p, by simp, Nat.eq_of_beq_eq_true hb, rfl⟩
    | false =>
      rcases lookL_mem r i with h | ⟨q, h1, h2, h3⟩
      · exact .inl h
      · exact .inr ⟨q, by simp [h1], h2, h3⟩
theorem map_eq_mem {α β : Type} {f g : α → β} : ∀ (l : List α), l.map f = l.map g → ∀ x ∈ l, f x = g x
  | [], _, x, hx => by cases hx
  | y :: r, h, x, hx => by
    injection h with h1 h2
    rcases List.mem_cons.1 hx with rfl | hx
    · exact h1
    · exact map_eq_mem r h2 x hx
theorem restate_of {k N : Nat} {tm1 : TM} {H1 : CH} (ρ : List Nat) (live : List (Nat × Value)) (hp : List (CO × Bool)) (hN : tm1.length = N) (hρ : ρ.length = hp.length) (hk : k ≤ ρ.length) (hid : ρ.take k = List.range k) (hnd : ρ.Nodup)
    (hlt : ∀ c ∈ ρ, c < H1.length) (hlive : live.map (fun p => tval tm1 p.1) = live.map fun p => ren ρ 8 p.2) (hok : (live.all fun p => renOk ρ 8 p.2) = true) (hheap : obsH H1 hp ρ = expH ρ hp ρ)
    (hokH : (hp.all fun p => p.2 || renOkO ρ p.1) = true) (hflat : ∀ o, (o, true) ∈ hp → FlatO o) : Restate k (absT tm1) H1 (absT (tmL N live)) (heapL (hp.map (·.1))) := by
  refine ⟨ρ, by rw [heapL_len]; simp [hρ], hk, fun b hb => ?_, hnd, hlt, by rw [absT_size, absT_size, hN]; rfl, fun i x x' hx hx' => ?_, fun b c o hb hc ha => ?_⟩
  · have := congrArg (fun l => l[b]?) hid
    simp only [List.getElem?_take, if_pos hb, List.getElem?_range hb] at this
    exact this
  · rw [absT_get] at hx hx'
    split at hx'
    case isFalse => cases hx'
    rename_i hi
    cases hx'
    split at hx
    case isFalse => cases hx
    cases hx
    rw [tmL_val N live (by omega)]
    rcases lookL_mem live i with h | ⟨p, h1, h2, h3⟩
    · rw [h]; exact .wild
    · rw [h3]
      have h4 := map_eq_mem live hlive p h1
      rw [h2] at h4
      rw [h4]
      exact ren_RN 8 p.2 (List.all_eq_true.1 hok p h1)
  · rw [heapL_get, List.getElem?_map] at hb
    cases hq : hp[b]? with
    | none => rw [hq] at hb; cases hb
    | some q =>
      rw [hq] at hb
      cases hb
      have h1 := obs_exp hp ρ hheap b c q hq hc ha
      refine ⟨_, h1, ?_⟩
      obtain ⟨o, m⟩ := q
      cases m with
      | true => exact flat_RO (hflat o (List.mem_of_getElem? hq))
      | false =>
        have := List.all_eq_true.1 hokH (o, false) (List.mem_of_getElem? hq)
        exact renO_RO (by simpa using this)

/-! ### a way through a run -/
noncomputable def Out.way {α : Type} (o : Out α) : List Bool → Option (List Bool × α) :=
  Out.rec (motive := fun _ => List Bool → Option (List Bool × α)) (fun _ => none) (fun a _ => some ([], a))
    (fun b _ _ t e ans => match ans with
      | [] => none
      | x :: r => (cond x (t r) (e r)).map fun y => (b :: y.1, y.2)) (fun _ _ k => k) (fun _ _ _ k => k) o
theorem Out.way_sel {α : Type} {o : Out α} : ∀ {ans cs : List Bool} {a : α}, o = o.fix → o.way ans = some (cs, a) → cs = ans.take cs.length → o.sel = some a := by
  induction o with
  | fail => intro ans cs a _ h _; cases h
  | leaf r => intro ans cs a _ h _; cases h; rfl
  | br b t e iht ihe =>
    intro ans cs a hf h hc
    injection hf with _ h1 h2
    cases ans with
    | nil => cases h
    | cons x r =>
      have h' : (cond x (t.way r) (e.way r)).map (fun y => (b :: y.1, y.2)) = some (cs, a) := h
      obtain ⟨y, hy, hq⟩ := map_some' h'
      cases hq
      simp only [List.length_cons, List.take_succ_cons, List.cons.injEq] at hc
      obtain ⟨rfl, hc⟩ := hc
      show cond b t.sel e.sel = _
      cases b with
      | true => exact iht h1 hy hc
      | false => exact ihe h2 hy hc
  | same l k ih =>
    intro ans cs a hf h hc
    injection hf with h1 h2
    exact (ifSame_of (same_of_fix h1)).trans (ih h2 h hc)
  | code x y k ih =>
    intro ans cs a hf h hc
    injection hf with _ h1 h2
    exact (ifCode_of h1.symm).trans (ih h2 h hc)
/-- what is looked at behind a round -/
def obs (live : List (Nat × Value)) (hp : List (CO × Bool)) (ρ : List Nat) (r : QRes) : Option (CX × Nat × Nat × List Nat × List Value × List (Option CO)) :=
  match r with
  | .ex x tm H df => some (x, tm.length, H.length, df, live.map (fun p => tval tm p.1), obsH H hp ρ)
  | .val _ _ => none
def expect (x : CX) (N len : Nat) (df : List Nat) (live : List (Nat × Value)) (hp : List (CO × Bool)) (ρ : List Nat) : Option (CX × Nat × Nat × List Nat × List Value × List (Option CO)) :=
  some (x, N, len, df, live.map (fun p => ren ρ 8 p.2), expH ρ hp ρ)
noncomputable def seen (live : List (Nat × Value)) (hp : List (CO × Bool)) (ρ : List Nat) (ans : List Bool) (o : Out QRes) : Option (List Bool × Option (CX × Nat × Nat × List Nat × List Value × List (Option CO))) :=
  match o.way ans with
  | some x => some (x.1, obs live hp ρ x.2)
  | none => none
/-- the marks of the numbers -/
def goodR (k len : Nat) (live : List (Nat × Value)) (hp : List (CO × Bool)) (ρ : List Nat) : Bool :=
  Nat.beq ρ.length hp.length && (Nat.ble k ρ.length && ((ρ.take k == List.range k) && (decide ρ.Nodup && (ρ.all (fun c => Nat.blt c len) && ((live.all fun p => renOk ρ 8 p.2) && hp.all fun p => p.2 || renOkO ρ p.1)))))
theorem round_of {P : Program} {G : Nat} {C : Cfg} {n f : Nat} {b : Code} {ro : Option Nat} {tm : TM} {H : CH} {df df1 : List Nat} {k N len : Nat} {x : CX} (ρ : List Nat) (live : List (Nat × Value)) (hp : List (CO × Bool)) (ans cs : List Bool) (hT : TSound P G C.T) (hL : LSound P G C.L)
    (h1 : execO P G C n (.code f b ro tm H df) = (execO P G C n (.code f b ro tm H df)).fix) (h2 : seen live hp ρ ans (execO P G C n (.code f b ro tm H df)) = some (cs, expect x N len df1 live hp ρ)) (h3 : cs = ans.take cs.length) (h4 : goodR k len live hp ρ = true)
    (hflat : ∀ o, (o, true) ∈ hp → FlatO o) :
    ∃ tm1 H1, Sound P G (.code b ro (absT tm) H df) (.ex x tm1 H1 df1) ∧ Restate k tm1 H1 (absT (tmL N live)) (heapL (hp.map (·.1))) := by
  unfold seen at h2
  split at h2
  case h_2 => cases h2
  rename_i y hy
  obtain ⟨cs', r⟩ := y
  simp only [Option.some.injEq, Prod.mk.injEq] at h2
  obtain ⟨rfl, h2⟩ := h2
  cases r with
  | val v H' => cases h2
  | ex x' tm1 H1 df' =>
    have hs := execO_sound hT hL n _ _ (Out.way_sel h1 hy h3)
    unfold obs expect at h2
    simp only [Option.some.injEq, Prod.mk.injEq] at h2
    obtain ⟨rfl, hN, hlen, rfl, hlive, hheap⟩ := h2
    unfold goodR at h4
    simp only [Bool.and_eq_true, beq_iff_eq, decide_eq_true_eq] at h4
    obtain ⟨g1, g2, g3, g4, g5, g6, g7⟩ := h4
    refine ⟨absT tm1, H1, hs, restate_of ρ live hp hN (Nat.eq_of_beq_eq_true g1) (Nat.le_of_ble_eq_true g2) g3 g4 (fun c hc => ?_) hlive g6 hheap g7 hflat⟩
    rw [hlen]
    exact blt_lt (List.all_eq_true.1 g5 c hc)
end Go.Ex
