/- Engine, part 36: contracts of functions that read several blocks. -/
import Derived.Test.YtbbkjmoomflecaaZd0
noncomputable section
namespace Go.Ex
open Go.RowKit

def memB (b : Nat) : List Nat → Bool
  | [] => false
  | c :: r => cond (Nat.beq b c) true (memB b r)
def okBs : List Nat → Bool
  | [] => true
  | b :: r => Nat.ble gl b && (!memB b r && okBs r)
theorem memB_iff {b : Nat} : ∀ (l : List Nat), memB b l = true ↔ b ∈ l
  | [] => by simp [memB]
  | c :: r => by
    unfold memB
    cases h : Nat.beq b c with
    | true => have := Nat.eq_of_beq_eq_true h; subst this; simp
    | false =>
      have : b ≠ c := fun hh => by subst hh; rw [Nat.beq_refl] at h; cases h
      simp only [cond, List.mem_cons, this, false_or]
      exact memB_iff r
theorem okBs_spec : ∀ (l : List Nat), okBs l = true → l.Nodup ∧ ∀ b ∈ l, gl ≤ b
  | [], _ => ⟨List.nodup_nil, fun b hb => by cases hb⟩
  | b :: r, h => by
    unfold okBs at h
    simp only [Bool.and_eq_true, Bool.not_eq_true'] at h
    obtain ⟨h1, h2, h3⟩ := h
    obtain ⟨g1, g2⟩ := okBs_spec r h3
    refine ⟨List.nodup_cons.2 ⟨fun hm => ?_, g1⟩, fun c hc => ?_⟩
    · rw [(memB_iff r).2 hm] at h2; cases h2
    · rcases List.mem_cons.1 hc with rfl | hc
      · exact Nat.le_of_ble_eq_true h1
      · exact g2 c hc
def cellsOf (H : CH) : List Nat → Option (List (List Value))
  | [] => some []
  | b :: r => match H[b]? with
    | some (.cells cs _ _ _) => match cellsOf H r with
      | some l => some (cs :: l)
      | none => none
    | _ => none
/-- blocks of these cells -/
inductive Blks : List (List Value) → List CO → Prop
  | nil : Blks [] []
  | cons {cs : List Value} {t : TypeId} {s : Nat} {ex : Bool} {l : List (List Value)} {os : List CO} (h : Blks l os) : Blks (cs :: l) (.cells cs t s ex :: os)
theorem cellsOf_blks {H : CH} : ∀ (bs : List Nat) (css : List (List Value)), cellsOf H bs = some css → ∃ os, Blks css os ∧ os.length = bs.length ∧ ∀ (j b : Nat) (o : CO), bs[j]? = some b → os[j]? = some o → H[b]? = some o
  | [], css, h => by cases h; exact ⟨[], .nil, rfl, fun j b o hb => by simp at hb⟩
  | b :: r, css, h => by
    unfold cellsOf at h
    split at h
    case h_2 => cases h
    rename_i cs t s ex hb
    split at h
    case h_2 => cases h
    rename_i l hl
    cases h
    obtain ⟨os, h1, h2, h3⟩ := cellsOf_blks r l hl
    refine ⟨.cells cs t s ex :: os, .cons h1, by simp [h2], fun j c o hc ho => ?_⟩
    cases j with
    | zero => cases hc; cases ho; exact hb
    | succ j => exact h3 j c o (by simpa using hc) (by simpa using ho)
theorem Blks.flat {css : List (List Value)} {os : List CO} (h : Blks css os) (hf : ∀ cs ∈ css, cs.all Ex.flat = true) : ∀ o ∈ os, FlatO o := by
  induction h with
  | nil => intro o ho; cases ho
  | cons _ ih =>
    intro o ho
    rcases List.mem_cons.1 ho with rfl | ho
    · exact fun x hx => List.all_eq_true.1 (hf _ (List.mem_cons_self ..)) x hx
    · exact ih (fun cs hc => hf cs (List.mem_cons_of_mem _ hc)) o ho
theorem range_app {bs : List Nat} {b c : Nat} (h : (List.range gl ++ bs)[b]? = some c) : (b < gl ∧ c = b) ∨ (gl ≤ b ∧ bs[b - gl]? = some c) := by
  by_cases hb : b < gl
  · rw [List.getElem?_append_left (by simpa using hb), List.getElem?_range hb] at h
    cases h; exact .inl ⟨hb, rfl⟩
  · rw [List.getElem?_append_right (by simpa using hb)] at h
    exact .inr ⟨by omega, by simpa using h⟩
/-- a function that reads blocks, told over a heap of its own -/
theorem Sound.blocks {P : Program} {G : Nat} {f : FuncId} {args al : List Value} {H Hs' : CH} {v : Value} {g os : List CO} {bs : List Nat} (hg : g.length = gl) (hgf : ∀ o ∈ g, FlatO o) (hgH : ∀ (b : Nat) (o : CO), g[b]? = some o → o.alive = true → H[b]? = some o)
    (hbs : okBs bs = true) (hl : os.length = bs.length) (hof : ∀ o ∈ os, FlatO o) (hb : ∀ (j b : Nat) (o : CO), bs[j]? = some b → os[j]? = some o → H[b]? = some o)
    (has : al.all (renOk (List.range gl ++ bs) 8) = true) (hargs : args = al.map (ren (List.range gl ++ bs) 8))
    (hs : Sound P (heapL (g ++ os)).length (.call f ⟨al⟩ (heapL (g ++ os))) (.val v Hs')) (hv : clean 6 v = true) (hgl : gl ≤ H.length) : Sound P G (.call f ⟨args⟩ H) (.val v H) := by
  subst hargs
  obtain ⟨hnd, hge⟩ := okBs_spec bs hbs
  have hlen : (heapL (g ++ os)).length = gl + os.length := by rw [heapL_len]; simp [hg]
  have hin : ∀ j b, bs[j]? = some b → b < H.length := fun j b hj => by
    have hjl : j < os.length := by rw [hl]; exact (List.getElem?_eq_some_iff.1 hj).1
    exact Hp.lt (hb j b _ hj (List.getElem?_eq_getElem hjl))
  refine Sound.small (Hs := heapL (g ++ os)) (Hs' := Hs') (args2 := al) (List.range gl ++ bs) hs hv (by rw [hlen]; omega) (by rw [hlen]; simp [hl]) (fun b hb => by rw [List.getElem?_append_left (by simpa using hb), List.getElem?_range hb]) ?_ ?_ (by simp) ?_ ?_
  · rw [List.nodup_append]
    refine ⟨List.nodup_range, hnd, fun a ha c hc => ?_⟩
    rw [List.mem_range] at ha
    have := hge c hc
    omega
  · intro c hc
    rcases List.mem_append.1 hc with h | h
    · rw [List.mem_range] at h; omega
    · obtain ⟨j, hj⟩ := List.getElem?_of_mem h
      exact hin j c hj
  · intro i x x' hx hx'
    rw [List.getElem?_map, hx] at hx'
    cases hx'
    exact ren_RN 8 x (List.all_eq_true.1 has x (List.mem_of_getElem? hx))
  · intro b c o ho hc ha
    rw [heapL_get] at ho
    rcases range_app hc with ⟨h1, rfl⟩ | ⟨h1, h2⟩
    · rw [List.getElem?_append_left (by rw [hg]; exact h1)] at ho
      exact ⟨o, hgH _ o ho ha, flat_RO (hgf o (List.mem_of_getElem? ho))⟩
    · rw [List.getElem?_append_right (by rw [hg]; exact h1), hg] at ho
      exact ⟨o, hb _ c o h2 ho, flat_RO (hof o (List.mem_of_getElem? ho))⟩
/-- the entry: 'rd' finds the blocks and what else is told in the arguments -/
noncomputable def rdE {A : Type} (rd : List Value → Option (List Nat × A)) (ok : A → List (List Value) → Prop) (val : A → List (List Value) → Value) (gs : List Nat) (H0 : CH) : Ent := fun args H =>
  match rd args with
  | some x => match cellsOf H x.1 with
    | some css => cond (okBs x.1 && Nat.ble gl H.length) (some (some (tru (ok x.2 css)), val x.2 css, H, reqs gs H0 H)) none
    | none => none
  | none => none
theorem rd_ok {A : Type} {P : Program} {G : Nat} {f : FuncId} {rd : List Value → Option (List Nat × A)} {ok : A → List (List Value) → Prop} {val : A → List (List Value) → Value} {gs : List Nat} {g : List CO} (mk : A → List Value) (hg : g.length = gl) (hgf : ∀ o ∈ g, FlatO o) (hmem : ∀ (b : Nat) (o : CO), g[b]? = some o → o.alive = true → b ∈ gs)
    (hrd : ∀ args bs a, rd args = some (bs, a) → (mk a).all (renOk (List.range gl ++ bs) 8) = true ∧ args = (mk a).map (ren (List.range gl ++ bs) 8))
    (hf : ∀ a css, ok a css → ∀ cs ∈ css, cs.all Ex.flat = true) (hc : ∀ a css, ok a css → clean 6 (val a css) = true)
    (h : ∀ a css os, ok a css → Blks css os → ∃ H', Sound P (gl + css.length) (.call f ⟨mk a⟩ (heapL (g ++ os))) (.val (val a css) H')) :
    ∀ args H c v H' l, rdE rd ok val gs (heapL g) args H = some (c, v, H', l) → c.getD true = true → Same l → Sound P G (.call f ⟨args⟩ H) (.val v H') := by
  intro args H c v H' l he hc' hsm
  unfold rdE at he
  split at he
  case h_2 => cases he
  rename_i x hx
  obtain ⟨bs, a⟩ := x
  split at he
  case h_2 => cases he
  rename_i css hcs
  cases hgb : okBs bs && Nat.ble gl H.length with
  | false =>
    dsimp only at he
    rw [hgb] at he; cases he
  | true =>
    dsimp only at he
    rw [hgb] at he
    cases he
    rw [Bool.and_eq_true] at hgb
    have hok : ok a css := tru_iff.1 hc'
    obtain ⟨os, o1, o2, o3⟩ := cellsOf_blks bs css hcs
    obtain ⟨r1, r2⟩ := hrd args bs a hx
    obtain ⟨H2, h2⟩ := h a css os hok o1
    have hcl : css.length = os.length := by
      clear h2 o2 o3 hcs hsm hc' hx r1 r2 hok
      induction o1 with
      | nil => rfl
      | cons _ ih => simp [ih]
    refine Sound.blocks (Hs' := H2) (g := g) (os := os) (bs := bs) (al := mk a) hg hgf ?_ hgb.1 o2 (o1.flat (hf a css hok)) o3 r1 r2 ?_ (hc a css hok) (Nat.le_of_ble_eq_true hgb.2)
    · intro b o ho ha
      have := hsm (H[b]?, (heapL g)[b]?) (List.mem_map.2 ⟨b, hmem b o ho ha, rfl⟩)
      dsimp only at this
      rw [this, heapL_get, ho]
    · have : (heapL (g ++ os)).length = gl + css.length := by rw [heapL_len]; simp [hg, hcl]
      rw [this]; exact h2
/-- no variable is asked for -/
def deads : List CO := List.replicate gl .dead
theorem deads_len : deads.length = gl := by simp [deads]
theorem deads_flat : ∀ o ∈ deads, FlatO o := by
  intro o ho
  rw [(List.mem_replicate.1 ho).2]; trivial
theorem deads_mem : ∀ (b : Nat) (o : CO), deads[b]? = some o → o.alive = true → b ∈ ([] : List Nat) := by
  intro b o ho ha
  have := (List.mem_replicate.1 (List.mem_of_getElem? ho)).2
  rw [this] at ha; cases ha
end Go.Ex
