/- Part of the proof. -/
import Derived.Test.YteemponkignnhaaGreatEngPl
namespace Go.Ex
open Go.RowKit
end Go.Ex
namespace Go.Ex
open Go.RowKit
def firstF (e : Nat → Int) : Nat → Nat → Int
  | 0, _ => 0
  | m + 1, j => if e j ≠ 0 then e j else firstF e m (j + 1)
theorem firstF_zero {e : Nat → Int} : ∀ (m j : Nat), firstF e m j = 0 ↔ ∀ k, j ≤ k → k < j + m → e k = 0
  | 0, j => ⟨fun _ k h1 h2 => by omega, fun _ => rfl⟩
  | m + 1, j => by
    show (if e j ≠ 0 then e j else firstF e m (j + 1)) = 0 ↔ _
    by_cases he : e j = 0
    · rw [if_neg (by simpa using he), firstF_zero m (j + 1)]
      refine ⟨fun h k h1 h2 => ?_, fun h k h1 h2 => h k (by omega) (by omega)⟩
      by_cases hk : k = j
      · subst hk; exact he
      · exact h k (by omega) (by omega)
    · rw [if_pos he]
      exact ⟨fun h => absurd h he, fun h => h j (Nat.le_refl _) (by omega)⟩
theorem firstF_congr {e e' : Nat → Int} : ∀ (m j : Nat), (∀ k, j ≤ k → k < j + m → e k = e' k) → firstF e m j = firstF e' m j
  | 0, _, _ => rfl
  | m + 1, j, h => by
    show (if e j ≠ 0 then e j else firstF e m (j + 1)) = (if e' j ≠ 0 then e' j else firstF e' m (j + 1))
    rw [h j (Nat.le_refl _) (by omega), firstF_congr m (j + 1) fun k h1 h2 => h k (by omega) (by omega)]
end Go.Ex
namespace Go.Ex
open Go.RowKit
noncomputable def tru (p : Prop) : Bool := @decide p (Classical.propDecidable p)
theorem tru_iff {p : Prop} : tru p = true ↔ p := by unfold tru; exact @decide_eq_true_iff p (Classical.propDecidable p)
end Go.Ex
/- Engine, part 36: contracts of functions that read several blocks. -/
noncomputable section
namespace Go.Ex
open Go.RowKit
def memB (b : Nat) : List Nat → Bool
  | [] => false
  | c :: r => cond (Nat.beq b c) true (memB b r)
def okBs : List Nat → Bool
  | [] => true
  | b :: r => Nat.ble gl b && (!memB b r && okBs r)
theorem memB_iff {b : Nat} : ∀ (l : List Nat), memB b l = true ↔ b ∈ l
  | [] => by simp [memB]
  | c :: r => by
    unfold memB
    cases h : Nat.beq b c with
    | true => have := Nat.eq_of_beq_eq_true h; subst this; simp
    | false =>
      have : b ≠ c := fun hh => by subst hh; rw [Nat.beq_refl] at h; cases h
      simp only [cond, List.mem_cons, this, false_or]
      exact memB_iff r
theorem okBs_spec : ∀ (l : List Nat), okBs l = true → l.Nodup ∧ ∀ b ∈ l, gl ≤ b
  | [], _ => ⟨List.nodup_nil, fun b hb => by cases hb⟩
  | b :: r, h => by
    unfold okBs at h
    simp only [Bool.and_eq_true, Bool.not_eq_true'] at h
    obtain ⟨h1, h2, h3⟩ := h
    obtain ⟨g1, g2⟩ := okBs_spec r h3
    refine ⟨List.nodup_cons.2 ⟨fun hm => ?_, g1⟩, fun c hc => ?_⟩
    · rw [(memB_iff r).2 hm] at h2; cases h2
    · rcases List.mem_cons.1 hc with rfl | hc
      · exact Nat.le_of_ble_eq_true h1
      · exact g2 c hc
def cellsOf (H : CH) : List Nat → Option (List (List Value))
  | [] => some []
  | b :: r => match H[b]? with
    | some (.cells cs _ _ _) => match cellsOf H r with
      | some l => some (cs :: l)
      | none => none
    | _ => none
inductive Blks : List (List Value) → List CO → Prop
  | nil : Blks [] []
  | cons {cs : List Value} {t : TypeId} {s : Nat} {ex : Bool} {l : List (List Value)} {os : List CO} (h : Blks l os) : Blks (cs :: l) (.cells cs t s ex :: os)
theorem cellsOf_blks {H : CH} : ∀ (bs : List Nat) (css : List (List Value)), cellsOf H bs = some css → ∃ os, Blks css os ∧ os.length = bs.length ∧ ∀ (j b : Nat) (o : CO), bs[j]? = some b → os[j]? = some o → H[b]? = some o
  | [], css, h => by cases h; exact ⟨[], .nil, rfl, fun j b o hb => by simp at hb⟩
  | b :: r, css, h => by
    unfold cellsOf at h
    split at h
    case h_2 => cases h
    rename_i cs t s ex hb
    split at h
    case h_2 => cases h
    rename_i l hl
    cases h
    obtain ⟨os, h1, h2, h3⟩ := cellsOf_blks r l hl
    refine ⟨.cells cs t s ex :: os, .cons h1, by simp [h2], fun j c o hc ho => ?_⟩
    cases j with
    | zero => cases hc; cases ho; exact hb
    | succ j => exact h3 j c o (by simpa using hc) (by simpa using ho)
theorem Blks.flat {css : List (List Value)} {os : List CO} (h : Blks css os) (hf : ∀ cs ∈ css, cs.all Ex.flat = true) : ∀ o ∈ os, FlatO o := by
  induction h with
  | nil => intro o ho; cases ho
  | cons _ ih =>
    intro o ho
    rcases List.mem_cons.1 ho with rfl | ho
    · exact fun x hx => List.all_eq_true.1 (hf _ (List.mem_cons_self ..)) x hx
    · exact ih (fun cs hc => hf cs (List.mem_cons_of_mem _ hc)) o ho
theorem range_app {bs : List Nat} {b c : Nat} (h : (List.range gl ++ bs)[b]? = some c) : (b < gl ∧ c = b) ∨ (gl ≤ b ∧ bs[b - gl]? = some c) := by
  by_cases hb : b < gl
  · rw [List.getElem?_append_left (by simpa using hb), List.getElem?_range hb] at h
    cases h; exact .inl ⟨hb, rfl⟩
  · rw [List.getElem?_append_right (by simpa using hb)] at h
    exact .inr ⟨by omega, by simpa using h⟩
theorem Sound.blocks {P : Program} {G : Nat} {f : FuncId} {args al : List Value} {H Hs' : CH} {v : Value} {g os : List CO} {bs : List Nat} (hg : g.length = gl) (hgf : ∀ o ∈ g, FlatO o) (hgH : ∀ (b : Nat) (o : CO), g[b]? = some o → o.alive = true → H[b]? = some o)
    (hbs : okBs bs = true) (hl : os.length = bs.length) (hof : ∀ o ∈ os, FlatO o) (hb : ∀ (j b : Nat) (o : CO), bs[j]? = some b → os[j]? = some o → H[b]? = some o)
    (has : al.all (renOk (List.range gl ++ bs) 8) = true) (hargs : args = al.map (ren (List.range gl ++ bs) 8))
    (hs : Sound P (heapL (g ++ os)).length (.call f ⟨al⟩ (heapL (g ++ os))) (.val v Hs')) (hv : clean 6 v = true) (hgl : gl ≤ H.length) : Sound P G (.call f ⟨args⟩ H) (.val v H) := by
  subst hargs
  obtain ⟨hnd, hge⟩ := okBs_spec bs hbs
  have hlen : (heapL (g ++ os)).length = gl + os.length := by rw [heapL_len]; simp [hg]
  have hin : ∀ j b, bs[j]? = some b → b < H.length := fun j b hj => by
    have hjl : j < os.length := by rw [hl]; exact (List.getElem?_eq_some_iff.1 hj).1
    exact Hp.lt (hb j b _ hj (List.getElem?_eq_getElem hjl))
  refine Sound.small (Hs := heapL (g ++ os)) (Hs' := Hs') (args2 := al) (List.range gl ++ bs) hs hv (by rw [hlen]; omega) (by rw [hlen]; simp [hl]) (fun b hb => by rw [List.getElem?_append_left (by simpa using hb), List.getElem?_range hb]) ?_ ?_ (by simp) ?_ ?_
  · rw [List.nodup_append]
    refine ⟨List.nodup_range, hnd, fun a ha c hc => ?_⟩
    rw [List.mem_range] at ha
    have := hge c hc
    omega
  · intro c hc
    rcases List.mem_append.1 hc with h | h
    · rw [List.mem_range] at h; omega
    · obtain ⟨j, hj⟩ := List.getElem?_of_mem h
      exact hin j c hj
  · intro i x x' hx hx'
    rw [List.getElem?_map, hx] at hx'
    cases hx'
    exact ren_RN 8 x (List.all_eq_true.1 has x (List.mem_of_getElem? hx))
  · intro b c o ho hc ha
    rw [heapL_get] at ho
    rcases range_app hc with ⟨h1, rfl⟩ | ⟨h1, h2⟩
    · rw [List.getElem?_append_left (by rw [hg]; exact h1)] at ho
      exact ⟨o, hgH _ o ho ha, flat_RO (hgf o (List.mem_of_getElem? ho))⟩
    · rw [List.getElem?_append_right (by rw [hg]; exact h1), hg] at ho
      exact ⟨o, hb _ c o h2 ho, flat_RO (hof o (List.mem_of_getElem? ho))⟩
def deads : List CO := List.replicate gl .dead
theorem deads_len : deads.length = gl := by simp [deads]
theorem deads_flat : ∀ o ∈ deads, FlatO o := by
  intro o ho
  rw [(List.mem_replicate.1 ho).2]; trivial
theorem deads_mem : ∀ (b : Nat) (o : CO), deads[b]? = some o → o.alive = true → b ∈ ([] : List Nat) := by
  intro b o ho ha
  have := (List.mem_replicate.1 (List.mem_of_getElem? ho)).2
  rw [this] at ha; cases ha
end Go.Ex
