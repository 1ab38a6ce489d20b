/- Engine, part 37: contracts of functions that make new blocks. -/
import Derived.Test.YtbocpikgochioaaDoorEngRead
noncomputable section
namespace Go.Ex
open Go.RowKit
/-- as Sound.blocks; the blocks κ of the run are told behind all others -/
theorem Sound.makes {P : Program} {G : Nat} {f : FuncId} {args al : List Value} {H Hs' : CH} {v u : Value} {g os nb : List CO} {bs κ : List Nat} (hg : g.length = gl) (hgf : ∀ o ∈ g, FlatO o) (hgH : ∀ (b : Nat) (o : CO), g[b]? = some o → o.alive = true → H[b]? = some o)
    (hbs : okBs bs = true) (hl : os.length = bs.length) (hof : ∀ o ∈ os, FlatO o) (hb : ∀ (j b : Nat) (o : CO), bs[j]? = some b → os[j]? = some o → H[b]? = some o)
    (has : al.all (renOk (List.range gl ++ bs) 8) = true) (hargs : args = al.map (ren (List.range gl ++ bs) 8))
    (hs : Sound P (heapL (g ++ os)).length (.call f ⟨al⟩ (heapL (g ++ os))) (.val v Hs')) (hgl : gl ≤ H.length)
    (hκ : κ.length = nb.length) (hκn : κ.Nodup) (hκg : ∀ c ∈ κ, (heapL (g ++ os)).length ≤ c ∧ c < Hs'.length) (hu : RN (List.replicate H.length Hs'.length ++ κ) u v)
    (hnb : ∀ (j c : Nat) (o : CO), nb[j]? = some o → κ[j]? = some c → o.alive = true → ∃ o', Hs'[c]? = some o' ∧ RO (List.replicate H.length Hs'.length ++ κ) o o') : Sound P G (.call f ⟨args⟩ H) (.val u (pushesL H nb)) := by
  subst hargs
  obtain ⟨hnd, hge⟩ := okBs_spec bs hbs
  have hlen : (heapL (g ++ os)).length = gl + os.length := by rw [heapL_len]; simp [hg]
  have hin : ∀ j b, bs[j]? = some b → b < H.length := fun j b hj => by
    have hjl : j < os.length := by rw [hl]; exact (List.getElem?_eq_some_iff.1 hj).1
    exact Hp.lt (hb j b _ hj (List.getElem?_eq_getElem hjl))
  refine Sound.smallN (Hs := heapL (g ++ os)) (Hs' := Hs') (args2 := al) (List.range gl ++ bs) κ nb hs (by rw [hlen]; omega) (by rw [hlen]; simp [hl]) (fun b hb => by rw [List.getElem?_append_left (by simpa using hb), List.getElem?_range hb]) ?_ ?_ (by simp) ?_ ?_ hκ hκn hκg hu hnb
  · rw [List.nodup_append]
    refine ⟨List.nodup_range, hnd, fun a ha c hc => ?_⟩
    rw [List.mem_range] at ha
    have := hge c hc
    omega
  · intro c hc
    rcases List.mem_append.1 hc with h | h
    · rw [List.mem_range] at h; omega
    · obtain ⟨j, hj⟩ := List.getElem?_of_mem h
      exact hin j c hj
  · intro i x x' hx hx'
    rw [List.getElem?_map, hx] at hx'
    cases hx'
    exact ren_RN 8 x (List.all_eq_true.1 has x (List.mem_of_getElem? hx))
  · intro b c o ho hc ha
    rw [heapL_get] at ho
    rcases range_app hc with ⟨h1, rfl⟩ | ⟨h1, h2⟩
    · rw [List.getElem?_append_left (by rw [hg]; exact h1)] at ho
      exact ⟨o, hgH _ o ho ha, flat_RO (hgf o (List.mem_of_getElem? ho))⟩
    · rw [List.getElem?_append_right (by rw [hg]; exact h1), hg] at ho
      exact ⟨o, hb _ c o h2 ho, flat_RO (hof o (List.mem_of_getElem? ho))⟩
theorem rep_get {N M : Nat} {κ : List Nat} {j c : Nat} (h : κ[j]? = some c) : (List.replicate N M ++ κ)[N + j]? = some c := by
  rw [List.getElem?_append_right (by simp)]; simpa using h
theorem pushesL_get (H : CH) (nb : List CO) (b : Nat) : (pushesL H nb)[b]? = if b < H.length then H[b]? else nb[b - H.length]? := (heapL_spec nb H).2 b
theorem RN.nth {ρ : List Nat} {al bs : List Value} (hl : al.length = bs.length) (h : ∀ (i : Nat) (x y : Value), al[i]? = some x → bs[i]? = some y → RN ρ x y) : RN ρ (.agg ⟨al⟩) (.agg ⟨bs⟩) :=
  .agg (by simpa using hl) fun i x x' hx hx' => h i x x' (by simpa using hx) (by simpa using hx')
end Go.Ex
