import Derived.Test.YtphadgdlknhbnaaLf5
import Derived.Test.YtphadgdlknhbnaaLc5
set_option maxRecDepth 10000
noncomputable section
namespace Go.Proofs.Ytphadgdlknhbnaa.Ways
open Go Go.Ex Go.RowKit Go.Turn
theorem fst3_zero {a b c : Int} (h : fst3 a b c = 0) : a = 0 ∧ b = 0 ∧ c = 0 := by
  rw [fst3_eq] at h
  by_cases ha : a = 0
  · rw [if_neg (fun hh => hh ha)] at h
    by_cases hb : b = 0
    · rw [if_neg (fun hh => hh hb)] at h
      by_cases hc : c = 0
      · exact ⟨ha, hb, hc⟩
      · rw [if_pos hc] at h; exact absurd h hc
    · rw [if_pos hb] at h; exact absurd h hb
  · rw [if_pos ha] at h; exact absurd h ha
theorem e_gen {a b d : Int} {P Q : List Pt} (ha : a = 0 → Rise P) (hb : b = 0 → Rise Q) : e28 a b d (P ++ Q.map (shP d)) = if F28 a b d ≠ 0 then F28 a b d
    else if 0 < Q.length ∧ 39999 < wrapF .i64 (pA (flatP Q) (Q.length - 1) + d) then 3 else if 0 < P.length ∧ 0 < Q.length ∧ wrapF .i64 (pA (flatP Q) 0 + d) ≤ pA (flatP P) (P.length - 1) then 11 else 0 := by
  unfold e28
  by_cases hF : F28 a b d = 0
  · rw [if_neg (fun h => h hF), if_neg (fun h => h hF)]
    obtain ⟨h1, h2, h3⟩ := fst3_zero hF
    have hP := ha h1
    have hQ := hb h2
    have hd := rgE_zero h3
    rw [eJ_join hP hQ hd]
    by_cases hq : 0 < Q.length
    · have e1 : wrapF .i64 (pA (flatP Q) (Q.length - 1) + d) = pA (flatP Q) (Q.length - 1) + d := by
        rw [pA_fl (by omega)]
        have := hQ.lo (Q.length - 1) (by omega)
        exact wrapF_in (by omega) (by omega)
      have e2 : wrapF .i64 (pA (flatP Q) 0 + d) = pA (flatP Q) 0 + d := by
        rw [pA_fl hq]
        have := hQ.lo 0 hq
        exact wrapF_in (by omega) (by omega)
      rw [e1, e2]
    · rw [if_neg (fun h => hq h.1), if_neg (fun h => hq h.2.1), if_neg (fun h => hq h.1), if_neg (fun h => hq h.2.1)]
  · rw [if_pos hF, if_pos hF]
theorem pts_row {cs : List Value} {n : Nat} (h : RowE cs n) : flatP (pts cs n) = cs ∧ (pts cs n).length = n := ⟨h.cells.symm, pts_len _ _⟩
theorem e32nn {cs ds : List Value} {m k : Nat} {d : Int} (h1 : RowE cs (m + 1)) (h2 : RowE ds (k + 1)) : e32 cs ds (m + 1) (k + 1) d = e28 (crE cs (m + 1)) (crE ds (k + 1)) d (JE cs ds m k d) := by
  obtain ⟨a1, a2⟩ := pts_row h1
  obtain ⟨b1, b2⟩ := pts_row h2
  unfold JE
  rw [e_gen (rise_of h1) (rise_of h2), a1, a2, b1, b2]; rfl
theorem e32zn {cs ds : List Value} {k : Nat} {d : Int} (h2 : RowE ds (k + 1)) : e32 cs ds 0 (k + 1) d = e28 0 (crE ds (k + 1)) d ((pts ds (k + 1)).map (shP d)) := by
  obtain ⟨b1, b2⟩ := pts_row h2
  have := e_gen (a := 0) (b := crE ds (k + 1)) (d := d) (P := []) (Q := pts ds (k + 1)) (fun _ => ⟨by decide, fun j h => absurd h (by simp), fun j h => absurd h (by simp)⟩) (rise_of h2)
  rw [List.nil_append] at this
  rw [this, b1, b2]; rfl
theorem e32nz {cs ds : List Value} {m : Nat} {d : Int} (h1 : RowE cs (m + 1)) : e32 cs ds (m + 1) 0 d = e28 (crE cs (m + 1)) 0 d (pts cs (m + 1)) := by
  obtain ⟨a1, a2⟩ := pts_row h1
  have := e_gen (a := crE cs (m + 1)) (b := 0) (d := d) (P := pts cs (m + 1)) (Q := []) (rise_of h1) (fun _ => ⟨by decide, fun j h => absurd h (by simp), fun j h => absurd h (by simp)⟩)
  rw [List.map_nil, List.append_nil] at this
  rw [this, a1, a2]
  unfold e32
  rw [show crE ds 0 = 0 from rfl]
  simp
theorem e32zz {cs ds : List Value} {d : Int} : e32 cs ds 0 0 d = F28 0 0 d := by
  unfold e32
  rw [show crE ds 0 = 0 from rfl, show crE cs 0 = 0 from rfl]
  by_cases hF : F28 0 0 d = 0
  · simp [hF]
  · simp [hF]
theorem e29_eq {cs : List Value} {m : Nat} (h : RowE cs (m + 1)) (hc : crE cs (m + 1) = 0) : e29 cs m = e35 cs m := by
  obtain ⟨a1, a2⟩ := pts_row h
  have hR := rise_of h hc
  have h0 := hR.lo 0 (by omega)
  have hm := hR.lo m (by omega)
  have hle := hR.le_last (j := 0) (by omega)
  simp only [a2, Nat.add_sub_cancel] at hle
  have p0 : pA cs 0 = (pts cs (m + 1))[0].1 := by
    have := pA_fl (P := pts cs (m + 1)) (j := 0) (by omega)
    rwa [a1] at this
  have pm : pA cs m = (pts cs (m + 1))[m].1 := by
    have := pA_fl (P := pts cs (m + 1)) (j := m) (by omega)
    rwa [a1] at this
  have hd : dJ cs m = pA cs m - pA cs 0 + 1 := by
    unfold dJ sh29
    rw [show ((m : Nat) : Int).toNat = m from rfl, p0, pm, wrapF_in (n := (pts cs (m + 1))[m].1 - (pts cs (m + 1))[0].1) (by omega) (by omega), wrapF_in (by omega) (by omega)]
  unfold e29 e35
  rw [if_neg (fun hh => hh hc)]
  unfold JE
  rw [eJ_join hR hR (by rw [hd, p0, pm]; omega), a1, a2, Nat.add_sub_cancel]
  have hw : wrapF .i64 (pA cs m + dJ cs m) = pA cs m + dJ cs m := wrapF_in (by rw [hd, p0, pm]; omega) (by rw [hd, p0, pm]; omega)
  rw [hw]
  by_cases h3 : 39999 < pA cs m + dJ cs m
  · rw [if_pos ⟨by omega, h3⟩, if_pos h3]
  · rw [if_neg (fun hh => h3 hh.2), if_neg h3, if_neg (fun hh => by have := hh.2.2; rw [hd] at this; omega)]
end Go.Proofs.Ytphadgdlknhbnaa.Ways
set_option maxRecDepth 10000
noncomputable section
namespace Go.Proofs.Ytphadgdlknhbnaa.Ways
open Go Go.Ex Go.RowKit Go.Turn
def sp31h (h g : Bool) : ESpec := fun al css => match al, css with
  | [.int .i64 x, .int .i64 lo, .int .i64 hi], [] => cond h (cond g (some (rgE x lo hi = 0, i 0)) (some (rgE x lo hi = 3, i 3))) (some (True, i (rgE x lo hi)))
  | _, _ => none
theorem c31h (h g : Bool) : ∀ al css os p v, sp31h h g al css = some (p, v) → p → Blks css os → (∀ cs ∈ css, cs.all Ex.flat = true) ∧ clean 6 v = true ∧ ∃ H', Sound Try.prog (gl + css.length) (.call 31 ⟨al⟩ (heapL (deads ++ os))) (.val v H') := by
  intro al css os p v hs hp hb
  unfold sp31h at hs
  split at hs
  case h_2 => cases hs
  rename_i x lo hi
  have key : ∃ H', Sound Try.prog (gl + 0) (.call 31 ⟨[i x, i lo, i hi]⟩ (heapL (deads ++ os))) (.val (i (rgE x lo hi)) H') := ⟨_, (p31 x lo hi).sound hd_vars (fun _ h => absurd h List.not_mem_nil)⟩
  refine ⟨fun c hc => absurd hc List.not_mem_nil, ?_⟩
  cases h with
  | true => cases g with
    | true => cases hs; rw [hp] at key; exact ⟨rfl, key⟩
    | false => cases hs; rw [hp] at key; exact ⟨rfl, key⟩
  | false => cases hs; exact ⟨rfl, key⟩
def R27h (h g z : Bool) (L : List Pt) (e : Int) : NRes := cond g (cond z (.old (tp [.slice none 0 0, i 0])) (.tup L.length L.length (flatP L) 67 2 false (i 0))) (.old (tp [.slice none 0 0, cond h (i 3) (i e)]))
def zq (z : Bool) (L : List Pt) : Prop := if z = true then L = [] else L ≠ []
def eq3 (h g : Bool) (lit e : Int) : Prop := if g = true then e = 0 else if h = true then e = lit else e ≠ 0
theorem eq3_gq {h g : Bool} {lit e : Int} (hl : lit ≠ 0) (hq : eq3 h g lit e) : gq g e := by
  unfold eq3 at hq
  unfold gq
  cases g with
  | true => exact hq
  | false => cases h with
    | true => rw [if_neg (by simp), if_pos rfl] at hq; rw [if_neg (by simp), hq]; exact hl
    | false => rw [if_neg (by simp), if_neg (by simp)] at hq; rw [if_neg (by simp)]; exact hq
noncomputable def o27n (x : Int) : Out QRes := execO Try.prog 1 ⟨TX9, at_ [(27, 19)] .bool no_, off_, noL⟩ 60 (.call 27 ⟨[nl, i x]⟩ (heapL (deads ++ [])))
theorem v27n (x : Int) : (o27n x).news = aN (tru (okI [i 0, i (ckE x)] 2 2)) (er28 (fst2 0 (ckE x)) (.leaf 1000000 (.old (tp [nl, i 0])))) := by kernel_rfl
theorem x27n (x : Int) : o27n x = (o27n x).fix := by kernel_rfl
def sp27h (h g z : Bool) : NSpec := fun al css => match al, css with
  | [.slice none 0 0, .int .i64 x], [] => some (eq3 true g 3 (ckE x), .old (tp [.slice none 0 0, cond g (i 0) (i 3)]))
  | [.slice (some ⟨1, 0, none⟩) (m + 1) (m2 + 1), .int .i64 x], [cs] => some (m2 = m ∧ RowE cs (m + 1) ∧ m < 900000 ∧ eq3 h g 3 (e27 cs m x) ∧ (g = true → zq z (FL x (pts cs (m + 1)))), R27h h g z (FL x (pts cs (m + 1))) (e27 cs m x))
  | _, _ => none
theorem c27h (h g z : Bool) : ∀ al css os p v, sp27h h g z al css = some (p, v) → p → Blks css os → (∀ cs ∈ css, cs.all Ex.flat = true) ∧ v.Ok Try.prog 27 al deads os (gl + css.length) := by
  intro al css os p v hs hp hb
  unfold sp27h at hs
  split at hs
  · rename_i x
    cases hs
    cases hb
    refine ⟨fun c hc => absurd hc List.not_mem_nil, ?_⟩
    refine news_ok (C := ⟨TX9, at_ [(27, 19)] .bool no_, off_, noL⟩) (n := 60) tsX9 .none (x27n x) (b := 1000000) ?_ (show 1 ≤ 1000000 by decide) (show NRes.Fl (.old (tp [nl, cond g (i 0) (i 3)])) from by cases g <;> exact rfl)
    refine (congrArg NT.sel (v27n x)).trans ?_
    rw [aN_sel (tru_iff.2 (okI2 _ _))]
    unfold er28
    have e : fst2 0 (ckE x) = ckE x := by rw [fst2_eq]; by_cases hx : ckE x = 0 <;> simp [hx]
    rw [e]
    cases g with
    | true =>
      have hq : ckE x = 0 := hp
      rw [hq]; rfl
    | false =>
      have hq : ckE x = 3 := hp
      rw [hq]; rfl
  case h_3 => cases hs
  rename_i m m2 x cs
  cases hs
  obtain ⟨h0, h1, hn, he, hz⟩ := hp
  obtain ⟨f, hf⟩ : ∃ f, fq f (cnt cs (m + 1)).2 := by
    by_cases hc : (cnt cs (m + 1)).2 = []
    · exact ⟨false, hc⟩
    · exact ⟨true, hc⟩
  have hg := eq3_gq (by decide) he
  cases g with
  | true =>
    have key := c27 true f [sl 1 0 (m + 1) (m2 + 1), i x] [cs] os _ _ rfl ⟨h0, h1, hn, hg, fun _ => hf, fun h => by cases h⟩ hb
    refine ⟨key.1, ?_⟩
    have k2 := key.2
    have hz := hz rfl
    cases z with
    | true =>
      have hL : FL x (pts cs (m + 1)) = [] := hz
      rw [show (cond true (R27 67 (FL x (pts cs (m + 1)))) (.old (tp [.slice none 0 0, i (e27 cs m x)]))) = .old (tp [.slice none 0 0, i 0]) from by rw [hL]; rfl] at k2
      exact k2
    | false =>
      have hL : FL x (pts cs (m + 1)) ≠ [] := hz
      cases hF : FL x (pts cs (m + 1)) with
      | nil => exact absurd hF hL
      | cons _ _ => rw [hF] at k2; exact k2
  | false =>
    have key := c27 false true [sl 1 0 (m + 1) (m2 + 1), i x] [cs] os _ _ rfl ⟨h0, h1, hn, hg, fun h => by (cases h), fun _ => rfl⟩ hb
    refine ⟨key.1, ?_⟩
    have k2 := key.2
    cases h with
    | true => have e : e27 cs m x = 3 := he; rw [e] at k2; exact k2
    | false => exact k2
def R33h (z : Bool) (L : List Pt) : NRes := cond z (.old (.slice none 0 0)) (.sl L.length L.length (flatP L) 70 2 false)
def sp33h (z : Bool) : NSpec := fun al css => match al, css with
  | [.slice (some ⟨1, 0, none⟩) (m + 1) (m2 + 1), .int .i64 x], [cs] => some (m2 = m ∧ RowE cs (m + 1) ∧ m < 900000 ∧ zq z (FL x (pts cs (m + 1))), R33h z (FL x (pts cs (m + 1))))
  | [.slice (some ⟨1, 0, none⟩) 0 0, .int .i64 _], [cs] => some (cs.all Ex.flat = true, .old (.slice none 0 0))
  | _, _ => none
theorem c33h (z : Bool) : ∀ al css os p v, sp33h z al css = some (p, v) → p → Blks css os → (∀ cs ∈ css, cs.all Ex.flat = true) ∧ v.Ok Try.prog 33 al deads os (gl + css.length) := by
  intro al css os p v hs hp hb
  unfold sp33h at hs
  split at hs
  · rename_i m m2 x cs
    cases hs
    obtain ⟨h0, h1, hn, hz⟩ := hp
    obtain ⟨f, hf⟩ : ∃ f, fq f (cnt cs (m + 1)).2 := by
      by_cases hc : (cnt cs (m + 1)).2 = []
      · exact ⟨false, hc⟩
      · exact ⟨true, hc⟩
    have key := c33 f [sl 1 0 (m + 1) (m2 + 1), i x] [cs] os _ _ rfl ⟨h0, h1, hn, hf⟩ hb
    refine ⟨key.1, ?_⟩
    have k2 := key.2
    cases z with
    | true =>
      have hL : FL x (pts cs (m + 1)) = [] := hz
      rw [show R33 (FL x (pts cs (m + 1))) = .old (.slice none 0 0) from by rw [hL]; rfl] at k2
      exact k2
    | false =>
      have hL : FL x (pts cs (m + 1)) ≠ [] := hz
      cases hF : FL x (pts cs (m + 1)) with
      | nil => exact absurd hF hL
      | cons _ _ => rw [hF] at k2; exact k2
  · rename_i x cs
    cases hs
    exact c33 true [sl 1 0 0 0, i x] [cs] os _ _ rfl hp hb
  · cases hs
def R28h (g : Bool) (e : Int) (X : List Pt) : NRes := cond g (.tup (RV (flatP X) X.length).length (RV (flatP X) X.length).length (flatP (RV (flatP X) X.length)) 67 2 false (i 0)) (.old (tp [.slice none 0 0, i e]))
def sp28h (g : Bool) : NSpec := fun al css => match al, css with
  | [.slice (some ⟨1, 0, none⟩) (m + 1) (m2 + 1), .slice (some ⟨2, 0, none⟩) (k + 1) (k2 + 1), .int .i64 d], [cs, ds] => some ((m2 = m ∧ k2 = k) ∧ RowE cs (m + 1) ∧ RowE ds (k + 1) ∧ m + k < 900000 ∧ gq g (e28 (crE cs (m + 1)) (crE ds (k + 1)) d (JE cs ds m k d)), R28h g (e28 (crE cs (m + 1)) (crE ds (k + 1)) d (JE cs ds m k d)) (JE cs ds m k d))
  | [.slice none 0 0, .slice (some ⟨1, 0, none⟩) (k + 1) (k2 + 1), .int .i64 d], [ds] => some (k2 = k ∧ RowE ds (k + 1) ∧ k < 900000 ∧ gq g (e28 0 (crE ds (k + 1)) d ((pts ds (k + 1)).map (shP d))), R28h g (e28 0 (crE ds (k + 1)) d ((pts ds (k + 1)).map (shP d))) ((pts ds (k + 1)).map (shP d)))
  | [.slice (some ⟨1, 0, none⟩) (k + 1) (k2 + 1), .slice none 0 0, .int .i64 d], [ds] => some (k2 = k ∧ RowE ds (k + 1) ∧ k < 900000 ∧ gq g (e28 (crE ds (k + 1)) 0 d (pts ds (k + 1))), R28h g (e28 (crE ds (k + 1)) 0 d (pts ds (k + 1))) (pts ds (k + 1)))
  | [.slice none 0 0, .slice none 0 0, .int .i64 d], [] => some (gq g (F28 0 0 d), .old (tp [.slice none 0 0, cond g (i 0) (i (F28 0 0 d))]))
  | _, _ => none
theorem c28h (g : Bool) : ∀ al css os p v, sp28h g al css = some (p, v) → p → Blks css os → (∀ cs ∈ css, cs.all Ex.flat = true) ∧ v.Ok Try.prog 28 al deads os (gl + css.length) := by
  intro al css os p v hs hp hb
  unfold sp28h at hs
  split at hs
  · cases hs; exact c28 g _ _ os _ _ rfl hp hb
  · cases hs; exact c28 g _ _ os _ _ rfl hp hb
  · cases hs; exact c28 g _ _ os _ _ rfl hp hb
  · rename_i d
    cases hs
    have key := c28 g [.slice none 0 0, .slice none 0 0, i d] [] os _ _ rfl trivial hb
    refine ⟨key.1, ?_⟩
    cases g with
    | true =>
      have e : F28 0 0 d = 0 := hp
      have k2 := key.2
      rw [e] at k2
      exact k2
    | false => exact key.2
  · cases hs
def sp32h (g : Bool) : ESpec := fun al css => match al, css with
  | [.slice (some ⟨1, 0, none⟩) (m + 1) (m2 + 1), .slice (some ⟨2, 0, none⟩) (k + 1) (k2 + 1), .int .i64 d], [cs, ds] => some ((m2 = m ∧ k2 = k) ∧ RowE cs (m + 1) ∧ RowE ds (k + 1) ∧ gq g (e28 (crE cs (m + 1)) (crE ds (k + 1)) d (JE cs ds m k d)), cond g (i 0) (i (e28 (crE cs (m + 1)) (crE ds (k + 1)) d (JE cs ds m k d))))
  | [.slice (some ⟨1, 0, none⟩) 0 0, .slice (some ⟨2, 0, none⟩) (k + 1) (k2 + 1), .int .i64 d], [cs, ds] => some (k2 = k ∧ cs.all Ex.flat = true ∧ RowE ds (k + 1) ∧ gq g (e28 0 (crE ds (k + 1)) d ((pts ds (k + 1)).map (shP d))), cond g (i 0) (i (e28 0 (crE ds (k + 1)) d ((pts ds (k + 1)).map (shP d)))))
  | [.slice (some ⟨1, 0, none⟩) (m + 1) (m2 + 1), .slice (some ⟨2, 0, none⟩) 0 0, .int .i64 d], [cs, ds] => some (m2 = m ∧ ds.all Ex.flat = true ∧ RowE cs (m + 1) ∧ gq g (e28 (crE cs (m + 1)) 0 d (pts cs (m + 1))), cond g (i 0) (i (e28 (crE cs (m + 1)) 0 d (pts cs (m + 1)))))
  | [.slice (some ⟨1, 0, none⟩) 0 0, .slice (some ⟨2, 0, none⟩) 0 0, .int .i64 d], [cs, ds] => some (cs.all Ex.flat = true ∧ ds.all Ex.flat = true ∧ gq g (F28 0 0 d), cond g (i 0) (i (F28 0 0 d)))
  | _, _ => none
theorem bok0 {cs : List Value} (h : cs.all Ex.flat = true) : BokE cs 0 0 := ⟨⟨h, Nat.le_refl _, by decide, fun j hj => by omega⟩, by decide⟩
theorem lit_eq {g : Bool} {e v : Int} (hv : v = e) (hq : gq g e) : i v = cond g (i 0) (i e) := by
  subst hv
  cases g with
  | true => exact congrArg i hq
  | false => rfl
theorem c32h (g : Bool) : ∀ al css os p v, sp32h g al css = some (p, v) → p → Blks css os → (∀ cs ∈ css, cs.all Ex.flat = true) ∧ clean 6 v = true ∧ ∃ H', Sound Try.prog (gl + css.length) (.call 32 ⟨al⟩ (heapL (deads ++ os))) (.val v H') := by
  intro al css os p v hs hp hb
  unfold sp32h at hs
  split at hs
  · rename_i m m2 k k2 d cs ds
    cases hs
    obtain ⟨⟨rfl, rfl⟩, h1, h2, hq⟩ := hp
    have key := c32 [sl 1 0 (m2 + 1) (m2 + 1), sl 2 0 (k2 + 1) (k2 + 1), i d] [cs, ds] os _ _ rfl ⟨h1.bok, h2.bok⟩ hb
    rw [lit_eq (e32nn h1 h2) hq] at key
    exact key
  · rename_i k k2 d cs ds
    cases hs
    obtain ⟨rfl, h1, h2, hq⟩ := hp
    have key := c32 [sl 1 0 0 0, sl 2 0 (k2 + 1) (k2 + 1), i d] [cs, ds] os _ _ rfl ⟨bok0 h1, h2.bok⟩ hb
    rw [lit_eq (e32zn h2) hq] at key
    exact key
  · rename_i m m2 d cs ds
    cases hs
    obtain ⟨rfl, h2, h1, hq⟩ := hp
    have key := c32 [sl 1 0 (m2 + 1) (m2 + 1), sl 2 0 0 0, i d] [cs, ds] os _ _ rfl ⟨h1.bok, bok0 h2⟩ hb
    rw [lit_eq (e32nz h1) hq] at key
    exact key
  · rename_i d cs ds
    cases hs
    obtain ⟨h1, h2, hq⟩ := hp
    have key := c32 [sl 1 0 0 0, sl 2 0 0 0, i d] [cs, ds] os _ _ rfl ⟨bok0 h1, bok0 h2⟩ hb
    rw [lit_eq e32zz hq] at key
    exact key
  · cases hs
def R29h (T : Nat) (h g f : Bool) (e : Int) (C : List Cy) : NRes := cond g (cond f (.tup C.length C.length (flatC C) T 4 false (i 0)) (.old (tp [.slice none 0 0, i 0]))) (.old (tp [.slice none 0 0, cond h (i 3) (i e)]))
def sp29h (h g f : Bool) : NSpec := fun al css => match al, css with
  | [.slice (some ⟨1, 0, none⟩) (m + 1) (m2 + 1)], [cs] => some (m2 = m ∧ RowE cs (m + 1) ∧ m + m < 900000 ∧ (if h = true then crE cs (m + 1) = 0 else crE cs (m + 1) ≠ 0) ∧ eq3 h g 3 (e29 cs m) ∧ (g = true → fq f (CJ cs m (dJ cs m))), R29h 83 h g f (crE cs (m + 1)) (CJ cs m (dJ cs m)))
  | _, _ => none
theorem c29h (h g f : Bool) : ∀ al css os p v, sp29h h g f al css = some (p, v) → p → Blks css os → (∀ cs ∈ css, cs.all Ex.flat = true) ∧ v.Ok Try.prog 29 al deads os (gl + css.length) := by
  intro al css os p v hs hp hb
  unfold sp29h at hs
  split at hs
  case h_2 => cases hs
  rename_i m m2 cs
  cases hs
  obtain ⟨h0, h1, hn, hc, he, hf⟩ := hp
  have hg := eq3_gq (by decide) he
  cases g with
  | true =>
    have key := c29 true f [sl 1 0 (m + 1) (m2 + 1)] [cs] os _ _ rfl ⟨h0, h1, hn, hg, hf, fun h => by cases h⟩ hb
    refine ⟨key.1, ?_⟩
    cases f with
    | true => exact key.2
    | false => exact key.2
  | false =>
    have key := c29 false true [sl 1 0 (m + 1) (m2 + 1)] [cs] os _ _ rfl ⟨h0, h1, hn, hg, fun h => by (cases h), fun _ => rfl⟩ hb
    refine ⟨key.1, ?_⟩
    have k2 := key.2
    cases h with
    | true =>
      have e : e29 cs m = 3 := he
      rw [e] at k2
      exact k2
    | false =>
      have e : e29 cs m = crE cs (m + 1) := by unfold e29; rw [if_pos (by simpa using hc)]
      rw [e] at k2
      exact k2
def R35h (g f : Bool) (C : List Cy) : NRes := cond g (cond f (.tup C.length C.length (flatC C) 69 4 false (i 0)) (.old (tp [.slice none 0 0, i 0]))) (.old (tp [.slice none 0 0, i 3]))
def sp35h (g f : Bool) : NSpec := fun al css => match al, css with
  | [.slice (some ⟨1, 0, none⟩) (m + 1) (m2 + 1)], [cs] => some (m2 = m ∧ RowE cs (m + 1) ∧ m + m < 900000 ∧ crE cs (m + 1) = 0 ∧ (if g = true then e29 cs m = 0 else e29 cs m = 3) ∧ (g = true → fq f (CJ cs m (dJ cs m))), R35h g f (CJ cs m (dJ cs m)))
  | [.slice (some ⟨1, 0, none⟩) 0 0], [cs] => some (cs.all Ex.flat = true, .old (tp [.slice none 0 0, i 0]))
  | _, _ => none
theorem c35h (g f : Bool) : ∀ al css os p v, sp35h g f al css = some (p, v) → p → Blks css os → (∀ cs ∈ css, cs.all Ex.flat = true) ∧ v.Ok Try.prog 35 al deads os (gl + css.length) := by
  intro al css os p v hs hp hb
  unfold sp35h at hs
  split at hs
  · rename_i m m2 cs
    cases hs
    obtain ⟨h0, h1, hn, hc, he, hf⟩ := hp
    rw [e29_eq h1 hc] at he
    cases g with
    | true =>
      have key := c35 true f [sl 1 0 (m + 1) (m2 + 1)] [cs] os _ _ rfl ⟨h0, h1, hn, he, hf⟩ hb
      refine ⟨key.1, ?_⟩
      cases f with
      | true => exact key.2
      | false => exact key.2
    | false =>
      have e : e35 cs m = 3 := he
      have key := c35 false true [sl 1 0 (m + 1) (m2 + 1)] [cs] os _ _ rfl ⟨h0, h1, hn, (show e35 cs m ≠ 0 by rw [e]; decide), fun h => by (cases h)⟩ hb
      refine ⟨key.1, ?_⟩
      have k2 := key.2
      rw [e] at k2
      exact k2
  · cases hs
    exact c35 true true [sl 1 0 0 0] _ os _ _ rfl hp hb
  · cases hs
noncomputable def TF (h g1 z1 g2 g3 f3 : Bool) : Tb := ext (ext (ext (ext (ext (ext (ext (ext (ext (ext (ext (ext (ext (ext T14 9 (pureE s9 [] Hd)) 16 (autoE (spS eqP cP) [] (heapL deads))) 17 (newE sp17t [] (heapL deads))) 19 (newE sp19s [] (heapL deads))) 20 (autoE (sp18g h) [] (heapL deads))) 25 (autoE (spS eqF4 cF) [] (heapL deads))) 26 (newE (sp23 69) [] (heapL deads)))
  27 (newE (sp27h h g1 z1) [] (heapL deads))) 28 (newE (sp28h g2) [] (heapL deads))) 29 (newE (sp29h h g3 f3) [] (heapL deads))) 31 (autoE (sp31h h g1) [] (heapL deads))) 32 (autoE (sp32h g2) [] (heapL deads))) 33 (newE (sp33h z1) [] (heapL deads))) 34 (newE sp34 [] (heapL deads))
noncomputable def TF' (h g1 z1 g2 g3 f3 : Bool) : Tb := ext (TF h g1 z1 g2 g3 f3) 35 (newE (sp35h g3 f3) [] (heapL deads))
theorem tsF {G : Nat} (haw : Pure Try.prog Hd 9 [] (b_ true)) (h g1 z1 g2 g3 f3 : Bool) : TSound Try.prog G (TF' h g1 z1 g2 g3 f3) := by
  have h9 : TSound Try.prog G (ext T14 9 (pureE s9 [] Hd)) := TSound.pure hd_vars ts14 fun args v h => by
    unfold s9 at h
    split at h
    · cases h; exact haw
    · cases h
  exact ((((((((((((((h9.auto (cS e16 c16b)).new c17t).new c19s).auto (c18g 20 (.inr rfl) h)).auto (cS e25 c25)).new c26).new (c27h h g1 z1)).new (c28h g2)).new (c29h h g3 f3)).auto (c31h h g1)).auto (c32h g2)).new (c33h z1)).new c34).new (c35h g3 f3))
end Go.Proofs.Ytphadgdlknhbnaa.Ways
set_option maxRecDepth 10000
noncomputable section
namespace Go.Proofs.Ytphadgdlknhbnaa.Ways
open Go Go.Ex Go.RowKit Go.Turn
def spF (A B h g1 z1 g2 : Bool) : Nat → Nat → Split := at_ ([(5, 25), (5, 30)] ++ (mkT (g1 && (!z1 && !A)) [(5, 98)] ++ (mkT (g2 && !(A && B)) [(5, 109)] ++ (mkT (!g2) [(5, 78), (5, 103)] ++ mkT (!h) [(5, 72), (5, 93), (5, 85), (5, 114)])))) .bool (at_ (mkT (!g2) [(5, 79)] ++ mkT (!h) [(5, 73), (5, 87)]) (.ints []) no_)
noncomputable def CF5 (A B h g1 z1 g2 g3 f3 : Bool) : Cfg := ⟨TF' h g1 z1 g2 g3 f3, spF A B h g1 z1 g2, off_, noL⟩
section
variable (A B h g1 z1 g2 g3 f3 : Bool) (cs ds : List Value) (n m : Nat) (x y : Int)
def X5 : List Pt := cond A (cond B [] ((pts ds (m + 1)).map (shP y))) (cond B (pts cs (n + 1)) (JE cs ds n m y))
def v5 : Int := cond A (cond B (F28 0 0 y) (e28 0 (crE ds (m + 1)) y ((pts ds (m + 1)).map (shP y)))) (cond B (e28 (crE cs (n + 1)) 0 y (pts cs (n + 1))) (e28 (crE cs (n + 1)) (crE ds (m + 1)) y (JE cs ds n m y)))
def P27_ : Prop := cond A (eq3 true g1 3 (ckE x)) (n = n ∧ RowE cs (n + 1) ∧ n < 900000 ∧ eq3 h g1 3 (e27 cs n x) ∧ (g1 = true → zq z1 (FL x (pts cs (n + 1)))))
def P28_ : Prop := cond A (cond B (gq g2 (F28 0 0 y)) (m = m ∧ RowE ds (m + 1) ∧ m < 900000 ∧ gq g2 (e28 0 (crE ds (m + 1)) y ((pts ds (m + 1)).map (shP y))))) (cond B (n = n ∧ RowE cs (n + 1) ∧ n < 900000 ∧ gq g2 (e28 (crE cs (n + 1)) 0 y (pts cs (n + 1))))
  ((n = n ∧ m = m) ∧ RowE cs (n + 1) ∧ RowE ds (m + 1) ∧ n + m < 900000 ∧ gq g2 (e28 (crE cs (n + 1)) (crE ds (m + 1)) y (JE cs ds n m y))))
def P29_ : Prop := n = n ∧ RowE cs (n + 1) ∧ n + n < 900000 ∧ (if h = true then crE cs (n + 1) = 0 else crE cs (n + 1) ≠ 0) ∧ eq3 h g3 3 (e29 cs n) ∧ (g3 = true → fq f3 (CJ cs n (dJ cs n)))
def P20_ : Prop := cond h (BokE cs (nz A n) (nz A n) ∧ crE cs (nz A n) = 0) (BokE cs (nz A n) (nz A n) ∧ crE cs (nz A n) ≠ 0)
def P31_ : Prop := cond h (cond g1 (rgE x (-999999999) 999999999 = 0) (rgE x (-999999999) 999999999 = 3)) True
def w31 : Int := cond h (cond g1 0 3) (rgE x (-999999999) 999999999)
def w20 : Int := cond h 0 (crE cs (nz A n))
def P32_ : Prop := cond A (cond B (cs.all Ex.flat = true ∧ ds.all Ex.flat = true ∧ gq g2 (F28 0 0 y)) (m = m ∧ cs.all Ex.flat = true ∧ RowE ds (m + 1) ∧ gq g2 (e28 0 (crE ds (m + 1)) y ((pts ds (m + 1)).map (shP y))))) (cond B (n = n ∧ ds.all Ex.flat = true ∧ RowE cs (n + 1) ∧ gq g2 (e28 (crE cs (n + 1)) 0 y (pts cs (n + 1))))
  ((n = n ∧ m = m) ∧ RowE cs (n + 1) ∧ RowE ds (m + 1) ∧ gq g2 (e28 (crE cs (n + 1)) (crE ds (m + 1)) y (JE cs ds n m y))))
def P33_ : Prop := cond A (cs.all Ex.flat = true) (n = n ∧ RowE cs (n + 1) ∧ n < 900000 ∧ zq z1 (FL x (pts cs (n + 1))))
def P34_ : Prop := cond A (cond B (cs.all Ex.flat = true ∧ ds.all Ex.flat = true) (m = m ∧ cs.all Ex.flat = true ∧ RowE ds (m + 1) ∧ m < 900000)) (cond B (n = n ∧ ds.all Ex.flat = true ∧ RowE cs (n + 1) ∧ n < 900000)
  ((n = n ∧ m = m) ∧ RowE cs (n + 1) ∧ RowE ds (m + 1) ∧ n + m < 900000))
def P35_ : Prop := cond A (cs.all Ex.flat = true) (n = n ∧ RowE cs (n + 1) ∧ n + n < 900000 ∧ crE cs (n + 1) = 0 ∧ (if g3 = true then e29 cs n = 0 else e29 cs n = 3) ∧ (g3 = true → fq f3 (CJ cs n (dJ cs n))))
noncomputable def pairT (L : List Pt) (K : VT) : VT := aV (tru (TokE (flatP L) L.length L.length)) (aV (tru (okX cP (flatP (pts (flatP L) L.length)) L.length L.length ∧ okX cP (flatP L) L.length L.length)) (.br (sameE eqP (flatP (pts (flatP L) L.length)) (flatP L) L.length L.length) K lfU))
noncomputable def cycP (C : List Cy) : VT := aV (tru (CfE (flatC C) C.length C.length)) (aV (tru (okX cF (flatC C) C.length C.length ∧ okX cF (flatC C) C.length C.length)) (.leaf (b_ (sameE eqF4 (flatC C) (flatC C) C.length C.length))))
noncomputable def lastF : VT := cond (!A && (g3 && f3)) (cycP (CJ cs n (dJ cs n))) (nnT ltU)
noncomputable def endF (v : Int) (K : VT) : VT := cond h K (.br (eqF v v) K lfU)
noncomputable def midF : VT := cond g2 (cond (A && B) (nnT (endF h (w20 A h cs n) (lastF A g3 f3 cs n))) (pairT (RV (flatP (X5 A B cs ds n m y)) (X5 A B cs ds n m y).length) (endF h (w20 A h cs n) (lastF A g3 f3 cs n))))
  (.br (eqF (v5 A B cs ds n m y) (v5 A B cs ds n m y)) (nnT (endF h (w20 A h cs n) (lastF A g3 f3 cs n))) lfU)
noncomputable def topF : VT := endF h (fst2 (crE cs (nz A n)) (ckE x)) (cond (!A && (g1 && !z1)) (pairT (FL x (pts cs (n + 1))) (midF A B h g2 g3 f3 cs ds n m y)) (nnT (midF A B h g2 g3 f3 cs ds n m y)))
noncomputable def refF : VT := cond h (fun t => cond g1 (aV (tru (P33_ A z1 cs n x)) t) t) (fun t => .br (eqF (fst2 (crE cs (nz A n)) (rgE x (-999999999) 999999999)) 0) .fail t) <|
  cond g2 (fun t => aV (tru (P34_ A B cs ds n m)) t) (fun t => .br (eqF (v5 A B cs ds n m y) 0) .fail t) <|
  cond h (fun t => aV (tru (P35_ A g3 f3 cs n)) t) (fun t => .br (eqF (crE cs (nz A n)) 0) .fail t) <| topF A B h g1 z1 g2 g3 f3 cs ds n m x y
noncomputable def goF : VT := ownT A cs (nz A n) <| aV (tru (P27_ A h g1 z1 cs n x)) <| ownT A cs (nz A n) <| ownT B ds (nz B m) <| aV (tru (P28_ A B g2 cs ds n m y)) <| ownT A cs (nz A n) <| cond A (fun t => t) (aV (tru (P29_ h g3 f3 cs n))) <|
  aV (tru (P20_ A h cs n)) <| aV (tru (P31_ h g1 x)) <| aV (tru (okI [i (w20 A h cs n), i (w31 h g1 x)] 2 2)) <| aV (tru (P32_ A B g2 cs ds n m y)) <| refF A B h g1 z1 g2 g3 f3 cs ds n m x y
noncomputable def lawF : VT := .br (!leF (nz A n) 16) ltU (.br (!leF (nz B m) 16) ltU (goF A B h g1 z1 g2 g3 f3 cs ds n m x y))
end
noncomputable def o5 (A B h g1 z1 g2 g3 f3 : Bool) (cs ds : List Value) (n m : Nat) (x y : Int) (t s t2 s2 : Nat) (ex e2 : Bool) : Out QRes := execO Try.prog 3 (CF5 A B h g1 z1 g2 g3 f3) 80 (.call 5 ⟨[sl 1 0 (nz A n) (nz A n), sl 2 0 (nz B m) (nz B m), ag [i x, i y]]⟩ (heapL (deads ++ [.cells cs t s ex, .cells ds t2 s2 e2])))
end Go.Proofs.Ytphadgdlknhbnaa.Ways
