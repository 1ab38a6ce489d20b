import Derived.Test.YtbocpikgochioaaDoorNr1
import Derived.Test.YtbocpikgochioaaDoorVr0
import Derived.Test.YtbocpikgochioaaDoorEngOrd2
namespace Go.Proofs.YtbocpikgochioaaDoor.Ways
open Go Go.Ex
/-! ### light -/
def syNl : Nat → Nat → Bool := on_ [(Fn.ref03_Light, 16)]
noncomputable def spLi : Nat → Nat → Split := at_ [(Fn.law03_light, 6), (Fn.law03_light, 10), (Fn.law03_light, 14)] .bool no_
noncomputable def CLi : Cfg := ⟨TG1, spLi, syNl, noL⟩
noncomputable def CLg : Cfg := ⟨TG1, at_ [(Fn.law03_light, 9)] (.ints []) spLi, syNl, noL⟩
def lgE (w s r0 : Int) : Bool := leF (wrapF .i64 ((wrapF .i64 (1024 * w)).tdiv (wrapF .i64 (s * r0)))) 4096
def lightE (a : ArA) (css : List (List Value)) : Bool := shE a.b.n1 a.b.n2 a.b.n && (!eqF (errB a.b css) 0 || (!eqF (flowE a.w a.s a.q) 0 || lgE a.w a.s (rhoC css 0)))
def rdLi : List Value → Option (List Nat × ArA)
  | [v, .agg ⟨[.int .i64 w, .int .i64 s, .int .i64 q]⟩] => match rdB v with
    | some y => some (y.1, ⟨y.2, w, s, q, 0, 0, 0⟩)
    | none => none
  | _ => none
def ArA.valsL (a : ArA) : List Value := [a.b.val, flV a.w a.s a.q]
theorem rdLi_ok : ∀ args bs a, rdLi args = some (bs, a) → a.valsL.all (renOk (List.range gl ++ bs) 8) = true ∧ args = a.valsL.map (ren (List.range gl ++ bs) 8) := by
  intro args bs a h
  unfold rdLi at h
  split at h
  · split at h
    · rename_i x hx
      cases h
      obtain ⟨h1, h2⟩ := rdB_ok hx
      refine ⟨?_, by rw [h2]; rfl⟩
      show (renOk _ 8 x.2.val && _) = true
      rw [h1]; rfl
    · cases h
  · cases h
def okLi (a : ArA) (css : List (List Value)) : Prop := a.b.nil = false ∧ (a.b.c1 = a.b.n1 ∧ a.b.c2 = a.b.n2 ∧ a.b.c = a.b.n) ∧ fl3 css ∧ (shE a.b.n1 a.b.n2 a.b.n = true → okB3 a.b css)
noncomputable def ligT (cs1 cs2 cs3 : List Value) (n1 n2 n : Nat) (w s q : Int) (g : VT) : VT :=
  askB (tru ((argA n1 n2 n).nil = false ∧ fl3 [cs1, cs2, cs3])) (.br (shE n1 n2 n) (askB (tru (okB3 (argA n1 n2 n) [cs1, cs2, cs3])) (.br (!eqF (errB (argA n1 n2 n) [cs1, cs2, cs3]) 0) (lf true) (.br (!eqF (flowE w s q) 0) (lf true) g))) (lf false))
noncomputable def ligG (s w r0 : Int) : VT := .br (!eqF (wrapF .i64 (s * r0)) 0) (.leaf (b_ (lgE w s r0))) .fail
section
variable {cs1 cs2 cs3 : List Value} {t1 s1 t2 s2 t3 s3 n1 n2 n : Nat} {e1 e2 e3 : Bool} {w s q : Int} {ρ : Nat → Int}
theorem light_sel {g : VT} (h : fl3 [cs1, cs2, cs3]) (hs : shE n1 n2 n = true) (hB : okB3 (argA n1 n2 n) [cs1, cs2, cs3]) (hg : errB (argA n1 n2 n) [cs1, cs2, cs3] = 0 → flowE w s q = 0 → g.sel = some (b_ (lgE w s (rhoE cs3 0)))) :
    (ligT cs1 cs2 cs3 n1 n2 n w s q g).sel = some (b_ (lightE ⟨argA n1 n2 n, w, s, q, 0, 0, 0⟩ [cs1, cs2, cs3])) := by
  have hE : lightE ⟨argA n1 n2 n, w, s, q, 0, 0, 0⟩ [cs1, cs2, cs3] = (shE n1 n2 n && (!eqF (errB (argA n1 n2 n) [cs1, cs2, cs3]) 0 || (!eqF (flowE w s q) 0 || lgE w s (rhoE cs3 0)))) := rfl
  rw [hE]
  unfold ligT
  rw [askB_sel (tru_iff.2 ⟨rfl, h⟩), brB, if_pos hs, askB_sel (tru_iff.2 hB), hs, eqF_d, eqF_d, brN, brN]
  by_cases h1 : errB (argA n1 n2 n) [cs1, cs2, cs3] = 0
  · rw [if_pos h1]
    by_cases h2 : flowE w s q = 0
    · rw [if_pos h2, hg h1 h2]; simp [h1, h2]
    · rw [if_neg h2]; simp [h2, lf, VT.sel]
  · rw [if_neg h1]; simp [h1, lf, VT.sel]
theorem light_no (h : fl3 [cs1, cs2, cs3]) (hs : shE n1 n2 n = false) {x : VT} :
    (askB (tru ((argA n1 n2 n).nil = false ∧ fl3 [cs1, cs2, cs3])) (.br (shE n1 n2 n) x (lf false))).sel = some (b_ (lightE ⟨argA n1 n2 n, w, s, q, 0, 0, 0⟩ [cs1, cs2, cs3])) := by
  have hE : lightE ⟨argA n1 n2 n, w, s, q, 0, 0, 0⟩ [cs1, cs2, cs3] = (shE n1 n2 n && (!eqF (errB (argA n1 n2 n) [cs1, cs2, cs3]) 0 || (!eqF (flowE w s q) 0 || lgE w s (rhoE cs3 0)))) := rfl
  rw [hE, askB_sel (tru_iff.2 ⟨rfl, h⟩), brB, hs]
  rfl
theorem ligG_sel (hb : errB (argA n1 n2 n) [cs1, cs2, cs3] = 0) (hf : flowE w s q = 0) : (ligG s w (rhoE cs3 0)).sel = some (b_ (lgE w s (rhoE cs3 0))) := by
  have hR := rv_of (j := 0) (show bladeE cs1 n1 cs2 n2 (rhoE cs3) n = 0 from hb) hf (by have := (blade_z (show bladeE cs1 n1 cs2 n2 (rhoE cs3) n = 0 from hb)).2.1; omega)
  have hr := hR.r
  have hs := hR.s
  rw [show 4 * 0 = 0 from rfl] at hr
  have m := mul_bd (a := s) (b := rhoE cs3 0) (A := 1000) (B := 200) (by omega) (by omega)
  have m2 : 0 < s * rhoE cs3 0 := Int.mul_pos (by omega) (by omega)
  unfold ligG
  rw [wrapF_in (n := s * rhoE cs3 0) (by omega) (by omega), eqF_d, brN, if_neg (by omega)]
  rfl
theorem lig0 (cs1 cs2 : List Value) (ρ : Nat → Int) (t1 s1 t2 s2 t3 s3 n1 n2 : Nat) (e1 e2 e3 : Bool) (w s q : Int) : (execO Tryd.prog 7 CLi 80 (.call Fn.law03_light ⟨[blV n1 n1 n2 n2 (sl 6 0 0 0), flV w s q]⟩ (hpB cs1 t1 s1 e1 cs2 t2 s2 e2 (ringC ρ 0) t3 s3 e3))).vals = ligT cs1 cs2 (ringC ρ 0) n1 n2 0 w s q .fail := by kernel_rfl
theorem lig1 (cs1 cs2 : List Value) (ρ : Nat → Int) (t1 s1 t2 s2 t3 s3 n1 n2 : Nat) (e1 e2 e3 : Bool) (w s q : Int) : (execO Tryd.prog 7 CLi 80 (.call Fn.law03_light ⟨[blV n1 n1 n2 n2 (sl 6 0 1 1), flV w s q]⟩ (hpB cs1 t1 s1 e1 cs2 t2 s2 e2 (ringC ρ 1) t3 s3 e3))).vals = ligT cs1 cs2 (ringC ρ 1) n1 n2 1 w s q (ligG s w (rhoE (ringC ρ 1) 0)) := by kernel_rfl
theorem lig2 (cs1 cs2 : List Value) (ρ : Nat → Int) (t1 s1 t2 s2 t3 s3 n1 n2 : Nat) (e1 e2 e3 : Bool) (w s q : Int) : (execO Tryd.prog 7 CLi 80 (.call Fn.law03_light ⟨[blV n1 n1 n2 n2 (sl 6 0 2 2), flV w s q]⟩ (hpB cs1 t1 s1 e1 cs2 t2 s2 e2 (ringC ρ 2) t3 s3 e3))).vals = ligT cs1 cs2 (ringC ρ 2) n1 n2 2 w s q (ligG s w (rhoE (ringC ρ 2) 0)) := by kernel_rfl
theorem lig3 (cs1 cs2 : List Value) (ρ : Nat → Int) (t1 s1 t2 s2 t3 s3 n1 n2 : Nat) (e1 e2 e3 : Bool) (w s q : Int) : (execO Tryd.prog 7 CLi 80 (.call Fn.law03_light ⟨[blV n1 n1 n2 n2 (sl 6 0 3 3), flV w s q]⟩ (hpB cs1 t1 s1 e1 cs2 t2 s2 e2 (ringC ρ 3) t3 s3 e3))).vals = ligT cs1 cs2 (ringC ρ 3) n1 n2 3 w s q (ligG s w (rhoE (ringC ρ 3) 0)) := by kernel_rfl
theorem lig17 (cs1 cs2 : List Value) (ρ : Nat → Int) (t1 s1 t2 s2 t3 s3 n1 n2 : Nat) (e1 e2 e3 : Bool) (w s q : Int) : (execO Tryd.prog 7 CLi 80 (.call Fn.law03_light ⟨[blV n1 n1 n2 n2 (sl 6 0 17 17), flV w s q]⟩ (hpB cs1 t1 s1 e1 cs2 t2 s2 e2 (ringC ρ 17) t3 s3 e3))).vals = ligT cs1 cs2 (ringC ρ 17) n1 n2 17 w s q (ligG s w (rhoE (ringC ρ 17) 0)) := by kernel_rfl
theorem ligg (cs1 cs2 cs3 : List Value) (t1 s1 t2 s2 t3 s3 n1 n2 n : Nat) (e1 e2 e3 : Bool) (w s q : Int) : (execO Tryd.prog 7 CLg 80 (.call Fn.law03_light ⟨[blV n1 n1 n2 n2 (sl 6 0 n n), flV w s q]⟩ (hpB cs1 t1 s1 e1 cs2 t2 s2 e2 cs3 t3 s3 e3))).vals = askB (tru ((argA n1 n2 n).nil = false ∧ fl3 [cs1, cs2, cs3])) (.br (shE n1 n2 n) (askB (tru (okB3 (argA n1 n2 n) [cs1, cs2, cs3])) .fail) (lf false)) := by kernel_rfl
theorem ligf0 (cs1 cs2 : List Value) (ρ : Nat → Int) (t1 s1 t2 s2 t3 s3 n1 n2 : Nat) (e1 e2 e3 : Bool) (w s q : Int) : execO Tryd.prog 7 CLi 80 (.call Fn.law03_light ⟨[blV n1 n1 n2 n2 (sl 6 0 0 0), flV w s q]⟩ (hpB cs1 t1 s1 e1 cs2 t2 s2 e2 (ringC ρ 0) t3 s3 e3)) = (execO Tryd.prog 7 CLi 80 (.call Fn.law03_light ⟨[blV n1 n1 n2 n2 (sl 6 0 0 0), flV w s q]⟩ (hpB cs1 t1 s1 e1 cs2 t2 s2 e2 (ringC ρ 0) t3 s3 e3))).fix := by kernel_rfl
theorem ligf1 (cs1 cs2 : List Value) (ρ : Nat → Int) (t1 s1 t2 s2 t3 s3 n1 n2 : Nat) (e1 e2 e3 : Bool) (w s q : Int) : execO Tryd.prog 7 CLi 80 (.call Fn.law03_light ⟨[blV n1 n1 n2 n2 (sl 6 0 1 1), flV w s q]⟩ (hpB cs1 t1 s1 e1 cs2 t2 s2 e2 (ringC ρ 1) t3 s3 e3)) = (execO Tryd.prog 7 CLi 80 (.call Fn.law03_light ⟨[blV n1 n1 n2 n2 (sl 6 0 1 1), flV w s q]⟩ (hpB cs1 t1 s1 e1 cs2 t2 s2 e2 (ringC ρ 1) t3 s3 e3))).fix := by kernel_rfl
theorem ligf2 (cs1 cs2 : List Value) (ρ : Nat → Int) (t1 s1 t2 s2 t3 s3 n1 n2 : Nat) (e1 e2 e3 : Bool) (w s q : Int) : execO Tryd.prog 7 CLi 80 (.call Fn.law03_light ⟨[blV n1 n1 n2 n2 (sl 6 0 2 2), flV w s q]⟩ (hpB cs1 t1 s1 e1 cs2 t2 s2 e2 (ringC ρ 2) t3 s3 e3)) = (execO Tryd.prog 7 CLi 80 (.call Fn.law03_light ⟨[blV n1 n1 n2 n2 (sl 6 0 2 2), flV w s q]⟩ (hpB cs1 t1 s1 e1 cs2 t2 s2 e2 (ringC ρ 2) t3 s3 e3))).fix := by kernel_rfl
theorem ligf3 (cs1 cs2 : List Value) (ρ : Nat → Int) (t1 s1 t2 s2 t3 s3 n1 n2 : Nat) (e1 e2 e3 : Bool) (w s q : Int) : execO Tryd.prog 7 CLi 80 (.call Fn.law03_light ⟨[blV n1 n1 n2 n2 (sl 6 0 3 3), flV w s q]⟩ (hpB cs1 t1 s1 e1 cs2 t2 s2 e2 (ringC ρ 3) t3 s3 e3)) = (execO Tryd.prog 7 CLi 80 (.call Fn.law03_light ⟨[blV n1 n1 n2 n2 (sl 6 0 3 3), flV w s q]⟩ (hpB cs1 t1 s1 e1 cs2 t2 s2 e2 (ringC ρ 3) t3 s3 e3))).fix := by kernel_rfl
theorem ligf17 (cs1 cs2 : List Value) (ρ : Nat → Int) (t1 s1 t2 s2 t3 s3 n1 n2 : Nat) (e1 e2 e3 : Bool) (w s q : Int) : execO Tryd.prog 7 CLi 80 (.call Fn.law03_light ⟨[blV n1 n1 n2 n2 (sl 6 0 17 17), flV w s q]⟩ (hpB cs1 t1 s1 e1 cs2 t2 s2 e2 (ringC ρ 17) t3 s3 e3)) = (execO Tryd.prog 7 CLi 80 (.call Fn.law03_light ⟨[blV n1 n1 n2 n2 (sl 6 0 17 17), flV w s q]⟩ (hpB cs1 t1 s1 e1 cs2 t2 s2 e2 (ringC ρ 17) t3 s3 e3))).fix := by kernel_rfl
theorem ligfg (cs1 cs2 cs3 : List Value) (t1 s1 t2 s2 t3 s3 n1 n2 n : Nat) (e1 e2 e3 : Bool) (w s q : Int) : execO Tryd.prog 7 CLg 80 (.call Fn.law03_light ⟨[blV n1 n1 n2 n2 (sl 6 0 n n), flV w s q]⟩ (hpB cs1 t1 s1 e1 cs2 t2 s2 e2 cs3 t3 s3 e3)) = (execO Tryd.prog 7 CLg 80 (.call Fn.law03_light ⟨[blV n1 n1 n2 n2 (sl 6 0 n n), flV w s q]⟩ (hpB cs1 t1 s1 e1 cs2 t2 s2 e2 cs3 t3 s3 e3))).fix := by kernel_rfl
end
theorem f24_light : ∀ a css os, okLi a css → Blks css os → ∃ H', Sound Tryd.prog (gl + css.length) (.call Fn.law03_light ⟨a.valsL⟩ (heapL (deads ++ os))) (.val (b_ (lightE a css)) H') := by
  intro a css os h hb
  obtain ⟨⟨n1, c1, n2, c2, n, c, nl⟩, w, s, q, ring, x, d⟩ := a
  obtain ⟨g1, ⟨g2, g3, g4⟩, h, hs⟩ := h
  dsimp only at g1 g2 g3 g4 hs
  subst g1 g2 g3 g4
  have hf := h
  unfold fl3 at h
  split at h
  case h_2 => cases h
  rename_i cs1 cs2 cs3
  obtain ⟨t1, s1, e1, t2, s2, e2, t3, s3, e3, rfl⟩ := blks3 hb
  cases hsh : shE c1 c2 c with
  | false => exact one_tree (C := CLg) (n := 80) _ tsG1 .none (ligfg cs1 cs2 cs3 t1 s1 t2 s2 t3 s3 c1 c2 c e1 e2 e3 w s q) (ligg cs1 cs2 cs3 t1 s1 t2 s2 t3 s3 c1 c2 c e1 e2 e3 w s q) (light_no hf hsh)
  | true =>
    have hB := hs hsh
    have hB' := hB
    obtain ⟨_, _, h5, _, h3⟩ := hB'
    have h3 : cs3 = ringC (rhoE cs3) c := h3
    have h5 : five c := h5
    rcases h5 with rfl | rfl | rfl | rfl | rfl
    · have := one_tree (C := CLi) (n := 80) _ tsG1 .none (ligf0 cs1 cs2 (rhoE cs3) t1 s1 t2 s2 t3 s3 c1 c2 e1 e2 e3 w s q) (lig0 cs1 cs2 (rhoE cs3) t1 s1 t2 s2 t3 s3 c1 c2 e1 e2 e3 w s q) (by rw [← h3]; exact light_sel hf hsh hB fun hb => absurd (blade_z (show bladeE cs1 c1 cs2 c2 (rhoE cs3) 0 = 0 from hb)).2.1 (by decide))
      rw [← h3] at this; exact this
    · have := one_tree (C := CLi) (n := 80) _ tsG1 .none (ligf1 cs1 cs2 (rhoE cs3) t1 s1 t2 s2 t3 s3 c1 c2 e1 e2 e3 w s q) (lig1 cs1 cs2 (rhoE cs3) t1 s1 t2 s2 t3 s3 c1 c2 e1 e2 e3 w s q) (by rw [← h3]; exact light_sel hf hsh hB fun hb hq => ligG_sel hb hq)
      rw [← h3] at this; exact this
    · have := one_tree (C := CLi) (n := 80) _ tsG1 .none (ligf2 cs1 cs2 (rhoE cs3) t1 s1 t2 s2 t3 s3 c1 c2 e1 e2 e3 w s q) (lig2 cs1 cs2 (rhoE cs3) t1 s1 t2 s2 t3 s3 c1 c2 e1 e2 e3 w s q) (by rw [← h3]; exact light_sel hf hsh hB fun hb hq => ligG_sel hb hq)
      rw [← h3] at this; exact this
    · have := one_tree (C := CLi) (n := 80) _ tsG1 .none (ligf3 cs1 cs2 (rhoE cs3) t1 s1 t2 s2 t3 s3 c1 c2 e1 e2 e3 w s q) (lig3 cs1 cs2 (rhoE cs3) t1 s1 t2 s2 t3 s3 c1 c2 e1 e2 e3 w s q) (by rw [← h3]; exact light_sel hf hsh hB fun hb hq => ligG_sel hb hq)
      rw [← h3] at this; exact this
    · have := one_tree (C := CLi) (n := 80) _ tsG1 .none (ligf17 cs1 cs2 (rhoE cs3) t1 s1 t2 s2 t3 s3 c1 c2 e1 e2 e3 w s q) (lig17 cs1 cs2 (rhoE cs3) t1 s1 t2 s2 t3 s3 c1 c2 e1 e2 e3 w s q) (by rw [← h3]; exact light_sel hf hsh hB fun hb hq => ligG_sel hb hq)
      rw [← h3] at this; exact this
theorem okLi_flat : ∀ a css, okLi a css → ∀ cs ∈ css, cs.all Ex.flat = true := by
  intro a css h cs hc
  have h := h.2.2.1
  unfold fl3 at h
  split at h
  · simp at hc
    rcases hc with rfl | rfl | rfl
    · exact h.1
    · exact h.2.1
    · exact h.2.2
  · cases h
noncomputable def TG2 : Tb := ext TG1 Fn.law03_light (rdE rdLi okLi (fun a css => b_ (lightE a css)) [] (heapL deads))
theorem tsG2 {G : Nat} : TSound Tryd.prog G TG2 :=
  tsG1.ext (rd_ok ArA.valsL deads_len deads_flat deads_mem rdLi_ok okLi_flat (fun _ _ _ => rfl) f24_light)
end Go.Proofs.YtbocpikgochioaaDoor.Ways
namespace Go.Proofs.YtbocpikgochioaaDoor.Ways
open Go Go.Ex
/-! ### least and greatest -/
theorem foldMin (l : List Int) : ∀ x, (l.foldl minI x ≤ x ∧ (∀ y ∈ l, l.foldl minI x ≤ y)) ∧ (l.foldl minI x = x ∨ l.foldl minI x ∈ l) := by
  induction l with
  | nil => intro x; exact ⟨⟨Int.le_refl _, fun y hy => by cases hy⟩, .inl rfl⟩
  | cons a l ih =>
    intro x
    obtain ⟨⟨h1, h2⟩, h3⟩ := ih (minI x a)
    obtain ⟨m1, m2, m3⟩ := minI_eq x a
    show ((l.foldl minI (minI x a) ≤ x ∧ ∀ y ∈ a :: l, l.foldl minI (minI x a) ≤ y)) ∧ _
    refine ⟨⟨by omega, fun y hy => ?_⟩, ?_⟩
    · rcases List.mem_cons.1 hy with rfl | hy
      · omega
      · exact h2 y hy
    · show l.foldl minI (minI x a) = x ∨ l.foldl minI (minI x a) ∈ a :: l
      rcases h3 with h3 | h3
      · rcases m3 with m3 | m3
        · left; rw [h3, m3]
        · right; rw [h3, m3]; exact List.mem_cons_self ..
      · right; exact List.mem_cons_of_mem _ h3
theorem foldMax (l : List Int) : ∀ x, (x ≤ l.foldl maxI x ∧ (∀ y ∈ l, y ≤ l.foldl maxI x)) ∧ (l.foldl maxI x = x ∨ l.foldl maxI x ∈ l) := by
  induction l with
  | nil => intro x; exact ⟨⟨Int.le_refl _, fun y hy => by cases hy⟩, .inl rfl⟩
  | cons a l ih =>
    intro x
    obtain ⟨⟨h1, h2⟩, h3⟩ := ih (maxI x a)
    obtain ⟨m1, m2, m3⟩ := maxI_eq x a
    show ((x ≤ l.foldl maxI (maxI x a) ∧ ∀ y ∈ a :: l, y ≤ l.foldl maxI (maxI x a))) ∧ _
    refine ⟨⟨by omega, fun y hy => ?_⟩, ?_⟩
    · rcases List.mem_cons.1 hy with rfl | hy
      · omega
      · exact h2 y hy
    · show l.foldl maxI (maxI x a) = x ∨ l.foldl maxI (maxI x a) ∈ a :: l
      rcases h3 with h3 | h3
      · rcases m3 with m3 | m3
        · left; rw [h3, m3]
        · right; rw [h3, m3]; exact List.mem_cons_self ..
      · right; exact List.mem_cons_of_mem _ h3
theorem minL_le {l : List Int} {y : Int} (h : y ∈ l) : minL l ≤ y := by
  cases l with
  | nil => cases h
  | cons a l =>
    obtain ⟨⟨h1, h2⟩, _⟩ := foldMin l a
    rcases List.mem_cons.1 h with rfl | h
    · exact h1
    · exact h2 y h
theorem minL_mem {a : Int} {l : List Int} : minL (a :: l) ∈ a :: l := by
  obtain ⟨_, h | h⟩ := foldMin l a
  · exact List.mem_cons.2 (.inl h)
  · exact List.mem_cons_of_mem _ h
theorem le_maxL {l : List Int} {y : Int} (h : y ∈ l) : y ≤ maxL l := by
  cases l with
  | nil => cases h
  | cons a l =>
    obtain ⟨⟨h1, h2⟩, _⟩ := foldMax l a
    rcases List.mem_cons.1 h with rfl | h
    · exact h1
    · exact h2 y h
theorem maxL_mem {a : Int} {l : List Int} : maxL (a :: l) ∈ a :: l := by
  obtain ⟨_, h | h⟩ := foldMax l a
  · exact List.mem_cons.2 (.inl h)
  · exact List.mem_cons_of_mem _ h
/-! ### sums that do not wrap -/
theorem sumF_bd {lo : ScA → Int} {sc : Nat → ScA} {B : Int} (hB : 0 ≤ B ∧ 4 * B ≤ 9000000000000000000) : ∀ (m j : Nat) (a : Int) (k : Nat), m + k ≤ 4 → (∀ t, j ≤ t → t < j + m → -B ≤ lo (sc t) ∧ lo (sc t) ≤ B) → -((k : Int) * B) ≤ a ∧ a ≤ (k : Int) * B → -(((m + k : Nat) : Int) * B) ≤ sumF lo sc m j a ∧ sumF lo sc m j a ≤ ((m + k : Nat) : Int) * B
  | 0, j, a, k, _, _, ha => by simpa [sumF] using ha
  | m + 1, j, a, k, hk, h, ha => by
    have h0 := h j (Nat.le_refl _) (by omega)
    have hk4 : (k : Int) * B + B = ((k + 1 : Nat) : Int) * B := by rw [Int.natCast_add, Int.add_mul]; simp
    have hkB : ((k + 1 : Nat) : Int) * B ≤ 4 * B := Int.mul_le_mul_of_nonneg_right (by omega) hB.1
    have e : wrapF .i64 (a + lo (sc j)) = a + lo (sc j) := wrapF_in (by omega) (by omega)
    unfold sumF
    rw [e]
    have := sumF_bd hB m (j + 1) (a + lo (sc j)) (k + 1) (by omega) (fun t g1 g2 => h t (by omega) (by omega)) ⟨by omega, by omega⟩
    rwa [show m + (k + 1) = m + 1 + k from by omega] at this
theorem sumF_le {lo lo' : ScA → Int} {sc sc' : Nat → ScA} {B : Int} (hB : 0 ≤ B ∧ 4 * B ≤ 9000000000000000000) : ∀ (m j : Nat) (a a' : Int) (k : Nat), m + k ≤ 4 → (∀ t, j ≤ t → t < j + m → -B ≤ lo (sc t) ∧ lo (sc t) ≤ lo' (sc' t) ∧ lo' (sc' t) ≤ B) → -((k : Int) * B) ≤ a ∧ a ≤ a' ∧ a' ≤ (k : Int) * B → sumF lo sc m j a ≤ sumF lo' sc' m j a'
  | 0, _, _, _, _, _, _, ha => ha.2.1
  | m + 1, j, a, a', k, hk, h, ha => by
    have h0 := h j (Nat.le_refl _) (by omega)
    have hk4 : (k : Int) * B + B = ((k + 1 : Nat) : Int) * B := by rw [Int.natCast_add, Int.add_mul]; simp
    have hkB : ((k + 1 : Nat) : Int) * B ≤ 4 * B := Int.mul_le_mul_of_nonneg_right (by omega) hB.1
    have e : wrapF .i64 (a + lo (sc j)) = a + lo (sc j) := wrapF_in (by omega) (by omega)
    have e' : wrapF .i64 (a' + lo' (sc' j)) = a' + lo' (sc' j) := wrapF_in (by omega) (by omega)
    unfold sumF
    rw [e, e']
    exact sumF_le hB m (j + 1) _ _ (k + 1) (by omega) (fun t g1 g2 => h t (by omega) (by omega)) ⟨by omega, by omega, by omega⟩
theorem sumF_four {lo : ScA → Int} {sc : Nat → ScA} {B : Int} (hB : 0 ≤ B ∧ 16 * B ≤ 9000000000000000000) : ∀ (m j : Nat) (a : Int) (k : Nat), m + k ≤ 4 → (∀ t, j ≤ t → t < j + m → -B ≤ lo (sc t) ∧ lo (sc t) ≤ B) → -((k : Int) * B) ≤ a ∧ a ≤ (k : Int) * B → sumF (fun A => 4 * lo A) sc m j (4 * a) = 4 * sumF lo sc m j a
  | 0, _, _, _, _, _, _ => rfl
  | m + 1, j, a, k, hk, h, ha => by
    have h0 := h j (Nat.le_refl _) (by omega)
    have hk4 : (k : Int) * B + B = ((k + 1 : Nat) : Int) * B := by rw [Int.natCast_add, Int.add_mul]; simp
    have hkB : ((k + 1 : Nat) : Int) * B ≤ 4 * B := Int.mul_le_mul_of_nonneg_right (by omega) hB.1
    have e : wrapF .i64 (a + lo (sc j)) = a + lo (sc j) := wrapF_in (by omega) (by omega)
    have e' : wrapF .i64 (4 * a + 4 * lo (sc j)) = 4 * (a + lo (sc j)) := by rw [wrapF_in (by omega) (by omega)]; omega
    unfold sumF
    rw [e, e']
    exact sumF_four hB m (j + 1) _ (k + 1) (by omega) (fun t g1 g2 => h t (by omega) (by omega)) ⟨by omega, by omega⟩
theorem sumF_congr {lo lo' : ScA → Int} {sc sc' : Nat → ScA} : ∀ (m j : Nat) (a : Int), (∀ t, j ≤ t → t < j + m → lo (sc t) = lo' (sc' t)) → sumF lo sc m j a = sumF lo' sc' m j a
  | 0, _, _, _ => rfl
  | m + 1, j, a, h => by
    unfold sumF
    rw [h j (Nat.le_refl _) (by omega)]
    exact sumF_congr m (j + 1) _ fun t g1 g2 => h t (by omega) (by omega)
theorem hasE_cases (sc : Nat → ScA) (css : List (List Value)) : ∀ m j, hasE sc css m j = 7 ∨ (hasE sc css m j = 0 ∧ ∀ t, j ≤ t → t < j + m → hasB (sc t) css = true)
  | 0, _ => .inr ⟨rfl, fun t g1 g2 => by omega⟩
  | m + 1, j => by
    unfold hasE
    cases hb : hasB (sc j) css with
    | false => left; rfl
    | true =>
      rcases hasE_cases sc css m (j + 1) with h | ⟨h, h2⟩
      · left; exact h
      · right
        refine ⟨h, fun t g1 g2 => ?_⟩
        by_cases ht : t = j
        · subst ht; exact hb
        · exact h2 t (by omega) (by omega)
theorem hasE_congr {sc sc' : Nat → ScA} {css css' : List (List Value)} : ∀ m j, (∀ t, j ≤ t → t < j + m → hasB (sc t) css = hasB (sc' t) css') → hasE sc css m j = hasE sc' css' m j
  | 0, _, _ => rfl
  | m + 1, j, h => by
    unfold hasE
    rw [h j (Nat.le_refl _) (by omega), hasE_congr m (j + 1) fun t g1 g2 => h t (by omega) (by omega)]
/-! ### one ring, one bit finer -/
section
variable {cs1 cs2 : List Value} {n1 n2 : Nat} {r c t p w s q D : Int}
theorem thrE_eq {x d : Int} (hr : 1 ≤ r ∧ r ≤ 200) (hd : 1 ≤ d ∧ d ≤ 12) (hx : 0 ≤ x ∧ x ≤ powE (d - 1)) : thrE r x d = 1024 * (x * (powE d - x)) * r ∧ 0 ≤ thrE r x d ∧ thrE r x d ≤ 3435973836800 := by
  obtain ⟨p1, p2⟩ := pow_two hd
  have hpw := pow_bd hd
  have m1 := mul_bd (a := x) (b := powE d - x) (A := 4096) (B := 4096) (by omega) (by omega)
  have m2 := mul_bd (a := x * (powE d - x)) (b := r) (A := 4096 * 4096) (B := 200) m1 (by omega)
  have e0 : wrapF .i64 (1024 * x) = 1024 * x := wrapF_in (by omega) (by omega)
  have e1 : wrapF .i64 (powE d - x) = powE d - x := wrapF_in (by omega) (by omega)
  have e2 : 1024 * x * (powE d - x) = 1024 * (x * (powE d - x)) := Int.mul_assoc _ _ _
  have e3 : wrapF .i64 (1024 * (x * (powE d - x))) = 1024 * (x * (powE d - x)) := wrapF_in (by omega) (by omega)
  have e4 : 1024 * (x * (powE d - x)) * r = 1024 * (x * (powE d - x) * r) := Int.mul_assoc _ _ _
  have e5 : thrE r x d = 1024 * (x * (powE d - x)) * r := by
    unfold thrE
    rw [e0, e1, e2, e3, wrapF_in (by omega) (by omega)]
  rw [e5]
  exact ⟨rfl, by omega, by omega⟩
theorem pow_up {D : Int} (hD : 1 ≤ D ∧ D ≤ 11) : powE (D + 1) = 2 * powE D ∧ D + 1 - 1 = D := by
  obtain ⟨p3, _⟩ := pow_two (d := D + 1) (by omega)
  have e0 : D + 1 - 1 = D := by omega
  rw [e0] at p3
  exact ⟨p3, e0⟩
theorem br_two (h : RV cs1 n1 r c t p w s q) (hb : hasB (AA n1 n2 r c t p w s q) [cs1, cs2] = true) (hD : 1 ≤ D ∧ D ≤ 11) :
    bAt (AA n1 n2 r c t p w s q) [cs1, cs2] (D + 1) = 2 * bAt (AA n1 n2 r c t p w s q) [cs1, cs2] D ∨ bAt (AA n1 n2 r c t p w s q) [cs1, cs2] (D + 1) = 2 * bAt (AA n1 n2 r c t p w s q) [cs1, cs2] D + 1 := by
  obtain ⟨e1, _, ⟨g1, g2⟩, _⟩ := br_at h hb (D := D) (by omega)
  obtain ⟨e1', _, _, _⟩ := br_at h hb (D := D + 1) (by omega)
  have hpw := pow_bd (d := D) (by omega)
  have hp2 := pow_two (d := D) (by omega)
  rw [e1', show (D + 1 - 1).toNat = (D - 1).toNat + 1 from by omega]
  have hdef : brA (AA n1 n2 r c t p w s q) [cs1, cs2] ((D - 1).toNat + 1) = finA (AA n1 n2 r c t p w s q) [cs1, cs2] (brA (AA n1 n2 r c t p w s q) [cs1, cs2] (D - 1).toNat) (((D - 1).toNat + 1 : Nat) : Int) := rfl
  rw [hdef, ← e1]
  unfold finA
  generalize bAt (AA n1 n2 r c t p w s q) [cs1, cs2] D = x at *
  have e2 : wrapF .i64 (2 * x) = 2 * x := wrapF_in (by omega) (by omega)
  have e3 : upE x = 2 * x + 1 := by unfold upE; rw [e2, wrapF_in (by omega) (by omega)]
  rw [e2, e3]
  split
  · right; rfl
  · left; rfl
theorem thr_up {x y : Int} (hr : 1 ≤ r ∧ r ≤ 200) (hD : 1 ≤ D ∧ D ≤ 11) (hx : 0 ≤ x ∧ x + 1 ≤ powE (D - 1)) (hy : y = 2 * x ∨ y = 2 * x + 1) :
    4 * thrE r x D ≤ thrE r y (D + 1) ∧ thrE r (y + 1) (D + 1) ≤ 4 * thrE r (x + 1) D ∧ thrE r x D ≤ thrE r (x + 1) D := by
  obtain ⟨p1, p2⟩ := pow_two (d := D) (by omega)
  obtain ⟨p3, p4⟩ := pow_up hD
  obtain ⟨a1, _⟩ := thrE_eq (x := x) (d := D) hr (by omega) (by omega)
  obtain ⟨a2, _⟩ := thrE_eq (x := x + 1) (d := D) hr (by omega) (by omega)
  obtain ⟨a3, _⟩ := thrE_eq (x := y) (d := D + 1) hr (by omega) ⟨by omega, by rw [p4]; omega⟩
  obtain ⟨a4, _⟩ := thrE_eq (x := y + 1) (d := D + 1) hr (by omega) ⟨by omega, by rw [p4]; omega⟩
  rw [a1, a2, a3, a4, p3]
  generalize powE D = P at *
  generalize powE (D - 1) = P2 at *
  have k1 : 4 * (x * (P - x)) ≤ y * (2 * P - y) := by
    have : 0 ≤ (y - 2 * x) * (2 * P - y - 2 * x) := Int.mul_nonneg (by omega) (by omega)
    grind
  have k2 : (y + 1) * (2 * P - (y + 1)) ≤ 4 * ((x + 1) * (P - (x + 1))) := by
    have : 0 ≤ (2 * x + 1 - y) * (2 * P - (2 * x + 2) - (y + 1)) := Int.mul_nonneg (by omega) (by omega)
    grind
  have k3 : x * (P - x) ≤ (x + 1) * (P - (x + 1)) := by
    have : 0 ≤ P - 2 * x - 1 := by omega
    grind
  refine ⟨?_, ?_, ?_⟩
  · have := Int.mul_le_mul_of_nonneg_right (show 4 * (1024 * (x * (P - x))) ≤ 1024 * (y * (2 * P - y)) from by omega) (show 0 ≤ r from by omega)
    rwa [Int.mul_assoc 4] at this
  · have := Int.mul_le_mul_of_nonneg_right (show 1024 * ((y + 1) * (2 * P - (y + 1))) ≤ 4 * (1024 * ((x + 1) * (P - (x + 1)))) from by omega) (show 0 ≤ r from by omega)
    rwa [Int.mul_assoc 4] at this
  · exact Int.mul_le_mul_of_nonneg_right (by omega) (by omega)
end
end Go.Proofs.YtbocpikgochioaaDoor.Ways
namespace Go.Proofs.YtbocpikgochioaaDoor.Ways
open Go Go.Ex
/-! ### torques -/
section
variable {cs1 cs2 : List Value} {n1 n2 : Nat} {r c t p w s q D : Int}
def torZ (cs1 cs2 : List Value) (n1 : Nat) (r c p u y : Int) : Int := r * c * p * (y * liftE cs1 (clE (y - u) n1) - 1024 * liftE cs2 (clE (y - u) n1))
def DragOk (cs2 : List Value) (n1 : Nat) : Prop := ∀ j, j < n1 → 0 ≤ eIE cs2 j ∧ eIE cs2 j ≤ 1000
theorem k_bd (h : RV cs1 n1 r c t p w s q) : 0 ≤ r * c * p ∧ r * c * p ≤ 5120000 := by
  have hr := h.r; have hc := h.c
  have m1 := mul_bd (a := r) (b := c) (A := 200) (B := 100) (by omega) (by omega)
  exact mul_bd (a := r * c) (b := p) (A := 200 * 100) (B := 256) m1 h.p
theorem tor_eq (h : RV cs1 n1 r c t p w s q) (hd : DragOk cs2 n1) {y : Int} (hy : 0 ≤ y ∧ y ≤ 209715200) :
    torV (AA n1 n2 r c t p w s q) [cs1, cs2] y = torZ cs1 cs2 n1 r c p (t + q) y ∧ -1100000000000000000 ≤ torZ cs1 cs2 n1 r c p (t + q) y ∧ torZ cs1 cs2 n1 r c p (t + q) y ≤ 1100000000000000000 := by
  have ht := h.t; have hq := h.q; have hr := h.r; have hc := h.c; have hp := h.p; have hn := h.n
  have ew : wrapF .i64 (t + q) = t + q := wrapF_in (by omega) (by omega)
  have ey : wrapF .i64 (y - (t + q)) = y - (t + q) := wrapF_in (by omega) (by omega)
  obtain ⟨_, l1, l2⟩ := liftE_mono h (y := y - (t + q)) (z := y - (t + q)) (Int.le_refl _)
  have a1 := clE_in (y - (t + q)) hn.1 (by omega)
  obtain ⟨d1, d2⟩ := hd (clE (y - (t + q)) n1).toNat (by omega)
  have hk := k_bd h
  have m1 := mul_bd (a := r) (b := c) (A := 200) (B := 100) (by omega) (by omega)
  show torE r c p y (liftE cs1 (clE (wrapF .i64 (y - wrapF .i64 (t + q))) n1)) (liftE cs2 (clE (wrapF .i64 (y - wrapF .i64 (t + q))) n1)) = _ ∧ _
  rw [ew, ey]
  unfold torZ
  have e2 : liftE cs2 (clE (y - (t + q)) n1) = eIE cs2 (clE (y - (t + q)) n1).toNat := rfl
  rw [e2]
  generalize liftE cs1 (clE (y - (t + q)) n1) = L at *
  generalize eIE cs2 (clE (y - (t + q)) n1).toNat = G at *
  have m2 := mul_bd (a := y) (b := L) (A := 209715200) (B := 1000) hy ⟨l1, l2⟩
  have v1 : -1024000 ≤ y * L - 1024 * G := by omega
  have v2 : y * L - 1024 * G ≤ 209715200000 := by omega
  have q1 : r * c * p * (y * L - 1024 * G) ≤ 5120000 * 209715200000 := by
    have := Int.mul_le_mul_of_nonneg_left v2 hk.1
    have := Int.mul_le_mul_of_nonneg_right hk.2 (show (0 : Int) ≤ 209715200000 by decide)
    omega
  have q2 : -(5120000 * 1024000) ≤ r * c * p * (y * L - 1024 * G) := by
    have h1 := Int.mul_le_mul_of_nonneg_left v1 hk.1
    have h2 := Int.mul_le_mul_of_nonneg_right hk.2 (show (0 : Int) ≤ 1024000 by decide)
    rw [Int.mul_neg] at h1
    omega
  generalize hV : y * L - 1024 * G = V at *
  have f1 : wrapF .i64 (r * c) = r * c := wrapF_in (by omega) (by omega)
  have f2 : wrapF .i64 (r * c * p) = r * c * p := wrapF_in (by omega) (by omega)
  have f3 : wrapF .i64 (y * L) = y * L := wrapF_in (by omega) (by omega)
  have f4 : wrapF .i64 (1024 * G) = 1024 * G := wrapF_in (by omega) (by omega)
  have f5 : wrapF .i64 (y * L - 1024 * G) = V := by rw [hV]; exact wrapF_in (by omega) (by omega)
  unfold torE
  rw [f1, f2, f3, f4, f5, wrapF_in (by omega) (by omega)]
  exact ⟨rfl, by omega, by omega⟩
theorem cl_low {z : Int} {n : Nat} (h1 : 1 ≤ n) (h2 : n ≤ 32) (h : z ≤ 0) : clE z n = 0 := by
  unfold clE
  rw [wrapF_in (by omega) (by omega)]
  split <;> split <;> omega
theorem cl_high {z : Int} {n : Nat} (h1 : 1 ≤ n) (h2 : n ≤ 32) (h : (n : Int) - 1 ≤ z) : clE z n = (n : Int) - 1 := by
  unfold clE
  rw [wrapF_in (by omega) (by omega)]
  split <;> split <;> omega
theorem torZ_mono (h : RV cs1 n1 r c t p w s q) {y z u : Int} (hyz : y ≤ z) (hc : clE (y - u) n1 = clE (z - u) n1) : torZ cs1 cs2 n1 r c p u y ≤ torZ cs1 cs2 n1 r c p u z := by
  unfold torZ
  rw [hc]
  obtain ⟨_, l1, _⟩ := liftE_mono h (y := z - u) (z := z - u) (Int.le_refl _)
  have := Int.mul_le_mul_of_nonneg_right hyz l1
  exact Int.mul_le_mul_of_nonneg_left (by omega) (k_bd h).1
/-- all inflows between both ends have their torque between the least and the greatest one that is looked at -/
theorem tor_facts (h : RV cs1 n1 r c t p w s q) (hd : DragOk cs2 n1) (h5 : n1 ≤ 5) {x F T : Int} (hF : toF (AA n1 n2 r c t p w s q) x D = F) (hT : toT (AA n1 n2 r c t p w s q) x D = T) (hFT : 0 ≤ F ∧ F ≤ T ∧ T ≤ 209715200) {m : Nat} (hm : mT (AA n1 n2 r c t p w s q) x D = m) :
    (∃ y, (F ≤ y ∧ y ≤ T) ∧ minL ((ysT (AA n1 n2 r c t p w s q) x D m).map (torV (AA n1 n2 r c t p w s q) [cs1, cs2])) = torZ cs1 cs2 n1 r c p (t + q) y) ∧
    (∃ y, (F ≤ y ∧ y ≤ T) ∧ maxL ((ysT (AA n1 n2 r c t p w s q) x D m).map (torV (AA n1 n2 r c t p w s q) [cs1, cs2])) = torZ cs1 cs2 n1 r c p (t + q) y) ∧
    ∀ y, F ≤ y → y ≤ T → minL ((ysT (AA n1 n2 r c t p w s q) x D m).map (torV (AA n1 n2 r c t p w s q) [cs1, cs2])) ≤ torZ cs1 cs2 n1 r c p (t + q) y ∧ torZ cs1 cs2 n1 r c p (t + q) y ≤ maxL ((ysT (AA n1 n2 r c t p w s q) x D m).map (torV (AA n1 n2 r c t p w s q) [cs1, cs2])) := by
  have ht := h.t; have hq := h.q; have hn := h.n
  have ew : (AA n1 n2 r c t p w s q).t = t + q := show wrapF .i64 (t + q) = t + q from wrapF_in (by omega) (by omega)
  have en : (AA n1 n2 r c t p w s q).n1 = n1 := rfl
  have hla : toLa (AA n1 n2 r c t p w s q) = t + q + (n1 : Int) - 1 := by
    unfold toLa
    rw [ew, en, wrapF_in (n := t + q + (n1 : Int)) (by omega) (by omega), wrapF_in (by omega) (by omega)]
  obtain ⟨x1, x2, x3⟩ := maxI_eq F (t + q)
  have hX : toX (AA n1 n2 r c t p w s q) x D = maxI F (t + q) := by unfold toX; rw [hF, ew]
  obtain ⟨m1, m2, m3⟩ := minI_eq T (t + q + (n1 : Int) - 1)
  have hm' : (minI T (t + q + (n1 : Int) - 1) - maxI F (t + q) + 1).toNat = m := by
    rw [← hm]; unfold mT; rw [hT, hla, hX]
  generalize hXX : maxI F (t + q) = X at *
  generalize hMM : minI T (t + q + (n1 : Int) - 1) = M at *
  have hys : ysT (AA n1 n2 r c t p w s q) x D m = F :: T :: (List.range m).map fun j => xT X j := by unfold ysT; rw [hF, hT, hX]
  have hxt : ∀ j, j < m → xT X j = X + (j : Int) := fun j hj => xT_eq (by omega) (by omega) j (by omega)
  have hin : ∀ z ∈ ysT (AA n1 n2 r c t p w s q) x D m, F ≤ z ∧ z ≤ T := by
    intro z hz
    rw [hys] at hz
    rcases List.mem_cons.1 hz with rfl | hz
    · omega
    rcases List.mem_cons.1 hz with rfl | hz
    · omega
    obtain ⟨j, hj, rfl⟩ := List.mem_map.1 hz
    rw [List.mem_range] at hj
    rw [hxt j hj]
    omega
  have hmid : ∀ z, X ≤ z → z ≤ M → z ∈ ysT (AA n1 n2 r c t p w s q) x D m := by
    intro z g1 g2
    rw [hys]
    refine List.mem_cons_of_mem _ (List.mem_cons_of_mem _ (List.mem_map.2 ⟨(z - X).toNat, by rw [List.mem_range]; omega, ?_⟩))
    rw [hxt _ (by omega)]
    omega
  have hFm : F ∈ ysT (AA n1 n2 r c t p w s q) x D m := by rw [hys]; exact List.mem_cons_self ..
  have hTm : T ∈ ysT (AA n1 n2 r c t p w s q) x D m := by rw [hys]; exact List.mem_cons_of_mem _ (List.mem_cons_self ..)
  have htv : ∀ z, F ≤ z → z ≤ T → torV (AA n1 n2 r c t p w s q) [cs1, cs2] z = torZ cs1 cs2 n1 r c p (t + q) z := fun z g1 g2 => (tor_eq h hd ⟨by omega, by omega⟩).1
  have hlo : ∀ z ∈ ysT (AA n1 n2 r c t p w s q) x D m, minL ((ysT (AA n1 n2 r c t p w s q) x D m).map (torV (AA n1 n2 r c t p w s q) [cs1, cs2])) ≤ torZ cs1 cs2 n1 r c p (t + q) z := by
    intro z hz
    have := minL_le (List.mem_map_of_mem (f := torV (AA n1 n2 r c t p w s q) [cs1, cs2]) hz)
    rwa [htv z (hin z hz).1 (hin z hz).2] at this
  have hhi : ∀ z ∈ ysT (AA n1 n2 r c t p w s q) x D m, torZ cs1 cs2 n1 r c p (t + q) z ≤ maxL ((ysT (AA n1 n2 r c t p w s q) x D m).map (torV (AA n1 n2 r c t p w s q) [cs1, cs2])) := by
    intro z hz
    have := le_maxL (List.mem_map_of_mem (f := torV (AA n1 n2 r c t p w s q) [cs1, cs2]) hz)
    rwa [htv z (hin z hz).1 (hin z hz).2] at this
  refine ⟨?_, ?_, fun y g1 g2 => ?_⟩
  · have : minL ((ysT (AA n1 n2 r c t p w s q) x D m).map (torV (AA n1 n2 r c t p w s q) [cs1, cs2])) ∈ (ysT (AA n1 n2 r c t p w s q) x D m).map (torV (AA n1 n2 r c t p w s q) [cs1, cs2]) := by
      conv => rw [hys]
      exact minL_mem
    obtain ⟨y, hy, he⟩ := List.mem_map.1 this
    exact ⟨y, hin y hy, by rw [← he]; exact htv y (hin y hy).1 (hin y hy).2⟩
  · have : maxL ((ysT (AA n1 n2 r c t p w s q) x D m).map (torV (AA n1 n2 r c t p w s q) [cs1, cs2])) ∈ (ysT (AA n1 n2 r c t p w s q) x D m).map (torV (AA n1 n2 r c t p w s q) [cs1, cs2]) := by
      conv => rw [hys]
      exact maxL_mem
    obtain ⟨y, hy, he⟩ := List.mem_map.1 this
    exact ⟨y, hin y hy, by rw [← he]; exact htv y (hin y hy).1 (hin y hy).2⟩
  · by_cases c1 : y < X
    · have hXu : X = t + q := by omega
      constructor
      · exact Int.le_trans (hlo F hFm) (torZ_mono h g1 (by rw [cl_low hn.1 hn.2 (by omega), cl_low hn.1 hn.2 (by omega)]))
      · by_cases c2 : T < t + q
        · exact Int.le_trans (torZ_mono h g2 (by rw [cl_low hn.1 hn.2 (by omega), cl_low hn.1 hn.2 (by omega)])) (hhi T hTm)
        · exact Int.le_trans (torZ_mono h (z := t + q) (by omega) (by rw [cl_low hn.1 hn.2 (by omega), cl_low hn.1 hn.2 (by omega)])) (hhi (t + q) (hmid _ (by omega) (by omega)))
    · by_cases c2 : y ≤ M
      · exact ⟨hlo y (hmid y (by omega) c2), hhi y (hmid y (by omega) c2)⟩
      · constructor
        · by_cases c3 : t + q + (n1 : Int) - 1 < F
          · exact Int.le_trans (hlo F hFm) (torZ_mono h g1 (by rw [cl_high hn.1 hn.2 (by omega), cl_high hn.1 hn.2 (by omega)]))
          · exact Int.le_trans (hlo (t + q + (n1 : Int) - 1) (hmid _ (by omega) (by omega))) (torZ_mono h (by omega) (by rw [cl_high hn.1 hn.2 (by omega), cl_high hn.1 hn.2 (by omega)]))
        · exact Int.le_trans (torZ_mono h g2 (by rw [cl_high hn.1 hn.2 (by omega), cl_high hn.1 hn.2 (by omega)])) (hhi T hTm)
theorem inf_two {x : Int} (hr : 1 ≤ r ∧ r ≤ 200) (hw : 1 ≤ w ∧ w ≤ 50) (hs : 1 ≤ s ∧ s ≤ 1000) (hD : 1 ≤ D ∧ D ≤ 11) (hx : 0 ≤ x ∧ x ≤ powE (D - 1)) : infE r w s (2 * x) (D + 1) = infE r w s x D := by
  obtain ⟨p1, p2⟩ := pow_two (d := D) (by omega)
  obtain ⟨p3, e0⟩ := pow_up hD
  obtain ⟨i1, _⟩ := inf_bd (a := x) (d := D) hr hw hs (by omega) hx
  obtain ⟨i2, _⟩ := inf_bd (a := 2 * x) (d := D + 1) hr hw hs (by omega) ⟨by omega, by rw [e0]; omega⟩
  rw [i1, i2, p3]
  rw [show 1024 * (2 * powE D - 2 * x) * w = 2 * (1024 * (powE D - x) * w) from by grind, show 2 * powE D * s * r = 2 * (powE D * s * r) from by grind]
  exact Int.mul_ediv_mul_of_pos _ _ (by decide)
/-- the ends of a bracket -/
theorem ends (h : RV cs1 n1 r c t p w s q) (hb : hasB (AA n1 n2 r c t p w s q) [cs1, cs2] = true) (hD : 1 ≤ D ∧ D ≤ 12) :
    toF (AA n1 n2 r c t p w s q) (bAt (AA n1 n2 r c t p w s q) [cs1, cs2] D) D = infE r w s (bAt (AA n1 n2 r c t p w s q) [cs1, cs2] D + 1) D ∧
    toT (AA n1 n2 r c t p w s q) (bAt (AA n1 n2 r c t p w s q) [cs1, cs2] D) D = infE r w s (bAt (AA n1 n2 r c t p w s q) [cs1, cs2] D) D ∧
    (0 ≤ infE r w s (bAt (AA n1 n2 r c t p w s q) [cs1, cs2] D + 1) D ∧ infE r w s (bAt (AA n1 n2 r c t p w s q) [cs1, cs2] D + 1) D ≤ infE r w s (bAt (AA n1 n2 r c t p w s q) [cs1, cs2] D) D ∧ infE r w s (bAt (AA n1 n2 r c t p w s q) [cs1, cs2] D) D ≤ 209715200) := by
  obtain ⟨_, _, ⟨g1, g2⟩, _⟩ := br_at h hb hD
  have hpw := pow_bd hD
  have hp2 := pow_two hD
  generalize bAt (AA n1 n2 r c t p w s q) [cs1, cs2] D = x at *
  have hw : wrapF .i64 (x + 1) = x + 1 := wrapF_in (by omega) (by omega)
  obtain ⟨_, b1, b2⟩ := inf_bd (a := x) h.r h.w h.s hD ⟨g1, by omega⟩
  obtain ⟨_, b3, b4⟩ := inf_bd (a := x + 1) h.r h.w h.s hD ⟨by omega, by omega⟩
  have ha := inf_anti (x := x) (y := x + 1) h.r h.w h.s hD ⟨g1, by omega⟩ g2
  refine ⟨?_, rfl, b3, ha, b2⟩
  show infE r w s (wrapF .i64 (x + 1)) D = _
  rw [hw]
theorem lohi (h : RV cs1 n1 r c t p w s q) (hd : DragOk cs2 n1) (h5 : n1 ≤ 5) (hb : hasB (AA n1 n2 r c t p w s q) [cs1, cs2] = true) (hD : 1 ≤ D ∧ D ≤ 12) :
    (-1100000000000000000 ≤ mL [cs1, cs2] D (AA n1 n2 r c t p w s q) ∧ mL [cs1, cs2] D (AA n1 n2 r c t p w s q) ≤ mH [cs1, cs2] D (AA n1 n2 r c t p w s q) ∧ mH [cs1, cs2] D (AA n1 n2 r c t p w s q) ≤ 1100000000000000000) ∧
    (∃ y, (infE r w s (bAt (AA n1 n2 r c t p w s q) [cs1, cs2] D + 1) D ≤ y ∧ y ≤ infE r w s (bAt (AA n1 n2 r c t p w s q) [cs1, cs2] D) D) ∧ mL [cs1, cs2] D (AA n1 n2 r c t p w s q) = torZ cs1 cs2 n1 r c p (t + q) y) ∧
    (∃ y, (infE r w s (bAt (AA n1 n2 r c t p w s q) [cs1, cs2] D + 1) D ≤ y ∧ y ≤ infE r w s (bAt (AA n1 n2 r c t p w s q) [cs1, cs2] D) D) ∧ mH [cs1, cs2] D (AA n1 n2 r c t p w s q) = torZ cs1 cs2 n1 r c p (t + q) y) ∧
    ∀ y, infE r w s (bAt (AA n1 n2 r c t p w s q) [cs1, cs2] D + 1) D ≤ y → y ≤ infE r w s (bAt (AA n1 n2 r c t p w s q) [cs1, cs2] D) D → mL [cs1, cs2] D (AA n1 n2 r c t p w s q) ≤ torZ cs1 cs2 n1 r c p (t + q) y ∧ torZ cs1 cs2 n1 r c p (t + q) y ≤ mH [cs1, cs2] D (AA n1 n2 r c t p w s q) := by
  obtain ⟨_, e2, _⟩ := br_at h hb hD
  obtain ⟨eF, eT, hFT⟩ := ends h hb hD
  have hL : mL [cs1, cs2] D (AA n1 n2 r c t p w s q) = minL ((ysT (AA n1 n2 r c t p w s q) (bAt (AA n1 n2 r c t p w s q) [cs1, cs2] D) D (mT (AA n1 n2 r c t p w s q) (bAt (AA n1 n2 r c t p w s q) [cs1, cs2] D) D)).map (torV (AA n1 n2 r c t p w s q) [cs1, cs2])) := by unfold mL tlo; rw [e2]
  have hH : mH [cs1, cs2] D (AA n1 n2 r c t p w s q) = maxL ((ysT (AA n1 n2 r c t p w s q) (bAt (AA n1 n2 r c t p w s q) [cs1, cs2] D) D (mT (AA n1 n2 r c t p w s q) (bAt (AA n1 n2 r c t p w s q) [cs1, cs2] D) D)).map (torV (AA n1 n2 r c t p w s q) [cs1, cs2])) := by unfold mH thi; rw [e2]
  obtain ⟨⟨y1, f1, f2⟩, ⟨y2, f3, f4⟩, f5⟩ := tor_facts (n2 := n2) h hd h5 eF eT hFT rfl
  rw [← hL] at f2 f5
  rw [← hH] at f4 f5
  have b1 := (tor_eq (n2 := n2) h hd (y := y1) ⟨by omega, by omega⟩).2
  have b2 := (tor_eq (n2 := n2) h hd (y := y2) ⟨by omega, by omega⟩).2
  have b3 := f5 y1 f1.1 f1.2
  refine ⟨⟨by omega, by omega, by omega⟩, ⟨y1, f1, f2⟩, ⟨y2, f3, f4⟩, f5⟩
/-- a finer bracket's torques lie within -/
theorem tor_up (h : RV cs1 n1 r c t p w s q) (hd : DragOk cs2 n1) (h5 : n1 ≤ 5) (hb : hasB (AA n1 n2 r c t p w s q) [cs1, cs2] = true) (hD : 1 ≤ D ∧ D ≤ 11) :
    mL [cs1, cs2] D (AA n1 n2 r c t p w s q) ≤ mL [cs1, cs2] (D + 1) (AA n1 n2 r c t p w s q) ∧ mH [cs1, cs2] (D + 1) (AA n1 n2 r c t p w s q) ≤ mH [cs1, cs2] D (AA n1 n2 r c t p w s q) := by
  obtain ⟨_, _, _, k4⟩ := lohi h hd h5 hb (D := D) (by omega)
  obtain ⟨_, ⟨y1, g1, g2⟩, ⟨y2, g3, g4⟩, _⟩ := lohi h hd h5 hb (D := D + 1) (by omega)
  obtain ⟨_, _, ⟨i1, i2⟩, _⟩ := br_at h hb (D := D) (by omega)
  obtain ⟨_, _, ⟨j1, j2⟩, _⟩ := br_at h hb (D := D + 1) (by omega)
  have hx := br_two h hb hD
  obtain ⟨p3, e0⟩ := pow_up hD
  obtain ⟨p1, p2⟩ := pow_two (d := D) (by omega)
  rw [e0] at j2
  generalize bAt (AA n1 n2 r c t p w s q) [cs1, cs2] D = x at *
  generalize bAt (AA n1 n2 r c t p w s q) [cs1, cs2] (D + 1) = x' at *
  have a1 := inf_anti (x := x' + 1) (y := 2 * (x + 1)) (d := D + 1) h.r h.w h.s (by omega) ⟨by omega, by omega⟩ (by rw [e0]; omega)
  have a2 := inf_anti (x := 2 * x) (y := x') (d := D + 1) h.r h.w h.s (by omega) ⟨by omega, by omega⟩ (by rw [e0]; omega)
  rw [inf_two h.r h.w h.s hD ⟨by omega, by omega⟩] at a1 a2
  have r1 := k4 y1 (by omega) (by omega)
  have r2 := k4 y2 (by omega) (by omega)
  omega
end
end Go.Proofs.YtbocpikgochioaaDoor.Ways
namespace Go.Proofs.YtbocpikgochioaaDoor.Ways
open Go Go.Ex
section
variable {cs1 cs2 : List Value} {n1 n2 : Nat} {r c t p w s q D : Int}
theorem thr_ring (h : RV cs1 n1 r c t p w s q) (hb : hasB (AA n1 n2 r c t p w s q) [cs1, cs2] = true) (hD : 1 ≤ D ∧ D ≤ 11) :
    (0 ≤ tL [cs1, cs2] D (AA n1 n2 r c t p w s q) ∧ tL [cs1, cs2] D (AA n1 n2 r c t p w s q) ≤ tH [cs1, cs2] D (AA n1 n2 r c t p w s q) ∧ tH [cs1, cs2] D (AA n1 n2 r c t p w s q) ≤ 3435973836800) ∧
    (4 * tL [cs1, cs2] D (AA n1 n2 r c t p w s q) ≤ tL [cs1, cs2] (D + 1) (AA n1 n2 r c t p w s q) ∧ tL [cs1, cs2] (D + 1) (AA n1 n2 r c t p w s q) ≤ 3435973836800) ∧
    tH [cs1, cs2] (D + 1) (AA n1 n2 r c t p w s q) ≤ 4 * tH [cs1, cs2] D (AA n1 n2 r c t p w s q) ∧ 0 ≤ tH [cs1, cs2] (D + 1) (AA n1 n2 r c t p w s q) := by
  obtain ⟨_, e2, ⟨i1, i2⟩, _⟩ := br_at h hb (D := D) (by omega)
  obtain ⟨_, e3, ⟨j1, j2⟩, _⟩ := br_at h hb (D := D + 1) (by omega)
  have hx := br_two h hb hD
  obtain ⟨p3, e0⟩ := pow_up hD
  have hpw := pow_bd (d := D + 1) (by omega)
  have hpd := pow_bd (d := D) (by omega)
  obtain ⟨p1, p2⟩ := pow_two (d := D) (by omega)
  rw [e0] at j2
  unfold tL tH
  rw [e2, e3]
  generalize bAt (AA n1 n2 r c t p w s q) [cs1, cs2] D = x at *
  generalize bAt (AA n1 n2 r c t p w s q) [cs1, cs2] (D + 1) = x' at *
  have w1 : wrapF .i64 (x + 1) = x + 1 := wrapF_in (by omega) (by omega)
  have w2 : wrapF .i64 (x' + 1) = x' + 1 := wrapF_in (by omega) (by omega)
  rw [w1, w2]
  obtain ⟨k1, k2, k3⟩ := thr_up (x := x) (y := x') h.r hD ⟨i1, i2⟩ hx
  obtain ⟨_, b1, b2⟩ := thrE_eq (x := x) (d := D) h.r (by omega) ⟨i1, by omega⟩
  obtain ⟨_, b3, b4⟩ := thrE_eq (x := x + 1) (d := D) h.r (by omega) ⟨by omega, i2⟩
  obtain ⟨_, b5, b6⟩ := thrE_eq (x := x') (d := D + 1) h.r (by omega) ⟨j1, by rw [e0]; omega⟩
  obtain ⟨_, b7, b8⟩ := thrE_eq (x := x' + 1) (d := D + 1) h.r (by omega) ⟨by omega, by rw [e0]; omega⟩
  have er : (AA n1 n2 r c t p w s q).r = r := rfl
  rw [er]
  exact ⟨⟨b1, k3, b4⟩, ⟨k1, b6⟩, k2, b7⟩
end
structure NI (cs1 cs2 : List Value) (ρ : Nat → Int) (n1 n2 k : Nat) (w s q D : Int) : Prop where
  o1 : OkI cs1 n1 n1
  l1 : cs1.length = n1
  o2 : OkI cs2 n2 n2
  l2 : cs2.length = n2
  hk : k ≤ 2
  rho : rhoE (ringC ρ (k + 1)) = ρ
  h5 : n1 ≤ 5
  hb : bladeE cs1 n1 cs2 n2 ρ (k + 1) = 0
  hf : flowE w s q = 0
  hD : 1 ≤ D ∧ D ≤ 11
section
variable {cs1 cs2 : List Value} {ρ : Nat → Int} {n1 n2 k : Nat} {w s q D : Int}
theorem NI.five (h : NI cs1 cs2 ρ n1 n2 k w s q D) : Ways.five (k + 1) := by
  have := h.hk
  unfold Ways.five
  omega
theorem NI.rv (h : NI cs1 cs2 ρ n1 n2 k w s q D) {t : Nat} (ht : t < k + 1) : RV cs1 n1 (ρ (4 * t)) (ρ (4 * t + 1)) (ρ (4 * t + 2)) (ρ (4 * t + 3)) w s q := rv_of h.hb h.hf ht
theorem NI.drag (h : NI cs1 cs2 ρ n1 n2 k w s q D) : DragOk cs2 n1 := by
  obtain ⟨hp, _⟩ := blade_z h.hb
  obtain ⟨_, _, hnn, _, hd⟩ := pol_z hp
  intro j hj
  exact range_z (hd j (by omega))
theorem NI.hN (h : NI cs1 cs2 ρ n1 n2 k w s q D) (D' : Int) : hNE cs1 cs2 (ringC ρ (k + 1)) n1 n2 k w s q D' = hasE (scA ρ w s q n1 n1 n2 n2) [cs1, cs2] (k + 1) 0 := by
  show hasE (scA (rhoE (ringC ρ (k + 1))) w s q n1 n1 n2 n2) [cs1, cs2] (k + 1) 0 = _
  rw [h.rho]
theorem NI.tLo (h : NI cs1 cs2 ρ n1 n2 k w s q D) (D' : Int) (h0 : hasE (scA ρ w s q n1 n1 n2 n2) [cs1, cs2] (k + 1) 0 = 0) : tLoE cs1 cs2 (ringC ρ (k + 1)) n1 n2 k w s q D' = sumF (tL [cs1, cs2] D') (scA ρ w s q n1 n1 n2 n2) (k + 1) 0 0 := by
  show okE (hNE cs1 cs2 (ringC ρ (k + 1)) n1 n2 k w s q D') (sumF (tL [cs1, cs2] D') (scA (rhoE (ringC ρ (k + 1))) w s q n1 n1 n2 n2) (k + 1) 0 0) = _
  rw [h.hN, h.rho, h0, ok0]
theorem NI.tHi (h : NI cs1 cs2 ρ n1 n2 k w s q D) (D' : Int) (h0 : hasE (scA ρ w s q n1 n1 n2 n2) [cs1, cs2] (k + 1) 0 = 0) : tHiE cs1 cs2 (ringC ρ (k + 1)) n1 n2 k w s q D' = sumF (tH [cs1, cs2] D') (scA ρ w s q n1 n1 n2 n2) (k + 1) 0 0 := by
  show okE (hNE cs1 cs2 (ringC ρ (k + 1)) n1 n2 k w s q D') (sumF (tH [cs1, cs2] D') (scA (rhoE (ringC ρ (k + 1))) w s q n1 n1 n2 n2) (k + 1) 0 0) = _
  rw [h.hN, h.rho, h0, ok0]
theorem NI.mLo (h : NI cs1 cs2 ρ n1 n2 k w s q D) (D' : Int) (h0 : hasE (scA ρ w s q n1 n1 n2 n2) [cs1, cs2] (k + 1) 0 = 0) : mLoE cs1 cs2 (ringC ρ (k + 1)) n1 n2 k w s q D' = sumF (mL [cs1, cs2] D') (scA ρ w s q n1 n1 n2 n2) (k + 1) 0 0 := by
  show okE (hNE cs1 cs2 (ringC ρ (k + 1)) n1 n2 k w s q D') (sumF (mL [cs1, cs2] D') (scA (rhoE (ringC ρ (k + 1))) w s q n1 n1 n2 n2) (k + 1) 0 0) = _
  rw [h.hN, h.rho, h0, ok0]
theorem NI.mHi (h : NI cs1 cs2 ρ n1 n2 k w s q D) (D' : Int) (h0 : hasE (scA ρ w s q n1 n1 n2 n2) [cs1, cs2] (k + 1) 0 = 0) : mHiE cs1 cs2 (ringC ρ (k + 1)) n1 n2 k w s q D' = sumF (mH [cs1, cs2] D') (scA ρ w s q n1 n1 n2 n2) (k + 1) 0 0 := by
  show okE (hNE cs1 cs2 (ringC ρ (k + 1)) n1 n2 k w s q D') (sumF (mH [cs1, cs2] D') (scA (rhoE (ringC ρ (k + 1))) w s q n1 n1 n2 n2) (k + 1) 0 0) = _
  rw [h.hN, h.rho, h0, ok0]
theorem okCp_of (h : NI cs1 cs2 ρ n1 n2 k w s q D) (ρ' : Nat → Int) : okCp (argA n1 n2 (k + 1)) cs1 cs2 (ringC ρ' (k + 1)) :=
  ⟨rfl, ⟨h.o1, h.l1⟩, ⟨h.o2, h.l2⟩, h.five, rfl, ringC_self _ _⟩
theorem okFc_of (h : NI cs1 cs2 ρ n1 n2 k w s q D) (ρ' : Nat → Int) (hb : bladeE cs1 n1 cs2 n2 (rhoE (ringC ρ' (k + 1))) (k + 1) = 0) {D' : Int} (hD : 1 ≤ D' ∧ D' ≤ 12) : okFc (AN n1 n2 k w s q D') (cpS cs1 cs2 (ringC ρ' (k + 1)) (k + 1)) :=
  ⟨⟨rfl, ⟨h.o1, h.o2⟩, h.five, rfl, ringC_self _ _⟩, ⟨rfl, rfl⟩, h.h5, show k + 1 ≤ 3 from by have := h.hk; omega, hb, h.hf, hD⟩
end
end Go.Proofs.YtbocpikgochioaaDoor.Ways
namespace Go.Proofs.YtbocpikgochioaaDoor.Ways
open Go Go.Ex
/-! ### pairs -/
def numS : List Value → Option Value
  | [.int .i64 n] => some (i (numE n))
  | _ => none
def pairS : List Value → Option Value
  | [.agg ⟨[.int .i64 a, .int .i64 b]⟩] => some (i (pairE a b))
  | _ => none
noncomputable def C1 : Cfg := ⟨T1, sp_, off_, noL⟩
theorem num_pure (n : Int) : Pure Tryd.prog Hd Fn.rotor_checkNumber [i n] (i (numE n)) :=
  pure_run (C := C1) (G := 4) 20 (.leaf (i (rangeE n (-999999999) 999999999))) ts1 .none (by decide) hd_len rfl (by kernel_rfl) (by kernel_rfl) rfl
theorem pair_pure (a b : Int) : Pure Tryd.prog Hd Fn.rotor_checkPair [ag [i a, i b]] (i (pairE a b)) :=
  pure_run (C := C1) (G := 4) 30 (ways2 (rangeE a (-999999999) 999999999) (rangeE b (-999999999) 999999999) i) ts1 .none (by decide) hd_len rfl (by kernel_rfl) (by kernel_rfl) (ways2_sel _ _ _)
def tAE (a b c d : Int) : Int := wrapF .i64 (wrapF .i64 (a * c) - wrapF .i64 (b * d))
def tBE (a b c d : Int) : Int := wrapF .i64 (wrapF .i64 (wrapF .i64 (a * d) + wrapF .i64 (b * c)) - wrapF .i64 (b * d))
def tmV (a b c d : Int) : Value := ag [i (tAE a b c d), i (tBE a b c d)]
def timesS : List Value → Option Value
  | [.agg ⟨[.int .i64 a, .int .i64 b]⟩, .agg ⟨[.int .i64 c, .int .i64 d]⟩] => some (tmV a b c d)
  | _ => none
noncomputable def U2 : Tb := ext (ext T1 Fn.rotor_checkNumber (pureE numS [] Hd)) Fn.rotor_checkPair (pureE pairS [] Hd)
theorem us2 {G : Nat} : TSound Tryd.prog G U2 := by
  refine ((ts1.pure hd_vars fun args v h => ?_).pure hd_vars fun args v h => ?_)
  · unfold numS at h
    split at h
    · cases h; exact num_pure _
    · cases h
  · unfold pairS at h
    split at h
    · cases h; exact pair_pure _ _
    · cases h
noncomputable def CU2 : Cfg := ⟨U2, sp_, off_, noL⟩
theorem times_pure (a b c d : Int) : Pure Tryd.prog Hd Fn.rotor_Pair_times [ag [i a, i b], ag [i c, i d]] (tmV a b c d) :=
  pure_run (C := CU2) (G := 4) 30 (.leaf (tmV a b c d)) us2 .none (by decide) hd_len rfl (by kernel_rfl) (by kernel_rfl) rfl
noncomputable def U3 : Tb := ext U2 Fn.rotor_Pair_times (pureE timesS [] Hd)
theorem us3 {G : Nat} : TSound Tryd.prog G U3 := by
  refine us2.pure hd_vars fun args v h => ?_
  unfold timesS at h
  split at h
  · cases h; exact times_pure _ _ _ _
  · cases h
noncomputable def CU3 : Cfg := ⟨U3, sp_, off_, noL⟩
def thirdsE (n : Int) : Int := (wrapF .i64 (n.tmod 3 + 3)).tmod 3
theorem thirds_cases (n : Int) : thirdsE n = 0 ∨ thirdsE n = 1 ∨ thirdsE n = 2 := by
  have h1 := Int.tmod_lt_of_pos n (by decide : (0 : Int) < 3)
  have h2 := Int.lt_tmod_of_pos n (by decide : (0 : Int) < 3)
  unfold thirdsE
  rw [wrapF_in (by omega) (by omega), Int.tmod_eq_emod_of_nonneg (by omega)]
  omega
def w3 (k : Int) (v : Value) (r1 r2 : VT) : VT := .br (decide (k = 0)) (.leaf v) (.br (decide (k = 1)) r1 (.br (decide (k = 2)) r2 .fail))
def by3E (n x y z : Int) : Int := if thirdsE n = 0 then x else if thirdsE n = 1 then y else z
def turnAE (a b n : Int) : Int := by3E n (tAE a b 1 0) (tAE a b 0 1) (tAE a b (-1) (-1))
def turnBE (a b n : Int) : Int := by3E n (tBE a b 1 0) (tBE a b 0 1) (tBE a b (-1) (-1))
def turnedV (a b n : Int) : Value := ag [i (turnAE a b n), i (turnBE a b n)]
theorem turned_pure (a b n : Int) : Pure Tryd.prog Hg Fn.rotor_Pair_turned [ag [i a, i b], i n] (turnedV a b n) := by
  refine pure_run (C := CU3) (G := 4) 30 (w3 ((wrapF .i64 (n.tmod 3 + 3)).tmod 3) (tmV a b 1 0) (.leaf (tmV a b 0 1)) (.leaf (tmV a b (-1) (-1)))) us3 .none (by decide) hg_len rfl (by kernel_rfl) (by kernel_rfl) ?_
  show (w3 (thirdsE n) _ _ _).sel = _
  unfold turnedV w3 turnAE turnBE by3E
  rcases thirds_cases n with h | h | h <;> simp [VT.sel, h, tmV]
def turnedS : List Value → Option Value
  | [.agg ⟨[.int .i64 a, .int .i64 b]⟩, .int .i64 n] => some (turnedV a b n)
  | _ => none
noncomputable def U4 : Tb := ext U3 Fn.rotor_Pair_turned (pureE turnedS [0] Hg)
theorem us4 {G : Nat} : TSound Tryd.prog G U4 := by
  refine us3.pure hg_vars fun args v h => ?_
  unfold turnedS at h
  split at h
  · cases h; exact turned_pure _ _ _
  · cases h
def ar (x y z : Int) : Value := ag [i x, i y, i z]
def inE (x y z : Int) : Int := if (-1000000 ≤ x ∧ x ≤ 1000000) ∧ (-1000000 ≤ y ∧ y ≤ 1000000) ∧ (-1000000 ≤ z ∧ z ≤ 1000000) then 0 else 3
theorem inE_zero {x y z : Int} (h : inE x y z = 0) : (-1000000 ≤ x ∧ x ≤ 1000000) ∧ (-1000000 ≤ y ∧ y ≤ 1000000) ∧ (-1000000 ≤ z ∧ z ≤ 1000000) := by
  unfold inE at h
  split at h
  · assumption
  · cases h
noncomputable def CU6 : Cfg := ⟨U4, at_ [(Fn.rotor_checkLoads, 20), (Fn.rotor_Split, 11)] .bool sp_, off_, noL⟩
def clampE (x : Int) : Int := if (1000000 : Int) < (if -1000000 > x then -1000000 else x) then 1000000 else (if -1000000 > x then -1000000 else x)
theorem clampE_eq (x : Int) : (clampE x == x) = decide (-1000000 ≤ x ∧ x ≤ 1000000) := by
  rw [Bool.eq_iff_iff]
  simp only [beq_iff_eq, decide_eq_true_eq]
  unfold clampE
  split <;> split <;> omega
theorem in_pure (x y z : Int) : Pure Tryd.prog Hd Fn.rotor_checkLoads [ar x y z] (i (inE x y z)) := by
  refine pure_run (C := CU6) (G := 4) 40 (.br (!(clampE x == x && (clampE y == y && (clampE z == z && true)))) (.leaf (i 3)) (.leaf (i 0))) us4 .none (by decide) hd_len rfl (by kernel_rfl) (by kernel_rfl) ?_
  rw [clampE_eq, clampE_eq, clampE_eq]
  unfold inE
  by_cases hx : -1000000 ≤ x ∧ x ≤ 1000000 <;> by_cases hy : -1000000 ≤ y ∧ y ≤ 1000000 <;> by_cases hz : -1000000 ≤ z ∧ z ≤ 1000000 <;> simp [VT.sel, hx, hy, hz]
theorem plus_pure (a b c d : Int) : Pure Tryd.prog Hd Fn.rotor_Pair_plus [ag [i a, i b], ag [i c, i d]] (ag [i (plE a c), i (plE b d)]) :=
  pure_run (C := CU6) (G := 4) 40 (.leaf (ag [i (plE a c), i (plE b d)])) us4 .none (by decide) hd_len rfl (by kernel_rfl) (by kernel_rfl) rfl
def inS : List Value → Option Value
  | [.agg ⟨[.int .i64 x, .int .i64 y, .int .i64 z]⟩] => some (i (inE x y z))
  | _ => none
def plusS : List Value → Option Value
  | [.agg ⟨[.int .i64 a, .int .i64 b]⟩, .agg ⟨[.int .i64 c, .int .i64 d]⟩] => some (ag [i (plE a c), i (plE b d)])
  | _ => none
noncomputable def U7 : Tb := ext (ext U4 Fn.rotor_checkLoads (pureE inS [] Hd)) Fn.rotor_Pair_plus (pureE plusS [] Hd)
theorem us7 {G : Nat} : TSound Tryd.prog G U7 := by
  refine ((us4.pure hd_vars fun args v h => ?_).pure hd_vars fun args v h => ?_)
  · unfold inS at h
    split at h
    · cases h; exact in_pure _ _ _
    · cases h
  · unfold plusS at h
    split at h
    · cases h; exact plus_pure _ _ _ _
    · cases h
noncomputable def CU7 : Cfg := ⟨U7, CU6.sp, off_, noL⟩
def sE (x y z : Int) : Int := wrapF .i64 (wrapF .i64 (wrapF .i64 (0 + x) + y) + z)
def aE (x y z : Int) : Int := plE (plE (plE 0 (turnAE x 0 0)) (turnAE y 0 1)) (turnAE z 0 2)
def bE (x y z : Int) : Int := plE (plE (plE 0 (turnBE x 0 0)) (turnBE y 0 1)) (turnBE z 0 2)
def splitV (x y z : Int) : Value := tp [i (sE x y z), ag [i (aE x y z), i (bE x y z)]]
theorem split_pure (x y z : Int) : Pure Tryd.prog Hg Fn.rotor_split [ar x y z] (splitV x y z) :=
  pure_run (C := CU7) (G := 4) 40 (.leaf (splitV x y z)) us7 .none (by decide) hg_len rfl (by kernel_rfl) (by kernel_rfl) rfl
theorem split_eq {x y z : Int} (hx : -10000000000 ≤ x ∧ x ≤ 10000000000) (hy : -10000000000 ≤ y ∧ y ≤ 10000000000) (hz : -10000000000 ≤ z ∧ z ≤ 10000000000) : sE x y z = x + y + z ∧ aE x y z = x - z ∧ bE x y z = y - z := by
  have t0 : thirdsE 0 = 0 := by decide
  have t1 : thirdsE 1 = 1 := by decide
  have t2 : thirdsE 2 = 2 := by decide
  have e0 : wrapF .i64 0 = 0 := by decide
  have a0 : ∀ u : Int, -10000000000 ≤ u ∧ u ≤ 10000000000 → turnAE u 0 0 = u ∧ turnBE u 0 0 = 0 := by
    intro u hu
    unfold turnAE turnBE by3E tAE tBE
    simp only [t0, if_true, Int.zero_mul, Int.mul_one, Int.mul_zero, e0, Int.sub_zero, Int.add_zero]
    rw [wsm (x := u) (by omega) (by omega), wsm (x := u) (by omega) (by omega)]
    simp
  have a1 : ∀ u : Int, -10000000000 ≤ u ∧ u ≤ 10000000000 → turnAE u 0 1 = 0 ∧ turnBE u 0 1 = u := by
    intro u hu
    unfold turnAE turnBE by3E tAE tBE
    rw [t1, if_neg (by omega), if_pos rfl, if_neg (by omega), if_pos rfl]
    simp only [Int.mul_one, Int.mul_zero, e0, Int.sub_zero, Int.add_zero]
    rw [wsm (x := u) (by omega) (by omega), wsm (x := u) (by omega) (by omega), wsm (x := u) (by omega) (by omega)]
    simp
  have a2 : ∀ u : Int, -10000000000 ≤ u ∧ u ≤ 10000000000 → turnAE u 0 2 = -u ∧ turnBE u 0 2 = -u := by
    intro u hu
    unfold turnAE turnBE by3E tAE tBE
    rw [t2, if_neg (by omega), if_neg (by omega), if_neg (by omega), if_neg (by omega)]
    have hm : u * -1 = -u := by omega
    simp only [Int.zero_mul, hm, e0, Int.sub_zero, Int.add_zero]
    rw [wsm (x := -u) (by omega) (by omega), wsm (x := -u) (by omega) (by omega), wsm (x := -u) (by omega) (by omega)]
    simp
  unfold sE aE bE plE
  rw [(a0 x hx).1, (a0 x hx).2, (a1 y hy).1, (a1 y hy).2, (a2 z hz).1, (a2 z hz).2]
  simp only [Int.zero_add, Int.add_zero, e0]
  rw [wsm (x := x) (by omega) (by omega), wsm (x := x + y) (by omega) (by omega), wsm (x := x + y + z) (by omega) (by omega), wsm (x := x) (by omega) (by omega), wsm (x := x + -z) (by omega) (by omega), wsm (x := y) (by omega) (by omega), wsm (x := y + -z) (by omega) (by omega)]
  exact ⟨rfl, by omega, by omega⟩
def splitS : List Value → Option Value
  | [.agg ⟨[.int .i64 x, .int .i64 y, .int .i64 z]⟩] => some (splitV x y z)
  | _ => none
noncomputable def U8 : Tb := ext U7 Fn.rotor_split (pureE splitS [0] Hg)
theorem us8 {G : Nat} : TSound Tryd.prog G U8 := by
  refine us7.pure hg_vars fun args v h => ?_
  unfold splitS at h
  split at h
  · cases h; exact split_pure _ _ _
  · cases h
noncomputable def CU8 : Cfg := ⟨U8, at_ [(Fn.rotor_Split, 11), (Fn.rotor_Merge, 19), (Fn.rotor_Merge, 47), (Fn.rotor_Merge, 51), (Fn.rotor_Merge, 57), (Fn.rotor_part, 15), (Fn.rotor_Turn, 14), (Fn.rotor_Norm, 8)] .bool sp_, off_, noL⟩
def errS (e : Int) : Value := tp [i 0, ag [i 0, i 0], i e]
def SplitV (x y z : Int) : Value := tp [i (okE (inE x y z) (sE x y z)), ag [i (okE (inE x y z) (aE x y z)), i (okE (inE x y z) (bE x y z))], i (inE x y z)]
theorem Split_pure (x y z : Int) : Pure Tryd.prog Hg Fn.rotor_Split [ar x y z] (SplitV x y z) := by
  refine pure_run (C := CU8) (G := 4) 40 (ways1 (inE x y z) errS (tp [i (sE x y z), ag [i (aE x y z), i (bE x y z)], i 0])) us8 .none (by decide) hg_len rfl (by kernel_rfl) (by kernel_rfl) ?_
  rw [ways1_sel]
  unfold SplitV errS okE
  by_cases h : inE x y z = 0 <;> simp [h]
def thE (s a b : Int) : Int := IntKind.i64.wrap ((wrapF .i64 (wrapF .i64 (s - a) - b)).tdiv 3)
def mXE (s a b : Int) : Int := wrapF .i64 (thE s a b + a)
def mYE (s a b : Int) : Int := wrapF .i64 (thE s a b + b)
def confE (s a b : Int) : Int := if sE (mXE s a b) (mYE s a b) (thE s a b) ≠ s ∨ aE (mXE s a b) (mYE s a b) (thE s a b) ≠ a ∨ bE (mXE s a b) (mYE s a b) (thE s a b) ≠ b then 30 else inE (mXE s a b) (mYE s a b) (thE s a b)
def mErrE (s a b : Int) : Int := firstE (firstE (rangeE s (-3000000) 3000000) (pairE a b)) (confE s a b)
def errM (e : Int) : Value := tp [ar 0 0 0, i e]
def MergeV (s a b : Int) : Value := tp [ar (okE (mErrE s a b) (mXE s a b)) (okE (mErrE s a b) (mYE s a b)) (okE (mErrE s a b) (thE s a b)), i (mErrE s a b)]
def mTail (s a b : Int) : VT :=
  .br (!eqF (sE (mXE s a b) (mYE s a b) (thE s a b)) s) (.leaf (errM 30)) (.br (!(aE (mXE s a b) (mYE s a b) (thE s a b) == a && (bE (mXE s a b) (mYE s a b) (thE s a b) == b && true))) (.leaf (errM 30))
    (.br (!eqF (inE (mXE s a b) (mYE s a b) (thE s a b)) 0) (.leaf (errM (inE (mXE s a b) (mYE s a b) (thE s a b)))) (.leaf (tp [ar (mXE s a b) (mYE s a b) (thE s a b), i 0]))))
theorem mTail_sel (s a b : Int) : (mTail s a b).sel = some (if confE s a b = 0 then tp [ar (mXE s a b) (mYE s a b) (thE s a b), i 0] else errM (confE s a b)) := by
  unfold mTail confE
  by_cases h1 : sE (mXE s a b) (mYE s a b) (thE s a b) = s
  · by_cases h2 : aE (mXE s a b) (mYE s a b) (thE s a b) = a
    · by_cases h3 : bE (mXE s a b) (mYE s a b) (thE s a b) = b
      · by_cases h4 : inE (mXE s a b) (mYE s a b) (thE s a b) = 0 <;> simp [VT.sel, eqF_d, h1, h2, h3, h4]
      · simp [VT.sel, eqF_d, beqI, h1, h2, h3]
    · simp [VT.sel, eqF_d, beqI, h1, h2]
  · simp [VT.sel, eqF_d, h1]
theorem Merge_pure (s a b : Int) : Pure Tryd.prog Hg Fn.rotor_Merge [i s, ag [i a, i b]] (MergeV s a b) := by
  refine pure_run (C := CU8) (G := 4) 40 (fst2 (rangeE s (-3000000) 3000000) (pairE a b) fun e => .br (!eqF e 0) (.leaf (errM e)) (mTail s a b)) us8 .none (by decide) hg_len rfl (by kernel_rfl) (by kernel_rfl) ?_
  rw [fst2_sel]
  generalize he : firstE (rangeE s (-3000000) 3000000) (pairE a b) = e
  unfold MergeV mErrE
  rw [he]
  by_cases h : e = 0
  · subst h
    have : (VT.br (!eqF 0 0) (.leaf (errM 0)) (mTail s a b)).sel = (mTail s a b).sel := rfl
    rw [this, mTail_sel]
    unfold firstE okE errM
    by_cases h2 : confE s a b = 0 <;> simp [h2]
  · unfold firstE okE errM
    simp [VT.sel, eqF_d, h]

/-- Turn and Norm -/
def errT (e : Int) : Value := tp [ag [i 0, i 0], i e]
def tnE (a b n : Int) : Int := firstE (pairE a b) (numE n)
def TurnV (a b n : Int) : Value := tp [ag [i (okE (tnE a b n) (turnAE a b n)), i (okE (tnE a b n) (turnBE a b n))], i (tnE a b n)]
theorem Turn_pure (a b n : Int) : Pure Tryd.prog Hg Fn.rotor_Turn [ag [i a, i b], i n] (TurnV a b n) := by
  refine pure_run (C := CU8) (G := 4) 40 (fst2 (pairE a b) (numE n) fun e => .br (!eqF e 0) (.leaf (errT e)) (.leaf (tp [turnedV a b n, i 0]))) us8 .none (by decide) hg_len rfl (by kernel_rfl) (by kernel_rfl) ?_
  rw [fst2_sel]
  show (VT.br (!eqF (tnE a b n) 0) _ _).sel = _
  unfold TurnV okE errT
  rw [eqF_d]
  by_cases h : tnE a b n = 0
  · rw [h]; rfl
  · rw [decide_eq_false h, if_neg h, if_neg h]; rfl
def nrE (a b : Int) : Int := wrapF .i64 (wrapF .i64 (wrapF .i64 (a * a) - wrapF .i64 (a * b)) + wrapF .i64 (b * b))
def NormV (a b : Int) : Value := tp [i (okE (pairE a b) (nrE a b)), i (pairE a b)]
theorem Norm_pure (a b : Int) : Pure Tryd.prog Hd Fn.rotor_Norm [ag [i a, i b]] (NormV a b) := by
  refine pure_run (C := CU8) (G := 4) 40 (.br (!eqF (pairE a b) 0) (.leaf (tp [i 0, i (pairE a b)])) (.leaf (tp [i (nrE a b), i 0]))) us8 .none (by decide) hd_len rfl (by kernel_rfl) (by kernel_rfl) ?_
  unfold NormV okE
  rw [eqF_d]
  by_cases h : pairE a b = 0
  · rw [h]; rfl
  · rw [decide_eq_false h, if_neg h]; rfl
def SplitS : List Value → Option Value
  | [.agg ⟨[.int .i64 x, .int .i64 y, .int .i64 z]⟩] => some (SplitV x y z)
  | _ => none
def MergeS : List Value → Option Value
  | [.int .i64 s, .agg ⟨[.int .i64 a, .int .i64 b]⟩] => some (MergeV s a b)
  | _ => none
def TurnS : List Value → Option Value
  | [.agg ⟨[.int .i64 a, .int .i64 b]⟩, .int .i64 n] => some (TurnV a b n)
  | _ => none
def NormS : List Value → Option Value
  | [.agg ⟨[.int .i64 a, .int .i64 b]⟩] => some (NormV a b)
  | _ => none
noncomputable def U9 : Tb := ext (ext (ext (ext U8 Fn.rotor_Split (pureE SplitS [0] Hg)) Fn.rotor_Merge (pureE MergeS [0] Hg)) Fn.rotor_Turn (pureE TurnS [0] Hg)) Fn.rotor_Norm (pureE NormS [] Hd)
theorem us9 {G : Nat} : TSound Tryd.prog G U9 := by
  refine ((((us8.pure hg_vars fun args v h => ?_).pure hg_vars fun args v h => ?_).pure hg_vars fun args v h => ?_).pure hd_vars fun args v h => ?_)
  · unfold SplitS at h
    split at h
    · cases h; exact Split_pure _ _ _
    · cases h
  · unfold MergeS at h
    split at h
    · cases h; exact Merge_pure _ _ _
    · cases h
  · unfold TurnS at h
    split at h
    · cases h; exact Turn_pure _ _ _
    · cases h
  · unfold NormS at h
    split at h
    · cases h; exact Norm_pure _ _
    · cases h
/-- the fixed example -/
theorem hr_run : isT (execQ Tryd.prog 4 150 (.call Fn.top_hawseRotor #[] Hg)) = true := by kernel_rfl
theorem hr_pure : Pure Tryd.prog Hg Fn.top_hawseRotor [] (b_ true) := by
  obtain ⟨H', hr⟩ := isT_some hr_run
  have h1 := execQ_sound Tryd.prog 4 150 _ _ hr
  have h2 := execS_sound Tryd.prog 4 150 _ _ h1
  exact Pure.of_sound (H' := H') (by decide) hg_len (by kernel_rfl) h2
/-- the flow with a pitch -/
theorem hf_pure (w s q p : Int) : Pure Tryd.prog Hd Fn.top_hawseFlow [flV w s q, i p] (flV w s p) :=
  pure_run (C := CU8) (G := 4) 40 (.leaf (flV w s p)) us8 .none (by decide) hd_len rfl (by kernel_rfl) (by kernel_rfl) rfl
def hfS : List Value → Option Value
  | [.agg ⟨[.int .i64 w, .int .i64 s, .int .i64 _]⟩, .int .i64 p] => some (flV w s p)
  | _ => none
end Go.Proofs.YtbocpikgochioaaDoor.Ways
namespace Go.Proofs.YtbocpikgochioaaDoor.Ways
open Go Go.Ex
/-! ### hawseLight -/
noncomputable def spHi : Nat → Nat → Split := at_ [(Fn.top_hawseLight, 6), (Fn.top_hawseLight, 10), (Fn.top_hawseLight, 15)] .bool no_
noncomputable def CHi : Cfg := ⟨TG2, spHi, syNl, noL⟩
noncomputable def CHg : Cfg := ⟨TG2, at_ [(Fn.top_hawseLight, 9)] (.ints []) spHi, syNl, noL⟩
def hlE (a : ArA) (css : List (List Value)) : Bool := shE a.b.n1 a.b.n2 a.b.n && (eqF (errB a.b css) 0 && (eqF (flowE a.w a.s a.q) 0 && lgE a.w a.s (rhoC css 0)))
noncomputable def hliT (cs1 cs2 cs3 : List Value) (n1 n2 n : Nat) (w s q : Int) (g : VT) : VT :=
  askB (tru ((argA n1 n2 n).nil = false ∧ fl3 [cs1, cs2, cs3])) (.br (shE n1 n2 n) (askB (tru (okB3 (argA n1 n2 n) [cs1, cs2, cs3])) (.br (eqF (errB (argA n1 n2 n) [cs1, cs2, cs3]) 0) (.br (eqF (flowE w s q) 0) g (lf false)) (lf false))) (lf false))
section
variable {cs1 cs2 cs3 : List Value} {t1 s1 t2 s2 t3 s3 n1 n2 n : Nat} {e1 e2 e3 : Bool} {w s q : Int} {ρ : Nat → Int}
theorem hlight_sel {g : VT} (h : fl3 [cs1, cs2, cs3]) (hs : shE n1 n2 n = true) (hB : okB3 (argA n1 n2 n) [cs1, cs2, cs3]) (hg : errB (argA n1 n2 n) [cs1, cs2, cs3] = 0 → flowE w s q = 0 → g.sel = some (b_ (lgE w s (rhoE cs3 0)))) :
    (hliT cs1 cs2 cs3 n1 n2 n w s q g).sel = some (b_ (hlE ⟨argA n1 n2 n, w, s, q, 0, 0, 0⟩ [cs1, cs2, cs3])) := by
  have hE : hlE ⟨argA n1 n2 n, w, s, q, 0, 0, 0⟩ [cs1, cs2, cs3] = (shE n1 n2 n && (eqF (errB (argA n1 n2 n) [cs1, cs2, cs3]) 0 && (eqF (flowE w s q) 0 && lgE w s (rhoE cs3 0)))) := rfl
  rw [hE]
  unfold hliT
  rw [askB_sel (tru_iff.2 ⟨rfl, h⟩), brB, if_pos hs, askB_sel (tru_iff.2 hB), hs, eqF_d, eqF_d, brD, brD]
  by_cases h1 : errB (argA n1 n2 n) [cs1, cs2, cs3] = 0
  · rw [if_pos h1]
    by_cases h2 : flowE w s q = 0
    · rw [if_pos h2, hg h1 h2]; simp [h1, h2]
    · rw [if_neg h2]; simp [h2, lf, VT.sel]
  · rw [if_neg h1]; simp [h1, lf, VT.sel]
theorem hlight_no (h : fl3 [cs1, cs2, cs3]) (hs : shE n1 n2 n = false) {x : VT} :
    (askB (tru ((argA n1 n2 n).nil = false ∧ fl3 [cs1, cs2, cs3])) (.br (shE n1 n2 n) x (lf false))).sel = some (b_ (hlE ⟨argA n1 n2 n, w, s, q, 0, 0, 0⟩ [cs1, cs2, cs3])) := by
  have hE : hlE ⟨argA n1 n2 n, w, s, q, 0, 0, 0⟩ [cs1, cs2, cs3] = (shE n1 n2 n && (eqF (errB (argA n1 n2 n) [cs1, cs2, cs3]) 0 && (eqF (flowE w s q) 0 && lgE w s (rhoE cs3 0)))) := rfl
  rw [hE, askB_sel (tru_iff.2 ⟨rfl, h⟩), brB, hs]
  rfl
theorem hli0 (cs1 cs2 : List Value) (ρ : Nat → Int) (t1 s1 t2 s2 t3 s3 n1 n2 : Nat) (e1 e2 e3 : Bool) (w s q : Int) : (execO Tryd.prog 7 CHi 80 (.call Fn.top_hawseLight ⟨[blV n1 n1 n2 n2 (sl 6 0 0 0), flV w s q]⟩ (hpB cs1 t1 s1 e1 cs2 t2 s2 e2 (ringC ρ 0) t3 s3 e3))).vals = hliT cs1 cs2 (ringC ρ 0) n1 n2 0 w s q .fail := by kernel_rfl
theorem hlif0 (cs1 cs2 : List Value) (ρ : Nat → Int) (t1 s1 t2 s2 t3 s3 n1 n2 : Nat) (e1 e2 e3 : Bool) (w s q : Int) : execO Tryd.prog 7 CHi 80 (.call Fn.top_hawseLight ⟨[blV n1 n1 n2 n2 (sl 6 0 0 0), flV w s q]⟩ (hpB cs1 t1 s1 e1 cs2 t2 s2 e2 (ringC ρ 0) t3 s3 e3)) = (execO Tryd.prog 7 CHi 80 (.call Fn.top_hawseLight ⟨[blV n1 n1 n2 n2 (sl 6 0 0 0), flV w s q]⟩ (hpB cs1 t1 s1 e1 cs2 t2 s2 e2 (ringC ρ 0) t3 s3 e3))).fix := by kernel_rfl
theorem hli1 (cs1 cs2 : List Value) (ρ : Nat → Int) (t1 s1 t2 s2 t3 s3 n1 n2 : Nat) (e1 e2 e3 : Bool) (w s q : Int) : (execO Tryd.prog 7 CHi 80 (.call Fn.top_hawseLight ⟨[blV n1 n1 n2 n2 (sl 6 0 1 1), flV w s q]⟩ (hpB cs1 t1 s1 e1 cs2 t2 s2 e2 (ringC ρ 1) t3 s3 e3))).vals = hliT cs1 cs2 (ringC ρ 1) n1 n2 1 w s q (ligG s w (rhoE (ringC ρ 1) 0)) := by kernel_rfl
theorem hlif1 (cs1 cs2 : List Value) (ρ : Nat → Int) (t1 s1 t2 s2 t3 s3 n1 n2 : Nat) (e1 e2 e3 : Bool) (w s q : Int) : execO Tryd.prog 7 CHi 80 (.call Fn.top_hawseLight ⟨[blV n1 n1 n2 n2 (sl 6 0 1 1), flV w s q]⟩ (hpB cs1 t1 s1 e1 cs2 t2 s2 e2 (ringC ρ 1) t3 s3 e3)) = (execO Tryd.prog 7 CHi 80 (.call Fn.top_hawseLight ⟨[blV n1 n1 n2 n2 (sl 6 0 1 1), flV w s q]⟩ (hpB cs1 t1 s1 e1 cs2 t2 s2 e2 (ringC ρ 1) t3 s3 e3))).fix := by kernel_rfl
theorem hli2 (cs1 cs2 : List Value) (ρ : Nat → Int) (t1 s1 t2 s2 t3 s3 n1 n2 : Nat) (e1 e2 e3 : Bool) (w s q : Int) : (execO Tryd.prog 7 CHi 80 (.call Fn.top_hawseLight ⟨[blV n1 n1 n2 n2 (sl 6 0 2 2), flV w s q]⟩ (hpB cs1 t1 s1 e1 cs2 t2 s2 e2 (ringC ρ 2) t3 s3 e3))).vals = hliT cs1 cs2 (ringC ρ 2) n1 n2 2 w s q (ligG s w (rhoE (ringC ρ 2) 0)) := by kernel_rfl
theorem hlif2 (cs1 cs2 : List Value) (ρ : Nat → Int) (t1 s1 t2 s2 t3 s3 n1 n2 : Nat) (e1 e2 e3 : Bool) (w s q : Int) : execO Tryd.prog 7 CHi 80 (.call Fn.top_hawseLight ⟨[blV n1 n1 n2 n2 (sl 6 0 2 2), flV w s q]⟩ (hpB cs1 t1 s1 e1 cs2 t2 s2 e2 (ringC ρ 2) t3 s3 e3)) = (execO Tryd.prog 7 CHi 80 (.call Fn.top_hawseLight ⟨[blV n1 n1 n2 n2 (sl 6 0 2 2), flV w s q]⟩ (hpB cs1 t1 s1 e1 cs2 t2 s2 e2 (ringC ρ 2) t3 s3 e3))).fix := by kernel_rfl
theorem hli3 (cs1 cs2 : List Value) (ρ : Nat → Int) (t1 s1 t2 s2 t3 s3 n1 n2 : Nat) (e1 e2 e3 : Bool) (w s q : Int) : (execO Tryd.prog 7 CHi 80 (.call Fn.top_hawseLight ⟨[blV n1 n1 n2 n2 (sl 6 0 3 3), flV w s q]⟩ (hpB cs1 t1 s1 e1 cs2 t2 s2 e2 (ringC ρ 3) t3 s3 e3))).vals = hliT cs1 cs2 (ringC ρ 3) n1 n2 3 w s q (ligG s w (rhoE (ringC ρ 3) 0)) := by kernel_rfl
theorem hlif3 (cs1 cs2 : List Value) (ρ : Nat → Int) (t1 s1 t2 s2 t3 s3 n1 n2 : Nat) (e1 e2 e3 : Bool) (w s q : Int) : execO Tryd.prog 7 CHi 80 (.call Fn.top_hawseLight ⟨[blV n1 n1 n2 n2 (sl 6 0 3 3), flV w s q]⟩ (hpB cs1 t1 s1 e1 cs2 t2 s2 e2 (ringC ρ 3) t3 s3 e3)) = (execO Tryd.prog 7 CHi 80 (.call Fn.top_hawseLight ⟨[blV n1 n1 n2 n2 (sl 6 0 3 3), flV w s q]⟩ (hpB cs1 t1 s1 e1 cs2 t2 s2 e2 (ringC ρ 3) t3 s3 e3))).fix := by kernel_rfl
theorem hli17 (cs1 cs2 : List Value) (ρ : Nat → Int) (t1 s1 t2 s2 t3 s3 n1 n2 : Nat) (e1 e2 e3 : Bool) (w s q : Int) : (execO Tryd.prog 7 CHi 80 (.call Fn.top_hawseLight ⟨[blV n1 n1 n2 n2 (sl 6 0 17 17), flV w s q]⟩ (hpB cs1 t1 s1 e1 cs2 t2 s2 e2 (ringC ρ 17) t3 s3 e3))).vals = hliT cs1 cs2 (ringC ρ 17) n1 n2 17 w s q (ligG s w (rhoE (ringC ρ 17) 0)) := by kernel_rfl
theorem hlif17 (cs1 cs2 : List Value) (ρ : Nat → Int) (t1 s1 t2 s2 t3 s3 n1 n2 : Nat) (e1 e2 e3 : Bool) (w s q : Int) : execO Tryd.prog 7 CHi 80 (.call Fn.top_hawseLight ⟨[blV n1 n1 n2 n2 (sl 6 0 17 17), flV w s q]⟩ (hpB cs1 t1 s1 e1 cs2 t2 s2 e2 (ringC ρ 17) t3 s3 e3)) = (execO Tryd.prog 7 CHi 80 (.call Fn.top_hawseLight ⟨[blV n1 n1 n2 n2 (sl 6 0 17 17), flV w s q]⟩ (hpB cs1 t1 s1 e1 cs2 t2 s2 e2 (ringC ρ 17) t3 s3 e3))).fix := by kernel_rfl
theorem hlig (cs1 cs2 cs3 : List Value) (t1 s1 t2 s2 t3 s3 n1 n2 n : Nat) (e1 e2 e3 : Bool) (w s q : Int) : (execO Tryd.prog 7 CHg 80 (.call Fn.top_hawseLight ⟨[blV n1 n1 n2 n2 (sl 6 0 n n), flV w s q]⟩ (hpB cs1 t1 s1 e1 cs2 t2 s2 e2 cs3 t3 s3 e3))).vals = askB (tru ((argA n1 n2 n).nil = false ∧ fl3 [cs1, cs2, cs3])) (.br (shE n1 n2 n) (askB (tru (okB3 (argA n1 n2 n) [cs1, cs2, cs3])) .fail) (lf false)) := by kernel_rfl
theorem hlifg (cs1 cs2 cs3 : List Value) (t1 s1 t2 s2 t3 s3 n1 n2 n : Nat) (e1 e2 e3 : Bool) (w s q : Int) : execO Tryd.prog 7 CHg 80 (.call Fn.top_hawseLight ⟨[blV n1 n1 n2 n2 (sl 6 0 n n), flV w s q]⟩ (hpB cs1 t1 s1 e1 cs2 t2 s2 e2 cs3 t3 s3 e3)) = (execO Tryd.prog 7 CHg 80 (.call Fn.top_hawseLight ⟨[blV n1 n1 n2 n2 (sl 6 0 n n), flV w s q]⟩ (hpB cs1 t1 s1 e1 cs2 t2 s2 e2 cs3 t3 s3 e3))).fix := by kernel_rfl
end
theorem f30_light : ∀ a css os, okLi a css → Blks css os → ∃ H', Sound Tryd.prog (gl + css.length) (.call Fn.top_hawseLight ⟨a.valsL⟩ (heapL (deads ++ os))) (.val (b_ (hlE a css)) H') := by
  intro a css os h hb
  obtain ⟨⟨n1, c1, n2, c2, n, c, nl⟩, w, s, q, ring, x, d⟩ := a
  obtain ⟨g1, ⟨g2, g3, g4⟩, h, hs⟩ := h
  dsimp only at g1 g2 g3 g4 hs
  subst g1 g2 g3 g4
  have hf := h
  unfold fl3 at h
  split at h
  case h_2 => cases h
  rename_i cs1 cs2 cs3
  obtain ⟨t1, s1, e1, t2, s2, e2, t3, s3, e3, rfl⟩ := blks3 hb
  cases hsh : shE c1 c2 c with
  | false => exact one_tree (C := CHg) (n := 80) _ tsG2 .none (hlifg cs1 cs2 cs3 t1 s1 t2 s2 t3 s3 c1 c2 c e1 e2 e3 w s q) (hlig cs1 cs2 cs3 t1 s1 t2 s2 t3 s3 c1 c2 c e1 e2 e3 w s q) (hlight_no hf hsh)
  | true =>
    have hB := hs hsh
    have hB' := hB
    obtain ⟨_, _, h5, _, h3⟩ := hB'
    have h3 : cs3 = ringC (rhoE cs3) c := h3
    have h5 : five c := h5
    rcases h5 with rfl | rfl | rfl | rfl | rfl
    · have := one_tree (C := CHi) (n := 80) _ tsG2 .none (hlif0 cs1 cs2 (rhoE cs3) t1 s1 t2 s2 t3 s3 c1 c2 e1 e2 e3 w s q) (hli0 cs1 cs2 (rhoE cs3) t1 s1 t2 s2 t3 s3 c1 c2 e1 e2 e3 w s q) (by rw [← h3]; exact hlight_sel hf hsh hB fun hb => absurd (blade_z (show bladeE cs1 c1 cs2 c2 (rhoE cs3) 0 = 0 from hb)).2.1 (by decide))
      rw [← h3] at this; exact this
    · have := one_tree (C := CHi) (n := 80) _ tsG2 .none (hlif1 cs1 cs2 (rhoE cs3) t1 s1 t2 s2 t3 s3 c1 c2 e1 e2 e3 w s q) (hli1 cs1 cs2 (rhoE cs3) t1 s1 t2 s2 t3 s3 c1 c2 e1 e2 e3 w s q) (by rw [← h3]; exact hlight_sel hf hsh hB fun hb hq => ligG_sel hb hq)
      rw [← h3] at this; exact this
    · have := one_tree (C := CHi) (n := 80) _ tsG2 .none (hlif2 cs1 cs2 (rhoE cs3) t1 s1 t2 s2 t3 s3 c1 c2 e1 e2 e3 w s q) (hli2 cs1 cs2 (rhoE cs3) t1 s1 t2 s2 t3 s3 c1 c2 e1 e2 e3 w s q) (by rw [← h3]; exact hlight_sel hf hsh hB fun hb hq => ligG_sel hb hq)
      rw [← h3] at this; exact this
    · have := one_tree (C := CHi) (n := 80) _ tsG2 .none (hlif3 cs1 cs2 (rhoE cs3) t1 s1 t2 s2 t3 s3 c1 c2 e1 e2 e3 w s q) (hli3 cs1 cs2 (rhoE cs3) t1 s1 t2 s2 t3 s3 c1 c2 e1 e2 e3 w s q) (by rw [← h3]; exact hlight_sel hf hsh hB fun hb hq => ligG_sel hb hq)
      rw [← h3] at this; exact this
    · have := one_tree (C := CHi) (n := 80) _ tsG2 .none (hlif17 cs1 cs2 (rhoE cs3) t1 s1 t2 s2 t3 s3 c1 c2 e1 e2 e3 w s q) (hli17 cs1 cs2 (rhoE cs3) t1 s1 t2 s2 t3 s3 c1 c2 e1 e2 e3 w s q) (by rw [← h3]; exact hlight_sel hf hsh hB fun hb hq => ligG_sel hb hq)
      rw [← h3] at this; exact this
noncomputable def TU1 : Tb := ext (ext (ext (ext (orT TG2 U9) Fn.top_hawseBlade cpE) Fn.top_hawseFlow (pureE hfS [] Hd)) Fn.top_hawseRotor (pureE awS [0] Hg)) Fn.top_hawseLight (rdE rdLi okLi (fun a css => b_ (hlE a css)) [] (heapL deads))
theorem tsU1 {G : Nat} : TSound Tryd.prog G TU1 := by
  refine ((((orT_ok tsG2 us9).ext WaysH.cpE_ok).pure hd_vars fun args v h => ?_).pure hg_vars fun args v h => ?_).ext (rd_ok ArA.valsL deads_len deads_flat deads_mem rdLi_ok okLi_flat (fun _ _ _ => rfl) f30_light)
  · unfold hfS at h
    split at h
    · cases h; exact hf_pure _ _ _ _
    · cases h
  · unfold awS at h
    split at h
    · cases h; exact hr_pure
    · cases h
end Go.Proofs.YtbocpikgochioaaDoor.Ways
namespace Go.Proofs.YtbocpikgochioaaDoor.Ways
open Go Go.Ex
def AR (n1 n2 k : Nat) (w s q ring x d : Int) : ArA := ⟨cpA_ n1 n2 (k + 1), w, s, q, ring, x, d⟩
def fX (a : ArA) (css : List (List Value)) : Int := okE (fErr (firstE (sE_ a css) (rangeE a.x 1 12)) (hasB (scB a css) (cs12 css))) (brA (scB a css) (cs12 css) (a.x - 1).toNat)
def fY (a : ArA) (css : List (List Value)) : Int := okE (fErr (firstE (sE_ a css) (rangeE a.x 1 12)) (hasB (scB a css) (cs12 css))) a.x
def fZ (a : ArA) (css : List (List Value)) : Int := fErr (firstE (sE_ a css) (rangeE a.x 1 12)) (hasB (scB a css) (cs12 css))
def gX (a : ArA) (css : List (List Value)) : Int := pick3 (checkR a css) a.d 0 (okE (ffE (upA a) css (upA a).x) (brA (scB (upA a) css) (cs12 css) ((upA a).x - 1).toNat)) 0
def gY (a : ArA) (css : List (List Value)) : Int := pick3 (checkR a css) a.d 0 (okE (ffE (upA a) css (upA a).x) (upA a).x) 0
def gZ (a : ArA) (css : List (List Value)) : Int := pick3 (checkR a css) a.d 23 (ffE (upA a) css (upA a).x) (checkR a css)
end Go.Proofs.YtbocpikgochioaaDoor.Ways
namespace Go.Proofs.YtbocpikgochioaaDoor.Fn
def top_Finest : Nat := 6
end Go.Proofs.YtbocpikgochioaaDoor.Fn
namespace Go.Proofs.YtbocpikgochioaaDoor.Ways
open Go Go.Ex
def u8 (n : Int) : Value := .int .u8 n
noncomputable def CF1_ : Cfg := ⟨TU1, no_, off_, noL⟩
theorem sfF1 : SelfSound Tryd.prog 7 (selfA (qS (tabW CF1_))) := qS_selfSound (tabW_sound tsU1)
noncomputable def baseF (n1 n2 k : Nat) (w s q xa xb : Int) (cs1 : List Value) (t1 s1 : Nat) (cs2 : List Value) (t2 s2 : Nat) (cs3 : List Value) (t3 s3 : Nat) : List (CO × Bool) :=
  [(.cells powers 149 1 true, true), (.dead, false), (.dead, false), (.dead, false), (.cells cs1 t1 s1 false, true), (.cells cs2 t2 s2 false, true), (.cells cs3 t3 s3 false, true),
    (.cells [sl 4 0 n1 n1, sl 5 0 n2 n2, sl 6 0 (k + 1) (k + 1)] 27 1 true, false), (.cells [i w, i s, i q] 29 1 true, false), (.cells [u8 xa, u8 xb] 71 1 true, false)]
noncomputable def hpF (cs1 : List Value) (t1 s1 : Nat) (cs2 : List Value) (t2 s2 : Nat) (cs3 : List Value) (t3 s3 : Nat) : List CO := [.cells powers 149 1 true, .dead, .dead, .dead, .cells cs1 t1 s1 false, .cells cs2 t2 s2 false, .cells cs3 t3 s3 false]
end Go.Proofs.YtbocpikgochioaaDoor.Ways
namespace Go.Proofs.YtbocpikgochioaaDoor.Ways
open Go Go.Ex
noncomputable def OF4 : Array Oper := regOps Tryd.f6 4
def statesF4 : List Nat := [0, 1, 3, 4, 5, 7, 8, 9, 11, 12, 13, 15, 24, 25, 27, 28, 29, 31, 60, 61, 63, 64, 65, 67, 68, 69, 71, 72, 73, 75, 76, 77, 79, 88, 89, 91, 92, 93, 95, 124, 125, 127, 255, 511, 1023, 1535, 2047, 2048, 2049, 2051, 2052, 2053, 2055, 2056, 2057, 2059, 2060, 2061, 2063, 2072, 2073, 2075, 2076, 2077, 2079, 2108, 2109, 2111, 2112, 2113, 2115, 2116, 2117, 2119, 2120, 2121, 2123, 2124, 2125, 2127, 2136, 2137, 2139, 2140, 2141, 2143, 2172, 2173, 2175, 2303, 2559, 3071, 3583, 4095, 7167, 8191, 16383]
def ansF4 (j : Nat) : List Bool :=
  match j with
  | 1 => [true]
  | 7 => [true]
  | _ => []
noncomputable def liveF4 (cs1 cs2 cs3 : List Value) (_t1 _s1 _t2 _s2 _t3 _s3 n1 n2 k : Nat) (w s q _xa _xb R D _x _n _a _b _F0 _F1 _G0 _G1 _e6 _e7 _S : Int) (m : Nat) : List (Nat × Value) := [(3, pt 7 0), (4, pt 8 0), (7, i R), (8, i D)] ++ bitV m 0 (52, blV n1 n1 n2 n2 (sl 6 0 (k + 1) (k + 1))) ++ bitV m 1 (53, cutV false 10 n1 n2 (k + 1)) ++ bitV m 2 (54, flV w s q) ++ bitV m 3 (55, pt 8 2) ++ bitV m 4 (56, i q) ++ bitV m 5 (57, flV w s q) ++ bitV m 6 (58, i R) ++ bitV m 7 (59, (tp [ag [i (fX (AF n1 n2 k w s q R 1) (cpS cs1 cs2 cs3 (k + 1))), i (fY (AF n1 n2 k w s q R 1) (cpS cs1 cs2 cs3 (k + 1)))], i (fZ (AF n1 n2 k w s q R 1) (cpS cs1 cs2 cs3 (k + 1)))])) ++ bitV m 8 (51, (tp [ag [i (fX (AF n1 n2 k w s q R 1) (cpS cs1 cs2 cs3 (k + 1))), i (fY (AF n1 n2 k w s q R 1) (cpS cs1 cs2 cs3 (k + 1)))], i (fZ (AF n1 n2 k w s q R 1) (cpS cs1 cs2 cs3 (k + 1)))])) ++ bitV m 9 (60, ag [i (fX (AF n1 n2 k w s q R 1) (cpS cs1 cs2 cs3 (k + 1))), i (fY (AF n1 n2 k w s q R 1) (cpS cs1 cs2 cs3 (k + 1)))]) ++ bitV m 10 (61, i (fZ (AF n1 n2 k w s q R 1) (cpS cs1 cs2 cs3 (k + 1)))) ++ bitV m 11 (9, pt 13 0) ++ bitV m 13 (10, i (fZ (AF n1 n2 k w s q R 1) (cpS cs1 cs2 cs3 (k + 1))))
noncomputable def baseF4 (cs1 cs2 cs3 : List Value) (t1 s1 t2 s2 t3 s3 n1 n2 k : Nat) (w s q xa xb _R _D _x _n _a _b _F0 _F1 _G0 _G1 _e6 _e7 _S : Int) : List (CO × Bool) := baseF n1 n2 k w s q xa xb cs1 t1 s1 cs2 t2 s2 cs3 t3 s3
noncomputable def hpF4 (cs1 cs2 cs3 : List Value) (t1 s1 t2 s2 t3 s3 n1 n2 k : Nat) (w s q xa xb R _D _x _n _a _b _F0 _F1 _G0 _G1 _e6 _e7 _S : Int) (m : Nat) : List (CO × Bool) := baseF n1 n2 k w s q xa xb cs1 t1 s1 cs2 t2 s2 cs3 t3 s3 ++ [bitC m 1 (.cells cs1 3 1 false, true), bitC m 1 (.cells cs2 3 1 false, true), bitC m 1 (.cells cs3 103 4 false, true)] ++ [bitC m 11 (.cells (cond (Nat.testBit m 12) [i (fX (AF n1 n2 k w s q R 1) (cpS cs1 cs2 cs3 (k + 1))), i (fY (AF n1 n2 k w s q R 1) (cpS cs1 cs2 cs3 (k + 1)))] [i 0, i 0]) 53 1 true, false)]
def rhoF4 (j : Nat) : List Nat :=
  match j with
  | 1 => [0, 1, 2, 3, 4, 5, 6, 7, 8, 9, 14, 15, 16, 13]
  | 11 => [0, 1, 2, 3, 4, 5, 6, 7, 8, 9, 10, 11, 12, 14]
  | _ => List.range 14
def lenF4 (j : Nat) : Nat :=
  match j with
  | 1 => 17
  | 11 => 15
  | _ => 14
noncomputable def cndF4 (cs1 cs2 cs3 : List Value) (_t1 _s1 _t2 _s2 _t3 _s3 n1 n2 k : Nat) (w s q _xa _xb R _D _x _n _a _b _F0 _F1 _G0 _G1 _e6 _e7 _S : Int) (j : Nat) : List Bool :=
  match j with
  | 1 => [tru (okCp (argA n1 n2 (k + 1)) cs1 cs2 cs3)]
  | 7 => [tru (okP (AF n1 n2 k w s q R 1) (cpS cs1 cs2 cs3 (k + 1)))]
  | _ => []
theorem fixF4 (cs1 cs2 cs3 : List Value) (t1 s1 t2 s2 t3 s3 n1 n2 k : Nat) (w s q xa xb R D x n a b F0 F1 G0 G1 e6 e7 S : Int) : (trsN OF4 statesF4).map (outW (tabW CF1_) Tryd.prog 7 CF1_ Fn.top_Finest OF4 277 (liveF4 cs1 cs2 cs3 t1 s1 t2 s2 t3 s3 n1 n2 k w s q xa xb R D x n a b F0 F1 G0 G1 e6 e7 S) (hpF4 cs1 cs2 cs3 t1 s1 t2 s2 t3 s3 n1 n2 k w s q xa xb R D x n a b F0 F1 G0 G1 e6 e7 S)) = (trsN OF4 statesF4).map fun t => (outW (tabW CF1_) Tryd.prog 7 CF1_ Fn.top_Finest OF4 277 (liveF4 cs1 cs2 cs3 t1 s1 t2 s2 t3 s3 n1 n2 k w s q xa xb R D x n a b F0 F1 G0 G1 e6 e7 S) (hpF4 cs1 cs2 cs3 t1 s1 t2 s2 t3 s3 n1 n2 k w s q xa xb R D x n a b F0 F1 G0 G1 e6 e7 S) t).fix := by kernel_rfl
theorem obsF4 (cs1 cs2 cs3 : List Value) (t1 s1 t2 s2 t3 s3 n1 n2 k : Nat) (w s q xa xb R D x n a b F0 F1 G0 G1 e6 e7 S : Int) : (trsN OF4 statesF4).map (obsW (tabW CF1_) Tryd.prog 7 CF1_ Fn.top_Finest OF4 277 (liveF4 cs1 cs2 cs3 t1 s1 t2 s2 t3 s3 n1 n2 k w s q xa xb R D x n a b F0 F1 G0 G1 e6 e7 S) (hpF4 cs1 cs2 cs3 t1 s1 t2 s2 t3 s3 n1 n2 k w s q xa xb R D x n a b F0 F1 G0 G1 e6 e7 S) rhoF4 ansF4) = (trsN OF4 statesF4).map (expN 277 (liveF4 cs1 cs2 cs3 t1 s1 t2 s2 t3 s3 n1 n2 k w s q xa xb R D x n a b F0 F1 G0 G1 e6 e7 S) (hpF4 cs1 cs2 cs3 t1 s1 t2 s2 t3 s3 n1 n2 k w s q xa xb R D x n a b F0 F1 G0 G1 e6 e7 S) rhoF4 (cndF4 cs1 cs2 cs3 t1 s1 t2 s2 t3 s3 n1 n2 k w s q xa xb R D x n a b F0 F1 G0 G1 e6 e7 S) lenF4) := by kernel_rfl
theorem goodF4 (cs1 cs2 cs3 : List Value) (t1 s1 t2 s2 t3 s3 n1 n2 k : Nat) (w s q xa xb R D x n a b F0 F1 G0 G1 e6 e7 S : Int) : ((trsN OF4 statesF4).all fun t => goodR 10 (lenF4 t.2) (liveF4 cs1 cs2 cs3 t1 s1 t2 s2 t3 s3 n1 n2 k w s q xa xb R D x n a b F0 F1 G0 G1 e6 e7 S (t.1 ||| 2 ^ t.2)) (hpF4 cs1 cs2 cs3 t1 s1 t2 s2 t3 s3 n1 n2 k w s q xa xb R D x n a b F0 F1 G0 G1 e6 e7 S (t.1 ||| 2 ^ t.2)) (rhoF4 t.2)) = true := by kernel_rfl
theorem closedF4 : closedN OF4 statesF4 16383 = true := by kernel_rfl
theorem flatF4 {cs1 cs2 cs3 : List Value} {t1 s1 t2 s2 t3 s3 n1 n2 k : Nat} {w s q xa xb R D x n a b F0 F1 G0 G1 e6 e7 S : Int} (f1 : cs1.all Ex.flat = true) (f2 : cs2.all Ex.flat = true) (f3 : cs3.all Ex.flat = true) : ∀ m o, (o, true) ∈ hpF4 cs1 cs2 cs3 t1 s1 t2 s2 t3 s3 n1 n2 k w s q xa xb R D x n a b F0 F1 G0 G1 e6 e7 S m → FlatO o := by
  intro m o ho
  unfold hpF4 baseF bitC at ho
  simp only [cond, List.cons_append, List.nil_append, List.mem_cons, List.not_mem_nil, or_false, Prod.mk.injEq, Bool.true_eq_false, and_false, false_or] at ho
  rcases ho with ⟨rfl, _⟩ | ⟨rfl, _⟩ | ⟨rfl, _⟩ | ⟨rfl, _⟩ | ho | ho | ho | ho
  · exact flatO_of flatP
  · exact flatO_of f1
  · exact flatO_of f2
  · exact flatO_of f3
  all_goals
    split at ho <;> first
      | (cases ho; done)
      | (injection ho with h4 h5; subst h4; exact flatO_of (by assumption))
theorem cndF4_ok {cs1 cs2 cs3 : List Value} {t1 s1 t2 s2 t3 s3 n1 n2 k : Nat} {w s q xa xb R D x n a b F0 F1 G0 G1 e6 e7 S : Int} (h1 : okCp (argA n1 n2 (k + 1)) cs1 cs2 cs3) (h2 : okP (AF n1 n2 k w s q R 1) (cpS cs1 cs2 cs3 (k + 1))) : ∀ j, cndF4 cs1 cs2 cs3 t1 s1 t2 s2 t3 s3 n1 n2 k w s q xa xb R D x n a b F0 F1 G0 G1 e6 e7 S j = (ansF4 j).take (cndF4 cs1 cs2 cs3 t1 s1 t2 s2 t3 s3 n1 n2 k w s q xa xb R D x n a b F0 F1 G0 G1 e6 e7 S j).length := by
  intro j
  unfold cndF4 ansF4
  split
  · rw [tru_iff.2 h1]; rfl
  · rw [tru_iff.2 h2]; rfl
  · rfl
theorem padF4 (cs1 cs2 cs3 : List Value) (t1 s1 t2 s2 t3 s3 n1 n2 k : Nat) (w s q xa xb R D x n a b F0 F1 G0 G1 e6 e7 S : Int) : heapL ((hpF4 cs1 cs2 cs3 t1 s1 t2 s2 t3 s3 n1 n2 k w s q xa xb R D x n a b F0 F1 G0 G1 e6 e7 S 0).map (·.1)) = heapL ((baseF4 cs1 cs2 cs3 t1 s1 t2 s2 t3 s3 n1 n2 k w s q xa xb R D x n a b F0 F1 G0 G1 e6 e7 S).map (·.1) ++ List.replicate 4 .dead) := by kernel_rfl
theorem ordF4 {cs1 cs2 cs3 : List Value} {t1 s1 t2 s2 t3 s3 n1 n2 k : Nat} {w s q xa xb R D x n a b F0 F1 G0 G1 e6 e7 S : Int} (f1 : cs1.all Ex.flat = true) (f2 : cs2.all Ex.flat = true) (f3 : cs3.all Ex.flat = true) (h1 : okCp (argA n1 n2 (k + 1)) cs1 cs2 cs3) (h2 : okP (AF n1 n2 k w s q R 1) (cpS cs1 cs2 cs3 (k + 1))) : Orders (selfA (qS (tabW CF1_))) Tryd.prog 7 OF4 10 (fun m => m ∈ statesF4) (fun m => absT (tmL 277 (liveF4 cs1 cs2 cs3 t1 s1 t2 s2 t3 s3 n1 n2 k w s q xa xb R D x n a b F0 F1 G0 G1 e6 e7 S m))) (fun m => heapL ((hpF4 cs1 cs2 cs3 t1 s1 t2 s2 t3 s3 n1 n2 k w s q xa xb R D x n a b F0 F1 G0 G1 e6 e7 S m).map (·.1))) 16383 :=
  orders_ofW statesF4 (fixF4 cs1 cs2 cs3 t1 s1 t2 s2 t3 s3 n1 n2 k w s q xa xb R D x n a b F0 F1 G0 G1 e6 e7 S) (obsF4 cs1 cs2 cs3 t1 s1 t2 s2 t3 s3 n1 n2 k w s q xa xb R D x n a b F0 F1 G0 G1 e6 e7 S) (cndF4_ok h1 h2) (goodF4 cs1 cs2 cs3 t1 s1 t2 s2 t3 s3 n1 n2 k w s q xa xb R D x n a b F0 F1 G0 G1 e6 e7 S) closedF4 (flatF4 f1 f2 f3)
theorem sndF4 {cs1 cs2 cs3 : List Value} {t1 s1 t2 s2 t3 s3 n1 n2 k : Nat} {w s q xa xb R D x n a b F0 F1 G0 G1 e6 e7 S : Int} (f1 : cs1.all Ex.flat = true) (f2 : cs2.all Ex.flat = true) (f3 : cs3.all Ex.flat = true) (h1 : okCp (argA n1 n2 (k + 1)) cs1 cs2 cs3) (h2 : okP (AF n1 n2 k w s q R 1) (cpS cs1 cs2 cs3 (k + 1))) (ro : Option Nat) {tm0 : Array Value} {H0 : CH} (hk : H0.length = 10) (hst : Restate 10 tm0 H0 (absT (tmL 277 (liveF4 cs1 cs2 cs3 t1 s1 t2 s2 t3 s3 n1 n2 k w s q xa xb R D x n a b F0 F1 G0 G1 e6 e7 S 0))) (heapL ((baseF4 cs1 cs2 cs3 t1 s1 t2 s2 t3 s3 n1 n2 k w s q xa xb R D x n a b F0 F1 G0 G1 e6 e7 S).map (·.1)))) :
    Sound Tryd.prog 7 (.code (.region 4 OF4 true) ro tm0 H0 []) (.ex .normal (absT (tmL 277 (liveF4 cs1 cs2 cs3 t1 s1 t2 s2 t3 s3 n1 n2 k w s q xa xb R D x n a b F0 F1 G0 G1 e6 e7 S 16383))) (heapL ((hpF4 cs1 cs2 cs3 t1 s1 t2 s2 t3 s3 n1 n2 k w s q xa xb R D x n a b F0 F1 G0 G1 e6 e7 S 16383).map (·.1))) []) := by
  have ho := ordF4 (cs1 := cs1) (cs2 := cs2) (cs3 := cs3) (t1 := t1) (s1 := s1) (t2 := t2) (s2 := s2) (t3 := t3) (s3 := s3) (n1 := n1) (n2 := n2) (k := k) (w := w) (s := s) (q := q) (xa := xa) (xb := xb) (R := R) (D := D) (x := x) (n := n) (a := a) (b := b) (F0 := F0) (F1 := F1) (G0 := G0) (G1 := G1) (e6 := e6) (e7 := e7) (S := S) f1 f2 f3 h1 h2
  have hr := padF4 cs1 cs2 cs3 t1 s1 t2 s2 t3 s3 n1 n2 k w s q xa xb R D x n a b F0 F1 G0 G1 e6 e7 S
  generalize liveF4 cs1 cs2 cs3 t1 s1 t2 s2 t3 s3 n1 n2 k w s q xa xb R D x n a b F0 F1 G0 G1 e6 e7 S = lv at *
  generalize hpF4 cs1 cs2 cs3 t1 s1 t2 s2 t3 s3 n1 n2 k w s q xa xb R D x n a b F0 F1 G0 G1 e6 e7 S = hp at *
  generalize baseF4 cs1 cs2 cs3 t1 s1 t2 s2 t3 s3 n1 n2 k w s q xa xb R D x n a b F0 F1 G0 G1 e6 e7 S = bs at *
  rw [← hk] at ho hst
  exact orders_sound2 (tmS := fun m => absT (tmL 277 (lv m))) (HS := fun m => heapL ((hp m).map (·.1))) (mF := 16383) sfF1 mix12 ho (by rw [hk]; decide) (by decide) hr hst ro
theorem fbF4 {cs1 cs2 cs3 : List Value} {t1 s1 t2 s2 t3 s3 n1 n2 k : Nat} {w s q xa xb R D x n a b F0 F1 G0 G1 e6 e7 S : Int} (f1 : cs1.all Ex.flat = true) (f2 : cs2.all Ex.flat = true) (f3 : cs3.all Ex.flat = true) : ∀ o, (o, true) ∈ baseF4 cs1 cs2 cs3 t1 s1 t2 s2 t3 s3 n1 n2 k w s q xa xb R D x n a b F0 F1 G0 G1 e6 e7 S → FlatO o := fun o ho =>
  flatF4 (cs1 := cs1) (cs2 := cs2) (cs3 := cs3) (t1 := t1) (s1 := s1) (t2 := t2) (s2 := s2) (t3 := t3) (s3 := s3) (n1 := n1) (n2 := n2) (k := k) (w := w) (s := s) (q := q) (xa := xa) (xb := xb) (R := R) (D := D) (x := x) (n := n) (a := a) (b := b) (F0 := F0) (F1 := F1) (G0 := G0) (G1 := G1) (e6 := e6) (e7 := e7) (S := S) f1 f2 f3 0 o (by unfold hpF4; exact List.mem_append_left _ (List.mem_append_left _ ho))
end Go.Proofs.YtbocpikgochioaaDoor.Ways
namespace Go.Proofs.YtbocpikgochioaaDoor.Ways
open Go Go.Ex
noncomputable def OF23 : Array Oper := regOps Tryd.f6 23
def statesF23 : List Nat := [0, 1, 3, 4, 5, 7, 8, 9, 11, 12, 13, 15, 24, 25, 27, 28, 29, 31, 60, 61, 63, 64, 65, 67, 68, 69, 71, 72, 73, 75, 76, 77, 79, 88, 89, 91, 92, 93, 95, 124, 125, 127, 255, 511, 1023, 1535, 2047, 2048, 2049, 2051, 2052, 2053, 2055, 2056, 2057, 2059, 2060, 2061, 2063, 2072, 2073, 2075, 2076, 2077, 2079, 2108, 2109, 2111, 2112, 2113, 2115, 2116, 2117, 2119, 2120, 2121, 2123, 2124, 2125, 2127, 2136, 2137, 2139, 2140, 2141, 2143, 2172, 2173, 2175, 2303, 2559, 3071, 3583, 4095, 7167, 8191, 16383]
def ansF23 (j : Nat) : List Bool :=
  match j with
  | 1 => [true]
  | 7 => [true]
  | _ => []
noncomputable def liveF23 (cs1 cs2 cs3 : List Value) (_t1 _s1 _t2 _s2 _t3 _s3 n1 n2 k : Nat) (w s q _xa _xb R D _x _n _a _b _F0 _F1 _G0 _G1 _e6 _e7 _S : Int) (m : Nat) : List (Nat × Value) := [(3, pt 7 0), (4, pt 8 0), (7, i R), (8, i D)] ++ bitV m 0 (172, blV n1 n1 n2 n2 (sl 6 0 (k + 1) (k + 1))) ++ bitV m 1 (173, cutV false 18 n1 n2 (k + 1)) ++ bitV m 2 (174, flV w s q) ++ bitV m 3 (175, pt 8 2) ++ bitV m 4 (176, i q) ++ bitV m 5 (177, flV w s q) ++ bitV m 6 (178, i D) ++ bitV m 7 (179, (tp [ag [i (mLoE cs1 cs2 cs3 n1 n2 k w s q D), i (mHiE cs1 cs2 cs3 n1 n2 k w s q D)], i (hNE cs1 cs2 cs3 n1 n2 k w s q D)])) ++ bitV m 8 (171, (tp [ag [i (mLoE cs1 cs2 cs3 n1 n2 k w s q D), i (mHiE cs1 cs2 cs3 n1 n2 k w s q D)], i (hNE cs1 cs2 cs3 n1 n2 k w s q D)])) ++ bitV m 9 (180, ag [i (mLoE cs1 cs2 cs3 n1 n2 k w s q D), i (mHiE cs1 cs2 cs3 n1 n2 k w s q D)]) ++ bitV m 10 (181, i (hNE cs1 cs2 cs3 n1 n2 k w s q D)) ++ bitV m 11 (20, pt 21 0) ++ bitV m 13 (21, i (hNE cs1 cs2 cs3 n1 n2 k w s q D))
noncomputable def baseF23 (cs1 cs2 cs3 : List Value) (t1 s1 t2 s2 t3 s3 n1 n2 k : Nat) (w s q xa xb _R _D x n a b _F0 _F1 _G0 _G1 _e6 _e7 _S : Int) : List (CO × Bool) := baseF n1 n2 k w s q xa xb cs1 t1 s1 cs2 t2 s2 cs3 t3 s3 ++ [(.dead, false), (.dead, false), (.dead, false), (.cells [i x, i n] 53 1 true, false), (.dead, false), (.dead, false), (.dead, false), (.cells [i a, i b] 53 1 true, false)]
noncomputable def hpF23 (cs1 cs2 cs3 : List Value) (t1 s1 t2 s2 t3 s3 n1 n2 k : Nat) (w s q xa xb _R D x n a b _F0 _F1 _G0 _G1 _e6 _e7 _S : Int) (m : Nat) : List (CO × Bool) := baseF n1 n2 k w s q xa xb cs1 t1 s1 cs2 t2 s2 cs3 t3 s3 ++ [(.dead, false), (.dead, false), (.dead, false), (.cells [i x, i n] 53 1 true, false), (.dead, false), (.dead, false), (.dead, false), (.cells [i a, i b] 53 1 true, false)] ++ [bitC m 1 (.cells cs1 3 1 false, true), bitC m 1 (.cells cs2 3 1 false, true), bitC m 1 (.cells cs3 103 4 false, true)] ++ [bitC m 11 (.cells (cond (Nat.testBit m 12) [i (mLoE cs1 cs2 cs3 n1 n2 k w s q D), i (mHiE cs1 cs2 cs3 n1 n2 k w s q D)] [i 0, i 0]) 61 1 true, false)]
def rhoF23 (j : Nat) : List Nat :=
  match j with
  | 1 => [0, 1, 2, 3, 4, 5, 6, 7, 8, 9, 10, 11, 12, 13, 14, 15, 16, 17, 22, 23, 24, 21]
  | 11 => [0, 1, 2, 3, 4, 5, 6, 7, 8, 9, 10, 11, 12, 13, 14, 15, 16, 17, 18, 19, 20, 22]
  | _ => List.range 22
def lenF23 (j : Nat) : Nat :=
  match j with
  | 1 => 25
  | 11 => 23
  | _ => 22
noncomputable def cndF23 (cs1 cs2 cs3 : List Value) (_t1 _s1 _t2 _s2 _t3 _s3 n1 n2 k : Nat) (w s q _xa _xb _R D _x _n _a _b _F0 _F1 _G0 _G1 _e6 _e7 _S : Int) (j : Nat) : List Bool :=
  match j with
  | 1 => [tru (okCp (argA n1 n2 (k + 1)) cs1 cs2 cs3)]
  | 7 => [tru (okFc (AN n1 n2 k w s q D) (cpS cs1 cs2 cs3 (k + 1)))]
  | _ => []
theorem fixF23 (cs1 cs2 cs3 : List Value) (t1 s1 t2 s2 t3 s3 n1 n2 k : Nat) (w s q xa xb R D x n a b F0 F1 G0 G1 e6 e7 S : Int) : (trsN OF23 statesF23).map (outW (tabW CF1_) Tryd.prog 7 CF1_ Fn.top_Finest OF23 277 (liveF23 cs1 cs2 cs3 t1 s1 t2 s2 t3 s3 n1 n2 k w s q xa xb R D x n a b F0 F1 G0 G1 e6 e7 S) (hpF23 cs1 cs2 cs3 t1 s1 t2 s2 t3 s3 n1 n2 k w s q xa xb R D x n a b F0 F1 G0 G1 e6 e7 S)) = (trsN OF23 statesF23).map fun t => (outW (tabW CF1_) Tryd.prog 7 CF1_ Fn.top_Finest OF23 277 (liveF23 cs1 cs2 cs3 t1 s1 t2 s2 t3 s3 n1 n2 k w s q xa xb R D x n a b F0 F1 G0 G1 e6 e7 S) (hpF23 cs1 cs2 cs3 t1 s1 t2 s2 t3 s3 n1 n2 k w s q xa xb R D x n a b F0 F1 G0 G1 e6 e7 S) t).fix := by kernel_rfl
theorem obsF23 (cs1 cs2 cs3 : List Value) (t1 s1 t2 s2 t3 s3 n1 n2 k : Nat) (w s q xa xb R D x n a b F0 F1 G0 G1 e6 e7 S : Int) : (trsN OF23 statesF23).map (obsW (tabW CF1_) Tryd.prog 7 CF1_ Fn.top_Finest OF23 277 (liveF23 cs1 cs2 cs3 t1 s1 t2 s2 t3 s3 n1 n2 k w s q xa xb R D x n a b F0 F1 G0 G1 e6 e7 S) (hpF23 cs1 cs2 cs3 t1 s1 t2 s2 t3 s3 n1 n2 k w s q xa xb R D x n a b F0 F1 G0 G1 e6 e7 S) rhoF23 ansF23) = (trsN OF23 statesF23).map (expN 277 (liveF23 cs1 cs2 cs3 t1 s1 t2 s2 t3 s3 n1 n2 k w s q xa xb R D x n a b F0 F1 G0 G1 e6 e7 S) (hpF23 cs1 cs2 cs3 t1 s1 t2 s2 t3 s3 n1 n2 k w s q xa xb R D x n a b F0 F1 G0 G1 e6 e7 S) rhoF23 (cndF23 cs1 cs2 cs3 t1 s1 t2 s2 t3 s3 n1 n2 k w s q xa xb R D x n a b F0 F1 G0 G1 e6 e7 S) lenF23) := by kernel_rfl
theorem goodF23 (cs1 cs2 cs3 : List Value) (t1 s1 t2 s2 t3 s3 n1 n2 k : Nat) (w s q xa xb R D x n a b F0 F1 G0 G1 e6 e7 S : Int) : ((trsN OF23 statesF23).all fun t => goodR 18 (lenF23 t.2) (liveF23 cs1 cs2 cs3 t1 s1 t2 s2 t3 s3 n1 n2 k w s q xa xb R D x n a b F0 F1 G0 G1 e6 e7 S (t.1 ||| 2 ^ t.2)) (hpF23 cs1 cs2 cs3 t1 s1 t2 s2 t3 s3 n1 n2 k w s q xa xb R D x n a b F0 F1 G0 G1 e6 e7 S (t.1 ||| 2 ^ t.2)) (rhoF23 t.2)) = true := by kernel_rfl
theorem closedF23 : closedN OF23 statesF23 16383 = true := by kernel_rfl
theorem flatF23 {cs1 cs2 cs3 : List Value} {t1 s1 t2 s2 t3 s3 n1 n2 k : Nat} {w s q xa xb R D x n a b F0 F1 G0 G1 e6 e7 S : Int} (f1 : cs1.all Ex.flat = true) (f2 : cs2.all Ex.flat = true) (f3 : cs3.all Ex.flat = true) : ∀ m o, (o, true) ∈ hpF23 cs1 cs2 cs3 t1 s1 t2 s2 t3 s3 n1 n2 k w s q xa xb R D x n a b F0 F1 G0 G1 e6 e7 S m → FlatO o := by
  intro m o ho
  unfold hpF23 baseF bitC at ho
  simp only [cond, List.cons_append, List.nil_append, List.mem_cons, List.not_mem_nil, or_false, Prod.mk.injEq, Bool.true_eq_false, and_false, false_or] at ho
  rcases ho with ⟨rfl, _⟩ | ⟨rfl, _⟩ | ⟨rfl, _⟩ | ⟨rfl, _⟩ | ho | ho | ho | ho
  · exact flatO_of flatP
  · exact flatO_of f1
  · exact flatO_of f2
  · exact flatO_of f3
  all_goals
    split at ho <;> first
      | (cases ho; done)
      | (injection ho with h4 h5; subst h4; exact flatO_of (by assumption))
theorem cndF23_ok {cs1 cs2 cs3 : List Value} {t1 s1 t2 s2 t3 s3 n1 n2 k : Nat} {w s q xa xb R D x n a b F0 F1 G0 G1 e6 e7 S : Int} (h1 : okCp (argA n1 n2 (k + 1)) cs1 cs2 cs3) (h2 : okFc (AN n1 n2 k w s q D) (cpS cs1 cs2 cs3 (k + 1))) : ∀ j, cndF23 cs1 cs2 cs3 t1 s1 t2 s2 t3 s3 n1 n2 k w s q xa xb R D x n a b F0 F1 G0 G1 e6 e7 S j = (ansF23 j).take (cndF23 cs1 cs2 cs3 t1 s1 t2 s2 t3 s3 n1 n2 k w s q xa xb R D x n a b F0 F1 G0 G1 e6 e7 S j).length := by
  intro j
  unfold cndF23 ansF23
  split
  · rw [tru_iff.2 h1]; rfl
  · rw [tru_iff.2 h2]; rfl
  · rfl
theorem padF23 (cs1 cs2 cs3 : List Value) (t1 s1 t2 s2 t3 s3 n1 n2 k : Nat) (w s q xa xb R D x n a b F0 F1 G0 G1 e6 e7 S : Int) : heapL ((hpF23 cs1 cs2 cs3 t1 s1 t2 s2 t3 s3 n1 n2 k w s q xa xb R D x n a b F0 F1 G0 G1 e6 e7 S 0).map (·.1)) = heapL ((baseF23 cs1 cs2 cs3 t1 s1 t2 s2 t3 s3 n1 n2 k w s q xa xb R D x n a b F0 F1 G0 G1 e6 e7 S).map (·.1) ++ List.replicate 4 .dead) := by kernel_rfl
theorem ordF23 {cs1 cs2 cs3 : List Value} {t1 s1 t2 s2 t3 s3 n1 n2 k : Nat} {w s q xa xb R D x n a b F0 F1 G0 G1 e6 e7 S : Int} (f1 : cs1.all Ex.flat = true) (f2 : cs2.all Ex.flat = true) (f3 : cs3.all Ex.flat = true) (h1 : okCp (argA n1 n2 (k + 1)) cs1 cs2 cs3) (h2 : okFc (AN n1 n2 k w s q D) (cpS cs1 cs2 cs3 (k + 1))) : Orders (selfA (qS (tabW CF1_))) Tryd.prog 7 OF23 18 (fun m => m ∈ statesF23) (fun m => absT (tmL 277 (liveF23 cs1 cs2 cs3 t1 s1 t2 s2 t3 s3 n1 n2 k w s q xa xb R D x n a b F0 F1 G0 G1 e6 e7 S m))) (fun m => heapL ((hpF23 cs1 cs2 cs3 t1 s1 t2 s2 t3 s3 n1 n2 k w s q xa xb R D x n a b F0 F1 G0 G1 e6 e7 S m).map (·.1))) 16383 :=
  orders_ofW statesF23 (fixF23 cs1 cs2 cs3 t1 s1 t2 s2 t3 s3 n1 n2 k w s q xa xb R D x n a b F0 F1 G0 G1 e6 e7 S) (obsF23 cs1 cs2 cs3 t1 s1 t2 s2 t3 s3 n1 n2 k w s q xa xb R D x n a b F0 F1 G0 G1 e6 e7 S) (cndF23_ok h1 h2) (goodF23 cs1 cs2 cs3 t1 s1 t2 s2 t3 s3 n1 n2 k w s q xa xb R D x n a b F0 F1 G0 G1 e6 e7 S) closedF23 (flatF23 f1 f2 f3)
theorem sndF23 {cs1 cs2 cs3 : List Value} {t1 s1 t2 s2 t3 s3 n1 n2 k : Nat} {w s q xa xb R D x n a b F0 F1 G0 G1 e6 e7 S : Int} (f1 : cs1.all Ex.flat = true) (f2 : cs2.all Ex.flat = true) (f3 : cs3.all Ex.flat = true) (h1 : okCp (argA n1 n2 (k + 1)) cs1 cs2 cs3) (h2 : okFc (AN n1 n2 k w s q D) (cpS cs1 cs2 cs3 (k + 1))) (ro : Option Nat) {tm0 : Array Value} {H0 : CH} (hk : H0.length = 18) (hst : Restate 18 tm0 H0 (absT (tmL 277 (liveF23 cs1 cs2 cs3 t1 s1 t2 s2 t3 s3 n1 n2 k w s q xa xb R D x n a b F0 F1 G0 G1 e6 e7 S 0))) (heapL ((baseF23 cs1 cs2 cs3 t1 s1 t2 s2 t3 s3 n1 n2 k w s q xa xb R D x n a b F0 F1 G0 G1 e6 e7 S).map (·.1)))) :
    Sound Tryd.prog 7 (.code (.region 23 OF23 true) ro tm0 H0 []) (.ex .normal (absT (tmL 277 (liveF23 cs1 cs2 cs3 t1 s1 t2 s2 t3 s3 n1 n2 k w s q xa xb R D x n a b F0 F1 G0 G1 e6 e7 S 16383))) (heapL ((hpF23 cs1 cs2 cs3 t1 s1 t2 s2 t3 s3 n1 n2 k w s q xa xb R D x n a b F0 F1 G0 G1 e6 e7 S 16383).map (·.1))) []) := by
  have ho := ordF23 (cs1 := cs1) (cs2 := cs2) (cs3 := cs3) (t1 := t1) (s1 := s1) (t2 := t2) (s2 := s2) (t3 := t3) (s3 := s3) (n1 := n1) (n2 := n2) (k := k) (w := w) (s := s) (q := q) (xa := xa) (xb := xb) (R := R) (D := D) (x := x) (n := n) (a := a) (b := b) (F0 := F0) (F1 := F1) (G0 := G0) (G1 := G1) (e6 := e6) (e7 := e7) (S := S) f1 f2 f3 h1 h2
  have hr := padF23 cs1 cs2 cs3 t1 s1 t2 s2 t3 s3 n1 n2 k w s q xa xb R D x n a b F0 F1 G0 G1 e6 e7 S
  generalize liveF23 cs1 cs2 cs3 t1 s1 t2 s2 t3 s3 n1 n2 k w s q xa xb R D x n a b F0 F1 G0 G1 e6 e7 S = lv at *
  generalize hpF23 cs1 cs2 cs3 t1 s1 t2 s2 t3 s3 n1 n2 k w s q xa xb R D x n a b F0 F1 G0 G1 e6 e7 S = hp at *
  generalize baseF23 cs1 cs2 cs3 t1 s1 t2 s2 t3 s3 n1 n2 k w s q xa xb R D x n a b F0 F1 G0 G1 e6 e7 S = bs at *
  rw [← hk] at ho hst
  exact orders_sound2 (tmS := fun m => absT (tmL 277 (lv m))) (HS := fun m => heapL ((hp m).map (·.1))) (mF := 16383) sfF1 mix12 ho (by rw [hk]; decide) (by decide) hr hst ro
theorem fbF23 {cs1 cs2 cs3 : List Value} {t1 s1 t2 s2 t3 s3 n1 n2 k : Nat} {w s q xa xb R D x n a b F0 F1 G0 G1 e6 e7 S : Int} (f1 : cs1.all Ex.flat = true) (f2 : cs2.all Ex.flat = true) (f3 : cs3.all Ex.flat = true) : ∀ o, (o, true) ∈ baseF23 cs1 cs2 cs3 t1 s1 t2 s2 t3 s3 n1 n2 k w s q xa xb R D x n a b F0 F1 G0 G1 e6 e7 S → FlatO o := fun o ho =>
  flatF23 (cs1 := cs1) (cs2 := cs2) (cs3 := cs3) (t1 := t1) (s1 := s1) (t2 := t2) (s2 := s2) (t3 := t3) (s3 := s3) (n1 := n1) (n2 := n2) (k := k) (w := w) (s := s) (q := q) (xa := xa) (xb := xb) (R := R) (D := D) (x := x) (n := n) (a := a) (b := b) (F0 := F0) (F1 := F1) (G0 := G0) (G1 := G1) (e6 := e6) (e7 := e7) (S := S) f1 f2 f3 0 o (by unfold hpF23; exact List.mem_append_left _ (List.mem_append_left _ ho))
end Go.Proofs.YtbocpikgochioaaDoor.Ways
namespace Go.Proofs.YtbocpikgochioaaDoor.Ways
open Go Go.Ex
noncomputable def OF24 : Array Oper := regOps Tryd.f6 24
def statesF24 : List Nat := [0, 1, 3, 4, 5, 7, 8, 9, 11, 12, 13, 15, 24, 25, 27, 28, 29, 31, 60, 61, 63, 64, 65, 67, 68, 69, 71, 72, 73, 75, 76, 77, 79, 88, 89, 91, 92, 93, 95, 124, 125, 127, 255, 511, 1023, 1535, 2047, 2048, 2049, 2051, 2052, 2053, 2055, 2056, 2057, 2059, 2060, 2061, 2063, 2072, 2073, 2075, 2076, 2077, 2079, 2108, 2109, 2111, 2112, 2113, 2115, 2116, 2117, 2119, 2120, 2121, 2123, 2124, 2125, 2127, 2136, 2137, 2139, 2140, 2141, 2143, 2172, 2173, 2175, 2303, 2559, 3071, 3583, 4095, 7167, 8191, 16383]
def ansF24 (j : Nat) : List Bool :=
  match j with
  | 1 => [true]
  | 7 => [true]
  | _ => []
noncomputable def liveF24 (cs1 cs2 cs3 : List Value) (_t1 _s1 _t2 _s2 _t3 _s3 n1 n2 k : Nat) (w s q _xa _xb R D _x _n _a _b _F0 _F1 _G0 _G1 e6 _e7 _S : Int) (m : Nat) : List (Nat × Value) := [(3, pt 7 0), (4, pt 8 0), (7, i R), (8, i D), (20, pt 21 0), (21, i e6)] ++ bitV m 0 (183, blV n1 n1 n2 n2 (sl 6 0 (k + 1) (k + 1))) ++ bitV m 1 (184, cutV false 22 n1 n2 (k + 1)) ++ bitV m 2 (185, flV w s q) ++ bitV m 3 (186, pt 8 2) ++ bitV m 4 (187, i q) ++ bitV m 5 (188, flV w s q) ++ bitV m 6 (189, i D) ++ bitV m 7 (190, (tp [ag [i (tLoE cs1 cs2 cs3 n1 n2 k w s q D), i (tHiE cs1 cs2 cs3 n1 n2 k w s q D)], i (hNE cs1 cs2 cs3 n1 n2 k w s q D)])) ++ bitV m 8 (182, (tp [ag [i (tLoE cs1 cs2 cs3 n1 n2 k w s q D), i (tHiE cs1 cs2 cs3 n1 n2 k w s q D)], i (hNE cs1 cs2 cs3 n1 n2 k w s q D)])) ++ bitV m 9 (191, ag [i (tLoE cs1 cs2 cs3 n1 n2 k w s q D), i (tHiE cs1 cs2 cs3 n1 n2 k w s q D)]) ++ bitV m 10 (192, i (hNE cs1 cs2 cs3 n1 n2 k w s q D)) ++ bitV m 11 (22, pt 25 0) ++ bitV m 13 (23, i (hNE cs1 cs2 cs3 n1 n2 k w s q D))
noncomputable def baseF24 (cs1 cs2 cs3 : List Value) (t1 s1 t2 s2 t3 s3 n1 n2 k : Nat) (w s q xa xb _R _D x n a b F0 F1 _G0 _G1 _e6 _e7 _S : Int) : List (CO × Bool) := baseF n1 n2 k w s q xa xb cs1 t1 s1 cs2 t2 s2 cs3 t3 s3 ++ [(.dead, false), (.dead, false), (.dead, false), (.cells [i x, i n] 53 1 true, false), (.dead, false), (.dead, false), (.dead, false), (.cells [i a, i b] 53 1 true, false)] ++ [(.dead, false), (.dead, false), (.dead, false), (.cells [i F0, i F1] 61 1 true, false)]
noncomputable def hpF24 (cs1 cs2 cs3 : List Value) (t1 s1 t2 s2 t3 s3 n1 n2 k : Nat) (w s q xa xb _R D x n a b F0 F1 _G0 _G1 _e6 _e7 _S : Int) (m : Nat) : List (CO × Bool) := baseF n1 n2 k w s q xa xb cs1 t1 s1 cs2 t2 s2 cs3 t3 s3 ++ [(.dead, false), (.dead, false), (.dead, false), (.cells [i x, i n] 53 1 true, false), (.dead, false), (.dead, false), (.dead, false), (.cells [i a, i b] 53 1 true, false)] ++ [(.dead, false), (.dead, false), (.dead, false), (.cells [i F0, i F1] 61 1 true, false)] ++ [bitC m 1 (.cells cs1 3 1 false, true), bitC m 1 (.cells cs2 3 1 false, true), bitC m 1 (.cells cs3 103 4 false, true)] ++ [bitC m 11 (.cells (cond (Nat.testBit m 12) [i (tLoE cs1 cs2 cs3 n1 n2 k w s q D), i (tHiE cs1 cs2 cs3 n1 n2 k w s q D)] [i 0, i 0]) 61 1 true, false)]
def rhoF24 (j : Nat) : List Nat :=
  match j with
  | 1 => [0, 1, 2, 3, 4, 5, 6, 7, 8, 9, 10, 11, 12, 13, 14, 15, 16, 17, 18, 19, 20, 21, 26, 27, 28, 25]
  | 11 => [0, 1, 2, 3, 4, 5, 6, 7, 8, 9, 10, 11, 12, 13, 14, 15, 16, 17, 18, 19, 20, 21, 22, 23, 24, 26]
  | _ => List.range 26
def lenF24 (j : Nat) : Nat :=
  match j with
  | 1 => 29
  | 11 => 27
  | _ => 26
noncomputable def cndF24 (cs1 cs2 cs3 : List Value) (_t1 _s1 _t2 _s2 _t3 _s3 n1 n2 k : Nat) (w s q _xa _xb _R D _x _n _a _b _F0 _F1 _G0 _G1 _e6 _e7 _S : Int) (j : Nat) : List Bool :=
  match j with
  | 1 => [tru (okCp (argA n1 n2 (k + 1)) cs1 cs2 cs3)]
  | 7 => [tru (okFc (AN n1 n2 k w s q D) (cpS cs1 cs2 cs3 (k + 1)))]
  | _ => []
theorem fixF24 (cs1 cs2 cs3 : List Value) (t1 s1 t2 s2 t3 s3 n1 n2 k : Nat) (w s q xa xb R D x n a b F0 F1 G0 G1 e6 e7 S : Int) : (trsN OF24 statesF24).map (outW (tabW CF1_) Tryd.prog 7 CF1_ Fn.top_Finest OF24 277 (liveF24 cs1 cs2 cs3 t1 s1 t2 s2 t3 s3 n1 n2 k w s q xa xb R D x n a b F0 F1 G0 G1 e6 e7 S) (hpF24 cs1 cs2 cs3 t1 s1 t2 s2 t3 s3 n1 n2 k w s q xa xb R D x n a b F0 F1 G0 G1 e6 e7 S)) = (trsN OF24 statesF24).map fun t => (outW (tabW CF1_) Tryd.prog 7 CF1_ Fn.top_Finest OF24 277 (liveF24 cs1 cs2 cs3 t1 s1 t2 s2 t3 s3 n1 n2 k w s q xa xb R D x n a b F0 F1 G0 G1 e6 e7 S) (hpF24 cs1 cs2 cs3 t1 s1 t2 s2 t3 s3 n1 n2 k w s q xa xb R D x n a b F0 F1 G0 G1 e6 e7 S) t).fix := by kernel_rfl
theorem obsF24 (cs1 cs2 cs3 : List Value) (t1 s1 t2 s2 t3 s3 n1 n2 k : Nat) (w s q xa xb R D x n a b F0 F1 G0 G1 e6 e7 S : Int) : (trsN OF24 statesF24).map (obsW (tabW CF1_) Tryd.prog 7 CF1_ Fn.top_Finest OF24 277 (liveF24 cs1 cs2 cs3 t1 s1 t2 s2 t3 s3 n1 n2 k w s q xa xb R D x n a b F0 F1 G0 G1 e6 e7 S) (hpF24 cs1 cs2 cs3 t1 s1 t2 s2 t3 s3 n1 n2 k w s q xa xb R D x n a b F0 F1 G0 G1 e6 e7 S) rhoF24 ansF24) = (trsN OF24 statesF24).map (expN 277 (liveF24 cs1 cs2 cs3 t1 s1 t2 s2 t3 s3 n1 n2 k w s q xa xb R D x n a b F0 F1 G0 G1 e6 e7 S) (hpF24 cs1 cs2 cs3 t1 s1 t2 s2 t3 s3 n1 n2 k w s q xa xb R D x n a b F0 F1 G0 G1 e6 e7 S) rhoF24 (cndF24 cs1 cs2 cs3 t1 s1 t2 s2 t3 s3 n1 n2 k w s q xa xb R D x n a b F0 F1 G0 G1 e6 e7 S) lenF24) := by kernel_rfl
theorem goodF24 (cs1 cs2 cs3 : List Value) (t1 s1 t2 s2 t3 s3 n1 n2 k : Nat) (w s q xa xb R D x n a b F0 F1 G0 G1 e6 e7 S : Int) : ((trsN OF24 statesF24).all fun t => goodR 22 (lenF24 t.2) (liveF24 cs1 cs2 cs3 t1 s1 t2 s2 t3 s3 n1 n2 k w s q xa xb R D x n a b F0 F1 G0 G1 e6 e7 S (t.1 ||| 2 ^ t.2)) (hpF24 cs1 cs2 cs3 t1 s1 t2 s2 t3 s3 n1 n2 k w s q xa xb R D x n a b F0 F1 G0 G1 e6 e7 S (t.1 ||| 2 ^ t.2)) (rhoF24 t.2)) = true := by kernel_rfl
theorem closedF24 : closedN OF24 statesF24 16383 = true := by kernel_rfl
theorem flatF24 {cs1 cs2 cs3 : List Value} {t1 s1 t2 s2 t3 s3 n1 n2 k : Nat} {w s q xa xb R D x n a b F0 F1 G0 G1 e6 e7 S : Int} (f1 : cs1.all Ex.flat = true) (f2 : cs2.all Ex.flat = true) (f3 : cs3.all Ex.flat = true) : ∀ m o, (o, true) ∈ hpF24 cs1 cs2 cs3 t1 s1 t2 s2 t3 s3 n1 n2 k w s q xa xb R D x n a b F0 F1 G0 G1 e6 e7 S m → FlatO o := by
  intro m o ho
  unfold hpF24 baseF bitC at ho
  simp only [cond, List.cons_append, List.nil_append, List.mem_cons, List.not_mem_nil, or_false, Prod.mk.injEq, Bool.true_eq_false, and_false, false_or] at ho
  rcases ho with ⟨rfl, _⟩ | ⟨rfl, _⟩ | ⟨rfl, _⟩ | ⟨rfl, _⟩ | ho | ho | ho | ho
  · exact flatO_of flatP
  · exact flatO_of f1
  · exact flatO_of f2
  · exact flatO_of f3
  all_goals
    split at ho <;> first
      | (cases ho; done)
      | (injection ho with h4 h5; subst h4; exact flatO_of (by assumption))
theorem cndF24_ok {cs1 cs2 cs3 : List Value} {t1 s1 t2 s2 t3 s3 n1 n2 k : Nat} {w s q xa xb R D x n a b F0 F1 G0 G1 e6 e7 S : Int} (h1 : okCp (argA n1 n2 (k + 1)) cs1 cs2 cs3) (h2 : okFc (AN n1 n2 k w s q D) (cpS cs1 cs2 cs3 (k + 1))) : ∀ j, cndF24 cs1 cs2 cs3 t1 s1 t2 s2 t3 s3 n1 n2 k w s q xa xb R D x n a b F0 F1 G0 G1 e6 e7 S j = (ansF24 j).take (cndF24 cs1 cs2 cs3 t1 s1 t2 s2 t3 s3 n1 n2 k w s q xa xb R D x n a b F0 F1 G0 G1 e6 e7 S j).length := by
  intro j
  unfold cndF24 ansF24
  split
  · rw [tru_iff.2 h1]; rfl
  · rw [tru_iff.2 h2]; rfl
  · rfl
theorem padF24 (cs1 cs2 cs3 : List Value) (t1 s1 t2 s2 t3 s3 n1 n2 k : Nat) (w s q xa xb R D x n a b F0 F1 G0 G1 e6 e7 S : Int) : heapL ((hpF24 cs1 cs2 cs3 t1 s1 t2 s2 t3 s3 n1 n2 k w s q xa xb R D x n a b F0 F1 G0 G1 e6 e7 S 0).map (·.1)) = heapL ((baseF24 cs1 cs2 cs3 t1 s1 t2 s2 t3 s3 n1 n2 k w s q xa xb R D x n a b F0 F1 G0 G1 e6 e7 S).map (·.1) ++ List.replicate 4 .dead) := by kernel_rfl
theorem ordF24 {cs1 cs2 cs3 : List Value} {t1 s1 t2 s2 t3 s3 n1 n2 k : Nat} {w s q xa xb R D x n a b F0 F1 G0 G1 e6 e7 S : Int} (f1 : cs1.all Ex.flat = true) (f2 : cs2.all Ex.flat = true) (f3 : cs3.all Ex.flat = true) (h1 : okCp (argA n1 n2 (k + 1)) cs1 cs2 cs3) (h2 : okFc (AN n1 n2 k w s q D) (cpS cs1 cs2 cs3 (k + 1))) : Orders (selfA (qS (tabW CF1_))) Tryd.prog 7 OF24 22 (fun m => m ∈ statesF24) (fun m => absT (tmL 277 (liveF24 cs1 cs2 cs3 t1 s1 t2 s2 t3 s3 n1 n2 k w s q xa xb R D x n a b F0 F1 G0 G1 e6 e7 S m))) (fun m => heapL ((hpF24 cs1 cs2 cs3 t1 s1 t2 s2 t3 s3 n1 n2 k w s q xa xb R D x n a b F0 F1 G0 G1 e6 e7 S m).map (·.1))) 16383 :=
  orders_ofW statesF24 (fixF24 cs1 cs2 cs3 t1 s1 t2 s2 t3 s3 n1 n2 k w s q xa xb R D x n a b F0 F1 G0 G1 e6 e7 S) (obsF24 cs1 cs2 cs3 t1 s1 t2 s2 t3 s3 n1 n2 k w s q xa xb R D x n a b F0 F1 G0 G1 e6 e7 S) (cndF24_ok h1 h2) (goodF24 cs1 cs2 cs3 t1 s1 t2 s2 t3 s3 n1 n2 k w s q xa xb R D x n a b F0 F1 G0 G1 e6 e7 S) closedF24 (flatF24 f1 f2 f3)
theorem sndF24 {cs1 cs2 cs3 : List Value} {t1 s1 t2 s2 t3 s3 n1 n2 k : Nat} {w s q xa xb R D x n a b F0 F1 G0 G1 e6 e7 S : Int} (f1 : cs1.all Ex.flat = true) (f2 : cs2.all Ex.flat = true) (f3 : cs3.all Ex.flat = true) (h1 : okCp (argA n1 n2 (k + 1)) cs1 cs2 cs3) (h2 : okFc (AN n1 n2 k w s q D) (cpS cs1 cs2 cs3 (k + 1))) (ro : Option Nat) {tm0 : Array Value} {H0 : CH} (hk : H0.length = 22) (hst : Restate 22 tm0 H0 (absT (tmL 277 (liveF24 cs1 cs2 cs3 t1 s1 t2 s2 t3 s3 n1 n2 k w s q xa xb R D x n a b F0 F1 G0 G1 e6 e7 S 0))) (heapL ((baseF24 cs1 cs2 cs3 t1 s1 t2 s2 t3 s3 n1 n2 k w s q xa xb R D x n a b F0 F1 G0 G1 e6 e7 S).map (·.1)))) :
    Sound Tryd.prog 7 (.code (.region 24 OF24 true) ro tm0 H0 []) (.ex .normal (absT (tmL 277 (liveF24 cs1 cs2 cs3 t1 s1 t2 s2 t3 s3 n1 n2 k w s q xa xb R D x n a b F0 F1 G0 G1 e6 e7 S 16383))) (heapL ((hpF24 cs1 cs2 cs3 t1 s1 t2 s2 t3 s3 n1 n2 k w s q xa xb R D x n a b F0 F1 G0 G1 e6 e7 S 16383).map (·.1))) []) := by
  have ho := ordF24 (cs1 := cs1) (cs2 := cs2) (cs3 := cs3) (t1 := t1) (s1 := s1) (t2 := t2) (s2 := s2) (t3 := t3) (s3 := s3) (n1 := n1) (n2 := n2) (k := k) (w := w) (s := s) (q := q) (xa := xa) (xb := xb) (R := R) (D := D) (x := x) (n := n) (a := a) (b := b) (F0 := F0) (F1 := F1) (G0 := G0) (G1 := G1) (e6 := e6) (e7 := e7) (S := S) f1 f2 f3 h1 h2
  have hr := padF24 cs1 cs2 cs3 t1 s1 t2 s2 t3 s3 n1 n2 k w s q xa xb R D x n a b F0 F1 G0 G1 e6 e7 S
  generalize liveF24 cs1 cs2 cs3 t1 s1 t2 s2 t3 s3 n1 n2 k w s q xa xb R D x n a b F0 F1 G0 G1 e6 e7 S = lv at *
  generalize hpF24 cs1 cs2 cs3 t1 s1 t2 s2 t3 s3 n1 n2 k w s q xa xb R D x n a b F0 F1 G0 G1 e6 e7 S = hp at *
  generalize baseF24 cs1 cs2 cs3 t1 s1 t2 s2 t3 s3 n1 n2 k w s q xa xb R D x n a b F0 F1 G0 G1 e6 e7 S = bs at *
  rw [← hk] at ho hst
  exact orders_sound2 (tmS := fun m => absT (tmL 277 (lv m))) (HS := fun m => heapL ((hp m).map (·.1))) (mF := 16383) sfF1 mix12 ho (by rw [hk]; decide) (by decide) hr hst ro
theorem fbF24 {cs1 cs2 cs3 : List Value} {t1 s1 t2 s2 t3 s3 n1 n2 k : Nat} {w s q xa xb R D x n a b F0 F1 G0 G1 e6 e7 S : Int} (f1 : cs1.all Ex.flat = true) (f2 : cs2.all Ex.flat = true) (f3 : cs3.all Ex.flat = true) : ∀ o, (o, true) ∈ baseF24 cs1 cs2 cs3 t1 s1 t2 s2 t3 s3 n1 n2 k w s q xa xb R D x n a b F0 F1 G0 G1 e6 e7 S → FlatO o := fun o ho =>
  flatF24 (cs1 := cs1) (cs2 := cs2) (cs3 := cs3) (t1 := t1) (s1 := s1) (t2 := t2) (s2 := s2) (t3 := t3) (s3 := s3) (n1 := n1) (n2 := n2) (k := k) (w := w) (s := s) (q := q) (xa := xa) (xb := xb) (R := R) (D := D) (x := x) (n := n) (a := a) (b := b) (F0 := F0) (F1 := F1) (G0 := G0) (G1 := G1) (e6 := e6) (e7 := e7) (S := S) f1 f2 f3 0 o (by unfold hpF24; exact List.mem_append_left _ (List.mem_append_left _ ho))
end Go.Proofs.YtbocpikgochioaaDoor.Ways
namespace Go.Proofs.YtbocpikgochioaaDoor.Ways
open Go Go.Ex
noncomputable def OF5 : Array Oper := regOps Tryd.f6 5
def statesF5p0 : List Nat := [0, 1, 3, 4, 5, 7, 8, 9, 11, 12, 13, 15, 24, 25, 27, 28, 29, 31, 60, 61, 63, 64, 65, 67, 68, 69, 71, 72, 73, 75, 76, 77, 79, 88, 89, 91, 92, 93, 95, 124, 125, 127, 128, 129, 131, 132, 133, 135, 136, 137, 139, 140, 141, 143, 152, 153, 155, 156, 157, 159, 188]
def statesF5p1 : List Nat := [189, 191, 192, 193, 195, 196, 197, 199, 200, 201, 203, 204, 205, 207, 216, 217, 219, 220, 221, 223, 252, 253, 255, 511, 1023, 2047, 3071, 4095, 4096, 4097, 4099, 4100, 4101, 4103, 4104, 4105, 4107, 4108, 4109, 4111, 4120, 4121, 4123, 4124, 4125, 4127, 4156, 4157, 4159, 4160, 4161, 4163, 4164, 4165, 4167, 4168, 4169, 4171, 4172, 4173, 4175]
def statesF5p2 : List Nat := [4184, 4185, 4187, 4188, 4189, 4191, 4220, 4221, 4223, 4224, 4225, 4227, 4228, 4229, 4231, 4232, 4233, 4235, 4236, 4237, 4239, 4248, 4249, 4251, 4252, 4253, 4255, 4284, 4285, 4287, 4288, 4289, 4291, 4292, 4293, 4295, 4296, 4297, 4299, 4300, 4301, 4303, 4312, 4313, 4315, 4316, 4317, 4319, 4348, 4349, 4351, 4607, 5119, 6143, 7167, 8191, 14335, 16383, 32767]
def statesF5 : List Nat := statesF5p0 ++ statesF5p1 ++ statesF5p2
def ansF5 (j : Nat) : List Bool :=
  match j with
  | 1 => [true]
  | 8 => [true]
  | _ => []
noncomputable def liveF5 (cs1 cs2 cs3 : List Value) (_t1 _s1 _t2 _s2 _t3 _s3 n1 n2 k : Nat) (w s q _xa _xb R D _x _n _a _b _F0 _F1 _G0 _G1 e6 _e7 _S : Int) (m : Nat) : List (Nat × Value) := [(3, pt 7 0), (4, pt 8 0), (7, i R), (8, i D), (9, pt 13 0), (10, i e6)] ++ bitV m 0 (63, blV n1 n1 n2 n2 (sl 6 0 (k + 1) (k + 1))) ++ bitV m 1 (64, cutV false 14 n1 n2 (k + 1)) ++ bitV m 2 (65, flV w s q) ++ bitV m 3 (66, pt 8 2) ++ bitV m 4 (67, i q) ++ bitV m 5 (68, flV w s q) ++ bitV m 6 (69, i R) ++ bitV m 7 (70, i D) ++ bitV m 8 (71, (tp [ag [i (fX (AF n1 n2 k w s q R D) (cpS cs1 cs2 cs3 (k + 1))), i (fY (AF n1 n2 k w s q R D) (cpS cs1 cs2 cs3 (k + 1)))], i (fZ (AF n1 n2 k w s q R D) (cpS cs1 cs2 cs3 (k + 1)))])) ++ bitV m 9 (62, (tp [ag [i (fX (AF n1 n2 k w s q R D) (cpS cs1 cs2 cs3 (k + 1))), i (fY (AF n1 n2 k w s q R D) (cpS cs1 cs2 cs3 (k + 1)))], i (fZ (AF n1 n2 k w s q R D) (cpS cs1 cs2 cs3 (k + 1)))])) ++ bitV m 10 (72, ag [i (fX (AF n1 n2 k w s q R D) (cpS cs1 cs2 cs3 (k + 1))), i (fY (AF n1 n2 k w s q R D) (cpS cs1 cs2 cs3 (k + 1)))]) ++ bitV m 11 (73, i (fZ (AF n1 n2 k w s q R D) (cpS cs1 cs2 cs3 (k + 1)))) ++ bitV m 12 (11, pt 17 0) ++ bitV m 14 (12, i (fZ (AF n1 n2 k w s q R D) (cpS cs1 cs2 cs3 (k + 1))))
noncomputable def baseF5 (cs1 cs2 cs3 : List Value) (t1 s1 t2 s2 t3 s3 n1 n2 k : Nat) (w s q xa xb _R _D x n _a _b _F0 _F1 _G0 _G1 _e6 _e7 _S : Int) : List (CO × Bool) := baseF n1 n2 k w s q xa xb cs1 t1 s1 cs2 t2 s2 cs3 t3 s3 ++ [(.dead, false), (.dead, false), (.dead, false), (.cells [i x, i n] 53 1 true, false)]
noncomputable def hpF5 (cs1 cs2 cs3 : List Value) (t1 s1 t2 s2 t3 s3 n1 n2 k : Nat) (w s q xa xb R D x n _a _b _F0 _F1 _G0 _G1 _e6 _e7 _S : Int) (m : Nat) : List (CO × Bool) := baseF n1 n2 k w s q xa xb cs1 t1 s1 cs2 t2 s2 cs3 t3 s3 ++ [(.dead, false), (.dead, false), (.dead, false), (.cells [i x, i n] 53 1 true, false)] ++ [bitC m 1 (.cells cs1 3 1 false, true), bitC m 1 (.cells cs2 3 1 false, true), bitC m 1 (.cells cs3 103 4 false, true)] ++ [bitC m 12 (.cells (cond (Nat.testBit m 13) [i (fX (AF n1 n2 k w s q R D) (cpS cs1 cs2 cs3 (k + 1))), i (fY (AF n1 n2 k w s q R D) (cpS cs1 cs2 cs3 (k + 1)))] [i 0, i 0]) 53 1 true, false)]
def rhoF5 (j : Nat) : List Nat :=
  match j with
  | 1 => [0, 1, 2, 3, 4, 5, 6, 7, 8, 9, 10, 11, 12, 13, 18, 19, 20, 17]
  | 12 => [0, 1, 2, 3, 4, 5, 6, 7, 8, 9, 10, 11, 12, 13, 14, 15, 16, 18]
  | _ => List.range 18
def lenF5 (j : Nat) : Nat :=
  match j with
  | 1 => 21
  | 12 => 19
  | _ => 18
noncomputable def cndF5 (cs1 cs2 cs3 : List Value) (_t1 _s1 _t2 _s2 _t3 _s3 n1 n2 k : Nat) (w s q _xa _xb R D _x _n _a _b _F0 _F1 _G0 _G1 _e6 _e7 _S : Int) (j : Nat) : List Bool :=
  match j with
  | 1 => [tru (okCp (argA n1 n2 (k + 1)) cs1 cs2 cs3)]
  | 8 => [tru (okP (AF n1 n2 k w s q R D) (cpS cs1 cs2 cs3 (k + 1)))]
  | _ => []
theorem fixF5p0 (cs1 cs2 cs3 : List Value) (t1 s1 t2 s2 t3 s3 n1 n2 k : Nat) (w s q xa xb R D x n a b F0 F1 G0 G1 e6 e7 S : Int) : (trsN OF5 statesF5p0).map (outW (tabW CF1_) Tryd.prog 7 CF1_ Fn.top_Finest OF5 277 (liveF5 cs1 cs2 cs3 t1 s1 t2 s2 t3 s3 n1 n2 k w s q xa xb R D x n a b F0 F1 G0 G1 e6 e7 S) (hpF5 cs1 cs2 cs3 t1 s1 t2 s2 t3 s3 n1 n2 k w s q xa xb R D x n a b F0 F1 G0 G1 e6 e7 S)) = (trsN OF5 statesF5p0).map (fun t => (outW (tabW CF1_) Tryd.prog 7 CF1_ Fn.top_Finest OF5 277 (liveF5 cs1 cs2 cs3 t1 s1 t2 s2 t3 s3 n1 n2 k w s q xa xb R D x n a b F0 F1 G0 G1 e6 e7 S) (hpF5 cs1 cs2 cs3 t1 s1 t2 s2 t3 s3 n1 n2 k w s q xa xb R D x n a b F0 F1 G0 G1 e6 e7 S) t).fix) := by kernel_rfl
theorem fixF5p1 (cs1 cs2 cs3 : List Value) (t1 s1 t2 s2 t3 s3 n1 n2 k : Nat) (w s q xa xb R D x n a b F0 F1 G0 G1 e6 e7 S : Int) : (trsN OF5 statesF5p1).map (outW (tabW CF1_) Tryd.prog 7 CF1_ Fn.top_Finest OF5 277 (liveF5 cs1 cs2 cs3 t1 s1 t2 s2 t3 s3 n1 n2 k w s q xa xb R D x n a b F0 F1 G0 G1 e6 e7 S) (hpF5 cs1 cs2 cs3 t1 s1 t2 s2 t3 s3 n1 n2 k w s q xa xb R D x n a b F0 F1 G0 G1 e6 e7 S)) = (trsN OF5 statesF5p1).map (fun t => (outW (tabW CF1_) Tryd.prog 7 CF1_ Fn.top_Finest OF5 277 (liveF5 cs1 cs2 cs3 t1 s1 t2 s2 t3 s3 n1 n2 k w s q xa xb R D x n a b F0 F1 G0 G1 e6 e7 S) (hpF5 cs1 cs2 cs3 t1 s1 t2 s2 t3 s3 n1 n2 k w s q xa xb R D x n a b F0 F1 G0 G1 e6 e7 S) t).fix) := by kernel_rfl
theorem fixF5p2 (cs1 cs2 cs3 : List Value) (t1 s1 t2 s2 t3 s3 n1 n2 k : Nat) (w s q xa xb R D x n a b F0 F1 G0 G1 e6 e7 S : Int) : (trsN OF5 statesF5p2).map (outW (tabW CF1_) Tryd.prog 7 CF1_ Fn.top_Finest OF5 277 (liveF5 cs1 cs2 cs3 t1 s1 t2 s2 t3 s3 n1 n2 k w s q xa xb R D x n a b F0 F1 G0 G1 e6 e7 S) (hpF5 cs1 cs2 cs3 t1 s1 t2 s2 t3 s3 n1 n2 k w s q xa xb R D x n a b F0 F1 G0 G1 e6 e7 S)) = (trsN OF5 statesF5p2).map (fun t => (outW (tabW CF1_) Tryd.prog 7 CF1_ Fn.top_Finest OF5 277 (liveF5 cs1 cs2 cs3 t1 s1 t2 s2 t3 s3 n1 n2 k w s q xa xb R D x n a b F0 F1 G0 G1 e6 e7 S) (hpF5 cs1 cs2 cs3 t1 s1 t2 s2 t3 s3 n1 n2 k w s q xa xb R D x n a b F0 F1 G0 G1 e6 e7 S) t).fix) := by kernel_rfl
theorem fixF5 (cs1 cs2 cs3 : List Value) (t1 s1 t2 s2 t3 s3 n1 n2 k : Nat) (w s q xa xb R D x n a b F0 F1 G0 G1 e6 e7 S : Int) : (trsN OF5 statesF5).map (outW (tabW CF1_) Tryd.prog 7 CF1_ Fn.top_Finest OF5 277 (liveF5 cs1 cs2 cs3 t1 s1 t2 s2 t3 s3 n1 n2 k w s q xa xb R D x n a b F0 F1 G0 G1 e6 e7 S) (hpF5 cs1 cs2 cs3 t1 s1 t2 s2 t3 s3 n1 n2 k w s q xa xb R D x n a b F0 F1 G0 G1 e6 e7 S)) = (trsN OF5 statesF5).map (fun t => (outW (tabW CF1_) Tryd.prog 7 CF1_ Fn.top_Finest OF5 277 (liveF5 cs1 cs2 cs3 t1 s1 t2 s2 t3 s3 n1 n2 k w s q xa xb R D x n a b F0 F1 G0 G1 e6 e7 S) (hpF5 cs1 cs2 cs3 t1 s1 t2 s2 t3 s3 n1 n2 k w s q xa xb R D x n a b F0 F1 G0 G1 e6 e7 S) t).fix) := by
  have h : trsN OF5 statesF5 = trsN OF5 statesF5p0 ++ trsN OF5 statesF5p1 ++ trsN OF5 statesF5p2 := by unfold trsN statesF5; simp only [List.flatMap_append]
  rw [h]
  simp only [List.map_append]
  rw [fixF5p0 cs1 cs2 cs3 t1 s1 t2 s2 t3 s3 n1 n2 k w s q xa xb R D x n a b F0 F1 G0 G1 e6 e7 S, fixF5p1 cs1 cs2 cs3 t1 s1 t2 s2 t3 s3 n1 n2 k w s q xa xb R D x n a b F0 F1 G0 G1 e6 e7 S, fixF5p2 cs1 cs2 cs3 t1 s1 t2 s2 t3 s3 n1 n2 k w s q xa xb R D x n a b F0 F1 G0 G1 e6 e7 S]
theorem obsF5p0 (cs1 cs2 cs3 : List Value) (t1 s1 t2 s2 t3 s3 n1 n2 k : Nat) (w s q xa xb R D x n a b F0 F1 G0 G1 e6 e7 S : Int) : (trsN OF5 statesF5p0).map (obsW (tabW CF1_) Tryd.prog 7 CF1_ Fn.top_Finest OF5 277 (liveF5 cs1 cs2 cs3 t1 s1 t2 s2 t3 s3 n1 n2 k w s q xa xb R D x n a b F0 F1 G0 G1 e6 e7 S) (hpF5 cs1 cs2 cs3 t1 s1 t2 s2 t3 s3 n1 n2 k w s q xa xb R D x n a b F0 F1 G0 G1 e6 e7 S) rhoF5 ansF5) = (trsN OF5 statesF5p0).map (expN 277 (liveF5 cs1 cs2 cs3 t1 s1 t2 s2 t3 s3 n1 n2 k w s q xa xb R D x n a b F0 F1 G0 G1 e6 e7 S) (hpF5 cs1 cs2 cs3 t1 s1 t2 s2 t3 s3 n1 n2 k w s q xa xb R D x n a b F0 F1 G0 G1 e6 e7 S) rhoF5 (cndF5 cs1 cs2 cs3 t1 s1 t2 s2 t3 s3 n1 n2 k w s q xa xb R D x n a b F0 F1 G0 G1 e6 e7 S) lenF5) := by kernel_rfl
theorem obsF5p1 (cs1 cs2 cs3 : List Value) (t1 s1 t2 s2 t3 s3 n1 n2 k : Nat) (w s q xa xb R D x n a b F0 F1 G0 G1 e6 e7 S : Int) : (trsN OF5 statesF5p1).map (obsW (tabW CF1_) Tryd.prog 7 CF1_ Fn.top_Finest OF5 277 (liveF5 cs1 cs2 cs3 t1 s1 t2 s2 t3 s3 n1 n2 k w s q xa xb R D x n a b F0 F1 G0 G1 e6 e7 S) (hpF5 cs1 cs2 cs3 t1 s1 t2 s2 t3 s3 n1 n2 k w s q xa xb R D x n a b F0 F1 G0 G1 e6 e7 S) rhoF5 ansF5) = (trsN OF5 statesF5p1).map (expN 277 (liveF5 cs1 cs2 cs3 t1 s1 t2 s2 t3 s3 n1 n2 k w s q xa xb R D x n a b F0 F1 G0 G1 e6 e7 S) (hpF5 cs1 cs2 cs3 t1 s1 t2 s2 t3 s3 n1 n2 k w s q xa xb R D x n a b F0 F1 G0 G1 e6 e7 S) rhoF5 (cndF5 cs1 cs2 cs3 t1 s1 t2 s2 t3 s3 n1 n2 k w s q xa xb R D x n a b F0 F1 G0 G1 e6 e7 S) lenF5) := by kernel_rfl
theorem obsF5p2 (cs1 cs2 cs3 : List Value) (t1 s1 t2 s2 t3 s3 n1 n2 k : Nat) (w s q xa xb R D x n a b F0 F1 G0 G1 e6 e7 S : Int) : (trsN OF5 statesF5p2).map (obsW (tabW CF1_) Tryd.prog 7 CF1_ Fn.top_Finest OF5 277 (liveF5 cs1 cs2 cs3 t1 s1 t2 s2 t3 s3 n1 n2 k w s q xa xb R D x n a b F0 F1 G0 G1 e6 e7 S) (hpF5 cs1 cs2 cs3 t1 s1 t2 s2 t3 s3 n1 n2 k w s q xa xb R D x n a b F0 F1 G0 G1 e6 e7 S) rhoF5 ansF5) = (trsN OF5 statesF5p2).map (expN 277 (liveF5 cs1 cs2 cs3 t1 s1 t2 s2 t3 s3 n1 n2 k w s q xa xb R D x n a b F0 F1 G0 G1 e6 e7 S) (hpF5 cs1 cs2 cs3 t1 s1 t2 s2 t3 s3 n1 n2 k w s q xa xb R D x n a b F0 F1 G0 G1 e6 e7 S) rhoF5 (cndF5 cs1 cs2 cs3 t1 s1 t2 s2 t3 s3 n1 n2 k w s q xa xb R D x n a b F0 F1 G0 G1 e6 e7 S) lenF5) := by kernel_rfl
theorem obsF5 (cs1 cs2 cs3 : List Value) (t1 s1 t2 s2 t3 s3 n1 n2 k : Nat) (w s q xa xb R D x n a b F0 F1 G0 G1 e6 e7 S : Int) : (trsN OF5 statesF5).map (obsW (tabW CF1_) Tryd.prog 7 CF1_ Fn.top_Finest OF5 277 (liveF5 cs1 cs2 cs3 t1 s1 t2 s2 t3 s3 n1 n2 k w s q xa xb R D x n a b F0 F1 G0 G1 e6 e7 S) (hpF5 cs1 cs2 cs3 t1 s1 t2 s2 t3 s3 n1 n2 k w s q xa xb R D x n a b F0 F1 G0 G1 e6 e7 S) rhoF5 ansF5) = (trsN OF5 statesF5).map (expN 277 (liveF5 cs1 cs2 cs3 t1 s1 t2 s2 t3 s3 n1 n2 k w s q xa xb R D x n a b F0 F1 G0 G1 e6 e7 S) (hpF5 cs1 cs2 cs3 t1 s1 t2 s2 t3 s3 n1 n2 k w s q xa xb R D x n a b F0 F1 G0 G1 e6 e7 S) rhoF5 (cndF5 cs1 cs2 cs3 t1 s1 t2 s2 t3 s3 n1 n2 k w s q xa xb R D x n a b F0 F1 G0 G1 e6 e7 S) lenF5) := by
  have h : trsN OF5 statesF5 = trsN OF5 statesF5p0 ++ trsN OF5 statesF5p1 ++ trsN OF5 statesF5p2 := by unfold trsN statesF5; simp only [List.flatMap_append]
  rw [h]
  simp only [List.map_append]
  rw [obsF5p0 cs1 cs2 cs3 t1 s1 t2 s2 t3 s3 n1 n2 k w s q xa xb R D x n a b F0 F1 G0 G1 e6 e7 S, obsF5p1 cs1 cs2 cs3 t1 s1 t2 s2 t3 s3 n1 n2 k w s q xa xb R D x n a b F0 F1 G0 G1 e6 e7 S, obsF5p2 cs1 cs2 cs3 t1 s1 t2 s2 t3 s3 n1 n2 k w s q xa xb R D x n a b F0 F1 G0 G1 e6 e7 S]
theorem goodF5 (cs1 cs2 cs3 : List Value) (t1 s1 t2 s2 t3 s3 n1 n2 k : Nat) (w s q xa xb R D x n a b F0 F1 G0 G1 e6 e7 S : Int) : ((trsN OF5 statesF5).all fun t => goodR 14 (lenF5 t.2) (liveF5 cs1 cs2 cs3 t1 s1 t2 s2 t3 s3 n1 n2 k w s q xa xb R D x n a b F0 F1 G0 G1 e6 e7 S (t.1 ||| 2 ^ t.2)) (hpF5 cs1 cs2 cs3 t1 s1 t2 s2 t3 s3 n1 n2 k w s q xa xb R D x n a b F0 F1 G0 G1 e6 e7 S (t.1 ||| 2 ^ t.2)) (rhoF5 t.2)) = true := by kernel_rfl
theorem closedF5 : closedN OF5 statesF5 32767 = true := by kernel_rfl
theorem flatF5 {cs1 cs2 cs3 : List Value} {t1 s1 t2 s2 t3 s3 n1 n2 k : Nat} {w s q xa xb R D x n a b F0 F1 G0 G1 e6 e7 S : Int} (f1 : cs1.all Ex.flat = true) (f2 : cs2.all Ex.flat = true) (f3 : cs3.all Ex.flat = true) : ∀ m o, (o, true) ∈ hpF5 cs1 cs2 cs3 t1 s1 t2 s2 t3 s3 n1 n2 k w s q xa xb R D x n a b F0 F1 G0 G1 e6 e7 S m → FlatO o := by
  intro m o ho
  unfold hpF5 baseF bitC at ho
  simp only [cond, List.cons_append, List.nil_append, List.mem_cons, List.not_mem_nil, or_false, Prod.mk.injEq, Bool.true_eq_false, and_false, false_or] at ho
  rcases ho with ⟨rfl, _⟩ | ⟨rfl, _⟩ | ⟨rfl, _⟩ | ⟨rfl, _⟩ | ho | ho | ho | ho
  · exact flatO_of flatP
  · exact flatO_of f1
  · exact flatO_of f2
  · exact flatO_of f3
  all_goals
    split at ho <;> first
      | (cases ho; done)
      | (injection ho with h4 h5; subst h4; exact flatO_of (by assumption))
theorem cndF5_ok {cs1 cs2 cs3 : List Value} {t1 s1 t2 s2 t3 s3 n1 n2 k : Nat} {w s q xa xb R D x n a b F0 F1 G0 G1 e6 e7 S : Int} (h1 : okCp (argA n1 n2 (k + 1)) cs1 cs2 cs3) (h2 : okP (AF n1 n2 k w s q R D) (cpS cs1 cs2 cs3 (k + 1))) : ∀ j, cndF5 cs1 cs2 cs3 t1 s1 t2 s2 t3 s3 n1 n2 k w s q xa xb R D x n a b F0 F1 G0 G1 e6 e7 S j = (ansF5 j).take (cndF5 cs1 cs2 cs3 t1 s1 t2 s2 t3 s3 n1 n2 k w s q xa xb R D x n a b F0 F1 G0 G1 e6 e7 S j).length := by
  intro j
  unfold cndF5 ansF5
  split
  · rw [tru_iff.2 h1]; rfl
  · rw [tru_iff.2 h2]; rfl
  · rfl
theorem padF5 (cs1 cs2 cs3 : List Value) (t1 s1 t2 s2 t3 s3 n1 n2 k : Nat) (w s q xa xb R D x n a b F0 F1 G0 G1 e6 e7 S : Int) : heapL ((hpF5 cs1 cs2 cs3 t1 s1 t2 s2 t3 s3 n1 n2 k w s q xa xb R D x n a b F0 F1 G0 G1 e6 e7 S 0).map (·.1)) = heapL ((baseF5 cs1 cs2 cs3 t1 s1 t2 s2 t3 s3 n1 n2 k w s q xa xb R D x n a b F0 F1 G0 G1 e6 e7 S).map (·.1) ++ List.replicate 4 .dead) := by kernel_rfl
theorem ordF5 {cs1 cs2 cs3 : List Value} {t1 s1 t2 s2 t3 s3 n1 n2 k : Nat} {w s q xa xb R D x n a b F0 F1 G0 G1 e6 e7 S : Int} (f1 : cs1.all Ex.flat = true) (f2 : cs2.all Ex.flat = true) (f3 : cs3.all Ex.flat = true) (h1 : okCp (argA n1 n2 (k + 1)) cs1 cs2 cs3) (h2 : okP (AF n1 n2 k w s q R D) (cpS cs1 cs2 cs3 (k + 1))) : Orders (selfA (qS (tabW CF1_))) Tryd.prog 7 OF5 14 (fun m => m ∈ statesF5) (fun m => absT (tmL 277 (liveF5 cs1 cs2 cs3 t1 s1 t2 s2 t3 s3 n1 n2 k w s q xa xb R D x n a b F0 F1 G0 G1 e6 e7 S m))) (fun m => heapL ((hpF5 cs1 cs2 cs3 t1 s1 t2 s2 t3 s3 n1 n2 k w s q xa xb R D x n a b F0 F1 G0 G1 e6 e7 S m).map (·.1))) 32767 :=
  orders_ofW statesF5 (fixF5 cs1 cs2 cs3 t1 s1 t2 s2 t3 s3 n1 n2 k w s q xa xb R D x n a b F0 F1 G0 G1 e6 e7 S) (obsF5 cs1 cs2 cs3 t1 s1 t2 s2 t3 s3 n1 n2 k w s q xa xb R D x n a b F0 F1 G0 G1 e6 e7 S) (cndF5_ok h1 h2) (goodF5 cs1 cs2 cs3 t1 s1 t2 s2 t3 s3 n1 n2 k w s q xa xb R D x n a b F0 F1 G0 G1 e6 e7 S) closedF5 (flatF5 f1 f2 f3)
theorem sndF5 {cs1 cs2 cs3 : List Value} {t1 s1 t2 s2 t3 s3 n1 n2 k : Nat} {w s q xa xb R D x n a b F0 F1 G0 G1 e6 e7 S : Int} (f1 : cs1.all Ex.flat = true) (f2 : cs2.all Ex.flat = true) (f3 : cs3.all Ex.flat = true) (h1 : okCp (argA n1 n2 (k + 1)) cs1 cs2 cs3) (h2 : okP (AF n1 n2 k w s q R D) (cpS cs1 cs2 cs3 (k + 1))) (ro : Option Nat) {tm0 : Array Value} {H0 : CH} (hk : H0.length = 14) (hst : Restate 14 tm0 H0 (absT (tmL 277 (liveF5 cs1 cs2 cs3 t1 s1 t2 s2 t3 s3 n1 n2 k w s q xa xb R D x n a b F0 F1 G0 G1 e6 e7 S 0))) (heapL ((baseF5 cs1 cs2 cs3 t1 s1 t2 s2 t3 s3 n1 n2 k w s q xa xb R D x n a b F0 F1 G0 G1 e6 e7 S).map (·.1)))) :
    Sound Tryd.prog 7 (.code (.region 5 OF5 true) ro tm0 H0 []) (.ex .normal (absT (tmL 277 (liveF5 cs1 cs2 cs3 t1 s1 t2 s2 t3 s3 n1 n2 k w s q xa xb R D x n a b F0 F1 G0 G1 e6 e7 S 32767))) (heapL ((hpF5 cs1 cs2 cs3 t1 s1 t2 s2 t3 s3 n1 n2 k w s q xa xb R D x n a b F0 F1 G0 G1 e6 e7 S 32767).map (·.1))) []) := by
  have ho := ordF5 (cs1 := cs1) (cs2 := cs2) (cs3 := cs3) (t1 := t1) (s1 := s1) (t2 := t2) (s2 := s2) (t3 := t3) (s3 := s3) (n1 := n1) (n2 := n2) (k := k) (w := w) (s := s) (q := q) (xa := xa) (xb := xb) (R := R) (D := D) (x := x) (n := n) (a := a) (b := b) (F0 := F0) (F1 := F1) (G0 := G0) (G1 := G1) (e6 := e6) (e7 := e7) (S := S) f1 f2 f3 h1 h2
  have hr := padF5 cs1 cs2 cs3 t1 s1 t2 s2 t3 s3 n1 n2 k w s q xa xb R D x n a b F0 F1 G0 G1 e6 e7 S
  generalize liveF5 cs1 cs2 cs3 t1 s1 t2 s2 t3 s3 n1 n2 k w s q xa xb R D x n a b F0 F1 G0 G1 e6 e7 S = lv at *
  generalize hpF5 cs1 cs2 cs3 t1 s1 t2 s2 t3 s3 n1 n2 k w s q xa xb R D x n a b F0 F1 G0 G1 e6 e7 S = hp at *
  generalize baseF5 cs1 cs2 cs3 t1 s1 t2 s2 t3 s3 n1 n2 k w s q xa xb R D x n a b F0 F1 G0 G1 e6 e7 S = bs at *
  rw [← hk] at ho hst
  exact orders_sound2 (tmS := fun m => absT (tmL 277 (lv m))) (HS := fun m => heapL ((hp m).map (·.1))) (mF := 32767) sfF1 mix12 ho (by rw [hk]; decide) (by decide) hr hst ro
theorem fbF5 {cs1 cs2 cs3 : List Value} {t1 s1 t2 s2 t3 s3 n1 n2 k : Nat} {w s q xa xb R D x n a b F0 F1 G0 G1 e6 e7 S : Int} (f1 : cs1.all Ex.flat = true) (f2 : cs2.all Ex.flat = true) (f3 : cs3.all Ex.flat = true) : ∀ o, (o, true) ∈ baseF5 cs1 cs2 cs3 t1 s1 t2 s2 t3 s3 n1 n2 k w s q xa xb R D x n a b F0 F1 G0 G1 e6 e7 S → FlatO o := fun o ho =>
  flatF5 (cs1 := cs1) (cs2 := cs2) (cs3 := cs3) (t1 := t1) (s1 := s1) (t2 := t2) (s2 := s2) (t3 := t3) (s3 := s3) (n1 := n1) (n2 := n2) (k := k) (w := w) (s := s) (q := q) (xa := xa) (xb := xb) (R := R) (D := D) (x := x) (n := n) (a := a) (b := b) (F0 := F0) (F1 := F1) (G0 := G0) (G1 := G1) (e6 := e6) (e7 := e7) (S := S) f1 f2 f3 0 o (by unfold hpF5; exact List.mem_append_left _ (List.mem_append_left _ ho))
end Go.Proofs.YtbocpikgochioaaDoor.Ways
namespace Go.Proofs.YtbocpikgochioaaDoor.Ways
open Go Go.Ex
noncomputable def OF17 : Array Oper := regOps Tryd.f6 17
def statesF17p0 : List Nat := [0, 1, 3, 4, 5, 7, 8, 9, 11, 12, 13, 15, 24, 25, 27, 28, 29, 31, 60, 61, 63, 64, 65, 67, 68, 69, 71, 72, 73, 75, 76, 77, 79, 88, 89, 91, 92, 93, 95, 124, 125, 127, 128, 129, 131, 132, 133, 135, 136, 137, 139, 140, 141, 143, 152, 153, 155, 156, 157, 159, 188]
def statesF17p1 : List Nat := [189, 191, 192, 193, 195, 196, 197, 199, 200, 201, 203, 204, 205, 207, 216, 217, 219, 220, 221, 223, 252, 253, 255, 511, 1023, 2047, 3071, 4095, 4096, 4097, 4099, 4100, 4101, 4103, 4104, 4105, 4107, 4108, 4109, 4111, 4120, 4121, 4123, 4124, 4125, 4127, 4156, 4157, 4159, 4160, 4161, 4163, 4164, 4165, 4167, 4168, 4169, 4171, 4172, 4173, 4175]
def statesF17p2 : List Nat := [4184, 4185, 4187, 4188, 4189, 4191, 4220, 4221, 4223, 4224, 4225, 4227, 4228, 4229, 4231, 4232, 4233, 4235, 4236, 4237, 4239, 4248, 4249, 4251, 4252, 4253, 4255, 4284, 4285, 4287, 4288, 4289, 4291, 4292, 4293, 4295, 4296, 4297, 4299, 4300, 4301, 4303, 4312, 4313, 4315, 4316, 4317, 4319, 4348, 4349, 4351, 4607, 5119, 6143, 7167, 8191, 14335, 16383, 32767]
def statesF17 : List Nat := statesF17p0 ++ statesF17p1 ++ statesF17p2
def ansF17 (j : Nat) : List Bool :=
  match j with
  | 1 => [true]
  | 8 => [true]
  | _ => []
noncomputable def liveF17 (cs1 cs2 cs3 : List Value) (_t1 _s1 _t2 _s2 _t3 _s3 n1 n2 k : Nat) (w s q _xa _xb R D x n _a _b F0 _F1 G0 _G1 e6 e7 _S : Int) (m : Nat) : List (Nat × Value) := [(3, pt 7 0), (4, pt 8 0), (7, i R), (8, i D), (9, pt 13 0), (11, pt 17 0), (13, i n), (14, i F0), (15, i e6), (16, i G0), (17, i e7)] ++ bitV m 0 (138, blV n1 n1 n2 n2 (sl 6 0 (k + 1) (k + 1))) ++ bitV m 1 (139, cutV false 24 n1 n2 (k + 1)) ++ bitV m 2 (140, flV w s q) ++ bitV m 3 (141, pt 8 2) ++ bitV m 4 (142, i q) ++ bitV m 5 (143, flV w s q) ++ bitV m 6 (144, i R) ++ bitV m 7 (145, ag [i x, i n]) ++ bitV m 8 (146, (tp [ag [i (gX (AR n1 n2 k w s q R x n) (cpS cs1 cs2 cs3 (k + 1))), i (gY (AR n1 n2 k w s q R x n) (cpS cs1 cs2 cs3 (k + 1)))], i (gZ (AR n1 n2 k w s q R x n) (cpS cs1 cs2 cs3 (k + 1)))])) ++ bitV m 9 (137, (tp [ag [i (gX (AR n1 n2 k w s q R x n) (cpS cs1 cs2 cs3 (k + 1))), i (gY (AR n1 n2 k w s q R x n) (cpS cs1 cs2 cs3 (k + 1)))], i (gZ (AR n1 n2 k w s q R x n) (cpS cs1 cs2 cs3 (k + 1)))])) ++ bitV m 10 (147, ag [i (gX (AR n1 n2 k w s q R x n) (cpS cs1 cs2 cs3 (k + 1))), i (gY (AR n1 n2 k w s q R x n) (cpS cs1 cs2 cs3 (k + 1)))]) ++ bitV m 11 (148, i (gZ (AR n1 n2 k w s q R x n) (cpS cs1 cs2 cs3 (k + 1)))) ++ bitV m 12 (18, pt 27 0) ++ bitV m 14 (19, i (gZ (AR n1 n2 k w s q R x n) (cpS cs1 cs2 cs3 (k + 1))))
noncomputable def baseF17 (cs1 cs2 cs3 : List Value) (t1 s1 t2 s2 t3 s3 n1 n2 k : Nat) (w s q xa xb _R _D x n a b _F0 _F1 _G0 _G1 _e6 _e7 _S : Int) : List (CO × Bool) := baseF n1 n2 k w s q xa xb cs1 t1 s1 cs2 t2 s2 cs3 t3 s3 ++ [(.dead, false), (.dead, false), (.dead, false), (.cells [i x, i n] 53 1 true, false), (.dead, false), (.dead, false), (.dead, false), (.cells [i a, i b] 53 1 true, false)] ++ [(.dead, false), (.dead, false), (.dead, false), (.dead, false), (.dead, false), (.dead, false)]
noncomputable def hpF17 (cs1 cs2 cs3 : List Value) (t1 s1 t2 s2 t3 s3 n1 n2 k : Nat) (w s q xa xb R _D x n a b _F0 _F1 _G0 _G1 _e6 _e7 _S : Int) (m : Nat) : List (CO × Bool) := baseF n1 n2 k w s q xa xb cs1 t1 s1 cs2 t2 s2 cs3 t3 s3 ++ [(.dead, false), (.dead, false), (.dead, false), (.cells [i x, i n] 53 1 true, false), (.dead, false), (.dead, false), (.dead, false), (.cells [i a, i b] 53 1 true, false)] ++ [(.dead, false), (.dead, false), (.dead, false), (.dead, false), (.dead, false), (.dead, false)] ++ [bitC m 1 (.cells cs1 3 1 false, true), bitC m 1 (.cells cs2 3 1 false, true), bitC m 1 (.cells cs3 103 4 false, true)] ++ [bitC m 12 (.cells (cond (Nat.testBit m 13) [i (gX (AR n1 n2 k w s q R x n) (cpS cs1 cs2 cs3 (k + 1))), i (gY (AR n1 n2 k w s q R x n) (cpS cs1 cs2 cs3 (k + 1)))] [i 0, i 0]) 53 1 true, false)]
def rhoF17 (j : Nat) : List Nat :=
  match j with
  | 1 => [0, 1, 2, 3, 4, 5, 6, 7, 8, 9, 10, 11, 12, 13, 14, 15, 16, 17, 18, 19, 20, 21, 22, 23, 28, 29, 30, 27]
  | 12 => [0, 1, 2, 3, 4, 5, 6, 7, 8, 9, 10, 11, 12, 13, 14, 15, 16, 17, 18, 19, 20, 21, 22, 23, 24, 25, 26, 28]
  | _ => List.range 28
def lenF17 (j : Nat) : Nat :=
  match j with
  | 1 => 31
  | 12 => 29
  | _ => 28
noncomputable def cndF17 (cs1 cs2 cs3 : List Value) (_t1 _s1 _t2 _s2 _t3 _s3 n1 n2 k : Nat) (w s q _xa _xb R _D x n _a _b _F0 _F1 _G0 _G1 _e6 _e7 _S : Int) (j : Nat) : List Bool :=
  match j with
  | 1 => [tru (okCp (argA n1 n2 (k + 1)) cs1 cs2 cs3)]
  | 8 => [tru (okP (AR n1 n2 k w s q R x n) (cpS cs1 cs2 cs3 (k + 1)))]
  | _ => []
theorem fixF17p0 (cs1 cs2 cs3 : List Value) (t1 s1 t2 s2 t3 s3 n1 n2 k : Nat) (w s q xa xb R D x n a b F0 F1 G0 G1 e6 e7 S : Int) : (trsN OF17 statesF17p0).map (outW (tabW CF1_) Tryd.prog 7 CF1_ Fn.top_Finest OF17 277 (liveF17 cs1 cs2 cs3 t1 s1 t2 s2 t3 s3 n1 n2 k w s q xa xb R D x n a b F0 F1 G0 G1 e6 e7 S) (hpF17 cs1 cs2 cs3 t1 s1 t2 s2 t3 s3 n1 n2 k w s q xa xb R D x n a b F0 F1 G0 G1 e6 e7 S)) = (trsN OF17 statesF17p0).map (fun t => (outW (tabW CF1_) Tryd.prog 7 CF1_ Fn.top_Finest OF17 277 (liveF17 cs1 cs2 cs3 t1 s1 t2 s2 t3 s3 n1 n2 k w s q xa xb R D x n a b F0 F1 G0 G1 e6 e7 S) (hpF17 cs1 cs2 cs3 t1 s1 t2 s2 t3 s3 n1 n2 k w s q xa xb R D x n a b F0 F1 G0 G1 e6 e7 S) t).fix) := by kernel_rfl
theorem fixF17p1 (cs1 cs2 cs3 : List Value) (t1 s1 t2 s2 t3 s3 n1 n2 k : Nat) (w s q xa xb R D x n a b F0 F1 G0 G1 e6 e7 S : Int) : (trsN OF17 statesF17p1).map (outW (tabW CF1_) Tryd.prog 7 CF1_ Fn.top_Finest OF17 277 (liveF17 cs1 cs2 cs3 t1 s1 t2 s2 t3 s3 n1 n2 k w s q xa xb R D x n a b F0 F1 G0 G1 e6 e7 S) (hpF17 cs1 cs2 cs3 t1 s1 t2 s2 t3 s3 n1 n2 k w s q xa xb R D x n a b F0 F1 G0 G1 e6 e7 S)) = (trsN OF17 statesF17p1).map (fun t => (outW (tabW CF1_) Tryd.prog 7 CF1_ Fn.top_Finest OF17 277 (liveF17 cs1 cs2 cs3 t1 s1 t2 s2 t3 s3 n1 n2 k w s q xa xb R D x n a b F0 F1 G0 G1 e6 e7 S) (hpF17 cs1 cs2 cs3 t1 s1 t2 s2 t3 s3 n1 n2 k w s q xa xb R D x n a b F0 F1 G0 G1 e6 e7 S) t).fix) := by kernel_rfl
theorem fixF17p2 (cs1 cs2 cs3 : List Value) (t1 s1 t2 s2 t3 s3 n1 n2 k : Nat) (w s q xa xb R D x n a b F0 F1 G0 G1 e6 e7 S : Int) : (trsN OF17 statesF17p2).map (outW (tabW CF1_) Tryd.prog 7 CF1_ Fn.top_Finest OF17 277 (liveF17 cs1 cs2 cs3 t1 s1 t2 s2 t3 s3 n1 n2 k w s q xa xb R D x n a b F0 F1 G0 G1 e6 e7 S) (hpF17 cs1 cs2 cs3 t1 s1 t2 s2 t3 s3 n1 n2 k w s q xa xb R D x n a b F0 F1 G0 G1 e6 e7 S)) = (trsN OF17 statesF17p2).map (fun t => (outW (tabW CF1_) Tryd.prog 7 CF1_ Fn.top_Finest OF17 277 (liveF17 cs1 cs2 cs3 t1 s1 t2 s2 t3 s3 n1 n2 k w s q xa xb R D x n a b F0 F1 G0 G1 e6 e7 S) (hpF17 cs1 cs2 cs3 t1 s1 t2 s2 t3 s3 n1 n2 k w s q xa xb R D x n a b F0 F1 G0 G1 e6 e7 S) t).fix) := by kernel_rfl
theorem fixF17 (cs1 cs2 cs3 : List Value) (t1 s1 t2 s2 t3 s3 n1 n2 k : Nat) (w s q xa xb R D x n a b F0 F1 G0 G1 e6 e7 S : Int) : (trsN OF17 statesF17).map (outW (tabW CF1_) Tryd.prog 7 CF1_ Fn.top_Finest OF17 277 (liveF17 cs1 cs2 cs3 t1 s1 t2 s2 t3 s3 n1 n2 k w s q xa xb R D x n a b F0 F1 G0 G1 e6 e7 S) (hpF17 cs1 cs2 cs3 t1 s1 t2 s2 t3 s3 n1 n2 k w s q xa xb R D x n a b F0 F1 G0 G1 e6 e7 S)) = (trsN OF17 statesF17).map (fun t => (outW (tabW CF1_) Tryd.prog 7 CF1_ Fn.top_Finest OF17 277 (liveF17 cs1 cs2 cs3 t1 s1 t2 s2 t3 s3 n1 n2 k w s q xa xb R D x n a b F0 F1 G0 G1 e6 e7 S) (hpF17 cs1 cs2 cs3 t1 s1 t2 s2 t3 s3 n1 n2 k w s q xa xb R D x n a b F0 F1 G0 G1 e6 e7 S) t).fix) := by
  have h : trsN OF17 statesF17 = trsN OF17 statesF17p0 ++ trsN OF17 statesF17p1 ++ trsN OF17 statesF17p2 := by unfold trsN statesF17; simp only [List.flatMap_append]
  rw [h]
  simp only [List.map_append]
  rw [fixF17p0 cs1 cs2 cs3 t1 s1 t2 s2 t3 s3 n1 n2 k w s q xa xb R D x n a b F0 F1 G0 G1 e6 e7 S, fixF17p1 cs1 cs2 cs3 t1 s1 t2 s2 t3 s3 n1 n2 k w s q xa xb R D x n a b F0 F1 G0 G1 e6 e7 S, fixF17p2 cs1 cs2 cs3 t1 s1 t2 s2 t3 s3 n1 n2 k w s q xa xb R D x n a b F0 F1 G0 G1 e6 e7 S]
theorem obsF17p0 (cs1 cs2 cs3 : List Value) (t1 s1 t2 s2 t3 s3 n1 n2 k : Nat) (w s q xa xb R D x n a b F0 F1 G0 G1 e6 e7 S : Int) : (trsN OF17 statesF17p0).map (obsW (tabW CF1_) Tryd.prog 7 CF1_ Fn.top_Finest OF17 277 (liveF17 cs1 cs2 cs3 t1 s1 t2 s2 t3 s3 n1 n2 k w s q xa xb R D x n a b F0 F1 G0 G1 e6 e7 S) (hpF17 cs1 cs2 cs3 t1 s1 t2 s2 t3 s3 n1 n2 k w s q xa xb R D x n a b F0 F1 G0 G1 e6 e7 S) rhoF17 ansF17) = (trsN OF17 statesF17p0).map (expN 277 (liveF17 cs1 cs2 cs3 t1 s1 t2 s2 t3 s3 n1 n2 k w s q xa xb R D x n a b F0 F1 G0 G1 e6 e7 S) (hpF17 cs1 cs2 cs3 t1 s1 t2 s2 t3 s3 n1 n2 k w s q xa xb R D x n a b F0 F1 G0 G1 e6 e7 S) rhoF17 (cndF17 cs1 cs2 cs3 t1 s1 t2 s2 t3 s3 n1 n2 k w s q xa xb R D x n a b F0 F1 G0 G1 e6 e7 S) lenF17) := by kernel_rfl
theorem obsF17p1 (cs1 cs2 cs3 : List Value) (t1 s1 t2 s2 t3 s3 n1 n2 k : Nat) (w s q xa xb R D x n a b F0 F1 G0 G1 e6 e7 S : Int) : (trsN OF17 statesF17p1).map (obsW (tabW CF1_) Tryd.prog 7 CF1_ Fn.top_Finest OF17 277 (liveF17 cs1 cs2 cs3 t1 s1 t2 s2 t3 s3 n1 n2 k w s q xa xb R D x n a b F0 F1 G0 G1 e6 e7 S) (hpF17 cs1 cs2 cs3 t1 s1 t2 s2 t3 s3 n1 n2 k w s q xa xb R D x n a b F0 F1 G0 G1 e6 e7 S) rhoF17 ansF17) = (trsN OF17 statesF17p1).map (expN 277 (liveF17 cs1 cs2 cs3 t1 s1 t2 s2 t3 s3 n1 n2 k w s q xa xb R D x n a b F0 F1 G0 G1 e6 e7 S) (hpF17 cs1 cs2 cs3 t1 s1 t2 s2 t3 s3 n1 n2 k w s q xa xb R D x n a b F0 F1 G0 G1 e6 e7 S) rhoF17 (cndF17 cs1 cs2 cs3 t1 s1 t2 s2 t3 s3 n1 n2 k w s q xa xb R D x n a b F0 F1 G0 G1 e6 e7 S) lenF17) := by kernel_rfl
theorem obsF17p2 (cs1 cs2 cs3 : List Value) (t1 s1 t2 s2 t3 s3 n1 n2 k : Nat) (w s q xa xb R D x n a b F0 F1 G0 G1 e6 e7 S : Int) : (trsN OF17 statesF17p2).map (obsW (tabW CF1_) Tryd.prog 7 CF1_ Fn.top_Finest OF17 277 (liveF17 cs1 cs2 cs3 t1 s1 t2 s2 t3 s3 n1 n2 k w s q xa xb R D x n a b F0 F1 G0 G1 e6 e7 S) (hpF17 cs1 cs2 cs3 t1 s1 t2 s2 t3 s3 n1 n2 k w s q xa xb R D x n a b F0 F1 G0 G1 e6 e7 S) rhoF17 ansF17) = (trsN OF17 statesF17p2).map (expN 277 (liveF17 cs1 cs2 cs3 t1 s1 t2 s2 t3 s3 n1 n2 k w s q xa xb R D x n a b F0 F1 G0 G1 e6 e7 S) (hpF17 cs1 cs2 cs3 t1 s1 t2 s2 t3 s3 n1 n2 k w s q xa xb R D x n a b F0 F1 G0 G1 e6 e7 S) rhoF17 (cndF17 cs1 cs2 cs3 t1 s1 t2 s2 t3 s3 n1 n2 k w s q xa xb R D x n a b F0 F1 G0 G1 e6 e7 S) lenF17) := by kernel_rfl
theorem obsF17 (cs1 cs2 cs3 : List Value) (t1 s1 t2 s2 t3 s3 n1 n2 k : Nat) (w s q xa xb R D x n a b F0 F1 G0 G1 e6 e7 S : Int) : (trsN OF17 statesF17).map (obsW (tabW CF1_) Tryd.prog 7 CF1_ Fn.top_Finest OF17 277 (liveF17 cs1 cs2 cs3 t1 s1 t2 s2 t3 s3 n1 n2 k w s q xa xb R D x n a b F0 F1 G0 G1 e6 e7 S) (hpF17 cs1 cs2 cs3 t1 s1 t2 s2 t3 s3 n1 n2 k w s q xa xb R D x n a b F0 F1 G0 G1 e6 e7 S) rhoF17 ansF17) = (trsN OF17 statesF17).map (expN 277 (liveF17 cs1 cs2 cs3 t1 s1 t2 s2 t3 s3 n1 n2 k w s q xa xb R D x n a b F0 F1 G0 G1 e6 e7 S) (hpF17 cs1 cs2 cs3 t1 s1 t2 s2 t3 s3 n1 n2 k w s q xa xb R D x n a b F0 F1 G0 G1 e6 e7 S) rhoF17 (cndF17 cs1 cs2 cs3 t1 s1 t2 s2 t3 s3 n1 n2 k w s q xa xb R D x n a b F0 F1 G0 G1 e6 e7 S) lenF17) := by
  have h : trsN OF17 statesF17 = trsN OF17 statesF17p0 ++ trsN OF17 statesF17p1 ++ trsN OF17 statesF17p2 := by unfold trsN statesF17; simp only [List.flatMap_append]
  rw [h]
  simp only [List.map_append]
  rw [obsF17p0 cs1 cs2 cs3 t1 s1 t2 s2 t3 s3 n1 n2 k w s q xa xb R D x n a b F0 F1 G0 G1 e6 e7 S, obsF17p1 cs1 cs2 cs3 t1 s1 t2 s2 t3 s3 n1 n2 k w s q xa xb R D x n a b F0 F1 G0 G1 e6 e7 S, obsF17p2 cs1 cs2 cs3 t1 s1 t2 s2 t3 s3 n1 n2 k w s q xa xb R D x n a b F0 F1 G0 G1 e6 e7 S]
theorem goodF17 (cs1 cs2 cs3 : List Value) (t1 s1 t2 s2 t3 s3 n1 n2 k : Nat) (w s q xa xb R D x n a b F0 F1 G0 G1 e6 e7 S : Int) : ((trsN OF17 statesF17).all fun t => goodR 24 (lenF17 t.2) (liveF17 cs1 cs2 cs3 t1 s1 t2 s2 t3 s3 n1 n2 k w s q xa xb R D x n a b F0 F1 G0 G1 e6 e7 S (t.1 ||| 2 ^ t.2)) (hpF17 cs1 cs2 cs3 t1 s1 t2 s2 t3 s3 n1 n2 k w s q xa xb R D x n a b F0 F1 G0 G1 e6 e7 S (t.1 ||| 2 ^ t.2)) (rhoF17 t.2)) = true := by kernel_rfl
theorem closedF17 : closedN OF17 statesF17 32767 = true := by kernel_rfl
theorem flatF17 {cs1 cs2 cs3 : List Value} {t1 s1 t2 s2 t3 s3 n1 n2 k : Nat} {w s q xa xb R D x n a b F0 F1 G0 G1 e6 e7 S : Int} (f1 : cs1.all Ex.flat = true) (f2 : cs2.all Ex.flat = true) (f3 : cs3.all Ex.flat = true) : ∀ m o, (o, true) ∈ hpF17 cs1 cs2 cs3 t1 s1 t2 s2 t3 s3 n1 n2 k w s q xa xb R D x n a b F0 F1 G0 G1 e6 e7 S m → FlatO o := by
  intro m o ho
  unfold hpF17 baseF bitC at ho
  simp only [cond, List.cons_append, List.nil_append, List.mem_cons, List.not_mem_nil, or_false, Prod.mk.injEq, Bool.true_eq_false, and_false, false_or] at ho
  rcases ho with ⟨rfl, _⟩ | ⟨rfl, _⟩ | ⟨rfl, _⟩ | ⟨rfl, _⟩ | ho | ho | ho | ho
  · exact flatO_of flatP
  · exact flatO_of f1
  · exact flatO_of f2
  · exact flatO_of f3
  all_goals
    split at ho <;> first
      | (cases ho; done)
      | (injection ho with h4 h5; subst h4; exact flatO_of (by assumption))
theorem cndF17_ok {cs1 cs2 cs3 : List Value} {t1 s1 t2 s2 t3 s3 n1 n2 k : Nat} {w s q xa xb R D x n a b F0 F1 G0 G1 e6 e7 S : Int} (h1 : okCp (argA n1 n2 (k + 1)) cs1 cs2 cs3) (h2 : okP (AR n1 n2 k w s q R x n) (cpS cs1 cs2 cs3 (k + 1))) : ∀ j, cndF17 cs1 cs2 cs3 t1 s1 t2 s2 t3 s3 n1 n2 k w s q xa xb R D x n a b F0 F1 G0 G1 e6 e7 S j = (ansF17 j).take (cndF17 cs1 cs2 cs3 t1 s1 t2 s2 t3 s3 n1 n2 k w s q xa xb R D x n a b F0 F1 G0 G1 e6 e7 S j).length := by
  intro j
  unfold cndF17 ansF17
  split
  · rw [tru_iff.2 h1]; rfl
  · rw [tru_iff.2 h2]; rfl
  · rfl
theorem padF17 (cs1 cs2 cs3 : List Value) (t1 s1 t2 s2 t3 s3 n1 n2 k : Nat) (w s q xa xb R D x n a b F0 F1 G0 G1 e6 e7 S : Int) : heapL ((hpF17 cs1 cs2 cs3 t1 s1 t2 s2 t3 s3 n1 n2 k w s q xa xb R D x n a b F0 F1 G0 G1 e6 e7 S 0).map (·.1)) = heapL ((baseF17 cs1 cs2 cs3 t1 s1 t2 s2 t3 s3 n1 n2 k w s q xa xb R D x n a b F0 F1 G0 G1 e6 e7 S).map (·.1) ++ List.replicate 4 .dead) := by kernel_rfl
theorem ordF17 {cs1 cs2 cs3 : List Value} {t1 s1 t2 s2 t3 s3 n1 n2 k : Nat} {w s q xa xb R D x n a b F0 F1 G0 G1 e6 e7 S : Int} (f1 : cs1.all Ex.flat = true) (f2 : cs2.all Ex.flat = true) (f3 : cs3.all Ex.flat = true) (h1 : okCp (argA n1 n2 (k + 1)) cs1 cs2 cs3) (h2 : okP (AR n1 n2 k w s q R x n) (cpS cs1 cs2 cs3 (k + 1))) : Orders (selfA (qS (tabW CF1_))) Tryd.prog 7 OF17 24 (fun m => m ∈ statesF17) (fun m => absT (tmL 277 (liveF17 cs1 cs2 cs3 t1 s1 t2 s2 t3 s3 n1 n2 k w s q xa xb R D x n a b F0 F1 G0 G1 e6 e7 S m))) (fun m => heapL ((hpF17 cs1 cs2 cs3 t1 s1 t2 s2 t3 s3 n1 n2 k w s q xa xb R D x n a b F0 F1 G0 G1 e6 e7 S m).map (·.1))) 32767 :=
  orders_ofW statesF17 (fixF17 cs1 cs2 cs3 t1 s1 t2 s2 t3 s3 n1 n2 k w s q xa xb R D x n a b F0 F1 G0 G1 e6 e7 S) (obsF17 cs1 cs2 cs3 t1 s1 t2 s2 t3 s3 n1 n2 k w s q xa xb R D x n a b F0 F1 G0 G1 e6 e7 S) (cndF17_ok h1 h2) (goodF17 cs1 cs2 cs3 t1 s1 t2 s2 t3 s3 n1 n2 k w s q xa xb R D x n a b F0 F1 G0 G1 e6 e7 S) closedF17 (flatF17 f1 f2 f3)
theorem sndF17 {cs1 cs2 cs3 : List Value} {t1 s1 t2 s2 t3 s3 n1 n2 k : Nat} {w s q xa xb R D x n a b F0 F1 G0 G1 e6 e7 S : Int} (f1 : cs1.all Ex.flat = true) (f2 : cs2.all Ex.flat = true) (f3 : cs3.all Ex.flat = true) (h1 : okCp (argA n1 n2 (k + 1)) cs1 cs2 cs3) (h2 : okP (AR n1 n2 k w s q R x n) (cpS cs1 cs2 cs3 (k + 1))) (ro : Option Nat) {tm0 : Array Value} {H0 : CH} (hk : H0.length = 24) (hst : Restate 24 tm0 H0 (absT (tmL 277 (liveF17 cs1 cs2 cs3 t1 s1 t2 s2 t3 s3 n1 n2 k w s q xa xb R D x n a b F0 F1 G0 G1 e6 e7 S 0))) (heapL ((baseF17 cs1 cs2 cs3 t1 s1 t2 s2 t3 s3 n1 n2 k w s q xa xb R D x n a b F0 F1 G0 G1 e6 e7 S).map (·.1)))) :
    Sound Tryd.prog 7 (.code (.region 17 OF17 true) ro tm0 H0 []) (.ex .normal (absT (tmL 277 (liveF17 cs1 cs2 cs3 t1 s1 t2 s2 t3 s3 n1 n2 k w s q xa xb R D x n a b F0 F1 G0 G1 e6 e7 S 32767))) (heapL ((hpF17 cs1 cs2 cs3 t1 s1 t2 s2 t3 s3 n1 n2 k w s q xa xb R D x n a b F0 F1 G0 G1 e6 e7 S 32767).map (·.1))) []) := by
  have ho := ordF17 (cs1 := cs1) (cs2 := cs2) (cs3 := cs3) (t1 := t1) (s1 := s1) (t2 := t2) (s2 := s2) (t3 := t3) (s3 := s3) (n1 := n1) (n2 := n2) (k := k) (w := w) (s := s) (q := q) (xa := xa) (xb := xb) (R := R) (D := D) (x := x) (n := n) (a := a) (b := b) (F0 := F0) (F1 := F1) (G0 := G0) (G1 := G1) (e6 := e6) (e7 := e7) (S := S) f1 f2 f3 h1 h2
  have hr := padF17 cs1 cs2 cs3 t1 s1 t2 s2 t3 s3 n1 n2 k w s q xa xb R D x n a b F0 F1 G0 G1 e6 e7 S
  generalize liveF17 cs1 cs2 cs3 t1 s1 t2 s2 t3 s3 n1 n2 k w s q xa xb R D x n a b F0 F1 G0 G1 e6 e7 S = lv at *
  generalize hpF17 cs1 cs2 cs3 t1 s1 t2 s2 t3 s3 n1 n2 k w s q xa xb R D x n a b F0 F1 G0 G1 e6 e7 S = hp at *
  generalize baseF17 cs1 cs2 cs3 t1 s1 t2 s2 t3 s3 n1 n2 k w s q xa xb R D x n a b F0 F1 G0 G1 e6 e7 S = bs at *
  rw [← hk] at ho hst
  exact orders_sound2 (tmS := fun m => absT (tmL 277 (lv m))) (HS := fun m => heapL ((hp m).map (·.1))) (mF := 32767) sfF1 mix12 ho (by rw [hk]; decide) (by decide) hr hst ro
theorem fbF17 {cs1 cs2 cs3 : List Value} {t1 s1 t2 s2 t3 s3 n1 n2 k : Nat} {w s q xa xb R D x n a b F0 F1 G0 G1 e6 e7 S : Int} (f1 : cs1.all Ex.flat = true) (f2 : cs2.all Ex.flat = true) (f3 : cs3.all Ex.flat = true) : ∀ o, (o, true) ∈ baseF17 cs1 cs2 cs3 t1 s1 t2 s2 t3 s3 n1 n2 k w s q xa xb R D x n a b F0 F1 G0 G1 e6 e7 S → FlatO o := fun o ho =>
  flatF17 (cs1 := cs1) (cs2 := cs2) (cs3 := cs3) (t1 := t1) (s1 := s1) (t2 := t2) (s2 := s2) (t3 := t3) (s3 := s3) (n1 := n1) (n2 := n2) (k := k) (w := w) (s := s) (q := q) (xa := xa) (xb := xb) (R := R) (D := D) (x := x) (n := n) (a := a) (b := b) (F0 := F0) (F1 := F1) (G0 := G0) (G1 := G1) (e6 := e6) (e7 := e7) (S := S) f1 f2 f3 0 o (by unfold hpF17; exact List.mem_append_left _ (List.mem_append_left _ ho))
end Go.Proofs.YtbocpikgochioaaDoor.Ways
namespace Go.Proofs.YtbocpikgochioaaDoor.Ways
open Go Go.Ex
noncomputable def OF29 : Array Oper := regOps Tryd.f6 29
def statesF29 : List Nat := [0, 1, 3, 4, 5, 7, 8, 9, 11, 12, 13, 15, 24, 25, 27, 28, 29, 31, 60, 61, 63, 64, 65, 67, 68, 69, 71, 72, 73, 75, 76, 77, 79, 88, 89, 91, 92, 93, 95, 124, 125, 127, 255, 511, 1023, 1535, 2047, 2048, 2049, 2051, 2052, 2053, 2055, 2056, 2057, 2059, 2060, 2061, 2063, 2072, 2073, 2075, 2076, 2077, 2079, 2108, 2109, 2111, 2112, 2113, 2115, 2116, 2117, 2119, 2120, 2121, 2123, 2124, 2125, 2127, 2136, 2137, 2139, 2140, 2141, 2143, 2172, 2173, 2175, 2303, 2559, 3071, 3583, 4095, 7167, 8191, 16383]
def ansF29 (j : Nat) : List Bool :=
  match j with
  | 1 => [true]
  | 7 => [true]
  | _ => []
noncomputable def liveF29 (cs1 cs2 cs3 : List Value) (_t1 _s1 _t2 _s2 _t3 _s3 n1 n2 k : Nat) (w s q _xa _xb _R _D _x n _a _b _F0 _F1 _G0 _G1 e6 e7 S : Int) (m : Nat) : List (Nat × Value) := [(3, pt 7 0), (4, pt 8 0), (20, pt 21 0), (21, i e6), (22, pt 25 0), (23, i e7), (24, i S), (25, i n)] ++ bitV m 0 (199, blV n1 n1 n2 n2 (sl 6 0 (k + 1) (k + 1))) ++ bitV m 1 (200, cutV false 26 n1 n2 (k + 1)) ++ bitV m 2 (201, flV w s q) ++ bitV m 3 (202, pt 8 2) ++ bitV m 4 (203, i q) ++ bitV m 5 (204, flV w s q) ++ bitV m 6 (205, i n) ++ bitV m 7 (206, (tp [ag [i (mLoE cs1 cs2 cs3 n1 n2 k w s q n), i (mHiE cs1 cs2 cs3 n1 n2 k w s q n)], i (hNE cs1 cs2 cs3 n1 n2 k w s q n)])) ++ bitV m 8 (198, (tp [ag [i (mLoE cs1 cs2 cs3 n1 n2 k w s q n), i (mHiE cs1 cs2 cs3 n1 n2 k w s q n)], i (hNE cs1 cs2 cs3 n1 n2 k w s q n)])) ++ bitV m 9 (207, ag [i (mLoE cs1 cs2 cs3 n1 n2 k w s q n), i (mHiE cs1 cs2 cs3 n1 n2 k w s q n)]) ++ bitV m 10 (208, i (hNE cs1 cs2 cs3 n1 n2 k w s q n)) ++ bitV m 11 (26, pt 29 0) ++ bitV m 13 (27, i (hNE cs1 cs2 cs3 n1 n2 k w s q n))
noncomputable def baseF29 (cs1 cs2 cs3 : List Value) (t1 s1 t2 s2 t3 s3 n1 n2 k : Nat) (w s q xa xb _R _D _x _n _a _b F0 F1 G0 G1 _e6 _e7 _S : Int) : List (CO × Bool) := baseF n1 n2 k w s q xa xb cs1 t1 s1 cs2 t2 s2 cs3 t3 s3 ++ [(.dead, false), (.dead, false), (.dead, false), (.dead, false), (.dead, false), (.dead, false), (.dead, false), (.dead, false)] ++ [(.dead, false), (.dead, false), (.dead, false), (.cells [i F0, i F1] 61 1 true, false)] ++ [(.dead, false), (.dead, false), (.dead, false), (.cells [i G0, i G1] 61 1 true, false)]
noncomputable def hpF29 (cs1 cs2 cs3 : List Value) (t1 s1 t2 s2 t3 s3 n1 n2 k : Nat) (w s q xa xb _R _D _x n _a _b F0 F1 G0 G1 _e6 _e7 _S : Int) (m : Nat) : List (CO × Bool) := baseF n1 n2 k w s q xa xb cs1 t1 s1 cs2 t2 s2 cs3 t3 s3 ++ [(.dead, false), (.dead, false), (.dead, false), (.dead, false), (.dead, false), (.dead, false), (.dead, false), (.dead, false)] ++ [(.dead, false), (.dead, false), (.dead, false), (.cells [i F0, i F1] 61 1 true, false)] ++ [(.dead, false), (.dead, false), (.dead, false), (.cells [i G0, i G1] 61 1 true, false)] ++ [bitC m 1 (.cells cs1 3 1 false, true), bitC m 1 (.cells cs2 3 1 false, true), bitC m 1 (.cells cs3 103 4 false, true)] ++ [bitC m 11 (.cells (cond (Nat.testBit m 12) [i (mLoE cs1 cs2 cs3 n1 n2 k w s q n), i (mHiE cs1 cs2 cs3 n1 n2 k w s q n)] [i 0, i 0]) 61 1 true, false)]
def rhoF29 (j : Nat) : List Nat :=
  match j with
  | 1 => [0, 1, 2, 3, 4, 5, 6, 7, 8, 9, 10, 11, 12, 13, 14, 15, 16, 17, 18, 19, 20, 21, 22, 23, 24, 25, 30, 31, 32, 29]
  | 11 => [0, 1, 2, 3, 4, 5, 6, 7, 8, 9, 10, 11, 12, 13, 14, 15, 16, 17, 18, 19, 20, 21, 22, 23, 24, 25, 26, 27, 28, 30]
  | _ => List.range 30
def lenF29 (j : Nat) : Nat :=
  match j with
  | 1 => 33
  | 11 => 31
  | _ => 30
noncomputable def cndF29 (cs1 cs2 cs3 : List Value) (_t1 _s1 _t2 _s2 _t3 _s3 n1 n2 k : Nat) (w s q _xa _xb _R _D _x n _a _b _F0 _F1 _G0 _G1 _e6 _e7 _S : Int) (j : Nat) : List Bool :=
  match j with
  | 1 => [tru (okCp (argA n1 n2 (k + 1)) cs1 cs2 cs3)]
  | 7 => [tru (okFc (AN n1 n2 k w s q n) (cpS cs1 cs2 cs3 (k + 1)))]
  | _ => []
theorem fixF29 (cs1 cs2 cs3 : List Value) (t1 s1 t2 s2 t3 s3 n1 n2 k : Nat) (w s q xa xb R D x n a b F0 F1 G0 G1 e6 e7 S : Int) : (trsN OF29 statesF29).map (outW (tabW CF1_) Tryd.prog 7 CF1_ Fn.top_Finest OF29 277 (liveF29 cs1 cs2 cs3 t1 s1 t2 s2 t3 s3 n1 n2 k w s q xa xb R D x n a b F0 F1 G0 G1 e6 e7 S) (hpF29 cs1 cs2 cs3 t1 s1 t2 s2 t3 s3 n1 n2 k w s q xa xb R D x n a b F0 F1 G0 G1 e6 e7 S)) = (trsN OF29 statesF29).map fun t => (outW (tabW CF1_) Tryd.prog 7 CF1_ Fn.top_Finest OF29 277 (liveF29 cs1 cs2 cs3 t1 s1 t2 s2 t3 s3 n1 n2 k w s q xa xb R D x n a b F0 F1 G0 G1 e6 e7 S) (hpF29 cs1 cs2 cs3 t1 s1 t2 s2 t3 s3 n1 n2 k w s q xa xb R D x n a b F0 F1 G0 G1 e6 e7 S) t).fix := by kernel_rfl
theorem obsF29 (cs1 cs2 cs3 : List Value) (t1 s1 t2 s2 t3 s3 n1 n2 k : Nat) (w s q xa xb R D x n a b F0 F1 G0 G1 e6 e7 S : Int) : (trsN OF29 statesF29).map (obsW (tabW CF1_) Tryd.prog 7 CF1_ Fn.top_Finest OF29 277 (liveF29 cs1 cs2 cs3 t1 s1 t2 s2 t3 s3 n1 n2 k w s q xa xb R D x n a b F0 F1 G0 G1 e6 e7 S) (hpF29 cs1 cs2 cs3 t1 s1 t2 s2 t3 s3 n1 n2 k w s q xa xb R D x n a b F0 F1 G0 G1 e6 e7 S) rhoF29 ansF29) = (trsN OF29 statesF29).map (expN 277 (liveF29 cs1 cs2 cs3 t1 s1 t2 s2 t3 s3 n1 n2 k w s q xa xb R D x n a b F0 F1 G0 G1 e6 e7 S) (hpF29 cs1 cs2 cs3 t1 s1 t2 s2 t3 s3 n1 n2 k w s q xa xb R D x n a b F0 F1 G0 G1 e6 e7 S) rhoF29 (cndF29 cs1 cs2 cs3 t1 s1 t2 s2 t3 s3 n1 n2 k w s q xa xb R D x n a b F0 F1 G0 G1 e6 e7 S) lenF29) := by kernel_rfl
theorem goodF29 (cs1 cs2 cs3 : List Value) (t1 s1 t2 s2 t3 s3 n1 n2 k : Nat) (w s q xa xb R D x n a b F0 F1 G0 G1 e6 e7 S : Int) : ((trsN OF29 statesF29).all fun t => goodR 26 (lenF29 t.2) (liveF29 cs1 cs2 cs3 t1 s1 t2 s2 t3 s3 n1 n2 k w s q xa xb R D x n a b F0 F1 G0 G1 e6 e7 S (t.1 ||| 2 ^ t.2)) (hpF29 cs1 cs2 cs3 t1 s1 t2 s2 t3 s3 n1 n2 k w s q xa xb R D x n a b F0 F1 G0 G1 e6 e7 S (t.1 ||| 2 ^ t.2)) (rhoF29 t.2)) = true := by kernel_rfl
theorem closedF29 : closedN OF29 statesF29 16383 = true := by kernel_rfl
theorem flatF29 {cs1 cs2 cs3 : List Value} {t1 s1 t2 s2 t3 s3 n1 n2 k : Nat} {w s q xa xb R D x n a b F0 F1 G0 G1 e6 e7 S : Int} (f1 : cs1.all Ex.flat = true) (f2 : cs2.all Ex.flat = true) (f3 : cs3.all Ex.flat = true) : ∀ m o, (o, true) ∈ hpF29 cs1 cs2 cs3 t1 s1 t2 s2 t3 s3 n1 n2 k w s q xa xb R D x n a b F0 F1 G0 G1 e6 e7 S m → FlatO o := by
  intro m o ho
  unfold hpF29 baseF bitC at ho
  simp only [cond, List.cons_append, List.nil_append, List.mem_cons, List.not_mem_nil, or_false, Prod.mk.injEq, Bool.true_eq_false, and_false, false_or] at ho
  rcases ho with ⟨rfl, _⟩ | ⟨rfl, _⟩ | ⟨rfl, _⟩ | ⟨rfl, _⟩ | ho | ho | ho | ho
  · exact flatO_of flatP
  · exact flatO_of f1
  · exact flatO_of f2
  · exact flatO_of f3
  all_goals
    split at ho <;> first
      | (cases ho; done)
      | (injection ho with h4 h5; subst h4; exact flatO_of (by assumption))
theorem cndF29_ok {cs1 cs2 cs3 : List Value} {t1 s1 t2 s2 t3 s3 n1 n2 k : Nat} {w s q xa xb R D x n a b F0 F1 G0 G1 e6 e7 S : Int} (h1 : okCp (argA n1 n2 (k + 1)) cs1 cs2 cs3) (h2 : okFc (AN n1 n2 k w s q n) (cpS cs1 cs2 cs3 (k + 1))) : ∀ j, cndF29 cs1 cs2 cs3 t1 s1 t2 s2 t3 s3 n1 n2 k w s q xa xb R D x n a b F0 F1 G0 G1 e6 e7 S j = (ansF29 j).take (cndF29 cs1 cs2 cs3 t1 s1 t2 s2 t3 s3 n1 n2 k w s q xa xb R D x n a b F0 F1 G0 G1 e6 e7 S j).length := by
  intro j
  unfold cndF29 ansF29
  split
  · rw [tru_iff.2 h1]; rfl
  · rw [tru_iff.2 h2]; rfl
  · rfl
theorem padF29 (cs1 cs2 cs3 : List Value) (t1 s1 t2 s2 t3 s3 n1 n2 k : Nat) (w s q xa xb R D x n a b F0 F1 G0 G1 e6 e7 S : Int) : heapL ((hpF29 cs1 cs2 cs3 t1 s1 t2 s2 t3 s3 n1 n2 k w s q xa xb R D x n a b F0 F1 G0 G1 e6 e7 S 0).map (·.1)) = heapL ((baseF29 cs1 cs2 cs3 t1 s1 t2 s2 t3 s3 n1 n2 k w s q xa xb R D x n a b F0 F1 G0 G1 e6 e7 S).map (·.1) ++ List.replicate 4 .dead) := by kernel_rfl
theorem ordF29 {cs1 cs2 cs3 : List Value} {t1 s1 t2 s2 t3 s3 n1 n2 k : Nat} {w s q xa xb R D x n a b F0 F1 G0 G1 e6 e7 S : Int} (f1 : cs1.all Ex.flat = true) (f2 : cs2.all Ex.flat = true) (f3 : cs3.all Ex.flat = true) (h1 : okCp (argA n1 n2 (k + 1)) cs1 cs2 cs3) (h2 : okFc (AN n1 n2 k w s q n) (cpS cs1 cs2 cs3 (k + 1))) : Orders (selfA (qS (tabW CF1_))) Tryd.prog 7 OF29 26 (fun m => m ∈ statesF29) (fun m => absT (tmL 277 (liveF29 cs1 cs2 cs3 t1 s1 t2 s2 t3 s3 n1 n2 k w s q xa xb R D x n a b F0 F1 G0 G1 e6 e7 S m))) (fun m => heapL ((hpF29 cs1 cs2 cs3 t1 s1 t2 s2 t3 s3 n1 n2 k w s q xa xb R D x n a b F0 F1 G0 G1 e6 e7 S m).map (·.1))) 16383 :=
  orders_ofW statesF29 (fixF29 cs1 cs2 cs3 t1 s1 t2 s2 t3 s3 n1 n2 k w s q xa xb R D x n a b F0 F1 G0 G1 e6 e7 S) (obsF29 cs1 cs2 cs3 t1 s1 t2 s2 t3 s3 n1 n2 k w s q xa xb R D x n a b F0 F1 G0 G1 e6 e7 S) (cndF29_ok h1 h2) (goodF29 cs1 cs2 cs3 t1 s1 t2 s2 t3 s3 n1 n2 k w s q xa xb R D x n a b F0 F1 G0 G1 e6 e7 S) closedF29 (flatF29 f1 f2 f3)
theorem sndF29 {cs1 cs2 cs3 : List Value} {t1 s1 t2 s2 t3 s3 n1 n2 k : Nat} {w s q xa xb R D x n a b F0 F1 G0 G1 e6 e7 S : Int} (f1 : cs1.all Ex.flat = true) (f2 : cs2.all Ex.flat = true) (f3 : cs3.all Ex.flat = true) (h1 : okCp (argA n1 n2 (k + 1)) cs1 cs2 cs3) (h2 : okFc (AN n1 n2 k w s q n) (cpS cs1 cs2 cs3 (k + 1))) (ro : Option Nat) {tm0 : Array Value} {H0 : CH} (hk : H0.length = 26) (hst : Restate 26 tm0 H0 (absT (tmL 277 (liveF29 cs1 cs2 cs3 t1 s1 t2 s2 t3 s3 n1 n2 k w s q xa xb R D x n a b F0 F1 G0 G1 e6 e7 S 0))) (heapL ((baseF29 cs1 cs2 cs3 t1 s1 t2 s2 t3 s3 n1 n2 k w s q xa xb R D x n a b F0 F1 G0 G1 e6 e7 S).map (·.1)))) :
    Sound Tryd.prog 7 (.code (.region 29 OF29 true) ro tm0 H0 []) (.ex .normal (absT (tmL 277 (liveF29 cs1 cs2 cs3 t1 s1 t2 s2 t3 s3 n1 n2 k w s q xa xb R D x n a b F0 F1 G0 G1 e6 e7 S 16383))) (heapL ((hpF29 cs1 cs2 cs3 t1 s1 t2 s2 t3 s3 n1 n2 k w s q xa xb R D x n a b F0 F1 G0 G1 e6 e7 S 16383).map (·.1))) []) := by
  have ho := ordF29 (cs1 := cs1) (cs2 := cs2) (cs3 := cs3) (t1 := t1) (s1 := s1) (t2 := t2) (s2 := s2) (t3 := t3) (s3 := s3) (n1 := n1) (n2 := n2) (k := k) (w := w) (s := s) (q := q) (xa := xa) (xb := xb) (R := R) (D := D) (x := x) (n := n) (a := a) (b := b) (F0 := F0) (F1 := F1) (G0 := G0) (G1 := G1) (e6 := e6) (e7 := e7) (S := S) f1 f2 f3 h1 h2
  have hr := padF29 cs1 cs2 cs3 t1 s1 t2 s2 t3 s3 n1 n2 k w s q xa xb R D x n a b F0 F1 G0 G1 e6 e7 S
  generalize liveF29 cs1 cs2 cs3 t1 s1 t2 s2 t3 s3 n1 n2 k w s q xa xb R D x n a b F0 F1 G0 G1 e6 e7 S = lv at *
  generalize hpF29 cs1 cs2 cs3 t1 s1 t2 s2 t3 s3 n1 n2 k w s q xa xb R D x n a b F0 F1 G0 G1 e6 e7 S = hp at *
  generalize baseF29 cs1 cs2 cs3 t1 s1 t2 s2 t3 s3 n1 n2 k w s q xa xb R D x n a b F0 F1 G0 G1 e6 e7 S = bs at *
  rw [← hk] at ho hst
  exact orders_sound2 (tmS := fun m => absT (tmL 277 (lv m))) (HS := fun m => heapL ((hp m).map (·.1))) (mF := 16383) sfF1 mix12 ho (by rw [hk]; decide) (by decide) hr hst ro
theorem fbF29 {cs1 cs2 cs3 : List Value} {t1 s1 t2 s2 t3 s3 n1 n2 k : Nat} {w s q xa xb R D x n a b F0 F1 G0 G1 e6 e7 S : Int} (f1 : cs1.all Ex.flat = true) (f2 : cs2.all Ex.flat = true) (f3 : cs3.all Ex.flat = true) : ∀ o, (o, true) ∈ baseF29 cs1 cs2 cs3 t1 s1 t2 s2 t3 s3 n1 n2 k w s q xa xb R D x n a b F0 F1 G0 G1 e6 e7 S → FlatO o := fun o ho =>
  flatF29 (cs1 := cs1) (cs2 := cs2) (cs3 := cs3) (t1 := t1) (s1 := s1) (t2 := t2) (s2 := s2) (t3 := t3) (s3 := s3) (n1 := n1) (n2 := n2) (k := k) (w := w) (s := s) (q := q) (xa := xa) (xb := xb) (R := R) (D := D) (x := x) (n := n) (a := a) (b := b) (F0 := F0) (F1 := F1) (G0 := G0) (G1 := G1) (e6 := e6) (e7 := e7) (S := S) f1 f2 f3 0 o (by unfold hpF29; exact List.mem_append_left _ (List.mem_append_left _ ho))
end Go.Proofs.YtbocpikgochioaaDoor.Ways
namespace Go.Proofs.YtbocpikgochioaaDoor.Ways
open Go Go.Ex
noncomputable def OF30 : Array Oper := regOps Tryd.f6 30
def statesF30 : List Nat := [0, 1, 3, 4, 5, 7, 8, 9, 11, 12, 13, 15, 24, 25, 27, 28, 29, 31, 60, 61, 63, 64, 65, 67, 68, 69, 71, 72, 73, 75, 76, 77, 79, 88, 89, 91, 92, 93, 95, 124, 125, 127, 255, 511, 1023, 1535, 2047, 2048, 2049, 2051, 2052, 2053, 2055, 2056, 2057, 2059, 2060, 2061, 2063, 2072, 2073, 2075, 2076, 2077, 2079, 2108, 2109, 2111, 2112, 2113, 2115, 2116, 2117, 2119, 2120, 2121, 2123, 2124, 2125, 2127, 2136, 2137, 2139, 2140, 2141, 2143, 2172, 2173, 2175, 2303, 2559, 3071, 3583, 4095, 7167, 8191, 16383]
def ansF30 (j : Nat) : List Bool :=
  match j with
  | 1 => [true]
  | 7 => [true]
  | _ => []
noncomputable def liveF30 (cs1 cs2 cs3 : List Value) (_t1 _s1 _t2 _s2 _t3 _s3 n1 n2 k : Nat) (w s q _xa _xb _R _D x n _a _b _F0 _F1 _G0 _G1 e6 e7 S : Int) (m : Nat) : List (Nat × Value) := [(3, pt 7 0), (4, pt 8 0), (20, pt 21 0), (21, i e6), (22, pt 25 0), (23, i e7), (24, i S), (25, i n), (26, pt 29 0), (27, i x)] ++ bitV m 0 (210, blV n1 n1 n2 n2 (sl 6 0 (k + 1) (k + 1))) ++ bitV m 1 (211, cutV false 30 n1 n2 (k + 1)) ++ bitV m 2 (212, flV w s q) ++ bitV m 3 (213, pt 8 2) ++ bitV m 4 (214, i q) ++ bitV m 5 (215, flV w s q) ++ bitV m 6 (216, i n) ++ bitV m 7 (217, (tp [ag [i (tLoE cs1 cs2 cs3 n1 n2 k w s q n), i (tHiE cs1 cs2 cs3 n1 n2 k w s q n)], i (hNE cs1 cs2 cs3 n1 n2 k w s q n)])) ++ bitV m 8 (209, (tp [ag [i (tLoE cs1 cs2 cs3 n1 n2 k w s q n), i (tHiE cs1 cs2 cs3 n1 n2 k w s q n)], i (hNE cs1 cs2 cs3 n1 n2 k w s q n)])) ++ bitV m 9 (218, ag [i (tLoE cs1 cs2 cs3 n1 n2 k w s q n), i (tHiE cs1 cs2 cs3 n1 n2 k w s q n)]) ++ bitV m 10 (219, i (hNE cs1 cs2 cs3 n1 n2 k w s q n)) ++ bitV m 11 (28, pt 33 0) ++ bitV m 13 (29, i (hNE cs1 cs2 cs3 n1 n2 k w s q n))
noncomputable def baseF30 (cs1 cs2 cs3 : List Value) (t1 s1 t2 s2 t3 s3 n1 n2 k : Nat) (w s q xa xb _R _D _x _n a b F0 F1 G0 G1 _e6 _e7 _S : Int) : List (CO × Bool) := baseF n1 n2 k w s q xa xb cs1 t1 s1 cs2 t2 s2 cs3 t3 s3 ++ [(.dead, false), (.dead, false), (.dead, false), (.dead, false), (.dead, false), (.dead, false), (.dead, false), (.dead, false)] ++ [(.dead, false), (.dead, false), (.dead, false), (.cells [i F0, i F1] 61 1 true, false)] ++ [(.dead, false), (.dead, false), (.dead, false), (.cells [i G0, i G1] 61 1 true, false)] ++ [(.dead, false), (.dead, false), (.dead, false), (.cells [i a, i b] 61 1 true, false)]
noncomputable def hpF30 (cs1 cs2 cs3 : List Value) (t1 s1 t2 s2 t3 s3 n1 n2 k : Nat) (w s q xa xb _R _D _x n a b F0 F1 G0 G1 _e6 _e7 _S : Int) (m : Nat) : List (CO × Bool) := baseF n1 n2 k w s q xa xb cs1 t1 s1 cs2 t2 s2 cs3 t3 s3 ++ [(.dead, false), (.dead, false), (.dead, false), (.dead, false), (.dead, false), (.dead, false), (.dead, false), (.dead, false)] ++ [(.dead, false), (.dead, false), (.dead, false), (.cells [i F0, i F1] 61 1 true, false)] ++ [(.dead, false), (.dead, false), (.dead, false), (.cells [i G0, i G1] 61 1 true, false)] ++ [(.dead, false), (.dead, false), (.dead, false), (.cells [i a, i b] 61 1 true, false)] ++ [bitC m 1 (.cells cs1 3 1 false, true), bitC m 1 (.cells cs2 3 1 false, true), bitC m 1 (.cells cs3 103 4 false, true)] ++ [bitC m 11 (.cells (cond (Nat.testBit m 12) [i (tLoE cs1 cs2 cs3 n1 n2 k w s q n), i (tHiE cs1 cs2 cs3 n1 n2 k w s q n)] [i 0, i 0]) 61 1 true, false)]
def rhoF30 (j : Nat) : List Nat :=
  match j with
  | 1 => [0, 1, 2, 3, 4, 5, 6, 7, 8, 9, 10, 11, 12, 13, 14, 15, 16, 17, 18, 19, 20, 21, 22, 23, 24, 25, 26, 27, 28, 29, 34, 35, 36, 33]
  | 11 => [0, 1, 2, 3, 4, 5, 6, 7, 8, 9, 10, 11, 12, 13, 14, 15, 16, 17, 18, 19, 20, 21, 22, 23, 24, 25, 26, 27, 28, 29, 30, 31, 32, 34]
  | _ => List.range 34
def lenF30 (j : Nat) : Nat :=
  match j with
  | 1 => 37
  | 11 => 35
  | _ => 34
noncomputable def cndF30 (cs1 cs2 cs3 : List Value) (_t1 _s1 _t2 _s2 _t3 _s3 n1 n2 k : Nat) (w s q _xa _xb _R _D _x n _a _b _F0 _F1 _G0 _G1 _e6 _e7 _S : Int) (j : Nat) : List Bool :=
  match j with
  | 1 => [tru (okCp (argA n1 n2 (k + 1)) cs1 cs2 cs3)]
  | 7 => [tru (okFc (AN n1 n2 k w s q n) (cpS cs1 cs2 cs3 (k + 1)))]
  | _ => []
theorem fixF30 (cs1 cs2 cs3 : List Value) (t1 s1 t2 s2 t3 s3 n1 n2 k : Nat) (w s q xa xb R D x n a b F0 F1 G0 G1 e6 e7 S : Int) : (trsN OF30 statesF30).map (outW (tabW CF1_) Tryd.prog 7 CF1_ Fn.top_Finest OF30 277 (liveF30 cs1 cs2 cs3 t1 s1 t2 s2 t3 s3 n1 n2 k w s q xa xb R D x n a b F0 F1 G0 G1 e6 e7 S) (hpF30 cs1 cs2 cs3 t1 s1 t2 s2 t3 s3 n1 n2 k w s q xa xb R D x n a b F0 F1 G0 G1 e6 e7 S)) = (trsN OF30 statesF30).map fun t => (outW (tabW CF1_) Tryd.prog 7 CF1_ Fn.top_Finest OF30 277 (liveF30 cs1 cs2 cs3 t1 s1 t2 s2 t3 s3 n1 n2 k w s q xa xb R D x n a b F0 F1 G0 G1 e6 e7 S) (hpF30 cs1 cs2 cs3 t1 s1 t2 s2 t3 s3 n1 n2 k w s q xa xb R D x n a b F0 F1 G0 G1 e6 e7 S) t).fix := by kernel_rfl
theorem obsF30 (cs1 cs2 cs3 : List Value) (t1 s1 t2 s2 t3 s3 n1 n2 k : Nat) (w s q xa xb R D x n a b F0 F1 G0 G1 e6 e7 S : Int) : (trsN OF30 statesF30).map (obsW (tabW CF1_) Tryd.prog 7 CF1_ Fn.top_Finest OF30 277 (liveF30 cs1 cs2 cs3 t1 s1 t2 s2 t3 s3 n1 n2 k w s q xa xb R D x n a b F0 F1 G0 G1 e6 e7 S) (hpF30 cs1 cs2 cs3 t1 s1 t2 s2 t3 s3 n1 n2 k w s q xa xb R D x n a b F0 F1 G0 G1 e6 e7 S) rhoF30 ansF30) = (trsN OF30 statesF30).map (expN 277 (liveF30 cs1 cs2 cs3 t1 s1 t2 s2 t3 s3 n1 n2 k w s q xa xb R D x n a b F0 F1 G0 G1 e6 e7 S) (hpF30 cs1 cs2 cs3 t1 s1 t2 s2 t3 s3 n1 n2 k w s q xa xb R D x n a b F0 F1 G0 G1 e6 e7 S) rhoF30 (cndF30 cs1 cs2 cs3 t1 s1 t2 s2 t3 s3 n1 n2 k w s q xa xb R D x n a b F0 F1 G0 G1 e6 e7 S) lenF30) := by kernel_rfl
theorem goodF30 (cs1 cs2 cs3 : List Value) (t1 s1 t2 s2 t3 s3 n1 n2 k : Nat) (w s q xa xb R D x n a b F0 F1 G0 G1 e6 e7 S : Int) : ((trsN OF30 statesF30).all fun t => goodR 30 (lenF30 t.2) (liveF30 cs1 cs2 cs3 t1 s1 t2 s2 t3 s3 n1 n2 k w s q xa xb R D x n a b F0 F1 G0 G1 e6 e7 S (t.1 ||| 2 ^ t.2)) (hpF30 cs1 cs2 cs3 t1 s1 t2 s2 t3 s3 n1 n2 k w s q xa xb R D x n a b F0 F1 G0 G1 e6 e7 S (t.1 ||| 2 ^ t.2)) (rhoF30 t.2)) = true := by kernel_rfl
theorem closedF30 : closedN OF30 statesF30 16383 = true := by kernel_rfl
theorem flatF30 {cs1 cs2 cs3 : List Value} {t1 s1 t2 s2 t3 s3 n1 n2 k : Nat} {w s q xa xb R D x n a b F0 F1 G0 G1 e6 e7 S : Int} (f1 : cs1.all Ex.flat = true) (f2 : cs2.all Ex.flat = true) (f3 : cs3.all Ex.flat = true) : ∀ m o, (o, true) ∈ hpF30 cs1 cs2 cs3 t1 s1 t2 s2 t3 s3 n1 n2 k w s q xa xb R D x n a b F0 F1 G0 G1 e6 e7 S m → FlatO o := by
  intro m o ho
  unfold hpF30 baseF bitC at ho
  simp only [cond, List.cons_append, List.nil_append, List.mem_cons, List.not_mem_nil, or_false, Prod.mk.injEq, Bool.true_eq_false, and_false, false_or] at ho
  rcases ho with ⟨rfl, _⟩ | ⟨rfl, _⟩ | ⟨rfl, _⟩ | ⟨rfl, _⟩ | ho | ho | ho | ho
  · exact flatO_of flatP
  · exact flatO_of f1
  · exact flatO_of f2
  · exact flatO_of f3
  all_goals
    split at ho <;> first
      | (cases ho; done)
      | (injection ho with h4 h5; subst h4; exact flatO_of (by assumption))
theorem cndF30_ok {cs1 cs2 cs3 : List Value} {t1 s1 t2 s2 t3 s3 n1 n2 k : Nat} {w s q xa xb R D x n a b F0 F1 G0 G1 e6 e7 S : Int} (h1 : okCp (argA n1 n2 (k + 1)) cs1 cs2 cs3) (h2 : okFc (AN n1 n2 k w s q n) (cpS cs1 cs2 cs3 (k + 1))) : ∀ j, cndF30 cs1 cs2 cs3 t1 s1 t2 s2 t3 s3 n1 n2 k w s q xa xb R D x n a b F0 F1 G0 G1 e6 e7 S j = (ansF30 j).take (cndF30 cs1 cs2 cs3 t1 s1 t2 s2 t3 s3 n1 n2 k w s q xa xb R D x n a b F0 F1 G0 G1 e6 e7 S j).length := by
  intro j
  unfold cndF30 ansF30
  split
  · rw [tru_iff.2 h1]; rfl
  · rw [tru_iff.2 h2]; rfl
  · rfl
theorem padF30 (cs1 cs2 cs3 : List Value) (t1 s1 t2 s2 t3 s3 n1 n2 k : Nat) (w s q xa xb R D x n a b F0 F1 G0 G1 e6 e7 S : Int) : heapL ((hpF30 cs1 cs2 cs3 t1 s1 t2 s2 t3 s3 n1 n2 k w s q xa xb R D x n a b F0 F1 G0 G1 e6 e7 S 0).map (·.1)) = heapL ((baseF30 cs1 cs2 cs3 t1 s1 t2 s2 t3 s3 n1 n2 k w s q xa xb R D x n a b F0 F1 G0 G1 e6 e7 S).map (·.1) ++ List.replicate 4 .dead) := by kernel_rfl
theorem ordF30 {cs1 cs2 cs3 : List Value} {t1 s1 t2 s2 t3 s3 n1 n2 k : Nat} {w s q xa xb R D x n a b F0 F1 G0 G1 e6 e7 S : Int} (f1 : cs1.all Ex.flat = true) (f2 : cs2.all Ex.flat = true) (f3 : cs3.all Ex.flat = true) (h1 : okCp (argA n1 n2 (k + 1)) cs1 cs2 cs3) (h2 : okFc (AN n1 n2 k w s q n) (cpS cs1 cs2 cs3 (k + 1))) : Orders (selfA (qS (tabW CF1_))) Tryd.prog 7 OF30 30 (fun m => m ∈ statesF30) (fun m => absT (tmL 277 (liveF30 cs1 cs2 cs3 t1 s1 t2 s2 t3 s3 n1 n2 k w s q xa xb R D x n a b F0 F1 G0 G1 e6 e7 S m))) (fun m => heapL ((hpF30 cs1 cs2 cs3 t1 s1 t2 s2 t3 s3 n1 n2 k w s q xa xb R D x n a b F0 F1 G0 G1 e6 e7 S m).map (·.1))) 16383 :=
  orders_ofW statesF30 (fixF30 cs1 cs2 cs3 t1 s1 t2 s2 t3 s3 n1 n2 k w s q xa xb R D x n a b F0 F1 G0 G1 e6 e7 S) (obsF30 cs1 cs2 cs3 t1 s1 t2 s2 t3 s3 n1 n2 k w s q xa xb R D x n a b F0 F1 G0 G1 e6 e7 S) (cndF30_ok h1 h2) (goodF30 cs1 cs2 cs3 t1 s1 t2 s2 t3 s3 n1 n2 k w s q xa xb R D x n a b F0 F1 G0 G1 e6 e7 S) closedF30 (flatF30 f1 f2 f3)
theorem sndF30 {cs1 cs2 cs3 : List Value} {t1 s1 t2 s2 t3 s3 n1 n2 k : Nat} {w s q xa xb R D x n a b F0 F1 G0 G1 e6 e7 S : Int} (f1 : cs1.all Ex.flat = true) (f2 : cs2.all Ex.flat = true) (f3 : cs3.all Ex.flat = true) (h1 : okCp (argA n1 n2 (k + 1)) cs1 cs2 cs3) (h2 : okFc (AN n1 n2 k w s q n) (cpS cs1 cs2 cs3 (k + 1))) (ro : Option Nat) {tm0 : Array Value} {H0 : CH} (hk : H0.length = 30) (hst : Restate 30 tm0 H0 (absT (tmL 277 (liveF30 cs1 cs2 cs3 t1 s1 t2 s2 t3 s3 n1 n2 k w s q xa xb R D x n a b F0 F1 G0 G1 e6 e7 S 0))) (heapL ((baseF30 cs1 cs2 cs3 t1 s1 t2 s2 t3 s3 n1 n2 k w s q xa xb R D x n a b F0 F1 G0 G1 e6 e7 S).map (·.1)))) :
    Sound Tryd.prog 7 (.code (.region 30 OF30 true) ro tm0 H0 []) (.ex .normal (absT (tmL 277 (liveF30 cs1 cs2 cs3 t1 s1 t2 s2 t3 s3 n1 n2 k w s q xa xb R D x n a b F0 F1 G0 G1 e6 e7 S 16383))) (heapL ((hpF30 cs1 cs2 cs3 t1 s1 t2 s2 t3 s3 n1 n2 k w s q xa xb R D x n a b F0 F1 G0 G1 e6 e7 S 16383).map (·.1))) []) := by
  have ho := ordF30 (cs1 := cs1) (cs2 := cs2) (cs3 := cs3) (t1 := t1) (s1 := s1) (t2 := t2) (s2 := s2) (t3 := t3) (s3 := s3) (n1 := n1) (n2 := n2) (k := k) (w := w) (s := s) (q := q) (xa := xa) (xb := xb) (R := R) (D := D) (x := x) (n := n) (a := a) (b := b) (F0 := F0) (F1 := F1) (G0 := G0) (G1 := G1) (e6 := e6) (e7 := e7) (S := S) f1 f2 f3 h1 h2
  have hr := padF30 cs1 cs2 cs3 t1 s1 t2 s2 t3 s3 n1 n2 k w s q xa xb R D x n a b F0 F1 G0 G1 e6 e7 S
  generalize liveF30 cs1 cs2 cs3 t1 s1 t2 s2 t3 s3 n1 n2 k w s q xa xb R D x n a b F0 F1 G0 G1 e6 e7 S = lv at *
  generalize hpF30 cs1 cs2 cs3 t1 s1 t2 s2 t3 s3 n1 n2 k w s q xa xb R D x n a b F0 F1 G0 G1 e6 e7 S = hp at *
  generalize baseF30 cs1 cs2 cs3 t1 s1 t2 s2 t3 s3 n1 n2 k w s q xa xb R D x n a b F0 F1 G0 G1 e6 e7 S = bs at *
  rw [← hk] at ho hst
  exact orders_sound2 (tmS := fun m => absT (tmL 277 (lv m))) (HS := fun m => heapL ((hp m).map (·.1))) (mF := 16383) sfF1 mix12 ho (by rw [hk]; decide) (by decide) hr hst ro
theorem fbF30 {cs1 cs2 cs3 : List Value} {t1 s1 t2 s2 t3 s3 n1 n2 k : Nat} {w s q xa xb R D x n a b F0 F1 G0 G1 e6 e7 S : Int} (f1 : cs1.all Ex.flat = true) (f2 : cs2.all Ex.flat = true) (f3 : cs3.all Ex.flat = true) : ∀ o, (o, true) ∈ baseF30 cs1 cs2 cs3 t1 s1 t2 s2 t3 s3 n1 n2 k w s q xa xb R D x n a b F0 F1 G0 G1 e6 e7 S → FlatO o := fun o ho =>
  flatF30 (cs1 := cs1) (cs2 := cs2) (cs3 := cs3) (t1 := t1) (s1 := s1) (t2 := t2) (s2 := s2) (t3 := t3) (s3 := s3) (n1 := n1) (n2 := n2) (k := k) (w := w) (s := s) (q := q) (xa := xa) (xb := xb) (R := R) (D := D) (x := x) (n := n) (a := a) (b := b) (F0 := F0) (F1 := F1) (G0 := G0) (G1 := G1) (e6 := e6) (e7 := e7) (S := S) f1 f2 f3 0 o (by unfold hpF30; exact List.mem_append_left _ (List.mem_append_left _ ho))
end Go.Proofs.YtbocpikgochioaaDoor.Ways
