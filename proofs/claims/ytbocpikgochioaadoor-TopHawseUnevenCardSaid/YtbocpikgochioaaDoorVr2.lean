import Derived.Test.YtbocpikgochioaaDoorNr1
import Derived.Test.YtbocpikgochioaaDoorVr0
import Derived.Test.YtbocpikgochioaaDoorEngOrd2
namespace Go.Proofs.YtbocpikgochioaaDoor.Ways
open Go Go.Ex
/-! ### light -/
def syNl : Nat → Nat → Bool := on_ [(Fn.ref03_Light, 16)]
noncomputable def spLi : Nat → Nat → Split := at_ [(Fn.law03_light, 6), (Fn.law03_light, 10), (Fn.law03_light, 14)] .bool no_
noncomputable def CLi : Cfg := ⟨TG1, spLi, syNl, noL⟩
noncomputable def CLg : Cfg := ⟨TG1, at_ [(Fn.law03_light, 9)] (.ints []) spLi, syNl, noL⟩
def lgE (w s r0 : Int) : Bool := leF (wrapF .i64 ((wrapF .i64 (1024 * w)).tdiv (wrapF .i64 (s * r0)))) 4096
def lightE (a : ArA) (css : List (List Value)) : Bool := shE a.b.n1 a.b.n2 a.b.n && (!eqF (errB a.b css) 0 || (!eqF (flowE a.w a.s a.q) 0 || lgE a.w a.s (rhoC css 0)))
def rdLi : List Value → Option (List Nat × ArA)
  | [v, .agg ⟨[.int .i64 w, .int .i64 s, .int .i64 q]⟩] => match rdB v with
    | some y => some (y.1, ⟨y.2, w, s, q, 0, 0, 0⟩)
    | none => none
  | _ => none
def ArA.valsL (a : ArA) : List Value := [a.b.val, flV a.w a.s a.q]
theorem rdLi_ok : ∀ args bs a, rdLi args = some (bs, a) → a.valsL.all (renOk (List.range gl ++ bs) 8) = true ∧ args = a.valsL.map (ren (List.range gl ++ bs) 8) := by
  intro args bs a h
  unfold rdLi at h
  split at h
  · split at h
    · rename_i x hx
      cases h
      obtain ⟨h1, h2⟩ := rdB_ok hx
      refine ⟨?_, by rw [h2]; rfl⟩
      show (renOk _ 8 x.2.val && _) = true
      rw [h1]; rfl
    · cases h
  · cases h
def okLi (a : ArA) (css : List (List Value)) : Prop := a.b.nil = false ∧ (a.b.c1 = a.b.n1 ∧ a.b.c2 = a.b.n2 ∧ a.b.c = a.b.n) ∧ fl3 css ∧ (shE a.b.n1 a.b.n2 a.b.n = true → okB3 a.b css)
noncomputable def ligT (cs1 cs2 cs3 : List Value) (n1 n2 n : Nat) (w s q : Int) (g : VT) : VT :=
  askB (tru ((argA n1 n2 n).nil = false ∧ fl3 [cs1, cs2, cs3])) (.br (shE n1 n2 n) (askB (tru (okB3 (argA n1 n2 n) [cs1, cs2, cs3])) (.br (!eqF (errB (argA n1 n2 n) [cs1, cs2, cs3]) 0) (lf true) (.br (!eqF (flowE w s q) 0) (lf true) g))) (lf false))
noncomputable def ligG (s w r0 : Int) : VT := .br (!eqF (wrapF .i64 (s * r0)) 0) (.leaf (b_ (lgE w s r0))) .fail
section
variable {cs1 cs2 cs3 : List Value} {t1 s1 t2 s2 t3 s3 n1 n2 n : Nat} {e1 e2 e3 : Bool} {w s q : Int} {ρ : Nat → Int}
theorem light_sel {g : VT} (h : fl3 [cs1, cs2, cs3]) (hs : shE n1 n2 n = true) (hB : okB3 (argA n1 n2 n) [cs1, cs2, cs3]) (hg : errB (argA n1 n2 n) [cs1, cs2, cs3] = 0 → flowE w s q = 0 → g.sel = some (b_ (lgE w s (rhoE cs3 0)))) :
    (ligT cs1 cs2 cs3 n1 n2 n w s q g).sel = some (b_ (lightE ⟨argA n1 n2 n, w, s, q, 0, 0, 0⟩ [cs1, cs2, cs3])) := by
  have hE : lightE ⟨argA n1 n2 n, w, s, q, 0, 0, 0⟩ [cs1, cs2, cs3] = (shE n1 n2 n && (!eqF (errB (argA n1 n2 n) [cs1, cs2, cs3]) 0 || (!eqF (flowE w s q) 0 || lgE w s (rhoE cs3 0)))) := rfl
  rw [hE]
  unfold ligT
  rw [askB_sel (tru_iff.2 ⟨rfl, h⟩), brB, if_pos hs, askB_sel (tru_iff.2 hB), hs, eqF_d, eqF_d, brN, brN]
  by_cases h1 : errB (argA n1 n2 n) [cs1, cs2, cs3] = 0
  · rw [if_pos h1]
    by_cases h2 : flowE w s q = 0
    · rw [if_pos h2, hg h1 h2]; simp [h1, h2]
    · rw [if_neg h2]; simp [h2, lf, VT.sel]
  · rw [if_neg h1]; simp [h1, lf, VT.sel]
theorem light_no (h : fl3 [cs1, cs2, cs3]) (hs : shE n1 n2 n = false) {x : VT} :
    (askB (tru ((argA n1 n2 n).nil = false ∧ fl3 [cs1, cs2, cs3])) (.br (shE n1 n2 n) x (lf false))).sel = some (b_ (lightE ⟨argA n1 n2 n, w, s, q, 0, 0, 0⟩ [cs1, cs2, cs3])) := by
  have hE : lightE ⟨argA n1 n2 n, w, s, q, 0, 0, 0⟩ [cs1, cs2, cs3] = (shE n1 n2 n && (!eqF (errB (argA n1 n2 n) [cs1, cs2, cs3]) 0 || (!eqF (flowE w s q) 0 || lgE w s (rhoE cs3 0)))) := rfl
  rw [hE, askB_sel (tru_iff.2 ⟨rfl, h⟩), brB, hs]
  rfl
theorem ligG_sel (hb : errB (argA n1 n2 n) [cs1, cs2, cs3] = 0) (hf : flowE w s q = 0) : (ligG s w (rhoE cs3 0)).sel = some (b_ (lgE w s (rhoE cs3 0))) := by
  have hR := rv_of (j := 0) (show bladeE cs1 n1 cs2 n2 (rhoE cs3) n = 0 from hb) hf (by have := (blade_z (show bladeE cs1 n1 cs2 n2 (rhoE cs3) n = 0 from hb)).2.1; omega)
  have hr := hR.r
  have hs := hR.s
  rw [show 4 * 0 = 0 from rfl] at hr
  have m := mul_bd (a := s) (b := rhoE cs3 0) (A := 1000) (B := 200) (by omega) (by omega)
  have m2 : 0 < s * rhoE cs3 0 := Int.mul_pos (by omega) (by omega)
  unfold ligG
  rw [wrapF_in (n := s * rhoE cs3 0) (by omega) (by omega), eqF_d, brN, if_neg (by omega)]
  rfl
theorem lig0 (cs1 cs2 : List Value) (ρ : Nat → Int) (t1 s1 t2 s2 t3 s3 n1 n2 : Nat) (e1 e2 e3 : Bool) (w s q : Int) : (execO Tryd.prog 7 CLi 80 (.call Fn.law03_light ⟨[blV n1 n1 n2 n2 (sl 6 0 0 0), flV w s q]⟩ (hpB cs1 t1 s1 e1 cs2 t2 s2 e2 (ringC ρ 0) t3 s3 e3))).vals = ligT cs1 cs2 (ringC ρ 0) n1 n2 0 w s q .fail := by kernel_rfl
theorem lig1 (cs1 cs2 : List Value) (ρ : Nat → Int) (t1 s1 t2 s2 t3 s3 n1 n2 : Nat) (e1 e2 e3 : Bool) (w s q : Int) : (execO Tryd.prog 7 CLi 80 (.call Fn.law03_light ⟨[blV n1 n1 n2 n2 (sl 6 0 1 1), flV w s q]⟩ (hpB cs1 t1 s1 e1 cs2 t2 s2 e2 (ringC ρ 1) t3 s3 e3))).vals = ligT cs1 cs2 (ringC ρ 1) n1 n2 1 w s q (ligG s w (rhoE (ringC ρ 1) 0)) := by kernel_rfl
theorem lig2 (cs1 cs2 : List Value) (ρ : Nat → Int) (t1 s1 t2 s2 t3 s3 n1 n2 : Nat) (e1 e2 e3 : Bool) (w s q : Int) : (execO Tryd.prog 7 CLi 80 (.call Fn.law03_light ⟨[blV n1 n1 n2 n2 (sl 6 0 2 2), flV w s q]⟩ (hpB cs1 t1 s1 e1 cs2 t2 s2 e2 (ringC ρ 2) t3 s3 e3))).vals = ligT cs1 cs2 (ringC ρ 2) n1 n2 2 w s q (ligG s w (rhoE (ringC ρ 2) 0)) := by kernel_rfl
theorem lig3 (cs1 cs2 : List Value) (ρ : Nat → Int) (t1 s1 t2 s2 t3 s3 n1 n2 : Nat) (e1 e2 e3 : Bool) (w s q : Int) : (execO Tryd.prog 7 CLi 80 (.call Fn.law03_light ⟨[blV n1 n1 n2 n2 (sl 6 0 3 3), flV w s q]⟩ (hpB cs1 t1 s1 e1 cs2 t2 s2 e2 (ringC ρ 3) t3 s3 e3))).vals = ligT cs1 cs2 (ringC ρ 3) n1 n2 3 w s q (ligG s w (rhoE (ringC ρ 3) 0)) := by kernel_rfl
theorem lig17 (cs1 cs2 : List Value) (ρ : Nat → Int) (t1 s1 t2 s2 t3 s3 n1 n2 : Nat) (e1 e2 e3 : Bool) (w s q : Int) : (execO Tryd.prog 7 CLi 80 (.call Fn.law03_light ⟨[blV n1 n1 n2 n2 (sl 6 0 17 17), flV w s q]⟩ (hpB cs1 t1 s1 e1 cs2 t2 s2 e2 (ringC ρ 17) t3 s3 e3))).vals = ligT cs1 cs2 (ringC ρ 17) n1 n2 17 w s q (ligG s w (rhoE (ringC ρ 17) 0)) := by kernel_rfl
theorem ligg (cs1 cs2 cs3 : List Value) (t1 s1 t2 s2 t3 s3 n1 n2 n : Nat) (e1 e2 e3 : Bool) (w s q : Int) : (execO Tryd.prog 7 CLg 80 (.call Fn.law03_light ⟨[blV n1 n1 n2 n2 (sl 6 0 n n), flV w s q]⟩ (hpB cs1 t1 s1 e1 cs2 t2 s2 e2 cs3 t3 s3 e3))).vals = askB (tru ((argA n1 n2 n).nil = false ∧ fl3 [cs1, cs2, cs3])) (.br (shE n1 n2 n) (askB (tru (okB3 (argA n1 n2 n) [cs1, cs2, cs3])) .fail) (lf false)) := by kernel_rfl
theorem ligf0 (cs1 cs2 : List Value) (ρ : Nat → Int) (t1 s1 t2 s2 t3 s3 n1 n2 : Nat) (e1 e2 e3 : Bool) (w s q : Int) : execO Tryd.prog 7 CLi 80 (.call Fn.law03_light ⟨[blV n1 n1 n2 n2 (sl 6 0 0 0), flV w s q]⟩ (hpB cs1 t1 s1 e1 cs2 t2 s2 e2 (ringC ρ 0) t3 s3 e3)) = (execO Tryd.prog 7 CLi 80 (.call Fn.law03_light ⟨[blV n1 n1 n2 n2 (sl 6 0 0 0), flV w s q]⟩ (hpB cs1 t1 s1 e1 cs2 t2 s2 e2 (ringC ρ 0) t3 s3 e3))).fix := by kernel_rfl
theorem ligf1 (cs1 cs2 : List Value) (ρ : Nat → Int) (t1 s1 t2 s2 t3 s3 n1 n2 : Nat) (e1 e2 e3 : Bool) (w s q : Int) : execO Tryd.prog 7 CLi 80 (.call Fn.law03_light ⟨[blV n1 n1 n2 n2 (sl 6 0 1 1), flV w s q]⟩ (hpB cs1 t1 s1 e1 cs2 t2 s2 e2 (ringC ρ 1) t3 s3 e3)) = (execO Tryd.prog 7 CLi 80 (.call Fn.law03_light ⟨[blV n1 n1 n2 n2 (sl 6 0 1 1), flV w s q]⟩ (hpB cs1 t1 s1 e1 cs2 t2 s2 e2 (ringC ρ 1) t3 s3 e3))).fix := by kernel_rfl
theorem ligf2 (cs1 cs2 : List Value) (ρ : Nat → Int) (t1 s1 t2 s2 t3 s3 n1 n2 : Nat) (e1 e2 e3 : Bool) (w s q : Int) : execO Tryd.prog 7 CLi 80 (.call Fn.law03_light ⟨[blV n1 n1 n2 n2 (sl 6 0 2 2), flV w s q]⟩ (hpB cs1 t1 s1 e1 cs2 t2 s2 e2 (ringC ρ 2) t3 s3 e3)) = (execO Tryd.prog 7 CLi 80 (.call Fn.law03_light ⟨[blV n1 n1 n2 n2 (sl 6 0 2 2), flV w s q]⟩ (hpB cs1 t1 s1 e1 cs2 t2 s2 e2 (ringC ρ 2) t3 s3 e3))).fix := by kernel_rfl
theorem ligf3 (cs1 cs2 : List Value) (ρ : Nat → Int) (t1 s1 t2 s2 t3 s3 n1 n2 : Nat) (e1 e2 e3 : Bool) (w s q : Int) : execO Tryd.prog 7 CLi 80 (.call Fn.law03_light ⟨[blV n1 n1 n2 n2 (sl 6 0 3 3), flV w s q]⟩ (hpB cs1 t1 s1 e1 cs2 t2 s2 e2 (ringC ρ 3) t3 s3 e3)) = (execO Tryd.prog 7 CLi 80 (.call Fn.law03_light ⟨[blV n1 n1 n2 n2 (sl 6 0 3 3), flV w s q]⟩ (hpB cs1 t1 s1 e1 cs2 t2 s2 e2 (ringC ρ 3) t3 s3 e3))).fix := by kernel_rfl
theorem ligf17 (cs1 cs2 : List Value) (ρ : Nat → Int) (t1 s1 t2 s2 t3 s3 n1 n2 : Nat) (e1 e2 e3 : Bool) (w s q : Int) : execO Tryd.prog 7 CLi 80 (.call Fn.law03_light ⟨[blV n1 n1 n2 n2 (sl 6 0 17 17), flV w s q]⟩ (hpB cs1 t1 s1 e1 cs2 t2 s2 e2 (ringC ρ 17) t3 s3 e3)) = (execO Tryd.prog 7 CLi 80 (.call Fn.law03_light ⟨[blV n1 n1 n2 n2 (sl 6 0 17 17), flV w s q]⟩ (hpB cs1 t1 s1 e1 cs2 t2 s2 e2 (ringC ρ 17) t3 s3 e3))).fix := by kernel_rfl
theorem ligfg (cs1 cs2 cs3 : List Value) (t1 s1 t2 s2 t3 s3 n1 n2 n : Nat) (e1 e2 e3 : Bool) (w s q : Int) : execO Tryd.prog 7 CLg 80 (.call Fn.law03_light ⟨[blV n1 n1 n2 n2 (sl 6 0 n n), flV w s q]⟩ (hpB cs1 t1 s1 e1 cs2 t2 s2 e2 cs3 t3 s3 e3)) = (execO Tryd.prog 7 CLg 80 (.call Fn.law03_light ⟨[blV n1 n1 n2 n2 (sl 6 0 n n), flV w s q]⟩ (hpB cs1 t1 s1 e1 cs2 t2 s2 e2 cs3 t3 s3 e3))).fix := by kernel_rfl
end
theorem f24_light : ∀ a css os, okLi a css → Blks css os → ∃ H', Sound Tryd.prog (gl + css.length) (.call Fn.law03_light ⟨a.valsL⟩ (heapL (deads ++ os))) (.val (b_ (lightE a css)) H') := by
  intro a css os h hb
  obtain ⟨⟨n1, c1, n2, c2, n, c, nl⟩, w, s, q, ring, x, d⟩ := a
  obtain ⟨g1, ⟨g2, g3, g4⟩, h, hs⟩ := h
  dsimp only at g1 g2 g3 g4 hs
  subst g1 g2 g3 g4
  have hf := h
  unfold fl3 at h
  split at h
  case h_2 => cases h
  rename_i cs1 cs2 cs3
  obtain ⟨t1, s1, e1, t2, s2, e2, t3, s3, e3, rfl⟩ := blks3 hb
  cases hsh : shE c1 c2 c with
  | false => exact one_tree (C := CLg) (n := 80) _ tsG1 .none (ligfg cs1 cs2 cs3 t1 s1 t2 s2 t3 s3 c1 c2 c e1 e2 e3 w s q) (ligg cs1 cs2 cs3 t1 s1 t2 s2 t3 s3 c1 c2 c e1 e2 e3 w s q) (light_no hf hsh)
  | true =>
    have hB := hs hsh
    have hB' := hB
    obtain ⟨_, _, h5, _, h3⟩ := hB'
    have h3 : cs3 = ringC (rhoE cs3) c := h3
    have h5 : five c := h5
    rcases h5 with rfl | rfl | rfl | rfl | rfl
    · have := one_tree (C := CLi) (n := 80) _ tsG1 .none (ligf0 cs1 cs2 (rhoE cs3) t1 s1 t2 s2 t3 s3 c1 c2 e1 e2 e3 w s q) (lig0 cs1 cs2 (rhoE cs3) t1 s1 t2 s2 t3 s3 c1 c2 e1 e2 e3 w s q) (by rw [← h3]; exact light_sel hf hsh hB fun hb => absurd (blade_z (show bladeE cs1 c1 cs2 c2 (rhoE cs3) 0 = 0 from hb)).2.1 (by decide))
      rw [← h3] at this; exact this
    · have := one_tree (C := CLi) (n := 80) _ tsG1 .none (ligf1 cs1 cs2 (rhoE cs3) t1 s1 t2 s2 t3 s3 c1 c2 e1 e2 e3 w s q) (lig1 cs1 cs2 (rhoE cs3) t1 s1 t2 s2 t3 s3 c1 c2 e1 e2 e3 w s q) (by rw [← h3]; exact light_sel hf hsh hB fun hb hq => ligG_sel hb hq)
      rw [← h3] at this; exact this
    · have := one_tree (C := CLi) (n := 80) _ tsG1 .none (ligf2 cs1 cs2 (rhoE cs3) t1 s1 t2 s2 t3 s3 c1 c2 e1 e2 e3 w s q) (lig2 cs1 cs2 (rhoE cs3) t1 s1 t2 s2 t3 s3 c1 c2 e1 e2 e3 w s q) (by rw [← h3]; exact light_sel hf hsh hB fun hb hq => ligG_sel hb hq)
      rw [← h3] at this; exact this
    · have := one_tree (C := CLi) (n := 80) _ tsG1 .none (ligf3 cs1 cs2 (rhoE cs3) t1 s1 t2 s2 t3 s3 c1 c2 e1 e2 e3 w s q) (lig3 cs1 cs2 (rhoE cs3) t1 s1 t2 s2 t3 s3 c1 c2 e1 e2 e3 w s q) (by rw [← h3]; exact light_sel hf hsh hB fun hb hq => ligG_sel hb hq)
      rw [← h3] at this; exact this
    · have := one_tree (C := CLi) (n := 80) _ tsG1 .none (ligf17 cs1 cs2 (rhoE cs3) t1 s1 t2 s2 t3 s3 c1 c2 e1 e2 e3 w s q) (lig17 cs1 cs2 (rhoE cs3) t1 s1 t2 s2 t3 s3 c1 c2 e1 e2 e3 w s q) (by rw [← h3]; exact light_sel hf hsh hB fun hb hq => ligG_sel hb hq)
      rw [← h3] at this; exact this
theorem okLi_flat : ∀ a css, okLi a css → ∀ cs ∈ css, cs.all Ex.flat = true := by
  intro a css h cs hc
  have h := h.2.2.1
  unfold fl3 at h
  split at h
  · simp at hc
    rcases hc with rfl | rfl | rfl
    · exact h.1
    · exact h.2.1
    · exact h.2.2
  · cases h
noncomputable def TG2 : Tb := ext TG1 Fn.law03_light (rdE rdLi okLi (fun a css => b_ (lightE a css)) [] (heapL deads))
theorem tsG2 {G : Nat} : TSound Tryd.prog G TG2 :=
  tsG1.ext (rd_ok ArA.valsL deads_len deads_flat deads_mem rdLi_ok okLi_flat (fun _ _ _ => rfl) f24_light)
end Go.Proofs.YtbocpikgochioaaDoor.Ways
namespace Go.Proofs.YtbocpikgochioaaDoor.Ways
open Go Go.Ex
/-! ### least and greatest -/
theorem foldMin (l : List Int) : ∀ x, (l.foldl minI x ≤ x ∧ (∀ y ∈ l, l.foldl minI x ≤ y)) ∧ (l.foldl minI x = x ∨ l.foldl minI x ∈ l) := by
  induction l with
  | nil => intro x; exact ⟨⟨Int.le_refl _, fun y hy => by cases hy⟩, .inl rfl⟩
  | cons a l ih =>
    intro x
    obtain ⟨⟨h1, h2⟩, h3⟩ := ih (minI x a)
    obtain ⟨m1, m2, m3⟩ := minI_eq x a
    show ((l.foldl minI (minI x a) ≤ x ∧ ∀ y ∈ a :: l, l.foldl minI (minI x a) ≤ y)) ∧ _
    refine ⟨⟨by omega, fun y hy => ?_⟩, ?_⟩
    · rcases List.mem_cons.1 hy with rfl | hy
      · omega
      · exact h2 y hy
    · show l.foldl minI (minI x a) = x ∨ l.foldl minI (minI x a) ∈ a :: l
      rcases h3 with h3 | h3
      · rcases m3 with m3 | m3
        · left; rw [h3, m3]
        · right; rw [h3, m3]; exact List.mem_cons_self ..
      · right; exact List.mem_cons_of_mem _ h3
theorem foldMax (l : List Int) : ∀ x, (x ≤ l.foldl maxI x ∧ (∀ y ∈ l, y ≤ l.foldl maxI x)) ∧ (l.foldl maxI x = x ∨ l.foldl maxI x ∈ l) := by
  induction l with
  | nil => intro x; exact ⟨⟨Int.le_refl _, fun y hy => by cases hy⟩, .inl rfl⟩
  | cons a l ih =>
    intro x
    obtain ⟨⟨h1, h2⟩, h3⟩ := ih (maxI x a)
    obtain ⟨m1, m2, m3⟩ := maxI_eq x a
    show ((x ≤ l.foldl maxI (maxI x a) ∧ ∀ y ∈ a :: l, y ≤ l.foldl maxI (maxI x a))) ∧ _
    refine ⟨⟨by omega, fun y hy => ?_⟩, ?_⟩
    · rcases List.mem_cons.1 hy with rfl | hy
      · omega
      · exact h2 y hy
    · show l.foldl maxI (maxI x a) = x ∨ l.foldl maxI (maxI x a) ∈ a :: l
      rcases h3 with h3 | h3
      · rcases m3 with m3 | m3
        · left; rw [h3, m3]
        · right; rw [h3, m3]; exact List.mem_cons_self ..
      · right; exact List.mem_cons_of_mem _ h3
theorem minL_le {l : List Int} {y : Int} (h : y ∈ l) : minL l ≤ y := by
  cases l with
  | nil => cases h
  | cons a l =>
    obtain ⟨⟨h1, h2⟩, _⟩ := foldMin l a
    rcases List.mem_cons.1 h with rfl | h
    · exact h1
    · exact h2 y h
theorem minL_mem {a : Int} {l : List Int} : minL (a :: l) ∈ a :: l := by
  obtain ⟨_, h | h⟩ := foldMin l a
  · exact List.mem_cons.2 (.inl h)
  · exact List.mem_cons_of_mem _ h
theorem le_maxL {l : List Int} {y : Int} (h : y ∈ l) : y ≤ maxL l := by
  cases l with
  | nil => cases h
  | cons a l =>
    obtain ⟨⟨h1, h2⟩, _⟩ := foldMax l a
    rcases List.mem_cons.1 h with rfl | h
    · exact h1
    · exact h2 y h
theorem maxL_mem {a : Int} {l : List Int} : maxL (a :: l) ∈ a :: l := by
  obtain ⟨_, h | h⟩ := foldMax l a
  · exact List.mem_cons.2 (.inl h)
  · exact List.mem_cons_of_mem _ h
/-! ### sums that do not wrap -/
theorem sumF_bd {lo : ScA → Int} {sc : Nat → ScA} {B : Int} (hB : 0 ≤ B ∧ 4 * B ≤ 9000000000000000000) : ∀ (m j : Nat) (a : Int) (k : Nat), m + k ≤ 4 → (∀ t, j ≤ t → t < j + m → -B ≤ lo (sc t) ∧ lo (sc t) ≤ B) → -((k : Int) * B) ≤ a ∧ a ≤ (k : Int) * B → -(((m + k : Nat) : Int) * B) ≤ sumF lo sc m j a ∧ sumF lo sc m j a ≤ ((m + k : Nat) : Int) * B
  | 0, j, a, k, _, _, ha => by simpa [sumF] using ha
  | m + 1, j, a, k, hk, h, ha => by
    have h0 := h j (Nat.le_refl _) (by omega)
    have hk4 : (k : Int) * B + B = ((k + 1 : Nat) : Int) * B := by rw [Int.natCast_add, Int.add_mul]; simp
    have hkB : ((k + 1 : Nat) : Int) * B ≤ 4 * B := Int.mul_le_mul_of_nonneg_right (by omega) hB.1
    have e : wrapF .i64 (a + lo (sc j)) = a + lo (sc j) := wrapF_in (by omega) (by omega)
    unfold sumF
    rw [e]
    have := sumF_bd hB m (j + 1) (a + lo (sc j)) (k + 1) (by omega) (fun t g1 g2 => h t (by omega) (by omega)) ⟨by omega, by omega⟩
    rwa [show m + (k + 1) = m + 1 + k from by omega] at this
theorem sumF_le {lo lo' : ScA → Int} {sc sc' : Nat → ScA} {B : Int} (hB : 0 ≤ B ∧ 4 * B ≤ 9000000000000000000) : ∀ (m j : Nat) (a a' : Int) (k : Nat), m + k ≤ 4 → (∀ t, j ≤ t → t < j + m → -B ≤ lo (sc t) ∧ lo (sc t) ≤ lo' (sc' t) ∧ lo' (sc' t) ≤ B) → -((k : Int) * B) ≤ a ∧ a ≤ a' ∧ a' ≤ (k : Int) * B → sumF lo sc m j a ≤ sumF lo' sc' m j a'
  | 0, _, _, _, _, _, _, ha => ha.2.1
  | m + 1, j, a, a', k, hk, h, ha => by
    have h0 := h j (Nat.le_refl _) (by omega)
    have hk4 : (k : Int) * B + B = ((k + 1 : Nat) : Int) * B := by rw [Int.natCast_add, Int.add_mul]; simp
    have hkB : ((k + 1 : Nat) : Int) * B ≤ 4 * B := Int.mul_le_mul_of_nonneg_right (by omega) hB.1
    have e : wrapF .i64 (a + lo (sc j)) = a + lo (sc j) := wrapF_in (by omega) (by omega)
    have e' : wrapF .i64 (a' + lo' (sc' j)) = a' + lo' (sc' j) := wrapF_in (by omega) (by omega)
    unfold sumF
    rw [e, e']
    exact sumF_le hB m (j + 1) _ _ (k + 1) (by omega) (fun t g1 g2 => h t (by omega) (by omega)) ⟨by omega, by omega, by omega⟩
theorem sumF_four {lo : ScA → Int} {sc : Nat → ScA} {B : Int} (hB : 0 ≤ B ∧ 16 * B ≤ 9000000000000000000) : ∀ (m j : Nat) (a : Int) (k : Nat), m + k ≤ 4 → (∀ t, j ≤ t → t < j + m → -B ≤ lo (sc t) ∧ lo (sc t) ≤ B) → -((k : Int) * B) ≤ a ∧ a ≤ (k : Int) * B → sumF (fun A => 4 * lo A) sc m j (4 * a) = 4 * sumF lo sc m j a
  | 0, _, _, _, _, _, _ => rfl
  | m + 1, j, a, k, hk, h, ha => by
    have h0 := h j (Nat.le_refl _) (by omega)
    have hk4 : (k : Int) * B + B = ((k + 1 : Nat) : Int) * B := by rw [Int.natCast_add, Int.add_mul]; simp
    have hkB : ((k + 1 : Nat) : Int) * B ≤ 4 * B := Int.mul_le_mul_of_nonneg_right (by omega) hB.1
    have e : wrapF .i64 (a + lo (sc j)) = a + lo (sc j) := wrapF_in (by omega) (by omega)
    have e' : wrapF .i64 (4 * a + 4 * lo (sc j)) = 4 * (a + lo (sc j)) := by rw [wrapF_in (by omega) (by omega)]; omega
    unfold sumF
    rw [e, e']
    exact sumF_four hB m (j + 1) _ (k + 1) (by omega) (fun t g1 g2 => h t (by omega) (by omega)) ⟨by omega, by omega⟩
theorem sumF_congr {lo lo' : ScA → Int} {sc sc' : Nat → ScA} : ∀ (m j : Nat) (a : Int), (∀ t, j ≤ t → t < j + m → lo (sc t) = lo' (sc' t)) → sumF lo sc m j a = sumF lo' sc' m j a
  | 0, _, _, _ => rfl
  | m + 1, j, a, h => by
    unfold sumF
    rw [h j (Nat.le_refl _) (by omega)]
    exact sumF_congr m (j + 1) _ fun t g1 g2 => h t (by omega) (by omega)
theorem hasE_cases (sc : Nat → ScA) (css : List (List Value)) : ∀ m j, hasE sc css m j = 7 ∨ (hasE sc css m j = 0 ∧ ∀ t, j ≤ t → t < j + m → hasB (sc t) css = true)
  | 0, _ => .inr ⟨rfl, fun t g1 g2 => by omega⟩
  | m + 1, j => by
    unfold hasE
    cases hb : hasB (sc j) css with
    | false => left; rfl
    | true =>
      rcases hasE_cases sc css m (j + 1) with h | ⟨h, h2⟩
      · left; exact h
      · right
        refine ⟨h, fun t g1 g2 => ?_⟩
        by_cases ht : t = j
        · subst ht; exact hb
        · exact h2 t (by omega) (by omega)
theorem hasE_congr {sc sc' : Nat → ScA} {css css' : List (List Value)} : ∀ m j, (∀ t, j ≤ t → t < j + m → hasB (sc t) css = hasB (sc' t) css') → hasE sc css m j = hasE sc' css' m j
  | 0, _, _ => rfl
  | m + 1, j, h => by
    unfold hasE
    rw [h j (Nat.le_refl _) (by omega), hasE_congr m (j + 1) fun t g1 g2 => h t (by omega) (by omega)]
/-! ### one ring, one bit finer -/
section
variable {cs1 cs2 : List Value} {n1 n2 : Nat} {r c t p w s q D : Int}
theorem thrE_eq {x d : Int} (hr : 1 ≤ r ∧ r ≤ 200) (hd : 1 ≤ d ∧ d ≤ 12) (hx : 0 ≤ x ∧ x ≤ powE (d - 1)) : thrE r x d = 1024 * (x * (powE d - x)) * r ∧ 0 ≤ thrE r x d ∧ thrE r x d ≤ 3435973836800 := by
  obtain ⟨p1, p2⟩ := pow_two hd
  have hpw := pow_bd hd
  have m1 := mul_bd (a := x) (b := powE d - x) (A := 4096) (B := 4096) (by omega) (by omega)
  have m2 := mul_bd (a := x * (powE d - x)) (b := r) (A := 4096 * 4096) (B := 200) m1 (by omega)
  have e0 : wrapF .i64 (1024 * x) = 1024 * x := wrapF_in (by omega) (by omega)
  have e1 : wrapF .i64 (powE d - x) = powE d - x := wrapF_in (by omega) (by omega)
  have e2 : 1024 * x * (powE d - x) = 1024 * (x * (powE d - x)) := Int.mul_assoc _ _ _
  have e3 : wrapF .i64 (1024 * (x * (powE d - x))) = 1024 * (x * (powE d - x)) := wrapF_in (by omega) (by omega)
  have e4 : 1024 * (x * (powE d - x)) * r = 1024 * (x * (powE d - x) * r) := Int.mul_assoc _ _ _
  have e5 : thrE r x d = 1024 * (x * (powE d - x)) * r := by
    unfold thrE
    rw [e0, e1, e2, e3, wrapF_in (by omega) (by omega)]
  rw [e5]
  exact ⟨rfl, by omega, by omega⟩
theorem pow_up {D : Int} (hD : 1 ≤ D ∧ D ≤ 11) : powE (D + 1) = 2 * powE D ∧ D + 1 - 1 = D := by
  obtain ⟨p3, _⟩ := pow_two (d := D + 1) (by omega)
  have e0 : D + 1 - 1 = D := by omega
  rw [e0] at p3
  exact ⟨p3, e0⟩
theorem br_two (h : RV cs1 n1 r c t p w s q) (hb : hasB (AA n1 n2 r c t p w s q) [cs1, cs2] = true) (hD : 1 ≤ D ∧ D ≤ 11) :
    bAt (AA n1 n2 r c t p w s q) [cs1, cs2] (D + 1) = 2 * bAt (AA n1 n2 r c t p w s q) [cs1, cs2] D ∨ bAt (AA n1 n2 r c t p w s q) [cs1, cs2] (D + 1) = 2 * bAt (AA n1 n2 r c t p w s q) [cs1, cs2] D + 1 := by
  obtain ⟨e1, _, ⟨g1, g2⟩, _⟩ := br_at h hb (D := D) (by omega)
  obtain ⟨e1', _, _, _⟩ := br_at h hb (D := D + 1) (by omega)
  have hpw := pow_bd (d := D) (by omega)
  have hp2 := pow_two (d := D) (by omega)
  rw [e1', show (D + 1 - 1).toNat = (D - 1).toNat + 1 from by omega]
  have hdef : brA (AA n1 n2 r c t p w s q) [cs1, cs2] ((D - 1).toNat + 1) = finA (AA n1 n2 r c t p w s q) [cs1, cs2] (brA (AA n1 n2 r c t p w s q) [cs1, cs2] (D - 1).toNat) (((D - 1).toNat + 1 : Nat) : Int) := rfl
  rw [hdef, ← e1]
  unfold finA
  generalize bAt (AA n1 n2 r c t p w s q) [cs1, cs2] D = x at *
  have e2 : wrapF .i64 (2 * x) = 2 * x := wrapF_in (by omega) (by omega)
  have e3 : upE x = 2 * x + 1 := by unfold upE; rw [e2, wrapF_in (by omega) (by omega)]
  rw [e2, e3]
  split
  · right; rfl
  · left; rfl
theorem thr_up {x y : Int} (hr : 1 ≤ r ∧ r ≤ 200) (hD : 1 ≤ D ∧ D ≤ 11) (hx : 0 ≤ x ∧ x + 1 ≤ powE (D - 1)) (hy : y = 2 * x ∨ y = 2 * x + 1) :
    4 * thrE r x D ≤ thrE r y (D + 1) ∧ thrE r (y + 1) (D + 1) ≤ 4 * thrE r (x + 1) D ∧ thrE r x D ≤ thrE r (x + 1) D := by
  obtain ⟨p1, p2⟩ := pow_two (d := D) (by omega)
  obtain ⟨p3, p4⟩ := pow_up hD
  obtain ⟨a1, _⟩ := thrE_eq (x := x) (d := D) hr (by omega) (by omega)
  obtain ⟨a2, _⟩ := thrE_eq (x := x + 1) (d := D) hr (by omega) (by omega)
  obtain ⟨a3, _⟩ := thrE_eq (x := y) (d := D + 1) hr (by omega) ⟨by omega, by rw [p4]; omega⟩
  obtain ⟨a4, _⟩ := thrE_eq (x := y + 1) (d := D + 1) hr (by omega) ⟨by omega, by rw [p4]; omega⟩
  rw [a1, a2, a3, a4, p3]
  generalize powE D = P at *
  generalize powE (D - 1) = P2 at *
  have k1 : 4 * (x * (P - x)) ≤ y * (2 * P - y) := by
    have : 0 ≤ (y - 2 * x) * (2 * P - y - 2 * x) := Int.mul_nonneg (by omega) (by omega)
    grind
  have k2 : (y + 1) * (2 * P - (y + 1)) ≤ 4 * ((x + 1) * (P - (x + 1))) := by
    have : 0 ≤ (2 * x + 1 - y) * (2 * P - (2 * x + 2) - (y + 1)) := Int.mul_nonneg (by omega) (by omega)
    grind
  have k3 : x * (P - x) ≤ (x + 1) * (P - (x + 1)) := by
    have : 0 ≤ P - 2 * x - 1 := by omega
    grind
  refine ⟨?_, ?_, ?_⟩
  · have := Int.mul_le_mul_of_nonneg_right (show 4 * (1024 * (x * (P - x))) ≤ 1024 * (y * (2 * P - y)) from by omega) (show 0 ≤ r from by omega)
    rwa [Int.mul_assoc 4] at this
  · have := Int.mul_le_mul_of_nonneg_right (show 1024 * ((y + 1) * (2 * P - (y + 1))) ≤ 4 * (1024 * ((x + 1) * (P - (x + 1)))) from by omega) (show 0 ≤ r from by omega)
    rwa [Int.mul_assoc 4] at this
  · exact Int.mul_le_mul_of_nonneg_right (by omega) (by omega)
end
end Go.Proofs.YtbocpikgochioaaDoor.Ways
namespace Go.Proofs.YtbocpikgochioaaDoor.Ways
open Go Go.Ex
structure NI (cs1 cs2 : List Value) (ρ : Nat → Int) (n1 n2 k : Nat) (w s q D : Int) : Prop where
  o1 : OkI cs1 n1 n1
  l1 : cs1.length = n1
  o2 : OkI cs2 n2 n2
  l2 : cs2.length = n2
  hk : k ≤ 2
  rho : rhoE (ringC ρ (k + 1)) = ρ
  h5 : n1 ≤ 5
  hb : bladeE cs1 n1 cs2 n2 ρ (k + 1) = 0
  hf : flowE w s q = 0
  hD : 1 ≤ D ∧ D ≤ 11
section
variable {cs1 cs2 : List Value} {ρ : Nat → Int} {n1 n2 k : Nat} {w s q D : Int}
theorem NI.five (h : NI cs1 cs2 ρ n1 n2 k w s q D) : Ways.five (k + 1) := by
  have := h.hk
  unfold Ways.five
  omega
theorem NI.rv (h : NI cs1 cs2 ρ n1 n2 k w s q D) {t : Nat} (ht : t < k + 1) : RV cs1 n1 (ρ (4 * t)) (ρ (4 * t + 1)) (ρ (4 * t + 2)) (ρ (4 * t + 3)) w s q := rv_of h.hb h.hf ht
theorem NI.hN (h : NI cs1 cs2 ρ n1 n2 k w s q D) (D' : Int) : hNE cs1 cs2 (ringC ρ (k + 1)) n1 n2 k w s q D' = hasE (scA ρ w s q n1 n1 n2 n2) [cs1, cs2] (k + 1) 0 := by
  show hasE (scA (rhoE (ringC ρ (k + 1))) w s q n1 n1 n2 n2) [cs1, cs2] (k + 1) 0 = _
  rw [h.rho]
theorem okCp_of (h : NI cs1 cs2 ρ n1 n2 k w s q D) (ρ' : Nat → Int) : okCp (argA n1 n2 (k + 1)) cs1 cs2 (ringC ρ' (k + 1)) :=
  ⟨rfl, ⟨h.o1, h.l1⟩, ⟨h.o2, h.l2⟩, h.five, rfl, ringC_self _ _⟩
theorem okFc_of (h : NI cs1 cs2 ρ n1 n2 k w s q D) (ρ' : Nat → Int) (hb : bladeE cs1 n1 cs2 n2 (rhoE (ringC ρ' (k + 1))) (k + 1) = 0) {D' : Int} (hD : 1 ≤ D' ∧ D' ≤ 12) : okFc (AN n1 n2 k w s q D') (cpS cs1 cs2 (ringC ρ' (k + 1)) (k + 1)) :=
  ⟨⟨rfl, ⟨h.o1, h.o2⟩, h.five, rfl, ringC_self _ _⟩, ⟨rfl, rfl⟩, h.h5, show k + 1 ≤ 3 from by have := h.hk; omega, hb, h.hf, hD⟩
end
end Go.Proofs.YtbocpikgochioaaDoor.Ways
namespace Go.Proofs.YtbocpikgochioaaDoor.Ways
open Go Go.Ex
/-! ### pairs -/
def numS : List Value → Option Value
  | [.int .i64 n] => some (i (numE n))
  | _ => none
def pairS : List Value → Option Value
  | [.agg ⟨[.int .i64 a, .int .i64 b]⟩] => some (i (pairE a b))
  | _ => none
noncomputable def C1 : Cfg := ⟨T1, sp_, off_, noL⟩
theorem num_pure (n : Int) : Pure Tryd.prog Hd Fn.rotor_checkNumber [i n] (i (numE n)) :=
  pure_run (C := C1) (G := 4) 20 (.leaf (i (rangeE n (-999999999) 999999999))) ts1 .none (by decide) hd_len rfl (by kernel_rfl) (by kernel_rfl) rfl
theorem pair_pure (a b : Int) : Pure Tryd.prog Hd Fn.rotor_checkPair [ag [i a, i b]] (i (pairE a b)) :=
  pure_run (C := C1) (G := 4) 30 (ways2 (rangeE a (-999999999) 999999999) (rangeE b (-999999999) 999999999) i) ts1 .none (by decide) hd_len rfl (by kernel_rfl) (by kernel_rfl) (ways2_sel _ _ _)
def tAE (a b c d : Int) : Int := wrapF .i64 (wrapF .i64 (a * c) - wrapF .i64 (b * d))
def tBE (a b c d : Int) : Int := wrapF .i64 (wrapF .i64 (wrapF .i64 (a * d) + wrapF .i64 (b * c)) - wrapF .i64 (b * d))
def tmV (a b c d : Int) : Value := ag [i (tAE a b c d), i (tBE a b c d)]
def timesS : List Value → Option Value
  | [.agg ⟨[.int .i64 a, .int .i64 b]⟩, .agg ⟨[.int .i64 c, .int .i64 d]⟩] => some (tmV a b c d)
  | _ => none
noncomputable def U2 : Tb := ext (ext T1 Fn.rotor_checkNumber (pureE numS [] Hd)) Fn.rotor_checkPair (pureE pairS [] Hd)
theorem us2 {G : Nat} : TSound Tryd.prog G U2 := by
  refine ((ts1.pure hd_vars fun args v h => ?_).pure hd_vars fun args v h => ?_)
  · unfold numS at h
    split at h
    · cases h; exact num_pure _
    · cases h
  · unfold pairS at h
    split at h
    · cases h; exact pair_pure _ _
    · cases h
noncomputable def CU2 : Cfg := ⟨U2, sp_, off_, noL⟩
theorem times_pure (a b c d : Int) : Pure Tryd.prog Hd Fn.rotor_Pair_times [ag [i a, i b], ag [i c, i d]] (tmV a b c d) :=
  pure_run (C := CU2) (G := 4) 30 (.leaf (tmV a b c d)) us2 .none (by decide) hd_len rfl (by kernel_rfl) (by kernel_rfl) rfl
noncomputable def U3 : Tb := ext U2 Fn.rotor_Pair_times (pureE timesS [] Hd)
theorem us3 {G : Nat} : TSound Tryd.prog G U3 := by
  refine us2.pure hd_vars fun args v h => ?_
  unfold timesS at h
  split at h
  · cases h; exact times_pure _ _ _ _
  · cases h
noncomputable def CU3 : Cfg := ⟨U3, sp_, off_, noL⟩
def thirdsE (n : Int) : Int := (wrapF .i64 (n.tmod 3 + 3)).tmod 3
theorem thirds_cases (n : Int) : thirdsE n = 0 ∨ thirdsE n = 1 ∨ thirdsE n = 2 := by
  have h1 := Int.tmod_lt_of_pos n (by decide : (0 : Int) < 3)
  have h2 := Int.lt_tmod_of_pos n (by decide : (0 : Int) < 3)
  unfold thirdsE
  rw [wrapF_in (by omega) (by omega), Int.tmod_eq_emod_of_nonneg (by omega)]
  omega
def w3 (k : Int) (v : Value) (r1 r2 : VT) : VT := .br (decide (k = 0)) (.leaf v) (.br (decide (k = 1)) r1 (.br (decide (k = 2)) r2 .fail))
def by3E (n x y z : Int) : Int := if thirdsE n = 0 then x else if thirdsE n = 1 then y else z
def turnAE (a b n : Int) : Int := by3E n (tAE a b 1 0) (tAE a b 0 1) (tAE a b (-1) (-1))
def turnBE (a b n : Int) : Int := by3E n (tBE a b 1 0) (tBE a b 0 1) (tBE a b (-1) (-1))
def turnedV (a b n : Int) : Value := ag [i (turnAE a b n), i (turnBE a b n)]
theorem turned_pure (a b n : Int) : Pure Tryd.prog Hg Fn.rotor_Pair_turned [ag [i a, i b], i n] (turnedV a b n) := by
  refine pure_run (C := CU3) (G := 4) 30 (w3 ((wrapF .i64 (n.tmod 3 + 3)).tmod 3) (tmV a b 1 0) (.leaf (tmV a b 0 1)) (.leaf (tmV a b (-1) (-1)))) us3 .none (by decide) hg_len rfl (by kernel_rfl) (by kernel_rfl) ?_
  show (w3 (thirdsE n) _ _ _).sel = _
  unfold turnedV w3 turnAE turnBE by3E
  rcases thirds_cases n with h | h | h <;> simp [VT.sel, h, tmV]
def turnedS : List Value → Option Value
  | [.agg ⟨[.int .i64 a, .int .i64 b]⟩, .int .i64 n] => some (turnedV a b n)
  | _ => none
noncomputable def U4 : Tb := ext U3 Fn.rotor_Pair_turned (pureE turnedS [0] Hg)
theorem us4 {G : Nat} : TSound Tryd.prog G U4 := by
  refine us3.pure hg_vars fun args v h => ?_
  unfold turnedS at h
  split at h
  · cases h; exact turned_pure _ _ _
  · cases h
def ar (x y z : Int) : Value := ag [i x, i y, i z]
def inE (x y z : Int) : Int := if (-1000000 ≤ x ∧ x ≤ 1000000) ∧ (-1000000 ≤ y ∧ y ≤ 1000000) ∧ (-1000000 ≤ z ∧ z ≤ 1000000) then 0 else 3
theorem inE_zero {x y z : Int} (h : inE x y z = 0) : (-1000000 ≤ x ∧ x ≤ 1000000) ∧ (-1000000 ≤ y ∧ y ≤ 1000000) ∧ (-1000000 ≤ z ∧ z ≤ 1000000) := by
  unfold inE at h
  split at h
  · assumption
  · cases h
noncomputable def CU6 : Cfg := ⟨U4, at_ [(Fn.rotor_checkLoads, 20), (Fn.rotor_Split, 11)] .bool sp_, off_, noL⟩
def clampE (x : Int) : Int := if (1000000 : Int) < (if -1000000 > x then -1000000 else x) then 1000000 else (if -1000000 > x then -1000000 else x)
theorem clampE_eq (x : Int) : (clampE x == x) = decide (-1000000 ≤ x ∧ x ≤ 1000000) := by
  rw [Bool.eq_iff_iff]
  simp only [beq_iff_eq, decide_eq_true_eq]
  unfold clampE
  split <;> split <;> omega
theorem in_pure (x y z : Int) : Pure Tryd.prog Hd Fn.rotor_checkLoads [ar x y z] (i (inE x y z)) := by
  refine pure_run (C := CU6) (G := 4) 40 (.br (!(clampE x == x && (clampE y == y && (clampE z == z && true)))) (.leaf (i 3)) (.leaf (i 0))) us4 .none (by decide) hd_len rfl (by kernel_rfl) (by kernel_rfl) ?_
  rw [clampE_eq, clampE_eq, clampE_eq]
  unfold inE
  by_cases hx : -1000000 ≤ x ∧ x ≤ 1000000 <;> by_cases hy : -1000000 ≤ y ∧ y ≤ 1000000 <;> by_cases hz : -1000000 ≤ z ∧ z ≤ 1000000 <;> simp [VT.sel, hx, hy, hz]
theorem plus_pure (a b c d : Int) : Pure Tryd.prog Hd Fn.rotor_Pair_plus [ag [i a, i b], ag [i c, i d]] (ag [i (plE a c), i (plE b d)]) :=
  pure_run (C := CU6) (G := 4) 40 (.leaf (ag [i (plE a c), i (plE b d)])) us4 .none (by decide) hd_len rfl (by kernel_rfl) (by kernel_rfl) rfl
def inS : List Value → Option Value
  | [.agg ⟨[.int .i64 x, .int .i64 y, .int .i64 z]⟩] => some (i (inE x y z))
  | _ => none
def plusS : List Value → Option Value
  | [.agg ⟨[.int .i64 a, .int .i64 b]⟩, .agg ⟨[.int .i64 c, .int .i64 d]⟩] => some (ag [i (plE a c), i (plE b d)])
  | _ => none
noncomputable def U7 : Tb := ext (ext U4 Fn.rotor_checkLoads (pureE inS [] Hd)) Fn.rotor_Pair_plus (pureE plusS [] Hd)
theorem us7 {G : Nat} : TSound Tryd.prog G U7 := by
  refine ((us4.pure hd_vars fun args v h => ?_).pure hd_vars fun args v h => ?_)
  · unfold inS at h
    split at h
    · cases h; exact in_pure _ _ _
    · cases h
  · unfold plusS at h
    split at h
    · cases h; exact plus_pure _ _ _ _
    · cases h
noncomputable def CU7 : Cfg := ⟨U7, CU6.sp, off_, noL⟩
def sE (x y z : Int) : Int := wrapF .i64 (wrapF .i64 (wrapF .i64 (0 + x) + y) + z)
def aE (x y z : Int) : Int := plE (plE (plE 0 (turnAE x 0 0)) (turnAE y 0 1)) (turnAE z 0 2)
def bE (x y z : Int) : Int := plE (plE (plE 0 (turnBE x 0 0)) (turnBE y 0 1)) (turnBE z 0 2)
def splitV (x y z : Int) : Value := tp [i (sE x y z), ag [i (aE x y z), i (bE x y z)]]
theorem split_pure (x y z : Int) : Pure Tryd.prog Hg Fn.rotor_split [ar x y z] (splitV x y z) :=
  pure_run (C := CU7) (G := 4) 40 (.leaf (splitV x y z)) us7 .none (by decide) hg_len rfl (by kernel_rfl) (by kernel_rfl) rfl
theorem split_eq {x y z : Int} (hx : -10000000000 ≤ x ∧ x ≤ 10000000000) (hy : -10000000000 ≤ y ∧ y ≤ 10000000000) (hz : -10000000000 ≤ z ∧ z ≤ 10000000000) : sE x y z = x + y + z ∧ aE x y z = x - z ∧ bE x y z = y - z := by
  have t0 : thirdsE 0 = 0 := by decide
  have t1 : thirdsE 1 = 1 := by decide
  have t2 : thirdsE 2 = 2 := by decide
  have e0 : wrapF .i64 0 = 0 := by decide
  have a0 : ∀ u : Int, -10000000000 ≤ u ∧ u ≤ 10000000000 → turnAE u 0 0 = u ∧ turnBE u 0 0 = 0 := by
    intro u hu
    unfold turnAE turnBE by3E tAE tBE
    simp only [t0, if_true, Int.zero_mul, Int.mul_one, Int.mul_zero, e0, Int.sub_zero, Int.add_zero]
    rw [wsm (x := u) (by omega) (by omega), wsm (x := u) (by omega) (by omega)]
    simp
  have a1 : ∀ u : Int, -10000000000 ≤ u ∧ u ≤ 10000000000 → turnAE u 0 1 = 0 ∧ turnBE u 0 1 = u := by
    intro u hu
    unfold turnAE turnBE by3E tAE tBE
    rw [t1, if_neg (by omega), if_pos rfl, if_neg (by omega), if_pos rfl]
    simp only [Int.mul_one, Int.mul_zero, e0, Int.sub_zero, Int.add_zero]
    rw [wsm (x := u) (by omega) (by omega), wsm (x := u) (by omega) (by omega), wsm (x := u) (by omega) (by omega)]
    simp
  have a2 : ∀ u : Int, -10000000000 ≤ u ∧ u ≤ 10000000000 → turnAE u 0 2 = -u ∧ turnBE u 0 2 = -u := by
    intro u hu
    unfold turnAE turnBE by3E tAE tBE
    rw [t2, if_neg (by omega), if_neg (by omega), if_neg (by omega), if_neg (by omega)]
    have hm : u * -1 = -u := by omega
    simp only [Int.zero_mul, hm, e0, Int.sub_zero, Int.add_zero]
    rw [wsm (x := -u) (by omega) (by omega), wsm (x := -u) (by omega) (by omega), wsm (x := -u) (by omega) (by omega)]
    simp
  unfold sE aE bE plE
  rw [(a0 x hx).1, (a0 x hx).2, (a1 y hy).1, (a1 y hy).2, (a2 z hz).1, (a2 z hz).2]
  simp only [Int.zero_add, Int.add_zero, e0]
  rw [wsm (x := x) (by omega) (by omega), wsm (x := x + y) (by omega) (by omega), wsm (x := x + y + z) (by omega) (by omega), wsm (x := x) (by omega) (by omega), wsm (x := x + -z) (by omega) (by omega), wsm (x := y) (by omega) (by omega), wsm (x := y + -z) (by omega) (by omega)]
  exact ⟨rfl, by omega, by omega⟩
def splitS : List Value → Option Value
  | [.agg ⟨[.int .i64 x, .int .i64 y, .int .i64 z]⟩] => some (splitV x y z)
  | _ => none
noncomputable def U8 : Tb := ext U7 Fn.rotor_split (pureE splitS [0] Hg)
theorem us8 {G : Nat} : TSound Tryd.prog G U8 := by
  refine us7.pure hg_vars fun args v h => ?_
  unfold splitS at h
  split at h
  · cases h; exact split_pure _ _ _
  · cases h
noncomputable def CU8 : Cfg := ⟨U8, at_ [(Fn.rotor_Split, 11), (Fn.rotor_Merge, 19), (Fn.rotor_Merge, 47), (Fn.rotor_Merge, 51), (Fn.rotor_Merge, 57), (Fn.rotor_part, 15), (Fn.rotor_Turn, 14), (Fn.rotor_Norm, 8)] .bool sp_, off_, noL⟩
def errS (e : Int) : Value := tp [i 0, ag [i 0, i 0], i e]
def SplitV (x y z : Int) : Value := tp [i (okE (inE x y z) (sE x y z)), ag [i (okE (inE x y z) (aE x y z)), i (okE (inE x y z) (bE x y z))], i (inE x y z)]
theorem Split_pure (x y z : Int) : Pure Tryd.prog Hg Fn.rotor_Split [ar x y z] (SplitV x y z) := by
  refine pure_run (C := CU8) (G := 4) 40 (ways1 (inE x y z) errS (tp [i (sE x y z), ag [i (aE x y z), i (bE x y z)], i 0])) us8 .none (by decide) hg_len rfl (by kernel_rfl) (by kernel_rfl) ?_
  rw [ways1_sel]
  unfold SplitV errS okE
  by_cases h : inE x y z = 0 <;> simp [h]
def thE (s a b : Int) : Int := IntKind.i64.wrap ((wrapF .i64 (wrapF .i64 (s - a) - b)).tdiv 3)
def mXE (s a b : Int) : Int := wrapF .i64 (thE s a b + a)
def mYE (s a b : Int) : Int := wrapF .i64 (thE s a b + b)
def confE (s a b : Int) : Int := if sE (mXE s a b) (mYE s a b) (thE s a b) ≠ s ∨ aE (mXE s a b) (mYE s a b) (thE s a b) ≠ a ∨ bE (mXE s a b) (mYE s a b) (thE s a b) ≠ b then 30 else inE (mXE s a b) (mYE s a b) (thE s a b)
def mErrE (s a b : Int) : Int := firstE (firstE (rangeE s (-3000000) 3000000) (pairE a b)) (confE s a b)
def errM (e : Int) : Value := tp [ar 0 0 0, i e]
def MergeV (s a b : Int) : Value := tp [ar (okE (mErrE s a b) (mXE s a b)) (okE (mErrE s a b) (mYE s a b)) (okE (mErrE s a b) (thE s a b)), i (mErrE s a b)]
def mTail (s a b : Int) : VT :=
  .br (!eqF (sE (mXE s a b) (mYE s a b) (thE s a b)) s) (.leaf (errM 30)) (.br (!(aE (mXE s a b) (mYE s a b) (thE s a b) == a && (bE (mXE s a b) (mYE s a b) (thE s a b) == b && true))) (.leaf (errM 30))
    (.br (!eqF (inE (mXE s a b) (mYE s a b) (thE s a b)) 0) (.leaf (errM (inE (mXE s a b) (mYE s a b) (thE s a b)))) (.leaf (tp [ar (mXE s a b) (mYE s a b) (thE s a b), i 0]))))
theorem mTail_sel (s a b : Int) : (mTail s a b).sel = some (if confE s a b = 0 then tp [ar (mXE s a b) (mYE s a b) (thE s a b), i 0] else errM (confE s a b)) := by
  unfold mTail confE
  by_cases h1 : sE (mXE s a b) (mYE s a b) (thE s a b) = s
  · by_cases h2 : aE (mXE s a b) (mYE s a b) (thE s a b) = a
    · by_cases h3 : bE (mXE s a b) (mYE s a b) (thE s a b) = b
      · by_cases h4 : inE (mXE s a b) (mYE s a b) (thE s a b) = 0 <;> simp [VT.sel, eqF_d, h1, h2, h3, h4]
      · simp [VT.sel, eqF_d, beqI, h1, h2, h3]
    · simp [VT.sel, eqF_d, beqI, h1, h2]
  · simp [VT.sel, eqF_d, h1]
theorem Merge_pure (s a b : Int) : Pure Tryd.prog Hg Fn.rotor_Merge [i s, ag [i a, i b]] (MergeV s a b) := by
  refine pure_run (C := CU8) (G := 4) 40 (fst2 (rangeE s (-3000000) 3000000) (pairE a b) fun e => .br (!eqF e 0) (.leaf (errM e)) (mTail s a b)) us8 .none (by decide) hg_len rfl (by kernel_rfl) (by kernel_rfl) ?_
  rw [fst2_sel]
  generalize he : firstE (rangeE s (-3000000) 3000000) (pairE a b) = e
  unfold MergeV mErrE
  rw [he]
  by_cases h : e = 0
  · subst h
    have : (VT.br (!eqF 0 0) (.leaf (errM 0)) (mTail s a b)).sel = (mTail s a b).sel := rfl
    rw [this, mTail_sel]
    unfold firstE okE errM
    by_cases h2 : confE s a b = 0 <;> simp [h2]
  · unfold firstE okE errM
    simp [VT.sel, eqF_d, h]

/-- Turn and Norm -/
def errT (e : Int) : Value := tp [ag [i 0, i 0], i e]
def tnE (a b n : Int) : Int := firstE (pairE a b) (numE n)
def TurnV (a b n : Int) : Value := tp [ag [i (okE (tnE a b n) (turnAE a b n)), i (okE (tnE a b n) (turnBE a b n))], i (tnE a b n)]
theorem Turn_pure (a b n : Int) : Pure Tryd.prog Hg Fn.rotor_Turn [ag [i a, i b], i n] (TurnV a b n) := by
  refine pure_run (C := CU8) (G := 4) 40 (fst2 (pairE a b) (numE n) fun e => .br (!eqF e 0) (.leaf (errT e)) (.leaf (tp [turnedV a b n, i 0]))) us8 .none (by decide) hg_len rfl (by kernel_rfl) (by kernel_rfl) ?_
  rw [fst2_sel]
  show (VT.br (!eqF (tnE a b n) 0) _ _).sel = _
  unfold TurnV okE errT
  rw [eqF_d]
  by_cases h : tnE a b n = 0
  · rw [h]; rfl
  · rw [decide_eq_false h, if_neg h, if_neg h]; rfl
def nrE (a b : Int) : Int := wrapF .i64 (wrapF .i64 (wrapF .i64 (a * a) - wrapF .i64 (a * b)) + wrapF .i64 (b * b))
def NormV (a b : Int) : Value := tp [i (okE (pairE a b) (nrE a b)), i (pairE a b)]
theorem Norm_pure (a b : Int) : Pure Tryd.prog Hd Fn.rotor_Norm [ag [i a, i b]] (NormV a b) := by
  refine pure_run (C := CU8) (G := 4) 40 (.br (!eqF (pairE a b) 0) (.leaf (tp [i 0, i (pairE a b)])) (.leaf (tp [i (nrE a b), i 0]))) us8 .none (by decide) hd_len rfl (by kernel_rfl) (by kernel_rfl) ?_
  unfold NormV okE
  rw [eqF_d]
  by_cases h : pairE a b = 0
  · rw [h]; rfl
  · rw [decide_eq_false h, if_neg h]; rfl
def SplitS : List Value → Option Value
  | [.agg ⟨[.int .i64 x, .int .i64 y, .int .i64 z]⟩] => some (SplitV x y z)
  | _ => none
def MergeS : List Value → Option Value
  | [.int .i64 s, .agg ⟨[.int .i64 a, .int .i64 b]⟩] => some (MergeV s a b)
  | _ => none
def TurnS : List Value → Option Value
  | [.agg ⟨[.int .i64 a, .int .i64 b]⟩, .int .i64 n] => some (TurnV a b n)
  | _ => none
def NormS : List Value → Option Value
  | [.agg ⟨[.int .i64 a, .int .i64 b]⟩] => some (NormV a b)
  | _ => none
noncomputable def U9 : Tb := ext (ext (ext (ext U8 Fn.rotor_Split (pureE SplitS [0] Hg)) Fn.rotor_Merge (pureE MergeS [0] Hg)) Fn.rotor_Turn (pureE TurnS [0] Hg)) Fn.rotor_Norm (pureE NormS [] Hd)
theorem us9 {G : Nat} : TSound Tryd.prog G U9 := by
  refine ((((us8.pure hg_vars fun args v h => ?_).pure hg_vars fun args v h => ?_).pure hg_vars fun args v h => ?_).pure hd_vars fun args v h => ?_)
  · unfold SplitS at h
    split at h
    · cases h; exact Split_pure _ _ _
    · cases h
  · unfold MergeS at h
    split at h
    · cases h; exact Merge_pure _ _ _
    · cases h
  · unfold TurnS at h
    split at h
    · cases h; exact Turn_pure _ _ _
    · cases h
  · unfold NormS at h
    split at h
    · cases h; exact Norm_pure _ _
    · cases h
/-- the fixed example -/
theorem hr_run : isT (execQ Tryd.prog 4 150 (.call Fn.top_hawseRotor #[] Hg)) = true := by kernel_rfl
theorem hr_pure : Pure Tryd.prog Hg Fn.top_hawseRotor [] (b_ true) := by
  obtain ⟨H', hr⟩ := isT_some hr_run
  have h1 := execQ_sound Tryd.prog 4 150 _ _ hr
  have h2 := execS_sound Tryd.prog 4 150 _ _ h1
  exact Pure.of_sound (H' := H') (by decide) hg_len (by kernel_rfl) h2
/-- the flow with a pitch -/
theorem hf_pure (w s q p : Int) : Pure Tryd.prog Hd Fn.top_hawseFlow [flV w s q, i p] (flV w s p) :=
  pure_run (C := CU8) (G := 4) 40 (.leaf (flV w s p)) us8 .none (by decide) hd_len rfl (by kernel_rfl) (by kernel_rfl) rfl
def hfS : List Value → Option Value
  | [.agg ⟨[.int .i64 w, .int .i64 s, .int .i64 _]⟩, .int .i64 p] => some (flV w s p)
  | _ => none
end Go.Proofs.YtbocpikgochioaaDoor.Ways
namespace Go.Proofs.YtbocpikgochioaaDoor.Ways
open Go Go.Ex
/-! ### hawseLight -/
noncomputable def spHi : Nat → Nat → Split := at_ [(Fn.top_hawseLight, 6), (Fn.top_hawseLight, 10), (Fn.top_hawseLight, 15)] .bool no_
noncomputable def CHi : Cfg := ⟨TG2, spHi, syNl, noL⟩
noncomputable def CHg : Cfg := ⟨TG2, at_ [(Fn.top_hawseLight, 9)] (.ints []) spHi, syNl, noL⟩
def hlE (a : ArA) (css : List (List Value)) : Bool := shE a.b.n1 a.b.n2 a.b.n && (eqF (errB a.b css) 0 && (eqF (flowE a.w a.s a.q) 0 && lgE a.w a.s (rhoC css 0)))
noncomputable def hliT (cs1 cs2 cs3 : List Value) (n1 n2 n : Nat) (w s q : Int) (g : VT) : VT :=
  askB (tru ((argA n1 n2 n).nil = false ∧ fl3 [cs1, cs2, cs3])) (.br (shE n1 n2 n) (askB (tru (okB3 (argA n1 n2 n) [cs1, cs2, cs3])) (.br (eqF (errB (argA n1 n2 n) [cs1, cs2, cs3]) 0) (.br (eqF (flowE w s q) 0) g (lf false)) (lf false))) (lf false))
section
variable {cs1 cs2 cs3 : List Value} {t1 s1 t2 s2 t3 s3 n1 n2 n : Nat} {e1 e2 e3 : Bool} {w s q : Int} {ρ : Nat → Int}
theorem hlight_sel {g : VT} (h : fl3 [cs1, cs2, cs3]) (hs : shE n1 n2 n = true) (hB : okB3 (argA n1 n2 n) [cs1, cs2, cs3]) (hg : errB (argA n1 n2 n) [cs1, cs2, cs3] = 0 → flowE w s q = 0 → g.sel = some (b_ (lgE w s (rhoE cs3 0)))) :
    (hliT cs1 cs2 cs3 n1 n2 n w s q g).sel = some (b_ (hlE ⟨argA n1 n2 n, w, s, q, 0, 0, 0⟩ [cs1, cs2, cs3])) := by
  have hE : hlE ⟨argA n1 n2 n, w, s, q, 0, 0, 0⟩ [cs1, cs2, cs3] = (shE n1 n2 n && (eqF (errB (argA n1 n2 n) [cs1, cs2, cs3]) 0 && (eqF (flowE w s q) 0 && lgE w s (rhoE cs3 0)))) := rfl
  rw [hE]
  unfold hliT
  rw [askB_sel (tru_iff.2 ⟨rfl, h⟩), brB, if_pos hs, askB_sel (tru_iff.2 hB), hs, eqF_d, eqF_d, brD, brD]
  by_cases h1 : errB (argA n1 n2 n) [cs1, cs2, cs3] = 0
  · rw [if_pos h1]
    by_cases h2 : flowE w s q = 0
    · rw [if_pos h2, hg h1 h2]; simp [h1, h2]
    · rw [if_neg h2]; simp [h2, lf, VT.sel]
  · rw [if_neg h1]; simp [h1, lf, VT.sel]
theorem hlight_no (h : fl3 [cs1, cs2, cs3]) (hs : shE n1 n2 n = false) {x : VT} :
    (askB (tru ((argA n1 n2 n).nil = false ∧ fl3 [cs1, cs2, cs3])) (.br (shE n1 n2 n) x (lf false))).sel = some (b_ (hlE ⟨argA n1 n2 n, w, s, q, 0, 0, 0⟩ [cs1, cs2, cs3])) := by
  have hE : hlE ⟨argA n1 n2 n, w, s, q, 0, 0, 0⟩ [cs1, cs2, cs3] = (shE n1 n2 n && (eqF (errB (argA n1 n2 n) [cs1, cs2, cs3]) 0 && (eqF (flowE w s q) 0 && lgE w s (rhoE cs3 0)))) := rfl
  rw [hE, askB_sel (tru_iff.2 ⟨rfl, h⟩), brB, hs]
  rfl
theorem hli0 (cs1 cs2 : List Value) (ρ : Nat → Int) (t1 s1 t2 s2 t3 s3 n1 n2 : Nat) (e1 e2 e3 : Bool) (w s q : Int) : (execO Tryd.prog 7 CHi 80 (.call Fn.top_hawseLight ⟨[blV n1 n1 n2 n2 (sl 6 0 0 0), flV w s q]⟩ (hpB cs1 t1 s1 e1 cs2 t2 s2 e2 (ringC ρ 0) t3 s3 e3))).vals = hliT cs1 cs2 (ringC ρ 0) n1 n2 0 w s q .fail := by kernel_rfl
theorem hlif0 (cs1 cs2 : List Value) (ρ : Nat → Int) (t1 s1 t2 s2 t3 s3 n1 n2 : Nat) (e1 e2 e3 : Bool) (w s q : Int) : execO Tryd.prog 7 CHi 80 (.call Fn.top_hawseLight ⟨[blV n1 n1 n2 n2 (sl 6 0 0 0), flV w s q]⟩ (hpB cs1 t1 s1 e1 cs2 t2 s2 e2 (ringC ρ 0) t3 s3 e3)) = (execO Tryd.prog 7 CHi 80 (.call Fn.top_hawseLight ⟨[blV n1 n1 n2 n2 (sl 6 0 0 0), flV w s q]⟩ (hpB cs1 t1 s1 e1 cs2 t2 s2 e2 (ringC ρ 0) t3 s3 e3))).fix := by kernel_rfl
theorem hli1 (cs1 cs2 : List Value) (ρ : Nat → Int) (t1 s1 t2 s2 t3 s3 n1 n2 : Nat) (e1 e2 e3 : Bool) (w s q : Int) : (execO Tryd.prog 7 CHi 80 (.call Fn.top_hawseLight ⟨[blV n1 n1 n2 n2 (sl 6 0 1 1), flV w s q]⟩ (hpB cs1 t1 s1 e1 cs2 t2 s2 e2 (ringC ρ 1) t3 s3 e3))).vals = hliT cs1 cs2 (ringC ρ 1) n1 n2 1 w s q (ligG s w (rhoE (ringC ρ 1) 0)) := by kernel_rfl
theorem hlif1 (cs1 cs2 : List Value) (ρ : Nat → Int) (t1 s1 t2 s2 t3 s3 n1 n2 : Nat) (e1 e2 e3 : Bool) (w s q : Int) : execO Tryd.prog 7 CHi 80 (.call Fn.top_hawseLight ⟨[blV n1 n1 n2 n2 (sl 6 0 1 1), flV w s q]⟩ (hpB cs1 t1 s1 e1 cs2 t2 s2 e2 (ringC ρ 1) t3 s3 e3)) = (execO Tryd.prog 7 CHi 80 (.call Fn.top_hawseLight ⟨[blV n1 n1 n2 n2 (sl 6 0 1 1), flV w s q]⟩ (hpB cs1 t1 s1 e1 cs2 t2 s2 e2 (ringC ρ 1) t3 s3 e3))).fix := by kernel_rfl
theorem hli2 (cs1 cs2 : List Value) (ρ : Nat → Int) (t1 s1 t2 s2 t3 s3 n1 n2 : Nat) (e1 e2 e3 : Bool) (w s q : Int) : (execO Tryd.prog 7 CHi 80 (.call Fn.top_hawseLight ⟨[blV n1 n1 n2 n2 (sl 6 0 2 2), flV w s q]⟩ (hpB cs1 t1 s1 e1 cs2 t2 s2 e2 (ringC ρ 2) t3 s3 e3))).vals = hliT cs1 cs2 (ringC ρ 2) n1 n2 2 w s q (ligG s w (rhoE (ringC ρ 2) 0)) := by kernel_rfl
theorem hlif2 (cs1 cs2 : List Value) (ρ : Nat → Int) (t1 s1 t2 s2 t3 s3 n1 n2 : Nat) (e1 e2 e3 : Bool) (w s q : Int) : execO Tryd.prog 7 CHi 80 (.call Fn.top_hawseLight ⟨[blV n1 n1 n2 n2 (sl 6 0 2 2), flV w s q]⟩ (hpB cs1 t1 s1 e1 cs2 t2 s2 e2 (ringC ρ 2) t3 s3 e3)) = (execO Tryd.prog 7 CHi 80 (.call Fn.top_hawseLight ⟨[blV n1 n1 n2 n2 (sl 6 0 2 2), flV w s q]⟩ (hpB cs1 t1 s1 e1 cs2 t2 s2 e2 (ringC ρ 2) t3 s3 e3))).fix := by kernel_rfl
theorem hli3 (cs1 cs2 : List Value) (ρ : Nat → Int) (t1 s1 t2 s2 t3 s3 n1 n2 : Nat) (e1 e2 e3 : Bool) (w s q : Int) : (execO Tryd.prog 7 CHi 80 (.call Fn.top_hawseLight ⟨[blV n1 n1 n2 n2 (sl 6 0 3 3), flV w s q]⟩ (hpB cs1 t1 s1 e1 cs2 t2 s2 e2 (ringC ρ 3) t3 s3 e3))).vals = hliT cs1 cs2 (ringC ρ 3) n1 n2 3 w s q (ligG s w (rhoE (ringC ρ 3) 0)) := by kernel_rfl
theorem hlif3 (cs1 cs2 : List Value) (ρ : Nat → Int) (t1 s1 t2 s2 t3 s3 n1 n2 : Nat) (e1 e2 e3 : Bool) (w s q : Int) : execO Tryd.prog 7 CHi 80 (.call Fn.top_hawseLight ⟨[blV n1 n1 n2 n2 (sl 6 0 3 3), flV w s q]⟩ (hpB cs1 t1 s1 e1 cs2 t2 s2 e2 (ringC ρ 3) t3 s3 e3)) = (execO Tryd.prog 7 CHi 80 (.call Fn.top_hawseLight ⟨[blV n1 n1 n2 n2 (sl 6 0 3 3), flV w s q]⟩ (hpB cs1 t1 s1 e1 cs2 t2 s2 e2 (ringC ρ 3) t3 s3 e3))).fix := by kernel_rfl
theorem hli17 (cs1 cs2 : List Value) (ρ : Nat → Int) (t1 s1 t2 s2 t3 s3 n1 n2 : Nat) (e1 e2 e3 : Bool) (w s q : Int) : (execO Tryd.prog 7 CHi 80 (.call Fn.top_hawseLight ⟨[blV n1 n1 n2 n2 (sl 6 0 17 17), flV w s q]⟩ (hpB cs1 t1 s1 e1 cs2 t2 s2 e2 (ringC ρ 17) t3 s3 e3))).vals = hliT cs1 cs2 (ringC ρ 17) n1 n2 17 w s q (ligG s w (rhoE (ringC ρ 17) 0)) := by kernel_rfl
theorem hlif17 (cs1 cs2 : List Value) (ρ : Nat → Int) (t1 s1 t2 s2 t3 s3 n1 n2 : Nat) (e1 e2 e3 : Bool) (w s q : Int) : execO Tryd.prog 7 CHi 80 (.call Fn.top_hawseLight ⟨[blV n1 n1 n2 n2 (sl 6 0 17 17), flV w s q]⟩ (hpB cs1 t1 s1 e1 cs2 t2 s2 e2 (ringC ρ 17) t3 s3 e3)) = (execO Tryd.prog 7 CHi 80 (.call Fn.top_hawseLight ⟨[blV n1 n1 n2 n2 (sl 6 0 17 17), flV w s q]⟩ (hpB cs1 t1 s1 e1 cs2 t2 s2 e2 (ringC ρ 17) t3 s3 e3))).fix := by kernel_rfl
theorem hlig (cs1 cs2 cs3 : List Value) (t1 s1 t2 s2 t3 s3 n1 n2 n : Nat) (e1 e2 e3 : Bool) (w s q : Int) : (execO Tryd.prog 7 CHg 80 (.call Fn.top_hawseLight ⟨[blV n1 n1 n2 n2 (sl 6 0 n n), flV w s q]⟩ (hpB cs1 t1 s1 e1 cs2 t2 s2 e2 cs3 t3 s3 e3))).vals = askB (tru ((argA n1 n2 n).nil = false ∧ fl3 [cs1, cs2, cs3])) (.br (shE n1 n2 n) (askB (tru (okB3 (argA n1 n2 n) [cs1, cs2, cs3])) .fail) (lf false)) := by kernel_rfl
theorem hlifg (cs1 cs2 cs3 : List Value) (t1 s1 t2 s2 t3 s3 n1 n2 n : Nat) (e1 e2 e3 : Bool) (w s q : Int) : execO Tryd.prog 7 CHg 80 (.call Fn.top_hawseLight ⟨[blV n1 n1 n2 n2 (sl 6 0 n n), flV w s q]⟩ (hpB cs1 t1 s1 e1 cs2 t2 s2 e2 cs3 t3 s3 e3)) = (execO Tryd.prog 7 CHg 80 (.call Fn.top_hawseLight ⟨[blV n1 n1 n2 n2 (sl 6 0 n n), flV w s q]⟩ (hpB cs1 t1 s1 e1 cs2 t2 s2 e2 cs3 t3 s3 e3))).fix := by kernel_rfl
end
theorem f30_light : ∀ a css os, okLi a css → Blks css os → ∃ H', Sound Tryd.prog (gl + css.length) (.call Fn.top_hawseLight ⟨a.valsL⟩ (heapL (deads ++ os))) (.val (b_ (hlE a css)) H') := by
  intro a css os h hb
  obtain ⟨⟨n1, c1, n2, c2, n, c, nl⟩, w, s, q, ring, x, d⟩ := a
  obtain ⟨g1, ⟨g2, g3, g4⟩, h, hs⟩ := h
  dsimp only at g1 g2 g3 g4 hs
  subst g1 g2 g3 g4
  have hf := h
  unfold fl3 at h
  split at h
  case h_2 => cases h
  rename_i cs1 cs2 cs3
  obtain ⟨t1, s1, e1, t2, s2, e2, t3, s3, e3, rfl⟩ := blks3 hb
  cases hsh : shE c1 c2 c with
  | false => exact one_tree (C := CHg) (n := 80) _ tsG2 .none (hlifg cs1 cs2 cs3 t1 s1 t2 s2 t3 s3 c1 c2 c e1 e2 e3 w s q) (hlig cs1 cs2 cs3 t1 s1 t2 s2 t3 s3 c1 c2 c e1 e2 e3 w s q) (hlight_no hf hsh)
  | true =>
    have hB := hs hsh
    have hB' := hB
    obtain ⟨_, _, h5, _, h3⟩ := hB'
    have h3 : cs3 = ringC (rhoE cs3) c := h3
    have h5 : five c := h5
    rcases h5 with rfl | rfl | rfl | rfl | rfl
    · have := one_tree (C := CHi) (n := 80) _ tsG2 .none (hlif0 cs1 cs2 (rhoE cs3) t1 s1 t2 s2 t3 s3 c1 c2 e1 e2 e3 w s q) (hli0 cs1 cs2 (rhoE cs3) t1 s1 t2 s2 t3 s3 c1 c2 e1 e2 e3 w s q) (by rw [← h3]; exact hlight_sel hf hsh hB fun hb => absurd (blade_z (show bladeE cs1 c1 cs2 c2 (rhoE cs3) 0 = 0 from hb)).2.1 (by decide))
      rw [← h3] at this; exact this
    · have := one_tree (C := CHi) (n := 80) _ tsG2 .none (hlif1 cs1 cs2 (rhoE cs3) t1 s1 t2 s2 t3 s3 c1 c2 e1 e2 e3 w s q) (hli1 cs1 cs2 (rhoE cs3) t1 s1 t2 s2 t3 s3 c1 c2 e1 e2 e3 w s q) (by rw [← h3]; exact hlight_sel hf hsh hB fun hb hq => ligG_sel hb hq)
      rw [← h3] at this; exact this
    · have := one_tree (C := CHi) (n := 80) _ tsG2 .none (hlif2 cs1 cs2 (rhoE cs3) t1 s1 t2 s2 t3 s3 c1 c2 e1 e2 e3 w s q) (hli2 cs1 cs2 (rhoE cs3) t1 s1 t2 s2 t3 s3 c1 c2 e1 e2 e3 w s q) (by rw [← h3]; exact hlight_sel hf hsh hB fun hb hq => ligG_sel hb hq)
      rw [← h3] at this; exact this
    · have := one_tree (C := CHi) (n := 80) _ tsG2 .none (hlif3 cs1 cs2 (rhoE cs3) t1 s1 t2 s2 t3 s3 c1 c2 e1 e2 e3 w s q) (hli3 cs1 cs2 (rhoE cs3) t1 s1 t2 s2 t3 s3 c1 c2 e1 e2 e3 w s q) (by rw [← h3]; exact hlight_sel hf hsh hB fun hb hq => ligG_sel hb hq)
      rw [← h3] at this; exact this
    · have := one_tree (C := CHi) (n := 80) _ tsG2 .none (hlif17 cs1 cs2 (rhoE cs3) t1 s1 t2 s2 t3 s3 c1 c2 e1 e2 e3 w s q) (hli17 cs1 cs2 (rhoE cs3) t1 s1 t2 s2 t3 s3 c1 c2 e1 e2 e3 w s q) (by rw [← h3]; exact hlight_sel hf hsh hB fun hb hq => ligG_sel hb hq)
      rw [← h3] at this; exact this
noncomputable def TU1 : Tb := ext (ext (ext (ext (orT TG2 U9) Fn.top_hawseBlade cpE) Fn.top_hawseFlow (pureE hfS [] Hd)) Fn.top_hawseRotor (pureE awS [0] Hg)) Fn.top_hawseLight (rdE rdLi okLi (fun a css => b_ (hlE a css)) [] (heapL deads))
theorem tsU1 {G : Nat} : TSound Tryd.prog G TU1 := by
  refine ((((orT_ok tsG2 us9).ext WaysH.cpE_ok).pure hd_vars fun args v h => ?_).pure hg_vars fun args v h => ?_).ext (rd_ok ArA.valsL deads_len deads_flat deads_mem rdLi_ok okLi_flat (fun _ _ _ => rfl) f30_light)
  · unfold hfS at h
    split at h
    · cases h; exact hf_pure _ _ _ _
    · cases h
  · unfold awS at h
    split at h
    · cases h; exact hr_pure
    · cases h
end Go.Proofs.YtbocpikgochioaaDoor.Ways
namespace Go.Proofs.YtbocpikgochioaaDoor.Ways
open Go Go.Ex
def u8 (n : Int) : Value := .int .u8 n
noncomputable def CU1 : Cfg := ⟨TU1, no_, off_, noL⟩
theorem sfU1 : SelfSound Tryd.prog 7 (selfA (qS (tabW CU1))) := qS_selfSound (tabW_sound tsU1)
noncomputable def baseU (n1 n2 k : Nat) (w s q xa xb xc : Int) (cs1 : List Value) (t1 s1 : Nat) (cs2 : List Value) (t2 s2 : Nat) (cs3 : List Value) (t3 s3 : Nat) : List (CO × Bool) :=
  [(.cells powers 149 1 true, true), (.dead, false), (.dead, false), (.dead, false), (.cells cs1 t1 s1 false, true), (.cells cs2 t2 s2 false, true), (.cells cs3 t3 s3 false, true),
    (.cells [sl 4 0 n1 n1, sl 5 0 n2 n2, sl 6 0 (k + 1) (k + 1)] 27 1 true, false), (.cells [i w, i s, i q] 29 1 true, false), (.cells [u8 xa, u8 xb, u8 xc] 74 1 true, false)]
noncomputable def hpU (cs1 : List Value) (t1 s1 : Nat) (cs2 : List Value) (t2 s2 : Nat) (cs3 : List Value) (t3 s3 : Nat) : List CO := [.cells powers 149 1 true, .dead, .dead, .dead, .cells cs1 t1 s1 false, .cells cs2 t2 s2 false, .cells cs3 t3 s3 false]
end Go.Proofs.YtbocpikgochioaaDoor.Ways
namespace Go.Proofs.YtbocpikgochioaaDoor.Ways
open Go Go.Ex
noncomputable def OU4 : Array Oper := regOps Tryd.f7 4
def statesU4 : List Nat := [0, 1, 3, 4, 5, 7, 8, 9, 11, 12, 13, 15, 24, 25, 27, 28, 29, 31, 60, 61, 63, 64, 65, 67, 68, 69, 71, 72, 73, 75, 76, 77, 79, 88, 89, 91, 92, 93, 95, 124, 125, 127, 255, 511, 1023, 1535, 2047, 2048, 2049, 2051, 2052, 2053, 2055, 2056, 2057, 2059, 2060, 2061, 2063, 2072, 2073, 2075, 2076, 2077, 2079, 2108, 2109, 2111, 2112, 2113, 2115, 2116, 2117, 2119, 2120, 2121, 2123, 2124, 2125, 2127, 2136, 2137, 2139, 2140, 2141, 2143, 2172, 2173, 2175, 2303, 2559, 3071, 3583, 4095, 7167, 8191, 16383]
def ansU4 (j : Nat) : List Bool :=
  match j with
  | 1 => [true]
  | 7 => [true]
  | _ => []
noncomputable def liveU4 (cs1 cs2 cs3 : List Value) (_t1 _s1 _t2 _s2 _t3 _s3 n1 n2 k : Nat) (w s q _xa _xb _xc D P L : Int) (m : Nat) : List (Nat × Value) := [(3, pt 7 0), (4, pt 8 0), (5, pt 9 0), (7, i D), (8, i P), (9, i L)] ++ bitV m 0 (56, blV n1 n1 n2 n2 (sl 6 0 (k + 1) (k + 1))) ++ bitV m 1 (57, cutV false 10 n1 n2 (k + 1)) ++ bitV m 2 (58, flV w s q) ++ bitV m 3 (59, pt 8 2) ++ bitV m 4 (60, i q) ++ bitV m 5 (61, flV w s q) ++ bitV m 6 (62, i D) ++ bitV m 7 (63, (frV (mLoE cs1 cs2 cs3 n1 n2 k w s q D) (mHiE cs1 cs2 cs3 n1 n2 k w s q D) (hNE cs1 cs2 cs3 n1 n2 k w s q D))) ++ bitV m 8 (55, (frV (mLoE cs1 cs2 cs3 n1 n2 k w s q D) (mHiE cs1 cs2 cs3 n1 n2 k w s q D) (hNE cs1 cs2 cs3 n1 n2 k w s q D))) ++ bitV m 9 (64, ag [i (mLoE cs1 cs2 cs3 n1 n2 k w s q D), i (mHiE cs1 cs2 cs3 n1 n2 k w s q D)]) ++ bitV m 10 (65, i (hNE cs1 cs2 cs3 n1 n2 k w s q D)) ++ bitV m 11 (10, pt 13 0) ++ bitV m 13 (11, i (hNE cs1 cs2 cs3 n1 n2 k w s q D))
noncomputable def baseU4 (cs1 cs2 cs3 : List Value) (t1 s1 t2 s2 t3 s3 n1 n2 k : Nat) (w s q xa xb xc _D _P _L : Int) : List (CO × Bool) := baseU n1 n2 k w s q xa xb xc cs1 t1 s1 cs2 t2 s2 cs3 t3 s3
noncomputable def hpU4 (cs1 cs2 cs3 : List Value) (t1 s1 t2 s2 t3 s3 n1 n2 k : Nat) (w s q xa xb xc D _P _L : Int) (m : Nat) : List (CO × Bool) := baseU n1 n2 k w s q xa xb xc cs1 t1 s1 cs2 t2 s2 cs3 t3 s3 ++ [bitC m 1 (.cells cs1 3 1 false, true), bitC m 1 (.cells cs2 3 1 false, true), bitC m 1 (.cells cs3 103 4 false, true)] ++ [bitC m 11 (.cells (cond (Nat.testBit m 12) [i (mLoE cs1 cs2 cs3 n1 n2 k w s q D), i (mHiE cs1 cs2 cs3 n1 n2 k w s q D)] [i 0, i 0]) 61 1 true, false)]
def rhoU4 (j : Nat) : List Nat :=
  match j with
  | 1 => [0, 1, 2, 3, 4, 5, 6, 7, 8, 9, 14, 15, 16, 13]
  | 11 => [0, 1, 2, 3, 4, 5, 6, 7, 8, 9, 10, 11, 12, 14]
  | _ => List.range 14
def lenU4 (j : Nat) : Nat :=
  match j with
  | 1 => 17
  | 11 => 15
  | _ => 14
noncomputable def cndU4 (cs1 cs2 cs3 : List Value) (_t1 _s1 _t2 _s2 _t3 _s3 n1 n2 k : Nat) (w s q _xa _xb _xc D _P _L : Int) (j : Nat) : List Bool :=
  match j with
  | 1 => [tru (okCp (argA n1 n2 (k + 1)) cs1 cs2 cs3)]
  | 7 => [tru (okFc (AN n1 n2 k w s q D) (cpS cs1 cs2 cs3 (k + 1)))]
  | _ => []
theorem fixU4 (cs1 cs2 cs3 : List Value) (t1 s1 t2 s2 t3 s3 n1 n2 k : Nat) (w s q xa xb xc D P L : Int) : (trsN OU4 statesU4).map (outW (tabW CU1) Tryd.prog 7 CU1 Fn.top_Uneven OU4 242 (liveU4 cs1 cs2 cs3 t1 s1 t2 s2 t3 s3 n1 n2 k w s q xa xb xc D P L) (hpU4 cs1 cs2 cs3 t1 s1 t2 s2 t3 s3 n1 n2 k w s q xa xb xc D P L)) = (trsN OU4 statesU4).map fun t => (outW (tabW CU1) Tryd.prog 7 CU1 Fn.top_Uneven OU4 242 (liveU4 cs1 cs2 cs3 t1 s1 t2 s2 t3 s3 n1 n2 k w s q xa xb xc D P L) (hpU4 cs1 cs2 cs3 t1 s1 t2 s2 t3 s3 n1 n2 k w s q xa xb xc D P L) t).fix := by kernel_rfl
theorem obsU4 (cs1 cs2 cs3 : List Value) (t1 s1 t2 s2 t3 s3 n1 n2 k : Nat) (w s q xa xb xc D P L : Int) : (trsN OU4 statesU4).map (obsW (tabW CU1) Tryd.prog 7 CU1 Fn.top_Uneven OU4 242 (liveU4 cs1 cs2 cs3 t1 s1 t2 s2 t3 s3 n1 n2 k w s q xa xb xc D P L) (hpU4 cs1 cs2 cs3 t1 s1 t2 s2 t3 s3 n1 n2 k w s q xa xb xc D P L) rhoU4 ansU4) = (trsN OU4 statesU4).map (expN 242 (liveU4 cs1 cs2 cs3 t1 s1 t2 s2 t3 s3 n1 n2 k w s q xa xb xc D P L) (hpU4 cs1 cs2 cs3 t1 s1 t2 s2 t3 s3 n1 n2 k w s q xa xb xc D P L) rhoU4 (cndU4 cs1 cs2 cs3 t1 s1 t2 s2 t3 s3 n1 n2 k w s q xa xb xc D P L) lenU4) := by kernel_rfl
theorem goodU4 (cs1 cs2 cs3 : List Value) (t1 s1 t2 s2 t3 s3 n1 n2 k : Nat) (w s q xa xb xc D P L : Int) : ((trsN OU4 statesU4).all fun t => goodR 10 (lenU4 t.2) (liveU4 cs1 cs2 cs3 t1 s1 t2 s2 t3 s3 n1 n2 k w s q xa xb xc D P L (t.1 ||| 2 ^ t.2)) (hpU4 cs1 cs2 cs3 t1 s1 t2 s2 t3 s3 n1 n2 k w s q xa xb xc D P L (t.1 ||| 2 ^ t.2)) (rhoU4 t.2)) = true := by kernel_rfl
theorem closedU4 : closedN OU4 statesU4 16383 = true := by kernel_rfl
theorem flatU4 {cs1 cs2 cs3 : List Value} {t1 s1 t2 s2 t3 s3 n1 n2 k : Nat} {w s q xa xb xc D P L : Int} (f1 : cs1.all Ex.flat = true) (f2 : cs2.all Ex.flat = true) (f3 : cs3.all Ex.flat = true) : ∀ m o, (o, true) ∈ hpU4 cs1 cs2 cs3 t1 s1 t2 s2 t3 s3 n1 n2 k w s q xa xb xc D P L m → FlatO o := by
  intro m o ho
  unfold hpU4 baseU bitC at ho
  simp only [cond, List.cons_append, List.nil_append, List.mem_cons, List.not_mem_nil, or_false, Prod.mk.injEq, Bool.true_eq_false, and_false, false_or] at ho
  rcases ho with ⟨rfl, _⟩ | ⟨rfl, _⟩ | ⟨rfl, _⟩ | ⟨rfl, _⟩ | ho | ho | ho | ho
  · exact flatO_of flatP
  · exact flatO_of f1
  · exact flatO_of f2
  · exact flatO_of f3
  all_goals
    split at ho <;> first
      | (cases ho; done)
      | (injection ho with h4 h5; subst h4; exact flatO_of (by assumption))
theorem cndU4_ok {cs1 cs2 cs3 : List Value} {t1 s1 t2 s2 t3 s3 n1 n2 k : Nat} {w s q xa xb xc D P L : Int} (h1 : okCp (argA n1 n2 (k + 1)) cs1 cs2 cs3) (h2 : okFc (AN n1 n2 k w s q D) (cpS cs1 cs2 cs3 (k + 1))) : ∀ j, cndU4 cs1 cs2 cs3 t1 s1 t2 s2 t3 s3 n1 n2 k w s q xa xb xc D P L j = (ansU4 j).take (cndU4 cs1 cs2 cs3 t1 s1 t2 s2 t3 s3 n1 n2 k w s q xa xb xc D P L j).length := by
  intro j
  unfold cndU4 ansU4
  split
  · rw [tru_iff.2 h1]; rfl
  · rw [tru_iff.2 h2]; rfl
  · rfl
theorem padU4 (cs1 cs2 cs3 : List Value) (t1 s1 t2 s2 t3 s3 n1 n2 k : Nat) (w s q xa xb xc D P L : Int) : heapL ((hpU4 cs1 cs2 cs3 t1 s1 t2 s2 t3 s3 n1 n2 k w s q xa xb xc D P L 0).map (·.1)) = heapL ((baseU4 cs1 cs2 cs3 t1 s1 t2 s2 t3 s3 n1 n2 k w s q xa xb xc D P L).map (·.1) ++ List.replicate 4 .dead) := by kernel_rfl
theorem ordU4 {cs1 cs2 cs3 : List Value} {t1 s1 t2 s2 t3 s3 n1 n2 k : Nat} {w s q xa xb xc D P L : Int} (f1 : cs1.all Ex.flat = true) (f2 : cs2.all Ex.flat = true) (f3 : cs3.all Ex.flat = true) (h1 : okCp (argA n1 n2 (k + 1)) cs1 cs2 cs3) (h2 : okFc (AN n1 n2 k w s q D) (cpS cs1 cs2 cs3 (k + 1))) : Orders (selfA (qS (tabW CU1))) Tryd.prog 7 OU4 10 (fun m => m ∈ statesU4) (fun m => absT (tmL 242 (liveU4 cs1 cs2 cs3 t1 s1 t2 s2 t3 s3 n1 n2 k w s q xa xb xc D P L m))) (fun m => heapL ((hpU4 cs1 cs2 cs3 t1 s1 t2 s2 t3 s3 n1 n2 k w s q xa xb xc D P L m).map (·.1))) 16383 :=
  orders_ofW statesU4 (fixU4 cs1 cs2 cs3 t1 s1 t2 s2 t3 s3 n1 n2 k w s q xa xb xc D P L) (obsU4 cs1 cs2 cs3 t1 s1 t2 s2 t3 s3 n1 n2 k w s q xa xb xc D P L) (cndU4_ok h1 h2) (goodU4 cs1 cs2 cs3 t1 s1 t2 s2 t3 s3 n1 n2 k w s q xa xb xc D P L) closedU4 (flatU4 f1 f2 f3)
theorem sndU4 {cs1 cs2 cs3 : List Value} {t1 s1 t2 s2 t3 s3 n1 n2 k : Nat} {w s q xa xb xc D P L : Int} (f1 : cs1.all Ex.flat = true) (f2 : cs2.all Ex.flat = true) (f3 : cs3.all Ex.flat = true) (h1 : okCp (argA n1 n2 (k + 1)) cs1 cs2 cs3) (h2 : okFc (AN n1 n2 k w s q D) (cpS cs1 cs2 cs3 (k + 1))) (ro : Option Nat) {tm0 : Array Value} {H0 : CH} (hk : H0.length = 10) (hst : Restate 10 tm0 H0 (absT (tmL 242 (liveU4 cs1 cs2 cs3 t1 s1 t2 s2 t3 s3 n1 n2 k w s q xa xb xc D P L 0))) (heapL ((baseU4 cs1 cs2 cs3 t1 s1 t2 s2 t3 s3 n1 n2 k w s q xa xb xc D P L).map (·.1)))) :
    Sound Tryd.prog 7 (.code (.region 4 OU4 true) ro tm0 H0 []) (.ex .normal (absT (tmL 242 (liveU4 cs1 cs2 cs3 t1 s1 t2 s2 t3 s3 n1 n2 k w s q xa xb xc D P L 16383))) (heapL ((hpU4 cs1 cs2 cs3 t1 s1 t2 s2 t3 s3 n1 n2 k w s q xa xb xc D P L 16383).map (·.1))) []) := by
  have ho := ordU4 (cs1 := cs1) (cs2 := cs2) (cs3 := cs3) (t1 := t1) (s1 := s1) (t2 := t2) (s2 := s2) (t3 := t3) (s3 := s3) (n1 := n1) (n2 := n2) (k := k) (w := w) (s := s) (q := q) (xa := xa) (xb := xb) (xc := xc) (D := D) (P := P) (L := L) f1 f2 f3 h1 h2
  have hr := padU4 cs1 cs2 cs3 t1 s1 t2 s2 t3 s3 n1 n2 k w s q xa xb xc D P L
  generalize liveU4 cs1 cs2 cs3 t1 s1 t2 s2 t3 s3 n1 n2 k w s q xa xb xc D P L = lv at *
  generalize hpU4 cs1 cs2 cs3 t1 s1 t2 s2 t3 s3 n1 n2 k w s q xa xb xc D P L = hp at *
  generalize baseU4 cs1 cs2 cs3 t1 s1 t2 s2 t3 s3 n1 n2 k w s q xa xb xc D P L = bs at *
  rw [← hk] at ho hst
  exact orders_sound2 (tmS := fun m => absT (tmL 242 (lv m))) (HS := fun m => heapL ((hp m).map (·.1))) (mF := 16383) sfU1 mix12 ho (by rw [hk]; decide) (by decide) hr hst ro
theorem fbU4 {cs1 cs2 cs3 : List Value} {t1 s1 t2 s2 t3 s3 n1 n2 k : Nat} {w s q xa xb xc D P L : Int} (f1 : cs1.all Ex.flat = true) (f2 : cs2.all Ex.flat = true) (f3 : cs3.all Ex.flat = true) : ∀ o, (o, true) ∈ baseU4 cs1 cs2 cs3 t1 s1 t2 s2 t3 s3 n1 n2 k w s q xa xb xc D P L → FlatO o := fun o ho =>
  flatU4 (cs1 := cs1) (cs2 := cs2) (cs3 := cs3) (t1 := t1) (s1 := s1) (t2 := t2) (s2 := s2) (t3 := t3) (s3 := s3) (n1 := n1) (n2 := n2) (k := k) (w := w) (s := s) (q := q) (xa := xa) (xb := xb) (xc := xc) (D := D) (P := P) (L := L) f1 f2 f3 0 o (by unfold hpU4; exact List.mem_append_left _ (List.mem_append_left _ ho))
end Go.Proofs.YtbocpikgochioaaDoor.Ways
namespace Go.Proofs.YtbocpikgochioaaDoor.Ways
open Go Go.Ex
noncomputable def OU5 : Array Oper := regOps Tryd.f7 5
def statesU5 : List Nat := [0, 1, 3, 4, 5, 7, 8, 9, 11, 12, 13, 15, 28, 29, 31, 32, 33, 35, 36, 37, 39, 40, 41, 43, 44, 45, 47, 60, 61, 63, 127, 255, 511, 767, 1023, 1024, 1025, 1027, 1028, 1029, 1031, 1032, 1033, 1035, 1036, 1037, 1039, 1052, 1053, 1055, 1056, 1057, 1059, 1060, 1061, 1063, 1064, 1065, 1067, 1068, 1069, 1071, 1084, 1085, 1087, 1151, 1279, 1535, 1791, 2047, 3583, 4095, 8191]
def ansU5 (j : Nat) : List Bool :=
  match j with
  | 1 => [true]
  | 6 => [true]
  | _ => []
noncomputable def liveU5 (cs1 cs2 cs3 : List Value) (_t1 _s1 _t2 _s2 _t3 _s3 n1 n2 k : Nat) (w s q _xa _xb _xc D P L : Int) (m : Nat) : List (Nat × Value) := [(3, pt 7 0), (4, pt 8 0), (5, pt 9 0), (7, i D), (8, i P), (9, i L), (10, pt 13 0), (11, i (hNE cs1 cs2 cs3 n1 n2 k w s q D))] ++ bitV m 0 (67, blV n1 n1 n2 n2 (sl 6 0 (k + 1) (k + 1))) ++ bitV m 1 (68, cutV false 14 n1 n2 (k + 1)) ++ bitV m 2 (69, flV w s q) ++ bitV m 3 (70, i P) ++ bitV m 4 (71, flV w s P) ++ bitV m 5 (72, i D) ++ bitV m 6 (73, (frV (mLoE cs1 cs2 cs3 n1 n2 k w s P D) (mHiE cs1 cs2 cs3 n1 n2 k w s P D) (hNE cs1 cs2 cs3 n1 n2 k w s P D))) ++ bitV m 7 (66, (frV (mLoE cs1 cs2 cs3 n1 n2 k w s P D) (mHiE cs1 cs2 cs3 n1 n2 k w s P D) (hNE cs1 cs2 cs3 n1 n2 k w s P D))) ++ bitV m 8 (74, ag [i (mLoE cs1 cs2 cs3 n1 n2 k w s P D), i (mHiE cs1 cs2 cs3 n1 n2 k w s P D)]) ++ bitV m 9 (75, i (hNE cs1 cs2 cs3 n1 n2 k w s P D)) ++ bitV m 10 (12, pt 17 0) ++ bitV m 12 (13, i (hNE cs1 cs2 cs3 n1 n2 k w s P D))
noncomputable def baseU5 (cs1 cs2 cs3 : List Value) (t1 s1 t2 s2 t3 s3 n1 n2 k : Nat) (w s q xa xb xc D _P _L : Int) : List (CO × Bool) := baseU n1 n2 k w s q xa xb xc cs1 t1 s1 cs2 t2 s2 cs3 t3 s3 ++ [(.dead, false), (.dead, false), (.dead, false), (.cells [i (mLoE cs1 cs2 cs3 n1 n2 k w s q D), i (mHiE cs1 cs2 cs3 n1 n2 k w s q D)] 61 1 true, false)]
noncomputable def hpU5 (cs1 cs2 cs3 : List Value) (t1 s1 t2 s2 t3 s3 n1 n2 k : Nat) (w s q xa xb xc D P _L : Int) (m : Nat) : List (CO × Bool) := baseU n1 n2 k w s q xa xb xc cs1 t1 s1 cs2 t2 s2 cs3 t3 s3 ++ [(.dead, false), (.dead, false), (.dead, false), (.cells [i (mLoE cs1 cs2 cs3 n1 n2 k w s q D), i (mHiE cs1 cs2 cs3 n1 n2 k w s q D)] 61 1 true, false)] ++ [bitC m 1 (.cells cs1 3 1 false, true), bitC m 1 (.cells cs2 3 1 false, true), bitC m 1 (.cells cs3 103 4 false, true)] ++ [bitC m 10 (.cells (cond (Nat.testBit m 11) [i (mLoE cs1 cs2 cs3 n1 n2 k w s P D), i (mHiE cs1 cs2 cs3 n1 n2 k w s P D)] [i 0, i 0]) 61 1 true, false)]
def rhoU5 (j : Nat) : List Nat :=
  match j with
  | 1 => [0, 1, 2, 3, 4, 5, 6, 7, 8, 9, 10, 11, 12, 13, 18, 19, 20, 17]
  | 10 => [0, 1, 2, 3, 4, 5, 6, 7, 8, 9, 10, 11, 12, 13, 14, 15, 16, 18]
  | _ => List.range 18
def lenU5 (j : Nat) : Nat :=
  match j with
  | 1 => 21
  | 10 => 19
  | _ => 18
noncomputable def cndU5 (cs1 cs2 cs3 : List Value) (_t1 _s1 _t2 _s2 _t3 _s3 n1 n2 k : Nat) (w s _q _xa _xb _xc D P _L : Int) (j : Nat) : List Bool :=
  match j with
  | 1 => [tru (okCp (argA n1 n2 (k + 1)) cs1 cs2 cs3)]
  | 6 => [tru (okFc (AN n1 n2 k w s P D) (cpS cs1 cs2 cs3 (k + 1)))]
  | _ => []
theorem fixU5 (cs1 cs2 cs3 : List Value) (t1 s1 t2 s2 t3 s3 n1 n2 k : Nat) (w s q xa xb xc D P L : Int) : (trsN OU5 statesU5).map (outW (tabW CU1) Tryd.prog 7 CU1 Fn.top_Uneven OU5 242 (liveU5 cs1 cs2 cs3 t1 s1 t2 s2 t3 s3 n1 n2 k w s q xa xb xc D P L) (hpU5 cs1 cs2 cs3 t1 s1 t2 s2 t3 s3 n1 n2 k w s q xa xb xc D P L)) = (trsN OU5 statesU5).map fun t => (outW (tabW CU1) Tryd.prog 7 CU1 Fn.top_Uneven OU5 242 (liveU5 cs1 cs2 cs3 t1 s1 t2 s2 t3 s3 n1 n2 k w s q xa xb xc D P L) (hpU5 cs1 cs2 cs3 t1 s1 t2 s2 t3 s3 n1 n2 k w s q xa xb xc D P L) t).fix := by kernel_rfl
theorem obsU5 (cs1 cs2 cs3 : List Value) (t1 s1 t2 s2 t3 s3 n1 n2 k : Nat) (w s q xa xb xc D P L : Int) : (trsN OU5 statesU5).map (obsW (tabW CU1) Tryd.prog 7 CU1 Fn.top_Uneven OU5 242 (liveU5 cs1 cs2 cs3 t1 s1 t2 s2 t3 s3 n1 n2 k w s q xa xb xc D P L) (hpU5 cs1 cs2 cs3 t1 s1 t2 s2 t3 s3 n1 n2 k w s q xa xb xc D P L) rhoU5 ansU5) = (trsN OU5 statesU5).map (expN 242 (liveU5 cs1 cs2 cs3 t1 s1 t2 s2 t3 s3 n1 n2 k w s q xa xb xc D P L) (hpU5 cs1 cs2 cs3 t1 s1 t2 s2 t3 s3 n1 n2 k w s q xa xb xc D P L) rhoU5 (cndU5 cs1 cs2 cs3 t1 s1 t2 s2 t3 s3 n1 n2 k w s q xa xb xc D P L) lenU5) := by kernel_rfl
theorem goodU5 (cs1 cs2 cs3 : List Value) (t1 s1 t2 s2 t3 s3 n1 n2 k : Nat) (w s q xa xb xc D P L : Int) : ((trsN OU5 statesU5).all fun t => goodR 14 (lenU5 t.2) (liveU5 cs1 cs2 cs3 t1 s1 t2 s2 t3 s3 n1 n2 k w s q xa xb xc D P L (t.1 ||| 2 ^ t.2)) (hpU5 cs1 cs2 cs3 t1 s1 t2 s2 t3 s3 n1 n2 k w s q xa xb xc D P L (t.1 ||| 2 ^ t.2)) (rhoU5 t.2)) = true := by kernel_rfl
theorem closedU5 : closedN OU5 statesU5 8191 = true := by kernel_rfl
theorem flatU5 {cs1 cs2 cs3 : List Value} {t1 s1 t2 s2 t3 s3 n1 n2 k : Nat} {w s q xa xb xc D P L : Int} (f1 : cs1.all Ex.flat = true) (f2 : cs2.all Ex.flat = true) (f3 : cs3.all Ex.flat = true) : ∀ m o, (o, true) ∈ hpU5 cs1 cs2 cs3 t1 s1 t2 s2 t3 s3 n1 n2 k w s q xa xb xc D P L m → FlatO o := by
  intro m o ho
  unfold hpU5 baseU bitC at ho
  simp only [cond, List.cons_append, List.nil_append, List.mem_cons, List.not_mem_nil, or_false, Prod.mk.injEq, Bool.true_eq_false, and_false, false_or] at ho
  rcases ho with ⟨rfl, _⟩ | ⟨rfl, _⟩ | ⟨rfl, _⟩ | ⟨rfl, _⟩ | ho | ho | ho | ho
  · exact flatO_of flatP
  · exact flatO_of f1
  · exact flatO_of f2
  · exact flatO_of f3
  all_goals
    split at ho <;> first
      | (cases ho; done)
      | (injection ho with h4 h5; subst h4; exact flatO_of (by assumption))
theorem cndU5_ok {cs1 cs2 cs3 : List Value} {t1 s1 t2 s2 t3 s3 n1 n2 k : Nat} {w s q xa xb xc D P L : Int} (h1 : okCp (argA n1 n2 (k + 1)) cs1 cs2 cs3) (h2 : okFc (AN n1 n2 k w s P D) (cpS cs1 cs2 cs3 (k + 1))) : ∀ j, cndU5 cs1 cs2 cs3 t1 s1 t2 s2 t3 s3 n1 n2 k w s q xa xb xc D P L j = (ansU5 j).take (cndU5 cs1 cs2 cs3 t1 s1 t2 s2 t3 s3 n1 n2 k w s q xa xb xc D P L j).length := by
  intro j
  unfold cndU5 ansU5
  split
  · rw [tru_iff.2 h1]; rfl
  · rw [tru_iff.2 h2]; rfl
  · rfl
theorem padU5 (cs1 cs2 cs3 : List Value) (t1 s1 t2 s2 t3 s3 n1 n2 k : Nat) (w s q xa xb xc D P L : Int) : heapL ((hpU5 cs1 cs2 cs3 t1 s1 t2 s2 t3 s3 n1 n2 k w s q xa xb xc D P L 0).map (·.1)) = heapL ((baseU5 cs1 cs2 cs3 t1 s1 t2 s2 t3 s3 n1 n2 k w s q xa xb xc D P L).map (·.1) ++ List.replicate 4 .dead) := by kernel_rfl
theorem ordU5 {cs1 cs2 cs3 : List Value} {t1 s1 t2 s2 t3 s3 n1 n2 k : Nat} {w s q xa xb xc D P L : Int} (f1 : cs1.all Ex.flat = true) (f2 : cs2.all Ex.flat = true) (f3 : cs3.all Ex.flat = true) (h1 : okCp (argA n1 n2 (k + 1)) cs1 cs2 cs3) (h2 : okFc (AN n1 n2 k w s P D) (cpS cs1 cs2 cs3 (k + 1))) : Orders (selfA (qS (tabW CU1))) Tryd.prog 7 OU5 14 (fun m => m ∈ statesU5) (fun m => absT (tmL 242 (liveU5 cs1 cs2 cs3 t1 s1 t2 s2 t3 s3 n1 n2 k w s q xa xb xc D P L m))) (fun m => heapL ((hpU5 cs1 cs2 cs3 t1 s1 t2 s2 t3 s3 n1 n2 k w s q xa xb xc D P L m).map (·.1))) 8191 :=
  orders_ofW statesU5 (fixU5 cs1 cs2 cs3 t1 s1 t2 s2 t3 s3 n1 n2 k w s q xa xb xc D P L) (obsU5 cs1 cs2 cs3 t1 s1 t2 s2 t3 s3 n1 n2 k w s q xa xb xc D P L) (cndU5_ok h1 h2) (goodU5 cs1 cs2 cs3 t1 s1 t2 s2 t3 s3 n1 n2 k w s q xa xb xc D P L) closedU5 (flatU5 f1 f2 f3)
theorem sndU5 {cs1 cs2 cs3 : List Value} {t1 s1 t2 s2 t3 s3 n1 n2 k : Nat} {w s q xa xb xc D P L : Int} (f1 : cs1.all Ex.flat = true) (f2 : cs2.all Ex.flat = true) (f3 : cs3.all Ex.flat = true) (h1 : okCp (argA n1 n2 (k + 1)) cs1 cs2 cs3) (h2 : okFc (AN n1 n2 k w s P D) (cpS cs1 cs2 cs3 (k + 1))) (ro : Option Nat) {tm0 : Array Value} {H0 : CH} (hk : H0.length = 14) (hst : Restate 14 tm0 H0 (absT (tmL 242 (liveU5 cs1 cs2 cs3 t1 s1 t2 s2 t3 s3 n1 n2 k w s q xa xb xc D P L 0))) (heapL ((baseU5 cs1 cs2 cs3 t1 s1 t2 s2 t3 s3 n1 n2 k w s q xa xb xc D P L).map (·.1)))) :
    Sound Tryd.prog 7 (.code (.region 5 OU5 true) ro tm0 H0 []) (.ex .normal (absT (tmL 242 (liveU5 cs1 cs2 cs3 t1 s1 t2 s2 t3 s3 n1 n2 k w s q xa xb xc D P L 8191))) (heapL ((hpU5 cs1 cs2 cs3 t1 s1 t2 s2 t3 s3 n1 n2 k w s q xa xb xc D P L 8191).map (·.1))) []) := by
  have ho := ordU5 (cs1 := cs1) (cs2 := cs2) (cs3 := cs3) (t1 := t1) (s1 := s1) (t2 := t2) (s2 := s2) (t3 := t3) (s3 := s3) (n1 := n1) (n2 := n2) (k := k) (w := w) (s := s) (q := q) (xa := xa) (xb := xb) (xc := xc) (D := D) (P := P) (L := L) f1 f2 f3 h1 h2
  have hr := padU5 cs1 cs2 cs3 t1 s1 t2 s2 t3 s3 n1 n2 k w s q xa xb xc D P L
  generalize liveU5 cs1 cs2 cs3 t1 s1 t2 s2 t3 s3 n1 n2 k w s q xa xb xc D P L = lv at *
  generalize hpU5 cs1 cs2 cs3 t1 s1 t2 s2 t3 s3 n1 n2 k w s q xa xb xc D P L = hp at *
  generalize baseU5 cs1 cs2 cs3 t1 s1 t2 s2 t3 s3 n1 n2 k w s q xa xb xc D P L = bs at *
  rw [← hk] at ho hst
  exact orders_sound2 (tmS := fun m => absT (tmL 242 (lv m))) (HS := fun m => heapL ((hp m).map (·.1))) (mF := 8191) sfU1 mix12 ho (by rw [hk]; decide) (by decide) hr hst ro
theorem fbU5 {cs1 cs2 cs3 : List Value} {t1 s1 t2 s2 t3 s3 n1 n2 k : Nat} {w s q xa xb xc D P L : Int} (f1 : cs1.all Ex.flat = true) (f2 : cs2.all Ex.flat = true) (f3 : cs3.all Ex.flat = true) : ∀ o, (o, true) ∈ baseU5 cs1 cs2 cs3 t1 s1 t2 s2 t3 s3 n1 n2 k w s q xa xb xc D P L → FlatO o := fun o ho =>
  flatU5 (cs1 := cs1) (cs2 := cs2) (cs3 := cs3) (t1 := t1) (s1 := s1) (t2 := t2) (s2 := s2) (t3 := t3) (s3 := s3) (n1 := n1) (n2 := n2) (k := k) (w := w) (s := s) (q := q) (xa := xa) (xb := xb) (xc := xc) (D := D) (P := P) (L := L) f1 f2 f3 0 o (by unfold hpU5; exact List.mem_append_left _ (List.mem_append_left _ ho))
end Go.Proofs.YtbocpikgochioaaDoor.Ways
namespace Go.Proofs.YtbocpikgochioaaDoor.Ways
open Go Go.Ex
section
variable (cs1 cs2 cs3 : List Value) (t1 s1 t2 s2 t3 s3 n1 n2 k : Nat) (w s q xa xb xc D P L : Int)
noncomputable def LU4 : LTab := regE noL Fn.top_Uneven 4 242 10 OU4 (liveU4 cs1 cs2 cs3 t1 s1 t2 s2 t3 s3 n1 n2 k w s q xa xb xc D P L 0) (baseU4 cs1 cs2 cs3 t1 s1 t2 s2 t3 s3 n1 n2 k w s q xa xb xc D P L) (.leaf (.ex .normal (tmL 242 (liveU4 cs1 cs2 cs3 t1 s1 t2 s2 t3 s3 n1 n2 k w s q xa xb xc D P L 16383)) (heapL ((hpU4 cs1 cs2 cs3 t1 s1 t2 s2 t3 s3 n1 n2 k w s q xa xb xc D P L 16383).map (·.1))) []))
noncomputable def LU5 : LTab := regE (LU4 cs1 cs2 cs3 t1 s1 t2 s2 t3 s3 n1 n2 k w s q xa xb xc D P L) Fn.top_Uneven 5 242 14 OU5 (liveU5 cs1 cs2 cs3 t1 s1 t2 s2 t3 s3 n1 n2 k w s q xa xb xc D P L 0) (baseU5 cs1 cs2 cs3 t1 s1 t2 s2 t3 s3 n1 n2 k w s q xa xb xc D P L) (.leaf (.ex .normal (tmL 242 (liveU5 cs1 cs2 cs3 t1 s1 t2 s2 t3 s3 n1 n2 k w s q xa xb xc D P L 8191)) (heapL ((hpU5 cs1 cs2 cs3 t1 s1 t2 s2 t3 s3 n1 n2 k w s q xa xb xc D P L 8191).map (·.1))) []))
end
theorem gU4 (cs1 cs2 cs3 : List Value) (t1 s1 t2 s2 t3 s3 n1 n2 k : Nat) (w s q xa xb xc D P L : Int) : goodR 10 10 (liveU4 cs1 cs2 cs3 t1 s1 t2 s2 t3 s3 n1 n2 k w s q xa xb xc D P L 0) (baseU4 cs1 cs2 cs3 t1 s1 t2 s2 t3 s3 n1 n2 k w s q xa xb xc D P L) (List.range 10) = true := by kernel_rfl
theorem gU5 (cs1 cs2 cs3 : List Value) (t1 s1 t2 s2 t3 s3 n1 n2 k : Nat) (w s q xa xb xc D P L : Int) : goodR 14 14 (liveU5 cs1 cs2 cs3 t1 s1 t2 s2 t3 s3 n1 n2 k w s q xa xb xc D P L 0) (baseU5 cs1 cs2 cs3 t1 s1 t2 s2 t3 s3 n1 n2 k w s q xa xb xc D P L) (List.range 14) = true := by kernel_rfl
theorem lsU5 {cs1 cs2 cs3 : List Value} {t1 s1 t2 s2 t3 s3 n1 n2 k : Nat} {w s q xa xb xc D P L : Int} (f1 : cs1.all Ex.flat = true) (f2 : cs2.all Ex.flat = true) (f3 : cs3.all Ex.flat = true) (h1 : okCp (argA n1 n2 (k + 1)) cs1 cs2 cs3) (h2 : okFc (AN n1 n2 k w s q D) (cpS cs1 cs2 cs3 (k + 1))) (h3 : okFc (AN n1 n2 k w s P D) (cpS cs1 cs2 cs3 (k + 1))) : LSound Tryd.prog 7 (LU5 cs1 cs2 cs3 t1 s1 t2 s2 t3 s3 n1 n2 k w s q xa xb xc D P L) := by
  have a4 : LSound Tryd.prog 7 (LU4 cs1 cs2 cs3 t1 s1 t2 s2 t3 s3 n1 n2 k w s q xa xb xc D P L) := by
    refine LSound.region .none (gU4 cs1 cs2 cs3 t1 s1 t2 s2 t3 s3 n1 n2 k w s q xa xb xc D P L) (fbU4 f1 f2 f3) fun r hr ro tm0 H0 hk hst => ?_
    cases hr
    exact sndU4 f1 f2 f3 h1 h2 ro hk hst
  have a5 : LSound Tryd.prog 7 (LU5 cs1 cs2 cs3 t1 s1 t2 s2 t3 s3 n1 n2 k w s q xa xb xc D P L) := by
    refine LSound.region a4 (gU5 cs1 cs2 cs3 t1 s1 t2 s2 t3 s3 n1 n2 k w s q xa xb xc D P L) (fbU5 f1 f2 f3) fun r hr ro tm0 H0 hk hst => ?_
    cases hr
    exact sndU5 f1 f2 f3 h1 h3 ro hk hst
  exact a5
end Go.Proofs.YtbocpikgochioaaDoor.Ways
namespace Go.Proofs.YtbocpikgochioaaDoor.Ways
open Go Go.Ex
noncomputable def spU : Nat → Nat → Split := at_ ([38, 77, 80, 83, 86, 90, 93, 101, 108, 157, 160, 164, 168, 172, 177, 182, 197, 202, 221, 224, 235, 240].map fun x => (Fn.top_Uneven, x)) .bool (at_ [(Fn.top_Uneven, 118)] (.ints [0, 1, 2]) (at_ [(Fn.rotor_part, 15)] .bool no_))
def depE (a : Int) : Int := wrapF .i64 (1 + (IntKind.i64.wrap a).tmod 8)
def pitE (b : Int) : Int := wrapF .i64 ((IntKind.i64.wrap b).tmod 20 - 8)
def plaE (c : Int) : Int := (IntKind.i64.wrap c).tmod 3
noncomputable def CUn (cs1 cs2 cs3 : List Value) (t1 s1 t2 s2 t3 s3 n1 n2 k : Nat) (w s q xa xb xc : Int) : Cfg := ⟨TU1, spU, off_, LU5 cs1 cs2 cs3 t1 s1 t2 s2 t3 s3 n1 n2 k w s q xa xb xc (depE xa) (pitE xb) (plaE xc)⟩
noncomputable def CUg : Cfg := ⟨TU1, spU, off_, noL⟩
noncomputable def zT_ (E : Int) (t : VT) : VT := .br (eqF E 0) t (.br (eqF E 7) t (lf false))
noncomputable def errU (E1 E2 : Int) : VT := zT_ E1 (zT_ E2 (lf true))
def same2 (a b x y : Int) : Bool := (a == x) && ((b == y) && true)
def same3 (a b c x y z : Int) : Bool := (a == x) && ((b == y) && ((c == z) && true))
noncomputable def fT (e8 e9 r0 r1 s0 s1 ca cb : Int) : VT := .br (eqF e8 0) (.br (eqF e9 0) (.br (same2 r0 r1 (wrapF .i64 (3 * ca)) (wrapF .i64 (3 * cb))) (.br (same2 s0 s1 0 0) (lf true) (lf false)) (lf false)) (lf false)) (lf false)
noncomputable def rfT (e4 A B ca cb : Int) : VT :=
  askFst [e4, e4, e4] fun F => .br (!eqF F 0)
    (askFst [e4, e4, e4] fun G => .br (!eqF G 0) (fT F G 0 0 0 0 ca cb) (fT F 0 0 0 (plE (plE (plE 0 (turnAE A B 0)) (turnAE A B 1)) (turnAE A B 2)) (plE (plE (plE 0 (turnBE A B 0)) (turnBE A B 1)) (turnBE A B 2)) ca cb))
    (askFst [e4, e4, e4] fun G => .br (!eqF G 0) (fT 0 G (plE (plE (plE 0 A) A) A) (plE (plE (plE 0 B) B) B) 0 0 ca cb) (fT 0 0 (plE (plE (plE 0 A) A) A) (plE (plE (plE 0 B) B) B) (plE (plE (plE 0 (turnAE A B 0)) (turnAE A B 1)) (turnAE A B 2)) (plE (plE (plE 0 (turnBE A B 0)) (turnBE A B 1)) (turnBE A B 2)) ca cb))
noncomputable def oddT (M W L u v z : Int) : VT :=
  .br (!eqF (inE M M M) 0) (lf false) (.br (!eqF (inE u v z) 0) (lf false) (.br (!eqF (tnE W 0 L) 0) (lf false) (.br (!eqF (pairE (okE (tnE W 0 L) (turnAE W 0 L)) (okE (tnE W 0 L) (turnBE W 0 L))) 0) (lf false)
    (.br (!eqF (mErrE (okE (inE u v z) (sE u v z)) (okE (inE u v z) (aE u v z)) (okE (inE u v z) (bE u v z))) 0) (lf false)
    (.br (!same2 (okE (inE M M M) (aE M M M)) (okE (inE M M M) (bE M M M)) 0 0) (lf false)
    (.br (!same2 (okE (inE u v z) (aE u v z)) (okE (inE u v z) (bE u v z)) (okE (tnE W 0 L) (turnAE W 0 L)) (okE (tnE W 0 L) (turnBE W 0 L))) (lf false)
    (.br (!eqF (okE (pairE (okE (tnE W 0 L) (turnAE W 0 L)) (okE (tnE W 0 L) (turnBE W 0 L))) (nrE (okE (tnE W 0 L) (turnAE W 0 L)) (okE (tnE W 0 L) (turnBE W 0 L)))) (wrapF .i64 (W * W))) (lf false)
    (.br (!same3 (okE (mErrE (okE (inE u v z) (sE u v z)) (okE (inE u v z) (aE u v z)) (okE (inE u v z) (bE u v z))) (mXE (okE (inE u v z) (sE u v z)) (okE (inE u v z) (aE u v z)) (okE (inE u v z) (bE u v z))))
        (okE (mErrE (okE (inE u v z) (sE u v z)) (okE (inE u v z) (aE u v z)) (okE (inE u v z) (bE u v z))) (mYE (okE (inE u v z) (sE u v z)) (okE (inE u v z) (aE u v z)) (okE (inE u v z) (bE u v z))))
        (okE (mErrE (okE (inE u v z) (sE u v z)) (okE (inE u v z) (aE u v z)) (okE (inE u v z) (bE u v z))) (thE (okE (inE u v z) (sE u v z)) (okE (inE u v z) (aE u v z)) (okE (inE u v z) (bE u v z)))) u v z) (lf false)
      (rfT (inE u v z) (aE u v z) (bE u v z) (okE (inE u v z) (aE u v z)) (okE (inE u v z) (bE u v z)))))))))))
noncomputable def mainU (M N L : Int) : VT :=
  .br (ltF 1000000 (maxI M N)) (lf true) (.br (ltF (minI M N) (-1000000)) (lf true) (.br (decide (L = 0)) (oddT M (wrapF .i64 (N - M)) L N M M) (.br (decide (L = 1)) (oddT M (wrapF .i64 (N - M)) L M N M) (.br (decide (L = 2)) (oddT M (wrapF .i64 (N - M)) L M M N) .fail))))
noncomputable def preU (cs1 cs2 cs3 : List Value) (n1 n2 n : Nat) (w s q : Int) (t : VT) : VT :=
  askB (tru (okLi ⟨argA n1 n2 n, w, s, q, 0, 0, 0⟩ [cs1, cs2, cs3])) (.br (!hlE ⟨argA n1 n2 n, w, s, q, 0, 0, 0⟩ [cs1, cs2, cs3]) (lf true) t)
noncomputable def uneT (cs1 cs2 : List Value) (ρ : Nat → Int) (n1 n2 k : Nat) (w s q xa xb xc : Int) : VT :=
  preU cs1 cs2 (ringC ρ (k + 1)) n1 n2 (k + 1) w s q
    (.br (!eqF (hNE cs1 cs2 (ringC ρ (k + 1)) n1 n2 k w s q (depE xa)) 0) (errU (hNE cs1 cs2 (ringC ρ (k + 1)) n1 n2 k w s q (depE xa)) (hNE cs1 cs2 (ringC ρ (k + 1)) n1 n2 k w s (pitE xb) (depE xa)))
    (.br (!eqF (hNE cs1 cs2 (ringC ρ (k + 1)) n1 n2 k w s (pitE xb) (depE xa)) 0) (errU (hNE cs1 cs2 (ringC ρ (k + 1)) n1 n2 k w s q (depE xa)) (hNE cs1 cs2 (ringC ρ (k + 1)) n1 n2 k w s (pitE xb) (depE xa)))
      (mainU (mLoE cs1 cs2 (ringC ρ (k + 1)) n1 n2 k w s q (depE xa)) (mLoE cs1 cs2 (ringC ρ (k + 1)) n1 n2 k w s (pitE xb) (depE xa)) (plaE xc))))
theorem urung (cs1 cs2 cs3 : List Value) (t1 s1 t2 s2 t3 s3 n1 n2 n : Nat) (w s q xa xb xc : Int) : (execO Tryd.prog 7 CUg 80 (.call Fn.top_Uneven ⟨[blV n1 n1 n2 n2 (sl 6 0 n n), flV w s q, ag [u8 xa, u8 xb, u8 xc]]⟩ (heapL (hpU cs1 t1 s1 cs2 t2 s2 cs3 t3 s3)))).vals = preU cs1 cs2 cs3 n1 n2 n w s q .fail := by kernel_rfl
theorem ufixg (cs1 cs2 cs3 : List Value) (t1 s1 t2 s2 t3 s3 n1 n2 n : Nat) (w s q xa xb xc : Int) : execO Tryd.prog 7 CUg 80 (.call Fn.top_Uneven ⟨[blV n1 n1 n2 n2 (sl 6 0 n n), flV w s q, ag [u8 xa, u8 xb, u8 xc]]⟩ (heapL (hpU cs1 t1 s1 cs2 t2 s2 cs3 t3 s3))) = (execO Tryd.prog 7 CUg 80 (.call Fn.top_Uneven ⟨[blV n1 n1 n2 n2 (sl 6 0 n n), flV w s q, ag [u8 xa, u8 xb, u8 xc]]⟩ (heapL (hpU cs1 t1 s1 cs2 t2 s2 cs3 t3 s3)))).fix := by kernel_rfl
theorem urun1 (cs1 cs2 : List Value) (ρ : Nat → Int) (t1 s1 t2 s2 t3 s3 n1 n2 : Nat) (w s q xa xb xc : Int) : (execO Tryd.prog 7 (CUn cs1 cs2 (ringC ρ 1) t1 s1 t2 s2 t3 s3 n1 n2 0 w s q xa xb xc) 80 (.call Fn.top_Uneven ⟨[blV n1 n1 n2 n2 (sl 6 0 1 1), flV w s q, ag [u8 xa, u8 xb, u8 xc]]⟩ (heapL (hpU cs1 t1 s1 cs2 t2 s2 (ringC ρ 1) t3 s3)))).vals = uneT cs1 cs2 ρ n1 n2 0 w s q xa xb xc := by kernel_rfl
theorem ufix1 (cs1 cs2 : List Value) (ρ : Nat → Int) (t1 s1 t2 s2 t3 s3 n1 n2 : Nat) (w s q xa xb xc : Int) : execO Tryd.prog 7 (CUn cs1 cs2 (ringC ρ 1) t1 s1 t2 s2 t3 s3 n1 n2 0 w s q xa xb xc) 80 (.call Fn.top_Uneven ⟨[blV n1 n1 n2 n2 (sl 6 0 1 1), flV w s q, ag [u8 xa, u8 xb, u8 xc]]⟩ (heapL (hpU cs1 t1 s1 cs2 t2 s2 (ringC ρ 1) t3 s3))) = (execO Tryd.prog 7 (CUn cs1 cs2 (ringC ρ 1) t1 s1 t2 s2 t3 s3 n1 n2 0 w s q xa xb xc) 80 (.call Fn.top_Uneven ⟨[blV n1 n1 n2 n2 (sl 6 0 1 1), flV w s q, ag [u8 xa, u8 xb, u8 xc]]⟩ (heapL (hpU cs1 t1 s1 cs2 t2 s2 (ringC ρ 1) t3 s3)))).fix := by kernel_rfl
theorem urun2 (cs1 cs2 : List Value) (ρ : Nat → Int) (t1 s1 t2 s2 t3 s3 n1 n2 : Nat) (w s q xa xb xc : Int) : (execO Tryd.prog 7 (CUn cs1 cs2 (ringC ρ 2) t1 s1 t2 s2 t3 s3 n1 n2 1 w s q xa xb xc) 80 (.call Fn.top_Uneven ⟨[blV n1 n1 n2 n2 (sl 6 0 2 2), flV w s q, ag [u8 xa, u8 xb, u8 xc]]⟩ (heapL (hpU cs1 t1 s1 cs2 t2 s2 (ringC ρ 2) t3 s3)))).vals = uneT cs1 cs2 ρ n1 n2 1 w s q xa xb xc := by kernel_rfl
theorem ufix2 (cs1 cs2 : List Value) (ρ : Nat → Int) (t1 s1 t2 s2 t3 s3 n1 n2 : Nat) (w s q xa xb xc : Int) : execO Tryd.prog 7 (CUn cs1 cs2 (ringC ρ 2) t1 s1 t2 s2 t3 s3 n1 n2 1 w s q xa xb xc) 80 (.call Fn.top_Uneven ⟨[blV n1 n1 n2 n2 (sl 6 0 2 2), flV w s q, ag [u8 xa, u8 xb, u8 xc]]⟩ (heapL (hpU cs1 t1 s1 cs2 t2 s2 (ringC ρ 2) t3 s3))) = (execO Tryd.prog 7 (CUn cs1 cs2 (ringC ρ 2) t1 s1 t2 s2 t3 s3 n1 n2 1 w s q xa xb xc) 80 (.call Fn.top_Uneven ⟨[blV n1 n1 n2 n2 (sl 6 0 2 2), flV w s q, ag [u8 xa, u8 xb, u8 xc]]⟩ (heapL (hpU cs1 t1 s1 cs2 t2 s2 (ringC ρ 2) t3 s3)))).fix := by kernel_rfl
theorem urun3 (cs1 cs2 : List Value) (ρ : Nat → Int) (t1 s1 t2 s2 t3 s3 n1 n2 : Nat) (w s q xa xb xc : Int) : (execO Tryd.prog 7 (CUn cs1 cs2 (ringC ρ 3) t1 s1 t2 s2 t3 s3 n1 n2 2 w s q xa xb xc) 80 (.call Fn.top_Uneven ⟨[blV n1 n1 n2 n2 (sl 6 0 3 3), flV w s q, ag [u8 xa, u8 xb, u8 xc]]⟩ (heapL (hpU cs1 t1 s1 cs2 t2 s2 (ringC ρ 3) t3 s3)))).vals = uneT cs1 cs2 ρ n1 n2 2 w s q xa xb xc := by kernel_rfl
theorem ufix3 (cs1 cs2 : List Value) (ρ : Nat → Int) (t1 s1 t2 s2 t3 s3 n1 n2 : Nat) (w s q xa xb xc : Int) : execO Tryd.prog 7 (CUn cs1 cs2 (ringC ρ 3) t1 s1 t2 s2 t3 s3 n1 n2 2 w s q xa xb xc) 80 (.call Fn.top_Uneven ⟨[blV n1 n1 n2 n2 (sl 6 0 3 3), flV w s q, ag [u8 xa, u8 xb, u8 xc]]⟩ (heapL (hpU cs1 t1 s1 cs2 t2 s2 (ringC ρ 3) t3 s3))) = (execO Tryd.prog 7 (CUn cs1 cs2 (ringC ρ 3) t1 s1 t2 s2 t3 s3 n1 n2 2 w s q xa xb xc) 80 (.call Fn.top_Uneven ⟨[blV n1 n1 n2 n2 (sl 6 0 3 3), flV w s q, ag [u8 xa, u8 xb, u8 xc]]⟩ (heapL (hpU cs1 t1 s1 cs2 t2 s2 (ringC ρ 3) t3 s3)))).fix := by kernel_rfl
end Go.Proofs.YtbocpikgochioaaDoor.Ways
namespace Go.Proofs.YtbocpikgochioaaDoor.Ways
open Go Go.Ex
/-! ### pairs -/
theorem w0_ : wrapF .i64 0 = 0 := by decide
section
variable {a b : Int} (ha : -10000000000 ≤ a ∧ a ≤ 10000000000) (hb : -10000000000 ≤ b ∧ b ≤ 10000000000)
include ha hb
theorem tv0 : turnAE a b 0 = a ∧ turnBE a b 0 = b := by
  have t0 : thirdsE 0 = 0 := by decide
  unfold turnAE turnBE by3E tAE tBE
  rw [t0, if_pos rfl, if_pos rfl, Int.mul_one, Int.mul_zero, Int.mul_zero, Int.mul_one, w0_, wsm (x := a) (by omega) (by omega), wsm (x := b) (by omega) (by omega), Int.zero_add, Int.sub_zero, Int.sub_zero, wsm (x := a) (by omega) (by omega), wsm (x := b) (by omega) (by omega), wsm (x := b) (by omega) (by omega)]
  exact ⟨rfl, rfl⟩
theorem tv1 : turnAE a b 1 = -b ∧ turnBE a b 1 = a - b := by
  have t1 : thirdsE 1 = 1 := by decide
  unfold turnAE turnBE by3E tAE tBE
  rw [t1, if_neg (by omega), if_pos rfl, if_neg (by omega), if_pos rfl, Int.mul_one, Int.mul_zero, Int.mul_zero, Int.mul_one, w0_, wsm (x := a) (by omega) (by omega), wsm (x := b) (by omega) (by omega), Int.zero_sub, Int.add_zero, wsm (x := -b) (by omega) (by omega), wsm (x := a) (by omega) (by omega), wsm (x := a - b) (by omega) (by omega)]
  exact ⟨rfl, rfl⟩
theorem tv2 : turnAE a b 2 = b - a ∧ turnBE a b 2 = -a := by
  have t2 : thirdsE 2 = 2 := by decide
  unfold turnAE turnBE by3E tAE tBE
  have hm : a * -1 = -a := by omega
  have hm2 : b * -1 = -b := by omega
  rw [t2, if_neg (by omega), if_neg (by omega), if_neg (by omega), if_neg (by omega), hm, hm2, wsm (x := -a) (by omega) (by omega), wsm (x := -b) (by omega) (by omega), wsm (x := -a + -b) (by omega) (by omega), wsm (x := -a - -b) (by omega) (by omega), wsm (x := -a + -b - -b) (by omega) (by omega)]
  omega
end
theorem brz {x y : VT} : (VT.br (!eqF 0 0) x y).sel = y.sel := rfl
theorem bro {x y : VT} : (VT.br (eqF 0 0) x y).sel = x.sel := rfl
theorem brs {b : Bool} {x y : VT} (h : b = true) : (VT.br (!b) x y).sel = y.sel := by rw [h]; rfl
theorem brp {b : Bool} {x y : VT} (h : b = true) : (VT.br b x y).sel = x.sel := by rw [h]; rfl
theorem same2_self (a b : Int) : same2 a b a b = true := by unfold same2; simp
theorem same3_self (a b c : Int) : same3 a b c a b c = true := by unfold same3; simp
theorem in0 {x y z : Int} (hx : -1000000 ≤ x ∧ x ≤ 1000000) (hy : -1000000 ≤ y ∧ y ≤ 1000000) (hz : -1000000 ≤ z ∧ z ≤ 1000000) : inE x y z = 0 := by unfold inE; rw [if_pos ⟨hx, hy, hz⟩]
theorem pair0 {x y : Int} (hx : -999999999 ≤ x ∧ x ≤ 999999999) (hy : -999999999 ≤ y ∧ y ≤ 999999999) : pairE x y = 0 := by
  unfold pairE numE
  rw [range0 hx.1 hx.2, range0 hy.1 hy.2]; rfl
section
variable {M W L u v z : Int} (hM : -1000000 ≤ M ∧ M ≤ 1000000) (hu : -1000000 ≤ u ∧ u ≤ 1000000) (hv : -1000000 ≤ v ∧ v ≤ 1000000) (hz : -1000000 ≤ z ∧ z ≤ 1000000)
include hu hv hz
theorem merge0 : mErrE (u + v + z) (u - z) (v - z) = 0 ∧ mXE (u + v + z) (u - z) (v - z) = u ∧ mYE (u + v + z) (u - z) (v - z) = v ∧ thE (u + v + z) (u - z) (v - z) = z := by
  have ht : thE (u + v + z) (u - z) (v - z) = z := by
    unfold thE
    rw [wsm (x := u + v + z - (u - z)) (by omega) (by omega), wsm (x := u + v + z - (u - z) - (v - z)) (by omega) (by omega), show u + v + z - (u - z) - (v - z) = 3 * z from by omega, Int.mul_tdiv_cancel_left _ (by decide), ← wrapF_eq, wsm (by omega) (by omega)]
  have hx : mXE (u + v + z) (u - z) (v - z) = u := by
    unfold mXE
    rw [ht, wsm (by omega) (by omega)]; omega
  have hy : mYE (u + v + z) (u - z) (v - z) = v := by
    unfold mYE
    rw [ht, wsm (by omega) (by omega)]; omega
  obtain ⟨s1, s2, s3⟩ := split_eq (x := u) (y := v) (z := z) (by omega) (by omega) (by omega)
  have hc : confE (u + v + z) (u - z) (v - z) = 0 := by
    unfold confE
    rw [hx, hy, ht, s1, s2, s3, if_neg (by omega)]
    exact in0 hu hv hz
  refine ⟨?_, hx, hy, ht⟩
  unfold mErrE
  rw [range0 (by omega) (by omega), pair0 (by omega) (by omega), hc]; rfl
theorem rf_sel : (rfT 0 (u - z) (v - z) (u - z) (v - z)).sel = some (b_ true) := by
  have hA : -10000000000 ≤ u - z ∧ u - z ≤ 10000000000 := by omega
  have hB : -10000000000 ≤ v - z ∧ v - z ≤ 10000000000 := by omega
  obtain ⟨x0, y0⟩ := tv0 hA hB
  obtain ⟨x1, y1⟩ := tv1 hA hB
  obtain ⟨x2, y2⟩ := tv2 hA hB
  have p3 : ∀ a : Int, -10000000000 ≤ a ∧ a ≤ 10000000000 → plE (plE (plE 0 a) a) a = wrapF .i64 (3 * a) := by
    intro a ha
    unfold plE
    rw [wsm (x := 0 + a) (by omega) (by omega), wsm (x := 0 + a + a) (by omega) (by omega), wsm (x := 0 + a + a + a) (by omega) (by omega), wsm (x := 3 * a) (by omega) (by omega)]
    omega
  have q0 : ∀ a b c : Int, (-100000000000 ≤ a ∧ a ≤ 100000000000) → (-100000000000 ≤ b ∧ b ≤ 100000000000) → a + b + c = 0 → plE (plE (plE 0 a) b) c = 0 := by
    intro a b c ha hb hc
    unfold plE
    rw [wsm (x := 0 + a) (by omega) (by omega), wsm (x := 0 + a + b) (by omega) (by omega), wsm (x := 0 + a + b + c) (by omega) (by omega)]
    omega
  unfold rfT
  have hz0 : firstL [0, 0, 0] = 0 := rfl
  rw [askFst_sel (by simp), hz0, brz, askFst_sel (by simp), hz0, brz]
  unfold fT
  rw [bro, bro, x0, x1, x2, y0, y1, y2, p3 _ hA, p3 _ hB, q0 _ _ _ (by omega) (by omega) (by omega), q0 _ _ _ (by omega) (by omega) (by omega), brp (same2_self _ _)]
  rfl
include hM
theorem odd_sel (hW : -2000000 ≤ W ∧ W ≤ 2000000) (hL : 0 ≤ L ∧ L ≤ 2) (hA : turnAE W 0 L = u - z) (hB : turnBE W 0 L = v - z) (hN : nrE (u - z) (v - z) = wrapF .i64 (W * W)) : (oddT M W L u v z).sel = some (b_ true) := by
  have i1 : inE M M M = 0 := in0 hM hM hM
  have i2 : inE u v z = 0 := in0 hu hv hz
  have t : tnE W 0 L = 0 := by
    unfold tnE numE
    rw [pair0 (by omega) (by omega), range0 (by omega) (by omega)]; rfl
  obtain ⟨s1, s2, s3⟩ := split_eq (x := u) (y := v) (z := z) (by omega) (by omega) (by omega)
  obtain ⟨_, s4, s5⟩ := split_eq (x := M) (y := M) (z := M) (by omega) (by omega) (by omega)
  obtain ⟨m1, m2, m3, m4⟩ := merge0 hu hv hz
  have p : pairE (u - z) (v - z) = 0 := pair0 (by omega) (by omega)
  unfold oddT
  rw [i1, i2, t, s1, s2, s3, s4, s5, hA, hB]
  simp only [ok0]
  rw [m1, m2, m3, m4, p, hN]
  simp only [ok0]
  rw [Int.sub_self M, brz, brz, brz, brz, brz, brs (same2_self 0 0), brs (same2_self _ _)]
  rw [eqF_d, decide_eq_true rfl]
  show (VT.br (!same3 u v z u v z) _ _).sel = _
  rw [brs (same3_self _ _ _)]
  exact rf_sel hu hv hz
end
theorem main_sel {M N L : Int} (hL : L = 0 ∨ L = 1 ∨ L = 2) : (mainU M N L).sel = some (b_ true) := by
  unfold mainU
  obtain ⟨a1, a2, a3⟩ := maxI_eq M N
  obtain ⟨b1, b2, b3⟩ := minI_eq M N
  rw [ltF_eq, brD]
  by_cases c1 : 1000000 < maxI M N
  · rw [if_pos c1]; rfl
  rw [if_neg c1, ltF_eq, brD]
  by_cases c2 : minI M N < -1000000
  · rw [if_pos c2]; rfl
  rw [if_neg c2]
  have hM : -1000000 ≤ M ∧ M ≤ 1000000 := by omega
  have hN : -1000000 ≤ N ∧ N ≤ 1000000 := by omega
  have hw : wrapF .i64 (N - M) = N - M := wsm (by omega) (by omega)
  have hW : -10000000000 ≤ N - M ∧ N - M ≤ 10000000000 := by omega
  have h0 : -10000000000 ≤ (0 : Int) ∧ (0 : Int) ≤ 10000000000 := by omega
  have m1 : (N - M) * (N - M) ≤ 4000000000000 ∧ 0 ≤ (N - M) * (N - M) := by
    have q : (N - M) * (N - M) = ((N - M).natAbs : Int) * ((N - M).natAbs : Int) := (Int.natAbs_mul_self' _).symm
    have := mul_bd (a := ((N - M).natAbs : Int)) (b := ((N - M).natAbs : Int)) (A := 2000000) (B := 2000000) (by omega) (by omega)
    rw [q]; omega
  have hk : wrapF .i64 ((N - M) * (N - M)) = (N - M) * (N - M) := wrapF_in (by omega) (by omega)
  have n1 : nrE (N - M) 0 = wrapF .i64 ((N - M) * (N - M)) := by
    unfold nrE
    simp only [Int.mul_zero, w0_, Int.sub_zero, Int.add_zero, hk]
  have n2 : nrE 0 (N - M) = wrapF .i64 ((N - M) * (N - M)) := by
    unfold nrE
    simp only [Int.mul_zero, Int.zero_mul, w0_, Int.sub_zero, Int.zero_add, hk]
  have n3 : nrE (-(N - M)) (-(N - M)) = wrapF .i64 ((N - M) * (N - M)) := by
    unfold nrE
    rw [Int.neg_mul_neg, hk, Int.sub_self, w0_, Int.zero_add, hk]
  rw [hw]
  rcases hL with rfl | rfl | rfl
  · obtain ⟨x, y⟩ := tv0 hW h0
    show (oddT M (N - M) 0 N M M).sel = _
    exact odd_sel hM hN hM hM (by omega) (by omega) x (by rw [y]; omega) (by rw [Int.sub_self]; exact n1)
  · obtain ⟨x, y⟩ := tv1 hW h0
    show (oddT M (N - M) 1 M N M).sel = _
    exact odd_sel hM hM hN hM (by omega) (by omega) (by rw [x]; omega) (by rw [y]; omega) (by rw [Int.sub_self]; exact n2)
  · obtain ⟨x, y⟩ := tv2 hW h0
    show (oddT M (N - M) 2 M M N).sel = _
    exact odd_sel hM hM hM hN (by omega) (by omega) (by rw [x]; omega) (by rw [y]; omega) (by rw [show M - N = -(N - M) from by omega]; exact n3)
end Go.Proofs.YtbocpikgochioaaDoor.Ways
namespace Go.Proofs.YtbocpikgochioaaDoor.Ways
open Go Go.Ex
section
variable {cs1 cs2 cs3 : List Value} {t1 s1 t2 s2 t3 s3 n1 n2 n k : Nat} {w s q xa xb xc : Int} {ρ : Nat → Int}
theorem dep_bd (h : 0 ≤ xa ∧ xa ≤ 255) : 1 ≤ depE xa ∧ depE xa ≤ 8 := by
  unfold depE
  rw [← wrapF_eq, wrapF_in (n := xa) (by omega) (by omega), Int.tmod_eq_emod_of_nonneg h.1, wrapF_in (by omega) (by omega)]
  omega
theorem pit_bd (h : 0 ≤ xb ∧ xb ≤ 255) : -8 ≤ pitE xb ∧ pitE xb ≤ 11 := by
  unfold pitE
  rw [← wrapF_eq, wrapF_in (n := xb) (by omega) (by omega), Int.tmod_eq_emod_of_nonneg h.1, wrapF_in (by omega) (by omega)]
  omega
theorem pla_bd (h : 0 ≤ xc ∧ xc ≤ 255) : plaE xc = 0 ∨ plaE xc = 1 ∨ plaE xc = 2 := by
  unfold plaE
  rw [← wrapF_eq, wrapF_in (n := xc) (by omega) (by omega), Int.tmod_eq_emod_of_nonneg h.1]
  omega
theorem flow_pit (h : flowE w s q = 0) {p : Int} (hp : -64 ≤ p ∧ p ≤ 64) : flowE w s p = 0 := by
  obtain ⟨h1, h2, _⟩ := flow_z h
  unfold flowE
  rw [range0 h1.1 h1.2, range0 h2.1 h2.2, range0 hp.1 hp.2]
  rfl
theorem preU_sel {t : VT} (hL : okLi ⟨argA n1 n2 n, w, s, q, 0, 0, 0⟩ [cs1, cs2, cs3])
    (ht : shE n1 n2 n = true → errB (argA n1 n2 n) [cs1, cs2, cs3] = 0 → flowE w s q = 0 → t.sel = some (b_ true)) : (preU cs1 cs2 cs3 n1 n2 n w s q t).sel = some (b_ true) := by
  unfold preU
  rw [askB_sel (tru_iff.2 hL), brB]
  cases hl : hlE ⟨argA n1 n2 n, w, s, q, 0, 0, 0⟩ [cs1, cs2, cs3] with
  | false => rfl
  | true =>
    rw [if_neg (by decide)]
    unfold hlE at hl
    rw [Bool.and_eq_true, Bool.and_eq_true, Bool.and_eq_true, eqF_d, eqF_d, decide_eq_true_eq, decide_eq_true_eq] at hl
    exact ht hl.1 hl.2.1 hl.2.2.1
theorem zT_sel {E : Int} {t : VT} (h : E = 7 ∨ E = 0) (ht : t.sel = some (b_ true)) : (zT_ E t).sel = some (b_ true) := by
  unfold zT_
  rcases h with rfl | rfl
  · exact ht
  · exact ht
theorem errU_sel {E1 E2 : Int} (h1 : E1 = 7 ∨ E1 = 0) (h2 : E2 = 7 ∨ E2 = 0) : (errU E1 E2).sel = some (b_ true) := zT_sel h1 (zT_sel h2 rfl)
theorem une_sel (h : NI cs1 cs2 ρ n1 n2 k w s q (depE xa)) (h' : NI cs1 cs2 ρ n1 n2 k w s (pitE xb) (depE xa)) (hc : 0 ≤ xc ∧ xc ≤ 255) (hL : okLi ⟨argA n1 n2 (k + 1), w, s, q, 0, 0, 0⟩ [cs1, cs2, ringC ρ (k + 1)]) : (uneT cs1 cs2 ρ n1 n2 k w s q xa xb xc).sel = some (b_ true) := by
  unfold uneT
  refine preU_sel hL fun _ _ _ => ?_
  have e1 : hNE cs1 cs2 (ringC ρ (k + 1)) n1 n2 k w s q (depE xa) = 7 ∨ hNE cs1 cs2 (ringC ρ (k + 1)) n1 n2 k w s q (depE xa) = 0 := by
    rw [h.hN]
    rcases hasE_cases (scA ρ w s q n1 n1 n2 n2) [cs1, cs2] (k + 1) 0 with g | ⟨g, _⟩
    · exact .inl g
    · exact .inr g
  have e2 : hNE cs1 cs2 (ringC ρ (k + 1)) n1 n2 k w s (pitE xb) (depE xa) = 7 ∨ hNE cs1 cs2 (ringC ρ (k + 1)) n1 n2 k w s (pitE xb) (depE xa) = 0 := by
    rw [h'.hN]
    rcases hasE_cases (scA ρ w s (pitE xb) n1 n1 n2 n2) [cs1, cs2] (k + 1) 0 with g | ⟨g, _⟩
    · exact .inl g
    · exact .inr g
  have hE := errU_sel e1 e2
  rw [eqF_d, brN, eqF_d, brN]
  by_cases c1 : hNE cs1 cs2 (ringC ρ (k + 1)) n1 n2 k w s q (depE xa) = 0
  · rw [if_pos c1]
    by_cases c2 : hNE cs1 cs2 (ringC ρ (k + 1)) n1 n2 k w s (pitE xb) (depE xa) = 0
    · rw [if_pos c2]
      exact main_sel (pla_bd hc)
    · rw [if_neg c2]; exact hE
  · rw [if_neg c1]; exact hE
theorem ni_u {k : Nat} (hI : LawIn cs1 cs2 cs3 n1 n2 (k + 1)) (hk : k ≤ 2) (hs : shE n1 n2 (k + 1) = true) (hb : errB (argA n1 n2 (k + 1)) [cs1, cs2, cs3] = 0) (hf : flowE w s q = 0) {D : Int} (hD : 1 ≤ D ∧ D ≤ 11) : NI cs1 cs2 (rhoE cs3) n1 n2 k w s q D := by
  have hb' : bladeE cs1 n1 cs2 n2 (rhoE cs3) (k + 1) = 0 := hb
  obtain ⟨hp, _⟩ := blade_z hb'
  obtain ⟨_, p2, _⟩ := pol_z hp
  unfold shE at hs
  rw [decide_eq_true_eq] at hs
  exact ⟨hI.o1, hI.l1, hI.o2, hI.l2, hk, by rw [← hI.r3], by omega, hb', hf, hD⟩
theorem une_n1 (hI : LawIn cs1 cs2 cs3 n1 n2 1) (h : NI cs1 cs2 (rhoE cs3) n1 n2 0 w s q (depE xa)) (h' : NI cs1 cs2 (rhoE cs3) n1 n2 0 w s (pitE xb) (depE xa)) (hc : 0 ≤ xc ∧ xc ≤ 255) (hL : okLi ⟨argA n1 n2 1, w, s, q, 0, 0, 0⟩ [cs1, cs2, cs3]) :
    ∃ H', Sound Tryd.prog 7 (.call Fn.top_Uneven ⟨[blV n1 n1 n2 n2 (sl 6 0 1 1), flV w s q, ag [u8 xa, u8 xb, u8 xc]]⟩ (heapL (hpU cs1 t1 s1 cs2 t2 s2 cs3 t3 s3))) (.val (b_ true) H') := by
  have hr : cs3 = ringC (rhoE cs3) 1 := hI.r3
  have hL' : okLi ⟨argA n1 n2 (0 + 1), w, s, q, 0, 0, 0⟩ [cs1, cs2, ringC (rhoE cs3) (0 + 1)] := by
    show okLi ⟨argA n1 n2 1, w, s, q, 0, 0, 0⟩ [cs1, cs2, ringC (rhoE cs3) 1]
    rw [← hr]; exact hL
  have hD := h.hD
  have hb : bladeE cs1 n1 cs2 n2 (rhoE (ringC (rhoE cs3) (0 + 1))) (0 + 1) = 0 := by rw [h.rho]; exact h.hb
  have hl := lsU5 (t1 := t1) (s1 := s1) (t2 := t2) (s2 := s2) (t3 := t3) (s3 := s3) (k := 0) (xa := xa) (xb := xb) (xc := xc) (D := depE xa) (P := pitE xb) (L := plaE xc) h.o1.1 h.o2.1 (ringC_flat (rhoE cs3) 1) (okCp_of h (rhoE cs3)) (okFc_of h (rhoE cs3) hb (D' := depE xa) (by omega)) (okFc_of h' (rhoE cs3) hb (D' := depE xa) (by omega))
  have := one_tree (C := CUn cs1 cs2 (ringC (rhoE cs3) 1) t1 s1 t2 s2 t3 s3 n1 n2 0 w s q xa xb xc) (n := 80) _ tsU1 hl (ufix1 ..) (urun1 ..) (une_sel h h' hc hL')
  rw [← hr] at this
  exact this
theorem une_n2 (hI : LawIn cs1 cs2 cs3 n1 n2 2) (h : NI cs1 cs2 (rhoE cs3) n1 n2 1 w s q (depE xa)) (h' : NI cs1 cs2 (rhoE cs3) n1 n2 1 w s (pitE xb) (depE xa)) (hc : 0 ≤ xc ∧ xc ≤ 255) (hL : okLi ⟨argA n1 n2 2, w, s, q, 0, 0, 0⟩ [cs1, cs2, cs3]) :
    ∃ H', Sound Tryd.prog 7 (.call Fn.top_Uneven ⟨[blV n1 n1 n2 n2 (sl 6 0 2 2), flV w s q, ag [u8 xa, u8 xb, u8 xc]]⟩ (heapL (hpU cs1 t1 s1 cs2 t2 s2 cs3 t3 s3))) (.val (b_ true) H') := by
  have hr : cs3 = ringC (rhoE cs3) 2 := hI.r3
  have hL' : okLi ⟨argA n1 n2 (1 + 1), w, s, q, 0, 0, 0⟩ [cs1, cs2, ringC (rhoE cs3) (1 + 1)] := by
    show okLi ⟨argA n1 n2 2, w, s, q, 0, 0, 0⟩ [cs1, cs2, ringC (rhoE cs3) 2]
    rw [← hr]; exact hL
  have hD := h.hD
  have hb : bladeE cs1 n1 cs2 n2 (rhoE (ringC (rhoE cs3) (1 + 1))) (1 + 1) = 0 := by rw [h.rho]; exact h.hb
  have hl := lsU5 (t1 := t1) (s1 := s1) (t2 := t2) (s2 := s2) (t3 := t3) (s3 := s3) (k := 1) (xa := xa) (xb := xb) (xc := xc) (D := depE xa) (P := pitE xb) (L := plaE xc) h.o1.1 h.o2.1 (ringC_flat (rhoE cs3) 2) (okCp_of h (rhoE cs3)) (okFc_of h (rhoE cs3) hb (D' := depE xa) (by omega)) (okFc_of h' (rhoE cs3) hb (D' := depE xa) (by omega))
  have := one_tree (C := CUn cs1 cs2 (ringC (rhoE cs3) 2) t1 s1 t2 s2 t3 s3 n1 n2 1 w s q xa xb xc) (n := 80) _ tsU1 hl (ufix2 ..) (urun2 ..) (une_sel h h' hc hL')
  rw [← hr] at this
  exact this
theorem une_n3 (hI : LawIn cs1 cs2 cs3 n1 n2 3) (h : NI cs1 cs2 (rhoE cs3) n1 n2 2 w s q (depE xa)) (h' : NI cs1 cs2 (rhoE cs3) n1 n2 2 w s (pitE xb) (depE xa)) (hc : 0 ≤ xc ∧ xc ≤ 255) (hL : okLi ⟨argA n1 n2 3, w, s, q, 0, 0, 0⟩ [cs1, cs2, cs3]) :
    ∃ H', Sound Tryd.prog 7 (.call Fn.top_Uneven ⟨[blV n1 n1 n2 n2 (sl 6 0 3 3), flV w s q, ag [u8 xa, u8 xb, u8 xc]]⟩ (heapL (hpU cs1 t1 s1 cs2 t2 s2 cs3 t3 s3))) (.val (b_ true) H') := by
  have hr : cs3 = ringC (rhoE cs3) 3 := hI.r3
  have hL' : okLi ⟨argA n1 n2 (2 + 1), w, s, q, 0, 0, 0⟩ [cs1, cs2, ringC (rhoE cs3) (2 + 1)] := by
    show okLi ⟨argA n1 n2 3, w, s, q, 0, 0, 0⟩ [cs1, cs2, ringC (rhoE cs3) 3]
    rw [← hr]; exact hL
  have hD := h.hD
  have hb : bladeE cs1 n1 cs2 n2 (rhoE (ringC (rhoE cs3) (2 + 1))) (2 + 1) = 0 := by rw [h.rho]; exact h.hb
  have hl := lsU5 (t1 := t1) (s1 := s1) (t2 := t2) (s2 := s2) (t3 := t3) (s3 := s3) (k := 2) (xa := xa) (xb := xb) (xc := xc) (D := depE xa) (P := pitE xb) (L := plaE xc) h.o1.1 h.o2.1 (ringC_flat (rhoE cs3) 3) (okCp_of h (rhoE cs3)) (okFc_of h (rhoE cs3) hb (D' := depE xa) (by omega)) (okFc_of h' (rhoE cs3) hb (D' := depE xa) (by omega))
  have := one_tree (C := CUn cs1 cs2 (ringC (rhoE cs3) 3) t1 s1 t2 s2 t3 s3 n1 n2 2 w s q xa xb xc) (n := 80) _ tsU1 hl (ufix3 ..) (urun3 ..) (une_sel h h' hc hL')
  rw [← hr] at this
  exact this
theorem uneven_true (ha : 0 ≤ xa ∧ xa ≤ 255) (hb : 0 ≤ xb ∧ xb ≤ 255) (hc : 0 ≤ xc ∧ xc ≤ 255) (f1 : cs1.all Ex.flat = true) (f2 : cs2.all Ex.flat = true) (f3 : cs3.all Ex.flat = true) (hin : five n → n1 ≤ 1000000 → n2 ≤ 1000000 → LawIn cs1 cs2 cs3 n1 n2 n) :
    ∃ H', Sound Tryd.prog 7 (.call Fn.top_Uneven ⟨[blV n1 n1 n2 n2 (sl 6 0 n n), flV w s q, ag [u8 xa, u8 xb, u8 xc]]⟩ (heapL (hpU cs1 t1 s1 cs2 t2 s2 cs3 t3 s3))) (.val (b_ true) H') := by
  have hI : shE n1 n2 n = true → LawIn cs1 cs2 cs3 n1 n2 n := fun hs => by
    unfold shE at hs
    rw [decide_eq_true_eq] at hs
    have hn : n = 0 ∨ n = 1 ∨ n = 2 ∨ n = 3 ∨ n = 17 := by omega
    exact hin hn (by omega) (by omega)
  have hL : okLi ⟨argA n1 n2 n, w, s, q, 0, 0, 0⟩ [cs1, cs2, cs3] := ⟨rfl, ⟨rfl, rfl, rfl⟩, ⟨f1, f2, f3⟩, fun hs => okB3_in (hI hs)⟩
  by_cases hall : shE n1 n2 n = true ∧ errB (argA n1 n2 n) [cs1, cs2, cs3] = 0 ∧ flowE w s q = 0
  · obtain ⟨hs, he, hf⟩ := hall
    have hI := hI hs
    have hD := dep_bd ha
    have hP := pit_bd hb
    have hf' := flow_pit hf (p := pitE xb) (by omega)
    obtain ⟨_, b1, b2, _⟩ := blade_z (show bladeE cs1 n1 cs2 n2 (rhoE cs3) n = 0 from he)
    have hn : n = 1 ∨ n = 2 ∨ n = 3 := by
      have h5 : n = 0 ∨ n = 1 ∨ n = 2 ∨ n = 3 ∨ n = 17 := hI.f
      omega
    rcases hn with rfl | rfl | rfl
    · exact une_n1 hI (ni_u (k := 0) hI (by decide) hs he hf (by omega)) (ni_u (k := 0) hI (by decide) hs he hf' (by omega)) hc hL
    · exact une_n2 hI (ni_u (k := 1) hI (by decide) hs he hf (by omega)) (ni_u (k := 1) hI (by decide) hs he hf' (by omega)) hc hL
    · exact une_n3 hI (ni_u (k := 2) hI (by decide) hs he hf (by omega)) (ni_u (k := 2) hI (by decide) hs he hf' (by omega)) hc hL
  · exact one_tree (C := CUg) (n := 80) _ tsU1 .none (ufixg ..) (urung ..) (preU_sel hL fun g1 g2 g3 => absurd ⟨g1, g2, g3⟩ hall)
end
end Go.Proofs.YtbocpikgochioaaDoor.Ways
