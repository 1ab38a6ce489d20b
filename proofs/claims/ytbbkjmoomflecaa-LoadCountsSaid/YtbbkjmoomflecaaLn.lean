import Derived.Test.YtbbkjmoomflecaaLr4
noncomputable section
namespace Go.Proofs.Ytbbkjmoomflecaa.Ways
open Go Go.Ex Go.RowKit Go.Turn
/-! ### the law's table: g: the loads have no error; z: there is no load; zr: there is no reversal -/
section
variable (cs ds : List Value) (t s n c t2 s2 m c2 : Nat) (ex e2 : Bool)
noncomputable def K16 (r : Nat × Int) : Cfg := ⟨T9, spC, syCz, loopE noL 16 4 26 3 B16 ((S16 cs ds t s n c t2 s2 m c2 ex e2).st 0).live ((S16 cs ds t s n c t2 s2 m c2 ex e2).st 0).hp (finO (S16 cs ds t s n c t2 s2 m c2 ex e2) r [0, 1])⟩
noncomputable def o16 (r : Nat × Int) : Out QRes := execO Try.prog 3 (K16 cs ds t s n c t2 s2 m c2 ex e2 r) 60 (.call 16 ⟨[sl 1 0 n c, sl 2 0 m c2]⟩ (heapL [.dead, .cells cs t s ex, .cells ds t2 s2 e2]))
theorem v16 (r : Nat × Int) : (o16 cs ds t s n c t2 s2 m c2 ex e2 r).vals = .br (!eqF n m) (.leaf (b_ false)) (.br (Nat.beq r.1 0) (.leaf (b_ true)) (.br (Nat.beq r.1 1) (.leaf (b_ false)) .fail)) := by kernel_rfl
theorem x16 (r : Nat × Int) : o16 cs ds t s n c t2 s2 m c2 ex e2 r = (o16 cs ds t s n c t2 s2 m c2 ex e2 r).fix := by kernel_rfl
end
def SbE (a b : List Value) (n c m c2 : Nat) : Prop := okP a n c ∧ okP b m c2 ∧ n = m ∧ n < 1000000 ∧ ∀ j, j < n → eqP a b j = true
def sp16 : ESpec := fun al css => match al, css with
  | [.slice (some ⟨1, 0, none⟩) n c, .slice (some ⟨2, 0, none⟩) m c2], [a, b] => some (SbE a b n c m c2, b_ true)
  | _, _ => none
theorem c16 : ∀ al css os p v, sp16 al css = some (p, v) → p → Blks css os → (∀ cs ∈ css, cs.all Ex.flat = true) ∧ clean 6 v = true ∧ ∃ H', Sound Try.prog (gl + css.length) (.call 16 ⟨al⟩ (heapL (deads ++ os))) (.val v H') := by
  intro al css os p v hs hp hb
  unfold sp16 at hs
  split at hs
  case h_2 => cases hs
  rename_i n c m c2 a b
  cases hs
  obtain ⟨t, s, ex, t2, s2, e2, rfl⟩ := blks2 hb
  obtain ⟨p1, p2, rfl, p4, p5⟩ := hp
  refine ⟨fun x hx => ?_, rfl, ?_⟩
  · simp only [List.mem_cons, List.not_mem_nil, or_false] at hx
    rcases hx with rfl | rfl
    · exact p1.1
    · exact p2.1
  have hr : runS (st16 a b n c n c2) (n + 1) 0 = some (0, (n : Int)) := by
    refine run_all (step := st16 a b n c n c2) (st := fun j => ((j : Nat) : Int)) (a := 0) n (fun j hj => ?_) ?_
    · unfold st16
      rw [br_t (by rw [ltF_eq]; simpa using hj), askS_sel (bnd_t hj p1.2.1), askS_sel (cP_t p1 hj), askS_sel (bnd_t hj p2.2.1), askS_sel (cP_t p2 hj), show ((j : Nat) : Int).toNat = j from rfl, br_f (by rw [p5 j hj]; rfl), wsucc (by omega)]; rfl
    · unfold st16
      rw [br_f (by rw [ltF_eq]; simp)]; rfl
  have hL := (L16 (t := t) (s := s) (t2 := t2) (s2 := s2) (ex := ex) (e2 := e2) (n := n) (c := c) (m := n) (c2 := c2) p1.1 p2.1).table (id := 4) .none (by decide) trivial hr (by kernel_rfl) [0, 1]
  obtain ⟨H', h'⟩ := Out.vals_sel (x16 a b t s n c t2 s2 n c2 ex e2 (0, (n : Int))) (v := b_ true) (by
    rw [v16, vb_f (by rw [eqF_d, decide_eq_true rfl]; rfl)]; rfl)
  exact ⟨H', execO_sound (C := K16 a b t s n c t2 s2 n c2 ex e2 (0, (n : Int))) ts9 hL 60 _ _ h'⟩
def LokE (cs : List Value) (n c : Nat) : Prop := okI cs n c ∧ clE cs n = 0
def sp13g (g : Bool) : ESpec := fun al css => match al, css with
  | [.slice (some ⟨1, 0, none⟩) n c], [cs] => cond g (some (LokE cs n c, i 0)) (some (RnoE cs n c, i (clE cs n)))
  | _, _ => none
theorem c13g (f : Nat) (hf : f = 13 ∨ f = 15) (g : Bool) : ∀ al css os p v, sp13g g al css = some (p, v) → p → Blks css os → (∀ cs ∈ css, cs.all Ex.flat = true) ∧ clean 6 v = true ∧ ∃ H', Sound Try.prog (gl + css.length) (.call f ⟨al⟩ (heapL (deads ++ os))) (.val v H') := by
  intro al css os p v hs hp hb
  unfold sp13g at hs
  split at hs
  case h_2 => cases hs
  rename_i n c cs
  have key : okI cs n c → (∀ x ∈ [cs], x.all Ex.flat = true) ∧ clean 6 (i (clE cs n)) = true ∧ ∃ H', Sound Try.prog (gl + [cs].length) (.call f ⟨[sl 1 0 n c]⟩ (heapL (deads ++ os))) (.val (i (clE cs n)) H') := fun h => by
    rcases hf with rfl | rfl
    · exact c13 [sl 1 0 n c] [cs] os (okI cs n c) (i (clE cs n)) rfl h hb
    · exact c15 [sl 1 0 n c] [cs] os (okI cs n c) (i (clE cs n)) rfl h hb
  cases g with
  | true => cases hs; have h := key hp.1; rwa [hp.2] at h
  | false => cases hs; exact key hp.1
def sp14 (z : Bool) : NSpec := fun al css => cond z (sp14z al css) (sp14m al css)
noncomputable def noE : Ent := fun _ _ => none
theorem TSound.no {P : Program} {G : Nat} {T : Tb} {f : FuncId} (hT : TSound P G T) : TSound P G (Ex.ext T f noE) := hT.alt (g := f % 1000000) (fun _ _ _ _ _ _ h => by cases h) rfl
def s9 : List Value → Option Value
  | [] => some (b_ true)
  | _ => none
noncomputable def TB (g z zr : Bool) : Tb := ext (ext (ext (ext (ext (ext (ext (ext (ext (ext (ext (ext T14 9 (pureE s9 [] Hd)) 11 (newE (sp11 g z) [] (heapL deads))) 12 (xE 0 rd0 sp12 [] (heapL deads))) 13 (autoE (sp13g g) [] (heapL deads))) 14 (newE (sp14 z) [] (heapL deads))) 1000014 noE)
  15 (autoE (sp13g g) [] (heapL deads))) 16 (autoE sp16 [] (heapL deads))) 17 (newE sp17 [] (heapL deads))) 18 (autoE sp18 [] (heapL deads))) 19 (newE (sp19 zr) [] (heapL deads))) 20 (autoE sp18 [] (heapL deads))
theorem tsB {G : Nat} (haw : Pure Try.prog Hd 9 [] (b_ true)) (g z zr : Bool) : TSound Try.prog G (TB g z zr) := by
  have h9 : TSound Try.prog G (ext T14 9 (pureE s9 [] Hd)) := TSound.pure hd_vars ts14 fun args v h => by
    unfold s9 at h
    split at h
    · cases h; exact haw
    · cases h
  exact ((((((TSound.no ((((h9.new (f' := 11) (c11 g z)).x c12).auto (c13g 13 (.inl rfl) g)).new (f' := 14) (by cases z <;> first | exact c14z | exact c14m))).auto (c13g 15 (.inr rfl) g)).auto c16).new c17).auto c18).new (f' := 19) (c19 zr)).auto c20
end Go.Proofs.Ytbbkjmoomflecaa.Ways
