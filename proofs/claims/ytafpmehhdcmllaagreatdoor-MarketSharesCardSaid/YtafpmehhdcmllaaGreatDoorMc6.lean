import Derived.Test.YtafpmehhdcmllaaGreatDoorMc5
set_option maxRecDepth 10000
noncomputable section
namespace Go.Proofs.YtafpmehhdcmllaaGreatDoor.Ways
open Go Go.Ex Go.RowKit Go.Ex.Srt
/-! ### checks of energies (107, 42), lists that are the same (44) -/
def egE (x : Int) : Int := rgE x 0 100000
theorem p78 (x : Int) : Pure Tryz.prog Hd 78 [i x] (i (egE x)) :=
  pure_run (C := C2) (G := 4) 30 (.leaf (i (egE x))) ts0 .none (by decide) hd_len rfl (by kernel_rfl) (by kernel_rfl) rfl
def s78 : List Value → Option Value
  | [.int .i64 x] => some (i (egE x))
  | _ => none
noncomputable def Td : Tb := ext T7 78 (pureE s78 [] Hd)
theorem tsd {G : Nat} : TSound Tryz.prog G Td := ts7.pure hd_vars fun args v h => by
  unfold s78 at h
  split at h
  · cases h; exact p78 _
  · cases h
/-- a loop over integers that looks for the first error -/
def stJ (e : Nat → Int) (cs : List Value) (len cap : Nat) (n : Int) : SS Int :=
  .br (ltF n len) (askS (bnd_ n len cap) <| askS (cB cs (.i .i64) n) <| .br (!eqF (e n.toNat) 0) (.done 5 [0, 1, 2, 3, 4] 1) (.next 5 [0, 1, 2, 3, 4] (wrapF .i64 (n + 1)))) (.done 5 [0, 1, 2, 3, 4] 0)
theorem runJ {e : Nat → Int} {cs : List Value} {len cap : Nat} (h : okI cs len cap) : ∃ r, runS (stJ e cs len cap) (len + 1) 0 = some r ∧ FirstR e len r := by
  obtain ⟨_, hc, hl, hk⟩ := h
  refine run_first (st := fun j => ((j : Nat) : Int)) (e := e) (a := 0) (b := fun _ => 1) len (fun j hj he => ?_) (fun j hj he => ?_) ?_
  · unfold stJ
    rw [br_t (by rw [ltF_eq]; simpa using hj), askS_sel (bnd_t hj hc), askS_sel (by exact hk j hj), show ((j : Nat) : Int).toNat = j from rfl, br_f (by rw [eqF_d]; simp [he]), wsucc (by omega)]; rfl
  · unfold stJ
    rw [br_t (by rw [ltF_eq]; simpa using hj), askS_sel (bnd_t hj hc), askS_sel (by exact hk j hj), show ((j : Nat) : Int).toNat = j from rfl, br_t (by rw [eqF_d]; simp [he])]; rfl
  · unfold stJ
    rw [br_f (by rw [ltF_eq]; simp)]; rfl
def eE (cs : List Value) (j : Nat) : Int := egE (eI cs j)
def eH (h : Int) (cs : List Value) (j : Nat) : Int := cond (ouE (eI cs j) 0 h) 3 0
theorem eH_eE (cs : List Value) : eH 100000 cs = eE cs := funext fun _ => ouE_rg _ _ _
noncomputable def B107 : Code := bodyL Tryz.f107 2
noncomputable def B42 : Code := bodyL Tryz.f42 4
noncomputable def B44 : Code := bodyL Tryz.f44 4
noncomputable def spJ : Nat → Nat → Split := at_ [(107, 11), (107, 18), (42, 11), (42, 15), (42, 23), (44, 10), (44, 14), (44, 25)] .bool no_
def syJ : Nat → Nat → Bool := on_ [(107, 12), (107, 13), (42, 20), (42, 21), (44, 19), (44, 20), (44, 23), (44, 24)]
noncomputable def CJ : Cfg := ⟨Td, spJ, syJ, noL⟩
section
variable (cs ps : List Value) (t s len cap t2 s2 m c2 : Nat) (ex e2 : Bool) (mo hi : Int)
def S107 : Shape Int := ⟨21, fun n => ⟨[(1, fn 78), (8, sl 4 0 len cap), (9, i len), (10, i n)], hpI cs t s ex⟩, fun j n => match j with
  | 0 => (.exit 0, ⟨[], hpI cs t s ex⟩)
  | _ => (.ret, ⟨[(4, i (eE cs n.toNat))], hpI cs t s ex⟩)⟩
def S42 : Shape Int := ⟨24, fun n => ⟨[(0, sl 4 0 len cap), (2, i hi), (7, i n)], hpI cs t s ex⟩, fun j _ => match j with
  | 0 => (.exit 0, ⟨[], hpI cs t s ex⟩)
  | _ => (.ret, ⟨[(6, i 3)], hpI cs t s ex⟩)⟩
def st42 (n : Int) : SS Int :=
  .br (ltF n len) (askS (bnd_ n len cap) <| askS (cB cs (.i .i64) n) <| .br (ouE (eI cs n.toNat) 0 hi) (.done 5 [0, 1, 2, 3, 4] 1) (.next 5 [0, 1, 2, 3, 4] (wrapF .i64 (n + 1)))) (.done 5 [0, 1, 2, 3, 4] 0)
def S44 : Shape Int := ⟨26, fun n => ⟨[(0, sl 4 0 len cap), (1, sl 5 0 m c2), (5, i n)], hp2 cs ps t s t2 s2 ex e2⟩, fun j _ => match j with
  | 0 => (.exit 0, ⟨[], hp2 cs ps t s t2 s2 ex e2⟩)
  | _ => (.ret, ⟨[(4, b_ false)], hp2 cs ps t s t2 s2 ex e2⟩)⟩
def st44 (n : Int) : SS Int :=
  .br (ltF n len) (askS (bnd_ n len cap) <| askS (cB cs (.i .i64) n) <| askS (bnd_ n m c2) <| askS (cB ps (.i .i64) n) <| .br (!eqF (eI cs n.toNat) (eI ps n.toNat)) (.done 6 [0, 1, 2, 3, 4, 5] 1) (.next 6 [0, 1, 2, 3, 4, 5] (wrapF .i64 (n + 1)))) (.done 6 [0, 1, 2, 3, 4, 5] 0)
noncomputable def K107 (r : Nat × Int) : Cfg := ⟨Td, spJ, syJ, loopE noL 107 2 21 5 B107 ((S107 cs t s len cap ex).st 0).live ((S107 cs t s len cap ex).st 0).hp (finO (S107 cs t s len cap ex) r [0, 1])⟩
noncomputable def K42 (r : Nat × Int) : Cfg := ⟨Td, spJ, syJ, loopE noL 42 4 24 5 B42 ((S42 cs t s len cap ex hi).st 0).live ((S42 cs t s len cap ex hi).st 0).hp (finO (S42 cs t s len cap ex hi) r [0, 1])⟩
noncomputable def K44 (r : Nat × Int) : Cfg := ⟨Td, spJ, syJ, loopE noL 44 4 26 6 B44 ((S44 cs ps t s len cap t2 s2 m c2 ex e2).st 0).live ((S44 cs ps t s len cap t2 s2 m c2 ex e2).st 0).hp (finO (S44 cs ps t s len cap t2 s2 m c2 ex e2) r [0, 1])⟩
noncomputable def o107 (r : Nat × Int) : Out QRes := execO Tryz.prog 5 (K107 cs t s len cap ex r) 40 (.call 107 ⟨[sl 4 0 len cap, fn 78]⟩ (heapL (deads ++ [.cells cs t s ex])))
noncomputable def o42 (r : Nat × Int) : Out QRes := execO Tryz.prog 5 (K42 cs t s len cap ex hi r) 40 (.call 42 ⟨[sl 4 0 len cap, i mo, i hi]⟩ (heapL (deads ++ [.cells cs t s ex])))
noncomputable def o44 (r : Nat × Int) : Out QRes := execO Tryz.prog 6 (K44 cs ps t s len cap t2 s2 m c2 ex e2 r) 40 (.call 44 ⟨[sl 4 0 len cap, sl 5 0 m c2]⟩ (heapL (deads ++ [.cells cs t s ex, .cells ps t2 s2 e2])))
theorem v107 (r : Nat × Int) : (o107 cs t s len cap ex r).vals = vtF (eE cs) r := by kernel_rfl
theorem x107 (r : Nat × Int) : o107 cs t s len cap ex r = (o107 cs t s len cap ex r).fix := by kernel_rfl
theorem v42 (r : Nat × Int) : (o42 cs t s len cap ex mo hi r).vals = .br (ltF mo len) (lv 5) (.br (Nat.beq r.1 0) (lv 0) (.br (Nat.beq r.1 1) (lv 3) .fail)) := by kernel_rfl
theorem x42 (r : Nat × Int) : o42 cs t s len cap ex mo hi r = (o42 cs t s len cap ex mo hi r).fix := by kernel_rfl
theorem v44 (r : Nat × Int) : (o44 cs ps t s len cap t2 s2 m c2 ex e2 r).vals = .br (!eqF len m) (.leaf (b_ false)) (.br (Nat.beq r.1 0) (.leaf (b_ true)) (.br (Nat.beq r.1 1) (.leaf (b_ false)) .fail)) := by kernel_rfl
theorem x44 (r : Nat × Int) : o44 cs ps t s len cap t2 s2 m c2 ex e2 r = (o44 cs ps t s len cap t2 s2 m c2 ex e2 r).fix := by kernel_rfl
end
section
variable {cs ps : List Value} {t s len cap t2 s2 m c2 : Nat} {ex e2 : Bool} {hi : Int}
theorem L107 (h : cs.all Ex.flat = true) : Loop1 Tryz.prog 5 107 B107 (S107 cs t s len cap ex) 5 (stJ (eE cs) cs len cap) (fun _ => True) :=
  .mk' (C := fun _ => CJ) (n := 40) (fun _ _ => tsd) (fun _ _ => .none) (fun s ro _ => by kernel_rfl) (fun s ro _ => by kernel_rfl) (fun s => by kernel_rfl) (fun _ _ _ _ => trivial) (fun _ _ => hpI_flat h)
    (fun s j _ _ => by cases j <;> exact ⟨hpI_flat h, fun h => by cases h⟩)
theorem L42 (h : cs.all Ex.flat = true) : Loop1 Tryz.prog 5 42 B42 (S42 cs t s len cap ex hi) 5 (st42 cs len cap hi) (fun _ => True) :=
  .mk' (C := fun _ => CJ) (n := 40) (fun _ _ => tsd) (fun _ _ => .none) (fun s ro _ => by kernel_rfl) (fun s ro _ => by kernel_rfl) (fun s => by kernel_rfl) (fun _ _ _ _ => trivial) (fun _ _ => hpI_flat h)
    (fun s j _ _ => by cases j <;> exact ⟨hpI_flat h, fun h => by cases h⟩)
theorem L44 (h : cs.all Ex.flat = true) (h2 : ps.all Ex.flat = true) : Loop1 Tryz.prog 6 44 B44 (S44 cs ps t s len cap t2 s2 m c2 ex e2) 6 (st44 cs ps len cap m c2) (fun _ => True) :=
  .mk' (C := fun _ => CJ) (n := 40) (fun _ _ => tsd) (fun _ _ => .none) (fun s ro _ => by kernel_rfl) (fun s ro _ => by kernel_rfl) (fun s => by kernel_rfl) (fun _ _ _ _ => trivial) (fun _ _ => hp2_flat h h2)
    (fun s j _ _ => by cases j <;> exact ⟨hp2_flat h h2, fun h => by cases h⟩)
theorem run42 (h : okI cs len cap) : ∃ r, runS (st42 cs len cap hi) (len + 1) 0 = some r ∧ FirstR (eH hi cs) len r := by
  obtain ⟨_, hc, hl, hk⟩ := h
  have hz : ∀ j, eH hi cs j = 0 ↔ ouE (eI cs j) 0 hi = false := fun j => by
    unfold eH
    cases ouE (eI cs j) 0 hi <;> simp
  refine run_first (st := fun j => ((j : Nat) : Int)) (e := eH hi cs) (a := 0) (b := fun _ => 1) len (fun j hj he => ?_) (fun j hj he => ?_) ?_
  · unfold st42
    rw [br_t (by rw [ltF_eq]; simpa using hj), askS_sel (bnd_t hj hc), askS_sel (by exact hk j hj), show ((j : Nat) : Int).toNat = j from rfl, br_f ((hz j).1 he), wsucc (by omega)]; rfl
  · unfold st42
    rw [br_t (by rw [ltF_eq]; simpa using hj), askS_sel (bnd_t hj hc), askS_sel (by exact hk j hj), show ((j : Nat) : Int).toNat = j from rfl, br_t (by
      cases ho : ouE (eI cs j) 0 hi with
      | true => rfl
      | false => exact absurd ((hz j).2 ho) he)]; rfl
  · unfold st42
    rw [br_f (by rw [ltF_eq]; simp)]; rfl
end
def sp107 : ESpec := fun al css => match al, css with
  | [.slice (some ⟨4, 0, none⟩) n c, .func (.func 78) ⟨[]⟩ ⟨[]⟩], [cs] => some (okI cs n c, i (firstF (eE cs) n 0))
  | _, _ => none
theorem c107 : ∀ al css os p v, sp107 al css = some (p, v) → p → Blks css os → (∀ cs ∈ css, cs.all Ex.flat = true) ∧ clean 6 v = true ∧ ∃ H', Sound Tryz.prog (gl + css.length) (.call 107 ⟨al⟩ (heapL (deads ++ os))) (.val v H') := by
  intro al css os p v hs hp hb
  unfold sp107 at hs
  split at hs
  case h_2 => cases hs
  rename_i n c cs
  cases hs
  obtain ⟨t, s, ex, rfl⟩ := blks1 hb
  refine ⟨by simpa using hp.1, rfl, ?_⟩
  obtain ⟨r, hr, hv⟩ := runJ (e := eE cs) hp
  have hL := (L107 (t := t) (s := s) (len := n) (cap := c) (ex := ex) hp.1).table (id := 2) .none (by decide) trivial hr (by kernel_rfl) [0, 1]
  obtain ⟨H', h'⟩ := Out.vals_sel (x107 cs t s n c ex r) (v := i (firstF (eE cs) n 0)) (by rw [v107]; exact vtF_sel hv)
  exact ⟨H', execO_sound (C := K107 cs t s n c ex r) tsd hL 40 _ _ h'⟩
def c42E (cs : List Value) (n : Nat) (mo hi : Int) : Int := if mo < (n : Int) then 5 else firstF (eH hi cs) n 0
def sp42 : ESpec := fun al css => match al, css with
  | [.slice (some ⟨4, 0, none⟩) n c, .int .i64 mo, .int .i64 hi], [cs] => some (okI cs n c, i (c42E cs n mo hi))
  | _, _ => none
theorem c42 : ∀ al css os p v, sp42 al css = some (p, v) → p → Blks css os → (∀ cs ∈ css, cs.all Ex.flat = true) ∧ clean 6 v = true ∧ ∃ H', Sound Tryz.prog (gl + css.length) (.call 42 ⟨al⟩ (heapL (deads ++ os))) (.val v H') := by
  intro al css os p v hs hp hb
  unfold sp42 at hs
  split at hs
  case h_2 => cases hs
  rename_i n c mo hi cs
  cases hs
  obtain ⟨t, s, ex, rfl⟩ := blks1 hb
  refine ⟨by simpa using hp.1, rfl, ?_⟩
  obtain ⟨r, hr, hv⟩ := run42 (hi := hi) hp
  have hL := (L42 (t := t) (s := s) (len := n) (cap := c) (ex := ex) (hi := hi) hp.1).table (id := 4) .none (by decide) trivial hr (by kernel_rfl) [0, 1]
  obtain ⟨H', h'⟩ := Out.vals_sel (x42 cs t s n c ex mo hi r) (v := i (c42E cs n mo hi)) (by
    rw [v42]
    unfold c42E
    by_cases h : mo < (n : Int)
    · rw [vb_t (by rw [ltF_eq]; exact decide_eq_true h), if_pos h]; rfl
    · rw [vb_f (by rw [ltF_eq]; exact decide_eq_false h), if_neg h]
      rcases hv with ⟨h1, rfl⟩ | ⟨h1, j, _, rfl, h2, _⟩
      · rw [h1]; rfl
      · show some (i 3) = some (i _)
        rw [← h2]
        have h3 : eH hi cs j ≠ 0 := by rw [h2]; exact h1
        unfold eH at h3 ⊢
        cases ho : ouE (eI cs j) 0 hi with
        | true => rfl
        | false => rw [ho] at h3; exact absurd rfl h3)
  exact ⟨H', execO_sound (C := K42 cs t s n c ex hi r) tsd hL 40 _ _ h'⟩
/-- two lists that are the same -/
def SiE (a b : List Value) (n c m c2 : Nat) : Prop := okI a n c ∧ okI b m c2 ∧ n = m ∧ ∀ j, j < n → eI a j = eI b j
def sp44 : ESpec := fun al css => match al, css with
  | [.slice (some ⟨4, 0, none⟩) n c, .slice (some ⟨5, 0, none⟩) m c2], [a, b] => some (SiE a b n c m c2, b_ true)
  | _, _ => none
theorem c44 : ∀ al css os p v, sp44 al css = some (p, v) → p → Blks css os → (∀ cs ∈ css, cs.all Ex.flat = true) ∧ clean 6 v = true ∧ ∃ H', Sound Tryz.prog (gl + css.length) (.call 44 ⟨al⟩ (heapL (deads ++ os))) (.val v H') := by
  intro al css os p v hs hp hb
  unfold sp44 at hs
  split at hs
  case h_2 => cases hs
  rename_i n c m c2 a b
  cases hs
  obtain ⟨t, s, ex, t2, s2, e2, rfl⟩ := blks2 hb
  obtain ⟨p1, p2, rfl, p5⟩ := hp
  refine ⟨two_flat p1.1 p2.1, rfl, ?_⟩
  have hr : runS (st44 a b n c n c2) (n + 1) 0 = some (0, (n : Int)) := by
    refine run_all (step := st44 a b n c n c2) (st := fun j => ((j : Nat) : Int)) (a := 0) n (fun j hj => ?_) ?_
    · have hl := p1.2.2.1
      unfold st44
      rw [br_t (by rw [ltF_eq]; simpa using hj), askS_sel (bnd_t hj p1.2.1), askS_sel (by exact p1.2.2.2 j hj), askS_sel (bnd_t hj p2.2.1), askS_sel (by exact p2.2.2.2 j hj), show ((j : Nat) : Int).toNat = j from rfl, br_f (by rw [eqF_d, decide_eq_true (p5 j hj)]; rfl), wsucc (by omega)]; rfl
    · unfold st44
      rw [br_f (by rw [ltF_eq]; simp)]; rfl
  have hL := (L44 (cs := a) (ps := b) (t := t) (s := s) (t2 := t2) (s2 := s2) (ex := ex) (e2 := e2) (len := n) (cap := c) (m := n) (c2 := c2) p1.1 p2.1).table (id := 4) .none (by decide) trivial hr (by kernel_rfl) [0, 1]
  obtain ⟨H', h'⟩ := Out.vals_sel (x44 a b t s n c t2 s2 n c2 ex e2 (0, (n : Int))) (v := b_ true) (by
    rw [v44, vb_f (by rw [eqF_d, decide_eq_true rfl]; rfl)]; rfl)
  exact ⟨H', execO_sound (C := K44 a b t s n c t2 s2 n c2 ex e2 (0, (n : Int))) tsd hL 40 _ _ h'⟩
end Go.Proofs.YtafpmehhdcmllaaGreatDoor.Ways
set_option maxRecDepth 10000
noncomputable section
namespace Go.Proofs.YtafpmehhdcmllaaGreatDoor.Ways
open Go Go.Ex Go.RowKit Go.Ex.Srt
/-! ### the program's Curtail -/
noncomputable def T40 (g : Bool) : Tb := ext (ext Td 107 (autoE sp107 [] (heapL deads))) 109 (newE (sp109c g) [] (heapL deads))
theorem ts40 (g : Bool) {G : Nat} : TSound Tryz.prog G (T40 g) := (tsd.auto c107).new (f' := 109) (c109 g)
noncomputable def C40 (g : Bool) : Cfg := ⟨T40 g, at_ [(40, 17)] .bool no_, off_, noL⟩
noncomputable def C40b : Cfg := ⟨T40 true, at_ [(40, 17)] .bool (at_ [(40, 19)] (.ints []) no_), off_, noL⟩
section
variable (cs : List Value) (n c : Nat) (lim : Int) (t s : Nat) (ex : Bool)
def b3 (cs : List Value) (n : Nat) (lim : Int) : Int := fst3 (mnE n 64) (firstF (eE cs) n 0) (toE lim)
noncomputable def o40 (g : Bool) : Out QRes := execO Tryz.prog 5 (C40 g) 60 (.call 40 ⟨[sl 4 0 n c, i lim]⟩ (heapL (deads ++ [.cells cs t s ex])))
noncomputable def o40b : Out QRes := execO Tryz.prog 5 C40b 60 (.call 40 ⟨[sl 4 0 n c, i lim]⟩ (heapL (deads ++ [.cells cs t s ex])))
noncomputable def v40T (k : NT) : NT := asN (tru (okI cs n c)) <| asN (tru (okI [i (mnE n 64), i (firstF (eE cs) n 0), i (toE lim)] 3 3)) <| .br (!eqF (b3 cs n lim) 0) (.leaf 1000000 (.old (tp [.slice none 0 0, i (b3 cs n lim)]))) k
theorem v40t : (o40 cs n c lim t s ex true).news = v40T cs n c lim (asN (tru (CuE true cs n c lim)) (.leaf 6 (.tup n n cs 3 1 false (i 0)))) := by kernel_rfl
theorem x40t : o40 cs n c lim t s ex true = (o40 cs n c lim t s ex true).fix := by kernel_rfl
theorem v40f : (o40 cs n c lim t s ex false).news = v40T cs n c lim (asN (tru (CuE false cs n c lim)) (.leaf 6 (.tup n n (nmL (resF cs n lim) n) 3 1 true (i 0)))) := by kernel_rfl
theorem x40f : o40 cs n c lim t s ex false = (o40 cs n c lim t s ex false).fix := by kernel_rfl
theorem v40b : (o40b cs n c lim t s ex).news = v40T cs n c lim .fail := by kernel_rfl
theorem x40b : o40b cs n c lim t s ex = (o40b cs n c lim t s ex).fix := by kernel_rfl
end
/-- an error -/
def BdE (cs : List Value) (n c : Nat) (lim : Int) : Prop := okI cs n c ∧ b3 cs n lim ≠ 0
theorem b3_z {cs : List Value} {n c : Nat} {lim : Int} (h : VaE cs n c lim) : b3 cs n lim = 0 := by
  obtain ⟨_, h2, h3, h4, h5⟩ := h
  have e1 : mnE n 64 = 0 := by rw [show mnE n 64 = if 64 < n then 5 else 0 from mnE_nat n 64, if_neg (by omega)]
  have e2 : firstF (eE cs) n 0 = 0 := by
    have key : ∀ m j, j + m = n → firstF (eE cs) m j = 0 := by
      intro m
      induction m with
      | zero => intro j _; rfl
      | succ m ih =>
        intro j hj
        have h6 : eE cs j = 0 := by
          unfold eE egE rgE
          rw [if_pos (h3 j (by omega))]
        show (if eE cs j ≠ 0 then _ else firstF (eE cs) m (j + 1)) = 0
        rw [if_neg (by simpa using h6)]
        exact ih (j + 1) (by omega)
    exact key n 0 (by omega)
  have e3 : toE lim = 0 := by
    unfold toE rgE
    rw [if_pos ⟨h4, h5⟩]
  unfold b3
  rw [e1, e2, e3]; rfl
theorem rg_y {x lo hi : Int} (h : rgE x lo hi = 0) : lo ≤ x ∧ x ≤ hi := by
  unfold rgE at h
  by_cases h' : lo ≤ x ∧ x ≤ hi
  · exact h'
  · rw [if_neg h'] at h; cases h
theorem b3_va {cs : List Value} {n c : Nat} {lim : Int} (h : CiE cs n c) (hn : n ≤ 10) (hb : b3 cs n lim = 0) : VaE cs n c lim := by
  unfold b3 at hb
  rw [fst3_eq] at hb
  by_cases h1 : mnE n 64 ≠ 0
  · rw [if_pos h1] at hb; exact absurd hb h1
  rw [if_neg h1] at hb
  by_cases h2 : firstF (eE cs) n 0 ≠ 0
  · rw [if_pos h2] at hb; exact absurd hb h2
  rw [if_neg h2] at hb
  have h2' : firstF (eE cs) n 0 = 0 := by simpa using h2
  have h3 : toE lim = 0 := by
    by_cases h3 : toE lim ≠ 0
    · rw [if_pos h3] at hb; exact hb
    · simpa using h3
  have key : ∀ m j, j + m = n → firstF (eE cs) m j = 0 → ∀ k, j ≤ k → k < n → eE cs k = 0 := by
    intro m
    induction m with
    | zero => intro j hj _ k hk hkn; omega
    | succ m ih =>
      intro j hj hf k hk hkn
      have hf' : (if eE cs j ≠ 0 then eE cs j else firstF (eE cs) m (j + 1)) = 0 := hf
      by_cases he : eE cs j ≠ 0
      · rw [if_pos he] at hf'; exact absurd hf' he
      · rw [if_neg he] at hf'
        by_cases hkj : k = j
        · subst hkj; simpa using he
        · exact ih (j + 1) (by omega) hf' k (by omega) hkn
  have hr := rg_y (show rgE lim 0 6400000 = 0 from h3)
  exact ⟨h, hn, fun j hj => rg_y (show rgE (eI cs j) 0 100000 = 0 from key n 0 (by omega) h2' j (by omega) hj), hr.1, hr.2⟩
/-- the ways: an error; all is fed in; some -/
def sp40 (k : Nat) : NSpec := fun al css => match al, css with
  | [.slice (some ⟨4, 0, none⟩) n c, .int .i64 lim], [cs] => match k with
    | 0 => some (BdE cs n c lim, .old (tp [.slice none 0 0, i (b3 cs n lim)]))
    | 1 => some (CuE true cs n c lim, .tup n n cs 3 1 false (i 0))
    | _ => some (CuE false cs n c lim, .tup n n (nmL (resF cs n lim) n) 3 1 true (i 0))
  | _, _ => none
theorem c40 (k : Nat) : ∀ al css os p v, sp40 k al css = some (p, v) → p → Blks css os → (∀ cs ∈ css, cs.all Ex.flat = true) ∧ v.Ok Tryz.prog 40 al deads os (gl + css.length) := by
  intro al css os p v hs hp hb
  unfold sp40 at hs
  split at hs
  case h_2 => cases hs
  rename_i n c lim cs
  obtain ⟨t, s, ex, rfl⟩ := blks1 hb
  match k with
  | 0 =>
    cases hs
    obtain ⟨p1, p2⟩ := hp
    refine ⟨by simpa using p1.1, ?_⟩
    refine news_ok (C := C40b) (n := 60) (ts40 true) .none (x40b cs n c lim t s ex) (b := 1000000) ((congrArg NT.sel (v40b cs n c lim t s ex)).trans ?_) (show 5 ≤ 1000000 by decide) (show NRes.Fl (.old (tp [.slice none 0 0, i (b3 cs n lim)])) from rfl)
    unfold v40T
    rw [asN_t (tru_iff.2 p1), asN_t (tru_iff.2 (okI3 _ _ _)), nb_t (ne_t p2)]; rfl
  | 1 =>
    cases hs
    have p1 := hp.1.1.1
    refine ⟨by simpa using p1.1, ?_⟩
    refine news_ok (C := C40 true) (n := 60) (ts40 true) .none (x40t cs n c lim t s ex) (b := 6) ((congrArg NT.sel (v40t cs n c lim t s ex)).trans ?_) (show 5 ≤ 6 by decide) ⟨p1.1, rfl⟩
    unfold v40T
    rw [asN_t (tru_iff.2 p1), asN_t (tru_iff.2 (okI3 _ _ _)), nb_f (ne_f (b3_z hp.1)), asN_t (tru_iff.2 hp)]; rfl
  | k + 2 =>
    cases hs
    have p1 := hp.1.1.1
    refine ⟨by simpa using p1.1, ?_⟩
    refine news_ok (C := C40 false) (n := 60) (ts40 false) .none (x40f cs n c lim t s ex) (b := 6) ((congrArg NT.sel (v40f cs n c lim t s ex)).trans ?_) (show 5 ≤ 6 by decide) ⟨nmL_flat _ _, rfl⟩
    unfold v40T
    rw [asN_t (tru_iff.2 p1), asN_t (tru_iff.2 (okI3 _ _ _)), nb_f (ne_f (b3_z hp.1)), asN_t (tru_iff.2 hp)]; rfl
end Go.Proofs.YtafpmehhdcmllaaGreatDoor.Ways
