import Derived.Test.YtafpmehhdcmllaaGreatDoorMr3
noncomputable section
namespace Go.Proofs.YtafpmehhdcmllaaGreatDoor.Ways
open Go Go.Ex Go.RowKit
/-! ### the contracts of Paired, Settle (both), SameRows -/
section
variable (cs ps : List Value) (t s n c t2 s2 m c2 : Nat) (ex e2 : Bool)
noncomputable def K114 (r : Nat × Int × List Value) : Cfg := ⟨T7, no_, on_ [(114, 12)], loopE noL 114 3 32 7 B114 ((S114 cs ps t s n c t2 s2 m c2 ex e2).st (0, z0 n)).live ((S114 cs ps t s n c t2 s2 m c2 ex e2).st (0, z0 n)).hp (finO (S114 cs ps t s n c t2 s2 m c2 ex e2) r [0])⟩
noncomputable def o114 (r : Nat × Int × List Value) : Out QRes := execO Tryz.prog 6 (K114 cs ps t s n c t2 s2 m c2 ex e2 r) 60 (.call 114 ⟨[sl 4 0 n c, sl 5 0 m c2, fn 111]⟩ (heapL (deads ++ [.cells cs t s ex, .cells ps t2 s2 e2])))
theorem v114 (j : Int) (out : List Value) : (o114 cs ps t s n c t2 s2 m c2 ex e2 (0, j, out)).news = .br (leF 0 n && (leF n n && leF n 1048576)) (.br true (.leaf 6 (.sl n n out 132 2 true)) .fail) .fail := by kernel_rfl
theorem x114 (j : Int) (out : List Value) : o114 cs ps t s n c t2 s2 m c2 ex e2 (0, j, out) = (o114 cs ps t s n c t2 s2 m c2 ex e2 (0, j, out)).fix := by kernel_rfl
noncomputable def K53 (r : Nat × PS) : Cfg := ⟨T7, no_, off_, loopE noL 53 3 32 6 B53 ((S53 cs ps t s n c t2 s2 m c2 ex e2).st .z).live ((S53 cs ps t s n c t2 s2 m c2 ex e2).st .z).hp (finO (S53 cs ps t s n c t2 s2 m c2 ex e2) r [0])⟩
noncomputable def o53 (r : Nat × PS) : Out QRes := execO Tryz.prog 6 (K53 cs ps t s n c t2 s2 m c2 ex e2 r) 60 (.call 53 ⟨[sl 4 0 n c, sl 5 0 m c2]⟩ (heapL (deads ++ [.cells cs t s ex, .cells ps t2 s2 e2])))
theorem v53z : (o53 cs ps t s n c t2 s2 m c2 ex e2 (0, .z)).news = .br true (.leaf 1000000 (.old (.slice none 0 0))) .fail := by kernel_rfl
theorem x53z : o53 cs ps t s n c t2 s2 m c2 ex e2 (0, .z) = (o53 cs ps t s n c t2 s2 m c2 ex e2 (0, .z)).fix := by kernel_rfl
theorem v53m (j : Int) (l : Nat) (out : List Value) : (o53 cs ps t s n c t2 s2 m c2 ex e2 (0, .m j l out)).news = .br true (.leaf 6 (.sl l l out 177 2 false)) .fail := by kernel_rfl
theorem x53m (j : Int) (l : Nat) (out : List Value) : o53 cs ps t s n c t2 s2 m c2 ex e2 (0, .m j l out) = (o53 cs ps t s n c t2 s2 m c2 ex e2 (0, .m j l out)).fix := by kernel_rfl
noncomputable def K56 (r : Nat × Int) : Cfg := ⟨T7, sp8, sy8z, loopE noL 56 4 26 6 B56 ((S56 cs ps t s n c t2 s2 m c2 ex e2).st 0).live ((S56 cs ps t s n c t2 s2 m c2 ex e2).st 0).hp (finO (S56 cs ps t s n c t2 s2 m c2 ex e2) r [0, 1])⟩
noncomputable def o56 (r : Nat × Int) : Out QRes := execO Tryz.prog 6 (K56 cs ps t s n c t2 s2 m c2 ex e2 r) 60 (.call 56 ⟨[sl 4 0 n c, sl 5 0 m c2]⟩ (heapL (deads ++ [.cells cs t s ex, .cells ps t2 s2 e2])))
theorem v56 (r : Nat × Int) : (o56 cs ps t s n c t2 s2 m c2 ex e2 r).vals = .br (!eqF n m) (.leaf (b_ false)) (.br (Nat.beq r.1 0) (.leaf (b_ true)) (.br (Nat.beq r.1 1) (.leaf (b_ false)) .fail)) := by kernel_rfl
theorem x56 (r : Nat × Int) : o56 cs ps t s n c t2 s2 m c2 ex e2 r = (o56 cs ps t s n c t2 s2 m c2 ex e2 r).fix := by kernel_rfl
end
def PdE (cs ps : List Value) (n c m c2 : Nat) : Prop := ok2 cs ps n c m c2 ∧ n = m ∧ n < 1000000
def sp114 : NSpec := fun al css => match al, css with
  | [.slice (some ⟨4, 0, none⟩) n c, .slice (some ⟨5, 0, none⟩) m c2, .func (.func 111) ⟨[]⟩ ⟨[]⟩], [cs, ps] => some (PdE cs ps n c m c2, .sl n n (rwL (fP cs ps) n) 132 2 true)
  | _, _ => none
theorem two_flat {cs ps : List Value} (h : cs.all Ex.flat = true) (h2 : ps.all Ex.flat = true) : ∀ x ∈ [cs, ps], x.all Ex.flat = true := by
  intro x hx
  simp only [List.mem_cons, List.not_mem_nil, or_false] at hx
  rcases hx with rfl | rfl
  · exact h
  · exact h2
theorem c114 : ∀ al css os p v, sp114 al css = some (p, v) → p → Blks css os → (∀ cs ∈ css, cs.all Ex.flat = true) ∧ v.Ok Tryz.prog 114 al deads os (gl + css.length) := by
  intro al css os p v hs hp hb
  unfold sp114 at hs
  split at hs
  case h_2 => cases hs
  rename_i n c m c2 cs ps
  cases hs
  obtain ⟨t, s, ex, t2, s2, e2, rfl⟩ := blks2 hb
  obtain ⟨⟨p1, p2⟩, p3, p4⟩ := hp
  refine ⟨two_flat p1.1 p2.1, ?_⟩
  have hL := (L114 (cs := cs) (ps := ps) (t := t) (s := s) (n := n) (c := c) (t2 := t2) (s2 := s2) (m := m) (c2 := c2) (ex := ex) (e2 := e2) p1.1 p2.1).table (id := 3) (s0 := (0, z0 n)) .none (by decide) (z0_flat n) (run114 p1 p2 p3 p4) (by kernel_rfl) [0]
  refine news_ok (C := K114 cs ps t s n c t2 s2 m c2 ex e2 (0, ((n : Int), rwL (fP cs ps) n))) (n := 60) ts7 hL (x114 cs ps t s n c t2 s2 m c2 ex e2 _ _) (b := 6) ((congrArg NT.sel (v114 cs ps t s n c t2 s2 m c2 ex e2 _ _)).trans ?_) (show 6 ≤ 6 by decide) (rwL_flat _ _)
  have h1 : (leF 0 n && (leF n n && leF n 1048576)) = true := by
    rw [leF_eq, leF_eq, leF_eq, decide_eq_true (by omega), decide_eq_true (by omega), decide_eq_true (by omega)]; rfl
  show cond (leF 0 n && (leF n n && leF n 1048576)) _ _ = _
  rw [h1]; rfl
def sp53 (z : Bool) : NSpec := fun al css => match al, css with
  | [.slice (some ⟨4, 0, none⟩) n c, .slice (some ⟨5, 0, none⟩) m c2], [cs, ps] => cond z (some (PdE cs ps n c m c2 ∧ n = 0, .old (.slice none 0 0))) (some (PdE cs ps n c m c2 ∧ 1 ≤ n, .sl n n (rwL (fR cs ps) n) 177 2 false))
  | _, _ => none
theorem c53 (z : Bool) : ∀ al css os p v, sp53 z al css = some (p, v) → p → Blks css os → (∀ cs ∈ css, cs.all Ex.flat = true) ∧ v.Ok Tryz.prog 53 al deads os (gl + css.length) := by
  intro al css os p v hs hp hb
  unfold sp53 at hs
  split at hs
  case h_2 => cases hs
  rename_i n c m c2 cs ps
  obtain ⟨t, s, ex, t2, s2, e2, rfl⟩ := blks2 hb
  cases z with
  | true =>
    cases hs
    obtain ⟨⟨⟨p1, p2⟩, p3, p4⟩, rfl⟩ := hp
    refine ⟨two_flat p1.1 p2.1, ?_⟩
    have hL := (L53 (cs := cs) (ps := ps) (t := t) (s := s) (n := 0) (c := c) (t2 := t2) (s2 := s2) (m := m) (c2 := c2) (ex := ex) (e2 := e2) p1.1 p2.1).table (id := 3) (s0 := .z) .none (by decide) trivial (run53 p1 p2 p3 p4) (by kernel_rfl) [0]
    exact news_ok (C := K53 cs ps t s 0 c t2 s2 m c2 ex e2 (0, .z)) (n := 60) ts7 hL (x53z cs ps t s 0 c t2 s2 m c2 ex e2) (b := 1000000) ((congrArg NT.sel (v53z cs ps t s 0 c t2 s2 m c2 ex e2)).trans rfl) (show 6 ≤ 1000000 by decide) (show NRes.Fl (.old (.slice none 0 0)) from rfl)
  | false =>
    cases hs
    obtain ⟨⟨⟨p1, p2⟩, p3, p4⟩, p5⟩ := hp
    refine ⟨two_flat p1.1 p2.1, ?_⟩
    obtain ⟨k, rfl⟩ : ∃ k, n = k + 1 := ⟨n - 1, by omega⟩
    have hL := (L53 (cs := cs) (ps := ps) (t := t) (s := s) (n := k + 1) (c := c) (t2 := t2) (s2 := s2) (m := m) (c2 := c2) (ex := ex) (e2 := e2) p1.1 p2.1).table (id := 3) (s0 := .z) .none (by decide) trivial (run53 p1 p2 p3 p4) (by kernel_rfl) [0]
    exact news_ok (C := K53 cs ps t s (k + 1) c t2 s2 m c2 ex e2 (0, .m ((k + 1 : Nat) : Int) (k + 1) (rwL (fR cs ps) (k + 1)))) (n := 60) ts7 hL (x53m cs ps t s (k + 1) c t2 s2 m c2 ex e2 _ _ _) (b := 6) ((congrArg NT.sel (v53m cs ps t s (k + 1) c t2 s2 m c2 ex e2 _ _ _)).trans rfl) (show 6 ≤ 6 by decide) (rwL_flat _ _)
def SwE (a b : List Value) (n c m c2 : Nat) : Prop := okR k2 2 a n c ∧ okR k2 2 b m c2 ∧ n = m ∧ n < 1000000 ∧ ∀ j, j < n → eqW a b j = true
def sp56 : ESpec := fun al css => match al, css with
  | [.slice (some ⟨4, 0, none⟩) n c, .slice (some ⟨5, 0, none⟩) m c2], [a, b] => some (SwE a b n c m c2, b_ true)
  | _, _ => none
theorem c56 : ∀ al css os p v, sp56 al css = some (p, v) → p → Blks css os → (∀ cs ∈ css, cs.all Ex.flat = true) ∧ clean 6 v = true ∧ ∃ H', Sound Tryz.prog (gl + css.length) (.call 56 ⟨al⟩ (heapL (deads ++ os))) (.val v H') := by
  intro al css os p v hs hp hb
  unfold sp56 at hs
  split at hs
  case h_2 => cases hs
  rename_i n c m c2 a b
  cases hs
  obtain ⟨t, s, ex, t2, s2, e2, rfl⟩ := blks2 hb
  obtain ⟨p1, p2, rfl, p4, p5⟩ := hp
  refine ⟨two_flat p1.1 p2.1, rfl, ?_⟩
  have hr : runS (st56 a b n c n c2) (n + 1) 0 = some (0, (n : Int)) := by
    refine run_all (step := st56 a b n c n c2) (st := fun j => ((j : Nat) : Int)) (a := 0) n (fun j hj => ?_) ?_
    · unfold st56
      rw [br_t (by rw [ltF_eq]; simpa using hj), askS_sel (bnd_t hj p1.2.1), askS_sel (cR_t p1 hj), askS_sel (bnd_t hj p2.2.1), askS_sel (cR_t p2 hj), show ((j : Nat) : Int).toNat = j from rfl, br_f (by rw [p5 j hj]; rfl), wsucc (by omega)]; rfl
    · unfold st56
      rw [br_f (by rw [ltF_eq]; simp)]; rfl
  have hL := (L56 (cs := a) (ps := b) (t := t) (s := s) (t2 := t2) (s2 := s2) (ex := ex) (e2 := e2) (n := n) (c := c) (m := n) (c2 := c2) p1.1 p2.1).table (id := 4) .none (by decide) trivial hr (by kernel_rfl) [0, 1]
  obtain ⟨H', h'⟩ := Out.vals_sel (x56 a b t s n c t2 s2 n c2 ex e2 (0, (n : Int))) (v := b_ true) (by
    rw [v56, vb_f (by rw [eqF_d, decide_eq_true rfl]; rfl)]; rfl)
  exact ⟨H', execO_sound (C := K56 a b t s n c t2 s2 n c2 ex e2 (0, (n : Int))) ts7 hL 60 _ _ h'⟩
theorem eqW_self (a : List Value) (j : Nat) : eqW a a j = true := by
  unfold eqW
  rw [beq_self_eq_true, beq_self_eq_true]; rfl
noncomputable def T8 : Tb := ext T7 114 (newE sp114 [] (heapL deads))
theorem ts8 {G : Nat} : TSound Tryz.prog G T8 := ts7.new (f' := 114) c114
/-! the program's Settle -/
section
variable (cs ps : List Value) (t s n c t2 s2 m c2 : Nat) (ex e2 : Bool)
noncomputable def o46 : Out QRes := execO Tryz.prog 6 ⟨T8, at_ [(46, 19)] .bool no_, off_, noL⟩ 60 (.call 46 ⟨[sl 4 0 n c, sl 5 0 m c2]⟩ (heapL (deads ++ [.cells cs t s ex, .cells ps t2 s2 e2])))
def a3 (cs ps : List Value) (n m : Nat) : Int := fst3 (cqE cs n) (cpE ps m) (shE n m)
def asN (b : Bool) (t : NT) : NT := .br b t .fail
theorem v46 : (o46 cs ps t s n c t2 s2 m c2 ex e2).news = asN (tru (okR k5 5 cs n c)) (asN (tru (okR k3 3 ps m c2)) (asN (tru (okI [i (cqE cs n), i (cpE ps m), i (shE n m)] 3 3)) (.br (!eqF (a3 cs ps n m) 0) (.leaf 1000000 (.old (tp [.slice none 0 0, i (a3 cs ps n m)]))) (asN (tru (PdE cs ps n c m c2)) (.leaf 7 (.tup n n (rwL (fP cs ps) n) 132 2 true (i 0))))))) := by kernel_rfl
theorem x46 : o46 cs ps t s n c t2 s2 m c2 ex e2 = (o46 cs ps t s n c t2 s2 m c2 ex e2).fix := by kernel_rfl
end
theorem a3_eq (cs ps : List Value) (n m : Nat) : a3 cs ps n m = csE cs ps n m := by
  unfold a3 csE
  rw [fst3_eq]
  have hs : shE n m = if n = m then 0 else 2 := by
    unfold shE
    by_cases h : n = m
    · rw [if_pos h, if_pos (by omega)]
    · rw [if_neg h, if_neg (by omega)]
  by_cases h1 : cqE cs n ≠ 0
  · rw [if_pos h1, if_pos h1]
  · rw [if_neg h1, if_neg h1]
    by_cases h2 : cpE ps m ≠ 0
    · rw [if_pos h2, if_pos h2]
    · rw [if_neg h2, if_neg h2, hs]
      by_cases h : n = m
      · rw [if_pos h]; rfl
      · rw [if_neg h]; rfl
theorem csE_eq0 {cs ps : List Value} {n m : Nat} (h : csE cs ps n m = 0) : cqE cs n = 0 ∧ cpE ps m = 0 ∧ n = m := by
  unfold csE at h
  by_cases h1 : cqE cs n ≠ 0
  · rw [if_pos h1] at h; exact absurd h h1
  · rw [if_neg h1] at h
    by_cases h2 : cpE ps m ≠ 0
    · rw [if_pos h2] at h; exact absurd h h2
    · rw [if_neg h2] at h
      by_cases h3 : n = m
      · exact ⟨by simpa using h1, by simpa using h2, h3⟩
      · rw [if_neg h3] at h; cases h
def GoE (cs ps : List Value) (n c m c2 : Nat) : Prop := ok2 cs ps n c m c2 ∧ csE cs ps n m = 0 ∧ n < 1000000
def NoE (cs ps : List Value) (n c m c2 : Nat) : Prop := ok2 cs ps n c m c2 ∧ csE cs ps n m ≠ 0
def sp46 (g : Bool) : NSpec := fun al css => match al, css with
  | [.slice (some ⟨4, 0, none⟩) n c, .slice (some ⟨5, 0, none⟩) m c2], [cs, ps] => cond g (some (GoE cs ps n c m c2, .tup n n (rwL (fP cs ps) n) 132 2 true (i 0))) (some (NoE cs ps n c m c2, .old (tp [.slice none 0 0, i (csE cs ps n m)])))
  | _, _ => none
theorem asN_t {b : Bool} {t : NT} (h : b = true) : (asN b t).sel = t.sel := by rw [h]; rfl
theorem nb_t {b : Bool} {t e : NT} (h : b = true) : (NT.br b t e).sel = t.sel := by rw [h]; rfl
theorem nb_f {b : Bool} {t e : NT} (h : b = false) : (NT.br b t e).sel = e.sel := by rw [h]; rfl
theorem c46 (g : Bool) : ∀ al css os p v, sp46 g al css = some (p, v) → p → Blks css os → (∀ cs ∈ css, cs.all Ex.flat = true) ∧ v.Ok Tryz.prog 46 al deads os (gl + css.length) := by
  intro al css os p v hs hp hb
  unfold sp46 at hs
  split at hs
  case h_2 => cases hs
  rename_i n c m c2 cs ps
  obtain ⟨t, s, ex, t2, s2, e2, rfl⟩ := blks2 hb
  cases g with
  | true =>
    cases hs
    obtain ⟨⟨p1, p2⟩, p3, p4⟩ := hp
    refine ⟨two_flat p1.1 p2.1, ?_⟩
    refine news_ok (C := ⟨T8, at_ [(46, 19)] .bool no_, off_, noL⟩) (n := 60) ts8 .none (x46 cs ps t s n c t2 s2 m c2 ex e2) (b := 7) ((congrArg NT.sel (v46 cs ps t s n c t2 s2 m c2 ex e2)).trans ?_) (show 6 ≤ 7 by decide) ⟨rwL_flat _ _, rfl⟩
    rw [asN_t (tru_iff.2 p1), asN_t (tru_iff.2 p2), asN_t (tru_iff.2 (okI3 _ _ _)), nb_f (ne_f (by rw [a3_eq]; exact p3)), asN_t (tru_iff.2 ⟨⟨p1, p2⟩, (csE_eq0 p3).2.2, p4⟩)]; rfl
  | false =>
    cases hs
    obtain ⟨⟨p1, p2⟩, p3⟩ := hp
    refine ⟨two_flat p1.1 p2.1, ?_⟩
    refine news_ok (C := ⟨T8, at_ [(46, 19)] .bool no_, off_, noL⟩) (n := 60) ts8 .none (x46 cs ps t s n c t2 s2 m c2 ex e2) (b := 1000000) ((congrArg NT.sel (v46 cs ps t s n c t2 s2 m c2 ex e2)).trans ?_) (show 6 ≤ 1000000 by decide) (show NRes.Fl (.old (tp [.slice none 0 0, i (csE cs ps n m)])) from rfl)
    rw [asN_t (tru_iff.2 p1), asN_t (tru_iff.2 p2), asN_t (tru_iff.2 (okI3 _ _ _)), nb_t (ne_t (by rw [a3_eq]; exact p3)), a3_eq]; rfl
end Go.Proofs.YtafpmehhdcmllaaGreatDoor.Ways
noncomputable section
namespace Go.Proofs.YtafpmehhdcmllaaGreatDoor.Ways
open Go Go.Ex Go.RowKit
/-! ### books, amounts -/
def sumW (f : Nat → Int) : Nat → Int
  | 0 => 0
  | j + 1 => wrapF .i64 (sumW f j + f j)
def amP (qe pe r : Int) : Int := if fst2 qe pe = 0 then r else 0
noncomputable def C9 : Cfg := ⟨T8, at_ [(45, 14)] .bool no_, off_, noL⟩
theorem p45 (a b c d e x y z : Int) : Pure Tryz.prog Hd 45 [ag [i a, i b, i c, i d, i e], ag [i x, i y, i z]] (tp [i (amP (qcE a b c d e) (pcE x y z) (rvP x y z a (enE c e))), i (fst2 (qcE a b c d e) (pcE x y z))]) := by
  refine pure_run (C := C9) (G := 4) 60 (aV (tru (okI [i (qcE a b c d e), i (pcE x y z)] 2 2)) (.br (!eqF (fst2 (qcE a b c d e) (pcE x y z)) 0) (.leaf (tp [i 0, i (fst2 (qcE a b c d e) (pcE x y z))])) (.leaf (tp [i (rvP x y z a (enE c e)), i 0])))) ts8 .none (by decide) hd_len rfl (by kernel_rfl) (by kernel_rfl) ?_
  rw [aP (okI2 _ _)]
  unfold amP
  by_cases h : fst2 (qcE a b c d e) (pcE x y z) = 0
  · rw [vb_f (ne_f h), if_pos h, h]; rfl
  · rw [vb_t (ne_t h), if_neg h]; rfl
def s45 : List Value → Option Value
  | [.agg ⟨[.int .i64 a, .int .i64 b, .int .i64 c, .int .i64 d, .int .i64 e]⟩, .agg ⟨[.int .i64 x, .int .i64 y, .int .i64 z]⟩] => some (tp [i (amP (qcE a b c d e) (pcE x y z) (rvP x y z a (enE c e))), i (fst2 (qcE a b c d e) (pcE x y z))])
  | _ => none
abbrev Q6 := Int × Int × Int × Int × Int × Int
noncomputable def B49 : Code := bodyL Tryz.f49 4
noncomputable def B54 : Code := bodyL Tryz.f54 3
noncomputable def spB : Nat → Nat → Split := at_ [(49, 20), (54, 10)] .bool no_
def syB : Nat → Nat → Bool := on_ [(49, 24), (49, 25), (49, 54), (49, 56), (54, 17), (54, 19), (54, 26), (54, 28), (54, 35), (54, 37), (54, 44), (54, 46), (54, 53), (54, 54), (54, 57), (54, 58)]
noncomputable def T9 (g : Bool) : Tb := ext T8 46 (newE (sp46 g) [] (heapL deads))
theorem ts9 (g : Bool) {G : Nat} : TSound Tryz.prog G (T9 g) := ts8.new (f' := 46) (c46 g)
noncomputable def CB : Cfg := ⟨T9 true, spB, syB, noL⟩
def isI (cs : List Value) (k : Nat) : Bool := isCellB (.i .i64) cs[k]?
def tot (q : Q6) : List Value := [i q.2.1, i q.2.2.1, i q.2.2.2.1, i q.2.2.2.2.1, i q.2.2.2.2.2]
section
variable (cs ps rs : List Value) (t s n c t2 s2 m c2 : Nat) (ex e2 : Bool)
def hp49 (q : Q6) : List (CO × Bool) := [(.dead, false), (.dead, false), (.dead, false), (.dead, false), (.cells cs t s ex, true), (.cells ps t2 s2 e2, true), (.cells [i 0, i 0, i 0, i 0, i 0] 86 1 true, true), (.cells rs 132 2 true, true), (.cells (tot q) 86 1 true, true)]
def S49 : Shape Q6 := ⟨62, fun q => ⟨[(0, sl 4 0 n c), (4, pt 6 0), (6, sl 7 0 n n), (7, i 0), (8, pt 8 0), (17, sl 7 0 n n), (18, i n), (19, i q.1)], hp49 cs ps rs t s t2 s2 ex e2 q⟩, fun _ q => (.exit 0, ⟨[(4, pt 6 0), (7, i 0), (8, pt 8 0)], hp49 cs ps rs t s t2 s2 ex e2 q⟩)⟩
def st49 (q : Q6) : SS Q6 := .br (ltF q.1 n) (askS (bnd_ q.1 n c) <| askS (cR k5 5 cs q.1) <| askS (bnd_ q.1 n n) <| askS (isI rs (0 + q.1.toNat * 2 + 1)) <|
  .next 10 [0, 1, 2, 3, 4, 5, 6, 7, 8] (wrapF .i64 (q.1 + 1), wrapF .i64 (q.2.1 + ce 5 0 cs q.1.toNat), wrapF .i64 (q.2.2.1 + ce 5 4 cs q.1.toNat), wrapF .i64 (q.2.2.2.1 + ce 5 2 cs q.1.toNat), wrapF .i64 (q.2.2.2.2.1 + ce 5 3 cs q.1.toNat), wrapF .i64 (q.2.2.2.2.2 + ce 2 1 rs q.1.toNat))) (.done 9 [0, 1, 2, 3, 4, 5, 6, 7, 8] 0)
def hp54 (q : Q6) : List (CO × Bool) := [(.dead, false), (.dead, false), (.dead, false), (.dead, false), (.cells cs t s ex, true), (.cells ps t2 s2 e2, true), (.cells [i 0, i 0, i 0, i 0, i 0] 92 1 true, true), (.cells (tot q) 92 1 true, true)]
def S54 : Shape Q6 := ⟨63, fun q => ⟨[(0, sl 4 0 n c), (1, sl 5 0 m c2), (4, pt 6 0), (5, pt 7 0), (6, i q.1)], hp54 cs ps t s t2 s2 ex e2 q⟩, fun _ q => (.exit 0, ⟨[(4, pt 6 0), (5, pt 7 0)], hp54 cs ps t s t2 s2 ex e2 q⟩)⟩
def st54 (q : Q6) : SS Q6 := .br (ltF q.1 n) (askS (bnd_ q.1 n c) <| askS (isI cs (0 + q.1.toNat * 5 + 0)) <| askS (bnd_ q.1 n c) <| askS (isI cs (0 + q.1.toNat * 5 + 4)) <| askS (bnd_ q.1 n c) <| askS (isI cs (0 + q.1.toNat * 5 + 2)) <| askS (bnd_ q.1 n c) <| askS (isI cs (0 + q.1.toNat * 5 + 3)) <| askS (bnd_ q.1 n c) <| askS (cR k5 5 cs q.1) <| askS (bnd_ q.1 m c2) <| askS (cR k3 3 ps q.1) <|
  .next 8 [0, 1, 2, 3, 4, 5, 6, 7] (wrapF .i64 (q.1 + 1), wrapF .i64 (q.2.1 + ce 5 0 cs q.1.toNat), wrapF .i64 (q.2.2.1 + ce 5 4 cs q.1.toNat), wrapF .i64 (q.2.2.2.1 + ce 5 2 cs q.1.toNat), wrapF .i64 (q.2.2.2.2.1 + ce 5 3 cs q.1.toNat), wrapF .i64 (q.2.2.2.2.2 + qR cs ps q.1.toNat))) (.done 8 [0, 1, 2, 3, 4, 5, 6, 7] 0)
def bkS (g : Nat → Int) (j : Nat) : Q6 := ((j : Int), sumW (ce 5 0 cs) j, sumW (ce 5 4 cs) j, sumW (ce 5 2 cs) j, sumW (ce 5 3 cs) j, sumW g j)
end
section
variable {cs ps rs : List Value} {t s n c t2 s2 m c2 : Nat} {ex e2 : Bool}
theorem hp49_flat {q : Q6} (h : cs.all Ex.flat = true) (h2 : ps.all Ex.flat = true) (h3 : rs.all Ex.flat = true) : ∀ o, (o, true) ∈ hp49 cs ps rs t s t2 s2 ex e2 q → FlatO o := by
  intro o ho
  simp [hp49] at ho
  rcases ho with rfl | rfl | rfl | rfl | rfl
  · exact fun x hx => List.all_eq_true.1 h x hx
  · exact fun x hx => List.all_eq_true.1 h2 x hx
  · exact fun x hx => List.all_eq_true.1 (by rfl) x hx
  · exact fun x hx => List.all_eq_true.1 h3 x hx
  · exact fun x hx => List.all_eq_true.1 (by rfl) x hx
theorem hp54_flat {q : Q6} (h : cs.all Ex.flat = true) (h2 : ps.all Ex.flat = true) : ∀ o, (o, true) ∈ hp54 cs ps t s t2 s2 ex e2 q → FlatO o := by
  intro o ho
  simp [hp54] at ho
  rcases ho with rfl | rfl | rfl | rfl
  · exact fun x hx => List.all_eq_true.1 h x hx
  · exact fun x hx => List.all_eq_true.1 h2 x hx
  · exact fun x hx => List.all_eq_true.1 (by rfl) x hx
  · exact fun x hx => List.all_eq_true.1 (by rfl) x hx
theorem L49 (h : cs.all Ex.flat = true) (h2 : ps.all Ex.flat = true) (h3 : rs.all Ex.flat = true) : Loop1 Tryz.prog 6 49 B49 (S49 cs ps rs t s n c t2 s2 ex e2) 9 (st49 cs rs n c) (fun _ => True) :=
  .mk' (C := fun _ => CB) (n := 60) (fun _ _ => ts9 true) (fun _ _ => .none) (fun s ro _ => by kernel_rfl) (fun s ro _ => by kernel_rfl) (fun s => by kernel_rfl) (fun _ _ _ _ => trivial) (fun _ _ => hp49_flat h h2 h3)
    (fun s j _ _ => ⟨hp49_flat h h2 h3, fun h => by cases h⟩)
theorem L54 (h : cs.all Ex.flat = true) (h2 : ps.all Ex.flat = true) : Loop1 Tryz.prog 6 54 B54 (S54 cs ps t s n c t2 s2 m c2 ex e2) 8 (st54 cs ps n c m c2) (fun _ => True) :=
  .mk' (C := fun _ => CB) (n := 60) (fun _ _ => ts9 true) (fun _ _ => .none) (fun s ro _ => by kernel_rfl) (fun s ro _ => by kernel_rfl) (fun s => by kernel_rfl) (fun _ _ _ _ => trivial) (fun _ _ => hp54_flat h h2)
    (fun s j _ _ => ⟨hp54_flat h h2, fun h => by cases h⟩)
theorem run49 (h : okR k5 5 cs n c) (hr : okR k2 2 rs n n) : runS (st49 cs rs n c) (n + 1) (bkS cs (ce 2 1 rs) 0) = some (0, bkS cs (ce 2 1 rs) n) := by
  have hc := h.2.1
  have hl := h.2.2.1
  refine run_all (step := st49 cs rs n c) (st := bkS cs (ce 2 1 rs)) n (fun j hj => ?_) ?_
  · have hI : isI rs (0 + j * 2 + 1) = true := by
      have := hr.2.2.2 j hj
      unfold k2 areCells areCells areCells at this
      simp only [Bool.and_eq_true, Bool.and_true] at this
      exact this.2
    unfold st49 bkS
    dsimp only
    rw [br_t (by rw [ltF_eq]; simpa using hj), askS_sel (bnd_t hj hc), askS_sel (cR_t h hj), askS_sel (bnd_t hj (Nat.le_refl n)), show ((j : Nat) : Int).toNat = j from rfl, askS_sel hI, wsucc (by omega)]; rfl
  · unfold st49 bkS
    dsimp only
    rw [br_f (by rw [ltF_eq]; simp)]; rfl
theorem run54 (h : okR k5 5 cs n c) (h2 : okR k3 3 ps m c2) (hnm : n = m) : runS (st54 cs ps n c m c2) (n + 1) (bkS cs (qR cs ps) 0) = some (0, bkS cs (qR cs ps) n) := by
  have hc := h.2.1
  have hl := h.2.2.1
  have hc2 := h2.2.1
  refine run_all (step := st54 cs ps n c m c2) (st := bkS cs (qR cs ps)) n (fun j hj => ?_) ?_
  · obtain ⟨i0, i1, i2, i3, i4⟩ : isI cs (0 + j * 5 + 0) = true ∧ isI cs (0 + j * 5 + 1) = true ∧ isI cs (0 + j * 5 + 2) = true ∧ isI cs (0 + j * 5 + 3) = true ∧ isI cs (0 + j * 5 + 4) = true := by
      have := h.2.2.2 j hj
      unfold k5 areCells areCells areCells areCells areCells areCells at this
      simp only [Bool.and_eq_true, Bool.and_true] at this
      exact this
    unfold st54 bkS
    dsimp only
    rw [br_t (by rw [ltF_eq]; simpa using hj), askS_sel (bnd_t hj hc), show ((j : Nat) : Int).toNat = j from rfl, askS_sel i0, askS_sel (bnd_t hj hc), askS_sel i4, askS_sel (bnd_t hj hc), askS_sel i2, askS_sel (bnd_t hj hc), askS_sel i3, askS_sel (bnd_t hj hc), askS_sel (cR_t h hj), askS_sel (bnd_t (by omega) hc2), askS_sel (cR_t h2 (by omega)), wsucc (by omega)]; rfl
  · unfold st54 bkS
    dsimp only
    rw [br_f (by rw [ltF_eq]; simp)]; rfl
end
def agT (q : Q6) : Value := ag (tot q)
section
variable (cs ps rs : List Value) (t s n c t2 s2 m c2 : Nat) (ex e2 : Bool)
noncomputable def K49 (r : Nat × Q6) : Cfg := ⟨T9 true, no_, off_, loopE noL 49 4 62 9 B49 ((S49 cs ps rs t s n c t2 s2 ex e2).st (bkS cs (ce 2 1 rs) 0)).live ((S49 cs ps rs t s n c t2 s2 ex e2).st (bkS cs (ce 2 1 rs) 0)).hp (finO (S49 cs ps rs t s n c t2 s2 ex e2) r [0])⟩
noncomputable def o49 (q : Q6) : Out QRes := execO Tryz.prog 6 (K49 cs ps (rwL (fP cs ps) n) t s n c t2 s2 ex e2 (0, q)) 60 (.call 49 ⟨[sl 4 0 n c, sl 5 0 m c2]⟩ (heapL (deads ++ [.cells cs t s ex, .cells ps t2 s2 e2])))
theorem v49 (q : Q6) : (o49 cs ps t s n c t2 s2 m c2 ex e2 q).vals = aV (tru (GoE cs ps n c m c2)) (aV true (.leaf (tp [agT q, i 0]))) := by kernel_rfl
theorem x49 (q : Q6) : o49 cs ps t s n c t2 s2 m c2 ex e2 q = (o49 cs ps t s n c t2 s2 m c2 ex e2 q).fix := by kernel_rfl
noncomputable def o49n : Out QRes := execO Tryz.prog 6 ⟨T9 false, no_, off_, noL⟩ 60 (.call 49 ⟨[sl 4 0 n c, sl 5 0 m c2]⟩ (heapL (deads ++ [.cells cs t s ex, .cells ps t2 s2 e2])))
theorem v49n : (o49n cs ps t s n c t2 s2 m c2 ex e2).vals = aV (tru (NoE cs ps n c m c2)) (.leaf (tp [ag [i 0, i 0, i 0, i 0, i 0], i (csE cs ps n m)])) := by kernel_rfl
theorem x49n : o49n cs ps t s n c t2 s2 m c2 ex e2 = (o49n cs ps t s n c t2 s2 m c2 ex e2).fix := by kernel_rfl
noncomputable def K54 (r : Nat × Q6) : Cfg := ⟨T9 true, no_, off_, loopE noL 54 3 63 8 B54 ((S54 cs ps t s n c t2 s2 m c2 ex e2).st (bkS cs (qR cs ps) 0)).live ((S54 cs ps t s n c t2 s2 m c2 ex e2).st (bkS cs (qR cs ps) 0)).hp (finO (S54 cs ps t s n c t2 s2 m c2 ex e2) r [0])⟩
noncomputable def o54 (q : Q6) : Out QRes := execO Tryz.prog 6 (K54 cs ps t s n c t2 s2 m c2 ex e2 (0, q)) 60 (.call 54 ⟨[sl 4 0 n c, sl 5 0 m c2]⟩ (heapL (deads ++ [.cells cs t s ex, .cells ps t2 s2 e2])))
theorem v54 (q : Q6) : (o54 cs ps t s n c t2 s2 m c2 ex e2 q).vals = aV true (.leaf (agT q)) := by kernel_rfl
theorem x54 (q : Q6) : o54 cs ps t s n c t2 s2 m c2 ex e2 q = (o54 cs ps t s n c t2 s2 m c2 ex e2 q).fix := by kernel_rfl
end
def sp49 (g : Bool) : ESpec := fun al css => match al, css with
  | [.slice (some ⟨4, 0, none⟩) n c, .slice (some ⟨5, 0, none⟩) m c2], [cs, ps] => cond g (some (GoE cs ps n c m c2, tp [agT (bkS cs (ce 2 1 (rwL (fP cs ps) n)) n), i 0])) (some (NoE cs ps n c m c2, tp [ag [i 0, i 0, i 0, i 0, i 0], i (csE cs ps n m)]))
  | _, _ => none
theorem c49 (g : Bool) : ∀ al css os p v, sp49 g al css = some (p, v) → p → Blks css os → (∀ cs ∈ css, cs.all Ex.flat = true) ∧ clean 6 v = true ∧ ∃ H', Sound Tryz.prog (gl + css.length) (.call 49 ⟨al⟩ (heapL (deads ++ os))) (.val v H') := by
  intro al css os p v hs hp hb
  unfold sp49 at hs
  split at hs
  case h_2 => cases hs
  rename_i n c m c2 cs ps
  obtain ⟨t, s, ex, t2, s2, e2, rfl⟩ := blks2 hb
  cases g with
  | true =>
    cases hs
    have hgo := hp
    obtain ⟨⟨p1, p2⟩, p3, p4⟩ := hp
    refine ⟨two_flat p1.1 p2.1, rfl, ?_⟩
    have hL := (L49 (cs := cs) (ps := ps) (rs := rwL (fP cs ps) n) (t := t) (s := s) (n := n) (c := c) (t2 := t2) (s2 := s2) (ex := ex) (e2 := e2) p1.1 p2.1 (rwL_flat _ _)).table (id := 4) .none (by decide) trivial (run49 p1 (rwL_ok _ _ p4)) (by kernel_rfl) [0]
    obtain ⟨H', h'⟩ := Out.vals_sel (x49 cs ps t s n c t2 s2 m c2 ex e2 (bkS cs (ce 2 1 (rwL (fP cs ps) n)) n)) (v := tp [agT (bkS cs (ce 2 1 (rwL (fP cs ps) n)) n), i 0]) (by rw [v49, aP hgo, aV_sel rfl]; rfl)
    exact ⟨H', execO_sound (C := K49 cs ps (rwL (fP cs ps) n) t s n c t2 s2 ex e2 (0, bkS cs (ce 2 1 (rwL (fP cs ps) n)) n)) (ts9 true) hL 60 _ _ h'⟩
  | false =>
    cases hs
    have hno := hp
    obtain ⟨⟨p1, p2⟩, p3⟩ := hp
    refine ⟨two_flat p1.1 p2.1, rfl, ?_⟩
    obtain ⟨H', h'⟩ := Out.vals_sel (x49n cs ps t s n c t2 s2 m c2 ex e2) (v := tp [ag [i 0, i 0, i 0, i 0, i 0], i (csE cs ps n m)]) (by rw [v49n, aP hno]; rfl)
    exact ⟨H', execO_sound (C := ⟨T9 false, no_, off_, noL⟩) (ts9 false) .none 60 _ _ h'⟩
def sp54 : ESpec := fun al css => match al, css with
  | [.slice (some ⟨4, 0, none⟩) n c, .slice (some ⟨5, 0, none⟩) m c2], [cs, ps] => some (PdE cs ps n c m c2, agT (bkS cs (qR cs ps) n))
  | _, _ => none
theorem c54 : ∀ al css os p v, sp54 al css = some (p, v) → p → Blks css os → (∀ cs ∈ css, cs.all Ex.flat = true) ∧ clean 6 v = true ∧ ∃ H', Sound Tryz.prog (gl + css.length) (.call 54 ⟨al⟩ (heapL (deads ++ os))) (.val v H') := by
  intro al css os p v hs hp hb
  unfold sp54 at hs
  split at hs
  case h_2 => cases hs
  rename_i n c m c2 cs ps
  cases hs
  obtain ⟨t, s, ex, t2, s2, e2, rfl⟩ := blks2 hb
  obtain ⟨⟨p1, p2⟩, p3, p4⟩ := hp
  refine ⟨two_flat p1.1 p2.1, rfl, ?_⟩
  have hL := (L54 (cs := cs) (ps := ps) (t := t) (s := s) (n := n) (c := c) (t2 := t2) (s2 := s2) (m := m) (c2 := c2) (ex := ex) (e2 := e2) p1.1 p2.1).table (id := 3) .none (by decide) trivial (run54 p1 p2 p3) (by kernel_rfl) [0]
  obtain ⟨H', h'⟩ := Out.vals_sel (x54 cs ps t s n c t2 s2 m c2 ex e2 (bkS cs (qR cs ps) n)) (v := agT (bkS cs (qR cs ps) n)) (by rw [v54, aV_sel rfl]; rfl)
  exact ⟨H', execO_sound (C := K54 cs ps t s n c t2 s2 m c2 ex e2 (0, bkS cs (qR cs ps) n)) (ts9 true) hL 60 _ _ h'⟩
end Go.Proofs.YtafpmehhdcmllaaGreatDoor.Ways
