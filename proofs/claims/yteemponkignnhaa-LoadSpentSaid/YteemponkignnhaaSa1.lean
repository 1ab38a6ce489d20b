import Derived.Test.YteemponkignnhaaJd1
set_option maxRecDepth 10000
noncomputable section
namespace Go.Proofs.Yteemponkignnhaa.Ways
open Go Go.Ex Go.RowKit Go.Turn
theorem pw_nn {x e : Int} (he : ex3 e) (h : 0 ≤ x) : 0 ≤ pwI x e := by
  rcases he with rfl | rfl | rfl
  · exact h
  · exact Int.mul_nonneg h h
  · exact Int.mul_nonneg (Int.mul_nonneg h h) h
theorem pw_mono {x y e : Int} (he : ex3 e) (h : 0 ≤ x) (hxy : x ≤ y) : pwI x e ≤ pwI y e := by
  have hy : 0 ≤ y := by omega
  have h2 : x * x ≤ y * y := Int.mul_le_mul hxy hxy h hy
  rcases he with rfl | rfl | rfl
  · exact hxy
  · exact h2
  · exact Int.mul_le_mul h2 hxy h (Int.mul_nonneg hy hy)
theorem sq_up {x : Int} (h : 0 ≤ x) : x ≤ x * x ∧ x * x ≤ x * x * x := by
  by_cases h0 : x = 0
  · subst h0; exact ⟨Int.le_refl _, Int.le_refl _⟩
  · have h1 : x * 1 ≤ x * x := Int.mul_le_mul_of_nonneg_left (by omega) h
    have h2 : x * x * 1 ≤ x * x * x := Int.mul_le_mul_of_nonneg_left (by omega) (Int.mul_nonneg h h)
    omega
def sp101w : ESpec := fun al css => match al, css with
  | [.int .i64 x, .int .i64 e], [] => some (ex3 e ∧ 0 ≤ x ∧ pwI x e ≤ 4000000000000000000, i (pwI x e))
  | _, _ => none
theorem c101w : ∀ al css os p v, sp101w al css = some (p, v) → p → Blks css os → (∀ cs ∈ css, cs.all Ex.flat = true) ∧ clean 6 v = true ∧ ∃ H', Sound Try.prog (gl + css.length) (.call 107 ⟨al⟩ (heapL (deads ++ os))) (.val v H') := by
  intro al css os p v hs hp hb
  unfold sp101w at hs
  split at hs
  case h_2 => cases hs
  rename_i x e
  cases hs
  cases hb
  obtain ⟨he, h0, hx⟩ := hp
  obtain ⟨h1, h2⟩ := sq_up h0
  refine ⟨fun c hc => absurd hc List.not_mem_nil, rfl, ?_⟩
  rcases he with rfl | rfl | rfl
  · have hx : x ≤ 4000000000000000000 := hx
    have e1 : wrapF .i64 (1 * x) = x := by rw [Int.one_mul, wrapF_in (by omega) (by omega)]
    obtain ⟨H', h'⟩ := Out.vals_sel (x101_1 x) (v := i (pwI x 1)) (by rw [v101_1, e1]; rfl)
    exact ⟨H', execO_sound (C := ⟨noT, no_, off_, noL⟩) .none .none 60 _ _ h'⟩
  · have hx : x * x ≤ 4000000000000000000 := hx
    have e1 : wrapF .i64 (1 * x) = x := by rw [Int.one_mul, wrapF_in (by omega) (by omega)]
    have e2 : wrapF .i64 (x * x) = x * x := wrapF_in (by omega) (by omega)
    obtain ⟨H', h'⟩ := Out.vals_sel (x101_2 x) (v := i (pwI x 2)) (by rw [v101_2, e1, e2]; rfl)
    exact ⟨H', execO_sound (C := ⟨noT, no_, off_, noL⟩) .none .none 60 _ _ h'⟩
  · have hx : x * x * x ≤ 4000000000000000000 := hx
    have e1 : wrapF .i64 (1 * x) = x := by rw [Int.one_mul, wrapF_in (by omega) (by omega)]
    have e2 : wrapF .i64 (x * x) = x * x := wrapF_in (by omega) (by omega)
    have e3 : wrapF .i64 (x * x * x) = x * x * x := wrapF_in (by omega) (by omega)
    obtain ⟨H', h'⟩ := Out.vals_sel (x101_3 x) (v := i (pwI x 3)) (by rw [v101_3, e1, e2, e3]; rfl)
    exact ⟨H', execO_sound (C := ⟨noT, no_, off_, noL⟩) .none .none 60 _ _ h'⟩
noncomputable def T101w : Tb := ext noT 107 (autoE sp101w [] (heapL deads))
theorem ts101w {G : Nat} : TSound Try.prog G T101w := TSound.none.auto c101w
noncomputable def B104 : Code := bodyL Try.f110 2
noncomputable def C104 : Cfg := ⟨T101w, at_ [(110, 11), (110, 21)] .bool no_, off_, noL⟩
def midE (lo hi : Int) : Int := IntKind.i64.wrap ((IntKind.u64.wrap (wrapF .i64 (lo + hi))).fdiv (2 ^ min (Int.toNat 1) IntKind.u64.bits))
section
variable (top N e : Int)
def hp104 : List (CO × Bool) := [(.dead, false), (.cells [i N] 3 1 true, true), (.cells [i e] 3 1 true, true)]
def S104 : Shape (Int × Int) := ⟨26, fun q => ⟨[(0, i top), (1, fnc 111 [pt 2 0, pt 1 0]), (5, i q.1), (6, i q.2)], hp104 N e⟩, fun _ q => (.exit 0, ⟨[(5, i q.1)], hp104 N e⟩)⟩
noncomputable def st104 (q : Int × Int) : SS (Int × Int) := .br (ltF q.1 q.2) (askS (tru (ex3 e ∧ 0 ≤ midE q.1 q.2 ∧ pwI (midE q.1 q.2) e ≤ 4000000000000000000)) <|
  .br (!ltF N (pwI (midE q.1 q.2) e)) (.next 3 [0, 1, 2] (wrapF .i64 (midE q.1 q.2 + 1), q.2)) (.next 3 [0, 1, 2] (q.1, midE q.1 q.2))) (.done 3 [0, 1, 2] 0)
noncomputable def K84 (r : Nat × Int × Int) : Cfg := ⟨noT, no_, off_, loopE noL 110 2 26 3 B104 ((S104 top N e).st (0, top)).live ((S104 top N e).st (0, top)).hp (finO (S104 top N e) r [0])⟩
noncomputable def o84 (r : Nat × Int × Int) : Out QRes := execO Try.prog 1 (K84 top N e r) 60 (.call 90 ⟨[i N, i e]⟩ (heapL deads))
end
theorem v84_1 (N u w : Int) : (o84 1152921504606846977 N 1 (0, u, w)).vals = .br true (.leaf (i (wrapF .i64 (u - 1)))) .fail := by kernel_rfl
theorem v84_2 (N u w : Int) : (o84 1073741825 N 2 (0, u, w)).vals = .br true (.leaf (i (wrapF .i64 (u - 1)))) .fail := by kernel_rfl
theorem v84_3 (N u w : Int) : (o84 1048577 N 3 (0, u, w)).vals = .br true (.leaf (i (wrapF .i64 (u - 1)))) .fail := by kernel_rfl
theorem x84_1 (N u w : Int) : o84 1152921504606846977 N 1 (0, u, w) = (o84 1152921504606846977 N 1 (0, u, w)).fix := by kernel_rfl
theorem x84_2 (N u w : Int) : o84 1073741825 N 2 (0, u, w) = (o84 1073741825 N 2 (0, u, w)).fix := by kernel_rfl
theorem x84_3 (N u w : Int) : o84 1048577 N 3 (0, u, w) = (o84 1048577 N 3 (0, u, w)).fix := by kernel_rfl
theorem hp104_flat (N e : Int) : ∀ o, (o, true) ∈ hp104 N e → FlatO o := by
  intro o ho
  simp only [hp104, List.mem_cons, Prod.mk.injEq, and_true, List.not_mem_nil, or_false] at ho
  rcases ho with ⟨_, h⟩ | rfl | rfl
  · cases h
  · exact fun x hx => List.all_eq_true.1 (show [i N].all Ex.flat = true from rfl) x hx
  · exact fun x hx => List.all_eq_true.1 (show [i e].all Ex.flat = true from rfl) x hx
theorem L104 {top N e : Int} : Loop1 Try.prog 1 110 B104 (S104 top N e) 3 (st104 N e) (fun _ => True) :=
  .mk' (C := fun _ => C104) (n := 60) (fun _ _ => ts101w) (fun _ _ => .none) (fun q ro _ => by kernel_rfl) (fun q ro _ => by kernel_rfl) (fun q => by kernel_rfl) (fun _ _ _ _ => trivial)
    (fun _ _ => hp104_flat N e) (fun _ _ _ _ => ⟨hp104_flat N e, fun h => by cases h⟩)
end Go.Proofs.Yteemponkignnhaa.Ways
set_option maxRecDepth 10000
noncomputable section
namespace Go.Proofs.Yteemponkignnhaa.Ways
open Go Go.Ex Go.RowKit Go.Turn
theorem mid_eq {lo hi : Int} (h0 : 0 ≤ lo) (h : lo ≤ hi) (h2 : hi ≤ 1152921504606846977) : midE lo hi = (lo + hi) / 2 := by
  unfold midE
  rw [wrapF_in (by omega) (by omega), IntKind.wrap_u64, show (2 : Int) ^ min (Int.toNat 1) IntKind.u64.bits = 2 from rfl, Int.fdiv_eq_ediv_of_nonneg _ (by omega), IntKind.wrap_i64]
  omega
def IsRt (N e r : Int) : Prop := 0 ≤ r ∧ pwI r e ≤ N ∧ N < pwI (r + 1) e
open Classical in
noncomputable def rtI (N e : Int) : Int := if h : ∃ r, IsRt N e r then h.choose else 0
theorem rt_uniq {N e a b : Int} (he : ex3 e) (ha : IsRt N e a) (hb : IsRt N e b) : a = b := by
  obtain ⟨a0, a1, a2⟩ := ha
  obtain ⟨b0, b1, b2⟩ := hb
  rcases Int.lt_trichotomy a b with h | h | h
  · have := pw_mono he (x := a + 1) (y := b) (by omega) (by omega)
    omega
  · exact h
  · have := pw_mono he (x := b + 1) (y := a) (by omega) (by omega)
    omega
theorem rt_eq {N e r : Int} (he : ex3 e) (h : IsRt N e r) : rtI N e = r := by
  have hx : ∃ r, IsRt N e r := ⟨r, h⟩
  unfold rtI
  rw [dif_pos hx]
  exact rt_uniq he hx.choose_spec h
section
variable {N e top : Int}
theorem run104 (he : ex3 e) (ht : top ≤ 1152921504606846977) (hp : pwI top e ≤ 4000000000000000000) : ∀ (d : Nat) (lo hi : Int), 0 ≤ lo → lo ≤ hi → hi ≤ top → hi - lo ≤ d → (lo = 0 ∨ pwI (lo - 1) e ≤ N) → N < pwI hi e →
    ∃ m r, runS (st104 N e) m (lo, hi) = some (0, (r, r)) ∧ 0 ≤ r ∧ r ≤ top ∧ (r = 0 ∨ pwI (r - 1) e ≤ N) ∧ N < pwI r e := by
  intro d
  induction d with
  | zero =>
    intro lo hi h0 h1 h2 h3 h4 h5
    have : lo = hi := by omega
    subst this
    refine ⟨1, lo, runS_done ?_, h0, h2, h4, h5⟩
    unfold st104
    rw [br_f (by rw [ltF_eq]; exact decide_eq_false (by show ¬ lo < lo; omega))]; rfl
  | succ d ih =>
    intro lo hi h0 h1 h2 h3 h4 h5
    by_cases hlt : lo < hi
    · have hm := mid_eq h0 h1 (by omega)
      have hm1 : lo ≤ (lo + hi) / 2 ∧ (lo + hi) / 2 < hi := by omega
      have hq : pwI ((lo + hi) / 2) e ≤ 4000000000000000000 := by
        have := pw_mono he (x := (lo + hi) / 2) (y := top) (by omega) (by omega)
        omega
      have hs : ∀ u, (askS (tru (ex3 e ∧ 0 ≤ midE lo hi ∧ pwI (midE lo hi) e ≤ 4000000000000000000)) u : SS (Int × Int)).sel = u.sel := fun u => askS_sel (tru_iff.2 (by rw [hm]; exact ⟨he, by omega, hq⟩))
      by_cases hc : N < pwI ((lo + hi) / 2) e
      · obtain ⟨m, r, k1, k2⟩ := ih lo ((lo + hi) / 2) h0 hm1.1 (by omega) (by omega) h4 hc
        refine ⟨m + 1, r, ?_, k2⟩
        rw [runS_next (s' := (lo, (lo + hi) / 2))]
        · exact k1
        · unfold st104
          rw [br_t (by rw [ltF_eq]; exact decide_eq_true hlt), hs, br_f (by show (!ltF N (pwI (midE lo hi) e)) = false; rw [hm, ltF_eq, decide_eq_true hc]; rfl)]
          show some (Sum.inl (lo, midE lo hi)) = _
          rw [hm]
      · obtain ⟨m, r, k1, k2⟩ := ih ((lo + hi) / 2 + 1) hi (by omega) (by omega) h2 (by omega) (.inr (by rw [show (lo + hi) / 2 + 1 - 1 = (lo + hi) / 2 from by omega]; omega)) h5
        refine ⟨m + 1, r, ?_, k2⟩
        rw [runS_next (s' := ((lo + hi) / 2 + 1, hi))]
        · exact k1
        · unfold st104
          rw [br_t (by rw [ltF_eq]; exact decide_eq_true hlt), hs, br_t (by show (!ltF N (pwI (midE lo hi) e)) = true; rw [hm, ltF_eq, decide_eq_false hc]; rfl)]
          show some (Sum.inl (wrapF .i64 (midE lo hi + 1), hi)) = _
          rw [hm, wrapF_in (by omega) (by omega)]
    · have : lo = hi := by omega
      subst this
      refine ⟨1, lo, runS_done ?_, h0, h2, h4, h5⟩
      unfold st104
      rw [br_f (by rw [ltF_eq]; exact decide_eq_false (by show ¬ lo < lo; omega))]; rfl
theorem run84 (he : ex3 e) (hN : 0 ≤ N) (ht : 0 ≤ top ∧ top ≤ 1152921504606846977) (hp : pwI top e ≤ 4000000000000000000) (hl : N < pwI top e) :
    ∃ m r, runS (st104 N e) m (0, top) = some (0, (r, r)) ∧ IsRt N e (r - 1) ∧ r ≤ top := by
  obtain ⟨m, r, k1, k2, k3, k4, k5⟩ := run104 he ht.2 hp top.toNat 0 top (Int.le_refl _) ht.1 (Int.le_refl _) (by omega) (.inl rfl) hl
  have h0 : r ≠ 0 := fun h => by
    subst h
    have : pwI 0 e = 0 := by rcases he with rfl | rfl | rfl <;> rfl
    omega
  refine ⟨m, r, k1, ⟨by omega, ?_, by rw [show r - 1 + 1 = r from by omega]; exact k5⟩, k3⟩
  rcases k4 with h | h
  · exact absurd h h0
  · exact h
end
noncomputable def sp84 : ESpec := fun al css => match al, css with
  | [.int .i64 N, .int .i64 e], [] => some (ex3 e ∧ 0 ≤ N ∧ N ≤ 1152921504606846976, i (rtI N e))
  | _, _ => none
theorem c84 : ∀ al css os p v, sp84 al css = some (p, v) → p → Blks css os → (∀ cs ∈ css, cs.all Ex.flat = true) ∧ clean 6 v = true ∧ ∃ H', Sound Try.prog (gl + css.length) (.call 90 ⟨al⟩ (heapL (deads ++ os))) (.val v H') := by
  intro al css os p v hs hp hb
  unfold sp84 at hs
  split at hs
  case h_2 => cases hs
  rename_i N e
  cases hs
  cases hb
  obtain ⟨he, h0, h1⟩ := hp
  refine ⟨fun c hc => absurd hc List.not_mem_nil, rfl, ?_⟩
  rcases he with rfl | rfl | rfl
  · obtain ⟨m, r, k1, k2, k3⟩ := run84 (N := N) (e := 1) (top := 1152921504606846977) (.inl rfl) h0 (by omega) (by decide) (by show N < 1152921504606846977; omega)
    have hL := (L104 (top := 1152921504606846977) (N := N) (e := 1)).table (id := 2) (s0 := (0, 1152921504606846977)) .none (by decide) trivial k1 (by kernel_rfl) [0]
    obtain ⟨H', h'⟩ := Out.vals_sel (x84_1 N r r) (v := i (rtI N 1)) (by
      have := k2.1
      rw [v84_1, rt_eq (.inl rfl) k2, wrapF_in (by omega) (by omega)]; rfl)
    exact ⟨H', execO_sound (C := K84 1152921504606846977 N 1 _) .none hL 60 _ _ h'⟩
  · obtain ⟨m, r, k1, k2, k3⟩ := run84 (N := N) (e := 2) (top := 1073741825) (.inr (.inl rfl)) h0 (by omega) (by decide) (by show N < 1073741825 * 1073741825; omega)
    have hL := (L104 (top := 1073741825) (N := N) (e := 2)).table (id := 2) (s0 := (0, 1073741825)) .none (by decide) trivial k1 (by kernel_rfl) [0]
    obtain ⟨H', h'⟩ := Out.vals_sel (x84_2 N r r) (v := i (rtI N 2)) (by
      have := k2.1
      rw [v84_2, rt_eq (.inr (.inl rfl)) k2, wrapF_in (by omega) (by omega)]; rfl)
    exact ⟨H', execO_sound (C := K84 1073741825 N 2 _) .none hL 60 _ _ h'⟩
  · obtain ⟨m, r, k1, k2, k3⟩ := run84 (N := N) (e := 3) (top := 1048577) (.inr (.inr rfl)) h0 (by omega) (by decide) (by show N < 1048577 * 1048577 * 1048577; omega)
    have hL := (L104 (top := 1048577) (N := N) (e := 3)).table (id := 2) (s0 := (0, 1048577)) .none (by decide) trivial k1 (by kernel_rfl) [0]
    obtain ⟨H', h'⟩ := Out.vals_sel (x84_3 N r r) (v := i (rtI N 3)) (by
      have := k2.1
      rw [v84_3, rt_eq (.inr (.inr rfl)) k2, wrapF_in (by omega) (by omega)]; rfl)
    exact ⟨H', execO_sound (C := K84 1048577 N 3 _) .none hL 60 _ _ h'⟩
end Go.Proofs.Yteemponkignnhaa.Ways
set_option maxRecDepth 10000
noncomputable section
namespace Go.Proofs.Yteemponkignnhaa.Ways
open Go Go.Ex Go.RowKit Go.Turn
noncomputable def T48 : Tb := ext (TD false) 90 (autoE sp84 [] (heapL deads))
noncomputable def C48 : Cfg := ⟨T48, at_ [(51, 20)] .bool no_, on_ [(51, 31)], noL⟩
theorem ts48 {G : Nat} : TSound Try.prog G T48 := (tsD_ false).auto c84
section
variable (cs : List Value) (t s n c : Nat) (ex : Bool) (e N : Int)
noncomputable def o48 : Out QRes := execO Try.prog 2 C48 60 (.call 51 ⟨[sl 1 0 n c, i e, i N]⟩ (heapL (deads ++ [.cells cs t s ex])))
noncomputable def o48z : Out QRes := execO Try.prog 1 C48 60 (.call 51 ⟨[.slice none 0 0, i e, i N]⟩ (heapL (deads ++ [])))
def er48 (a : Int) : Int := fst3 a (rgE e 1 3) (rgE N 1 999999999)
noncomputable def en48 (a : Int) : VT := .br (!eqF N 0) (vP (ex3 e ∧ 0 ≤ wrapF .i64 (a.tdiv N) ∧ wrapF .i64 (a.tdiv N) ≤ 1152921504606846976) <| .leaf (tp [i (rtI (wrapF .i64 (a.tdiv N)) e), i 0])) .fail
theorem v48 : (o48 cs t s n c ex e N).vals = (vP (GcE cs n c) <| vP (okI [i (mnE n 40000), i 0] 2 2) <| vP (okI [i (fst2 (mnE n 40000) 0), i (rgE e 1 3), i (rgE N 1 999999999)] 3 3) <|
  .br (!eqF (er48 e N (fst2 (mnE n 40000) 0)) 0) (.leaf (tp [i 0, i (er48 e N (fst2 (mnE n 40000) 0))])) <| vP (okF cs n c ∧ n < 1000000) <| vP (V79 (lstI (szI cs) n) n n e) <| en48 e N (smP (lstI (szI cs) n) e n)) := by kernel_rfl
theorem x48 : o48 cs t s n c ex e N = (o48 cs t s n c ex e N).fix := by kernel_rfl
theorem v48z : (o48z e N).vals = (vP (okI [i 0, i 0] 2 2) <| vP (okI [i 0, i (rgE e 1 3), i (rgE N 1 999999999)] 3 3) <| .br (!eqF (er48 e N 0) 0) (.leaf (tp [i 0, i (er48 e N 0)])) <| vP (V79 [] 0 0 e) <| en48 e N 0) := by kernel_rfl
theorem x48z : o48z e N = (o48z e N).fix := by kernel_rfl
end
theorem en48_sel {e N a : Int} (he : ex3 e) (hN : 1 ≤ N) (h0 : 0 ≤ a) (ha : a ≤ 1152921504606846976) : (en48 e N a).sel = some (tp [i (rtI (a.tdiv N) e), i 0]) := by
  have h1 : 0 ≤ a.tdiv N := Int.tdiv_nonneg h0 (by omega)
  have h2 : a.tdiv N ≤ a := by
    rw [Int.tdiv_eq_ediv_of_nonneg h0]
    exact Int.ediv_le_self _ h0
  unfold en48
  rw [wrapF_in (by omega) (by omega), vb_t (by rw [eqF_d, decide_eq_false (by omega)]; rfl), vP_sel ⟨he, h1, by omega⟩]; rfl
noncomputable def sp48 : ESpec := fun al css => match al, css with
  | [.slice (some ⟨1, 0, none⟩) n c, .int .i64 e, .int .i64 N], [cs] => some (GcE cs n c ∧ n ≤ 100 ∧ ex3 e ∧ 1 ≤ N ∧ N ≤ 999999999, tp [i (rtI ((sL e (rgs cs n)).tdiv N) e), i 0])
  | [.slice none 0 0, .int .i64 e, .int .i64 N], [] => some (ex3 e ∧ 1 ≤ N ∧ N ≤ 999999999, tp [i (rtI ((0 : Int).tdiv N) e), i 0])
  | _, _ => none
theorem c48 : ∀ al css os p v, sp48 al css = some (p, v) → p → Blks css os → (∀ cs ∈ css, cs.all Ex.flat = true) ∧ clean 6 v = true ∧ ∃ H', Sound Try.prog (gl + css.length) (.call 51 ⟨al⟩ (heapL (deads ++ os))) (.val v H') := by
  intro al css os p v hs hp hb
  unfold sp48 at hs
  split at hs
  · rename_i n c e N cs
    cases hs
    obtain ⟨t, s, ex, rfl⟩ := blks1 hb
    obtain ⟨h1, h2, h3, h4, h5⟩ := hp
    refine ⟨by simpa using h1.1.1, rfl, ?_⟩
    have hm : mnE (n : Int) 40000 = 0 := if_pos (by omega)
    have hv := V79_V (l := rgs cs n) (N := n) (rgs_bd h1) (by rw [rgs_len]; omega) (by rw [rgs_len]; exact Nat.le_refl _) h3
    have hsm := smP_V e (rgs cs n)
    rw [rgs_len] at hv hsm
    have hbd := smP_bd (e := e) (n := n) hv.2.2.2 n (Nat.le_refl _)
    rw [hsm] at hbd
    have hr : rgE N 1 999999999 = 0 := if_pos ⟨h4, h5⟩
    obtain ⟨H', h'⟩ := Out.vals_sel (x48 cs t s n c ex e N) (v := tp [i (rtI ((sL e (rgs cs n)).tdiv N) e), i 0]) (by
      rw [v48, vP_sel h1, vP_sel (okI2 _ _), vP_sel (okI3 _ _ _), hm, show er48 e N (fst2 0 0) = 0 by unfold er48; rw [ex3_rg h3, hr]; rfl, vb_f (by rfl), vP_sel ⟨h1.1, by omega⟩, lst_V, show (List.range n).map (szI cs) = rgs cs n from rfl, vP_sel hv]
      rw [hsm]
      exact en48_sel h3 h4 hbd.1 (by omega))
    exact ⟨H', execO_sound (C := C48) ts48 .none 60 _ _ h'⟩
  · rename_i e N
    cases hs
    cases hb
    obtain ⟨h3, h4, h5⟩ := hp
    refine ⟨fun c hc => absurd hc List.not_mem_nil, rfl, ?_⟩
    have hr : rgE N 1 999999999 = 0 := if_pos ⟨h4, h5⟩
    obtain ⟨H', h'⟩ := Out.vals_sel (x48z e N) (v := tp [i (rtI ((0 : Int).tdiv N) e), i 0]) (by
      rw [v48z, vP_sel (okI2 _ _), vP_sel (okI3 _ _ _), show er48 e N 0 = 0 by unfold er48; rw [ex3_rg h3, hr]; rfl, vb_f (by rfl), vP_sel (show V79 [] 0 0 e from V79_V (l := []) (fun x hx => by cases hx) (by decide) (Nat.le_refl _) h3)]
      exact en48_sel h3 h4 (Int.le_refl _) (by omega))
    exact ⟨H', execO_sound (C := C48) ts48 .none 60 _ _ h'⟩
  · cases hs
end Go.Proofs.Yteemponkignnhaa.Ways
set_option maxRecDepth 10000
noncomputable section
namespace Go.Proofs.Yteemponkignnhaa.Ways
open Go Go.Ex Go.RowKit Go.Turn
def str43 : VT → VT
  | .br _ (.br _ (.br _ _ w) _) _ => w
  | t => t
section
variable (cs : List Value) (n t s : Nat) (ex : Bool) (e : Int)
noncomputable def o77 (f z : Bool) : Out QRes := execO Try.prog 2 (C43 f z) 90 (.call 81 ⟨[sl 1 0 n n, i e]⟩ (heapL (deads ++ [.cells cs t s ex])))
theorem v77 : ∀ f z, (o77 cs n t s ex e f z).vals = str43 (o43 cs n t s ex e f z).vals
  | true, true => by kernel_rfl
  | true, false => by kernel_rfl
  | false, true => by kernel_rfl
  | false, false => by kernel_rfl
theorem x77 : ∀ f z, o77 cs n t s ex e f z = (o77 cs n t s ex e f z).fix
  | true, true => by kernel_rfl
  | true, false => by kernel_rfl
  | false, true => by kernel_rfl
  | false, false => by kernel_rfl
end
section
variable {cs : List Value} {n t s : Nat} {ex : Bool} {e : Int}
theorem sel77 (h : Fx cs n 0) (he : ex3 e) {f z : Bool} {u : VT} (hv : (o43 cs n t s ex e f z).vals = p43 cs n e u) {r : Option Value} (hs : (o43 cs n t s ex e f z).vals.sel = r) : (o77 cs n t s ex e f z).vals.sel = r := by
  rw [hv, p43_sel h he] at hs
  rw [v77, hv]
  exact (vP_sel h.lok.2.2.1).trans hs
noncomputable def sp77 : ESpec := fun al css => match al, css with
  | [.slice (some ⟨1, 0, none⟩) n c, .int .i64 e], [cs] => some (c = n ∧ Fx cs n 0 ∧ ex3 e, tp [i (vT cs n e), i 0])
  | _, _ => none
theorem c77 : ∀ al css os p v, sp77 al css = some (p, v) → p → Blks css os → (∀ cs ∈ css, cs.all Ex.flat = true) ∧ clean 6 v = true ∧ ∃ H', Sound Try.prog (gl + css.length) (.call 81 ⟨al⟩ (heapL (deads ++ os))) (.val v H') := by
  intro al css os p v hs hp hb
  unfold sp77 at hs
  split at hs
  case h_2 => cases hs
  rename_i n c e cs
  cases hs
  obtain ⟨t, s, ex, rfl⟩ := blks1 hb
  obtain ⟨rfl, h, he⟩ := hp
  refine ⟨by simpa using h.ok.1, rfl, ?_⟩
  have fin : ∀ f z, (o77 cs c t s ex e f z).vals.sel = some (tp [i (vT cs c e), i 0]) → ∃ H', Sound Try.prog (gl + [cs].length) (.call 81 ⟨[sl 1 0 c c, i e]⟩ (heapL (deads ++ [.cells cs t s ex]))) (.val (tp [i (vT cs c e), i 0]) H') := fun f z hs => by
    obtain ⟨H', h'⟩ := Out.vals_sel (x77 cs c t s ex e f z) hs
    refine ⟨H', execO_sound (C := C43 f z) ?_ ?_ 90 _ _ h'⟩
    · cases f <;> cases z <;> exact tsW_ _ _
    · cases f <;> cases z <;> exact .none
  have hsz := h.sz
  by_cases hC : CC_ cs c = []
  · by_cases hz : LD_ cs c = 1
    · exact fin false true (sel77 h he (v43ft cs c t s ex e) (sel_ft h he hC hz))
    · exact fin false false (sel77 h he (v43ff cs c t s ex e) (sel_ff h he hC (by omega)))
  · by_cases hz : LD_ cs c = 1
    · exact fin true true (sel77 h he (v43tt cs c t s ex e) (sel_tt h he hC hz))
    · exact fin true false (sel77 h he (v43tf cs c t s ex e) (sel_tf h he hC (by omega)))
end
end Go.Proofs.Yteemponkignnhaa.Ways
set_option maxRecDepth 10000
noncomputable section
namespace Go.Proofs.Yteemponkignnhaa.Ways
open Go Go.Ex Go.RowKit Go.Turn
noncomputable def T47 : Tb := ext (TD false) 81 (autoE sp77 [] (heapL deads))
theorem ts47 {G : Nat} : TSound Try.prog G T47 := (tsD_ false).auto c77
noncomputable def C47 : Cfg := ⟨T47, at_ [(50, 17), (50, 28), (50, 33)] .bool no_, on_ [(50, 38)], noL⟩
section
variable (cs : List Value) (t s n : Nat) (ex : Bool) (a e : Int)
noncomputable def o47 : Out QRes := execO Try.prog 2 C47 60 (.call 50 ⟨[ag [i a, i e], sl 1 0 n n]⟩ (heapL (deads ++ [.cells cs t s ex])))
def er47 : Int := fst2 (fst2 (rgE a 1 1152921504606846976) (rgE e 1 3)) 0
noncomputable def qu47 (u : Int) : VT := .br (!eqF u 0) (.leaf (tp [i (wrapF .i64 ((wrapF .i64 (2 * a)).tdiv u)), i 0])) .fail
theorem v47 : (o47 cs t s n ex a e).vals = (vP (okI [i (rgE a 1 1152921504606846976), i (rgE e 1 3)] 2 2) <| vP (LokE cs n n) <| vP (okI [i (fst2 (rgE a 1 1152921504606846976) (rgE e 1 3)), i 0] 2 2) <| .br (!eqF (er47 a e) 0) (.leaf (tp [i 0, i (er47 a e)])) <|
  vP (n = n ∧ Fx cs n 0 ∧ ex3 e) <| .br (!eqF (vT cs n e) 0) (vP (okI [i 0, i 0] 2 2) <| .br (!eqF (fst2 0 0) 0) (.leaf (tp [i 0, i (fst2 0 0)])) (qu47 a (vT cs n e))) (vP (okI [i 0, i 7] 2 2) <| .br (!eqF (fst2 0 7) 0) (.leaf (tp [i 0, i (fst2 0 7)])) (qu47 a (vT cs n e)))) := by kernel_rfl
theorem x47 : o47 cs t s n ex a e = (o47 cs t s n ex a e).fix := by kernel_rfl
end
section
variable {cs : List Value} {n : Nat} {e : Int}
theorem sL_nn {e : Int} (he : ex3 e) : ∀ {l : List Int}, (∀ x ∈ l, 0 ≤ x ∧ x ≤ 65536) → 0 ≤ sL e l
  | [], _ => Int.le_refl _
  | x :: l, h => by
    have h1 := sL_nn he fun y hy => h y (List.mem_cons_of_mem _ hy)
    have h2 := pwI_bd (e := e) (h x (List.mem_cons_self ..))
    show 0 ≤ pwI x e + sL e l
    omega
theorem Fx.vT_nn (h : Fx cs n 0) (he : ex3 e) : 0 ≤ vT cs n e := by
  have h1 := sL_nn he h.rg_bd
  have h2 := sL_nn he h.df_bd
  have h3 : vT cs n e = sL e (rgC cs n) + sL e (rgC cs n) + sL e (dfC cs n) := rfl
  omega
end
noncomputable def rpV (a u : Int) : Value := tp [i (if u = 0 then 0 else (2 * a).tdiv u), i (if u = 0 then 7 else 0)]
noncomputable def sp47 : ESpec := fun al css => match al, css with
  | [.agg ⟨[.int .i64 a, .int .i64 e]⟩, .slice (some ⟨1, 0, none⟩) n c], [cs] => some (c = n ∧ Fx cs n 0 ∧ ex3 e ∧ 1 ≤ a ∧ a ≤ 1152921504606846976, rpV a (vT cs n e))
  | _, _ => none
theorem c47 : ∀ al css os p v, sp47 al css = some (p, v) → p → Blks css os → (∀ cs ∈ css, cs.all Ex.flat = true) ∧ clean 6 v = true ∧ ∃ H', Sound Try.prog (gl + css.length) (.call 50 ⟨al⟩ (heapL (deads ++ os))) (.val v H') := by
  intro al css os p v hs hp hb
  unfold sp47 at hs
  split at hs
  case h_2 => cases hs
  rename_i a e n c cs
  cases hs
  obtain ⟨t, s, ex, rfl⟩ := blks1 hb
  obtain ⟨rfl, h, he, h1, h2⟩ := hp
  refine ⟨by simpa using h.ok.1, rfl, ?_⟩
  have hr : rgE a 1 1152921504606846976 = 0 := if_pos ⟨h1, h2⟩
  have hn := h.vT_nn he
  have he0 : er47 a e = 0 := by unfold er47; rw [hr, ex3_rg he]; rfl
  obtain ⟨H', h'⟩ := Out.vals_sel (x47 cs t s c ex a e) (v := rpV a (vT cs c e)) (by
    rw [v47, vP_sel (okI2 _ _), vP_sel h.lok.1, vP_sel (okI2 _ _), he0, vb_f (by rfl), vP_sel ⟨rfl, h, he⟩]
    unfold rpV
    by_cases h0 : vT cs c e = 0
    · rw [vb_f (by rw [eqF_d, decide_eq_true h0]; rfl), vP_sel (okI2 _ _), vb_t (by rfl), if_pos h0, if_pos h0]; rfl
    · have hw : wrapF .i64 (2 * a) = 2 * a := wrapF_in (by omega) (by omega)
      have q1 : 0 ≤ (2 * a).tdiv (vT cs c e) := Int.tdiv_nonneg (by omega) hn
      have q2 : (2 * a).tdiv (vT cs c e) ≤ 2 * a := by
        rw [Int.tdiv_eq_ediv_of_nonneg (by omega)]
        exact Int.ediv_le_self _ (by omega)
      rw [vb_t (by rw [eqF_d, decide_eq_false h0]; rfl), vP_sel (okI2 _ _), vb_f (by rfl), if_neg h0, if_neg h0]
      unfold qu47
      rw [vb_t (by rw [eqF_d, decide_eq_false h0]; rfl), hw, wrapF_in (by omega) (by omega)]; rfl)
  exact ⟨H', execO_sound (C := C47) ts47 .none 60 _ _ h'⟩
end Go.Proofs.Yteemponkignnhaa.Ways
set_option maxRecDepth 10000
noncomputable section
namespace Go.Proofs.Yteemponkignnhaa.Ways
open Go Go.Ex Go.RowKit Go.Turn
theorem rt_is {N e : Int} (he : ex3 e) (h0 : 0 ≤ N) (h1 : N ≤ 1152921504606846976) : IsRt N e (rtI N e) := by
  have hx : ∃ r, IsRt N e r := by
    rcases he with rfl | rfl | rfl
    · obtain ⟨_, r, _, h, _⟩ := run84 (N := N) (e := 1) (top := 1152921504606846977) (.inl rfl) h0 (by omega) (by decide) (by show N < 1152921504606846977; omega)
      exact ⟨_, h⟩
    · obtain ⟨_, r, _, h, _⟩ := run84 (N := N) (e := 2) (top := 1073741825) (.inr (.inl rfl)) h0 (by omega) (by decide) (by show N < 1073741825 * 1073741825; omega)
      exact ⟨_, h⟩
    · obtain ⟨_, r, _, h, _⟩ := run84 (N := N) (e := 3) (top := 1048577) (.inr (.inr rfl)) h0 (by omega) (by decide) (by show N < 1048577 * 1048577 * 1048577; omega)
      exact ⟨_, h⟩
  unfold rtI
  rw [dif_pos hx]
  exact hx.choose_spec
theorem root_law {d m e : Int} (he : ex3 e) (h0 : 0 ≤ d) (h1 : d ≤ 1152921504606846976) (hm : 1 ≤ m) : 0 ≤ rtI (d.tdiv m) e ∧ m * pwI (rtI (d.tdiv m) e) e ≤ d ∧ d < m * pwI (rtI (d.tdiv m) e + 1) e := by
  rw [Int.tdiv_eq_ediv_of_nonneg h0]
  have q0 : 0 ≤ d / m := Int.ediv_nonneg h0 (by omega)
  have q1 : d / m ≤ d := Int.ediv_le_self _ h0
  obtain ⟨a, b, c⟩ := rt_is he (N := d / m) q0 (by omega)
  have e1 : m * (d / m) ≤ d := Int.mul_ediv_self_le (by omega)
  have e2 : d < m * (d / m) + m := Int.lt_mul_ediv_self_add (by omega)
  have e3 : m * pwI (rtI (d / m) e) e ≤ m * (d / m) := Int.mul_le_mul_of_nonneg_left b (by omega)
  have e4 : m * (d / m + 1) ≤ m * pwI (rtI (d / m) e + 1) e := Int.mul_le_mul_of_nonneg_left (by omega) (by omega)
  have e5 : m * (d / m + 1) = m * (d / m) + m := by rw [Int.mul_add, Int.mul_one]
  exact ⟨a, by omega, by omega⟩
def kSp (b v : Int) : Int := if v ≤ b then (if v ≤ b - v then (if v ≤ b - v - v then 3 else 2) else 1) else 0
def lSp (b v : Int) : Int := if v ≤ b then (if v ≤ b - v then (if v ≤ b - v - v then b - v - v - v else b - v - v) else b - v) else b
theorem kSp_bd (b v : Int) : 0 ≤ kSp b v ∧ kSp b v ≤ 3 := by
  unfold kSp
  split
  · split
    · split <;> omega
    · omega
  · omega
theorem lSp_eq (b v : Int) : lSp b v = b - kSp b v * v := by
  unfold lSp kSp
  split
  · split
    · split <;> omega
    · omega
  · omega
theorem lSp_nn {b v : Int} (h : 0 ≤ b) : 0 ≤ lSp b v := by
  unfold lSp
  split
  · split
    · split <;> omega
    · omega
  · omega
theorem kSp_zero {b : Int} (h : 0 ≤ b) : kSp b 0 = 3 := by
  unfold kSp
  rw [if_pos h, if_pos (by omega), if_pos (by omega)]
theorem kSp_min {b v : Int} (hb : 0 ≤ b) (hv : 0 < v) : kSp b v = if b.tdiv v < 3 then b.tdiv v else 3 := by
  rw [Int.tdiv_eq_ediv_of_nonneg hb]
  have e1 : v * (b / v) ≤ b := Int.mul_ediv_self_le (by omega)
  have e2 : b < v * (b / v) + v := Int.lt_mul_ediv_self_add hv
  have q0 : 0 ≤ b / v := Int.ediv_nonneg hb (by omega)
  by_cases h3 : b / v < 3
  · rw [if_pos h3]
    have hc : b / v = 0 ∨ b / v = 1 ∨ b / v = 2 := by omega
    unfold kSp
    rcases hc with h | h | h
    · rw [h] at e1 e2 ⊢
      rw [if_neg (by omega)]
    · rw [h] at e1 e2 ⊢
      rw [if_pos (by omega), if_neg (by omega)]
    · rw [h] at e1 e2 ⊢
      rw [if_pos (by omega), if_pos (by omega), if_neg (by omega)]
  · rw [if_neg h3]
    have h4 : v * 3 ≤ v * (b / v) := Int.mul_le_mul_of_nonneg_left (by omega) (by omega)
    unfold kSp
    rw [if_pos (by omega), if_pos (by omega), if_pos (by omega)]
theorem div_more {a v : Int} (ha : 0 ≤ a) (hv : 0 < v) : (2 * a).tdiv v ≤ (2 * (a + 1)).tdiv v := by
  rw [Int.tdiv_eq_ediv_of_nonneg (by omega), Int.tdiv_eq_ediv_of_nonneg (by omega)]
  exact Int.ediv_le_ediv hv (by omega)
end Go.Proofs.Yteemponkignnhaa.Ways
