import Derived.Test.YteemponkignnhaaGreatJd1
import Derived.Test.YteemponkignnhaaGreatKm6
import Derived.Test.YteemponkignnhaaGreatZe2
import Derived.Test.YteemponkignnhaaGreatEngAuto
import Derived.Test.YteemponkignnhaaGreatLc3
import Derived.Test.YteemponkignnhaaGreatLc5
import Derived.Test.YteemponkignnhaaGreatEngOrdA
set_option maxRecDepth 10000
noncomputable section
namespace Go.Proofs.YteemponkignnhaaGreat.Ways
open Go Go.Ex Go.RowKit Go.Turn
theorem pw_mono {x y e : Int} (he : ex3 e) (h : 0 ≤ x) (hxy : x ≤ y) : pwI x e ≤ pwI y e := by
  have hy : 0 ≤ y := by omega
  have h2 : x * x ≤ y * y := Int.mul_le_mul hxy hxy h hy
  rcases he with rfl | rfl | rfl
  · exact hxy
  · exact h2
  · exact Int.mul_le_mul h2 hxy h (Int.mul_nonneg hy hy)
theorem sq_up {x : Int} (h : 0 ≤ x) : x ≤ x * x ∧ x * x ≤ x * x * x := by
  by_cases h0 : x = 0
  · subst h0; exact ⟨Int.le_refl _, Int.le_refl _⟩
  · have h1 : x * 1 ≤ x * x := Int.mul_le_mul_of_nonneg_left (by omega) h
    have h2 : x * x * 1 ≤ x * x * x := Int.mul_le_mul_of_nonneg_left (by omega) (Int.mul_nonneg h h)
    omega
def sp101w : ESpec := fun al css => match al, css with
  | [.int .i64 x, .int .i64 e], [] => some (ex3 e ∧ 0 ≤ x ∧ pwI x e ≤ 4000000000000000000, i (pwI x e))
  | _, _ => none
theorem c101w : ∀ al css os p v, sp101w al css = some (p, v) → p → Blks css os → (∀ cs ∈ css, cs.all Ex.flat = true) ∧ clean 6 v = true ∧ ∃ H', Sound Tryz.prog (gl + css.length) (.call 105 ⟨al⟩ (heapL (deads ++ os))) (.val v H') := by
  intro al css os p v hs hp hb
  unfold sp101w at hs
  split at hs
  case h_2 => cases hs
  rename_i x e
  cases hs
  cases hb
  obtain ⟨he, h0, hx⟩ := hp
  obtain ⟨h1, h2⟩ := sq_up h0
  refine ⟨fun c hc => absurd hc List.not_mem_nil, rfl, ?_⟩
  rcases he with rfl | rfl | rfl
  · have hx : x ≤ 4000000000000000000 := hx
    have e1 : wrapF .i64 (1 * x) = x := by rw [Int.one_mul, wrapF_in (by omega) (by omega)]
    obtain ⟨H', h'⟩ := Out.vals_sel (x101_1 x) (v := i (pwI x 1)) (by rw [v101_1, e1]; rfl)
    exact ⟨H', execO_sound (C := ⟨noT, no_, off_, noL⟩) .none .none 60 _ _ h'⟩
  · have hx : x * x ≤ 4000000000000000000 := hx
    have e1 : wrapF .i64 (1 * x) = x := by rw [Int.one_mul, wrapF_in (by omega) (by omega)]
    have e2 : wrapF .i64 (x * x) = x * x := wrapF_in (by omega) (by omega)
    obtain ⟨H', h'⟩ := Out.vals_sel (x101_2 x) (v := i (pwI x 2)) (by rw [v101_2, e1, e2]; rfl)
    exact ⟨H', execO_sound (C := ⟨noT, no_, off_, noL⟩) .none .none 60 _ _ h'⟩
  · have hx : x * x * x ≤ 4000000000000000000 := hx
    have e1 : wrapF .i64 (1 * x) = x := by rw [Int.one_mul, wrapF_in (by omega) (by omega)]
    have e2 : wrapF .i64 (x * x) = x * x := wrapF_in (by omega) (by omega)
    have e3 : wrapF .i64 (x * x * x) = x * x * x := wrapF_in (by omega) (by omega)
    obtain ⟨H', h'⟩ := Out.vals_sel (x101_3 x) (v := i (pwI x 3)) (by rw [v101_3, e1, e2, e3]; rfl)
    exact ⟨H', execO_sound (C := ⟨noT, no_, off_, noL⟩) .none .none 60 _ _ h'⟩
noncomputable def T101w : Tb := ext noT 105 (autoE sp101w [] (heapL deads))
theorem ts101w {G : Nat} : TSound Tryz.prog G T101w := TSound.none.auto c101w
noncomputable def B104 : Code := bodyL Tryz.f110 2
noncomputable def C104 : Cfg := ⟨T101w, at_ [(110, 11), (110, 21)] .bool no_, off_, noL⟩
def midE (lo hi : Int) : Int := IntKind.i64.wrap ((IntKind.u64.wrap (wrapF .i64 (lo + hi))).fdiv (2 ^ min (Int.toNat 1) IntKind.u64.bits))
section
variable (top N e : Int)
def hp104 : List (CO × Bool) := [(.dead, false), (.cells [i N] 3 1 true, true), (.cells [i e] 3 1 true, true)]
def S104 : Shape (Int × Int) := ⟨26, fun q => ⟨[(0, i top), (1, fnc 111 [pt 2 0, pt 1 0]), (5, i q.1), (6, i q.2)], hp104 N e⟩, fun _ q => (.exit 0, ⟨[(5, i q.1)], hp104 N e⟩)⟩
noncomputable def st104 (q : Int × Int) : SS (Int × Int) := .br (ltF q.1 q.2) (askS (tru (ex3 e ∧ 0 ≤ midE q.1 q.2 ∧ pwI (midE q.1 q.2) e ≤ 4000000000000000000)) <|
  .br (!ltF N (pwI (midE q.1 q.2) e)) (.next 3 [0, 1, 2] (wrapF .i64 (midE q.1 q.2 + 1), q.2)) (.next 3 [0, 1, 2] (q.1, midE q.1 q.2))) (.done 3 [0, 1, 2] 0)
noncomputable def K84 (r : Nat × Int × Int) : Cfg := ⟨noT, no_, off_, loopE noL 110 2 26 3 B104 ((S104 top N e).st (0, top)).live ((S104 top N e).st (0, top)).hp (finO (S104 top N e) r [0])⟩
noncomputable def o84 (r : Nat × Int × Int) : Out QRes := execO Tryz.prog 1 (K84 top N e r) 60 (.call 81 ⟨[i N, i e]⟩ (heapL deads))
end
theorem v84_1 (N u w : Int) : (o84 1152921504606846977 N 1 (0, u, w)).vals = .br true (.leaf (i (wrapF .i64 (u - 1)))) .fail := by kernel_rfl
theorem v84_2 (N u w : Int) : (o84 1073741825 N 2 (0, u, w)).vals = .br true (.leaf (i (wrapF .i64 (u - 1)))) .fail := by kernel_rfl
theorem v84_3 (N u w : Int) : (o84 1048577 N 3 (0, u, w)).vals = .br true (.leaf (i (wrapF .i64 (u - 1)))) .fail := by kernel_rfl
theorem x84_1 (N u w : Int) : o84 1152921504606846977 N 1 (0, u, w) = (o84 1152921504606846977 N 1 (0, u, w)).fix := by kernel_rfl
theorem x84_2 (N u w : Int) : o84 1073741825 N 2 (0, u, w) = (o84 1073741825 N 2 (0, u, w)).fix := by kernel_rfl
theorem x84_3 (N u w : Int) : o84 1048577 N 3 (0, u, w) = (o84 1048577 N 3 (0, u, w)).fix := by kernel_rfl
theorem hp104_flat (N e : Int) : ∀ o, (o, true) ∈ hp104 N e → FlatO o := by
  intro o ho
  simp only [hp104, List.mem_cons, Prod.mk.injEq, and_true, List.not_mem_nil, or_false] at ho
  rcases ho with ⟨_, h⟩ | rfl | rfl
  · cases h
  · exact fun x hx => List.all_eq_true.1 (show [i N].all Ex.flat = true from rfl) x hx
  · exact fun x hx => List.all_eq_true.1 (show [i e].all Ex.flat = true from rfl) x hx
theorem L104 {top N e : Int} : Loop1 Tryz.prog 1 110 B104 (S104 top N e) 3 (st104 N e) (fun _ => True) :=
  .mk' (C := fun _ => C104) (n := 60) (fun _ _ => ts101w) (fun _ _ => .none) (fun q ro _ => by kernel_rfl) (fun q ro _ => by kernel_rfl) (fun q => by kernel_rfl) (fun _ _ _ _ => trivial)
    (fun _ _ => hp104_flat N e) (fun _ _ _ _ => ⟨hp104_flat N e, fun h => by cases h⟩)
end Go.Proofs.YteemponkignnhaaGreat.Ways
set_option maxRecDepth 10000
noncomputable section
namespace Go.Proofs.YteemponkignnhaaGreat.Ways
open Go Go.Ex Go.RowKit Go.Turn
theorem mid_eq {lo hi : Int} (h0 : 0 ≤ lo) (h : lo ≤ hi) (h2 : hi ≤ 1152921504606846977) : midE lo hi = (lo + hi) / 2 := by
  unfold midE
  rw [wrapF_in (by omega) (by omega), IntKind.wrap_u64, show (2 : Int) ^ min (Int.toNat 1) IntKind.u64.bits = 2 from rfl, Int.fdiv_eq_ediv_of_nonneg _ (by omega), IntKind.wrap_i64]
  omega
def IsRt (N e r : Int) : Prop := 0 ≤ r ∧ pwI r e ≤ N ∧ N < pwI (r + 1) e
open Classical in
noncomputable def rtI (N e : Int) : Int := if h : ∃ r, IsRt N e r then h.choose else 0
theorem rt_uniq {N e a b : Int} (he : ex3 e) (ha : IsRt N e a) (hb : IsRt N e b) : a = b := by
  obtain ⟨a0, a1, a2⟩ := ha
  obtain ⟨b0, b1, b2⟩ := hb
  rcases Int.lt_trichotomy a b with h | h | h
  · have := pw_mono he (x := a + 1) (y := b) (by omega) (by omega)
    omega
  · exact h
  · have := pw_mono he (x := b + 1) (y := a) (by omega) (by omega)
    omega
theorem rt_eq {N e r : Int} (he : ex3 e) (h : IsRt N e r) : rtI N e = r := by
  have hx : ∃ r, IsRt N e r := ⟨r, h⟩
  unfold rtI
  rw [dif_pos hx]
  exact rt_uniq he hx.choose_spec h
section
variable {N e top : Int}
theorem run104 (he : ex3 e) (ht : top ≤ 1152921504606846977) (hp : pwI top e ≤ 4000000000000000000) : ∀ (d : Nat) (lo hi : Int), 0 ≤ lo → lo ≤ hi → hi ≤ top → hi - lo ≤ d → (lo = 0 ∨ pwI (lo - 1) e ≤ N) → N < pwI hi e →
    ∃ m r, runS (st104 N e) m (lo, hi) = some (0, (r, r)) ∧ 0 ≤ r ∧ r ≤ top ∧ (r = 0 ∨ pwI (r - 1) e ≤ N) ∧ N < pwI r e := by
  intro d
  induction d with
  | zero =>
    intro lo hi h0 h1 h2 h3 h4 h5
    have : lo = hi := by omega
    subst this
    refine ⟨1, lo, runS_done ?_, h0, h2, h4, h5⟩
    unfold st104
    rw [br_f (by rw [ltF_eq]; exact decide_eq_false (by show ¬ lo < lo; omega))]; rfl
  | succ d ih =>
    intro lo hi h0 h1 h2 h3 h4 h5
    by_cases hlt : lo < hi
    · have hm := mid_eq h0 h1 (by omega)
      have hm1 : lo ≤ (lo + hi) / 2 ∧ (lo + hi) / 2 < hi := by omega
      have hq : pwI ((lo + hi) / 2) e ≤ 4000000000000000000 := by
        have := pw_mono he (x := (lo + hi) / 2) (y := top) (by omega) (by omega)
        omega
      have hs : ∀ u, (askS (tru (ex3 e ∧ 0 ≤ midE lo hi ∧ pwI (midE lo hi) e ≤ 4000000000000000000)) u : SS (Int × Int)).sel = u.sel := fun u => askS_sel (tru_iff.2 (by rw [hm]; exact ⟨he, by omega, hq⟩))
      by_cases hc : N < pwI ((lo + hi) / 2) e
      · obtain ⟨m, r, k1, k2⟩ := ih lo ((lo + hi) / 2) h0 hm1.1 (by omega) (by omega) h4 hc
        refine ⟨m + 1, r, ?_, k2⟩
        rw [runS_next (s' := (lo, (lo + hi) / 2))]
        · exact k1
        · unfold st104
          rw [br_t (by rw [ltF_eq]; exact decide_eq_true hlt), hs, br_f (by show (!ltF N (pwI (midE lo hi) e)) = false; rw [hm, ltF_eq, decide_eq_true hc]; rfl)]
          show some (Sum.inl (lo, midE lo hi)) = _
          rw [hm]
      · obtain ⟨m, r, k1, k2⟩ := ih ((lo + hi) / 2 + 1) hi (by omega) (by omega) h2 (by omega) (.inr (by rw [show (lo + hi) / 2 + 1 - 1 = (lo + hi) / 2 from by omega]; omega)) h5
        refine ⟨m + 1, r, ?_, k2⟩
        rw [runS_next (s' := ((lo + hi) / 2 + 1, hi))]
        · exact k1
        · unfold st104
          rw [br_t (by rw [ltF_eq]; exact decide_eq_true hlt), hs, br_t (by show (!ltF N (pwI (midE lo hi) e)) = true; rw [hm, ltF_eq, decide_eq_false hc]; rfl)]
          show some (Sum.inl (wrapF .i64 (midE lo hi + 1), hi)) = _
          rw [hm, wrapF_in (by omega) (by omega)]
    · have : lo = hi := by omega
      subst this
      refine ⟨1, lo, runS_done ?_, h0, h2, h4, h5⟩
      unfold st104
      rw [br_f (by rw [ltF_eq]; exact decide_eq_false (by show ¬ lo < lo; omega))]; rfl
theorem run84 (he : ex3 e) (hN : 0 ≤ N) (ht : 0 ≤ top ∧ top ≤ 1152921504606846977) (hp : pwI top e ≤ 4000000000000000000) (hl : N < pwI top e) :
    ∃ m r, runS (st104 N e) m (0, top) = some (0, (r, r)) ∧ IsRt N e (r - 1) ∧ r ≤ top := by
  obtain ⟨m, r, k1, k2, k3, k4, k5⟩ := run104 he ht.2 hp top.toNat 0 top (Int.le_refl _) ht.1 (Int.le_refl _) (by omega) (.inl rfl) hl
  have h0 : r ≠ 0 := fun h => by
    subst h
    have : pwI 0 e = 0 := by rcases he with rfl | rfl | rfl <;> rfl
    omega
  refine ⟨m, r, k1, ⟨by omega, ?_, by rw [show r - 1 + 1 = r from by omega]; exact k5⟩, k3⟩
  rcases k4 with h | h
  · exact absurd h h0
  · exact h
end
noncomputable def sp84 : ESpec := fun al css => match al, css with
  | [.int .i64 N, .int .i64 e], [] => some (ex3 e ∧ 0 ≤ N ∧ N ≤ 1152921504606846976, i (rtI N e))
  | _, _ => none
theorem c84 : ∀ al css os p v, sp84 al css = some (p, v) → p → Blks css os → (∀ cs ∈ css, cs.all Ex.flat = true) ∧ clean 6 v = true ∧ ∃ H', Sound Tryz.prog (gl + css.length) (.call 81 ⟨al⟩ (heapL (deads ++ os))) (.val v H') := by
  intro al css os p v hs hp hb
  unfold sp84 at hs
  split at hs
  case h_2 => cases hs
  rename_i N e
  cases hs
  cases hb
  obtain ⟨he, h0, h1⟩ := hp
  refine ⟨fun c hc => absurd hc List.not_mem_nil, rfl, ?_⟩
  rcases he with rfl | rfl | rfl
  · obtain ⟨m, r, k1, k2, k3⟩ := run84 (N := N) (e := 1) (top := 1152921504606846977) (.inl rfl) h0 (by omega) (by decide) (by show N < 1152921504606846977; omega)
    have hL := (L104 (top := 1152921504606846977) (N := N) (e := 1)).table (id := 2) (s0 := (0, 1152921504606846977)) .none (by decide) trivial k1 (by kernel_rfl) [0]
    obtain ⟨H', h'⟩ := Out.vals_sel (x84_1 N r r) (v := i (rtI N 1)) (by
      have := k2.1
      rw [v84_1, rt_eq (.inl rfl) k2, wrapF_in (by omega) (by omega)]; rfl)
    exact ⟨H', execO_sound (C := K84 1152921504606846977 N 1 _) .none hL 60 _ _ h'⟩
  · obtain ⟨m, r, k1, k2, k3⟩ := run84 (N := N) (e := 2) (top := 1073741825) (.inr (.inl rfl)) h0 (by omega) (by decide) (by show N < 1073741825 * 1073741825; omega)
    have hL := (L104 (top := 1073741825) (N := N) (e := 2)).table (id := 2) (s0 := (0, 1073741825)) .none (by decide) trivial k1 (by kernel_rfl) [0]
    obtain ⟨H', h'⟩ := Out.vals_sel (x84_2 N r r) (v := i (rtI N 2)) (by
      have := k2.1
      rw [v84_2, rt_eq (.inr (.inl rfl)) k2, wrapF_in (by omega) (by omega)]; rfl)
    exact ⟨H', execO_sound (C := K84 1073741825 N 2 _) .none hL 60 _ _ h'⟩
  · obtain ⟨m, r, k1, k2, k3⟩ := run84 (N := N) (e := 3) (top := 1048577) (.inr (.inr rfl)) h0 (by omega) (by decide) (by show N < 1048577 * 1048577 * 1048577; omega)
    have hL := (L104 (top := 1048577) (N := N) (e := 3)).table (id := 2) (s0 := (0, 1048577)) .none (by decide) trivial k1 (by kernel_rfl) [0]
    obtain ⟨H', h'⟩ := Out.vals_sel (x84_3 N r r) (v := i (rtI N 3)) (by
      have := k2.1
      rw [v84_3, rt_eq (.inr (.inr rfl)) k2, wrapF_in (by omega) (by omega)]; rfl)
    exact ⟨H', execO_sound (C := K84 1048577 N 3 _) .none hL 60 _ _ h'⟩
end Go.Proofs.YteemponkignnhaaGreat.Ways
set_option maxRecDepth 10000
noncomputable section
namespace Go.Proofs.YteemponkignnhaaGreat.Ways
open Go Go.Ex Go.RowKit Go.Turn
noncomputable def T48 : Tb := ext (TD false) 81 (autoE sp84 [] (heapL deads))
noncomputable def C48 : Cfg := ⟨T48, at_ [(27, 20)] .bool no_, on_ [(27, 31)], noL⟩
theorem ts48 {G : Nat} : TSound Tryz.prog G T48 := (tsD_ false).auto c84
section
variable (cs : List Value) (t s n c : Nat) (ex : Bool) (e N : Int)
noncomputable def o48 : Out QRes := execO Tryz.prog 2 C48 60 (.call 27 ⟨[sl 1 0 n c, i e, i N]⟩ (heapL (deads ++ [.cells cs t s ex])))
noncomputable def o48z : Out QRes := execO Tryz.prog 1 C48 60 (.call 27 ⟨[.slice none 0 0, i e, i N]⟩ (heapL (deads ++ [])))
def er48 (a : Int) : Int := fst3 a (rgE e 1 3) (rgE N 1 999999999)
noncomputable def en48 (a : Int) : VT := .br (!eqF N 0) (vP (ex3 e ∧ 0 ≤ wrapF .i64 (a.tdiv N) ∧ wrapF .i64 (a.tdiv N) ≤ 1152921504606846976) <| .leaf (tp [i (rtI (wrapF .i64 (a.tdiv N)) e), i 0])) .fail
theorem v48 : (o48 cs t s n c ex e N).vals = (vP (GcE cs n c) <| vP (okI [i (mnE n 40000), i 0] 2 2) <| vP (okI [i (fst2 (mnE n 40000) 0), i (rgE e 1 3), i (rgE N 1 999999999)] 3 3) <|
  .br (!eqF (er48 e N (fst2 (mnE n 40000) 0)) 0) (.leaf (tp [i 0, i (er48 e N (fst2 (mnE n 40000) 0))])) <| vP (okF cs n c ∧ n < 1000000) <| vP (V79 (lstI (szI cs) n) n n e) <| en48 e N (smP (lstI (szI cs) n) e n)) := by kernel_rfl
theorem x48 : o48 cs t s n c ex e N = (o48 cs t s n c ex e N).fix := by kernel_rfl
theorem v48z : (o48z e N).vals = (vP (okI [i 0, i 0] 2 2) <| vP (okI [i 0, i (rgE e 1 3), i (rgE N 1 999999999)] 3 3) <| .br (!eqF (er48 e N 0) 0) (.leaf (tp [i 0, i (er48 e N 0)])) <| vP (V79 [] 0 0 e) <| en48 e N 0) := by kernel_rfl
theorem x48z : o48z e N = (o48z e N).fix := by kernel_rfl
end
theorem en48_sel {e N a : Int} (he : ex3 e) (hN : 1 ≤ N) (h0 : 0 ≤ a) (ha : a ≤ 1152921504606846976) : (en48 e N a).sel = some (tp [i (rtI (a.tdiv N) e), i 0]) := by
  have h1 : 0 ≤ a.tdiv N := Int.tdiv_nonneg h0 (by omega)
  have h2 : a.tdiv N ≤ a := by
    rw [Int.tdiv_eq_ediv_of_nonneg h0]
    exact Int.ediv_le_self _ h0
  unfold en48
  rw [wrapF_in (by omega) (by omega), vb_t (by rw [eqF_d, decide_eq_false (by omega)]; rfl), vP_sel ⟨he, h1, by omega⟩]; rfl
noncomputable def sp48 : ESpec := fun al css => match al, css with
  | [.slice (some ⟨1, 0, none⟩) n c, .int .i64 e, .int .i64 N], [cs] => some (GcE cs n c ∧ n ≤ 100 ∧ ex3 e ∧ 1 ≤ N ∧ N ≤ 999999999, tp [i (rtI ((sL e (rgs cs n)).tdiv N) e), i 0])
  | [.slice none 0 0, .int .i64 e, .int .i64 N], [] => some (ex3 e ∧ 1 ≤ N ∧ N ≤ 999999999, tp [i (rtI ((0 : Int).tdiv N) e), i 0])
  | _, _ => none
theorem c48 : ∀ al css os p v, sp48 al css = some (p, v) → p → Blks css os → (∀ cs ∈ css, cs.all Ex.flat = true) ∧ clean 6 v = true ∧ ∃ H', Sound Tryz.prog (gl + css.length) (.call 27 ⟨al⟩ (heapL (deads ++ os))) (.val v H') := by
  intro al css os p v hs hp hb
  unfold sp48 at hs
  split at hs
  · rename_i n c e N cs
    cases hs
    obtain ⟨t, s, ex, rfl⟩ := blks1 hb
    obtain ⟨h1, h2, h3, h4, h5⟩ := hp
    refine ⟨by simpa using h1.1.1, rfl, ?_⟩
    have hm : mnE (n : Int) 40000 = 0 := if_pos (by omega)
    have hv := V79_V (l := rgs cs n) (N := n) (rgs_bd h1) (by rw [rgs_len]; omega) (by rw [rgs_len]; exact Nat.le_refl _) h3
    have hsm := smP_V e (rgs cs n)
    rw [rgs_len] at hv hsm
    have hbd := smP_bd (e := e) (n := n) hv.2.2.2 n (Nat.le_refl _)
    rw [hsm] at hbd
    have hr : rgE N 1 999999999 = 0 := if_pos ⟨h4, h5⟩
    obtain ⟨H', h'⟩ := Out.vals_sel (x48 cs t s n c ex e N) (v := tp [i (rtI ((sL e (rgs cs n)).tdiv N) e), i 0]) (by
      rw [v48, vP_sel h1, vP_sel (okI2 _ _), vP_sel (okI3 _ _ _), hm, show er48 e N (fst2 0 0) = 0 by unfold er48; rw [ex3_rg h3, hr]; rfl, vb_f (by rfl), vP_sel ⟨h1.1, by omega⟩, lst_V, show (List.range n).map (szI cs) = rgs cs n from rfl, vP_sel hv]
      rw [hsm]
      exact en48_sel h3 h4 hbd.1 (by omega))
    exact ⟨H', execO_sound (C := C48) ts48 .none 60 _ _ h'⟩
  · rename_i e N
    cases hs
    cases hb
    obtain ⟨h3, h4, h5⟩ := hp
    refine ⟨fun c hc => absurd hc List.not_mem_nil, rfl, ?_⟩
    have hr : rgE N 1 999999999 = 0 := if_pos ⟨h4, h5⟩
    obtain ⟨H', h'⟩ := Out.vals_sel (x48z e N) (v := tp [i (rtI ((0 : Int).tdiv N) e), i 0]) (by
      rw [v48z, vP_sel (okI2 _ _), vP_sel (okI3 _ _ _), show er48 e N 0 = 0 by unfold er48; rw [ex3_rg h3, hr]; rfl, vb_f (by rfl), vP_sel (show V79 [] 0 0 e from V79_V (l := []) (fun x hx => by cases hx) (by decide) (Nat.le_refl _) h3)]
      exact en48_sel h3 h4 (Int.le_refl _) (by omega))
    exact ⟨H', execO_sound (C := C48) ts48 .none 60 _ _ h'⟩
  · cases hs
end Go.Proofs.YteemponkignnhaaGreat.Ways
set_option maxRecDepth 10000
noncomputable section
namespace Go.Proofs.YteemponkignnhaaGreat.Ways
open Go Go.Ex Go.RowKit Go.Turn
section
variable (cs : List Value) (n t s : Nat) (ex : Bool) (e : Int)
end
section
variable {cs : List Value} {n t s : Nat} {ex : Bool} {e : Int}
end
end Go.Proofs.YteemponkignnhaaGreat.Ways
set_option maxRecDepth 10000
noncomputable section
namespace Go.Proofs.YteemponkignnhaaGreat.Ways
open Go Go.Ex Go.RowKit Go.Turn
section
variable (cs : List Value) (t s n : Nat) (ex : Bool) (a e : Int)
end
section
variable {cs : List Value} {n : Nat} {e : Int}
theorem sL_nn {e : Int} (he : ex3 e) : ∀ {l : List Int}, (∀ x ∈ l, 0 ≤ x ∧ x ≤ 65536) → 0 ≤ sL e l
  | [], _ => Int.le_refl _
  | x :: l, h => by
    have h1 := sL_nn he fun y hy => h y (List.mem_cons_of_mem _ hy)
    have h2 := pwI_bd (e := e) (h x (List.mem_cons_self ..))
    show 0 ≤ pwI x e + sL e l
    omega
end
end Go.Proofs.YteemponkignnhaaGreat.Ways
set_option maxRecDepth 10000
noncomputable section
namespace Go.Proofs.YteemponkignnhaaGreat.Ways
open Go Go.Ex Go.RowKit Go.Turn
end Go.Proofs.YteemponkignnhaaGreat.Ways
set_option maxRecDepth 10000
noncomputable section
namespace Go.Proofs.YteemponkignnhaaGreat.Ways
open Go Go.Ex Go.RowKit Go.Turn
def eCy (a b c d : Int) : Int := if ixE a ≠ 0 then ixE a else if ixE b ≠ 0 then ixE b else if ldE c ≠ 0 then ldE c else if ldE d ≠ 0 then ldE d else if a < b ∧ c < d then 0 else 11
def spCk : ESpec := fun al css => match al, css with
  | [.agg ⟨[.int .i64 a, .int .i64 b, .int .i64 c, .int .i64 d]⟩], [] => some (True, i (eCy a b c d))
  | _, _ => none
theorem f5_eq (a b c d e : Int) : firstF (eI [i a, i b, i c, i d, i e]) 5 0 = if a ≠ 0 then a else if b ≠ 0 then b else if c ≠ 0 then c else if d ≠ 0 then d else if e ≠ 0 then e else 0 := rfl
theorem cCk : ∀ al css os p v, spCk al css = some (p, v) → p → Blks css os → (∀ cs ∈ css, cs.all Ex.flat = true) ∧ clean 6 v = true ∧ ∃ H', Sound Tryz.prog (gl + css.length) (.call 74 ⟨al⟩ (heapL (deads ++ os))) (.val v H') := by
  intro al css os p v hs hp hb
  unfold spCk at hs
  split at hs
  case h_2 => cases hs
  rename_i a b c d
  cases hs
  cases hb
  refine ⟨fun c hc => absurd hc List.not_mem_nil, rfl, ?_⟩
  have key : ∀ e, (l100 a b c d e).sel = some (i (firstF (eI [i (ixE a), i (ixE b), i (ldE c), i (ldE d), i e]) 5 0)) := fun e => by
    unfold l100
    rw [aV_sel (tru_iff.2 (okI5 _ _ _ _ _))]; rfl
  obtain ⟨H', h'⟩ := Out.vals_sel (x100 a b c d) (v := i (eCy a b c d)) (by
    rw [v100]
    unfold eCy
    by_cases h1 : a < b
    · rw [vb_t (by rw [ltF_eq]; exact decide_eq_true h1)]
      by_cases h2 : c < d
      · rw [vb_t (by rw [ltF_eq]; exact decide_eq_true h2), key, f5_eq, if_pos (show a < b ∧ c < d from ⟨h1, h2⟩)]; rfl
      · rw [vb_f (by rw [ltF_eq]; exact decide_eq_false h2), key, f5_eq, if_neg (show ¬ (a < b ∧ c < d) from fun h => h2 h.2)]; rfl
    · rw [vb_f (by rw [ltF_eq]; exact decide_eq_false h1), key, f5_eq, if_neg (show ¬ (a < b ∧ c < d) from fun h => h1 h.1)]; rfl)
  exact ⟨H', execO_sound (C := C100) tsX9 .none 60 _ _ h'⟩
noncomputable def TCk : Tb := ext TX9 74 (autoE spCk [] (heapL deads))
theorem tsCk {G : Nat} : TSound Tryz.prog G TCk := tsX9.auto cCk
def eCs (cs : List Value) (j : Nat) : Int := eCy (f_ cs j 0) (f_ cs j 1) (f_ cs j 2) (f_ cs j 3)
noncomputable def BEc : Code := bodyL Tryz.f73 2
noncomputable def CEc : Cfg := ⟨TCk, at_ [(73, 11), (73, 18)] .bool no_, on_ [(73, 12), (73, 13)], noL⟩
section
variable (cs : List Value) (t s n c : Nat) (ex : Bool)
def ShEc : Shape Int := ⟨21, fun j => ⟨[(1, fn 74), (8, sl 1 0 n c), (9, i n), (10, i j)], hpI cs t s ex⟩, fun k j => match k with
  | 0 => (.exit 0, ⟨[], hpI cs t s ex⟩)
  | _ => (.ret, ⟨[(4, i (eCs cs j.toNat))], hpI cs t s ex⟩)⟩
noncomputable def stEc (j : Int) : SS Int := .br (ltF j n) (askS (bnd_ j n c) <| askS (cF cs j) <| askS (tru True) <| .br (!eqF (eCs cs j.toNat) 0) (.done 3 [0, 1] 1) (.next 3 [0, 1] (wrapF .i64 (j + 1)))) (.done 2 [0, 1] 0)
noncomputable def KEc (r : Nat × Int) : Cfg := ⟨TCk, no_, off_, loopE noL 73 2 21 2 BEc ((ShEc cs t s n c ex).st 0).live ((ShEc cs t s n c ex).st 0).hp (finO (ShEc cs t s n c ex) r [0, 1])⟩
noncomputable def oEc (r : Nat × Int) : Out QRes := execO Tryz.prog 2 (KEc cs t s n c ex r) 60 (.call 73 ⟨[sl 1 0 n c, fn 74]⟩ (heapL (deads ++ [.cells cs t s ex])))
def vtEc (r : Nat × Int) : VT := .br (Nat.beq r.1 0) (.leaf (i 0)) (.br (Nat.beq r.1 1) (.leaf (i (eCs cs r.2.toNat))) .fail)
theorem vEc (r : Nat × Int) : (oEc cs t s n c ex r).vals = vtEc cs r := by kernel_rfl
theorem xEc (r : Nat × Int) : oEc cs t s n c ex r = (oEc cs t s n c ex r).fix := by kernel_rfl
end
section
variable {cs : List Value} {t s n c : Nat} {ex : Bool}
theorem LEc (h : cs.all Ex.flat = true) : Loop1 Tryz.prog 2 73 BEc (ShEc cs t s n c ex) 2 (stEc cs n c) (fun _ => True) :=
  .mk' (C := fun _ => CEc) (n := 60) (fun _ _ => tsCk) (fun _ _ => .none) (fun q ro _ => by kernel_rfl) (fun q ro _ => by kernel_rfl) (fun q => by kernel_rfl) (fun _ _ _ _ => trivial)
    (fun _ _ => hpI_flat h) (fun s j _ _ => by cases j <;> exact ⟨hpI_flat h, fun h => by cases h⟩)
def RunE (e : Nat → Int) (n : Nat) (r : Nat × Int) : Prop := (firstF e n 0 = 0 ∧ r = (0, (n : Int))) ∨ (firstF e n 0 ≠ 0 ∧ ∃ j : Nat, j < n ∧ r = (1, (j : Int)) ∧ e j = firstF e n 0 ∧ ∀ k, k < j → e k = 0)
theorem runEc (h : okF cs n c) : ∃ r, runS (stEc cs n c) (n + 1) 0 = some r ∧ RunE (eCs cs) n r := by
  obtain ⟨_, hc, hl, hk⟩ := h
  refine run_first (st := fun j => ((j : Nat) : Int)) (e := eCs cs) (a := 0) (b := fun _ => 1) n (fun j hj he => ?_) (fun j hj he => ?_) ?_
  · unfold stEc
    rw [br_t (by rw [ltF_eq]; simpa using hj), askS_sel (bnd_t hj hc), askS_sel (show cF cs (j : Int) = true from hk j hj), askS_sel (tru_iff.2 trivial), show ((j : Nat) : Int).toNat = j from rfl, br_f (by rw [eqF_d]; simp [he]), wsucc (by omega)]; rfl
  · unfold stEc
    rw [br_t (by rw [ltF_eq]; simpa using hj), askS_sel (bnd_t hj hc), askS_sel (show cF cs (j : Int) = true from hk j hj), askS_sel (tru_iff.2 trivial), show ((j : Nat) : Int).toNat = j from rfl, br_t (by rw [eqF_d]; simp [he])]; rfl
  · unfold stEc
    rw [br_f (by rw [ltF_eq]; simp)]; rfl
theorem vtEc_sel {r : Nat × Int} (h : RunE (eCs cs) n r) : (vtEc cs r).sel = some (i (firstF (eCs cs) n 0)) := by
  rcases h with ⟨h1, rfl⟩ | ⟨_, j, _, rfl, h2, _⟩
  · rw [h1]; rfl
  · rw [← h2]; rfl
end
def spEc : ESpec := fun al css => match al, css with
  | [.slice (some ⟨1, 0, none⟩) n c, .func (.func 74) ⟨[]⟩ ⟨[]⟩], [cs] => some (okF cs n c, i (firstF (eCs cs) n 0))
  | _, _ => none
theorem cEc : ∀ al css os p v, spEc al css = some (p, v) → p → Blks css os → (∀ cs ∈ css, cs.all Ex.flat = true) ∧ clean 6 v = true ∧ ∃ H', Sound Tryz.prog (gl + css.length) (.call 73 ⟨al⟩ (heapL (deads ++ os))) (.val v H') := by
  intro al css os p v hs hp hb
  unfold spEc at hs
  split at hs
  case h_2 => cases hs
  rename_i n c cs
  cases hs
  obtain ⟨t, s, ex, rfl⟩ := blks1 hb
  refine ⟨by simpa using hp.1, rfl, ?_⟩
  obtain ⟨r, hr, hv⟩ := runEc hp
  have hL := (LEc (t := t) (s := s) (n := n) (c := c) (ex := ex) hp.1).table (id := 2) .none (by decide) trivial hr (by kernel_rfl) [0, 1]
  obtain ⟨H', h'⟩ := Out.vals_sel (xEc cs t s n c ex r) (v := i (firstF (eCs cs) n 0)) (by rw [vEc]; exact vtEc_sel hv)
  exact ⟨H', execO_sound (C := KEc cs t s n c ex r) tsCk hL 60 _ _ h'⟩
noncomputable def TEc : Tb := ext TCk 73 (autoE spEc [] (heapL deads))
theorem tsEc {G : Nat} : TSound Tryz.prog G TEc := tsCk.auto cEc
def gcE (cs : List Value) (n : Nat) : Int := firstF (eCs cs) n 0
def okG (cs : List Value) (n c : Nat) : Prop := okF cs n c ∧ n ≤ 100
def spCC : ESpec := fun al css => match al, css with
  | [.slice (some ⟨1, 0, none⟩) n c], [cs] => some (okG cs n c, i (gcE cs n))
  | [.slice none 0 0], [] => some (True, i 0)
  | _, _ => none
noncomputable def oCC (cs : List Value) (t s n c : Nat) (ex : Bool) : Out QRes := execO Tryz.prog 2 ⟨TEc, no_, off_, noL⟩ 60 (.call 20 ⟨[sl 1 0 n c]⟩ (heapL (deads ++ [.cells cs t s ex])))
theorem vCC (cs : List Value) (t s n c : Nat) (ex : Bool) : (oCC cs t s n c ex).vals = (vP (okF cs n c) <| vP (okI [i (mnE n 40000), i (firstF (eCs cs) n 0)] 2 2) <| .leaf (i (fst2 (mnE n 40000) (firstF (eCs cs) n 0)))) := by kernel_rfl
theorem xCC (cs : List Value) (t s n c : Nat) (ex : Bool) : oCC cs t s n c ex = (oCC cs t s n c ex).fix := by kernel_rfl
noncomputable def oCCz : Out QRes := execO Tryz.prog 1 ⟨TEc, no_, off_, noL⟩ 60 (.call 20 ⟨[.slice none 0 0]⟩ (heapL (deads ++ [])))
theorem vCCz : oCCz.vals = (vP (okI [i 0, i 0] 2 2) <| .leaf (i 0)) := by kernel_rfl
theorem xCCz : oCCz = oCCz.fix := by kernel_rfl
theorem cCC : ∀ al css os p v, spCC al css = some (p, v) → p → Blks css os → (∀ cs ∈ css, cs.all Ex.flat = true) ∧ clean 6 v = true ∧ ∃ H', Sound Tryz.prog (gl + css.length) (.call 20 ⟨al⟩ (heapL (deads ++ os))) (.val v H') := by
  intro al css os p v hs hp hb
  unfold spCC at hs
  split at hs
  · rename_i n c cs
    cases hs
    obtain ⟨t, s, ex, rfl⟩ := blks1 hb
    refine ⟨by simpa using hp.1.1, rfl, ?_⟩
    have hm : mnE (n : Int) 40000 = 0 := if_pos (by have := hp.2; omega)
    obtain ⟨H', h'⟩ := Out.vals_sel (xCC cs t s n c ex) (v := i (gcE cs n)) (by
      rw [vCC, vP_sel hp.1, vP_sel (okI2 _ _), hm]
      show some (i (fst2 0 (gcE cs n))) = _
      rw [fst2_eq]
      by_cases h : gcE cs n = 0
      · rw [h]; rfl
      · rw [if_neg (by simp), if_pos h])
    exact ⟨H', execO_sound (C := ⟨TEc, no_, off_, noL⟩) tsEc .none 60 _ _ h'⟩
  · cases hs
    cases hb
    refine ⟨fun c hc => absurd hc List.not_mem_nil, rfl, ?_⟩
    obtain ⟨H', h'⟩ := Out.vals_sel xCCz (v := i 0) (by rw [vCCz, vP_sel (okI2 _ _)]; rfl)
    exact ⟨H', execO_sound (C := ⟨TEc, no_, off_, noL⟩) tsEc .none 60 _ _ h'⟩
  · cases hs
theorem e70_cy {cs : List Value} {j : Nat} : eCs cs j = if e70 cs j ≠ 0 then e70 cs j else if f_ cs j 0 < f_ cs j 1 ∧ f_ cs j 2 < f_ cs j 3 then 0 else 11 := by
  have he : e70 cs j = if ixE (f_ cs j 0) ≠ 0 then ixE (f_ cs j 0) else if ixE (f_ cs j 1) ≠ 0 then ixE (f_ cs j 1) else if ldE (f_ cs j 2) ≠ 0 then ldE (f_ cs j 2) else if ldE (f_ cs j 3) ≠ 0 then ldE (f_ cs j 3) else 0 := rfl
  rw [he]
  unfold eCs eCy
  repeat' split
  all_goals first | rfl | (exfalso; simp_all; done) | simp_all
section
variable {cs : List Value} {n c : Nat}
theorem run70g (h : okF cs n c) (hn : n < 1000000) : ∃ r, runS (st70 cs n c) (n + 1) 0 = some r ∧ ((firstF (eCs cs) n 0 = 0 ∧ r = (0, (n : Int))) ∨ (firstF (eCs cs) n 0 ≠ 0 ∧ ∃ j : Nat, j < n ∧ r = ((if e70 cs j ≠ 0 then 1 else 2 : Nat), (j : Int)) ∧ eCs cs j = firstF (eCs cs) n 0 ∧ ∀ k, k < j → eCs cs k = 0)) := by
  refine run_first (step := st70 cs n c) (st := fun j => ((j : Nat) : Int)) (e := eCs cs) (a := 0) (b := fun j => if e70 cs j ≠ 0 then 1 else 2) n (fun j hj he => ?_) (fun j hj he => ?_) ?_
  · rw [e70_cy] at he
    have h0 : e70 cs j = 0 := Classical.byContradiction fun hh => by rw [if_pos hh] at he; exact hh he
    rw [if_neg (by simp [h0])] at he
    have h1 : f_ cs j 0 < f_ cs j 1 ∧ f_ cs j 2 < f_ cs j 3 := Classical.byContradiction fun hh => by rw [if_neg hh] at he; cases he
    unfold st70
    rw [br_t (by rw [ltF_eq]; simpa using hj), a70_sel h hj 0 (by decide), a70_sel h hj 1 (by decide), a70_sel h hj 2 (by decide), a70_sel h hj 3 (by decide), show ((j : Nat) : Int).toNat = j from rfl,
      askS_sel (tru_iff.2 (okI4 _ _ _ _)), h0, br_f (by rfl), a70_sel h hj 0 (by decide), a70_sel h hj 1 (by decide), br_f (by rw [leF_eq]; exact decide_eq_false (by omega)),
      a70_sel h hj 2 (by decide), a70_sel h hj 3 (by decide), br_f (by rw [leF_eq]; exact decide_eq_false (by omega)), wsucc (by omega)]; rfl
  · rw [e70_cy] at he
    unfold st70
    rw [br_t (by rw [ltF_eq]; simpa using hj), a70_sel h hj 0 (by decide), a70_sel h hj 1 (by decide), a70_sel h hj 2 (by decide), a70_sel h hj 3 (by decide), show ((j : Nat) : Int).toNat = j from rfl,
      askS_sel (tru_iff.2 (okI4 _ _ _ _))]
    by_cases h0 : e70 cs j = 0
    · rw [if_neg (by simp [h0])] at he
      have h1 : ¬ (f_ cs j 0 < f_ cs j 1 ∧ f_ cs j 2 < f_ cs j 3) := fun hh => he (if_pos hh)
      rw [br_f (by rw [h0]; rfl), a70_sel h hj 0 (by decide), a70_sel h hj 1 (by decide), if_neg (by simp [h0])]
      by_cases h2 : f_ cs j 0 < f_ cs j 1
      · rw [br_f (by rw [leF_eq]; exact decide_eq_false (by omega)), a70_sel h hj 2 (by decide), a70_sel h hj 3 (by decide), br_t (by rw [leF_eq]; exact decide_eq_true (by have : ¬ f_ cs j 2 < f_ cs j 3 := fun hh => h1 ⟨h2, hh⟩
                                                                                                                                                                            omega))]; rfl
      · rw [br_t (by rw [leF_eq]; exact decide_eq_true (by omega))]; rfl
    · rw [br_t (by rw [eqF_d, decide_eq_false h0]; rfl), if_pos h0]; rfl
  · unfold st70
    rw [br_f (by rw [ltF_eq]; simp)]; rfl
end
noncomputable def o70z : Out QRes := execO Tryz.prog 1 ⟨TX9, no_, off_, noL⟩ 60 (.call 13 ⟨[.slice none 0 0]⟩ (heapL (deads ++ [])))
theorem v70z : o70z.vals = .leaf (i 0) := by kernel_rfl
theorem x70z : o70z = o70z.fix := by kernel_rfl
theorem cCR : ∀ al css os p v, spCC al css = some (p, v) → p → Blks css os → (∀ cs ∈ css, cs.all Ex.flat = true) ∧ clean 6 v = true ∧ ∃ H', Sound Tryz.prog (gl + css.length) (.call 13 ⟨al⟩ (heapL (deads ++ os))) (.val v H') := by
  intro al css os p v hs hp hb
  unfold spCC at hs
  split at hs
  · rename_i n c cs
    cases hs
    obtain ⟨t, s, ex, rfl⟩ := blks1 hb
    refine ⟨by simpa using hp.1.1, rfl, ?_⟩
    have hn := hp.2
    obtain ⟨r, hr, hv⟩ := run70g hp.1 (by omega)
    have hL := (L70 (t := t) (s := s) (n := n) (c := c) (ex := ex) hp.1.1).table (id := 4) .none (by decide) trivial hr (by kernel_rfl) [0, 1, 2]
    obtain ⟨H', h'⟩ := Out.vals_sel (x70 cs t s n c ex r) (v := i (gcE cs n)) (by
      rw [v70, vb_f (by rw [ltF_eq]; exact decide_eq_false (by omega))]
      rcases hv with ⟨h1, rfl⟩ | ⟨_, j, _, rfl, h2, _⟩
      · show some (i 0) = some (i (firstF (eCs cs) n 0))
        rw [h1]
      · show _ = some (i (firstF (eCs cs) n 0))
        rw [← h2, e70_cy]
        by_cases h0 : e70 cs j = 0
        · rw [if_neg (by simp [h0]), if_neg (by simp [h0])]
          rw [e70_cy, if_neg (by simp [h0])] at h2
          have h1 : ¬ (f_ cs j 0 < f_ cs j 1 ∧ f_ cs j 2 < f_ cs j 3) := fun hh => by
            rw [if_pos hh] at h2
            rename_i hne _ _
            exact hne h2.symm
          rw [if_neg h1]; rfl
        · rw [if_pos h0, if_pos h0]; rfl)
    exact ⟨H', execO_sound (C := K70 cs t s n c ex r) tsX9 hL 60 _ _ h'⟩
  · cases hs
    cases hb
    refine ⟨fun c hc => absurd hc List.not_mem_nil, rfl, ?_⟩
    obtain ⟨H', h'⟩ := Out.vals_sel x70z (v := i 0) (by rw [v70z]; rfl)
    exact ⟨H', execO_sound (C := ⟨TX9, no_, off_, noL⟩) tsX9 .none 60 _ _ h'⟩
  · cases hs
theorem gc_iff {cs : List Value} {n c : Nat} (h : okG cs n c) : gcE cs n = 0 ↔ GcE cs n c := by
  unfold gcE
  rw [firstF_zr]
  refine ⟨fun hh => ⟨h.1, by have := h.2; omega, fun j hj => ?_⟩, fun hh j hj => ?_⟩
  · have he := hh j hj
    rw [e70_cy] at he
    have h0 : e70 cs j = 0 := Classical.byContradiction fun hh => by rw [if_pos hh] at he; exact hh he
    rw [if_neg (by simp [h0])] at he
    have h1 : f_ cs j 0 < f_ cs j 1 ∧ f_ cs j 2 < f_ cs j 3 := Classical.byContradiction fun hh => by rw [if_neg hh] at he; cases he
    have he2 : (if ixE (f_ cs j 0) ≠ 0 then ixE (f_ cs j 0) else if ixE (f_ cs j 1) ≠ 0 then ixE (f_ cs j 1) else if ldE (f_ cs j 2) ≠ 0 then ldE (f_ cs j 2) else if ldE (f_ cs j 3) ≠ 0 then ldE (f_ cs j 3) else 0) = 0 := h0
    have g0 : ixE (f_ cs j 0) = 0 := Classical.byContradiction fun g => by rw [if_pos g] at he2; exact g he2
    rw [if_neg (by simp [g0])] at he2
    have g1 : ixE (f_ cs j 1) = 0 := Classical.byContradiction fun g => by rw [if_pos g] at he2; exact g he2
    rw [if_neg (by simp [g1])] at he2
    have g2 : ldE (f_ cs j 2) = 0 := Classical.byContradiction fun g => by rw [if_pos g] at he2; exact g he2
    rw [if_neg (by simp [g2])] at he2
    have g3 : ldE (f_ cs j 3) = 0 := Classical.byContradiction fun g => by rw [if_pos g] at he2; exact g he2
    exact ⟨rgE_zero g0, rgE_zero g1, rgE_zero g2, rgE_zero g3, h1.1, h1.2⟩
  · obtain ⟨b0, b1, b2, b3, l0, l2⟩ := hh.2.2 j hj
    have g0 : ixE (f_ cs j 0) = 0 := if_pos b0
    have g1 : ixE (f_ cs j 1) = 0 := if_pos b1
    have g2 : ldE (f_ cs j 2) = 0 := if_pos b2
    have g3 : ldE (f_ cs j 3) = 0 := if_pos b3
    unfold eCs eCy
    rw [if_neg (by simp [g0]), if_neg (by simp [g1]), if_neg (by simp [g2]), if_neg (by simp [g3]), if_pos ⟨l0, l2⟩]
end Go.Proofs.YteemponkignnhaaGreat.Ways
set_option maxRecDepth 10000
noncomputable section
namespace Go.Proofs.YteemponkignnhaaGreat.Ways
open Go Go.Ex Go.RowKit Go.Turn
noncomputable def BPw : Code := bodyL Tryz.f83 3
noncomputable def CPw : Cfg := ⟨noT, at_ [(83, 9)] .bool no_, off_, noL⟩
def hD1 : List (CO × Bool) := [(.dead, false)]
section
variable (n e : Int)
def ShPw : Shape (Int × Int) := ⟨16, fun q => ⟨[(0, i n), (1, i e), (5, i q.2), (6, i q.1)], hD1⟩, fun _ q => (.exit 0, ⟨[(5, i q.2)], hD1⟩)⟩
def stPw (q : Int × Int) : SS (Int × Int) := .br (ltF q.1 e) (.next 1 [0] (wrapF .i64 (q.1 + 1), wrapF .i64 (q.2 * n))) (.done 1 [0] 0)
end
def pwS (n : Int) : Nat → Int
  | 0 => 1
  | k + 1 => wrapF .i64 (pwS n k * n)
theorem hD1_flat : ∀ o, (o, true) ∈ hD1 → FlatO o := by
  intro o ho
  simp [hD1] at ho
theorem LPw {n e : Int} : Loop1 Tryz.prog 1 83 BPw (ShPw n e) 1 (stPw n e) (fun _ => True) :=
  .mk' (C := fun _ => CPw) (n := 60) (fun _ _ => .none) (fun _ _ => .none) (fun q ro _ => by kernel_rfl) (fun q ro _ => by kernel_rfl) (fun q => by kernel_rfl) (fun _ _ _ _ => trivial)
    (fun _ _ => hD1_flat) (fun _ _ _ _ => ⟨hD1_flat, fun h => by cases h⟩)
theorem runPw {n : Int} {k : Nat} (hk : k < 1000000) : runS (stPw n k) (k + 1) (0, 1) = some (0, ((k : Int), pwS n k)) :=
  run_all (step := stPw n k) (st := fun j => (((j : Nat) : Int), pwS n j)) (a := 0) k (fun j hj => by
    unfold stPw
    dsimp only
    rw [br_t (by rw [ltF_eq]; exact decide_eq_true (by omega)), wsucc (by omega)]; rfl) (by
    unfold stPw
    dsimp only
    rw [br_f (by rw [ltF_eq]; exact decide_eq_false (by omega))]; rfl)
noncomputable def oPw (n e : Int) (q : Int × Int) : Out QRes := execO Tryz.prog 1 ⟨noT, no_, off_, loopE noL 83 3 16 1 BPw ((ShPw n e).st (0, 1)).live ((ShPw n e).st (0, 1)).hp (finO (ShPw n e) (0, q) [0])⟩ 60 (.call 83 ⟨[i n, i e]⟩ (heapL (deads ++ [])))
theorem vPw (n e : Int) (q : Int × Int) : (oPw n e q).vals = .br true (.leaf (i q.2)) .fail := by kernel_rfl
theorem xPw (n e : Int) (q : Int × Int) : oPw n e q = (oPw n e q).fix := by kernel_rfl
def spPw : ESpec := fun al css => match al, css with
  | [.int .i64 n, .int .i64 e], [] => some (0 ≤ e ∧ e ≤ 1000, i (pwS n e.toNat))
  | _, _ => none
theorem cPw : ∀ al css os p v, spPw al css = some (p, v) → p → Blks css os → (∀ cs ∈ css, cs.all Ex.flat = true) ∧ clean 6 v = true ∧ ∃ H', Sound Tryz.prog (gl + css.length) (.call 83 ⟨al⟩ (heapL (deads ++ os))) (.val v H') := by
  intro al css os p v hs hp hb
  unfold spPw at hs
  split at hs
  case h_2 => cases hs
  rename_i n e
  cases hs
  cases hb
  refine ⟨fun c hc => absurd hc List.not_mem_nil, rfl, ?_⟩
  obtain ⟨k, rfl⟩ : ∃ k : Nat, e = k := ⟨e.toNat, by omega⟩
  have hL := (LPw (n := n) (e := (k : Int))).table (id := 3) (s0 := (0, 1)) .none (by decide) trivial (runPw (n := n) (k := k) (by omega)) (by kernel_rfl) [0]
  obtain ⟨H', h'⟩ := Out.vals_sel (xPw n k ((k : Int), pwS n k)) (v := i (pwS n k)) (by rw [vPw]; rfl)
  exact ⟨H', execO_sound (C := ⟨noT, no_, off_, _⟩) .none hL 60 _ _ h'⟩
theorem pwS_3 {x e : Int} (he : ex3 e) (hx : 0 ≤ x ∧ x ≤ 65536) : pwS x e.toNat = pwI x e := by
  have hb := pw_bd hx
  have e1 : wrapF .i64 (1 * x) = x := by rw [Int.one_mul, wrapF_in (by omega) (by omega)]
  have e2 : wrapF .i64 (x * x) = x * x := wrapF_in (by omega) (by omega)
  have e3 : wrapF .i64 (x * x * x) = x * x * x := wrapF_in (by omega) (by omega)
  rcases he with rfl | rfl | rfl
  · exact e1
  · show wrapF .i64 (wrapF .i64 (1 * x) * x) = x * x
    rw [e1, e2]
  · show wrapF .i64 (wrapF .i64 (wrapF .i64 (1 * x) * x) * x) = x * x * x
    rw [e1, e2, e3]
theorem pwS_2 : ∀ k : Nat, k ≤ 61 → pwS 2 k = 2 ^ k
  | 0, _ => rfl
  | k + 1, h => by
    have hp : (2 : Int) ^ k ≤ 2 ^ 60 := by
      have : (2 : Nat) ^ k ≤ 2 ^ 60 := Nat.pow_le_pow_right (by decide) (by omega)
      exact_mod_cast this
    have h0 : (0 : Int) < 2 ^ k := Int.pow_pos (by decide)
    have e60 : (2 : Int) ^ 60 = 1152921504606846976 := by decide
    show wrapF .i64 (pwS 2 k * 2) = 2 ^ (k + 1)
    rw [pwS_2 k (by omega), Int.pow_succ, wrapF_in (by omega) (by omega)]
noncomputable def oPl (a b : Int) : Out QRes := execO Tryz.prog 1 ⟨noT, at_ [(82, 6), (82, 9), (82, 15)] .bool no_, off_, noL⟩ 60 (.call 82 ⟨[i a, i b]⟩ (heapL (deads ++ [])))
theorem vPl (a b : Int) : (oPl a b).vals = (.br (ltF 1152921504606846976 a) (.leaf (i 1152921504606846977)) <| .br (ltF 1152921504606846976 b) (.leaf (i 1152921504606846977)) <| .br (ltF 1152921504606846976 (wrapF .i64 (a + b))) (.leaf (i 1152921504606846977)) (.leaf (i (wrapF .i64 (a + b))))) := by kernel_rfl
theorem xPl (a b : Int) : oPl a b = (oPl a b).fix := by kernel_rfl
def spPl : ESpec := fun al css => match al, css with
  | [.int .i64 a, .int .i64 b], [] => some (0 ≤ a ∧ 0 ≤ b ∧ a + b ≤ 1152921504606846976, i (a + b))
  | _, _ => none
theorem cPl : ∀ al css os p v, spPl al css = some (p, v) → p → Blks css os → (∀ cs ∈ css, cs.all Ex.flat = true) ∧ clean 6 v = true ∧ ∃ H', Sound Tryz.prog (gl + css.length) (.call 82 ⟨al⟩ (heapL (deads ++ os))) (.val v H') := by
  intro al css os p v hs hp hb
  unfold spPl at hs
  split at hs
  case h_2 => cases hs
  rename_i a b
  cases hs
  cases hb
  refine ⟨fun c hc => absurd hc List.not_mem_nil, rfl, ?_⟩
  have hw : wrapF .i64 (a + b) = a + b := wrapF_in (by omega) (by omega)
  obtain ⟨H', h'⟩ := Out.vals_sel (xPl a b) (v := i (a + b)) (by
    rw [vPl, vb_f (by rw [ltF_eq]; exact decide_eq_false (by omega)), vb_f (by rw [ltF_eq]; exact decide_eq_false (by omega)), hw, vb_f (by rw [ltF_eq]; exact decide_eq_false (by omega))]; rfl)
  exact ⟨H', execO_sound (C := ⟨noT, at_ [(82, 6), (82, 9), (82, 15)] .bool no_, off_, noL⟩) .none .none 60 _ _ h'⟩
noncomputable def oCh (a : Int) : Out QRes := execO Tryz.prog 1 ⟨noT, at_ [(30, 5)] .bool no_, off_, noL⟩ 60 (.call 30 ⟨[i a]⟩ (heapL (deads ++ [])))
theorem vCh (a : Int) : (oCh a).vals = .br (ltF 1152921504606846976 a) (.leaf (tp [i 0, i 4])) (.leaf (tp [i a, i 0])) := by kernel_rfl
theorem xCh (a : Int) : oCh a = (oCh a).fix := by kernel_rfl
def spCh : ESpec := fun al css => match al, css with
  | [.int .i64 a], [] => some (a ≤ 1152921504606846976, tp [i a, i 0])
  | _, _ => none
theorem cCh : ∀ al css os p v, spCh al css = some (p, v) → p → Blks css os → (∀ cs ∈ css, cs.all Ex.flat = true) ∧ clean 6 v = true ∧ ∃ H', Sound Tryz.prog (gl + css.length) (.call 30 ⟨al⟩ (heapL (deads ++ os))) (.val v H') := by
  intro al css os p v hs hp hb
  unfold spCh at hs
  split at hs
  case h_2 => cases hs
  rename_i a
  cases hs
  cases hb
  refine ⟨fun c hc => absurd hc List.not_mem_nil, rfl, ?_⟩
  obtain ⟨H', h'⟩ := Out.vals_sel (xCh a) (v := tp [i a, i 0]) (by rw [vCh, vb_f (by rw [ltF_eq]; exact decide_eq_false (by omega))]; rfl)
  exact ⟨H', execO_sound (C := ⟨noT, at_ [(30, 5)] .bool no_, off_, noL⟩) .none .none 60 _ _ h'⟩
noncomputable def oNm (a b c d : Int) : Out QRes := execO Tryz.prog 1 ⟨noT, at_ [(22, 11), (22, 14), (22, 17), (22, 21), (22, 25)] .bool no_, off_, noL⟩ 60 (.call 22 ⟨[i a, i b, i c, i d]⟩ (heapL (deads ++ [])))
theorem vNm (a b c d : Int) : (oNm a b c d).vals = (.br (eqF b c) (.br (!eqF c 0) (.br (eqF a 0) (.leaf (b_ true)) (.br (eqF c 0) (.br (eqF a d) (.leaf (b_ true)) (.leaf (b_ false))) (.leaf (b_ false)))) (.br (eqF c 0) (.br (eqF a d) (.leaf (b_ true)) (.leaf (b_ false))) (.leaf (b_ false)))) (.leaf (b_ false))) := by kernel_rfl
theorem xNm (a b c d : Int) : oNm a b c d = (oNm a b c d).fix := by kernel_rfl
def spNm : ESpec := fun al css => match al, css with
  | [.int .i64 a, .int .i64 b, .int .i64 c, .int .i64 d], [] => some (b = c ∧ (c ≠ 0 → a = 0) ∧ (c = 0 → a = d), b_ true)
  | _, _ => none
theorem cNm : ∀ al css os p v, spNm al css = some (p, v) → p → Blks css os → (∀ cs ∈ css, cs.all Ex.flat = true) ∧ clean 6 v = true ∧ ∃ H', Sound Tryz.prog (gl + css.length) (.call 22 ⟨al⟩ (heapL (deads ++ os))) (.val v H') := by
  intro al css os p v hs hp hb
  unfold spNm at hs
  split at hs
  case h_2 => cases hs
  rename_i a b c d
  cases hs
  cases hb
  refine ⟨fun c hc => absurd hc List.not_mem_nil, rfl, ?_⟩
  obtain ⟨rfl, h1, h2⟩ := hp
  obtain ⟨H', h'⟩ := Out.vals_sel (xNm a b b d) (v := b_ true) (by
    rw [vNm, vb_t (by rw [eqF_d]; exact decide_eq_true rfl)]
    by_cases hb : b = 0
    · rw [vb_f (by rw [eqF_d, decide_eq_true hb]; rfl), vb_t (by rw [eqF_d]; exact decide_eq_true hb), vb_t (by rw [eqF_d]; exact decide_eq_true (h2 hb))]; rfl
    · rw [vb_t (by rw [eqF_d, decide_eq_false hb]; rfl), vb_t (by rw [eqF_d]; exact decide_eq_true (h1 hb))]; rfl)
  exact ⟨H', execO_sound (C := ⟨noT, at_ [(22, 11), (22, 14), (22, 17), (22, 21), (22, 25)] .bool no_, off_, noL⟩) .none .none 60 _ _ h'⟩
noncomputable def oWi (n e q : Int) : Out QRes := execO Tryz.prog 1 ⟨noT, no_, on_ [(86, 15)], noL⟩ 60 (.call 86 ⟨[i n, i e, i q]⟩ (heapL (deads ++ [])))
def qW (q n : Int) : Int := wrapF .i64 (q.tdiv n)
theorem vWi_1 (n q : Int) : (oWi n 1 q).vals = aV (!eqF n 0) (.leaf (b_ (leF 1 (qW q n)))) := by kernel_rfl
theorem vWi_2 (n q : Int) : (oWi n 2 q).vals = (aV (!eqF n 0) <| aV (!eqF n 0) <| .leaf (b_ (leF 1 (qW (qW q n) n)))) := by kernel_rfl
theorem vWi_3 (n q : Int) : (oWi n 3 q).vals = (aV (!eqF n 0) <| aV (!eqF n 0) <| aV (!eqF n 0) <| .leaf (b_ (leF 1 (qW (qW (qW q n) n) n)))) := by kernel_rfl
theorem xWi_1 (n q : Int) : oWi n 1 q = (oWi n 1 q).fix := by kernel_rfl
theorem xWi_2 (n q : Int) : oWi n 2 q = (oWi n 2 q).fix := by kernel_rfl
theorem xWi_3 (n q : Int) : oWi n 3 q = (oWi n 3 q).fix := by kernel_rfl
theorem qW_eq {q n : Int} (hn : 1 ≤ n) (h0 : 0 ≤ q) (h1 : q ≤ 1152921504606846976) : qW q n = q / n ∧ 0 ≤ q / n ∧ q / n ≤ 1152921504606846976 := by
  have a0 : 0 ≤ q / n := Int.ediv_nonneg h0 (by omega)
  have a1 : q / n ≤ q := Int.ediv_le_self _ h0
  refine ⟨?_, a0, by omega⟩
  unfold qW
  rw [Int.tdiv_eq_ediv_of_nonneg h0, wrapF_in (by omega) (by omega)]
def spWi : ESpec := fun al css => match al, css with
  | [.int .i64 n, .int .i64 e, .int .i64 q], [] => some (ex3 e ∧ 1 ≤ n ∧ 0 ≤ q ∧ q ≤ 1152921504606846976, b_ (leF (pwI n e) q))
  | _, _ => none
theorem cWi : ∀ al css os p v, spWi al css = some (p, v) → p → Blks css os → (∀ cs ∈ css, cs.all Ex.flat = true) ∧ clean 6 v = true ∧ ∃ H', Sound Tryz.prog (gl + css.length) (.call 86 ⟨al⟩ (heapL (deads ++ os))) (.val v H') := by
  intro al css os p v hs hp hb
  unfold spWi at hs
  split at hs
  case h_2 => cases hs
  rename_i n e q
  cases hs
  cases hb
  refine ⟨fun c hc => absurd hc List.not_mem_nil, rfl, ?_⟩
  obtain ⟨he, hn, h0, h1⟩ := hp
  obtain ⟨q1, a1, a2⟩ := qW_eq hn h0 h1
  obtain ⟨q2, b1, b2⟩ := qW_eq hn a1 a2
  obtain ⟨q3, _, _⟩ := qW_eq hn b1 b2
  have hz : (!eqF n 0) = true := by rw [eqF_d, decide_eq_false (by omega)]; rfl
  have key : ∀ {x : Int}, (1 ≤ x / n ↔ n ≤ x) := fun {x} => by rw [Int.le_ediv_iff_mul_le (by omega), Int.one_mul]
  have key2 : ∀ {x y : Int}, (y ≤ x / n ↔ y * n ≤ x) := fun {x y} => Int.le_ediv_iff_mul_le (by omega)
  rcases he with rfl | rfl | rfl
  · obtain ⟨H', h'⟩ := Out.vals_sel (xWi_1 n q) (v := b_ (leF (pwI n 1) q)) (by
      rw [vWi_1, aV_sel hz, q1]
      show some (b_ (leF 1 (q / n))) = some (b_ (leF n q))
      rw [leF_eq, leF_eq]
      congr 3
      exact propext key)
    exact ⟨H', execO_sound (C := ⟨noT, no_, on_ [(86, 15)], noL⟩) .none .none 60 _ _ h'⟩
  · obtain ⟨H', h'⟩ := Out.vals_sel (xWi_2 n q) (v := b_ (leF (pwI n 2) q)) (by
      rw [vWi_2, aV_sel hz, aV_sel hz, q1, q2]
      show some (b_ (leF 1 (q / n / n))) = some (b_ (leF (n * n) q))
      rw [leF_eq, leF_eq]
      congr 3
      exact propext (key.trans key2))
    exact ⟨H', execO_sound (C := ⟨noT, no_, on_ [(86, 15)], noL⟩) .none .none 60 _ _ h'⟩
  · obtain ⟨H', h'⟩ := Out.vals_sel (xWi_3 n q) (v := b_ (leF (pwI n 3) q)) (by
      rw [vWi_3, aV_sel hz, aV_sel hz, aV_sel hz, q1, q2, q3]
      show some (b_ (leF 1 (q / n / n / n))) = some (b_ (leF (n * n * n) q))
      rw [leF_eq, leF_eq]
      congr 3
      exact propext (key.trans (key2.trans key2)))
    exact ⟨H', execO_sound (C := ⟨noT, no_, on_ [(86, 15)], noL⟩) .none .none 60 _ _ h'⟩
end Go.Proofs.YteemponkignnhaaGreat.Ways
set_option maxRecDepth 10000
noncomputable section
namespace Go.Proofs.YteemponkignnhaaGreat.Ways
open Go Go.Ex Go.RowKit Go.Turn
noncomputable def TDc : Tb := ext (ext noT 83 (autoE spPw [] (heapL deads))) 82 (autoE spPl [] (heapL deads))
theorem tsDc {G : Nat} : TSound Tryz.prog G TDc := (TSound.none.auto cPw).auto cPl
noncomputable def BDmR : Code := bodyL Tryz.f31 3
noncomputable def BHfR : Code := bodyL Tryz.f32 3
noncomputable def CDmR : Cfg := ⟨TDc, at_ [(31, 10)] .bool no_, on_ [(31, 16), (31, 18), (31, 21), (31, 23)], noL⟩
noncomputable def CHfR : Cfg := ⟨ext TDc 71 (pureE s89 [] Hd), at_ [(32, 10)] .bool no_, on_ [(32, 16), (32, 18), (32, 22), (32, 24)], noL⟩
theorem tsHf {G : Nat} : TSound Tryz.prog G (ext TDc 71 (pureE s89 [] Hd)) := TSound.pure hd_vars tsDc fun args v h => by
  unfold s89 at h
  split at h
  · cases h; exact p89 _
  · cases h
def okPl (a b : Int) : Prop := 0 ≤ a ∧ 0 ≤ b ∧ a + b ≤ 1152921504606846976
section
variable (cs : List Value) (t s n c : Nat) (ex : Bool) (e : Int)
def ShDm : Shape (Int × Int) := ⟨29, fun q => ⟨[(0, sl 1 0 n c), (1, i e), (5, i q.2), (6, i q.1)], hpI cs t s ex⟩, fun _ q => (.exit 0, ⟨[(5, i q.2)], hpI cs t s ex⟩)⟩
noncomputable def stDm (q : Int × Int) : SS (Int × Int) := .br (ltF q.1 n) (askS (bnd_ q.1 n c) <| askS (c1F cs q.1 3) <| askS (bnd_ q.1 n c) <| askS (c1F cs q.1 2) <| askS (tru (0 ≤ e ∧ e ≤ 1000)) <| askS (tru (okPl q.2 (pwS (szI cs q.1.toNat) e.toNat))) <| .next 2 [0, 1] (wrapF .i64 (q.1 + 1), q.2 + pwS (szI cs q.1.toNat) e.toNat)) (.done 2 [0, 1] 0)
noncomputable def KDm (q : Int × Int) : Cfg := ⟨TDc, no_, off_, loopE noL 31 3 29 2 BDmR ((ShDm cs t s n c ex e).st (0, 0)).live ((ShDm cs t s n c ex e).st (0, 0)).hp (finO (ShDm cs t s n c ex e) (0, q) [0])⟩
noncomputable def oDm (q : Int × Int) : Out QRes := execO Tryz.prog 2 (KDm cs t s n c ex e q) 60 (.call 31 ⟨[sl 1 0 n c, i e]⟩ (heapL (deads ++ [.cells cs t s ex])))
theorem vDmR (q : Int × Int) : (oDm cs t s n c ex e q).vals = .br true (.leaf (i q.2)) .fail := by kernel_rfl
theorem xDmR (q : Int × Int) : oDm cs t s n c ex e q = (oDm cs t s n c ex e q).fix := by kernel_rfl
noncomputable def oDmz : Out QRes := execO Tryz.prog 1 ⟨noT, no_, off_, noL⟩ 60 (.call 31 ⟨[.slice none 0 0, i e]⟩ (heapL (deads ++ [])))
theorem vDmz : (oDmz e).vals = .leaf (i 0) := by kernel_rfl
theorem xDmz : oDmz e = (oDmz e).fix := by kernel_rfl
def dfR (j : Int) : Int := ad (pB cs j.toNat) (pB cs (wrapF .i64 (j - 1)).toNat)
def ShHf : Shape (Int × Int) := ⟨31, fun q => ⟨[(0, sl 1 0 n c), (1, i e), (5, i q.2), (6, i q.1)], hpI cs t s ex⟩, fun _ q => (.exit 0, ⟨[(5, i q.2)], hpI cs t s ex⟩)⟩
noncomputable def stHf (q : Int × Int) : SS (Int × Int) := .br (ltF q.1 n) (askS (bnd_ q.1 n c) <| askS (cB2 cs q.1) <| askS (bnd_ (wrapF .i64 (q.1 - 1)) n c) <| askS (cB2 cs (wrapF .i64 (q.1 - 1))) <| askS (tru (0 ≤ e ∧ e ≤ 1000)) <| askS (tru (okPl q.2 (pwS (dfR cs q.1) e.toNat))) <| .next 2 [0, 1] (wrapF .i64 (q.1 + 1), q.2 + pwS (dfR cs q.1) e.toNat)) (.done 2 [0, 1] 0)
noncomputable def KHf (q : Int × Int) : Cfg := ⟨ext TDc 71 (pureE s89 [] Hd), no_, off_, loopE noL 32 3 31 2 BHfR ((ShHf cs t s n c ex e).st (1, 0)).live ((ShHf cs t s n c ex e).st (1, 0)).hp (finO (ShHf cs t s n c ex e) (0, q) [0])⟩
noncomputable def oHf (q : Int × Int) : Out QRes := execO Tryz.prog 2 (KHf cs t s n c ex e q) 60 (.call 32 ⟨[sl 1 0 n c, i e]⟩ (heapL (deads ++ [.cells cs t s ex])))
theorem vHfR (q : Int × Int) : (oHf cs t s n c ex e q).vals = .br true (.leaf (i q.2)) .fail := by kernel_rfl
theorem xHfR (q : Int × Int) : oHf cs t s n c ex e q = (oHf cs t s n c ex e q).fix := by kernel_rfl
noncomputable def oHfz : Out QRes := execO Tryz.prog 1 ⟨noT, no_, off_, noL⟩ 60 (.call 32 ⟨[.slice none 0 0, i e]⟩ (heapL (deads ++ [])))
theorem vHfz : (oHfz e).vals = .leaf (i 0) := by kernel_rfl
theorem xHfz : oHfz e = (oHfz e).fix := by kernel_rfl
end
section
variable {cs : List Value} {t s n c : Nat} {ex : Bool} {e : Int}
theorem LDmR (h : cs.all Ex.flat = true) : Loop1 Tryz.prog 2 31 BDmR (ShDm cs t s n c ex e) 2 (stDm cs n c e) (fun _ => True) :=
  .mk' (C := fun _ => CDmR) (n := 60) (fun _ _ => tsDc) (fun _ _ => .none) (fun q ro _ => by kernel_rfl) (fun q ro _ => by kernel_rfl) (fun q => by kernel_rfl) (fun _ _ _ _ => trivial)
    (fun _ _ => hpI_flat h) (fun _ _ _ _ => ⟨hpI_flat h, fun h => by cases h⟩)
theorem LHfR (h : cs.all Ex.flat = true) : Loop1 Tryz.prog 2 32 BHfR (ShHf cs t s n c ex e) 2 (stHf cs n c e) (fun _ => True) :=
  .mk' (C := fun _ => CHfR) (n := 60) (fun _ _ => tsHf) (fun _ _ => .none) (fun q ro _ => by kernel_rfl) (fun q ro _ => by kernel_rfl) (fun q => by kernel_rfl) (fun _ _ _ _ => trivial)
    (fun _ _ => hpI_flat h) (fun _ _ _ _ => ⟨hpI_flat h, fun h => by cases h⟩)
theorem c1F_t {k : Nat} (h : okF cs n c) {j : Nat} (hj : j < n) (hk : k < 4) : c1F cs (j : Int) k = true := by
  have h1 := h.2.2.2 j hj
  unfold c1F
  rw [show ((j : Nat) : Int).toNat = j from rfl]
  unfold k4 areCells areCells areCells areCells at h1
  rw [Bool.and_eq_true, Bool.and_eq_true, Bool.and_eq_true, Bool.and_eq_true] at h1
  match k, hk with
  | 0, _ => exact h1.1
  | 1, _ => exact h1.2.1
  | 2, _ => exact h1.2.2.1
  | 3, _ => exact h1.2.2.2.1
theorem sL_rng {g : Nat → Int} {e : Int} (he : ex3 e) (h : ∀ j, j < 100 → j < n → 0 ≤ g j ∧ g j ≤ 65536) : ∀ k, k ≤ n → k ≤ 100 → 0 ≤ sL e ((List.range k).map g) ∧ sL e ((List.range k).map g) ≤ 281474976710656 * k
  | 0, _, _ => ⟨Int.le_refl _, Int.le_refl _⟩
  | k + 1, h1, h2 => by
    obtain ⟨a1, a2⟩ := sL_rng he h k (by omega) (by omega)
    have hg := h k (by omega) (by omega)
    have hb := pwI_bd (e := e) hg
    rw [List.range_succ, List.map_append, sL_app]
    show 0 ≤ _ + (pwI (g k) e + 0) ∧ _ + (pwI (g k) e + 0) ≤ _
    omega
theorem runDm (h : GcE cs n c) (hn : n ≤ 100) (he : ex3 e) : runS (stDm cs n c e) (n + 1) (0, 0) = some (0, ((n : Int), sL e (rgs cs n))) := by
  have he' : 0 ≤ e ∧ e ≤ 1000 := by rcases he with rfl | rfl | rfl <;> omega
  have hb : ∀ j, j < n → 0 ≤ szI cs j ∧ szI cs j ≤ 65536 := fun j hj => rgs_bd h _ (List.mem_map.2 ⟨j, List.mem_range.2 hj, rfl⟩)
  refine run_all (step := stDm cs n c e) (st := fun j => (((j : Nat) : Int), sL e (rgs cs j))) (a := 0) n (fun j hj => ?_) ?_
  · have hs : sL e (rgs cs (j + 1)) = sL e (rgs cs j) + pwI (szI cs j) e := by
      unfold rgs
      rw [List.range_succ, List.map_append, sL_app]
      show _ + (pwI (szI cs j) e + 0) = _
      omega
    have hr := sL_rng (g := szI cs) he (fun k _ hk => hb k hk) j (by omega) (by omega)
    have hp := pwI_bd (e := e) (hb j hj)
    unfold stDm
    dsimp only
    rw [br_t (by rw [ltF_eq]; exact decide_eq_true (by omega)), askS_sel (bnd_t hj h.1.2.1), askS_sel (c1F_t h.1 hj (by decide)), askS_sel (bnd_t hj h.1.2.1), askS_sel (c1F_t h.1 hj (by decide)), askS_sel (tru_iff.2 he'), show ((j : Nat) : Int).toNat = j from rfl, pwS_3 he (hb j hj),
      askS_sel (tru_iff.2 (show okPl (sL e (rgs cs j)) (pwI (szI cs j) e) from ⟨hr.1, hp.1, by have : sL e (rgs cs j) ≤ 281474976710656 * (j : Int) := hr.2; omega⟩)), wsucc (by omega), ← hs]; rfl
  · unfold stDm
    dsimp only
    rw [br_f (by rw [ltF_eq]; exact decide_eq_false (by omega))]; rfl
theorem runHf (h : okP cs n c) (hn : n ≤ 100) (he : ex3 e) (hb : ∀ j, j < n → -32768 ≤ pB cs j ∧ pB cs j ≤ 32768) : runS (stHf cs n c e) (n - 1 + 1) (1, 0) = some (0, (((n - 1 + 1 : Nat) : Int), sL e (dfs cs (n - 1)))) := by
  have he' : 0 ≤ e ∧ e ≤ 1000 := by rcases he with rfl | rfl | rfl <;> omega
  have hd : ∀ j, j < n - 1 → 0 ≤ dfI cs j ∧ dfI cs j ≤ 65536 := fun j hj => dfs_bd (n := n - 1) (fun k _ => hb k (by omega)) _ (List.mem_map.2 ⟨j, List.mem_range.2 hj, rfl⟩)
  refine run_all (step := stHf cs n c e) (st := fun j => (((j + 1 : Nat) : Int), sL e (dfs cs j))) (a := 0) (n - 1) (fun j hj => ?_) ?_
  · have hs : sL e (dfs cs (j + 1)) = sL e (dfs cs j) + pwI (dfI cs j) e := by
      unfold dfs
      rw [List.range_succ, List.map_append, sL_app]
      show _ + (pwI (dfI cs j) e + 0) = _
      omega
    have hr := sL_rng (g := dfI cs) (n := n - 1) he (fun k _ hk => hd k hk) j (by omega) (by omega)
    have hp := pwI_bd (e := e) (hd j hj)
    have hw : wrapF .i64 (((j + 1 : Nat) : Int) - 1) = (j : Int) := by
      rw [wrapF_in (by omega) (by omega)]; omega
    have hdf : dfR cs ((j + 1 : Nat) : Int) = dfI cs j := by
      unfold dfR dfI
      rw [hw, ad_eq, show (((j + 1 : Nat) : Int)).toNat = j + 1 from rfl, show ((j : Nat) : Int).toNat = j from rfl]
      unfold difQ maxQ
      split <;> split <;> omega
    unfold stHf
    dsimp only
    rw [br_t (by rw [ltF_eq]; exact decide_eq_true (by omega)), askS_sel (bnd_t (by omega) h.2.1), askS_sel (cB2_t h (by omega)), hw, askS_sel (bnd_t (by omega) h.2.1), askS_sel (cB2_t h (by omega)), askS_sel (tru_iff.2 he'), hdf, pwS_3 he (hd j hj),
      askS_sel (tru_iff.2 (show okPl (sL e (dfs cs j)) (pwI (dfI cs j) e) from ⟨hr.1, hp.1, by have : sL e (dfs cs j) ≤ 281474976710656 * (j : Int) := hr.2; omega⟩)), wsucc (by omega), ← hs]; rfl
  · unfold stHf
    dsimp only
    rw [br_f (by rw [ltF_eq]; exact decide_eq_false (by omega))]; rfl
end
def spDm : ESpec := fun al css => match al, css with
  | [.slice (some ⟨1, 0, none⟩) n c, .int .i64 e], [cs] => some (GcE cs n c ∧ n ≤ 100 ∧ ex3 e, i (sL e (rgs cs n)))
  | [.slice none 0 0, .int .i64 _], [] => some (True, i 0)
  | _, _ => none
theorem cDm : ∀ al css os p v, spDm al css = some (p, v) → p → Blks css os → (∀ cs ∈ css, cs.all Ex.flat = true) ∧ clean 6 v = true ∧ ∃ H', Sound Tryz.prog (gl + css.length) (.call 31 ⟨al⟩ (heapL (deads ++ os))) (.val v H') := by
  intro al css os p v hs hp hb
  unfold spDm at hs
  split at hs
  · rename_i n c e cs
    cases hs
    obtain ⟨t, s, ex, rfl⟩ := blks1 hb
    obtain ⟨h1, h2, h3⟩ := hp
    refine ⟨by simpa using h1.1.1, rfl, ?_⟩
    have hL := (LDmR (t := t) (s := s) (n := n) (c := c) (ex := ex) (e := e) h1.1.1).table (id := 3) (s0 := (0, 0)) .none (by decide) trivial (runDm h1 h2 h3) (by kernel_rfl) [0]
    obtain ⟨H', h'⟩ := Out.vals_sel (xDmR cs t s n c ex e ((n : Int), sL e (rgs cs n))) (v := i (sL e (rgs cs n))) (by rw [vDmR]; rfl)
    exact ⟨H', execO_sound (C := KDm cs t s n c ex e ((n : Int), sL e (rgs cs n))) tsDc hL 60 _ _ h'⟩
  · rename_i e
    cases hs
    cases hb
    refine ⟨fun c hc => absurd hc List.not_mem_nil, rfl, ?_⟩
    obtain ⟨H', h'⟩ := Out.vals_sel (xDmz e) (v := i 0) (by rw [vDmz]; rfl)
    exact ⟨H', execO_sound (C := ⟨noT, no_, off_, noL⟩) .none .none 60 _ _ h'⟩
  · cases hs
def spHf : ESpec := fun al css => match al, css with
  | [.slice (some ⟨1, 0, none⟩) n c, .int .i64 e], [cs] => some (okP cs n c ∧ n ≤ 100 ∧ ex3 e ∧ (∀ j, j < n → -32768 ≤ pB cs j ∧ pB cs j ≤ 32768), i (sL e (dfs cs (n - 1))))
  | [.slice none 0 0, .int .i64 _], [] => some (True, i 0)
  | _, _ => none
theorem cHf : ∀ al css os p v, spHf al css = some (p, v) → p → Blks css os → (∀ cs ∈ css, cs.all Ex.flat = true) ∧ clean 6 v = true ∧ ∃ H', Sound Tryz.prog (gl + css.length) (.call 32 ⟨al⟩ (heapL (deads ++ os))) (.val v H') := by
  intro al css os p v hs hp hb
  unfold spHf at hs
  split at hs
  · rename_i n c e cs
    cases hs
    obtain ⟨t, s, ex, rfl⟩ := blks1 hb
    obtain ⟨h1, h2, h3, h4⟩ := hp
    refine ⟨by simpa using h1.1, rfl, ?_⟩
    have hL := (LHfR (t := t) (s := s) (n := n) (c := c) (ex := ex) (e := e) h1.1).table (id := 3) (s0 := (1, 0)) .none (by decide) trivial (runHf h1 h2 h3 h4) (by kernel_rfl) [0]
    obtain ⟨H', h'⟩ := Out.vals_sel (xHfR cs t s n c ex e (((n - 1 + 1 : Nat) : Int), sL e (dfs cs (n - 1)))) (v := i (sL e (dfs cs (n - 1)))) (by rw [vHfR]; rfl)
    exact ⟨H', execO_sound (C := KHf cs t s n c ex e (((n - 1 + 1 : Nat) : Int), sL e (dfs cs (n - 1)))) tsHf hL 60 _ _ h'⟩
  · rename_i e
    cases hs
    cases hb
    refine ⟨fun c hc => absurd hc List.not_mem_nil, rfl, ?_⟩
    obtain ⟨H', h'⟩ := Out.vals_sel (xHfz e) (v := i 0) (by rw [vHfz]; rfl)
    exact ⟨H', execO_sound (C := ⟨noT, no_, off_, noL⟩) .none .none 60 _ _ h'⟩
  · cases hs
end Go.Proofs.YteemponkignnhaaGreat.Ways
set_option maxRecDepth 10000
noncomputable section
namespace Go.Proofs.YteemponkignnhaaGreat.Ways
open Go Go.Ex Go.RowKit Go.Turn
noncomputable def TDd : Tb := ext (ext (ext (ext TDc 31 (autoE spDm [] (heapL deads))) 30 (autoE spCh [] (heapL deads))) 86 (autoE spWi [] (heapL deads))) 83 (autoE spPw [] (heapL deads))
theorem tsDd {G : Nat} : TSound Tryz.prog G TDd := (((tsDc.auto cDm).auto cCh).auto cWi).auto cPw
noncomputable def BEq : Code := bodyL Tryz.f34 6
noncomputable def CEq : Cfg := ⟨TDd, at_ [(34, 23), (34, 34)] .bool no_, on_ [(34, 33)], noL⟩
section
variable (cs : List Value) (t s n c : Nat) (ex : Bool) (e N d : Int)
def ShEq : Shape (Int × Int) := ⟨40, fun q => ⟨[(1, i e), (2, i N), (8, i d), (10, i q.2), (11, i q.1)], hpI cs t s ex⟩, fun _ q => (.exit 0, ⟨[(10, i q.2)], hpI cs t s ex⟩)⟩
def okWi (e x q : Int) : Prop := ex3 e ∧ 1 ≤ x ∧ 0 ≤ q ∧ q ≤ 1152921504606846976
noncomputable def stEq (q : Int × Int) : SS (Int × Int) := .br (leF 0 q.1) (askS (tru (0 ≤ q.1 ∧ q.1 ≤ 1000)) <| askS (!eqF N 0) <| askS (tru (okWi e (wrapF .i64 (q.2 + pwS 2 q.1.toNat)) (qW d N))) <|
  .br (leF (pwI (wrapF .i64 (q.2 + pwS 2 q.1.toNat)) e) (qW d N)) (askS (tru (0 ≤ q.1 ∧ q.1 ≤ 1000)) <| .next 2 [0, 1] (wrapF .i64 (q.1 - 1), wrapF .i64 (q.2 + pwS 2 q.1.toNat))) (.next 2 [0, 1] (wrapF .i64 (q.1 - 1), q.2))) (.done 2 [0, 1] 0)
noncomputable def KEq (q : Int × Int) : Cfg := ⟨TDd, no_, off_, loopE noL 34 6 40 2 BEq ((ShEq cs t s ex e N (sL e (rgs cs n))).st (60, 0)).live ((ShEq cs t s ex e N (sL e (rgs cs n))).st (60, 0)).hp (finO (ShEq cs t s ex e N (sL e (rgs cs n))) (0, q) [0])⟩
noncomputable def oEq (q : Int × Int) : Out QRes := execO Tryz.prog 2 (KEq cs t s n ex e N q) 60 (.call 34 ⟨[sl 1 0 n c, i e, i N]⟩ (heapL (deads ++ [.cells cs t s ex])))
theorem vEq_ (q : Int × Int) : (oEq cs t s n c ex e N q).vals = (vP (GcE cs n c ∧ n ≤ 100 ∧ ex3 e) <| vP (sL e (rgs cs n) ≤ 1152921504606846976) <| .br true (.leaf (tp [i q.2, i 0])) .fail) := by kernel_rfl
theorem xEq_ (q : Int × Int) : oEq cs t s n c ex e N q = (oEq cs t s n c ex e N q).fix := by kernel_rfl
end
noncomputable def obQ (q e : Int) : Nat → Int
  | 0 => 0
  | k + 1 => if pwI (obQ q e k + 2 ^ (60 - k)) e ≤ q then obQ q e k + 2 ^ (60 - k) else obQ q e k
theorem two_pos (k : Nat) : (1 : Int) ≤ 2 ^ k := by
  have : (0 : Int) < 2 ^ k := Int.pow_pos (by decide)
  omega
theorem two_succ (k : Nat) : (2 : Int) ^ (k + 1) = 2 ^ k + 2 ^ k := by rw [Int.pow_succ]; omega
theorem ob_inv {q e : Int} (he : ex3 e) (h0 : 0 ≤ q) (h1 : q ≤ 1152921504606846976) : ∀ k, k ≤ 61 → 0 ≤ obQ q e k ∧ obQ q e k + 2 ^ (61 - k) ≤ 2305843009213693952 ∧ pwI (obQ q e k) e ≤ q ∧ q < pwI (obQ q e k + 2 ^ (61 - k)) e
  | 0, _ => by
    have e61 : (2 : Int) ^ 61 = 2305843009213693952 := by decide
    have hp : pwI 0 e = 0 := by rcases he with rfl | rfl | rfl <;> rfl
    refine ⟨Int.le_refl _, by show (0 : Int) + 2 ^ 61 ≤ _; omega, by show pwI 0 e ≤ q; omega, ?_⟩
    show q < pwI (0 + 2 ^ 61) e
    rw [Int.zero_add, e61]
    rcases he with rfl | rfl | rfl
    · show q < 2305843009213693952; omega
    · show q < 2305843009213693952 * 2305843009213693952; omega
    · show q < 2305843009213693952 * 2305843009213693952 * 2305843009213693952; omega
  | k + 1, h => by
    obtain ⟨a1, a2, a3, a4⟩ := ob_inv he h0 h1 k (by omega)
    have e1 : (2 : Int) ^ (61 - k) = 2 ^ (60 - k) + 2 ^ (60 - k) := by
      rw [show 61 - k = (60 - k) + 1 from by omega]; exact two_succ _
    have e2 : 61 - (k + 1) = 60 - k := by omega
    have hp := two_pos (60 - k)
    have ho : obQ q e (k + 1) = if pwI (obQ q e k + 2 ^ (60 - k)) e ≤ q then obQ q e k + 2 ^ (60 - k) else obQ q e k := rfl
    rw [e2, ho]
    by_cases hc : pwI (obQ q e k + 2 ^ (60 - k)) e ≤ q
    · rw [if_pos hc]
      refine ⟨by omega, by omega, hc, ?_⟩
      rw [show obQ q e k + 2 ^ (60 - k) + 2 ^ (60 - k) = obQ q e k + 2 ^ (61 - k) from by omega]
      exact a4
    · rw [if_neg hc]
      exact ⟨a1, by omega, a3, by omega⟩
theorem ob_rt {q e : Int} (he : ex3 e) (h0 : 0 ≤ q) (h1 : q ≤ 1152921504606846976) : obQ q e 61 = rtI q e := by
  obtain ⟨a1, _, a3, a4⟩ := ob_inv he h0 h1 61 (Nat.le_refl _)
  exact (rt_eq he ⟨a1, a3, a4⟩).symm
section
variable {cs : List Value} {t s n c : Nat} {ex : Bool} {e N d : Int}
theorem LEq (h : cs.all Ex.flat = true) : Loop1 Tryz.prog 2 34 BEq (ShEq cs t s ex e N d) 2 (stEq e N d) (fun _ => True) :=
  .mk' (C := fun _ => CEq) (n := 60) (fun _ _ => tsDd) (fun _ _ => .none) (fun q ro _ => by kernel_rfl) (fun q ro _ => by kernel_rfl) (fun q => by kernel_rfl) (fun _ _ _ _ => trivial)
    (fun _ _ => hpI_flat h) (fun _ _ _ _ => ⟨hpI_flat h, fun h => by cases h⟩)
theorem runEq (he : ex3 e) (hN : 1 ≤ N) (h0 : 0 ≤ d) (h1 : d ≤ 1152921504606846976) : runS (stEq e N d) 62 (60, 0) = some (0, ((-1 : Int), rtI (d / N) e)) := by
  obtain ⟨q1, b0, b1⟩ := qW_eq hN h0 h1
  have hz : (!eqF N 0) = true := by rw [eqF_d, decide_eq_false (by omega)]; rfl
  have key := run_all (step := stEq e N d) (st := fun k => ((60 - (k : Int)), obQ (d / N) e k)) (a := 0) 61 (fun k hk => ?_) ?_
  · rw [show ((60 : Int) - ((0 : Nat) : Int)) = 60 from by omega] at key
    rw [ob_rt he b0 b1, show ((60 : Int) - ((61 : Nat) : Int)) = -1 from by omega] at key
    exact key
  · obtain ⟨a1, a2, a3, a4⟩ := ob_inv he b0 b1 k (by omega)
    have hp := two_pos (60 - k)
    have e1 : (2 : Int) ^ (61 - k) = 2 ^ (60 - k) + 2 ^ (60 - k) := by
      rw [show 61 - k = (60 - k) + 1 from by omega]; exact two_succ _
    have hn : (60 - (k : Int)).toNat = 60 - k := by omega
    have hw : wrapF .i64 (obQ (d / N) e k + 2 ^ (60 - k)) = obQ (d / N) e k + 2 ^ (60 - k) := wrapF_in (by omega) (by omega)
    have hj : 0 ≤ 60 - (k : Int) ∧ 60 - (k : Int) ≤ 1000 := by omega
    have hs : wrapF .i64 (60 - (k : Int) - 1) = 60 - ((k + 1 : Nat) : Int) := by rw [wrapF_in (by omega) (by omega)]; omega
    unfold stEq
    dsimp only
    rw [br_t (by rw [leF_eq]; exact decide_eq_true (by omega)), askS_sel (tru_iff.2 hj), askS_sel hz, hn, pwS_2 _ (by omega), hw, q1, askS_sel (tru_iff.2 (show okWi e (obQ (d / N) e k + 2 ^ (60 - k)) (d / N) from ⟨he, by omega, b0, b1⟩)), hs]
    by_cases hc : pwI (obQ (d / N) e k + 2 ^ (60 - k)) e ≤ d / N
    · rw [br_t (by rw [leF_eq]; exact decide_eq_true hc), askS_sel (tru_iff.2 hj), show obQ (d / N) e (k + 1) = obQ (d / N) e k + 2 ^ (60 - k) from if_pos hc]; rfl
    · rw [br_f (by rw [leF_eq]; exact decide_eq_false hc), show obQ (d / N) e (k + 1) = obQ (d / N) e k from if_neg hc]; rfl
  · unfold stEq
    dsimp only
    rw [br_f (by rw [leF_eq]; exact decide_eq_false (by omega))]; rfl
end
end Go.Proofs.YteemponkignnhaaGreat.Ways
set_option maxRecDepth 10000
noncomputable section
namespace Go.Proofs.YteemponkignnhaaGreat.Ways
open Go Go.Ex Go.RowKit Go.Turn
noncomputable def TCk2 : Tb := ext (ext (ext TEc 20 (autoE spCC [] (heapL deads))) 61 (autoE sp18 [] (heapL deads))) 79 (autoE sp13 [] (heapL deads))
theorem tsCk2 {G : Nat} : TSound Tryz.prog G TCk2 := ((tsEc.auto cCC).auto c18).auto c15
theorem f2_nz {a b : Int} : fst2 a b = 0 ↔ a = 0 ∧ b = 0 := by
  rw [fst2_eq]
  by_cases ha : a = 0
  · rw [if_neg (by simp [ha])]
    by_cases hb : b = 0
    · rw [if_neg (by simp [hb])]; simp [ha, hb]
    · rw [if_pos hb]; simp [hb]
  · rw [if_pos ha]; simp [ha]
theorem ex3_of {e : Int} (h : rgE e 1 3 = 0) : ex3 e := by
  have := rgE_zero h
  unfold ex3; omega
noncomputable def Cer : Cfg := ⟨TCk2, at_ [(23, 14), (24, 14), (25, 14), (27, 20)] .bool (at_ [(23, 16), (24, 16), (25, 16), (27, 23)] (.ints []) no_), off_, noL⟩
section
variable (cs : List Value) (t s n c : Nat) (ex : Bool) (e N : Int)
noncomputable def oE1 : Out QRes := execO Tryz.prog 2 Cer 60 (.call 23 ⟨[sl 1 0 n c, i e]⟩ (heapL (deads ++ [.cells cs t s ex])))
noncomputable def oE1z : Out QRes := execO Tryz.prog 1 Cer 60 (.call 23 ⟨[.slice none 0 0, i e]⟩ (heapL (deads ++ [])))
noncomputable def oE2 : Out QRes := execO Tryz.prog 2 Cer 60 (.call 24 ⟨[sl 1 0 n c, i e]⟩ (heapL (deads ++ [.cells cs t s ex])))
noncomputable def oE3 : Out QRes := execO Tryz.prog 2 Cer 60 (.call 25 ⟨[sl 1 0 n c, i e]⟩ (heapL (deads ++ [.cells cs t s ex])))
noncomputable def oE4 : Out QRes := execO Tryz.prog 2 Cer 60 (.call 27 ⟨[sl 1 0 n c, i e, i N]⟩ (heapL (deads ++ [.cells cs t s ex])))
noncomputable def oE4z : Out QRes := execO Tryz.prog 1 Cer 60 (.call 27 ⟨[.slice none 0 0, i e, i N]⟩ (heapL (deads ++ [])))
noncomputable def erV (p : Prop) (a e : Int) : VT := .br (tru p) (.br (tru (okI [i a, i (rgE e 1 3)] 2 2)) (.br (!eqF (fst2 a (rgE e 1 3)) 0) (.leaf (tp [i 0, i (fst2 a (rgE e 1 3))])) .fail) .fail) .fail
noncomputable def erU (a e N : Int) : VT := .br (!eqF (er48 e N a) 0) (.leaf (tp [i 0, i (er48 e N a)])) .fail
theorem vE1 : (oE1 cs t s n c ex e).vals = erV (okG cs n c) (gcE cs n) e := by kernel_rfl
theorem xE1 : oE1 cs t s n c ex e = (oE1 cs t s n c ex e).fix := by kernel_rfl
theorem vE1z : (oE1z e).vals = erV True 0 e := by kernel_rfl
theorem xE1z : oE1z e = (oE1z e).fix := by kernel_rfl
theorem vE2 : (oE2 cs t s n c ex e).vals = erV (BokE cs n c) (crE cs n) e := by kernel_rfl
theorem xE2 : oE2 cs t s n c ex e = (oE2 cs t s n c ex e).fix := by kernel_rfl
theorem vE3 : (oE3 cs t s n c ex e).vals = erV (okI cs n c) (clE cs n) e := by kernel_rfl
theorem xE3 : oE3 cs t s n c ex e = (oE3 cs t s n c ex e).fix := by kernel_rfl
theorem vE4 : (oE4 cs t s n c ex e N).vals = (vP (okG cs n c) <| vP (okI [i (gcE cs n), i (rgE e 1 3), i (rgE N 1 999999999)] 3 3) <| erU (gcE cs n) e N) := by kernel_rfl
theorem xE4 : oE4 cs t s n c ex e N = (oE4 cs t s n c ex e N).fix := by kernel_rfl
theorem vE4z : (oE4z e N).vals = (vP True <| vP (okI [i 0, i (rgE e 1 3), i (rgE N 1 999999999)] 3 3) <| erU 0 e N) := by kernel_rfl
theorem xE4z : oE4z e N = (oE4z e N).fix := by kernel_rfl
end
end Go.Proofs.YteemponkignnhaaGreat.Ways
set_option maxRecDepth 10000
noncomputable section
namespace Go.Proofs.YteemponkignnhaaGreat.Ways
open Go Go.Ex Go.RowKit Go.Turn
def iz (a v : Int) : Int := if a = 0 then v else 0
noncomputable def TEzD : Tb := ext TCk2 76 (autoE sp79 [] (heapL deads))
theorem tsEzD {G : Nat} : TSound Tryz.prog G TEzD := tsCk2.auto c79
noncomputable def CEzD : Cfg := ⟨TEzD, at_ [(24, 14), (25, 14)] .bool no_, off_, noL⟩
section
variable (cs : List Value) (t s : Nat) (ex : Bool) (e : Int)
noncomputable def oH0 : Out QRes := execO Tryz.prog 1 CEzD 90 (.call 24 ⟨[.slice none 0 0, i e]⟩ (heapL (deads ++ [])))
noncomputable def oT0 : Out QRes := execO Tryz.prog 2 CEzD 90 (.call 25 ⟨[sl 1 0 0 0, i e]⟩ (heapL (deads ++ [.cells cs t s ex])))
noncomputable def er0 (e : Int) : VT := .br (tru (okI [i 0, i (rgE e 1 3)] 2 2)) (.br (!eqF (fst2 0 (rgE e 1 3)) 0) (.leaf (tp [i 0, i (fst2 0 (rgE e 1 3))])) (.leaf (tp [i 0, i 0]))) .fail
theorem vH0 : (oH0 e).vals = er0 e := by kernel_rfl
theorem xH0 : oH0 e = (oH0 e).fix := by kernel_rfl
theorem vT0 : (oT0 cs t s ex e).vals = vP (okI cs 0 0) (er0 e) := by kernel_rfl
theorem xT0 : oT0 cs t s ex e = (oT0 cs t s ex e).fix := by kernel_rfl
end
theorem er0_sel (e : Int) : (er0 e).sel = some (tp [i 0, i (fst2 0 (rgE e 1 3))]) := by
  unfold er0
  rw [show (VT.br (tru (okI [i 0, i (rgE e 1 3)] 2 2)) (.br (!eqF (fst2 0 (rgE e 1 3)) 0) (.leaf (tp [i 0, i (fst2 0 (rgE e 1 3))])) (.leaf (tp [i 0, i 0]))) .fail) = vP (okI [i 0, i (rgE e 1 3)] 2 2) (.br (!eqF (fst2 0 (rgE e 1 3)) 0) (.leaf (tp [i 0, i (fst2 0 (rgE e 1 3))])) (.leaf (tp [i 0, i 0]))) from rfl, vP_sel (okI2 _ _)]
  by_cases h : fst2 0 (rgE e 1 3) = 0
  · rw [vb_f (by rw [eqF_d, decide_eq_true h]; rfl), h]; rfl
  · rw [vb_t (by rw [eqF_d, decide_eq_false h]; rfl)]; rfl
theorem erV_sel {p : Prop} {a e : Int} (hp : p) (h : fst2 a (rgE e 1 3) ≠ 0) : (erV p a e).sel = some (tp [i (0 : Int), i (fst2 a (rgE e 1 3))]) := by
  refine (vP_sel hp).trans ((vP_sel (okI2 _ _)).trans ?_)
  rw [vb_t (by rw [eqF_d, decide_eq_false h]; rfl)]; rfl
noncomputable def spD1 : ESpec := fun al css => match al, css with
  | [.slice (some ⟨1, 0, none⟩) n c, .int .i64 e], [cs] => some (okG cs n c, tp [i (iz (fst2 (gcE cs n) (rgE e 1 3)) (sL e (rgs cs n))), i (fst2 (gcE cs n) (rgE e 1 3))])
  | [.slice none 0 0, .int .i64 e], [] => some (True, tp [i 0, i (fst2 0 (rgE e 1 3))])
  | _, _ => none
theorem cD1 : ∀ al css os p v, spD1 al css = some (p, v) → p → Blks css os → (∀ cs ∈ css, cs.all Ex.flat = true) ∧ clean 6 v = true ∧ ∃ H', Sound Tryz.prog (gl + css.length) (.call 23 ⟨al⟩ (heapL (deads ++ os))) (.val v H') := by
  intro al css os p v hs hp hb
  unfold spD1 at hs
  split at hs
  · rename_i n c e cs
    cases hs
    by_cases h : fst2 (gcE cs n) (rgE e 1 3) = 0
    · obtain ⟨h1, h2⟩ := f2_nz.1 h
      have := c44 [sl 1 0 n c, i e] [cs] os _ _ rfl ⟨(gc_iff hp).1 h1, hp.2, ex3_of h2⟩ hb
      rw [h, show iz 0 (sL e (rgs cs n)) = sL e (rgs cs n) from rfl]
      exact this
    · obtain ⟨t, s, ex, rfl⟩ := blks1 hb
      refine ⟨by simpa using hp.1.1, rfl, ?_⟩
      rw [show iz (fst2 (gcE cs n) (rgE e 1 3)) (sL e (rgs cs n)) = 0 from if_neg h]
      obtain ⟨H', h'⟩ := Out.vals_sel (xE1 cs t s n c ex e) ((congrArg VT.sel (vE1 cs t s n c ex e)).trans (erV_sel hp h))
      exact ⟨H', execO_sound (C := Cer) tsCk2 .none 60 _ _ h'⟩
  · rename_i e
    cases hs
    by_cases h : fst2 0 (rgE e 1 3) = 0
    · obtain ⟨_, h2⟩ := f2_nz.1 h
      have := c44 [.slice none 0 0, i e] [] os _ _ rfl (ex3_of h2) hb
      rw [h]
      exact this
    · cases hb
      refine ⟨fun c hc => absurd hc List.not_mem_nil, rfl, ?_⟩
      obtain ⟨H', h'⟩ := Out.vals_sel (xE1z e) ((congrArg VT.sel (vE1z e)).trans (erV_sel trivial h))
      exact ⟨H', execO_sound (C := Cer) tsCk2 .none 60 _ _ h'⟩
  · cases hs
theorem cr_bd {cs : List Value} {n : Nat} (hn : n ≤ 40000) (h : crE cs n = 0) : ∀ j, j < n → -32768 ≤ pB cs j ∧ pB cs j ≤ 32768 := fun j hj => by
  have hl : j < (pts cs n).length := by rw [pts_len]; exact hj
  have := ((cr_rev hn).1 h).bd _ (List.mem_reverse.2 (List.getElem_mem hl))
  rw [pts_at cs hl] at this
  exact this.2.2
noncomputable def spD2 : ESpec := fun al css => match al, css with
  | [.slice (some ⟨1, 0, none⟩) n c, .int .i64 e], [cs] => some (BokE cs n c ∧ n ≤ 100 ∧ 1 ≤ n, tp [i (iz (fst2 (crE cs n) (rgE e 1 3)) (sL e (dfs cs (n - 1)))), i (fst2 (crE cs n) (rgE e 1 3))])
  | [.slice none 0 0, .int .i64 e], [] => some (True, tp [i 0, i (fst2 0 (rgE e 1 3))])
  | _, _ => none
theorem cD2 : ∀ al css os p v, spD2 al css = some (p, v) → p → Blks css os → (∀ cs ∈ css, cs.all Ex.flat = true) ∧ clean 6 v = true ∧ ∃ H', Sound Tryz.prog (gl + css.length) (.call 24 ⟨al⟩ (heapL (deads ++ os))) (.val v H') := by
  intro al css os p v hs hp hb
  unfold spD2 at hs
  split at hs
  · rename_i n c e cs
    cases hs
    obtain ⟨p1, p2, p3⟩ := hp
    by_cases h : fst2 (crE cs n) (rgE e 1 3) = 0
    · obtain ⟨h1, h2⟩ := f2_nz.1 h
      have := c45 [sl 1 0 n c, i e] [cs] os _ _ rfl ⟨p1, h1, ex3_of h2, p3, p2, cr_bd (by omega) h1⟩ hb
      rw [h, show iz 0 (sL e (dfs cs (n - 1))) = sL e (dfs cs (n - 1)) from rfl]
      exact this
    · obtain ⟨t, s, ex, rfl⟩ := blks1 hb
      refine ⟨by simpa using p1.1.1, rfl, ?_⟩
      rw [show iz (fst2 (crE cs n) (rgE e 1 3)) (sL e (dfs cs (n - 1))) = 0 from if_neg h]
      obtain ⟨H', h'⟩ := Out.vals_sel (xE2 cs t s n c ex e) ((congrArg VT.sel (vE2 cs t s n c ex e)).trans (erV_sel p1 h))
      exact ⟨H', execO_sound (C := Cer) tsCk2 .none 60 _ _ h'⟩
  · rename_i e
    cases hs
    cases hb
    refine ⟨fun c hc => absurd hc List.not_mem_nil, rfl, ?_⟩
    obtain ⟨H', h'⟩ := Out.vals_sel (xH0 e) ((congrArg VT.sel (vH0 e)).trans (er0_sel e))
    exact ⟨H', execO_sound (C := CEzD) tsEzD .none 90 _ _ h'⟩
  · cases hs
noncomputable def spD3 : ESpec := fun al css => match al, css with
  | [.slice (some ⟨1, 0, none⟩) n c, .int .i64 e], [cs] => some (c = n ∧ okI cs n n ∧ cs.length = n ∧ n ≤ 24, tp [i (iz (fst2 (clE cs n) (rgE e 1 3)) (cond (Nat.beq n 0) 0 (vT cs n e))), i (fst2 (clE cs n) (rgE e 1 3))])
  | _, _ => none
theorem cD3 : ∀ al css os p v, spD3 al css = some (p, v) → p → Blks css os → (∀ cs ∈ css, cs.all Ex.flat = true) ∧ clean 6 v = true ∧ ∃ H', Sound Tryz.prog (gl + css.length) (.call 25 ⟨al⟩ (heapL (deads ++ os))) (.val v H') := by
  intro al css os p v hs hp hb
  unfold spD3 at hs
  split at hs
  case h_2 => cases hs
  rename_i n c e cs
  cases hs
  obtain ⟨rfl, p1, p2, p3⟩ := hp
  by_cases hz : c = 0
  · subst hz
    obtain ⟨t, s, ex, rfl⟩ := blks1 hb
    refine ⟨by simpa using p1.1, rfl, ?_⟩
    have h0 : clE cs 0 = 0 := rfl
    rw [h0, show iz (fst2 0 (rgE e 1 3)) (cond (Nat.beq 0 0) 0 (vT cs 0 e)) = 0 by unfold iz; split <;> rfl]
    obtain ⟨H', h'⟩ := Out.vals_sel (xT0 cs t s ex e) ((congrArg VT.sel (vT0 cs t s ex e)).trans ((vP_sel p1).trans (er0_sel e)))
    exact ⟨H', execO_sound (C := CEzD) tsEzD .none 90 _ _ h'⟩
  · have hb0 : Nat.beq c 0 = false := by
      cases c with
      | zero => exact absurd rfl hz
      | succ _ => rfl
    rw [hb0]
    by_cases h : fst2 (clE cs c) (rgE e 1 3) = 0
    · obtain ⟨h1, h2⟩ := f2_nz.1 h
      have := c43 [sl 1 0 c c, i e] [cs] os _ _ rfl ⟨rfl, ⟨p1, p2, by omega, p3, h1, by omega⟩, ex3_of h2⟩ hb
      rw [h, show iz 0 (cond false 0 (vT cs c e)) = vT cs c e from rfl]
      exact this
    · obtain ⟨t, s, ex, rfl⟩ := blks1 hb
      refine ⟨by simpa using p1.1, rfl, ?_⟩
      rw [show iz (fst2 (clE cs c) (rgE e 1 3)) (cond false 0 (vT cs c e)) = 0 from if_neg h]
      obtain ⟨H', h'⟩ := Out.vals_sel (xE3 cs t s c c ex e) ((congrArg VT.sel (vE3 cs t s c c ex e)).trans (erV_sel p1 h))
      exact ⟨H', execO_sound (C := Cer) tsCk2 .none 60 _ _ h'⟩
theorem er48_nz {e N a : Int} : er48 e N a = 0 ↔ a = 0 ∧ rgE e 1 3 = 0 ∧ rgE N 1 999999999 = 0 := by
  have : er48 e N a = if a ≠ 0 then a else if rgE e 1 3 ≠ 0 then rgE e 1 3 else if rgE N 1 999999999 ≠ 0 then rgE N 1 999999999 else 0 := rfl
  rw [this]
  by_cases ha : a = 0
  · rw [if_neg (by simp [ha])]
    by_cases hb : rgE e 1 3 = 0
    · rw [if_neg (by simp [hb])]
      by_cases hc : rgE N 1 999999999 = 0
      · rw [if_neg (by simp [hc])]; simp [ha, hb, hc]
      · rw [if_pos hc]; simp [hc]
    · rw [if_pos hb]; simp [hb]
  · rw [if_pos ha]; simp [ha]
noncomputable def spD4 : ESpec := fun al css => match al, css with
  | [.slice (some ⟨1, 0, none⟩) n c, .int .i64 e, .int .i64 N], [cs] => some (okG cs n c, tp [i (iz (er48 e N (gcE cs n)) (rtI ((sL e (rgs cs n)).tdiv N) e)), i (er48 e N (gcE cs n))])
  | [.slice none 0 0, .int .i64 e, .int .i64 N], [] => some (True, tp [i (iz (er48 e N 0) (rtI ((0 : Int).tdiv N) e)), i (er48 e N 0)])
  | _, _ => none
theorem cD4 : ∀ al css os p v, spD4 al css = some (p, v) → p → Blks css os → (∀ cs ∈ css, cs.all Ex.flat = true) ∧ clean 6 v = true ∧ ∃ H', Sound Tryz.prog (gl + css.length) (.call 27 ⟨al⟩ (heapL (deads ++ os))) (.val v H') := by
  intro al css os p v hs hp hb
  have erU_sel : ∀ {a e N : Int}, er48 e N a ≠ 0 → (erU a e N).sel = some (tp [i (0 : Int), i (er48 e N a)]) := fun h => by
    unfold erU
    rw [vb_t (by rw [eqF_d, decide_eq_false h]; rfl)]; rfl
  unfold spD4 at hs
  split at hs
  · rename_i n c e N cs
    cases hs
    by_cases h : er48 e N (gcE cs n) = 0
    · obtain ⟨h1, h2, h3⟩ := er48_nz.1 h
      have hN := rgE_zero h3
      have := c48 [sl 1 0 n c, i e, i N] [cs] os _ _ rfl ⟨(gc_iff hp).1 h1, hp.2, ex3_of h2, hN.1, hN.2⟩ hb
      rw [h, show iz 0 (rtI ((sL e (rgs cs n)).tdiv N) e) = rtI ((sL e (rgs cs n)).tdiv N) e from rfl]
      exact this
    · obtain ⟨t, s, ex, rfl⟩ := blks1 hb
      refine ⟨by simpa using hp.1.1, rfl, ?_⟩
      rw [show iz (er48 e N (gcE cs n)) (rtI ((sL e (rgs cs n)).tdiv N) e) = 0 from if_neg h]
      obtain ⟨H', h'⟩ := Out.vals_sel (xE4 cs t s n c ex e N) ((congrArg VT.sel (vE4 cs t s n c ex e N)).trans ((vP_sel hp).trans ((vP_sel (okI3 _ _ _)).trans (erU_sel h))))
      exact ⟨H', execO_sound (C := Cer) tsCk2 .none 60 _ _ h'⟩
  · rename_i e N
    cases hs
    by_cases h : er48 e N 0 = 0
    · obtain ⟨_, h2, h3⟩ := er48_nz.1 h
      have hN := rgE_zero h3
      have := c48 [.slice none 0 0, i e, i N] [] os _ _ rfl ⟨ex3_of h2, hN.1, hN.2⟩ hb
      rw [h, show iz 0 (rtI ((0 : Int).tdiv N) e) = rtI ((0 : Int).tdiv N) e from rfl]
      exact this
    · cases hb
      refine ⟨fun c hc => absurd hc List.not_mem_nil, rfl, ?_⟩
      rw [show iz (er48 e N 0) (rtI ((0 : Int).tdiv N) e) = 0 from if_neg h]
      obtain ⟨H', h'⟩ := Out.vals_sel (xE4z e N) ((congrArg VT.sel (vE4z e N)).trans ((vP_sel trivial).trans ((vP_sel (okI3 _ _ _)).trans (erU_sel h))))
      exact ⟨H', execO_sound (C := Cer) tsCk2 .none 60 _ _ h'⟩
  · cases hs
end Go.Proofs.YteemponkignnhaaGreat.Ways
set_option maxRecDepth 10000
noncomputable section
namespace Go.Proofs.YteemponkignnhaaGreat.Ways
open Go Go.Ex Go.RowKit Go.Turn
noncomputable def spEq : ESpec := fun al css => match al, css with
  | [.slice (some ⟨1, 0, none⟩) n c, .int .i64 e, .int .i64 N], [cs] => some (GcE cs n c ∧ n ≤ 100 ∧ ex3 e ∧ 1 ≤ N, tp [i (rtI ((sL e (rgs cs n)).tdiv N) e), i 0])
  | _, _ => none
theorem sL_G {cs : List Value} {n c : Nat} {e : Int} (h : GcE cs n c) (hn : n ≤ 100) (he : ex3 e) : 0 ≤ sL e (rgs cs n) ∧ sL e (rgs cs n) ≤ 281474976710656 * n :=
  sL_rng (g := szI cs) (n := n) he (fun j _ hj => rgs_bd h _ (List.mem_map.2 ⟨j, List.mem_range.2 hj, rfl⟩)) n (Nat.le_refl _) hn
theorem cEq : ∀ al css os p v, spEq al css = some (p, v) → p → Blks css os → (∀ cs ∈ css, cs.all Ex.flat = true) ∧ clean 6 v = true ∧ ∃ H', Sound Tryz.prog (gl + css.length) (.call 34 ⟨al⟩ (heapL (deads ++ os))) (.val v H') := by
  intro al css os p v hs hp hb
  unfold spEq at hs
  split at hs
  case h_2 => cases hs
  rename_i n c e N cs
  cases hs
  obtain ⟨t, s, ex, rfl⟩ := blks1 hb
  obtain ⟨h1, h2, h3, h4⟩ := hp
  refine ⟨by simpa using h1.1.1, rfl, ?_⟩
  have hb := sL_G h1 h2 h3
  have hr := runEq (e := e) (N := N) (d := sL e (rgs cs n)) h3 h4 hb.1 (by omega)
  have hL := (LEq (t := t) (s := s) (ex := ex) (e := e) (N := N) (d := sL e (rgs cs n)) h1.1.1).table (id := 6) (s0 := (60, 0)) .none (by decide) trivial hr (by kernel_rfl) [0]
  obtain ⟨H', h'⟩ := Out.vals_sel (xEq_ cs t s n c ex e N ((-1 : Int), rtI (sL e (rgs cs n) / N) e)) (v := tp [i (rtI ((sL e (rgs cs n)).tdiv N) e), i 0]) (by
    rw [vEq_, vP_sel ⟨h1, h2, h3⟩, vP_sel (by omega), Int.tdiv_eq_ediv_of_nonneg hb.1]; rfl)
  exact ⟨H', execO_sound (C := KEq cs t s n ex e N ((-1 : Int), rtI (sL e (rgs cs n) / N) e)) tsDd hL 60 _ _ h'⟩
noncomputable def TTw (z f : Bool) : Tb := ext (ext (ext (ext (ext noT 31 (autoE spDm [] (heapL deads))) 32 (autoE spHf [] (heapL deads))) 82 (autoE spPl [] (heapL deads))) 85 (newE (sp14 z) [] (heapL deads))) 84 (twoE (sp24 f) [] (heapL deads))
theorem c14 (z : Bool) : ∀ al css os p v, sp14 z al css = some (p, v) → p → Blks css os → (∀ cs ∈ css, cs.all Ex.flat = true) ∧ v.Ok Tryz.prog 85 al deads os (gl + css.length) := by
  cases z with
  | true => exact c14z
  | false => exact c14m
theorem tsTw {G : Nat} (z f : Bool) : TSound Tryz.prog G (TTw z f) := ((((TSound.none.auto cDm).auto cHf).auto cPl).new (f' := 85) (c14 z)).two (c24 f)
section
variable (cs : List Value) (t s n : Nat) (ex : Bool) (e : Int)
noncomputable def oTw (f : Bool) : Out QRes := execO Tryz.prog 2 ⟨TTw false f, no_, off_, noL⟩ 60 (.call 33 ⟨[sl 1 0 n n, i e]⟩ (heapL (deads ++ [.cells cs t s ex])))
noncomputable def oTwz : Out QRes := execO Tryz.prog 2 ⟨TTw true false, no_, off_, noL⟩ 90 (.call 33 ⟨[sl 1 0 0 0, i e]⟩ (heapL (deads ++ [.cells cs t s ex])))
def DR_ (cs : List Value) (n : Nat) : List Value := flatP (SS_ cs n).reverse
noncomputable def hfD (cs : List Value) (n : Nat) (e : Int) : Int := sL e (dfs (DR_ cs n) (LD_ cs n - 1))
noncomputable def rgD (cs : List Value) (n : Nat) (e : Int) : Int := sL e (rgC cs n)
def hbD (cs : List Value) (n : Nat) (e : Int) : Prop := okP (DR_ cs n) (LD_ cs n) (LD_ cs n) ∧ LD_ cs n ≤ 100 ∧ ex3 e ∧ ∀ j : Nat, j < LD_ cs n → -32768 ≤ pB (DR_ cs n) j ∧ pB (DR_ cs n) j ≤ 32768
theorem vTw_t : (oTw cs t s n ex e true).vals = (vP (LmE cs n n) <| vP (P59 true (RS_ cs n) (RN_ cs n) (RN_ cs n)) <| vP (GcE (flatC (CC_ cs n)) (CC_ cs n).length (CC_ cs n).length ∧ (CC_ cs n).length ≤ 100 ∧ ex3 e) <| vP (okPl (rgD cs n e) (rgD cs n e)) <| vP (hbD cs n e) <| vP (okPl (rgD cs n e + rgD cs n e) (hfD cs n e)) <| .leaf (i (rgD cs n e + rgD cs n e + hfD cs n e))) := by kernel_rfl
theorem vTw_f : (oTw cs t s n ex e false).vals = (vP (LmE cs n n) <| vP (P59 false (RS_ cs n) (RN_ cs n) (RN_ cs n)) <| vP True <| vP (okPl 0 0) <| vP (hbD cs n e) <| vP (okPl (0 + 0) (hfD cs n e)) <| .leaf (i (0 + 0 + hfD cs n e))) := by kernel_rfl
theorem vTwz : (oTwz cs t s ex e).vals = (vP (LzE cs 0 0) <| vP True <| vP (okPl 0 0) <| vP True <| vP (okPl (0 + 0) 0) <| .leaf (i 0)) := by kernel_rfl
theorem xTw (f : Bool) : oTw cs t s n ex e f = (oTw cs t s n ex e f).fix := by cases f <;> kernel_rfl
theorem xTwz : oTwz cs t s ex e = (oTwz cs t s ex e).fix := by kernel_rfl
end
section
variable {cs : List Value} {n : Nat} {e : Int}
theorem Fx.hf (h : Fx cs n 0) : hfD cs n e = sL e (dfC cs n) := by
  unfold hfD dfC
  congr 1
  unfold dfs
  refine List.map_congr_left fun j hj => ?_
  have hj := List.mem_range.1 hj
  unfold dfI
  have hd : DR_ cs n = DS_ cs n := h.st.2.symm
  rw [hd, st_pB (by omega), st_pB (by omega)]
theorem Fx.hb (h : Fx cs n 0) (he : ex3 e) : hbD cs n e := by
  have hd : DR_ cs n = DS_ cs n := h.st.2.symm
  unfold hbD
  rw [hd]
  exact ⟨h.okD, by have := h.sz; omega, he, fun j hj => by rw [st_pB hj]; exact h.pB_bd hj⟩
theorem sL_up2 {e : Int} : ∀ {l : List Int}, (∀ x ∈ l, 0 ≤ x ∧ x ≤ 65536) → sL e l ≤ 281474976710656 * l.length
  | [], _ => Int.le_refl _
  | x :: l, h => by
    have h1 := sL_up2 (e := e) fun y hy => h y (List.mem_cons_of_mem _ hy)
    have h2 := pwI_bd (e := e) (h x (List.mem_cons_self ..))
    show pwI x e + sL e l ≤ 281474976710656 * ((l.length + 1 : Nat) : Int)
    omega
theorem Fx.twb (h : Fx cs n 0) (he : ex3 e) : (0 ≤ rgD cs n e ∧ rgD cs n e ≤ 281474976710656 * 24) ∧ (0 ≤ hfD cs n e ∧ hfD cs n e ≤ 281474976710656 * 24) := by
  have h1 := sL_up2 (e := e) h.rg_bd
  have h2 := sL_up2 (e := e) h.df_bd
  have h3 := sL_nn he h.rg_bd
  have h4 := sL_nn he h.df_bd
  rw [rgC_len] at h1
  rw [dfC_len] at h2
  have := h.sz
  rw [h.hf]
  unfold rgD
  omega
end
noncomputable def spTw : ESpec := fun al css => match al, css with
  | [.slice (some ⟨1, 0, none⟩) n c, .int .i64 e], [cs] => some (c = n ∧ okI cs n n ∧ cs.length = n ∧ n ≤ 24 ∧ clE cs n = 0 ∧ ex3 e, i (cond (Nat.beq n 0) 0 (vT cs n e)))
  | _, _ => none
theorem cTw : ∀ al css os p v, spTw al css = some (p, v) → p → Blks css os → (∀ cs ∈ css, cs.all Ex.flat = true) ∧ clean 6 v = true ∧ ∃ H', Sound Tryz.prog (gl + css.length) (.call 33 ⟨al⟩ (heapL (deads ++ os))) (.val v H') := by
  intro al css os p v hs hp hb
  unfold spTw at hs
  split at hs
  case h_2 => cases hs
  rename_i n c e cs
  cases hs
  obtain ⟨t, s, ex, rfl⟩ := blks1 hb
  obtain ⟨rfl, p1, p2, p3, p4, p5⟩ := hp
  refine ⟨by simpa using p1.1, rfl, ?_⟩
  have z0 : okPl 0 0 := ⟨Int.le_refl _, Int.le_refl _, by decide⟩
  by_cases hz : c = 0
  · subst hz
    obtain ⟨H', h'⟩ := Out.vals_sel (xTwz cs t s ex e) (v := i 0) (by rw [vTwz, vP_sel ⟨p1, rfl⟩, vP_sel trivial, vP_sel z0, vP_sel trivial, vP_sel (show okPl (0 + 0) 0 from z0)]; rfl)
    exact ⟨H', execO_sound (C := ⟨TTw true false, no_, off_, noL⟩) (tsTw true false) .none 90 _ _ h'⟩
  · have F : Fx cs c 0 := ⟨p1, p2, by omega, p3, p4, by omega⟩
    have hb0 : Nat.beq c 0 = false := by
      cases c with
      | zero => exact absurd rfl hz
      | succ _ => rfl
    rw [hb0]
    obtain ⟨⟨a1, a2⟩, b1, b2⟩ := F.twb p5
    obtain ⟨k1, k2, k3⟩ := F.lok
    have hsz := F.sz
    have hv : vT cs c e = rgD cs c e + rgD cs c e + hfD cs c e := by rw [F.hf]; rfl
    by_cases hC : CC_ cs c = []
    · have hr : rgD cs c e = 0 := by
        unfold rgD rgC
        rw [hC]; rfl
      rw [hr] at hv
      obtain ⟨H', h'⟩ := Out.vals_sel (xTw cs t s c ex e false) (v := i (vT cs c e)) (by
        rw [vTw_f, vP_sel k3.1, vP_sel (F.p59 false hC), vP_sel trivial, vP_sel z0, vP_sel (F.hb p5), vP_sel ⟨by omega, b1, by omega⟩, ← hv]; rfl)
      exact ⟨H', execO_sound (C := ⟨TTw false false, no_, off_, noL⟩) (tsTw false false) .none 60 _ _ h'⟩
    · obtain ⟨H', h'⟩ := Out.vals_sel (xTw cs t s c ex e true) (v := i (vT cs c e)) (by
        rw [vTw_t, vP_sel k3.1, vP_sel (F.p59 true hC), vP_sel ⟨F.gc, by omega, p5⟩, vP_sel ⟨a1, a1, by omega⟩, vP_sel (F.hb p5), vP_sel ⟨by omega, b1, by omega⟩, ← hv]; rfl)
      exact ⟨H', execO_sound (C := ⟨TTw false true, no_, off_, noL⟩) (tsTw false true) .none 60 _ _ h'⟩
end Go.Proofs.YteemponkignnhaaGreat.Ways
set_option maxRecDepth 10000
noncomputable section
namespace Go.Proofs.YteemponkignnhaaGreat.Ways
open Go Go.Ex Go.RowKit Go.Turn
noncomputable def TL4 (zc zr : Bool) : Tb := ext (ext (ext (ext (ext (ext (ext (ext (ext (ext (ext (ext (ext (ext (ext (ext (ext T2 6 (pureE s9 [] Hd)) 9 (cond zc noE (newE (sp23 89) [] (heapL deads)))) 11 (newE (sp19 zr) [] (heapL deads))) 26 (xE 0 rd0 sp12 [] (heapL deads))) 13 (autoE spCC [] (heapL deads))) 14 (autoE sp18 [] (heapL deads))) 29 (autoE sp13 [] (heapL deads)))
  23 (autoE spD1 [] (heapL deads))) 24 (autoE spD2 [] (heapL deads))) 25 (autoE spD3 [] (heapL deads))) 27 (autoE spD4 [] (heapL deads))) 30 (autoE spCh [] (heapL deads))) 31 (autoE spDm [] (heapL deads))) 32 (autoE spHf [] (heapL deads))) 33 (autoE spTw [] (heapL deads))) 34 (autoE spEq [] (heapL deads))) 22 (autoE spNm [] (heapL deads))
theorem tsL4 {G : Nat} (haw : Pure Tryz.prog Hd 6 [] (b_ true)) (zc zr : Bool) : TSound Tryz.prog G (TL4 zc zr) := by
  have h0 : TSound Tryz.prog G (ext T2 6 (pureE s9 [] Hd)) := TSound.pure hd_vars ts2 fun args v h => by
    unfold s9 at h
    split at h
    · cases h; exact haw
    · cases h
  have h9 : TSound Tryz.prog G (ext (ext T2 6 (pureE s9 [] Hd)) 9 (cond zc noE (newE (sp23 89) [] (heapL deads)))) := by
    cases zc with
    | true => exact TSound.no h0
    | false => exact h0.new c23
  exact ((((((((((((((h9.new (f' := 11) (c19 zr)).x c12).auto cCR).auto c20).auto c13).auto cD1).auto cD2).auto cD3).auto cD4).auto cCh).auto cDm).auto cHf).auto cTw).auto cEq).auto cNm
noncomputable def spL4 : Nat → Nat → Split := at_ [(4, 26), (4, 31), (4, 38), (4, 107), (4, 118), (4, 129), (4, 140)] .bool no_
end Go.Proofs.YteemponkignnhaaGreat.Ways
set_option maxRecDepth 10000
noncomputable section
namespace Go.Proofs.YteemponkignnhaaGreat.Ways
open Go Go.Ex Go.RowKit Go.Turn
def regD (id : Nat) : Nat → Code → Array Oper
  | 0, _ => #[]
  | k + 1, c => match c with
    | .region j o _ => cond (Nat.beq j id) o #[]
    | .seq a b => cond (Nat.beq (regD id k a).size 0) (regD id k b) (regD id k a)
    | .cond _ a b => cond (Nat.beq (regD id k a).size 0) (regD id k b) (regD id k a)
    | .block _ a => regD id k a
    | .loop a => regD id k a
    | .scope a => regD id k a
    | _ => #[]
noncomputable def O8d : Array Oper := regD 8 60 (Tryz.f4.body.getD .skip)
def K8d (zc zr : Bool) : Nat := cond zc (cond zr 6 7) (cond zr 8 9)
noncomputable def C8d (zc zr : Bool) : Cfg := ⟨TL4 zc zr, no_, off_, noL⟩
structure DD where
  cs : List Value
  n : Nat
  t : Nat
  s : Nat
  ex : Bool
  ds : List Value
  m : Nat
  t2 : Nat
  s2 : Nat
  e2 : Bool
  ls : List Value
  k : Nat
  t3 : Nat
  s3 : Nat
  e3 : Bool
  e : Int
  N : Int
  a1 : Int
  b1 : Int
  a2 : Int
  b2 : Int
  a3 : Int
  b3 : Int
  a4 : Int
  b4 : Int
section
variable (d : DD) (zc zr : Bool)
def DD.box : CO := .cells [sl 1 0 d.n d.n, sl 2 0 d.m d.m, sl 3 0 d.k d.k, i d.e, i d.N] 54 1 true
def hp8d : List (CO × Bool) := (List.range (K8d zc zr)).map fun j => match j with
  | 1 => (.cells d.cs d.t d.s d.ex, true)
  | 2 => (.cells d.ds d.t2 d.s2 d.e2, true)
  | 3 => (.cells d.ls d.t3 d.s3 d.e3, true)
  | 4 => (d.box, false)
  | _ => (.dead, false)
def DD.no (d : DD) : Int := rgE d.e 1 3
def DD.g1 (d : DD) : Int := gcE d.cs d.n
def DD.g2 (d : DD) : Int := crE d.ds d.m
def DD.g3 (d : DD) : Int := clE d.ls d.k
def two8 (a b : Int) : CO := .cells [i a, i b] 3 1 true
def lv8d : List (Nat × Value) := [(1, pt 4 0), (3, i d.a1), (4, i d.b1), (5, i d.a2), (6, i d.b2), (7, i d.a3), (8, i d.b3), (9, i d.a4), (10, i d.b4), (11, i d.no)]
def s8d : SymS where
  live0 := lv8d d
  S := [(82, 0, pt 4 0), (83, 1, sl 1 0 d.n d.n), (84, 2, i d.g1), (85, 3, i d.no), (86, 4, sl (K8d zc zr) 0 2 2), (87, 5, i (fst2 d.g1 d.no)), (88, 6, pt 4 1), (89, 7, sl 2 0 d.m d.m), (90, 8, i d.g2), (91, 9, i d.no), (92, 10, sl (K8d zc zr + 1) 0 2 2), (93, 11, i (fst2 d.g2 d.no)),
    (94, 12, pt 4 2), (95, 13, sl 3 0 d.k d.k), (96, 14, i d.g3), (97, 15, i d.no), (98, 16, sl (K8d zc zr + 2) 0 2 2), (99, 17, i (fst2 d.g3 d.no)), (12, 18, i (fst2 d.g1 d.no)), (13, 19, i (fst2 d.g2 d.no)), (14, 20, i (fst2 d.g3 d.no))]
  hp0 := hp8d d zc zr
  A := [(4, two8 d.g1 d.no, 4, two8 d.g1 d.no), (10, two8 d.g2 d.no, 10, two8 d.g2 d.no), (16, two8 d.g3 d.no, 16, two8 d.g3 d.no)]
noncomputable def cd8d (j : Nat) : List Bool := match j with
  | 2 => [tru (okG d.cs d.n d.n)]
  | 5 => [tru (okI [i d.g1, i d.no] 2 2)]
  | 8 => [tru (BokE d.ds d.m d.m)]
  | 11 => [tru (okI [i d.g2, i d.no] 2 2)]
  | 14 => [tru (okI d.ls d.k d.k)]
  | 17 => [tru (okI [i d.g3, i d.no] 2 2)]
  | _ => []
def rho8d (j : Nat) : List Nat := match j with
  | 4 => (List.range (K8d zc zr + 3)).set (K8d zc zr) (K8d zc zr + 3)
  | 10 => (List.range (K8d zc zr + 3)).set (K8d zc zr + 1) (K8d zc zr + 3)
  | 16 => (List.range (K8d zc zr + 3)).set (K8d zc zr + 2) (K8d zc zr + 3)
  | _ => List.range (K8d zc zr + 3)
def len8d (j : Nat) : Nat := cond (Nat.beq j 4 || (Nat.beq j 10 || Nat.beq j 16)) (K8d zc zr + 4) (K8d zc zr + 3)
end
def ans8d (j : Nat) : List Bool := match j with
  | 2 => [true]
  | 5 => [true]
  | 8 => [true]
  | 11 => [true]
  | 14 => [true]
  | 17 => [true]
  | _ => []
section
variable (d : DD)
theorem fix8d : ∀ (zc zr : Bool) (B : List Bool), B.length = O8d.size → (List.range O8d.size).map (fun j => outV (tabW (C8d zc zr)) Tryz.prog 4 (C8d zc zr) 4 O8d 177 (s8d d zc zr) (forceN O8d.size (preN O8d) j B) j) = (List.range O8d.size).map fun j => (outV (tabW (C8d zc zr)) Tryz.prog 4 (C8d zc zr) 4 O8d 177 (s8d d zc zr) (forceN O8d.size (preN O8d) j B) j).fix
  | zc, zr, [x0, x1, x2, x3, x4, x5, x6, x7, x8, x9, x10, x11, x12, x13, x14, x15, x16, x17, x18, x19, x20], _ => by cases zc <;> cases zr <;> kernel_rfl
theorem obs8d : ∀ (zc zr : Bool) (B : List Bool), B.length = O8d.size → (List.range O8d.size).map (fun j => obsV (tabW (C8d zc zr)) Tryz.prog 4 (C8d zc zr) 4 O8d 177 (s8d d zc zr) (rho8d zc zr) ans8d (forceN O8d.size (preN O8d) j B) j) = (List.range O8d.size).map fun j => expY 177 (s8d d zc zr) (rho8d zc zr) (cd8d d) (len8d zc zr) (forceN O8d.size (preN O8d) j B) j
  | zc, zr, [x0, x1, x2, x3, x4, x5, x6, x7, x8, x9, x10, x11, x12, x13, x14, x15, x16, x17, x18, x19, x20], _ => by cases zc <;> cases zr <;> kernel_rfl
end
end Go.Proofs.YteemponkignnhaaGreat.Ways
set_option maxRecDepth 10000
noncomputable section
namespace Go.Proofs.YteemponkignnhaaGreat.Ways
open Go Go.Ex Go.RowKit Go.Turn
structure DD.H8 (d : DD) : Prop where
  fc : d.cs.all Ex.flat = true
  fd : d.ds.all Ex.flat = true
  fl : d.ls.all Ex.flat = true
  g1 : okG d.cs d.n d.n
  g2 : BokE d.ds d.m d.m
  g3 : okI d.ls d.k d.k
section
variable {d : DD} {zc zr : Bool}
theorem hp8d_flat (h : d.H8) : ∀ o, (o, true) ∈ hp8d d zc zr → FlatO o := by
  intro o ho
  unfold hp8d at ho
  obtain ⟨j, _, hj⟩ := List.mem_map.1 ho
  split at hj
  · cases hj; exact fun x hx => List.all_eq_true.1 h.fc x hx
  · cases hj; exact fun x hx => List.all_eq_true.1 h.fd x hx
  · cases hj; exact fun x hx => List.all_eq_true.1 h.fl x hx
  · cases hj
  · cases hj
theorem cd8d_ok (h : d.H8) : ∀ j, cd8d d j = (ans8d j).take (cd8d d j).length := by
  intro j
  unfold cd8d ans8d
  split
  · rw [tru_iff.2 h.g1]; rfl
  · rw [tru_iff.2 (okI2 _ _)]; rfl
  · rw [tru_iff.2 h.g2]; rfl
  · rw [tru_iff.2 (okI2 _ _)]; rfl
  · rw [tru_iff.2 h.g3]; rfl
  · rw [tru_iff.2 (okI2 _ _)]; rfl
  · rfl
theorem two8_flat (a b : Int) : FlatO (two8 a b) := fun x hx => List.all_eq_true.1 (show [i a, i b].all Ex.flat = true from rfl) x hx
theorem ord8d (h : d.H8) : Orders (selfA (qS (tabW (C8d zc zr)))) Tryz.prog 4 O8d (K8d zc zr) (fun m => m < 2 ^ O8d.size ∧ GoodY O8d (bitsL O8d.size m)) (fun m => absT (tmL 177 ((s8d d zc zr).live (bitsL O8d.size m)))) (fun m => heapL ((s8d d zc zr).hp (bitsL O8d.size m))) (2 ^ O8d.size - 1) :=
  sym_ofW (fix8d d zc zr) (obs8d d zc zr) (cd8d_ok h) (by cases zc <;> cases zr <;> kernel_rfl) (by kernel_rfl) (by cases zc <;> cases zr <;> kernel_rfl) (by cases zc <;> cases zr <;> kernel_rfl) (by cases zc <;> cases zr <;> kernel_rfl) (hp8d_flat h)
    (fun q hq => by
      simp only [s8d, List.mem_cons, List.not_mem_nil, or_false] at hq
      rcases hq with rfl | rfl | rfl
      · exact ⟨two8_flat _ _, two8_flat _ _⟩
      · exact ⟨two8_flat _ _, two8_flat _ _⟩
      · exact ⟨two8_flat _ _, two8_flat _ _⟩)
end
noncomputable def fin8d : List Bool := List.replicate 21 true
section
variable (d : DD) (zc zr : Bool)
noncomputable def tm8d : TM := tmL 177 ((s8d d zc zr).live fin8d)
noncomputable def h8d : CH := heapL ((s8d d zc zr).hp fin8d)
theorem end8d : bitsL O8d.size (2 ^ O8d.size - 1) = fin8d := by kernel_rfl
theorem pad8d : heapL ((s8d d zc zr).hp (bitsL O8d.size 0)) = heapL ((s8d d zc zr).hp0.map (·.1) ++ List.replicate 3 .dead) := by cases zc <;> cases zr <;> kernel_rfl
theorem zero8d : tmL 177 ((s8d d zc zr).live (bitsL O8d.size 0)) = tmL 177 (s8d d zc zr).live0 := by cases zc <;> cases zr <;> kernel_rfl
theorem mix8d : Tryz.prog.follows .mixedOrders = true := by kernel_rfl
theorem K8d_le : 4 ≤ K8d zc zr := by cases zc <;> cases zr <;> decide
variable {d zc zr}
theorem snd8d (haw : Pure Tryz.prog Hd 6 [] (b_ true)) (h : d.H8) (ro : Option Nat) {tm0 : Array Value} {H0 : CH} (hk : H0.length = K8d zc zr) (hst : Restate (K8d zc zr) tm0 H0 (absT (tmL 177 (s8d d zc zr).live0)) (heapL ((s8d d zc zr).hp0.map (·.1)))) :
    Sound Tryz.prog 4 (.code (.region 8 O8d true) ro tm0 H0 []) (.ex .normal (absT (tm8d d zc zr)) (h8d d zc zr) []) := by
  have ho := ord8d (zc := zc) (zr := zr) h
  have hp := pad8d d zc zr
  have hz := zero8d d zc zr
  have h0 := goodY_zero O8d
  have hle := K8d_le zc zr
  unfold tm8d h8d
  rw [← end8d]
  rw [← hz] at hst
  generalize s8d d zc zr = s at *
  rw [← hk] at ho hst hle
  exact orders_sound2 (tmS := fun m => absT (tmL 177 (s.live (bitsL O8d.size m)))) (HS := fun m => heapL (s.hp (bitsL O8d.size m))) (mF := 2 ^ O8d.size - 1) (qS_selfSound (tabW_sound (C := C8d zc zr) (tsL4 haw zc zr))) mix8d ho hle h0 hp hst ro
end
section
variable (d : DD) (zc zr : Bool)
noncomputable def L8d (L : LTab) : LTab := regE L 4 8 177 (K8d zc zr) O8d (s8d d zc zr).live0 (s8d d zc zr).hp0 (.leaf (.ex .normal (tm8d d zc zr) (h8d d zc zr) []))
theorem ls8d (haw : Pure Tryz.prog Hd 6 [] (b_ true)) {L : LTab} (hL : LSound Tryz.prog 4 L) (h : d.H8) : LSound Tryz.prog 4 (L8d d zc zr L) := by
  refine LSound.region hL (by cases zc <;> cases zr <;> kernel_rfl) (hp8d_flat h) fun r hr ro tm0 H0 hk hst => ?_
  cases hr
  exact snd8d haw h ro hk hst
end
end Go.Proofs.YteemponkignnhaaGreat.Ways
set_option maxRecDepth 10000
noncomputable section
namespace Go.Proofs.YteemponkignnhaaGreat.Ways
open Go Go.Ex Go.RowKit Go.Turn
section
variable (zc zr : Bool) (cs ds ls : List Value) (n m k t s t2 s2 t3 s3 : Nat) (ex e2 e3 : Bool) (e N : Int)
def nzD (z : Bool) (n : Nat) : Nat := cond z 0 n
noncomputable def dL4 : DD := ⟨cs, nzD zc n, t, s, ex, ds, nzD zr m, t2, s2, e2, ls, k, t3, s3, e3, e, N,
  cond zc 0 (iz (fst2 (gcE cs n) (rgE e 1 3)) (sL e (rgs cs n))), cond zc (fst2 0 (rgE e 1 3)) (fst2 (gcE cs n) (rgE e 1 3)),
  cond zr 0 (iz (fst2 (crE ds m) (rgE e 1 3)) (sL e (dfs ds (m - 1)))), cond zr (fst2 0 (rgE e 1 3)) (fst2 (crE ds m) (rgE e 1 3)),
  iz (fst2 (clE ls k) (rgE e 1 3)) (cond (Nat.beq k 0) 0 (vT ls k e)), fst2 (clE ls k) (rgE e 1 3),
  cond zc (iz (er48 e N 0) (rtI ((0 : Int).tdiv N) e)) (iz (er48 e N (gcE cs n)) (rtI ((sL e (rgs cs n)).tdiv N) e)), cond zc (er48 e N 0) (er48 e N (gcE cs n))⟩
noncomputable def o4L : Out QRes := execO Tryz.prog 4 ⟨TL4 zc zr, spL4, off_, L8d (dL4 zc zr cs ds ls n m k t s t2 s2 t3 s3 ex e2 e3 e N) zc zr noL⟩ 120 (.call 4 ⟨[ag [sl 1 0 (nzD zc n) (nzD zc n), sl 2 0 (nzD zr m) (nzD zr m), sl 3 0 k k, i e, i N]]⟩ (heapL (deads ++ [.cells cs t s ex, .cells ds t2 s2 e2, .cells ls t3 s3 e3])))
end
section
variable (d : DD)
def DD.F1 : Int := fst2 d.g1 d.no
def DD.F2 : Int := fst2 d.g2 d.no
def DD.F3 : Int := fst2 d.g3 d.no
def DD.F4 : Int := fst2 d.F1 (rgE d.N 1 999999999)
def DD.v1 : Int := sL d.e (rgs d.cs d.n)
def DD.v2 : Int := sL d.e (dfs d.ds (d.m - 1))
noncomputable def DD.v3 : Int := cond (Nat.beq d.k 0) 0 (vT d.ls d.k d.e)
noncomputable def DD.v4 : Int := rtI (d.v1.tdiv d.N) d.e
def okN (a b c v : Int) : Prop := b = c ∧ (c ≠ 0 → a = 0) ∧ (c = 0 → a = v)
noncomputable def z4 (o1 r1 o2 r2 o3 r3 o4 r4 : Int) : VT := vP (okN d.a1 d.b1 o1 r1) <| vP (okN d.a2 d.b2 o2 r2) <| vP (okN d.a3 d.b3 o3 r3) <| vP (okN d.a4 d.b4 o4 r4) lfT
noncomputable def pDd (K : Int → Int → VT) : VT := .br (eqF d.F4 0) (vP (GcE d.cs d.n d.n ∧ d.n ≤ 100 ∧ ex3 d.e ∧ 1 ≤ d.N) <| K 0 d.v4) (K d.F4 0)
noncomputable def pCd (K : Int → Int → VT) : VT := .br (eqF d.F3 0) (vP (d.k = d.k ∧ okI d.ls d.k d.k ∧ d.ls.length = d.k ∧ d.k ≤ 24 ∧ clE d.ls d.k = 0 ∧ ex3 d.e) <| vP (d.v3 ≤ 1152921504606846976) <| K 0 d.v3) (K d.F3 0)
noncomputable def pBd (K : Int → Int → VT) : VT := .br (eqF d.F2 0) (vP (okP d.ds d.m d.m ∧ d.m ≤ 100 ∧ ex3 d.e ∧ ∀ j : Nat, j < d.m → -32768 ≤ pB d.ds j ∧ pB d.ds j ≤ 32768) <| vP (d.v2 ≤ 1152921504606846976) <| K 0 d.v2) (K d.F2 0)
noncomputable def pAd (K : Int → Int → VT) : VT := .br (eqF d.F1 0) (vP (GcE d.cs d.n d.n ∧ d.n ≤ 100 ∧ ex3 d.e) <| vP (d.v1 ≤ 1152921504606846976) <| K 0 d.v1) (K d.F1 0)
noncomputable def y4 : VT := vP (okI [i d.F1, i (rgE d.N 1 999999999)] 2 2) <| pAd d fun o1 r1 => pBd d fun o2 r2 => pCd d fun o3 r3 => pDd d fun o4 r4 => z4 d o1 r1 o2 r2 o3 r3 o4 r4
noncomputable def qC4 (zc : Bool) (t : VT) : VT := cond zc (vP True t) (vP (CfE d.cs d.n d.n) <| vP (okG d.cs d.n d.n) t)
noncomputable def qR4 (zr : Bool) (t : VT) : VT := cond zr (vP (CzE d.ds d.m d.m) <| vP True t) (vP (CmE d.ds d.m d.m) <| vP (BokE d.ds d.m d.m ∧ d.m ≤ 100 ∧ 1 ≤ d.m) t)
noncomputable def t4D (zc zr : Bool) : VT := .br (ltF 20 d.n) lfT <| .br (leF d.m 20) (.br (ltF 20 d.k) lfT <| qC4 d zc <| qR4 d zr <| vP (okC d.ls d.k d.k) <| vP (d.k = d.k ∧ okI d.ls d.k d.k ∧ d.ls.length = d.k ∧ d.k ≤ 24) <| qC4 d zc <| y4 d) lfT
end
section
variable (cs ds ls : List Value) (n m k t s t2 s2 t3 s3 : Nat) (ex e2 e3 : Bool) (e N : Int)
theorem v4L (zc zr : Bool) : (o4L zc zr cs ds ls n m k t s t2 s2 t3 s3 ex e2 e3 e N).vals = t4D (dL4 zc zr cs ds ls n m k t s t2 s2 t3 s3 ex e2 e3 e N) zc zr := by cases zc <;> cases zr <;> kernel_rfl
theorem x4L (zc zr : Bool) : o4L zc zr cs ds ls n m k t s t2 s2 t3 s3 ex e2 e3 e N = (o4L zc zr cs ds ls n m k t s t2 s2 t3 s3 ex e2 e3 e N).fix := by cases zc <;> cases zr <;> kernel_rfl
end
end Go.Proofs.YteemponkignnhaaGreat.Ways
set_option maxRecDepth 10000
noncomputable section
namespace Go.Proofs.YteemponkignnhaaGreat.Ways
open Go Go.Ex Go.RowKit Go.Turn
theorem er_eq (e N a : Int) : er48 e N a = fst2 (fst2 a (rgE e 1 3)) (rgE N 1 999999999) := by
  have h : er48 e N a = if a ≠ 0 then a else if rgE e 1 3 ≠ 0 then rgE e 1 3 else if rgE N 1 999999999 ≠ 0 then rgE N 1 999999999 else 0 := rfl
  rw [h, fst2_eq, fst2_eq]
  repeat' split
  all_goals first | rfl | (exfalso; simp_all; done)
structure DD.Ok (d : DD) (zc zr : Bool) : Prop where
  n20 : d.n ≤ 20
  m20 : d.m ≤ 20
  k20 : d.k ≤ 20
  okc : okF d.cs d.n d.n
  lc : d.cs.length = d.n * 4
  okd : okP d.ds d.m d.m
  ld : d.ds.length = d.m * 2
  okl : okI d.ls d.k d.k
  ll : d.ls.length = d.k
  zc : if zc = true then d.n = 0 else 1 ≤ d.n
  zr : if zr = true then d.m = 0 else 1 ≤ d.m
  b1 : d.b1 = d.F1
  a1 : d.a1 = iz d.F1 d.v1
  b2 : d.b2 = d.F2
  a2 : d.a2 = iz d.F2 d.v2
  b3 : d.b3 = d.F3
  a3 : d.a3 = iz d.F3 d.v3
  b4 : d.b4 = d.F4
  a4 : d.a4 = iz d.F4 d.v4
section
variable {d : DD} {zc zr : Bool}
theorem okN_of {a b f v : Int} (hb : b = f) (ha : a = iz f v) : okN a b f (iz f v) := ⟨hb, fun h => ha.trans (if_neg h), fun _ => ha⟩
theorem DD.Ok.g (h : d.Ok zc zr) : okG d.cs d.n d.n := ⟨h.okc, by have := h.n20; omega⟩
theorem DD.Ok.bok (h : d.Ok zc zr) : BokE d.ds d.m d.m := ⟨h.okd, by have := h.m20; omega⟩
theorem DD.Ok.h8 (h : d.Ok zc zr) : d.H8 := ⟨h.okc.1, h.okd.1, h.okl.1, h.g, h.bok, h.okl⟩
theorem DD.Ok.fx (h : d.Ok zc zr) (hk : d.k ≠ 0) (hc : clE d.ls d.k = 0) : Fx d.ls d.k 0 := ⟨h.okl, h.ll, by omega, by have := h.k20; omega, hc, by omega⟩
theorem iz_z {f v : Int} (h : f = 0) : iz f v = v := if_pos h
theorem iz_n {f v : Int} (h : f ≠ 0) : iz f v = 0 := if_neg h
theorem pAd_sel (h : d.Ok zc zr) (K : Int → Int → VT) : (pAd d K).sel = (K d.F1 (iz d.F1 d.v1)).sel := by
  unfold pAd
  by_cases hf : d.F1 = 0
  · obtain ⟨h1, h2⟩ := f2_nz.1 hf
    have hg := (gc_iff h.g).1 h1
    have he := ex3_of h2
    have hn := h.n20
    have hb := sL_G hg (by omega) he
    rw [vb_t (by rw [eqF_d]; exact decide_eq_true hf), vP_sel ⟨hg, by omega, he⟩, vP_sel (show d.v1 ≤ _ by unfold DD.v1; omega), hf, iz_z rfl]
  · rw [vb_f (by rw [eqF_d]; exact decide_eq_false hf), iz_n hf]
theorem pBd_sel (h : d.Ok zc zr) (K : Int → Int → VT) : (pBd d K).sel = (K d.F2 (iz d.F2 d.v2)).sel := by
  unfold pBd
  by_cases hf : d.F2 = 0
  · obtain ⟨h1, h2⟩ := f2_nz.1 hf
    have he := ex3_of h2
    have hm := h.m20
    have hbd := cr_bd (by omega) h1
    have hd : ∀ j, j < 100 → j < d.m - 1 → 0 ≤ dfI d.ds j ∧ dfI d.ds j ≤ 65536 := fun j _ hj => dfs_bd (n := d.m - 1) (fun k _ => hbd k (by omega)) _ (List.mem_map.2 ⟨j, List.mem_range.2 hj, rfl⟩)
    have hs := sL_rng (g := dfI d.ds) (n := d.m - 1) he hd (d.m - 1) (Nat.le_refl _) (by omega)
    rw [vb_t (by rw [eqF_d]; exact decide_eq_true hf), vP_sel ⟨h.okd, by omega, he, hbd⟩, vP_sel (show d.v2 ≤ _ by
      have : d.v2 ≤ 281474976710656 * ((d.m - 1 : Nat) : Int) := hs.2
      omega), hf, iz_z rfl]
  · rw [vb_f (by rw [eqF_d]; exact decide_eq_false hf), iz_n hf]
theorem pCd_sel (h : d.Ok zc zr) (K : Int → Int → VT) : (pCd d K).sel = (K d.F3 (iz d.F3 d.v3)).sel := by
  unfold pCd
  by_cases hf : d.F3 = 0
  · obtain ⟨h1, h2⟩ := f2_nz.1 hf
    have he := ex3_of h2
    have hk := h.k20
    have hv : d.v3 ≤ 1152921504606846976 := by
      unfold DD.v3
      by_cases hz : d.k = 0
      · rw [hz]; show (0 : Int) ≤ _; omega
      · have F := h.fx hz h1
        obtain ⟨⟨a1, a2⟩, b1, b2⟩ := F.twb he
        have hv : vT d.ls d.k d.e = rgD d.ls d.k d.e + rgD d.ls d.k d.e + hfD d.ls d.k d.e := by rw [F.hf]; rfl
        have hb0 : Nat.beq d.k 0 = false := by
          cases hq : d.k with
          | zero => exact absurd hq hz
          | succ _ => rfl
        rw [hb0]
        show vT d.ls d.k d.e ≤ _
        omega
    rw [vb_t (by rw [eqF_d]; exact decide_eq_true hf), vP_sel ⟨rfl, h.okl, h.ll, by omega, h1, he⟩, vP_sel hv, hf, iz_z rfl]
  · rw [vb_f (by rw [eqF_d]; exact decide_eq_false hf), iz_n hf]
theorem pDd_sel (h : d.Ok zc zr) (K : Int → Int → VT) : (pDd d K).sel = (K d.F4 (iz d.F4 d.v4)).sel := by
  unfold pDd
  by_cases hf : d.F4 = 0
  · obtain ⟨h0, h3⟩ := f2_nz.1 hf
    obtain ⟨h1, h2⟩ := f2_nz.1 h0
    have hg := (gc_iff h.g).1 h1
    have hn := h.n20
    rw [vb_t (by rw [eqF_d]; exact decide_eq_true hf), vP_sel ⟨hg, by omega, ex3_of h2, (rgE_zero h3).1⟩, hf, iz_z rfl]
  · rw [vb_f (by rw [eqF_d]; exact decide_eq_false hf), iz_n hf]
theorem y4_sel (h : d.Ok zc zr) : (y4 d).sel = some (b_ true) := by
  unfold y4
  rw [vP_sel (okI2 _ _), pAd_sel h, pBd_sel h, pCd_sel h, pDd_sel h]
  unfold z4
  rw [vP_sel (okN_of h.b1 h.a1), vP_sel (okN_of h.b2 h.a2), vP_sel (okN_of h.b3 h.a3), vP_sel (okN_of h.b4 h.a4)]; rfl
theorem qC4_sel (h : d.Ok zc zr) (t : VT) : (qC4 d zc t).sel = t.sel := by
  have hz := h.zc
  have hn := h.n20
  cases zc with
  | true => exact vP_sel trivial
  | false => exact (vP_sel ⟨h.okc, hz, by omega, h.lc⟩).trans (vP_sel h.g)
theorem qR4_sel (h : d.Ok zc zr) (t : VT) : (qR4 d zr t).sel = t.sel := by
  have hz := h.zr
  have hm := h.m20
  cases zr with
  | true => exact (vP_sel ⟨h.okd, hz⟩).trans (vP_sel trivial)
  | false =>
    have hz : 1 ≤ d.m := hz
    exact (vP_sel ⟨⟨h.okd, hz, by omega⟩, h.ld⟩).trans (vP_sel ⟨h.bok, by omega, hz⟩)
theorem t4D_sel (h : d.Ok zc zr) : (t4D d zc zr).sel = some (b_ true) := by
  have hn := h.n20
  have hm := h.m20
  have hk := h.k20
  unfold t4D
  rw [vb_f (by rw [ltF_eq]; exact decide_eq_false (by omega)), vb_t (by rw [leF_eq]; exact decide_eq_true (by omega)), vb_f (by rw [ltF_eq]; exact decide_eq_false (by omega)), qC4_sel h, qR4_sel h, vP_sel ⟨h.okl, h.ll, by omega⟩, vP_sel ⟨rfl, h.okl, h.ll, by omega⟩, qC4_sel h]
  exact y4_sel h
end
noncomputable def C4b_ (zc zr : Bool) : Cfg := ⟨TL4 zc zr, at_ [(4, 26), (4, 31), (4, 38)] .bool (at_ [(4, 80)] (.ints []) no_), off_, noL⟩
section
variable (cs ds ls : List Value) (n m k t s t2 s2 t3 s3 : Nat) (ex e2 e3 : Bool) (e N : Int)
noncomputable def o4b_ : Out QRes := execO Tryz.prog 4 (C4b_ false false) 120 (.call 4 ⟨[ag [sl 1 0 n n, sl 2 0 m m, sl 3 0 k k, i e, i N]]⟩ (heapL (deads ++ [.cells cs t s ex, .cells ds t2 s2 e2, .cells ls t3 s3 e3])))
noncomputable def t4b_ : VT := .br (ltF 20 n) lfT <| .br (leF m 20) (.br (ltF 20 k) lfT <| vP (CfE cs n n) <| vP (okG cs n n) <| vP (CmE ds m m) <| vP (BokE ds m m ∧ m ≤ 100 ∧ 1 ≤ m) <| vP (okC ls k k) <| vP (k = k ∧ okI ls k k ∧ ls.length = k ∧ k ≤ 24) <| vP (CfE cs n n) <| vP (okG cs n n) .fail) lfT
theorem v4b_ : (o4b_ cs ds ls n m k t s t2 s2 t3 s3 ex e2 e3 e N).vals = t4b_ cs ds ls n m k := by kernel_rfl
theorem x4b_ : o4b_ cs ds ls n m k t s t2 s2 t3 s3 ex e2 e3 e N = (o4b_ cs ds ls n m k t s t2 s2 t3 s3 ex e2 e3 e N).fix := by kernel_rfl
end
theorem law_true4D (haw : Pure Tryz.prog Hd 6 [] (b_ true)) {cs ds ls : List Value} {n m k t s t2 s2 t3 s3 : Nat} {ex e2 e3 : Bool} {e N : Int} (hc : cs.all Ex.flat = true ∧ cs.length = n * 4 ∧ ∀ j, j < n → areCells k4 cs (0 + j * 4) = true)
    (hd : ds.all Ex.flat = true ∧ ds.length = m * 2 ∧ ∀ j, j < m → areCells k2 ds (0 + j * 2) = true) (hl : rawI ls k) :
    ∃ H', Sound Tryz.prog 4 (.call 4 ⟨[ag [sl 1 0 n n, sl 2 0 m m, sl 3 0 k k, i e, i N]]⟩ (heapL (deads ++ [.cells cs t s ex, .cells ds t2 s2 e2, .cells ls t3 s3 e3]))) (.val (b_ true) H') := by
  have fin : (t4b_ cs ds ls n m k).sel = some (b_ true) → ∃ H', Sound Tryz.prog 4 (.call 4 ⟨[ag [sl 1 0 n n, sl 2 0 m m, sl 3 0 k k, i e, i N]]⟩ (heapL (deads ++ [.cells cs t s ex, .cells ds t2 s2 e2, .cells ls t3 s3 e3]))) (.val (b_ true) H') := fun hs => by
    obtain ⟨H', h'⟩ := Out.vals_sel (x4b_ cs ds ls n m k t s t2 s2 t3 s3 ex e2 e3 e N) ((congrArg VT.sel (v4b_ cs ds ls n m k t s t2 s2 t3 s3 ex e2 e3 e N)).trans hs)
    exact ⟨H', execO_sound (C := C4b_ false false) (tsL4 haw false false) .none 120 _ _ h'⟩
  by_cases n1 : 20 < n
  · exact fin (by unfold t4b_; rw [vb_t (by rw [ltF_eq]; exact decide_eq_true (by omega))]; rfl)
  by_cases m1 : 20 < m
  · exact fin (by unfold t4b_; rw [vb_f (by rw [ltF_eq]; exact decide_eq_false (by omega)), vb_f (by rw [leF_eq]; exact decide_eq_false (by omega))]; rfl)
  by_cases k1 : 20 < k
  · exact fin (by unfold t4b_; rw [vb_f (by rw [ltF_eq]; exact decide_eq_false (by omega)), vb_t (by rw [leF_eq]; exact decide_eq_true (by omega)), vb_t (by rw [ltF_eq]; exact decide_eq_true (by omega))]; rfl)
  have okc : okF cs n n := ⟨hc.1, Nat.le_refl _, by omega, hc.2.2⟩
  have okd : okP ds m m := ⟨hd.1, Nat.le_refl _, by omega, hd.2.2⟩
  have okl : okI ls k k := ⟨hl.1, Nat.le_refl _, by omega, hl.2.2⟩
  obtain ⟨zc, hzc⟩ : ∃ zc : Bool, if zc = true then n = 0 else 1 ≤ n := by
    by_cases h : n = 0
    · exact ⟨true, h⟩
    · exact ⟨false, show 1 ≤ n by omega⟩
  obtain ⟨zr, hzr⟩ : ∃ zr : Bool, if zr = true then m = 0 else 1 ≤ m := by
    by_cases h : m = 0
    · exact ⟨true, h⟩
    · exact ⟨false, show 1 ≤ m by omega⟩
  have hnz : nzD zc n = n := by cases zc with | true => exact Eq.symm hzc | false => rfl
  have hmz : nzD zr m = m := by cases zr with | true => exact Eq.symm hzr | false => rfl
  have hO : (dL4 zc zr cs ds ls n m k t s t2 s2 t3 s3 ex e2 e3 e N).Ok zc zr := by
    refine ⟨?_, ?_, by show k ≤ 20; omega, ?_, ?_, ?_, ?_, okl, hl.2.1, ?_, ?_, ?_, ?_, ?_, ?_, rfl, rfl, ?_, ?_⟩
    · show nzD zc n ≤ 20; rw [hnz]; omega
    · show nzD zr m ≤ 20; rw [hmz]; omega
    · show okF cs (nzD zc n) (nzD zc n); rw [hnz]; exact okc
    · show cs.length = nzD zc n * 4; rw [hnz]; exact hc.2.1
    · show okP ds (nzD zr m) (nzD zr m); rw [hmz]; exact okd
    · show ds.length = nzD zr m * 2; rw [hmz]; exact hd.2.1
    · show if zc = true then nzD zc n = 0 else 1 ≤ nzD zc n; rw [hnz]; exact hzc
    · show if zr = true then nzD zr m = 0 else 1 ≤ nzD zr m; rw [hmz]; exact hzr
    · cases zc <;> rfl
    · cases zc with
      | true => exact (show (0 : Int) = iz (fst2 (gcE cs 0) (rgE e 1 3)) (sL e (rgs cs 0)) by unfold iz; split <;> rfl)
      | false => rfl
    · cases zr <;> rfl
    · cases zr with
      | true => exact (show (0 : Int) = iz (fst2 (crE ds 0) (rgE e 1 3)) (sL e (dfs ds (0 - 1))) by unfold iz; split <;> rfl)
      | false => rfl
    · cases zc with
      | true => exact er_eq e N 0
      | false => exact er_eq e N (gcE cs n)
    · cases zc with
      | true => exact congrArg (fun f => iz f (rtI ((0 : Int).tdiv N) e)) (er_eq e N 0)
      | false => exact congrArg (fun f => iz f (rtI ((sL e (rgs cs n)).tdiv N) e)) (er_eq e N (gcE cs n))
  obtain ⟨H', h'⟩ := Out.vals_sel (x4L cs ds ls n m k t s t2 s2 t3 s3 ex e2 e3 e N zc zr) ((congrArg VT.sel (v4L cs ds ls n m k t s t2 s2 t3 s3 ex e2 e3 e N zc zr)).trans (t4D_sel hO))
  rw [← hnz, ← hmz]
  exact ⟨H', execO_sound (C := ⟨TL4 zc zr, spL4, off_, L8d (dL4 zc zr cs ds ls n m k t s t2 s2 t3 s3 ex e2 e3 e N) zc zr noL⟩) (tsL4 haw zc zr) (ls8d _ zc zr haw .none hO.h8) 120 _ _ h'⟩
end Go.Proofs.YteemponkignnhaaGreat.Ways
