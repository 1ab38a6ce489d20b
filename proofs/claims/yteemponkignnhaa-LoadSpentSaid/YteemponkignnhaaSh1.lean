import Derived.Test.YteemponkignnhaaSa1
import Derived.Test.YteemponkignnhaaKm1
import Derived.Test.YteemponkignnhaaKm6
set_option maxRecDepth 10000
noncomputable section
namespace Go.Proofs.Yteemponkignnhaa.Ways
open Go Go.Ex Go.RowKit Go.Turn
def mxL : Int := 1152921504606846976
theorem p48 (a e : Int) : Pure Try.prog Hd 48 [ag [i a, i e]] (i (fst2 (rgE a 1 mxL) (rgE e 1 3))) :=
  pure_run (C := ⟨TX9, no_, off_, noL⟩) (G := 1) 30 (vP (okI [i (rgE a 1 mxL), i (rgE e 1 3)] 2 2) (.leaf (i (fst2 (rgE a 1 mxL) (rgE e 1 3))))) tsX9 .none (by decide) hd_len rfl (by kernel_rfl) (by kernel_rfl) (by rw [vP_sel (okI2 _ _)]; rfl)
def sp48l (g : Bool) : ESpec := fun al css => match al, css with
  | [.agg ⟨[.int .i64 a, .int .i64 e]⟩], [] => cond g (some (1 ≤ a ∧ a ≤ mxL ∧ ex3 e, i 0)) (some (True, i (fst2 (rgE a 1 mxL) (rgE e 1 3))))
  | _, _ => none
theorem c48l (g : Bool) : ∀ al css os p v, sp48l g al css = some (p, v) → p → Blks css os → (∀ cs ∈ css, cs.all Ex.flat = true) ∧ clean 6 v = true ∧ ∃ H', Sound Try.prog (gl + css.length) (.call 48 ⟨al⟩ (heapL (deads ++ os))) (.val v H') := by
  intro al css os p v hs hp hb
  unfold sp48l at hs
  split at hs
  case h_2 => cases hs
  rename_i a e
  cases hb
  have key : ∃ H', Sound Try.prog (gl + 0) (.call 48 ⟨[ag [i a, i e]]⟩ (heapL (deads ++ []))) (.val (i (fst2 (rgE a 1 mxL) (rgE e 1 3))) H') := ⟨_, (p48 a e).sound hd_vars (fun _ h => absurd h List.not_mem_nil)⟩
  cases g with
  | true =>
    cases hs
    rw [show rgE a 1 mxL = 0 from if_pos ⟨hp.1, hp.2.1⟩, ex3_rg hp.2.2] at key
    exact ⟨fun c hc => absurd hc List.not_mem_nil, rfl, key⟩
  | false =>
    cases hs
    exact ⟨fun c hc => absurd hc List.not_mem_nil, rfl, key⟩
theorem pL87 (a e : Int) : Pure Try.prog Hd 87 [ag [i a, i e]] (i (fst2 (rgE a 1 mxL) (rgE e 1 3))) :=
  pure_run (C := ⟨TX9, no_, off_, noL⟩) (G := 1) 30 (vP (okI [i (rgE a 1 mxL), i (rgE e 1 3)] 2 2) (.leaf (i (fst2 (rgE a 1 mxL) (rgE e 1 3))))) tsX9 .none (by decide) hd_len rfl (by kernel_rfl) (by kernel_rfl) (by rw [vP_sel (okI2 _ _)]; rfl)
theorem c87l : ∀ al css os p v, sp48l true al css = some (p, v) → p → Blks css os → (∀ cs ∈ css, cs.all Ex.flat = true) ∧ clean 6 v = true ∧ ∃ H', Sound Try.prog (gl + css.length) (.call 87 ⟨al⟩ (heapL (deads ++ os))) (.val v H') := by
  intro al css os p v hs hp hb
  unfold sp48l at hs
  split at hs
  case h_2 => cases hs
  rename_i a e
  cases hb
  have key : ∃ H', Sound Try.prog (gl + 0) (.call 87 ⟨[ag [i a, i e]]⟩ (heapL (deads ++ []))) (.val (i (fst2 (rgE a 1 mxL) (rgE e 1 3))) H') := ⟨_, (pL87 a e).sound hd_vars (fun _ h => absurd h List.not_mem_nil)⟩
  cases hs
  rw [show rgE a 1 mxL = 0 from if_pos ⟨hp.1, hp.2.1⟩, ex3_rg hp.2.2] at key
  exact ⟨fun c hc => absurd hc List.not_mem_nil, rfl, key⟩
noncomputable def B10 : Code := bodyL Try.f10 4
noncomputable def C10l : Cfg := ⟨TM9, at_ [(10, 54), (10, 58), (10, 61)] .bool no_, on_ [(10, 55), (10, 56)], noL⟩
section
variable (cs : List Value) (n t s : Nat) (ex : Bool) (a e x : Int)
def hp10 : List (CO × Bool) := [(.dead, false), (.cells cs t s ex, true), (.cells [i a, i e] 89 1 true, true)]
def S10 : Shape Int := ⟨236, fun j => ⟨[(0, sl 1 0 n n), (2, .int .u8 x), (4, pt 2 0), (51, sl 1 0 n n), (52, i n), (53, i j)], hp10 cs t s ex a e⟩, fun k _ => match k with
  | 0 => (.exit 0, ⟨[(0, sl 1 0 n n), (2, .int .u8 x), (4, pt 2 0)], hp10 cs t s ex a e⟩)
  | _ => (.ret, ⟨[(6, b_ true)], hp10 cs t s ex a e⟩)⟩
noncomputable def st10 (j : Int) : SS Int := .br (ltF j n) (askS (bnd_ j n n) <| askS (cB cs (.i .i64) j) <| .br (ltF 500 (eI cs j.toNat)) (.done 3 [0, 1, 2] 1) (.br (ltF (eI cs j.toNat) (-500)) (.done 3 [0, 1, 2] 1) (.next 3 [0, 1, 2] (wrapF .i64 (j + 1))))) (.done 3 [0, 1, 2] 0)
end
theorem hp10_flat {cs : List Value} {t s : Nat} {ex : Bool} {a e : Int} (h : cs.all Ex.flat = true) : ∀ o, (o, true) ∈ hp10 cs t s ex a e → FlatO o := by
  intro o ho
  simp only [hp10, List.mem_cons, Prod.mk.injEq, and_true, List.not_mem_nil, or_false] at ho
  rcases ho with ⟨_, h'⟩ | rfl | rfl
  · cases h'
  · exact fun x hx => List.all_eq_true.1 h x hx
  · exact fun x hx => List.all_eq_true.1 (show [i a, i e].all Ex.flat = true from rfl) x hx
theorem L10 (haw : Pure Try.prog Hd 11 [] (b_ true)) {cs : List Value} {n t s : Nat} {ex : Bool} {a e x : Int} (h : cs.all Ex.flat = true) : Loop1 Try.prog 2 10 B10 (S10 cs n t s ex a e x) 3 (st10 cs n) (fun _ => True) :=
  .mk' (C := fun _ => C10l) (n := 60) (fun _ _ => tsm9 haw) (fun _ _ => .none) (fun q ro _ => by kernel_rfl) (fun q ro _ => by kernel_rfl) (fun q => by kernel_rfl) (fun _ _ _ _ => trivial)
    (fun _ _ => hp10_flat h) (fun q k _ _ => by
      match k with
      | 0 => exact ⟨hp10_flat h, fun h => by cases h⟩
      | k + 1 => exact ⟨hp10_flat h, fun h => by cases h⟩)
end Go.Proofs.Yteemponkignnhaa.Ways
set_option maxRecDepth 10000
noncomputable section
namespace Go.Proofs.Yteemponkignnhaa.Ways
open Go Go.Ex Go.RowKit Go.Turn
noncomputable def TS1 (f : Bool) : Tb := ext (ext (ext (ext (ext (ext (ext (ext (ext (ext (ext (ext TM9 14 (xE 0 rd0 sp12 [] (heapL deads))) 15 (autoE (sp13g true) [] (heapL deads))) 17 (autoE (sp13g true) [] (heapL deads))) 48 (autoE (sp48l true) [] (heapL deads))) 45 (autoE sp43 [] (heapL deads))) 50 (autoE sp47 [] (heapL deads))) 81 (autoE sp77 [] (heapL deads))) 46 (autoE sp44 [] (heapL deads))) 51 (autoE sp48 [] (heapL deads))) 25 (newE (sp23 86) [] (heapL deads))) 38 (twoE (sp36 f) [] (heapL deads))) 87 (autoE (sp48l true) [] (heapL deads))
theorem tsS1 {G : Nat} (haw : Pure Try.prog Hd 11 [] (b_ true)) (f : Bool) : TSound Try.prog G (TS1 f) :=
  ((((((((((((tsm9 haw).x c12).auto (c13g 15 (.inl rfl) true)).auto (c13g 17 (.inr rfl) true)).auto (c48l true)).auto c43).auto c47).auto c77).auto c44).auto c48).new c23).two (c36 f)).auto c87l
noncomputable def L10t (cs : List Value) (n t s : Nat) (ex : Bool) (a e x : Int) (r : Nat × Int) : LTab := loopE noL 10 4 236 3 B10 ((S10 cs n t s ex a e x).st 0).live ((S10 cs n t s ex a e x).st 0).hp (finO (S10 cs n t s ex a e x) r [0])
noncomputable def sp10 : Nat → Nat → Split := at_ [(10, 33), (10, 48), (49, 60), (10, 113), (10, 132), (10, 136), (10, 139), (10, 141), (10, 144), (10, 151), (10, 154), (10, 160), (10, 165), (10, 206), (10, 210), (10, 228), (10, 234)] .bool no_
section
variable (cs : List Value) (n : Nat) (a x e : Int)
noncomputable def rE (u : Int) : Int := if u = 0 then 7 else 0
noncomputable def rN (b u : Int) : Int := if u = 0 then 0 else b.tdiv u
def m10 : Int := wrapF .i64 (1 + (IntKind.i64.wrap x).tmod 20)
noncomputable def d10 : Int := sL e (rgs (flatC (CC_ cs n)) (CC_ cs n).length)
noncomputable def r10 (f : Bool) (x e : Int) : Int := rtI ((cond f (d10 cs n e) 0).tdiv (m10 x)) e
def pw10 (r e : Int) : Int := if e = 1 then wrapF .i64 (1 * r) else if e = 2 then wrapF .i64 (wrapF .i64 (1 * r) * r) else wrapF .i64 (wrapF .i64 (wrapF .i64 (1 * r) * r) * r)
noncomputable def en10 (f : Bool) : VT := vP (n = n ∧ P36 f cs n) <| cond f (fun t => vP (CfE (flatC (CC_ cs n)) (CC_ cs n).length (CC_ cs n).length) <| vP (GcE (flatC (CC_ cs n)) (CC_ cs n).length (CC_ cs n).length ∧ (CC_ cs n).length ≤ 100 ∧ ex3 e) <|
    vP (CfE (flatC (CC_ cs n)) (CC_ cs n).length (CC_ cs n).length) <| vP (GcE (flatC (CC_ cs n)) (CC_ cs n).length (CC_ cs n).length ∧ (CC_ cs n).length ≤ 100 ∧ ex3 e ∧ 1 ≤ m10 x ∧ m10 x ≤ 999999999) t) (fun t => vP (ex3 e) <| vP (ex3 e ∧ 1 ≤ m10 x ∧ m10 x ≤ 999999999) t) <|
  .br (ltF (r10 cs n f x e) 0) lfF <| .br (ltF 100000 (r10 cs n f x e)) lfF <| .br (leF (wrapF .i64 (m10 x * pw10 (r10 cs n f x e) e)) (cond f (d10 cs n e) 0)) (.br (ltF (cond f (d10 cs n e) 0) (wrapF .i64 (m10 x * pw10 (wrapF .i64 (r10 cs n f x e + 1)) e))) lfT lfF) lfF
noncomputable def tl10 (f : Bool) (k left : Int) : VT := vP (okC cs n n) <| vP (n = n ∧ Fx cs n 0 ∧ ex3 e ∧ 1 ≤ a ∧ a ≤ 1152921504606846976) <| vP (okC cs n n) <| vP (n = n ∧ Fx cs n 0 ∧ ex3 e ∧ 1 ≤ wrapF .i64 (a + 1) ∧ wrapF .i64 (a + 1) ≤ 1152921504606846976) <|
  .br (ltF (vT cs n e) 0) lfF <| .br (!eqF left (wrapF .i64 (wrapF .i64 (2 * a) - wrapF .i64 (k * vT cs n e)))) lfF <| .br (ltF left 0) lfF <|
  .br (eqF (vT cs n e) 0) (.br (!eqF (rE (vT cs n e)) 7) lfF <| .br (!eqF (rE (vT cs n e)) 7) lfF <| cond (eqF k 3) (en10 cs n x e f) lfF)
    (.br (!eqF (rE (vT cs n e)) 0) lfF <| .br (!eqF (rE (vT cs n e)) 0) lfF <| .br (!eqF k (minQ (rN (2 * a) (vT cs n e)) 3)) lfF <| .br (ltF (rN (2 * wrapF .i64 (a + 1)) (vT cs n e)) (rN (2 * a) (vT cs n e))) lfF (en10 cs n x e f))
def l1_ (b v : Int) : Int := wrapF .i64 (b - v)
noncomputable def t10 (f : Bool) : VT := .br (ltF 12 n) lfT <| vP (LokE cs n n) <| vP (1 ≤ a ∧ a ≤ mxL ∧ ex3 e) <| .br (ltF 1000000 a) lfT <| .br true (vP (okC cs n n) <| vP (n = n ∧ Fx cs n 0 ∧ ex3 e) <| vP (okC cs n n) <| vP (okC cs n n) <| vP (okC cs n n) <| vP (1 ≤ a ∧ a ≤ mxL ∧ ex3 e) <|
  vP (LokE cs n n) <| vP (LokE cs n n) <| vP (LokE cs n n) <| vP (okI [i 0, i 0, i 0] 3 3) <| vP (n = n ∧ Fx cs n 0 ∧ ex3 e) <| vP (n = n ∧ Fx cs n 0 ∧ ex3 e) <| vP (n = n ∧ Fx cs n 0 ∧ ex3 e) <|
  .br (leF (vT cs n e) (wrapF .i64 (2 * a))) (.br (leF (vT cs n e) (l1_ (wrapF .i64 (2 * a)) (vT cs n e))) (.br (leF (vT cs n e) (l1_ (l1_ (wrapF .i64 (2 * a)) (vT cs n e)) (vT cs n e))) (tl10 cs n a x e f 3 (l1_ (l1_ (l1_ (wrapF .i64 (2 * a)) (vT cs n e)) (vT cs n e)) (vT cs n e)))
    (tl10 cs n a x e f 2 (l1_ (l1_ (wrapF .i64 (2 * a)) (vT cs n e)) (vT cs n e)))) (tl10 cs n a x e f 1 (l1_ (wrapF .i64 (2 * a)) (vT cs n e)))) (tl10 cs n a x e f 0 (wrapF .i64 (2 * a)))) .fail
end
section
variable (cs : List Value) (n t s : Nat) (ex : Bool) (a x j : Int)
noncomputable def o10 (e : Int) (f : Bool) : Out QRes := execO Try.prog 2 ⟨TS1 f, sp10, off_, L10t cs n t s ex a e x (0, j)⟩ 90 (.call 10 ⟨[sl 1 0 n n, ag [i a, i e], .int .u8 x]⟩ (heapL (deads ++ [.cells cs t s ex])))
theorem v10_1t : (o10 cs n t s ex a x j 1 true).vals = t10 cs n a x 1 true := by kernel_rfl
theorem x10_1t : o10 cs n t s ex a x j 1 true = (o10 cs n t s ex a x j 1 true).fix := by kernel_rfl
theorem v10_1f : (o10 cs n t s ex a x j 1 false).vals = t10 cs n a x 1 false := by kernel_rfl
theorem x10_1f : o10 cs n t s ex a x j 1 false = (o10 cs n t s ex a x j 1 false).fix := by kernel_rfl
theorem v10_2t : (o10 cs n t s ex a x j 2 true).vals = t10 cs n a x 2 true := by kernel_rfl
theorem x10_2t : o10 cs n t s ex a x j 2 true = (o10 cs n t s ex a x j 2 true).fix := by kernel_rfl
theorem v10_2f : (o10 cs n t s ex a x j 2 false).vals = t10 cs n a x 2 false := by kernel_rfl
theorem x10_2f : o10 cs n t s ex a x j 2 false = (o10 cs n t s ex a x j 2 false).fix := by kernel_rfl
theorem v10_3t : (o10 cs n t s ex a x j 3 true).vals = t10 cs n a x 3 true := by kernel_rfl
theorem x10_3t : o10 cs n t s ex a x j 3 true = (o10 cs n t s ex a x j 3 true).fix := by kernel_rfl
theorem v10_3f : (o10 cs n t s ex a x j 3 false).vals = t10 cs n a x 3 false := by kernel_rfl
theorem x10_3f : o10 cs n t s ex a x j 3 false = (o10 cs n t s ex a x j 3 false).fix := by kernel_rfl
end
end Go.Proofs.Yteemponkignnhaa.Ways
set_option maxRecDepth 10000
noncomputable section
namespace Go.Proofs.Yteemponkignnhaa.Ways
open Go Go.Ex Go.RowKit Go.Turn
theorem sL_up {e : Int} : ∀ {l : List Int}, (∀ x ∈ l, 0 ≤ x ∧ x ≤ 65536) → sL e l ≤ 281474976710656 * l.length
  | [], _ => Int.le_refl _
  | x :: l, h => by
    have h1 := sL_up (e := e) fun y hy => h y (List.mem_cons_of_mem _ hy)
    have h2 := pwI_bd (e := e) (h x (List.mem_cons_self ..))
    show pwI x e + sL e l ≤ 281474976710656 * ((l.length + 1 : Nat) : Int)
    omega
section
variable {cs : List Value} {n : Nat} {a x e : Int} {f : Bool}
theorem Fx.vT_up (h : Fx cs n 0) : vT cs n e ≤ 281474976710656 * 72 := by
  have h1 := sL_up (e := e) h.rg_bd
  have h2 := sL_up (e := e) h.df_bd
  have h3 : vT cs n e = sL e (rgC cs n) + sL e (rgC cs n) + sL e (dfC cs n) := rfl
  rw [rgC_len] at h1
  rw [dfC_len] at h2
  have := h.sz
  omega
theorem Fx.d10_bd (h : Fx cs n 0) (he : ex3 e) : 0 ≤ d10 cs n e ∧ d10 cs n e ≤ 281474976710656 * 24 := by
  have h1 := sL_up (e := e) h.rg_bd
  have h0 := sL_nn he h.rg_bd
  rw [rgC_len] at h1
  have := h.sz
  exact ⟨h0, by show sL e (rgC cs n) ≤ _; omega⟩
theorem m10_eq (hx : 0 ≤ x ∧ x ≤ 255) : m10 x = 1 + x.tmod 20 ∧ 1 ≤ m10 x ∧ m10 x ≤ 20 := by
  have hw : IntKind.i64.wrap x = x := by
    have := wrapF_in (n := x) (by omega) (by omega)
    rwa [wrapF_eq] at this
  have h1 := Int.tmod_nonneg 20 hx.1
  have h2 := Int.tmod_lt_of_pos x (b := 20) (by omega)
  unfold m10
  rw [hw, wrapF_in (by omega) (by omega)]
  omega
theorem pw10_eq (he : ex3 e) {r : Int} (h0 : 0 ≤ r) (h1 : r ≤ 100001) : pw10 r e = pwI r e ∧ 0 ≤ pwI r e ∧ pwI r e ≤ 1000030000300001 := by
  have b2 : r * r ≤ 100001 * 100001 := Int.mul_le_mul h1 h1 h0 (by omega)
  have n2 : 0 ≤ r * r := Int.mul_nonneg h0 h0
  have b3 : r * r * r ≤ 100001 * 100001 * 100001 := Int.mul_le_mul b2 h1 h0 (by omega)
  have n3 : 0 ≤ r * r * r := Int.mul_nonneg n2 h0
  have e1 : wrapF .i64 (1 * r) = r := by rw [Int.one_mul, wrapF_in (by omega) (by omega)]
  have e2 : wrapF .i64 (r * r) = r * r := wrapF_in (by omega) (by omega)
  have e3 : wrapF .i64 (r * r * r) = r * r * r := wrapF_in (by omega) (by omega)
  rcases he with rfl | rfl | rfl
  · exact ⟨e1, h0, by show r ≤ _; omega⟩
  · refine ⟨?_, n2, by show r * r ≤ _; omega⟩
    show wrapF .i64 (wrapF .i64 (1 * r) * r) = _
    rw [e1, e2]; rfl
  · refine ⟨?_, n3, by show r * r * r ≤ _; omega⟩
    show wrapF .i64 (wrapF .i64 (wrapF .i64 (1 * r) * r) * r) = _
    rw [e1, e2, e3]; rfl
theorem en10_sel (h : Fx cs n 0) (he : ex3 e) (hx : 0 ≤ x ∧ x ≤ 255) (hf : if f = true then CC_ cs n ≠ [] else CC_ cs n = []) (hr : r10 cs n f x e ≤ 100000) : (en10 cs n x e f).sel = some (b_ true) := by
  obtain ⟨_, m1, m2⟩ := m10_eq hx
  obtain ⟨d1, d2⟩ := h.d10_bd he
  have hd : 0 ≤ cond f (d10 cs n e) 0 ∧ cond f (d10 cs n e) 0 ≤ 281474976710656 * 24 := by
    cases f with
    | true => exact ⟨d1, d2⟩
    | false => exact ⟨Int.le_refl _, by show (0 : Int) ≤ _; omega⟩
  obtain ⟨r1, r2, r3⟩ := root_law (d := cond f (d10 cs n e) 0) (m := m10 x) he hd.1 (by omega) m1
  have r1' : 0 ≤ r10 cs n f x e := r1
  obtain ⟨p1, p2, p3⟩ := pw10_eq (r := r10 cs n f x e) he r1 (by omega)
  obtain ⟨q1, q2, q3⟩ := pw10_eq (r := r10 cs n f x e + 1) he (by omega) (by omega)
  have w1 : wrapF .i64 (r10 cs n f x e + 1) = r10 cs n f x e + 1 := wrapF_in (by omega) (by omega)
  have r2' : m10 x * pwI (r10 cs n f x e) e ≤ cond f (d10 cs n e) 0 := r2
  have r3' : cond f (d10 cs n e) 0 < m10 x * pwI (r10 cs n f x e + 1) e := r3
  have n1 : 0 ≤ m10 x * pwI (r10 cs n f x e) e := Int.mul_nonneg (by omega) p2
  have u2 : m10 x * pwI (r10 cs n f x e + 1) e ≤ 20 * 1000030000300001 := Int.mul_le_mul m2 q3 q2 (by omega)
  have hend : (VT.br (ltF (r10 cs n f x e) 0) lfF <| .br (ltF 100000 (r10 cs n f x e)) lfF <| .br (leF (wrapF .i64 (m10 x * pw10 (r10 cs n f x e) e)) (cond f (d10 cs n e) 0)) (.br (ltF (cond f (d10 cs n e) 0) (wrapF .i64 (m10 x * pw10 (wrapF .i64 (r10 cs n f x e + 1)) e))) lfT lfF) lfF).sel = some (b_ true) := by
    rw [vb_f (by rw [ltF_eq]; exact decide_eq_false (by omega)), vb_f (by rw [ltF_eq]; exact decide_eq_false (by omega)), w1, p1, q1, wrapF_in (n := m10 x * pwI (r10 cs n f x e) e) (by omega) (by omega), wrapF_in (n := m10 x * pwI (r10 cs n f x e + 1) e) (by omega) (by omega),
      vb_t (by rw [leF_eq]; exact decide_eq_true r2'), vb_t (by rw [ltF_eq]; exact decide_eq_true r3')]; rfl
  unfold en10
  rw [vP_sel ⟨rfl, h, hf⟩]
  cases f with
  | true =>
    have hsz := h.sz
    refine (vP_sel (h.cf hf)).trans ((vP_sel ⟨h.gc, by omega, he⟩).trans ((vP_sel (h.cf hf)).trans ((vP_sel ⟨h.gc, by omega, he, m1, by omega⟩).trans hend)))
  | false => exact (vP_sel he).trans ((vP_sel ⟨he, m1, by omega⟩).trans hend)
theorem tl10_sel (h : Fx cs n 0) (he : ex3 e) (ha : 1 ≤ a ∧ a ≤ 1000000) (hx : 0 ≤ x ∧ x ≤ 255) (hf : if f = true then CC_ cs n ≠ [] else CC_ cs n = []) (hr : r10 cs n f x e ≤ 100000) {k left : Int} (hk : k = kSp (2 * a) (vT cs n e)) (hl : left = lSp (2 * a) (vT cs n e)) : (tl10 cs n a x e f k left).sel = some (b_ true) := by
  have v0 := h.vT_nn he
  have v1 := h.vT_up (e := e)
  have hen := en10_sel h he hx hf hr
  have hw : wrapF .i64 (a + 1) = a + 1 := wrapF_in (by omega) (by omega)
  have hw2 : wrapF .i64 (2 * a) = 2 * a := wrapF_in (by omega) (by omega)
  have hle := lSp_eq (2 * a) (vT cs n e)
  have hln := lSp_nn (b := 2 * a) (v := vT cs n e) (by omega)
  have hkb := kSp_bd (2 * a) (vT cs n e)
  have hkv : 0 ≤ kSp (2 * a) (vT cs n e) * vT cs n e := Int.mul_nonneg hkb.1 v0
  unfold tl10
  rw [vP_sel h.lok.2.1, vP_sel ⟨rfl, h, he, ha.1, by omega⟩, vP_sel h.lok.2.1, vP_sel ⟨rfl, h, he, by rw [hw]; omega, by rw [hw]; omega⟩, vb_f (by rw [ltF_eq]; exact decide_eq_false (by omega)), hw2, hw, hk, hl,
    wrapF_in (n := kSp (2 * a) (vT cs n e) * vT cs n e) (by omega) (by omega), wrapF_in (n := 2 * a - kSp (2 * a) (vT cs n e) * vT cs n e) (by omega) (by omega), vb_f (by rw [← hle, eqF_d, decide_eq_true rfl]; rfl), vb_f (by rw [ltF_eq]; exact decide_eq_false (by omega))]
  by_cases hv : vT cs n e = 0
  · rw [vb_t (by rw [eqF_d]; exact decide_eq_true hv)]
    have hE : rE (vT cs n e) = 7 := if_pos hv
    rw [hE, vb_f (by rfl), vb_f (by rfl), hv, kSp_zero (by omega)]
    exact hen
  · rw [vb_f (by rw [eqF_d]; exact decide_eq_false hv)]
    have hE : rE (vT cs n e) = 0 := if_neg hv
    have hN : ∀ b, rN b (vT cs n e) = b.tdiv (vT cs n e) := fun b => if_neg hv
    have hmin := kSp_min (b := 2 * a) (v := vT cs n e) (by omega) (by omega)
    have hmore := div_more (a := a) (v := vT cs n e) (by omega) (by omega)
    rw [hE, vb_f (by rfl), vb_f (by rfl), hN, hN, vb_f (by
      rw [eqF_d, hmin]
      unfold minQ
      have hq : (if (2 * a).tdiv (vT cs n e) < 3 then (2 * a).tdiv (vT cs n e) else 3) = if 3 < (2 * a).tdiv (vT cs n e) then 3 else (2 * a).tdiv (vT cs n e) := by split <;> split <;> omega
      rw [decide_eq_true hq]; rfl), vb_f (by rw [ltF_eq]; exact decide_eq_false (by omega))]
    exact hen
theorem t10_sel (h : Fx cs n 0) (hn : n ≤ 12) (he : ex3 e) (ha : 1 ≤ a ∧ a ≤ 1000000) (hx : 0 ≤ x ∧ x ≤ 255) (hf : if f = true then CC_ cs n ≠ [] else CC_ cs n = []) (hr : r10 cs n f x e ≤ 100000) : (t10 cs n a x e f).sel = some (b_ true) := by
  have v0 := h.vT_nn he
  have v1 := h.vT_up (e := e)
  have hw2 : wrapF .i64 (2 * a) = 2 * a := wrapF_in (by omega) (by omega)
  have hm : 1 ≤ a ∧ a ≤ mxL ∧ ex3 e := ⟨ha.1, by unfold mxL; omega, he⟩
  have c1 := h.lok.1
  have c2 := h.lok.2.1
  have go : ∀ {k left : Int}, k = kSp (2 * a) (vT cs n e) → left = lSp (2 * a) (vT cs n e) → (tl10 cs n a x e f k left).sel = some (b_ true) := fun hk hl => tl10_sel h he ha hx hf hr hk hl
  unfold t10
  rw [vb_f (by rw [ltF_eq]; exact decide_eq_false (by omega)), vP_sel c1, vP_sel hm, vb_f (by rw [ltF_eq]; exact decide_eq_false (by omega)), vb_t rfl, vP_sel c2, vP_sel ⟨rfl, h, he⟩, vP_sel c2, vP_sel c2, vP_sel c2, vP_sel hm, vP_sel c1, vP_sel c1, vP_sel c1, vP_sel (okI3 _ _ _), vP_sel ⟨rfl, h, he⟩, vP_sel ⟨rfl, h, he⟩, vP_sel ⟨rfl, h, he⟩, hw2]
  by_cases h1 : vT cs n e ≤ 2 * a
  · have e1 : l1_ (2 * a) (vT cs n e) = 2 * a - vT cs n e := wrapF_in (by omega) (by omega)
    rw [vb_t (by rw [leF_eq]; exact decide_eq_true h1), e1]
    by_cases h2 : vT cs n e ≤ 2 * a - vT cs n e
    · have e2 : l1_ (2 * a - vT cs n e) (vT cs n e) = 2 * a - vT cs n e - vT cs n e := wrapF_in (by omega) (by omega)
      rw [vb_t (by rw [leF_eq]; exact decide_eq_true h2), e2]
      by_cases h3 : vT cs n e ≤ 2 * a - vT cs n e - vT cs n e
      · have e3 : l1_ (2 * a - vT cs n e - vT cs n e) (vT cs n e) = 2 * a - vT cs n e - vT cs n e - vT cs n e := wrapF_in (by omega) (by omega)
        rw [vb_t (by rw [leF_eq]; exact decide_eq_true h3), e3]
        exact go (by unfold kSp; rw [if_pos h1, if_pos h2, if_pos h3]) (by unfold lSp; rw [if_pos h1, if_pos h2, if_pos h3])
      · rw [vb_f (by rw [leF_eq]; exact decide_eq_false h3)]
        exact go (by unfold kSp; rw [if_pos h1, if_pos h2, if_neg h3]) (by unfold lSp; rw [if_pos h1, if_pos h2, if_neg h3])
    · rw [vb_f (by rw [leF_eq]; exact decide_eq_false h2)]
      exact go (by unfold kSp; rw [if_pos h1, if_neg h2]) (by unfold lSp; rw [if_pos h1, if_neg h2])
  · rw [vb_f (by rw [leF_eq]; exact decide_eq_false h1)]
    exact go (by unfold kSp; rw [if_neg h1]) (by unfold lSp; rw [if_neg h1])
end
end Go.Proofs.Yteemponkignnhaa.Ways
set_option maxRecDepth 10000
noncomputable section
namespace Go.Proofs.Yteemponkignnhaa.Ways
open Go Go.Ex Go.RowKit Go.Turn
def smS (cs : List Value) (j : Nat) : Prop := -500 ≤ eI cs j ∧ eI cs j ≤ 500
section
variable {cs : List Value} {n : Nat}
theorem st10_go (h : okI cs n n) (hn : n < 1000000) {j : Nat} (hj : j < n) (hs : smS cs j) : (st10 cs n (j : Int)).sel = some (.inl ((j + 1 : Nat) : Int)) := by
  unfold smS at hs
  unfold st10
  rw [br_t (by rw [ltF_eq]; exact decide_eq_true (by omega)), askS_sel (bnd_t hj h.2.1), askS_sel (cB_t h hj), show ((j : Nat) : Int).toNat = j from rfl, br_f (by rw [ltF_eq]; exact decide_eq_false (by omega)), br_f (by rw [ltF_eq]; exact decide_eq_false (by omega)), wsucc (by omega)]; rfl
theorem st10_out (h : okI cs n n) {j : Nat} (hj : j < n) (hs : ¬ smS cs j) : (st10 cs n (j : Int)).sel = some (.inr 1) := by
  unfold smS at hs
  unfold st10
  rw [br_t (by rw [ltF_eq]; exact decide_eq_true (by omega)), askS_sel (bnd_t hj h.2.1), askS_sel (cB_t h hj), show ((j : Nat) : Int).toNat = j from rfl]
  by_cases h1 : 500 < eI cs j
  · rw [br_t (by rw [ltF_eq]; exact decide_eq_true h1)]; rfl
  · rw [br_f (by rw [ltF_eq]; exact decide_eq_false h1), br_t (by rw [ltF_eq]; exact decide_eq_true (by omega))]; rfl
theorem st10_end : (st10 cs n (n : Int)).sel = some (.inr 0) := by
  unfold st10
  rw [br_f (by rw [ltF_eq]; simp)]; rfl
theorem run10_all (h : okI cs n n) (hn : n < 1000000) (hs : ∀ j, j < n → smS cs j) : runS (st10 cs n) (n + 1) 0 = some (0, (n : Int)) :=
  run_all (step := st10 cs n) (st := fun j => ((j : Nat) : Int)) (a := 0) n (fun j hj => st10_go h hn hj (hs j hj)) st10_end
theorem run10_out (h : okI cs n n) (hn : n < 1000000) (hs : ¬ ∀ j, j < n → smS cs j) : ∃ q, runS (st10 cs n) (n + 1) 0 = some (1, q) := by
  have hd : ∀ j, ¬ smS cs j → @ite Int (smS cs j) (Classical.propDecidable _) 0 1 = 1 := fun j h => if_neg h
  obtain ⟨r, h3, h4⟩ := run_first (step := st10 cs n) (e := fun j => @ite Int (smS cs j) (Classical.propDecidable _) 0 1) (st := fun j => ((j : Nat) : Int)) (a := 0) (b := fun _ => 1) n (fun j hj he => st10_go h hn hj (Classical.byContradiction fun hh => by rw [hd j hh] at he; cases he))
    (fun _ hj he => st10_out h hj (fun hh => he (if_pos hh))) st10_end
  rcases h4 with ⟨g1, rfl⟩ | ⟨g1, j, _, rfl, _, _⟩
  · refine absurd (fun j hj => ?_) hs
    have := firstF_zr.1 g1 j hj
    exact Classical.byContradiction fun hh => by rw [hd j hh] at this; cases this
  · exact ⟨_, h3⟩
end
noncomputable def T10b : Tb := ext (ext TM9 15 (autoE sp13 [] (heapL deads))) 48 (autoE (sp48l false) [] (heapL deads))
noncomputable def C10b : Cfg := ⟨T10b, at_ [(10, 33), (10, 38), (10, 43), (10, 48)] .bool (at_ [(10, 52)] (.ints []) no_), off_, noL⟩
noncomputable def C10x (cs : List Value) (n t s : Nat) (ex : Bool) (a e x j : Int) : Cfg := ⟨ext (ext TM9 15 (autoE (sp13g true) [] (heapL deads))) 48 (autoE (sp48l true) [] (heapL deads)), at_ [(10, 33), (10, 48)] .bool no_, off_, loopE noL 10 4 236 3 B10 ((S10 cs n t s ex a e x).st 0).live ((S10 cs n t s ex a e x).st 0).hp (finO (S10 cs n t s ex a e x) (1, j) [1])⟩
section
variable (cs : List Value) (n t s : Nat) (ex : Bool) (a e x j : Int)
noncomputable def o10b : Out QRes := execO Try.prog 2 C10b 60 (.call 10 ⟨[sl 1 0 n n, ag [i a, i e], .int .u8 x]⟩ (heapL (deads ++ [.cells cs t s ex])))
noncomputable def o10x : Out QRes := execO Try.prog 2 (C10x cs n t s ex a e x j) 60 (.call 10 ⟨[sl 1 0 n n, ag [i a, i e], .int .u8 x]⟩ (heapL (deads ++ [.cells cs t s ex])))
theorem v10b : (o10b cs n t s ex a e x).vals = (.br (ltF 12 n) lfT <| vP (okI cs n n) <| .br (!eqF (clE cs n) 0) lfT <| vP True <| .br (!eqF (fst2 (rgE a 1 mxL) (rgE e 1 3)) 0) lfT <| .br (ltF 1000000 a) lfT .fail) := by kernel_rfl
theorem x10b : o10b cs n t s ex a e x = (o10b cs n t s ex a e x).fix := by kernel_rfl
theorem v10x : (o10x cs n t s ex a e x j).vals = (.br (ltF 12 n) lfT <| vP (LokE cs n n) <| vP (1 ≤ a ∧ a ≤ mxL ∧ ex3 e) <| .br (ltF 1000000 a) lfT <| .br true lfT .fail) := by kernel_rfl
theorem x10x : o10x cs n t s ex a e x j = (o10x cs n t s ex a e x j).fix := by kernel_rfl
end
end Go.Proofs.Yteemponkignnhaa.Ways
set_option maxRecDepth 10000
noncomputable section
namespace Go.Proofs.Yteemponkignnhaa.Ways
open Go Go.Ex Go.RowKit Go.Turn
section
variable {cs : List Value} {n : Nat} {x e : Int} {f : Bool}
theorem rv_mem {p : Pt} (hp : p ∈ rvI cs n) : ∃ k, k < n ∧ p.2 = eI cs k := by
  have h1 : p ∈ (rvI cs n).reverse := List.mem_reverse.2 hp
  rw [rvI_rev] at h1
  rcases fold_mem h1 with h1 | h1
  · obtain ⟨k, hk, rfl⟩ := ipts_mem h1
    exact ⟨k, hk, rfl⟩
  · cases h1
theorem Fx.rg_small (h : Fx cs n 0) (hs : ∀ j, j < n → smS cs j) : ∀ y ∈ rgC cs n, 0 ≤ y ∧ y ≤ 1000 := by
  intro y hy
  unfold rgC rgs at hy
  obtain ⟨j, hj, rfl⟩ := List.mem_map.1 hy
  have hj := List.mem_range.1 hj
  obtain ⟨_, _, f2, f3⟩ := f_fl hj
  obtain ⟨m1, m2⟩ := h.memC (List.getElem_mem hj)
  obtain ⟨k1, hk1, e1⟩ := rv_mem m1
  obtain ⟨k2, hk2, e2⟩ := rv_mem m2
  have s1 := hs k1 hk1
  have s2 := hs k2 hk2
  unfold smS at s1 s2
  rw [← e1] at s1
  rw [← e2] at s2
  show 0 ≤ szC (f_ (flatC (CC_ cs n)) j 2) (f_ (flatC (CC_ cs n)) j 3) ∧ szC (f_ (flatC (CC_ cs n)) j 2) (f_ (flatC (CC_ cs n)) j 3) ≤ 1000
  rw [f2, f3]
  unfold szC
  have b : 0 ≤ maxQ (CC_ cs n)[j].1.2 (CC_ cs n)[j].2.2 - minQ (CC_ cs n)[j].1.2 (CC_ cs n)[j].2.2 ∧ maxQ (CC_ cs n)[j].1.2 (CC_ cs n)[j].2.2 - minQ (CC_ cs n)[j].1.2 (CC_ cs n)[j].2.2 ≤ 1000 := by
    unfold maxQ minQ
    constructor <;> (split <;> split <;> omega)
  rw [wrapF_in (by omega) (by omega)]
  exact b
theorem sL_small (he : ex3 e) : ∀ {l : List Int}, (∀ y ∈ l, 0 ≤ y ∧ y ≤ 1000) → sL e l ≤ pwI 1000 e * l.length
  | [], _ => by show (0 : Int) ≤ _; rw [show (([] : List Int).length : Int) = 0 from rfl, Int.mul_zero]; exact Int.le_refl _
  | y :: l, h => by
    have h1 := sL_small he fun z hz => h z (List.mem_cons_of_mem _ hz)
    have h2 := h y (List.mem_cons_self ..)
    have h3 := pw_mono he h2.1 h2.2
    show pwI y e + sL e l ≤ pwI 1000 e * ((l.length + 1 : Nat) : Int)
    rw [show ((l.length + 1 : Nat) : Int) = (l.length : Int) + 1 from rfl, Int.mul_add, Int.mul_one]
    omega
theorem r10_small (h : Fx cs n 0) (he : ex3 e) (hx : 0 ≤ x ∧ x ≤ 255) (hs : ∀ j, j < n → smS cs j) : r10 cs n f x e ≤ 100000 := by
  obtain ⟨_, m1, m2⟩ := m10_eq hx
  obtain ⟨d1, d2⟩ := h.d10_bd he
  have hsm := sL_small he (h.rg_small hs)
  rw [rgC_len] at hsm
  have hsz := h.sz
  have p0 : 0 ≤ pwI 1000 e := pw_nn he (by omega)
  have hc : pwI 1000 e * ((CC_ cs n).length : Int) ≤ pwI 1000 e * 12 := Int.mul_le_mul_of_nonneg_left (by omega) p0
  have hd : 0 ≤ cond f (d10 cs n e) 0 ∧ cond f (d10 cs n e) 0 ≤ pwI 1000 e * 12 ∧ cond f (d10 cs n e) 0 ≤ 1152921504606846976 := by
    cases f with
    | true => exact ⟨d1, by have : d10 cs n e ≤ pwI 1000 e * ((CC_ cs n).length : Int) := hsm; show d10 cs n e ≤ _; omega, by show d10 cs n e ≤ _; omega⟩
    | false => exact ⟨Int.le_refl _, by show (0 : Int) ≤ _; omega, by show (0 : Int) ≤ _; omega⟩
  have q0 : 0 ≤ (cond f (d10 cs n e) 0).tdiv (m10 x) := Int.tdiv_nonneg hd.1 (by omega)
  have q1 : (cond f (d10 cs n e) 0).tdiv (m10 x) ≤ cond f (d10 cs n e) 0 := by
    rw [Int.tdiv_eq_ediv_of_nonneg hd.1]
    exact Int.ediv_le_self _ hd.1
  obtain ⟨a1, a2, _⟩ := rt_is he q0 (by omega)
  refine Classical.byContradiction fun hc2 => ?_
  have h9 : pwI 100001 e ≤ pwI (r10 cs n f x e) e := pw_mono he (by omega) (by omega)
  have a2' : pwI (r10 cs n f x e) e ≤ (cond f (d10 cs n e) 0).tdiv (m10 x) := a2
  have hnum : pwI 1000 e * 12 < pwI 100001 e := by rcases he with rfl | rfl | rfl <;> decide
  omega
end
end Go.Proofs.Yteemponkignnhaa.Ways
set_option maxRecDepth 10000
noncomputable section
namespace Go.Proofs.Yteemponkignnhaa.Ways
open Go Go.Ex Go.RowKit Go.Turn
section
variable {cs : List Value} {n t s : Nat} {ex : Bool} {a e x : Int}
theorem law10_pos (haw : Pure Try.prog Hd 11 [] (b_ true)) (hc : rawI cs n) (hx : 0 ≤ x ∧ x ≤ 255) (h1 : 1 ≤ n) :
    ∃ H', Sound Try.prog 2 (.call 10 ⟨[sl 1 0 n n, ag [i a, i e], .int .u8 x]⟩ (heapL (deads ++ [.cells cs t s ex]))) (.val (b_ true) H') := by
  have fin : (o10b cs n t s ex a e x).vals.sel = some (b_ true) → ∃ H', Sound Try.prog 2 (.call 10 ⟨[sl 1 0 n n, ag [i a, i e], .int .u8 x]⟩ (heapL (deads ++ [.cells cs t s ex]))) (.val (b_ true) H') := fun hs => by
    obtain ⟨H', h'⟩ := Out.vals_sel (x10b cs n t s ex a e x) hs
    exact ⟨H', execO_sound (C := C10b) (((tsm9 haw).auto c13).auto (c48l false)) .none 60 _ _ h'⟩
  by_cases n12 : 12 < n
  · exact fin (by rw [v10b, vb_t (by rw [ltF_eq]; exact decide_eq_true (by omega))]; rfl)
  have hok : okI cs n n := ⟨hc.1, Nat.le_refl _, by omega, hc.2.2⟩
  by_cases hcl : clE cs n = 0
  case neg => exact fin (by rw [v10b, vb_f (by rw [ltF_eq]; exact decide_eq_false (by omega)), vP_sel hok, vb_t (by rw [eqF_d, decide_eq_false hcl]; rfl)]; rfl)
  by_cases hl : fst2 (rgE a 1 mxL) (rgE e 1 3) = 0
  case neg => exact fin (by rw [v10b, vb_f (by rw [ltF_eq]; exact decide_eq_false (by omega)), vP_sel hok, vb_f (by rw [eqF_d, decide_eq_true hcl]; rfl), vP_sel trivial, vb_t (by rw [eqF_d, decide_eq_false hl]; rfl)]; rfl)
  by_cases ha6 : 1000000 < a
  · exact fin (by rw [v10b, vb_f (by rw [ltF_eq]; exact decide_eq_false (by omega)), vP_sel hok, vb_f (by rw [eqF_d, decide_eq_true hcl]; rfl), vP_sel trivial, vb_f (by rw [eqF_d, decide_eq_true hl]; rfl), vb_t (by rw [ltF_eq]; exact decide_eq_true ha6)]; rfl)
  have ha : 1 ≤ a ∧ a ≤ mxL := Classical.byContradiction fun hn => by
    rw [show rgE a 1 mxL = 3 from if_neg hn] at hl
    exact absurd (show (3 : Int) = 0 from hl) (by decide)
  have he : ex3 e := Classical.byContradiction fun hn => by
    have : rgE e 1 3 = 3 := if_neg (fun _ => hn (by unfold ex3; omega))
    rw [show rgE a 1 mxL = 0 from if_pos ha, this] at hl
    exact absurd (show (3 : Int) = 0 from hl) (by decide)
  have hm : 1 ≤ a ∧ a ≤ mxL ∧ ex3 e := ⟨ha.1, ha.2, he⟩
  by_cases hs : ∀ j, j < n → smS cs j
  case neg =>
    obtain ⟨q, hq⟩ := run10_out hok (by omega) hs
    have hL := (L10 haw (n := n) (t := t) (s := s) (ex := ex) (a := a) (e := e) (x := x) hok.1).table (id := 4) (s0 := 0) .none (by decide) trivial hq (by kernel_rfl) [1]
    obtain ⟨H', h'⟩ := Out.vals_sel (x10x cs n t s ex a e x q) (v := b_ true) (by
      rw [v10x, vb_f (by rw [ltF_eq]; exact decide_eq_false (by omega)), vP_sel ⟨hok, hcl⟩, vP_sel hm, vb_f (by rw [ltF_eq]; exact decide_eq_false ha6)]; rfl)
    exact ⟨H', execO_sound (C := C10x cs n t s ex a e x q) (((tsm9 haw).auto (c13g 15 (.inl rfl) true)).auto (c48l true)) hL 60 _ _ h'⟩
  have F : Fx cs n 0 := ⟨hok, hc.2.1, h1, by omega, hcl, by omega⟩
  have hL := (L10 haw (n := n) (t := t) (s := s) (ex := ex) (a := a) (e := e) (x := x) hok.1).table (id := 4) (s0 := 0) .none (by decide) trivial (run10_all hok (by omega) hs) (by kernel_rfl) [0]
  have go : ∀ f : Bool, (if f = true then CC_ cs n ≠ [] else CC_ cs n = []) → (o10 cs n t s ex a x (n : Int) e f).vals = t10 cs n a x e f → o10 cs n t s ex a x (n : Int) e f = (o10 cs n t s ex a x (n : Int) e f).fix →
      ∃ H', Sound Try.prog 2 (.call 10 ⟨[sl 1 0 n n, ag [i a, i e], .int .u8 x]⟩ (heapL (deads ++ [.cells cs t s ex]))) (.val (b_ true) H') := fun f hf hv hfx => by
    obtain ⟨H', h'⟩ := Out.vals_sel hfx (v := b_ true) (by rw [hv]; exact t10_sel F (by omega) he ⟨ha.1, by omega⟩ hx hf (r10_small F he hx hs))
    exact ⟨H', execO_sound (C := ⟨TS1 f, sp10, off_, L10t cs n t s ex a e x (0, (n : Int))⟩) (tsS1 haw f) hL 90 _ _ h'⟩
  by_cases hC : CC_ cs n = []
  · rcases he with rfl | rfl | rfl
    · exact go false hC (v10_1f cs n t s ex a x n) (x10_1f cs n t s ex a x n)
    · exact go false hC (v10_2f cs n t s ex a x n) (x10_2f cs n t s ex a x n)
    · exact go false hC (v10_3f cs n t s ex a x n) (x10_3f cs n t s ex a x n)
  · rcases he with rfl | rfl | rfl
    · exact go true hC (v10_1t cs n t s ex a x n) (x10_1t cs n t s ex a x n)
    · exact go true hC (v10_2t cs n t s ex a x n) (x10_2t cs n t s ex a x n)
    · exact go true hC (v10_3t cs n t s ex a x n) (x10_3t cs n t s ex a x n)
end
end Go.Proofs.Yteemponkignnhaa.Ways
set_option maxRecDepth 10000
noncomputable section
namespace Go.Proofs.Yteemponkignnhaa.Ways
open Go Go.Ex Go.RowKit Go.Turn
noncomputable def TS0 : Tb := ext (ext (ext (ext (ext (ext (ext TM9 13 (newE (sp11 true true) [] (heapL deads))) 14 (xE 0 rd0 sp12 [] (heapL deads))) 15 (autoE (sp13g true) [] (heapL deads))) 48 (autoE (sp48l true) [] (heapL deads))) 46 (autoE sp44 [] (heapL deads))) 51 (autoE sp48 [] (heapL deads))) 87 (autoE (sp48l true) [] (heapL deads))
theorem tsS0 {G : Nat} (haw : Pure Try.prog Hd 11 [] (b_ true)) : TSound Try.prog G TS0 :=
  (((((((tsm9 haw).new (f' := 13) (c11 true true)).x c12).auto (c13g 15 (.inl rfl) true)).auto (c48l true)).auto c44).auto c48).auto c87l
noncomputable def sp10z : Nat → Nat → Split := at_ [(10, 48), (10, 132), (10, 136), (10, 206), (10, 210), (10, 228), (10, 234), (49, 60)] .bool no_
noncomputable def o10z (t s : Nat) (ex : Bool) (a e x : Int) : Out QRes := execO Try.prog 2 ⟨TS0, sp10z, off_, noL⟩ 300 (.call 10 ⟨[sl 1 0 0 0, ag [i a, i e], .int .u8 x]⟩ (heapL (deads ++ [.cells [] t s ex])))
section
variable (a x e : Int)
noncomputable def Rz : Int := rtI (Int.tdiv 0 (m10 x)) e
noncomputable def enz : VT := .br (ltF (Rz x e) 0) lfF <| .br (ltF 100000 (Rz x e)) lfF <| .br (leF (wrapF .i64 (m10 x * pw10 (Rz x e) e)) 0) (.br (ltF 0 (wrapF .i64 (m10 x * pw10 (wrapF .i64 (Rz x e + 1)) e))) lfT lfF) lfF
noncomputable def tlz (k left : Int) (E : VT) : VT := vP (okC [] 0 0) <| vP (1 ≤ a ∧ a ≤ mxL ∧ ex3 e) <| vP (okI [] 0 0) <| vP (okI [i 0, i 0] 2 2) <| vP (okI [i 0, i 7] 2 2) <| vP (okC [] 0 0) <| vP (1 ≤ wrapF .i64 (a + 1) ∧ wrapF .i64 (a + 1) ≤ mxL ∧ ex3 e) <| vP (okI [] 0 0) <| vP (okI [i 0, i 0] 2 2) <| vP (okI [i 0, i 7] 2 2) <|
  .br (!eqF left (wrapF .i64 (wrapF .i64 (2 * a) - wrapF .i64 (k * 0)))) lfF <| .br (ltF left 0) lfF E
noncomputable def t10z : VT := vP (LokE [] 0 0) <| vP (1 ≤ a ∧ a ≤ mxL ∧ ex3 e) <| .br (ltF 1000000 a) lfT <| vP (okC [] 0 0) <| vP (okI [] 0 0) <| vP (okI [i 0, i 0] 2 2) <| vP (okC [] 0 0) <| vP (okC [] 0 0) <| vP (okC [] 0 0) <| vP (1 ≤ a ∧ a ≤ mxL ∧ ex3 e) <| vP (okI [] 0 0) <| vP (okI [] 0 0) <| vP (okI [] 0 0) <| vP (okI [i 0, i 0, i 0] 3 3) <|
  .br (leF 0 (wrapF .i64 (2 * a))) (.br (leF 0 (wrapF .i64 (wrapF .i64 (2 * a) - 0))) (.br (leF 0 (wrapF .i64 (wrapF .i64 (wrapF .i64 (2 * a) - 0) - 0))) (tlz a e 3 (wrapF .i64 (wrapF .i64 (wrapF .i64 (wrapF .i64 (2 * a) - 0) - 0) - 0)) (vP (okC [] 0 0) <| vP (RzE [] 0 0) <| vP (ex3 e) <| vP (ex3 e ∧ 1 ≤ m10 x ∧ m10 x ≤ 999999999) <| enz x e))
    (tlz a e 2 (wrapF .i64 (wrapF .i64 (wrapF .i64 (2 * a) - 0) - 0)) lfF)) (tlz a e 1 (wrapF .i64 (wrapF .i64 (2 * a) - 0)) lfF)) (tlz a e 0 (wrapF .i64 (2 * a)) lfF)
end
section
variable (t s : Nat) (ex : Bool) (a x : Int)
theorem v10z_1 : (o10z t s ex a 1 x).vals = t10z a x 1 := by kernel_rfl
theorem x10z_1 : o10z t s ex a 1 x = (o10z t s ex a 1 x).fix := by kernel_rfl
theorem v10z_2 : (o10z t s ex a 2 x).vals = t10z a x 2 := by kernel_rfl
theorem x10z_2 : o10z t s ex a 2 x = (o10z t s ex a 2 x).fix := by kernel_rfl
theorem v10z_3 : (o10z t s ex a 3 x).vals = t10z a x 3 := by kernel_rfl
theorem x10z_3 : o10z t s ex a 3 x = (o10z t s ex a 3 x).fix := by kernel_rfl
end
end Go.Proofs.Yteemponkignnhaa.Ways
set_option maxRecDepth 10000
noncomputable section
namespace Go.Proofs.Yteemponkignnhaa.Ways
open Go Go.Ex Go.RowKit Go.Turn
section
variable {cs : List Value} {n t s : Nat} {ex : Bool} {a e x : Int}
theorem okI00 : okI [] 0 0 := ⟨rfl, by decide, by decide, fun j hj => absurd hj (by omega)⟩
theorem enz_sel (he : ex3 e) (hx : 0 ≤ x ∧ x ≤ 255) : (enz x e).sel = some (b_ true) := by
  obtain ⟨_, m1, m2⟩ := m10_eq hx
  obtain ⟨r1, r2, r3⟩ := root_law (d := 0) (m := m10 x) he (Int.le_refl _) (by omega) m1
  have r1' : 0 ≤ Rz x e := r1
  have r2' : m10 x * pwI (Rz x e) e ≤ 0 := r2
  have r3' : 0 < m10 x * pwI (Rz x e + 1) e := r3
  have hz : Rz x e ≤ 100000 := by
    refine Classical.byContradiction fun hc => ?_
    have h9 : pwI 100001 e ≤ pwI (Rz x e) e := pw_mono he (by omega) (by omega)
    have h8 : 1 ≤ pwI 100001 e := by rcases he with rfl | rfl | rfl <;> decide
    have h7 : 1 * 1 ≤ m10 x * pwI (Rz x e) e := Int.mul_le_mul m1 (by omega) (by omega) (by omega)
    omega
  obtain ⟨p1, p2, p3⟩ := pw10_eq (r := Rz x e) he r1 (by omega)
  obtain ⟨q1, q2, q3⟩ := pw10_eq (r := Rz x e + 1) he (by omega) (by omega)
  have w1 : wrapF .i64 (Rz x e + 1) = Rz x e + 1 := wrapF_in (by omega) (by omega)
  have n1 : 0 ≤ m10 x * pwI (Rz x e) e := Int.mul_nonneg (by omega) p2
  have u2 : m10 x * pwI (Rz x e + 1) e ≤ 20 * 1000030000300001 := Int.mul_le_mul m2 q3 q2 (by omega)
  unfold enz
  rw [vb_f (by rw [ltF_eq]; exact decide_eq_false (by omega)), vb_f (by rw [ltF_eq]; exact decide_eq_false (by omega)), w1, p1, q1, wrapF_in (n := m10 x * pwI (Rz x e) e) (by omega) (by omega), wrapF_in (n := m10 x * pwI (Rz x e + 1) e) (by omega) (by omega),
    vb_t (by rw [leF_eq]; exact decide_eq_true r2'), vb_t (by rw [ltF_eq]; exact decide_eq_true r3')]; rfl
theorem t10z_sel (he : ex3 e) (ha : 1 ≤ a ∧ a ≤ 1000000) (hx : 0 ≤ x ∧ x ≤ 255) : (t10z a x e).sel = some (b_ true) := by
  have hw2 : wrapF .i64 (2 * a) = 2 * a := wrapF_in (by omega) (by omega)
  have hw3 : wrapF .i64 (2 * a - 0) = 2 * a := by rw [Int.sub_zero]; exact hw2
  have hw4 : wrapF .i64 (a + 1) = a + 1 := wrapF_in (by omega) (by omega)
  have hm : 1 ≤ a ∧ a ≤ mxL ∧ ex3 e := ⟨ha.1, by unfold mxL; omega, he⟩
  have hm1 : 1 ≤ a + 1 ∧ a + 1 ≤ mxL ∧ ex3 e := ⟨by omega, by unfold mxL; omega, he⟩
  obtain ⟨_, m1, m2⟩ := m10_eq hx
  have hlk : LokE [] 0 0 := ⟨okI00, by decide⟩
  have hoc : okC [] 0 0 := ⟨okI00, rfl, by omega⟩
  have hrz : RzE [] 0 0 := ⟨⟨okI00, by decide⟩, by decide⟩
  unfold t10z
  rw [vP_sel hlk, vP_sel hm, vb_f (by rw [ltF_eq]; exact decide_eq_false (by omega)), vP_sel hoc, vP_sel okI00, vP_sel (okI2 _ _), vP_sel hoc, vP_sel hoc, vP_sel hoc, vP_sel hm, vP_sel okI00, vP_sel okI00, vP_sel okI00, vP_sel (okI3 _ _ _), hw2, hw3, hw3, hw3,
    vb_t (by rw [leF_eq]; exact decide_eq_true (by omega)), vb_t (by rw [leF_eq]; exact decide_eq_true (by omega)), vb_t (by rw [leF_eq]; exact decide_eq_true (by omega))]
  unfold tlz
  rw [vP_sel hoc, vP_sel hm, vP_sel okI00, vP_sel (okI2 _ _), vP_sel (okI2 _ _), vP_sel hoc, hw4, vP_sel hm1, vP_sel okI00, vP_sel (okI2 _ _), vP_sel (okI2 _ _), Int.mul_zero, show wrapF .i64 (0 : Int) = 0 from rfl, hw2, hw3,
    vb_f (by rw [eqF_d, decide_eq_true rfl]; rfl), vb_f (by rw [ltF_eq]; exact decide_eq_false (by omega)), vP_sel hoc, vP_sel hrz, vP_sel he, vP_sel ⟨he, m1, by omega⟩]
  exact enz_sel he hx
theorem law10_zero (haw : Pure Try.prog Hd 11 [] (b_ true)) (hc : rawI cs 0) (hx : 0 ≤ x ∧ x ≤ 255) :
    ∃ H', Sound Try.prog 2 (.call 10 ⟨[sl 1 0 0 0, ag [i a, i e], .int .u8 x]⟩ (heapL (deads ++ [.cells cs t s ex]))) (.val (b_ true) H') := by
  have hcs : cs = [] := List.eq_nil_of_length_eq_zero (by have := hc.2.1; omega)
  subst hcs
  have fin : (o10b [] 0 t s ex a e x).vals.sel = some (b_ true) → ∃ H', Sound Try.prog 2 (.call 10 ⟨[sl 1 0 0 0, ag [i a, i e], .int .u8 x]⟩ (heapL (deads ++ [.cells [] t s ex]))) (.val (b_ true) H') := fun hs => by
    obtain ⟨H', h'⟩ := Out.vals_sel (x10b [] 0 t s ex a e x) hs
    exact ⟨H', execO_sound (C := C10b) (((tsm9 haw).auto c13).auto (c48l false)) .none 60 _ _ h'⟩
  have hcl : clE [] 0 = 0 := by decide
  by_cases hl : fst2 (rgE a 1 mxL) (rgE e 1 3) = 0
  case neg => exact fin (by rw [v10b, vb_f (by rw [ltF_eq]; exact decide_eq_false (by omega)), vP_sel okI00, vb_f (by rw [eqF_d, decide_eq_true hcl]; rfl), vP_sel trivial, vb_t (by rw [eqF_d, decide_eq_false hl]; rfl)]; rfl)
  by_cases ha6 : 1000000 < a
  · exact fin (by rw [v10b, vb_f (by rw [ltF_eq]; exact decide_eq_false (by omega)), vP_sel okI00, vb_f (by rw [eqF_d, decide_eq_true hcl]; rfl), vP_sel trivial, vb_f (by rw [eqF_d, decide_eq_true hl]; rfl), vb_t (by rw [ltF_eq]; exact decide_eq_true ha6)]; rfl)
  have ha : 1 ≤ a ∧ a ≤ mxL := Classical.byContradiction fun hn => by
    rw [show rgE a 1 mxL = 3 from if_neg hn] at hl
    exact absurd (show (3 : Int) = 0 from hl) (by decide)
  have he : ex3 e := Classical.byContradiction fun hn => by
    have : rgE e 1 3 = 3 := if_neg (fun _ => hn (by unfold ex3; omega))
    rw [show rgE a 1 mxL = 0 from if_pos ha, this] at hl
    exact absurd (show (3 : Int) = 0 from hl) (by decide)
  have go : (o10z t s ex a e x).vals = t10z a x e → o10z t s ex a e x = (o10z t s ex a e x).fix →
      ∃ H', Sound Try.prog 2 (.call 10 ⟨[sl 1 0 0 0, ag [i a, i e], .int .u8 x]⟩ (heapL (deads ++ [.cells [] t s ex]))) (.val (b_ true) H') := fun hv hfx => by
    obtain ⟨H', h'⟩ := Out.vals_sel hfx (v := b_ true) (by rw [hv]; exact t10z_sel he ⟨ha.1, by omega⟩ hx)
    exact ⟨H', execO_sound (C := ⟨TS0, sp10z, off_, noL⟩) (tsS0 haw) .none 300 _ _ h'⟩
  rcases he with rfl | rfl | rfl
  · exact go (v10z_1 t s ex a x) (x10z_1 t s ex a x)
  · exact go (v10z_2 t s ex a x) (x10z_2 t s ex a x)
  · exact go (v10z_3 t s ex a x) (x10z_3 t s ex a x)
theorem law_true10 (haw : Pure Try.prog Hd 11 [] (b_ true)) (hc : rawI cs n) (hx : 0 ≤ x ∧ x ≤ 255) :
    ∃ H', Sound Try.prog 2 (.call 10 ⟨[sl 1 0 n n, ag [i a, i e], .int .u8 x]⟩ (heapL (deads ++ [.cells cs t s ex]))) (.val (b_ true) H') := by
  by_cases h1 : 1 ≤ n
  · exact law10_pos haw hc hx h1
  · obtain rfl : n = 0 := by omega
    exact law10_zero haw hc hx
end
end Go.Proofs.Yteemponkignnhaa.Ways
