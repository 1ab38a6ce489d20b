import Derived.Test.YtphadgdlknhbnaaZo1
set_option maxRecDepth 10000
noncomputable section
namespace Go.Proofs.Ytphadgdlknhbnaa.Ways
open Go Go.Ex Go.RowKit Go.Turn
def e0M : Mp := ([], 0)
def kC6 (cs : List Value) (n : Nat) : Mp := mct e0M ((both (CC_ cs n)).map fun p : Pt => p.1)
def kD6 (cs : List Value) (n : Nat) : Mp := mct (kC6 cs n) ((SS_ cs n).reverse.map fun p : Pt => p.1)
def kL6 (cs : List Value) (n : Nat) : Mp := mld e0M (rvI cs n)
theorem GdM0 : GdM e0M := ⟨rfl, fun _ hm => absurd hm List.not_mem_nil⟩
set_option maxHeartbeats 1000000
section
variable {cs : List Value} {n : Nat} {x : Int}
theorem Fx.lt (h : Fx cs n x) : (rvI cs n).length < 1000000 ∧ (CC_ cs n).length < 1000000 ∧ (SS_ cs n).length < 1000000 := by
  have h1 := h.rn
  have h2 := h.n24
  have h3 := lens cs n
  have e1 : (rvI cs n).length = RN_ cs n := rfl
  have e2 : (SS_ cs n).length = LD_ cs n := rfl
  omega
theorem Fx.ck (h : Fx cs n x) : ckE x = 0 := if_pos ⟨by have := h.lv; omega, by have := h.lv; omega⟩
theorem Fx.apE (h : Fx cs n x) : Ways.apE (RS_ cs n) (RN_ cs n) = true := by
  have h1 := h.rn
  have h2 := h.n24
  have h3 : (RS_ cs n).length = RN_ cs n * 2 := flatP_len _
  unfold Ways.apE
  rw [decide_eq_false (by omega), decide_eq_true (Nat.le_refl _), decide_eq_true (by omega), decide_eq_true (by omega)]; rfl
theorem lsA (h : Fx cs n x) : ∃ (r1 r2 r3 r4 : ES) (r5 : Int × Int) (r6 r7 r8 : Int), r5.2 = crs (RT_ cs n) x (RN_ cs n) ∧ LSound Try.prog 2 (LEA (RS_ cs n) (flatC (CC_ cs n)) (DS_ cs n) (RN_ cs n) (CC_ cs n).length (LD_ cs n) x (crs (RT_ cs n) x (RN_ cs n)) (crs (DS_ cs n) x (LD_ cs n)) (grE (RT_ cs n) (RN_ cs n)) r1 r2 r3 r4 r5 r6 r7 r8) := by
  have hlt := h.lt
  have g1 : (RS_ cs n).all Ex.flat = true := flatP_flat _
  have g2 : ((flatC (CC_ cs n))).all Ex.flat = true := flatC_flat _
  have g3 : (DS_ cs n).all Ex.flat = true := h.okD.1
  have hl : (SS_ cs n).reverse.length = LD_ cs n := List.length_reverse
  have e2 : (SS_ cs n).length = LD_ cs n := rfl
  have L10 := L10A (rs := RS_ cs n) (cy := (flatC (CC_ cs n))) (ds := DS_ cs n) (n := RN_ cs n) (lc := (CC_ cs n).length) (ld := LD_ cs n) (x := x) g1 g2 g3
  have q10 : runS (s10A (RS_ cs n) (RN_ cs n)) (RN_ cs n + 1) (0, e0M, e0M) = some (0, ((RN_ cs n : Int), e0M, kL6 cs n)) := run10A (R := rvI cs n) (m1 := e0M) (m2 := e0M) hlt.1 rfl
  have G1 := runS_good L10.good ⟨GdM0, GdM0⟩ q10
  have h10 := L10.table (id := 10) (s0 := (0, e0M, e0M)) .none (by decide) ⟨GdM0, GdM0⟩ q10 (by kernel_rfl) [0]
  have L15 := L15A (rs := RS_ cs n) (cy := flatC (CC_ cs n)) (ds := DS_ cs n) (n := RN_ cs n) (lc := (CC_ cs n).length) (ld := LD_ cs n) (x := x) g1 g2 g3
  have q15 : runS (s15A (flatC (CC_ cs n)) (CC_ cs n).length) ((CC_ cs n).length + 1) (0, e0M, kL6 cs n) = some (0, (((CC_ cs n).length : Int), kC6 cs n, kL6 cs n)) := run15A (C := CC_ cs n) (m1 := e0M) (m2 := kL6 cs n) hlt.2.1 rfl (mld_ok rfl) (fun _ hq => ⟨h.load (h.memC hq).1, h.load (h.memC hq).2⟩)
  have G2 := runS_good L15.good (show GdE (0, e0M, kL6 cs n) from G1) q15
  have h15 := L15.table (id := 15) (s0 := (0, e0M, kL6 cs n)) h10 (by decide) (show GdE (0, e0M, kL6 cs n) from G1) q15 (by kernel_rfl) [0]
  have o1 : okM (kC6 cs n) = true := mct_ok rfl
  have o2 : okM (kL6 cs n) = true := mld_ok rfl
  have L23 := L23A (rs := RS_ cs n) (cy := (flatC (CC_ cs n))) (ds := DS_ cs n) (n := RN_ cs n) (lc := (CC_ cs n).length) (ld := LD_ cs n) (x := x) g1 g2 g3
  have q23 : runS (s23A (DS_ cs n) (LD_ cs n)) (LD_ cs n + 1) (0, kC6 cs n, kL6 cs n) = some (0, ((LD_ cs n : Int), kD6 cs n, kL6 cs n)) := by
    have : runS (s23A (flatP (SS_ cs n).reverse) (SS_ cs n).reverse.length) ((SS_ cs n).reverse.length + 1) (0, kC6 cs n, kL6 cs n) = some (0, (((SS_ cs n).reverse.length : Int), kD6 cs n, kL6 cs n)) := run23A (D := (SS_ cs n).reverse) (m1 := kC6 cs n) (m2 := kL6 cs n) (by omega) o1 o2 (fun _ hp => h.load (h.memS (List.mem_reverse.1 hp)))
    rw [hl] at this
    rw [h.st.2]
    exact this
  have G3 := runS_good L23.good (show GdE (0, kC6 cs n, kL6 cs n) from G2) q23
  have h23 := L23.table (id := 23) (s0 := (0, kC6 cs n, kL6 cs n)) h15 (by decide) (show GdE (0, kC6 cs n, kL6 cs n) from G2) q23 (by kernel_rfl) [0]
  have L30 := L30A (rs := RS_ cs n) (cy := (flatC (CC_ cs n))) (ds := DS_ cs n) (n := RN_ cs n) (lc := (CC_ cs n).length) (ld := LD_ cs n) (x := x) g1 g2 g3
  have q30 : runS (s30A (RS_ cs n) (RN_ cs n)) (RN_ cs n + 1) (0, kD6 cs n, kL6 cs n) = some (0, ((RN_ cs n : Int), kD6 cs n, kL6 cs n)) := run30A (R := rvI cs n) (m1 := kD6 cs n) (m2 := kL6 cs n) hlt.1 (mct_ok o1) (fun _ hp => h.once hp)
  have h30 := L30.table (id := 30) (s0 := (0, kD6 cs n, kL6 cs n)) h23 (by decide) (show GdE (0, kD6 cs n, kL6 cs n) from G3) q30 (by kernel_rfl) [0]
  have hk := crs_b (DS_ cs n) x (LD_ cs n)
  have LE := LE40 (rs := RS_ cs n) (cy := flatC (CC_ cs n)) (ds := DS_ cs n) (n := RN_ cs n) (lc := (CC_ cs n).length) (ld := LD_ cs n) (x := x) (nn := crs (RT_ cs n) x (RN_ cs n)) g1 g2 g3
  have q40 := runE40 (C := CC_ cs n) (x := x) (k0 := crs (DS_ cs n) x (LD_ cs n)) hlt.2.1 ⟨hk.1, by omega⟩
  have h40 := LE.table (id := 40) (s0 := (0, crs (DS_ cs n) x (LD_ cs n))) h30 (by decide) trivial q40 (by kernel_rfl) [0]
  have LF := LE52 (rs := RS_ cs n) (cy := flatC (CC_ cs n)) (ds := DS_ cs n) (n := RN_ cs n) (lc := (CC_ cs n).length) (ld := LD_ cs n) (m := grE (RT_ cs n) (RN_ cs n)) g1 g2 g3
  have q52 := runE52 (C := CC_ cs n) (m := grE (RT_ cs n) (RN_ cs n)) hlt.2.1 (fun q hq => by rw [h.rt]; exact gr_le (P := rvI cs n) (fun _ hp => h.bd hp) (h.memC hq).1 (h.memC hq).2)
  have h52 := LF.table (id := 52) (s0 := (0 : Int)) h40 (by decide) trivial q52 (by kernel_rfl) [0]
  obtain ⟨m7, r7, q7⟩ := runE58 (K := 18) (S := SS_ cs n) hlt.2.2 h.ci.2
  obtain ⟨m8, r8, q8⟩ := runE58 (K := 20) (S := SS_ cs n) hlt.2.2 h.ci.2
  rw [hl, ← h.st.2] at q7 q8
  have h58 := (LE58_18 (rs := RS_ cs n) (cy := flatC (CC_ cs n)) (ds := DS_ cs n) (ld := LD_ cs n) g1 g2 g3).table (id := 58) (s0 := (3 : Int)) h52 (by decide) trivial q7 (by kernel_rfl) [0]
  have h60 := (LE58_20 (rs := RS_ cs n) (cy := flatC (CC_ cs n)) (ds := DS_ cs n) (ld := LD_ cs n) g1 g2 g3).table (id := 58) (s0 := (3 : Int)) h58 (by decide) trivial q8 (by kernel_rfl) [0]
  exact ⟨_, _, _, _, (((CC_ cs n).length : Int), crs (DS_ cs n) x (LD_ cs n) + (upCs x (CC_ cs n) : Nat)), _, r7, r8, h.rise.symm, h60⟩
theorem lsN (h : Fx cs n x) (hC : CC_ cs n = []) : ∃ (r1 r3 r4 : ES) (r7 r8 : Int), LSound Try.prog 2 (LEN (RS_ cs n) [] (DS_ cs n) (RN_ cs n) 0 (LD_ cs n) x r1 r3 r4 r7 r8) := by
  have hlt := h.lt
  have g1 : (RS_ cs n).all Ex.flat = true := flatP_flat _
  have g2 : ([]).all Ex.flat = true := rfl
  have g3 : (DS_ cs n).all Ex.flat = true := h.okD.1
  have hl : (SS_ cs n).reverse.length = LD_ cs n := List.length_reverse
  have e2 : (SS_ cs n).length = LD_ cs n := rfl
  have L10 := L10N (rs := RS_ cs n) (cy := []) (ds := DS_ cs n) (n := RN_ cs n) (lc := 0) (ld := LD_ cs n) (x := x) g1 g2 g3
  have q10 : runS (s10N (RS_ cs n) (RN_ cs n)) (RN_ cs n + 1) (0, e0M, e0M) = some (0, ((RN_ cs n : Int), e0M, kL6 cs n)) := run10N (R := rvI cs n) (m1 := e0M) (m2 := e0M) hlt.1 rfl
  have G1 := runS_good L10.good ⟨GdM0, GdM0⟩ q10
  have h10 := L10.table (id := 10) (s0 := (0, e0M, e0M)) .none (by decide) ⟨GdM0, GdM0⟩ q10 (by kernel_rfl) [0]
  have o1 : okM (kC6 cs n) = true := mct_ok rfl
  have o2 : okM (kL6 cs n) = true := mld_ok rfl
  have L23 := L23N (rs := RS_ cs n) (cy := []) (ds := DS_ cs n) (n := RN_ cs n) (lc := 0) (ld := LD_ cs n) (x := x) g1 g2 g3
  have q23 : runS (s23N (DS_ cs n) (LD_ cs n)) (LD_ cs n + 1) (0, e0M, kL6 cs n) = some (0, ((LD_ cs n : Int), kD6 cs n, kL6 cs n)) := by
    have : runS (s23N (flatP (SS_ cs n).reverse) (SS_ cs n).reverse.length) ((SS_ cs n).reverse.length + 1) (0, kC6 cs n, kL6 cs n) = some (0, (((SS_ cs n).reverse.length : Int), kD6 cs n, kL6 cs n)) := run23N (D := (SS_ cs n).reverse) (m1 := kC6 cs n) (m2 := kL6 cs n) (by omega) o1 o2 (fun _ hp => h.load (h.memS (List.mem_reverse.1 hp)))
    rw [hl] at this
    rw [h.st.2]
    have hk : kC6 cs n = e0M := by unfold kC6; rw [hC]; rfl
    rw [hk] at this
    exact this
  have G3 := runS_good L23.good (show GdE (0, e0M, kL6 cs n) from G1) q23
  have h23 := L23.table (id := 23) (s0 := (0, e0M, kL6 cs n)) h10 (by decide) (show GdE (0, e0M, kL6 cs n) from G1) q23 (by kernel_rfl) [0]
  have L30 := L30N (rs := RS_ cs n) (cy := []) (ds := DS_ cs n) (n := RN_ cs n) (lc := 0) (ld := LD_ cs n) (x := x) g1 g2 g3
  have q30 : runS (s30N (RS_ cs n) (RN_ cs n)) (RN_ cs n + 1) (0, kD6 cs n, kL6 cs n) = some (0, ((RN_ cs n : Int), kD6 cs n, kL6 cs n)) := run30N (R := rvI cs n) (m1 := kD6 cs n) (m2 := kL6 cs n) hlt.1 (mct_ok o1) (fun _ hp => h.once hp)
  have h30 := L30.table (id := 30) (s0 := (0, kD6 cs n, kL6 cs n)) h23 (by decide) (show GdE (0, kD6 cs n, kL6 cs n) from G3) q30 (by kernel_rfl) [0]
  obtain ⟨m7, r7, q7⟩ := runE58 (K := 15) (S := SS_ cs n) hlt.2.2 h.ci.2
  obtain ⟨m8, r8, q8⟩ := runE58 (K := 17) (S := SS_ cs n) hlt.2.2 h.ci.2
  rw [hl, ← h.st.2] at q7 q8
  have h58 := (LE58_15 (rs := RS_ cs n) (cy := []) (ds := DS_ cs n) (ld := LD_ cs n) g1 g2 g3).table (id := 58) (s0 := (3 : Int)) h30 (by decide) trivial q7 (by kernel_rfl) [0]
  have h60 := (LE58_17 (rs := RS_ cs n) (cy := []) (ds := DS_ cs n) (ld := LD_ cs n) g1 g2 g3).table (id := 58) (s0 := (3 : Int)) h58 (by decide) trivial q8 (by kernel_rfl) [0]
  exact ⟨_, _, _, r7, r8, h60⟩
end
end Go.Proofs.Ytphadgdlknhbnaa.Ways
set_option maxRecDepth 10000
noncomputable section
namespace Go.Proofs.Ytphadgdlknhbnaa.Ways
open Go Go.Ex Go.RowKit Go.Turn
section
variable {cs : List Value} {n : Nat} {x : Int}
theorem Fx.bR (h : Fx cs n x) : BokE (RS_ cs n) (RN_ cs n) (RN_ cs n) := ⟨h.okR, by have := h.rn; have := h.n24; omega⟩
theorem Fx.bD (h : Fx cs n x) : BokE (DS_ cs n) (LD_ cs n) (LD_ cs n) := ⟨h.okD, by have := lens cs n; have := h.rn; have := h.n24; omega⟩
theorem Fx.tR (h : Fx cs n x) : TokE (RS_ cs n) (RN_ cs n) (RN_ cs n) := ⟨h.okR, h.rn.1, by have := h.rn; have := h.n24; omega⟩
theorem Fx.tS (h : Fx cs n x) : TokE (ST_ cs n) (LD_ cs n) (CP_ cs n) := ⟨h.st.1, h.ld, by have := lens cs n; have := h.rn; have := h.n24; omega⟩
theorem Fx.cD (h : Fx cs n x) : CmE (DS_ cs n) (LD_ cs n) (LD_ cs n) := by
  refine ⟨⟨h.okD, h.ld, by have := lens cs n; have := h.rn; have := h.n24; omega⟩, ?_⟩
  rw [h.st.2, flatP_len, List.length_reverse]; rfl
theorem Fx.pR (_h : Fx cs n x) : flatP (pts (RS_ cs n) (RN_ cs n)) = RS_ cs n := by
  unfold RS_ RN_
  rw [pts_flat _ _ (Nat.le_refl _), List.take_length]
theorem Fx.cf (h : Fx cs n x) (hC : CC_ cs n ≠ []) : CfE (flatC (CC_ cs n)) (CC_ cs n).length (CC_ cs n).length := by
  refine ⟨okF_flat _ h.lt.2.1, ?_, h.lt.2.1, flatC_len _⟩
  cases hq : CC_ cs n with
  | nil => exact absurd hq hC
  | cons _ _ => simp
theorem Fx.lok (h : Fx cs n x) : LokE cs n n ∧ okC cs n n ∧ RmE cs n n := ⟨⟨h.ok, h.cl⟩, ⟨h.ok, h.len, by have := h.n24; omega⟩, ⟨h.ok, by have := h.n1; omega, by have := h.n24; omega⟩, h.cl⟩
theorem Fx.s37 (h : Fx cs n x) : 1 ≤ RN_ cs n ∧ BokE (RT_ cs n) (RN_ cs n) (RN_ cs n) ∧ crE (RT_ cs n) (RN_ cs n) = 0 ∧ ckE x = 0 := by
  rw [h.rt]; exact ⟨h.rn.1, h.bR, h.crR, h.ck⟩
theorem Fx.s37d (h : Fx cs n x) : 1 ≤ LD_ cs n ∧ BokE (DS_ cs n) (LD_ cs n) (LD_ cs n) ∧ crE (DS_ cs n) (LD_ cs n) = 0 ∧ ckE x = 0 := ⟨h.ld, h.bD, h.crD, h.ck⟩
theorem Fx.s38 (h : Fx cs n x) (h2 : 1 < RN_ cs n) : BokE (RT_ cs n) (RN_ cs n) (RN_ cs n) ∧ crE (RT_ cs n) (RN_ cs n) = 0 ∧ 2 ≤ RN_ cs n := by
  rw [h.rt]; exact ⟨h.bR, h.crR, by omega⟩
theorem Fx.rg (h : Fx cs n x) : rgE x (-32768) 32768 = 0 := if_pos h.lv
theorem Fx.p59 (h : Fx cs n x) (f : Bool) (hf : if f = true then CC_ cs n ≠ [] else CC_ cs n = []) : P59 f (RS_ cs n) (RN_ cs n) (RN_ cs n) := ⟨h.okR, h.rn.1, by have := h.rn; have := h.n24; omega, hf⟩
theorem selA (h : Fx cs n x) (hC : CC_ cs n ≠ []) {r5 : Int × Int} (h5 : r5.2 = crs (RT_ cs n) x (RN_ cs n)) : (t6A cs n x r5).sel = some (b_ true) := by
  obtain ⟨k1, k2, k3⟩ := h.lok
  have h1 := h.rn
  have h2 := h.n24
  have h3 := lens cs n
  unfold t6A
  rw [vb_f (by rw [ltF_eq]; exact decide_eq_false (by omega)), aP k1, vb_f (by rfl), h.rg, vb_f (by rfl), aP k2, aP k3, aP k2, aP k3, aP ⟨h.bR, h.crR⟩, aP (h.p59 true hC), aP (h.cf hC), aP h.tS,
    vb_t (by rw [leF_eq]; exact decide_eq_true (by omega)), vb_t (by rw [leF_eq]; exact decide_eq_true (by omega)), aP (h.cf hC), aP h.gc, aP h.tS, aP ⟨h.bD, h.crD⟩, aP h.tR, aP (by rw [h.pR]; exact ⟨h.bR, h.crR⟩),
    vb_f (by rw [ltF_eq]; exact decide_eq_false (by omega)), vb_f (nE (by rw [wrapF_in (n := 2 * ((CC_ cs n).length : Int)) (by omega) (by omega), wrapF_in (by omega) (by omega)]; omega)), aV_sel rfl, aV_sel rfl, aV_sel rfl, aV_sel rfl, aV_sel h.apE, aP h.s37, aP h.cD, aP h.s37d, aV_sel rfl, vb_f (nE h5.symm)]
  by_cases h4 : 1 < RN_ cs n
  · rw [vb_t (by rw [ltF_eq]; exact decide_eq_true (by omega)), aV_sel h.apE, aP (h.s38 h4), aV_sel rfl, aV_sel rfl]; rfl
  · rw [vb_f (by rw [ltF_eq]; exact decide_eq_false (by omega)), aV_sel rfl]; rfl
theorem selN (h : Fx cs n x) (hC : CC_ cs n = []) : (t6N cs n x).sel = some (b_ true) := by
  obtain ⟨k1, k2, k3⟩ := h.lok
  have h1 := h.rn
  have h2 := h.n24
  have h3 := lens cs n
  have h5 := h.rise
  rw [hC] at h3 h5
  have h3 : LD_ cs n = RN_ cs n := by simpa using h3
  have h5 : crs (RT_ cs n) x (RN_ cs n) = crs (DS_ cs n) x (LD_ cs n) := by simpa [upCs] using h5
  unfold t6N
  rw [vb_f (by rw [ltF_eq]; exact decide_eq_false (by omega)), aP k1, vb_f (by rfl), h.rg, vb_f (by rfl), aP k2, aP k3, aP k2, aP k3, aP ⟨h.bR, h.crR⟩, aP (h.p59 false hC), aP h.tS,
    vb_t (by rw [leF_eq]; exact decide_eq_true (by omega)), vb_t (by rw [leF_eq]; exact decide_eq_true (by omega)), aP h.tS, aP ⟨h.bD, h.crD⟩, aP h.tR, aP (by rw [h.pR]; exact ⟨h.bR, h.crR⟩),
    vb_f (by rw [ltF_eq]; exact decide_eq_false (by omega)), vb_f (nE (by rw [wrapF_in (by omega) (by omega)]; omega)), aV_sel rfl, aV_sel rfl, aV_sel rfl, aV_sel h.apE, aP h.s37, aP h.cD, aP h.s37d, vb_f (nE h5)]
  by_cases h4 : 1 < RN_ cs n
  · rw [vb_t (by rw [ltF_eq]; exact decide_eq_true (by omega)), aV_sel h.apE, aP (h.s38 h4), aV_sel rfl]; rfl
  · rw [vb_f (by rw [ltF_eq]; exact decide_eq_false (by omega)), aV_sel rfl]; rfl
end
end Go.Proofs.Ytphadgdlknhbnaa.Ways
set_option maxRecDepth 10000
noncomputable section
namespace Go.Proofs.Ytphadgdlknhbnaa.Ways
open Go Go.Ex Go.RowKit Go.Turn
def rawI (cs : List Value) (n : Nat) : Prop := cs.all Ex.flat = true ∧ cs.length = n ∧ ∀ j, j < n → isCellB (.i .i64) cs[0 + j * 1]? = true
def sp31x : ESpec := fun al css => match al, css with
  | [.int .i64 x, .int .i64 lo, .int .i64 hi], [] => some (rgE x lo hi = 3, i 3)
  | _, _ => none
theorem c31x : ∀ al css os p v, sp31x al css = some (p, v) → p → Blks css os → (∀ cs ∈ css, cs.all Ex.flat = true) ∧ clean 6 v = true ∧ ∃ H', Sound Try.prog (gl + css.length) (.call 31 ⟨al⟩ (heapL (deads ++ os))) (.val v H') := by
  intro al css os p v hs hp hb
  unfold sp31x at hs
  split at hs
  case h_2 => cases hs
  rename_i x lo hi
  cases hs
  have key : ∃ H', Sound Try.prog (gl + 0) (.call 31 ⟨[i x, i lo, i hi]⟩ (heapL (deads ++ os))) (.val (i (rgE x lo hi)) H') := ⟨_, (p31 x lo hi).sound hd_vars (fun _ h => absurd h List.not_mem_nil)⟩
  rw [hp] at key
  exact ⟨fun c hc => absurd hc List.not_mem_nil, rfl, key⟩
noncomputable def TEx : Tb := ext (ext T9_ 13 (autoE (sp13g true) [] (heapL deads))) 31 (autoE sp31x [] (heapL deads))
section
variable (cs : List Value) (n : Nat) (x : Int) (t s : Nat) (ex : Bool)
noncomputable def o6x : Out QRes := execO Try.prog 2 ⟨TEx, at_ [(6, 37)] .bool no_, off_, noL⟩ 80 (.call 6 ⟨[sl 1 0 n n, i x]⟩ (heapL (deads ++ [.cells cs t s ex])))
theorem v6x : (o6x cs n x t s ex).vals = .br (ltF 24 n) (.leaf (b_ true)) (aV (tru (LokE cs n n)) (aV (tru (rgE x (-32768) 32768 = 3)) (.leaf (b_ true)))) := by kernel_rfl
theorem x6x : o6x cs n x t s ex = (o6x cs n x t s ex).fix := by kernel_rfl
end
theorem law_true6 (haw : Pure Try.prog Hd 9 [] (b_ true)) {cs : List Value} {n t s : Nat} {ex : Bool} {x : Int} (hc : rawI cs n) :
    ∃ H', Sound Try.prog 2 (.call 6 ⟨[sl 1 0 n n, i x]⟩ (heapL (deads ++ [.cells cs t s ex]))) (.val (b_ true) H') := by
  have hB : 24 < n ∨ (okI cs n n ∧ clE cs n = 3) → ∃ H', Sound Try.prog 2 (.call 6 ⟨[sl 1 0 n n, i x]⟩ (heapL (deads ++ [.cells cs t s ex]))) (.val (b_ true) H') := fun hh => by
    obtain ⟨H', h'⟩ := Out.vals_sel (x6b cs n x t s ex) (v := b_ true) (by
      rw [v6b]
      by_cases h : 24 < n
      · rw [vb_t (by rw [ltF_eq]; exact decide_eq_true (by omega))]; rfl
      · rw [vb_f (by rw [ltF_eq]; exact decide_eq_false (by omega)), aP (hh.resolve_left h)]; rfl)
    exact ⟨H', execO_sound (C := ⟨TEb, at_ [(6, 37)] .bool no_, off_, noL⟩) ((ts9_ haw).auto c13b) .none 80 _ _ h'⟩
  by_cases h24 : 24 < n
  · exact hB (.inl h24)
  have hok : okI cs n n := ⟨hc.1, Nat.le_refl _, by omega, hc.2.2⟩
  by_cases hcl : clE cs n = 0
  case neg =>
    refine hB (.inr ⟨hok, ?_⟩)
    unfold clE at hcl ⊢
    rw [if_neg (by omega)] at hcl ⊢
    have hor : ∀ j, eLd cs j = 0 ∨ eLd cs j = 3 := fun j => by
      show ldE (eI cs j) = 0 ∨ ldE (eI cs j) = 3
      unfold ldE rgE
      split <;> simp
    refine firstF_one (fun _ _ => hor _) ?_
    exact Classical.byContradiction fun hne => hcl (firstF_z0 fun j hj => Classical.byContradiction fun h0 => hne ⟨j, hj, h0⟩)
  by_cases hx : -32768 ≤ x ∧ x ≤ 32768
  case neg =>
    obtain ⟨H', h'⟩ := Out.vals_sel (x6x cs n x t s ex) (v := b_ true) (by
      rw [v6x, vb_f (by rw [ltF_eq]; exact decide_eq_false (by omega)), aP ⟨hok, hcl⟩, aP (show rgE x (-32768) 32768 = 3 from if_neg hx)]; rfl)
    exact ⟨H', execO_sound (C := ⟨TEx, at_ [(6, 37)] .bool no_, off_, noL⟩) (((ts9_ haw).auto (c13g 13 (.inl rfl) true)).auto c31x) .none 80 _ _ h'⟩
  by_cases h0 : n = 0
  · subst h0
    have hcn : cs = [] := List.eq_nil_of_length_eq_zero hc.2.1
    subst hcn
    have hck : ckE x = 0 := if_pos ⟨by omega, by omega⟩
    have z1 : okC [] 0 0 := ⟨hok, rfl, by omega⟩
    have z2 : RzE [] 0 0 := ⟨⟨hok, rfl⟩, hcl⟩
    obtain ⟨H', h'⟩ := Out.vals_sel (x6z [] x t s ex) (v := b_ true) (by
      rw [v6z]
      unfold t6z
      rw [aP ⟨hok, hcl⟩, show rgE x (-32768) 32768 = 0 from if_pos hx, vb_f (by rfl), aP z1, aP z2, aP z1, aP z2, aP ⟨⟨⟨rfl, Nat.le_refl _, by omega, fun j hj => absurd hj (by omega)⟩, by omega⟩, rfl⟩, aP hck, aP (okI2 _ _), aP hck, aP (okI2 _ _)]; rfl)
    exact ⟨H', execO_sound (C := ⟨TEz, at_ [(6, 47)] .bool no_, off_, noL⟩) ((((((ts9_ haw).new (f' := 11) (c11 true true)).x c12).auto (c13g 13 (.inl rfl) true)).auto (c18g 18 (.inl rfl) true)).auto c64z) .none 120 _ _ h'⟩
  have F : Fx cs n x := ⟨hok, hc.2.1, by omega, by omega, hcl, hx⟩
  by_cases hC : CC_ cs n = []
  · obtain ⟨r1, r3, r4, r7, r8, hL⟩ := lsN F hC
    obtain ⟨H', h'⟩ := Out.vals_sel (x6N cs n x t s ex r1 r3 r4 r7 r8) (v := b_ true) (by rw [v6N]; exact selN F hC)
    exact ⟨H', execO_sound (C := CLN cs n x r1 r3 r4 r7 r8) (tsE haw true false) hL 120 _ _ h'⟩
  · obtain ⟨r1, r2, r3, r4, r5, r6, r7, r8, h5, hL⟩ := lsA F
    obtain ⟨H', h'⟩ := Out.vals_sel (x6A cs n x t s ex r1 r2 r3 r4 r5 r6 r7 r8) (v := b_ true) (by rw [v6A]; exact selA F hC h5)
    exact ⟨H', execO_sound (C := CLA cs n x r1 r2 r3 r4 r5 r6 r7 r8) (tsE haw true true) hL 120 _ _ h'⟩
end Go.Proofs.Ytphadgdlknhbnaa.Ways
