import Derived.Test.YtbocpikgochioaaDoorMr3
import Derived.Test.YtbocpikgochioaaDoorEngOrd2
import Derived.Test.YtbocpikgochioaaDoorNr1
namespace Go.Proofs.YtbocpikgochioaaDoor.Fn
def top_Uneven : Nat := 7
def top_hawseRotor : Nat := 29
def top_hawseLight : Nat := 30
def top_hawseBlade : Nat := 31
def top_hawseFlow : Nat := 32
end Go.Proofs.YtbocpikgochioaaDoor.Fn
namespace Go.Proofs.YtbocpikgochioaaDoor.WaysH
open Go Go.Ex Go.Proofs.YtbocpikgochioaaDoor Go.Proofs.YtbocpikgochioaaDoor.Ways
noncomputable def O12 : Array Oper := regOps Tryd.f31 1
noncomputable def CH0 : Cfg := ⟨TG0, no_, on_ [(Fn.top_hawseBlade, 10), (Fn.top_hawseBlade, 15)], noL⟩
section
variable (cs1 cs2 cs3 : List Value) (t1 s1 t2 s2 t3 s3 : Nat) (e1 e2 e3 : Bool) (n1 c1 n2 c2 n : Nat)
theorem o12_fix_ff : (trsN O12 states12).map (outN Tryd.prog 7 CH0 Fn.top_hawseBlade O12 33 (live12 false false n1 c1 n2 c2) (hp12 false false cs1 t1 s1 e1 cs2 t2 s2 e2 cs3 t3 s3 e3 n1 c1 n2 c2 n)) = (trsN O12 states12).map fun t => (outN Tryd.prog 7 CH0 Fn.top_hawseBlade O12 33 (live12 false false n1 c1 n2 c2) (hp12 false false cs1 t1 s1 e1 cs2 t2 s2 e2 cs3 t3 s3 e3 n1 c1 n2 c2 n) t).fix := by kernel_rfl
theorem o12_obs_ff : (trsN O12 states12).map (obsN Tryd.prog 7 CH0 Fn.top_hawseBlade O12 33 (live12 false false n1 c1 n2 c2) (hp12 false false cs1 t1 s1 e1 cs2 t2 s2 e2 cs3 t3 s3 e3 n1 c1 n2 c2 n) (rho12 false false) (ans12 false false)) = (trsN O12 states12).map (expN 33 (live12 false false n1 c1 n2 c2) (hp12 false false cs1 t1 s1 e1 cs2 t2 s2 e2 cs3 t3 s3 e3 n1 c1 n2 c2 n) (rho12 false false) (cnd12 false false cs1 cs2 n1 c1 n2 c2) (len12 false false)) := by kernel_rfl
end
theorem closed12 : closedN O12 states12 16383 = true := by kernel_rfl
end Go.Proofs.YtbocpikgochioaaDoor.WaysH
namespace Go.Proofs.YtbocpikgochioaaDoor.WaysH
open Go Go.Ex Go.Proofs.YtbocpikgochioaaDoor Go.Proofs.YtbocpikgochioaaDoor.Ways
section
variable {cs1 cs2 cs3 : List Value} {t1 s1 t2 s2 t3 s3 : Nat} {e1 e2 e3 : Bool} {n1 c1 n2 c2 n : Nat}
variable (cs1 cs2 cs3 t1 s1 t2 s2 t3 s3 e1 e2 e3 n1 c1 n2 c2 n)
theorem o12_good_ff : ((trsN O12 states12).all fun t => goodR 9 (len12 false false t.2) ((live12 false false n1 c1 n2 c2) (t.1 ||| 2 ^ t.2)) ((hp12 false false cs1 t1 s1 e1 cs2 t2 s2 e2 cs3 t3 s3 e3 n1 c1 n2 c2 n) (t.1 ||| 2 ^ t.2)) (rho12 false false t.2)) = true := by kernel_rfl
theorem o12_fix_ft : (trsN O12 states12).map (outN Tryd.prog 7 CH0 Fn.top_hawseBlade O12 33 (live12 false true n1 c1 n2 c2) (hp12 false true cs1 t1 s1 e1 cs2 t2 s2 e2 cs3 t3 s3 e3 n1 c1 n2 c2 n)) = (trsN O12 states12).map fun t => (outN Tryd.prog 7 CH0 Fn.top_hawseBlade O12 33 (live12 false true n1 c1 n2 c2) (hp12 false true cs1 t1 s1 e1 cs2 t2 s2 e2 cs3 t3 s3 e3 n1 c1 n2 c2 n) t).fix := by kernel_rfl
theorem o12_obs_ft : (trsN O12 states12).map (obsN Tryd.prog 7 CH0 Fn.top_hawseBlade O12 33 (live12 false true n1 c1 n2 c2) (hp12 false true cs1 t1 s1 e1 cs2 t2 s2 e2 cs3 t3 s3 e3 n1 c1 n2 c2 n) (rho12 false true) (ans12 false true)) = (trsN O12 states12).map (expN 33 (live12 false true n1 c1 n2 c2) (hp12 false true cs1 t1 s1 e1 cs2 t2 s2 e2 cs3 t3 s3 e3 n1 c1 n2 c2 n) (rho12 false true) (cnd12 false true cs1 cs2 n1 c1 n2 c2) (len12 false true)) := by kernel_rfl
theorem o12_good_ft : ((trsN O12 states12).all fun t => goodR 9 (len12 false true t.2) ((live12 false true n1 c1 n2 c2) (t.1 ||| 2 ^ t.2)) ((hp12 false true cs1 t1 s1 e1 cs2 t2 s2 e2 cs3 t3 s3 e3 n1 c1 n2 c2 n) (t.1 ||| 2 ^ t.2)) (rho12 false true t.2)) = true := by kernel_rfl
theorem o12_fix_tf : (trsN O12 states12).map (outN Tryd.prog 7 CH0 Fn.top_hawseBlade O12 33 (live12 true false n1 c1 n2 c2) (hp12 true false cs1 t1 s1 e1 cs2 t2 s2 e2 cs3 t3 s3 e3 n1 c1 n2 c2 n)) = (trsN O12 states12).map fun t => (outN Tryd.prog 7 CH0 Fn.top_hawseBlade O12 33 (live12 true false n1 c1 n2 c2) (hp12 true false cs1 t1 s1 e1 cs2 t2 s2 e2 cs3 t3 s3 e3 n1 c1 n2 c2 n) t).fix := by kernel_rfl
theorem o12_obs_tf : (trsN O12 states12).map (obsN Tryd.prog 7 CH0 Fn.top_hawseBlade O12 33 (live12 true false n1 c1 n2 c2) (hp12 true false cs1 t1 s1 e1 cs2 t2 s2 e2 cs3 t3 s3 e3 n1 c1 n2 c2 n) (rho12 true false) (ans12 true false)) = (trsN O12 states12).map (expN 33 (live12 true false n1 c1 n2 c2) (hp12 true false cs1 t1 s1 e1 cs2 t2 s2 e2 cs3 t3 s3 e3 n1 c1 n2 c2 n) (rho12 true false) (cnd12 true false cs1 cs2 n1 c1 n2 c2) (len12 true false)) := by kernel_rfl
theorem o12_good_tf : ((trsN O12 states12).all fun t => goodR 9 (len12 true false t.2) ((live12 true false n1 c1 n2 c2) (t.1 ||| 2 ^ t.2)) ((hp12 true false cs1 t1 s1 e1 cs2 t2 s2 e2 cs3 t3 s3 e3 n1 c1 n2 c2 n) (t.1 ||| 2 ^ t.2)) (rho12 true false t.2)) = true := by kernel_rfl
theorem o12_fix_tt : (trsN O12 states12).map (outN Tryd.prog 7 CH0 Fn.top_hawseBlade O12 33 (live12 true true n1 c1 n2 c2) (hp12 true true cs1 t1 s1 e1 cs2 t2 s2 e2 cs3 t3 s3 e3 n1 c1 n2 c2 n)) = (trsN O12 states12).map fun t => (outN Tryd.prog 7 CH0 Fn.top_hawseBlade O12 33 (live12 true true n1 c1 n2 c2) (hp12 true true cs1 t1 s1 e1 cs2 t2 s2 e2 cs3 t3 s3 e3 n1 c1 n2 c2 n) t).fix := by kernel_rfl
theorem o12_obs_tt : (trsN O12 states12).map (obsN Tryd.prog 7 CH0 Fn.top_hawseBlade O12 33 (live12 true true n1 c1 n2 c2) (hp12 true true cs1 t1 s1 e1 cs2 t2 s2 e2 cs3 t3 s3 e3 n1 c1 n2 c2 n) (rho12 true true) (ans12 true true)) = (trsN O12 states12).map (expN 33 (live12 true true n1 c1 n2 c2) (hp12 true true cs1 t1 s1 e1 cs2 t2 s2 e2 cs3 t3 s3 e3 n1 c1 n2 c2 n) (rho12 true true) (cnd12 true true cs1 cs2 n1 c1 n2 c2) (len12 true true)) := by kernel_rfl
theorem o12_good_tt : ((trsN O12 states12).all fun t => goodR 9 (len12 true true t.2) ((live12 true true n1 c1 n2 c2) (t.1 ||| 2 ^ t.2)) ((hp12 true true cs1 t1 s1 e1 cs2 t2 s2 e2 cs3 t3 s3 e3 n1 c1 n2 c2 n) (t.1 ||| 2 ^ t.2)) (rho12 true true t.2)) = true := by kernel_rfl
end
end Go.Proofs.YtbocpikgochioaaDoor.WaysH
namespace Go.Proofs.YtbocpikgochioaaDoor.WaysH
open Go Go.Ex Go.Proofs.YtbocpikgochioaaDoor Go.Proofs.YtbocpikgochioaaDoor.Ways
section
variable (z1 z2 : Bool) (cs1 cs2 cs3 : List Value) (t1 s1 t2 s2 t3 s3 : Nat) (e1 e2 e3 : Bool) (n1 c1 n2 c2 n : Nat)
noncomputable def L12 : LTab := regE noL Fn.top_hawseBlade 1 33 9 O12 (live12 z1 z2 n1 c1 n2 c2 0) (base12 cs1 t1 s1 e1 cs2 t2 s2 e2 cs3 t3 s3 e3 n1 c1 n2 c2 n) (.leaf (.ex .normal (tmL 33 (live12 z1 z2 n1 c1 n2 c2 16383)) (heapL ((hp12 z1 z2 cs1 t1 s1 e1 cs2 t2 s2 e2 cs3 t3 s3 e3 n1 c1 n2 c2 n 16383).map (·.1))) []))
end
section
variable {cs1 cs2 cs3 : List Value} {t1 s1 t2 s2 t3 s3 : Nat} {e1 e2 e3 : Bool} {n1 c1 n2 c2 n : Nat}
theorem ls12_ff (h1 : cs1.all Ex.flat = true) (h2 : cs2.all Ex.flat = true) (h3 : cs3.all Ex.flat = true) (g1 : n1 ≤ c1 ∧ n1 ≤ 1000000 ∧ cs1.length = n1 ∧ decide (n1 = 0) = false) (g2 : n2 ≤ c2 ∧ n2 ≤ 1000000 ∧ cs2.length = n2 ∧ decide (n2 = 0) = false) : LSound Tryd.prog 7 (L12 false false cs1 cs2 cs3 t1 s1 t2 s2 t3 s3 e1 e2 e3 n1 c1 n2 c2 n) := by
  refine LSound.region .none (by kernel_rfl) (flatB12 h1 h2 h3) fun r hr ro tm0 H0 hk hst => ?_
  cases hr
  have ho := orders_of states12 (o12_fix_ff cs1 cs2 cs3 t1 s1 t2 s2 t3 s3 e1 e2 e3 n1 c1 n2 c2 n) (o12_obs_ff cs1 cs2 cs3 t1 s1 t2 s2 t3 s3 e1 e2 e3 n1 c1 n2 c2 n) (cnd12_ok g1 g2) (o12_good_ff cs1 cs2 cs3 t1 s1 t2 s2 t3 s3 e1 e2 e3 n1 c1 n2 c2 n) closed12 (flat12 h1 h2 h3)
  rw [← hk] at ho hst
  exact orders_sound2 (id := 1) (j := 5) (qS_selfSound noW_sound) mix12 ho (by rw [hk]; decide) (by decide) (by kernel_rfl) hst ro
theorem ls12_ft (h1 : cs1.all Ex.flat = true) (h2 : cs2.all Ex.flat = true) (h3 : cs3.all Ex.flat = true) (g1 : n1 ≤ c1 ∧ n1 ≤ 1000000 ∧ cs1.length = n1 ∧ decide (n1 = 0) = false) (g2 : n2 ≤ c2 ∧ n2 ≤ 1000000 ∧ cs2.length = n2 ∧ decide (n2 = 0) = true) : LSound Tryd.prog 7 (L12 false true cs1 cs2 cs3 t1 s1 t2 s2 t3 s3 e1 e2 e3 n1 c1 n2 c2 n) := by
  refine LSound.region .none (by kernel_rfl) (flatB12 h1 h2 h3) fun r hr ro tm0 H0 hk hst => ?_
  cases hr
  have ho := orders_of states12 (o12_fix_ft cs1 cs2 cs3 t1 s1 t2 s2 t3 s3 e1 e2 e3 n1 c1 n2 c2 n) (o12_obs_ft cs1 cs2 cs3 t1 s1 t2 s2 t3 s3 e1 e2 e3 n1 c1 n2 c2 n) (cnd12_ok g1 g2) (o12_good_ft cs1 cs2 cs3 t1 s1 t2 s2 t3 s3 e1 e2 e3 n1 c1 n2 c2 n) closed12 (flat12 h1 h2 h3)
  rw [← hk] at ho hst
  exact orders_sound2 (id := 1) (j := 5) (qS_selfSound noW_sound) mix12 ho (by rw [hk]; decide) (by decide) (by kernel_rfl) hst ro
theorem ls12_tf (h1 : cs1.all Ex.flat = true) (h2 : cs2.all Ex.flat = true) (h3 : cs3.all Ex.flat = true) (g1 : n1 ≤ c1 ∧ n1 ≤ 1000000 ∧ cs1.length = n1 ∧ decide (n1 = 0) = true) (g2 : n2 ≤ c2 ∧ n2 ≤ 1000000 ∧ cs2.length = n2 ∧ decide (n2 = 0) = false) : LSound Tryd.prog 7 (L12 true false cs1 cs2 cs3 t1 s1 t2 s2 t3 s3 e1 e2 e3 n1 c1 n2 c2 n) := by
  refine LSound.region .none (by kernel_rfl) (flatB12 h1 h2 h3) fun r hr ro tm0 H0 hk hst => ?_
  cases hr
  have ho := orders_of states12 (o12_fix_tf cs1 cs2 cs3 t1 s1 t2 s2 t3 s3 e1 e2 e3 n1 c1 n2 c2 n) (o12_obs_tf cs1 cs2 cs3 t1 s1 t2 s2 t3 s3 e1 e2 e3 n1 c1 n2 c2 n) (cnd12_ok g1 g2) (o12_good_tf cs1 cs2 cs3 t1 s1 t2 s2 t3 s3 e1 e2 e3 n1 c1 n2 c2 n) closed12 (flat12 h1 h2 h3)
  rw [← hk] at ho hst
  exact orders_sound2 (id := 1) (j := 5) (qS_selfSound noW_sound) mix12 ho (by rw [hk]; decide) (by decide) (by kernel_rfl) hst ro
theorem ls12_tt (h1 : cs1.all Ex.flat = true) (h2 : cs2.all Ex.flat = true) (h3 : cs3.all Ex.flat = true) (g1 : n1 ≤ c1 ∧ n1 ≤ 1000000 ∧ cs1.length = n1 ∧ decide (n1 = 0) = true) (g2 : n2 ≤ c2 ∧ n2 ≤ 1000000 ∧ cs2.length = n2 ∧ decide (n2 = 0) = true) : LSound Tryd.prog 7 (L12 true true cs1 cs2 cs3 t1 s1 t2 s2 t3 s3 e1 e2 e3 n1 c1 n2 c2 n) := by
  refine LSound.region .none (by kernel_rfl) (flatB12 h1 h2 h3) fun r hr ro tm0 H0 hk hst => ?_
  cases hr
  have ho := orders_of states12 (o12_fix_tt cs1 cs2 cs3 t1 s1 t2 s2 t3 s3 e1 e2 e3 n1 c1 n2 c2 n) (o12_obs_tt cs1 cs2 cs3 t1 s1 t2 s2 t3 s3 e1 e2 e3 n1 c1 n2 c2 n) (cnd12_ok g1 g2) (o12_good_tt cs1 cs2 cs3 t1 s1 t2 s2 t3 s3 e1 e2 e3 n1 c1 n2 c2 n) closed12 (flat12 h1 h2 h3)
  rw [← hk] at ho hst
  exact orders_sound2 (id := 1) (j := 5) (qS_selfSound noW_sound) mix12 ho (by rw [hk]; decide) (by decide) (by kernel_rfl) hst ro
end
noncomputable def CJ (z1 z2 : Bool) (cs1 cs2 cs3 : List Value) (t1 s1 t2 s2 t3 s3 : Nat) (e1 e2 e3 : Bool) (n1 c1 n2 c2 n : Nat) : Cfg := ⟨TG0, no_, off_, L12 z1 z2 cs1 cs2 cs3 t1 s1 t2 s2 t3 s3 e1 e2 e3 n1 c1 n2 c2 n⟩
end Go.Proofs.YtbocpikgochioaaDoor.WaysH
namespace Go.Proofs.YtbocpikgochioaaDoor.WaysH
open Go Go.Ex Go.Proofs.YtbocpikgochioaaDoor Go.Proofs.YtbocpikgochioaaDoor.Ways
section
variable {cs1 cs2 : List Value} {t1 s1 t2 s2 t3 s3 : Nat} {e1 e2 e3 : Bool} {n1 c1 n2 c2 : Nat} {ρ : Nat → Int}
theorem cp_0_ff (g1 : n1 ≤ c1 ∧ n1 ≤ 1000000 ∧ cs1.length = n1 ∧ decide (n1 = 0) = false) (g2 : n2 ≤ c2 ∧ n2 ≤ 1000000 ∧ cs2.length = n2 ∧ decide (n2 = 0) = false) (f1 : cs1.all Ex.flat = true) (f2 : cs2.all Ex.flat = true) :
    ∃ v H', Sound Tryd.prog 7 (.call Fn.top_hawseBlade ⟨[blV n1 c1 n2 c2 (sl 6 0 0 0)]⟩ (hpB cs1 t1 s1 e1 cs2 t2 s2 e2 (ringC ρ 0) t3 s3 e3)) (.val v H') ∧ H'.length = 14 ∧ (∃ kA kB, Cop H' v cs1 cs2 n1 n2 nilV kA kB ∧ kB < 13) ∧ True := by
  obtain ⟨H', hs, hl, hb⟩ := seen_sel (o := execO Tryd.prog 7 (CJ false false cs1 cs2 (ringC ρ 0) t1 s1 t2 s2 t3 s3 e1 e2 e3 n1 c1 n2 c2 0) 60 (.call Fn.top_hawseBlade ⟨[blV n1 c1 n2 c2 (sl 6 0 0 0)]⟩ (hpB cs1 t1 s1 e1 cs2 t2 s2 e2 (ringC ρ 0) t3 s3 e3))) (κ := [10, 12]) (v := ag [lA false n1, lB false n2, nilV]) (len := 14) (bl := [some (cellA false cs1 n1), some (cellA false cs2 n2)]) (by kernel_rfl) (by kernel_rfl)
  simp only [List.map_cons, List.map_nil, List.cons.injEq, and_true] at hb
  obtain ⟨h5, h6⟩ := hb
  obtain ⟨x1, q1⟩ := cellA_eq g1.2.2.1 g1.2.2.2
  obtain ⟨x2, q2⟩ := cellA_eq g2.2.2.1 g2.2.2.2
  rw [q1] at h5
  rw [q2] at h6
  refine ⟨_, H', execO_sound (C := (CJ false false cs1 cs2 (ringC ρ 0) t1 s1 t2 s2 t3 s3 e1 e2 e3 n1 c1 n2 c2 0)) tsG0 (ls12_ff f1 f2 (ringC_flat ρ 0) g1 g2) 60 _ _ hs, hl, ⟨10, 12, ⟨?_, ⟨x1, h5⟩, ⟨x2, h6⟩, by decide⟩, by decide⟩, trivial⟩
  rw [lA_eq g1.2.2.2, lB_eq g2.2.2.2]; rfl
theorem cp_0_ft (g1 : n1 ≤ c1 ∧ n1 ≤ 1000000 ∧ cs1.length = n1 ∧ decide (n1 = 0) = false) (g2 : n2 ≤ c2 ∧ n2 ≤ 1000000 ∧ cs2.length = n2 ∧ decide (n2 = 0) = true) (f1 : cs1.all Ex.flat = true) (f2 : cs2.all Ex.flat = true) :
    ∃ v H', Sound Tryd.prog 7 (.call Fn.top_hawseBlade ⟨[blV n1 c1 n2 c2 (sl 6 0 0 0)]⟩ (hpB cs1 t1 s1 e1 cs2 t2 s2 e2 (ringC ρ 0) t3 s3 e3)) (.val v H') ∧ H'.length = 14 ∧ (∃ kA kB, Cop H' v cs1 cs2 n1 n2 nilV kA kB ∧ kB < 13) ∧ True := by
  obtain ⟨H', hs, hl, hb⟩ := seen_sel (o := execO Tryd.prog 7 (CJ false true cs1 cs2 (ringC ρ 0) t1 s1 t2 s2 t3 s3 e1 e2 e3 n1 c1 n2 c2 0) 60 (.call Fn.top_hawseBlade ⟨[blV n1 c1 n2 c2 (sl 6 0 0 0)]⟩ (hpB cs1 t1 s1 e1 cs2 t2 s2 e2 (ringC ρ 0) t3 s3 e3))) (κ := [10, 11]) (v := ag [lA false n1, lB true n2, nilV]) (len := 14) (bl := [some (cellA false cs1 n1), some (cellA true cs2 n2)]) (by kernel_rfl) (by kernel_rfl)
  simp only [List.map_cons, List.map_nil, List.cons.injEq, and_true] at hb
  obtain ⟨h5, h6⟩ := hb
  obtain ⟨x1, q1⟩ := cellA_eq g1.2.2.1 g1.2.2.2
  obtain ⟨x2, q2⟩ := cellA_eq g2.2.2.1 g2.2.2.2
  rw [q1] at h5
  rw [q2] at h6
  refine ⟨_, H', execO_sound (C := (CJ false true cs1 cs2 (ringC ρ 0) t1 s1 t2 s2 t3 s3 e1 e2 e3 n1 c1 n2 c2 0)) tsG0 (ls12_ft f1 f2 (ringC_flat ρ 0) g1 g2) 60 _ _ hs, hl, ⟨10, 11, ⟨?_, ⟨x1, h5⟩, ⟨x2, h6⟩, by decide⟩, by decide⟩, trivial⟩
  rw [lA_eq g1.2.2.2, lB_eq g2.2.2.2]; rfl
theorem cp_0_tf (g1 : n1 ≤ c1 ∧ n1 ≤ 1000000 ∧ cs1.length = n1 ∧ decide (n1 = 0) = true) (g2 : n2 ≤ c2 ∧ n2 ≤ 1000000 ∧ cs2.length = n2 ∧ decide (n2 = 0) = false) (f1 : cs1.all Ex.flat = true) (f2 : cs2.all Ex.flat = true) :
    ∃ v H', Sound Tryd.prog 7 (.call Fn.top_hawseBlade ⟨[blV n1 c1 n2 c2 (sl 6 0 0 0)]⟩ (hpB cs1 t1 s1 e1 cs2 t2 s2 e2 (ringC ρ 0) t3 s3 e3)) (.val v H') ∧ H'.length = 14 ∧ (∃ kA kB, Cop H' v cs1 cs2 n1 n2 nilV kA kB ∧ kB < 13) ∧ True := by
  obtain ⟨H', hs, hl, hb⟩ := seen_sel (o := execO Tryd.prog 7 (CJ true false cs1 cs2 (ringC ρ 0) t1 s1 t2 s2 t3 s3 e1 e2 e3 n1 c1 n2 c2 0) 60 (.call Fn.top_hawseBlade ⟨[blV n1 c1 n2 c2 (sl 6 0 0 0)]⟩ (hpB cs1 t1 s1 e1 cs2 t2 s2 e2 (ringC ρ 0) t3 s3 e3))) (κ := [9, 12]) (v := ag [lA true n1, lB false n2, nilV]) (len := 14) (bl := [some (cellA true cs1 n1), some (cellA false cs2 n2)]) (by kernel_rfl) (by kernel_rfl)
  simp only [List.map_cons, List.map_nil, List.cons.injEq, and_true] at hb
  obtain ⟨h5, h6⟩ := hb
  obtain ⟨x1, q1⟩ := cellA_eq g1.2.2.1 g1.2.2.2
  obtain ⟨x2, q2⟩ := cellA_eq g2.2.2.1 g2.2.2.2
  rw [q1] at h5
  rw [q2] at h6
  refine ⟨_, H', execO_sound (C := (CJ true false cs1 cs2 (ringC ρ 0) t1 s1 t2 s2 t3 s3 e1 e2 e3 n1 c1 n2 c2 0)) tsG0 (ls12_tf f1 f2 (ringC_flat ρ 0) g1 g2) 60 _ _ hs, hl, ⟨9, 12, ⟨?_, ⟨x1, h5⟩, ⟨x2, h6⟩, by decide⟩, by decide⟩, trivial⟩
  rw [lA_eq g1.2.2.2, lB_eq g2.2.2.2]; rfl
theorem cp_0_tt (g1 : n1 ≤ c1 ∧ n1 ≤ 1000000 ∧ cs1.length = n1 ∧ decide (n1 = 0) = true) (g2 : n2 ≤ c2 ∧ n2 ≤ 1000000 ∧ cs2.length = n2 ∧ decide (n2 = 0) = true) (f1 : cs1.all Ex.flat = true) (f2 : cs2.all Ex.flat = true) :
    ∃ v H', Sound Tryd.prog 7 (.call Fn.top_hawseBlade ⟨[blV n1 c1 n2 c2 (sl 6 0 0 0)]⟩ (hpB cs1 t1 s1 e1 cs2 t2 s2 e2 (ringC ρ 0) t3 s3 e3)) (.val v H') ∧ H'.length = 14 ∧ (∃ kA kB, Cop H' v cs1 cs2 n1 n2 nilV kA kB ∧ kB < 13) ∧ True := by
  obtain ⟨H', hs, hl, hb⟩ := seen_sel (o := execO Tryd.prog 7 (CJ true true cs1 cs2 (ringC ρ 0) t1 s1 t2 s2 t3 s3 e1 e2 e3 n1 c1 n2 c2 0) 60 (.call Fn.top_hawseBlade ⟨[blV n1 c1 n2 c2 (sl 6 0 0 0)]⟩ (hpB cs1 t1 s1 e1 cs2 t2 s2 e2 (ringC ρ 0) t3 s3 e3))) (κ := [9, 11]) (v := ag [lA true n1, lB true n2, nilV]) (len := 14) (bl := [some (cellA true cs1 n1), some (cellA true cs2 n2)]) (by kernel_rfl) (by kernel_rfl)
  simp only [List.map_cons, List.map_nil, List.cons.injEq, and_true] at hb
  obtain ⟨h5, h6⟩ := hb
  obtain ⟨x1, q1⟩ := cellA_eq g1.2.2.1 g1.2.2.2
  obtain ⟨x2, q2⟩ := cellA_eq g2.2.2.1 g2.2.2.2
  rw [q1] at h5
  rw [q2] at h6
  refine ⟨_, H', execO_sound (C := (CJ true true cs1 cs2 (ringC ρ 0) t1 s1 t2 s2 t3 s3 e1 e2 e3 n1 c1 n2 c2 0)) tsG0 (ls12_tt f1 f2 (ringC_flat ρ 0) g1 g2) 60 _ _ hs, hl, ⟨9, 11, ⟨?_, ⟨x1, h5⟩, ⟨x2, h6⟩, by decide⟩, by decide⟩, trivial⟩
  rw [lA_eq g1.2.2.2, lB_eq g2.2.2.2]; rfl
theorem cp_1_ff (g1 : n1 ≤ c1 ∧ n1 ≤ 1000000 ∧ cs1.length = n1 ∧ decide (n1 = 0) = false) (g2 : n2 ≤ c2 ∧ n2 ≤ 1000000 ∧ cs2.length = n2 ∧ decide (n2 = 0) = false) (f1 : cs1.all Ex.flat = true) (f2 : cs2.all Ex.flat = true) :
    ∃ v H', Sound Tryd.prog 7 (.call Fn.top_hawseBlade ⟨[blV n1 c1 n2 c2 (sl 6 0 1 1)]⟩ (hpB cs1 t1 s1 e1 cs2 t2 s2 e2 (ringC ρ 1) t3 s3 e3)) (.val v H') ∧ H'.length = 17 ∧ (∃ kA kB, Cop H' v cs1 cs2 n1 n2 (sl 16 0 1 1) kA kB ∧ kB < 13) ∧ H'[16]? = some (.cells (ringC ρ 1) 103 4 false) := by
  obtain ⟨H', hs, hl, hb⟩ := seen_sel (o := execO Tryd.prog 7 (CJ false false cs1 cs2 (ringC ρ 1) t1 s1 t2 s2 t3 s3 e1 e2 e3 n1 c1 n2 c2 1) 60 (.call Fn.top_hawseBlade ⟨[blV n1 c1 n2 c2 (sl 6 0 1 1)]⟩ (hpB cs1 t1 s1 e1 cs2 t2 s2 e2 (ringC ρ 1) t3 s3 e3))) (κ := [10, 12, 16]) (v := ag [lA false n1, lB false n2, (sl 16 0 1 1)]) (len := 17) (bl := [some (cellA false cs1 n1), some (cellA false cs2 n2), some (.cells (ringC ρ 1) 103 4 false)]) (by kernel_rfl) (by kernel_rfl)
  simp only [List.map_cons, List.map_nil, List.cons.injEq, and_true] at hb
  obtain ⟨h5, h6, h7⟩ := hb
  obtain ⟨x1, q1⟩ := cellA_eq g1.2.2.1 g1.2.2.2
  obtain ⟨x2, q2⟩ := cellA_eq g2.2.2.1 g2.2.2.2
  rw [q1] at h5
  rw [q2] at h6
  refine ⟨_, H', execO_sound (C := (CJ false false cs1 cs2 (ringC ρ 1) t1 s1 t2 s2 t3 s3 e1 e2 e3 n1 c1 n2 c2 1)) tsG0 (ls12_ff f1 f2 (ringC_flat ρ 1) g1 g2) 60 _ _ hs, hl, ⟨10, 12, ⟨?_, ⟨x1, h5⟩, ⟨x2, h6⟩, by decide⟩, by decide⟩, h7⟩
  rw [lA_eq g1.2.2.2, lB_eq g2.2.2.2]; rfl
theorem cp_1_ft (g1 : n1 ≤ c1 ∧ n1 ≤ 1000000 ∧ cs1.length = n1 ∧ decide (n1 = 0) = false) (g2 : n2 ≤ c2 ∧ n2 ≤ 1000000 ∧ cs2.length = n2 ∧ decide (n2 = 0) = true) (f1 : cs1.all Ex.flat = true) (f2 : cs2.all Ex.flat = true) :
    ∃ v H', Sound Tryd.prog 7 (.call Fn.top_hawseBlade ⟨[blV n1 c1 n2 c2 (sl 6 0 1 1)]⟩ (hpB cs1 t1 s1 e1 cs2 t2 s2 e2 (ringC ρ 1) t3 s3 e3)) (.val v H') ∧ H'.length = 17 ∧ (∃ kA kB, Cop H' v cs1 cs2 n1 n2 (sl 16 0 1 1) kA kB ∧ kB < 13) ∧ H'[16]? = some (.cells (ringC ρ 1) 103 4 false) := by
  obtain ⟨H', hs, hl, hb⟩ := seen_sel (o := execO Tryd.prog 7 (CJ false true cs1 cs2 (ringC ρ 1) t1 s1 t2 s2 t3 s3 e1 e2 e3 n1 c1 n2 c2 1) 60 (.call Fn.top_hawseBlade ⟨[blV n1 c1 n2 c2 (sl 6 0 1 1)]⟩ (hpB cs1 t1 s1 e1 cs2 t2 s2 e2 (ringC ρ 1) t3 s3 e3))) (κ := [10, 11, 16]) (v := ag [lA false n1, lB true n2, (sl 16 0 1 1)]) (len := 17) (bl := [some (cellA false cs1 n1), some (cellA true cs2 n2), some (.cells (ringC ρ 1) 103 4 false)]) (by kernel_rfl) (by kernel_rfl)
  simp only [List.map_cons, List.map_nil, List.cons.injEq, and_true] at hb
  obtain ⟨h5, h6, h7⟩ := hb
  obtain ⟨x1, q1⟩ := cellA_eq g1.2.2.1 g1.2.2.2
  obtain ⟨x2, q2⟩ := cellA_eq g2.2.2.1 g2.2.2.2
  rw [q1] at h5
  rw [q2] at h6
  refine ⟨_, H', execO_sound (C := (CJ false true cs1 cs2 (ringC ρ 1) t1 s1 t2 s2 t3 s3 e1 e2 e3 n1 c1 n2 c2 1)) tsG0 (ls12_ft f1 f2 (ringC_flat ρ 1) g1 g2) 60 _ _ hs, hl, ⟨10, 11, ⟨?_, ⟨x1, h5⟩, ⟨x2, h6⟩, by decide⟩, by decide⟩, h7⟩
  rw [lA_eq g1.2.2.2, lB_eq g2.2.2.2]; rfl
theorem cp_1_tf (g1 : n1 ≤ c1 ∧ n1 ≤ 1000000 ∧ cs1.length = n1 ∧ decide (n1 = 0) = true) (g2 : n2 ≤ c2 ∧ n2 ≤ 1000000 ∧ cs2.length = n2 ∧ decide (n2 = 0) = false) (f1 : cs1.all Ex.flat = true) (f2 : cs2.all Ex.flat = true) :
    ∃ v H', Sound Tryd.prog 7 (.call Fn.top_hawseBlade ⟨[blV n1 c1 n2 c2 (sl 6 0 1 1)]⟩ (hpB cs1 t1 s1 e1 cs2 t2 s2 e2 (ringC ρ 1) t3 s3 e3)) (.val v H') ∧ H'.length = 17 ∧ (∃ kA kB, Cop H' v cs1 cs2 n1 n2 (sl 16 0 1 1) kA kB ∧ kB < 13) ∧ H'[16]? = some (.cells (ringC ρ 1) 103 4 false) := by
  obtain ⟨H', hs, hl, hb⟩ := seen_sel (o := execO Tryd.prog 7 (CJ true false cs1 cs2 (ringC ρ 1) t1 s1 t2 s2 t3 s3 e1 e2 e3 n1 c1 n2 c2 1) 60 (.call Fn.top_hawseBlade ⟨[blV n1 c1 n2 c2 (sl 6 0 1 1)]⟩ (hpB cs1 t1 s1 e1 cs2 t2 s2 e2 (ringC ρ 1) t3 s3 e3))) (κ := [9, 12, 16]) (v := ag [lA true n1, lB false n2, (sl 16 0 1 1)]) (len := 17) (bl := [some (cellA true cs1 n1), some (cellA false cs2 n2), some (.cells (ringC ρ 1) 103 4 false)]) (by kernel_rfl) (by kernel_rfl)
  simp only [List.map_cons, List.map_nil, List.cons.injEq, and_true] at hb
  obtain ⟨h5, h6, h7⟩ := hb
  obtain ⟨x1, q1⟩ := cellA_eq g1.2.2.1 g1.2.2.2
  obtain ⟨x2, q2⟩ := cellA_eq g2.2.2.1 g2.2.2.2
  rw [q1] at h5
  rw [q2] at h6
  refine ⟨_, H', execO_sound (C := (CJ true false cs1 cs2 (ringC ρ 1) t1 s1 t2 s2 t3 s3 e1 e2 e3 n1 c1 n2 c2 1)) tsG0 (ls12_tf f1 f2 (ringC_flat ρ 1) g1 g2) 60 _ _ hs, hl, ⟨9, 12, ⟨?_, ⟨x1, h5⟩, ⟨x2, h6⟩, by decide⟩, by decide⟩, h7⟩
  rw [lA_eq g1.2.2.2, lB_eq g2.2.2.2]; rfl
theorem cp_1_tt (g1 : n1 ≤ c1 ∧ n1 ≤ 1000000 ∧ cs1.length = n1 ∧ decide (n1 = 0) = true) (g2 : n2 ≤ c2 ∧ n2 ≤ 1000000 ∧ cs2.length = n2 ∧ decide (n2 = 0) = true) (f1 : cs1.all Ex.flat = true) (f2 : cs2.all Ex.flat = true) :
    ∃ v H', Sound Tryd.prog 7 (.call Fn.top_hawseBlade ⟨[blV n1 c1 n2 c2 (sl 6 0 1 1)]⟩ (hpB cs1 t1 s1 e1 cs2 t2 s2 e2 (ringC ρ 1) t3 s3 e3)) (.val v H') ∧ H'.length = 17 ∧ (∃ kA kB, Cop H' v cs1 cs2 n1 n2 (sl 16 0 1 1) kA kB ∧ kB < 13) ∧ H'[16]? = some (.cells (ringC ρ 1) 103 4 false) := by
  obtain ⟨H', hs, hl, hb⟩ := seen_sel (o := execO Tryd.prog 7 (CJ true true cs1 cs2 (ringC ρ 1) t1 s1 t2 s2 t3 s3 e1 e2 e3 n1 c1 n2 c2 1) 60 (.call Fn.top_hawseBlade ⟨[blV n1 c1 n2 c2 (sl 6 0 1 1)]⟩ (hpB cs1 t1 s1 e1 cs2 t2 s2 e2 (ringC ρ 1) t3 s3 e3))) (κ := [9, 11, 16]) (v := ag [lA true n1, lB true n2, (sl 16 0 1 1)]) (len := 17) (bl := [some (cellA true cs1 n1), some (cellA true cs2 n2), some (.cells (ringC ρ 1) 103 4 false)]) (by kernel_rfl) (by kernel_rfl)
  simp only [List.map_cons, List.map_nil, List.cons.injEq, and_true] at hb
  obtain ⟨h5, h6, h7⟩ := hb
  obtain ⟨x1, q1⟩ := cellA_eq g1.2.2.1 g1.2.2.2
  obtain ⟨x2, q2⟩ := cellA_eq g2.2.2.1 g2.2.2.2
  rw [q1] at h5
  rw [q2] at h6
  refine ⟨_, H', execO_sound (C := (CJ true true cs1 cs2 (ringC ρ 1) t1 s1 t2 s2 t3 s3 e1 e2 e3 n1 c1 n2 c2 1)) tsG0 (ls12_tt f1 f2 (ringC_flat ρ 1) g1 g2) 60 _ _ hs, hl, ⟨9, 11, ⟨?_, ⟨x1, h5⟩, ⟨x2, h6⟩, by decide⟩, by decide⟩, h7⟩
  rw [lA_eq g1.2.2.2, lB_eq g2.2.2.2]; rfl
theorem cp_2_ff (g1 : n1 ≤ c1 ∧ n1 ≤ 1000000 ∧ cs1.length = n1 ∧ decide (n1 = 0) = false) (g2 : n2 ≤ c2 ∧ n2 ≤ 1000000 ∧ cs2.length = n2 ∧ decide (n2 = 0) = false) (f1 : cs1.all Ex.flat = true) (f2 : cs2.all Ex.flat = true) :
    ∃ v H', Sound Tryd.prog 7 (.call Fn.top_hawseBlade ⟨[blV n1 c1 n2 c2 (sl 6 0 2 2)]⟩ (hpB cs1 t1 s1 e1 cs2 t2 s2 e2 (ringC ρ 2) t3 s3 e3)) (.val v H') ∧ H'.length = 20 ∧ (∃ kA kB, Cop H' v cs1 cs2 n1 n2 (sl 19 0 2 2) kA kB ∧ kB < 13) ∧ H'[19]? = some (.cells (ringC ρ 2) 103 4 false) := by
  obtain ⟨H', hs, hl, hb⟩ := seen_sel (o := execO Tryd.prog 7 (CJ false false cs1 cs2 (ringC ρ 2) t1 s1 t2 s2 t3 s3 e1 e2 e3 n1 c1 n2 c2 2) 60 (.call Fn.top_hawseBlade ⟨[blV n1 c1 n2 c2 (sl 6 0 2 2)]⟩ (hpB cs1 t1 s1 e1 cs2 t2 s2 e2 (ringC ρ 2) t3 s3 e3))) (κ := [10, 12, 19]) (v := ag [lA false n1, lB false n2, (sl 19 0 2 2)]) (len := 20) (bl := [some (cellA false cs1 n1), some (cellA false cs2 n2), some (.cells (ringC ρ 2) 103 4 false)]) (by kernel_rfl) (by kernel_rfl)
  simp only [List.map_cons, List.map_nil, List.cons.injEq, and_true] at hb
  obtain ⟨h5, h6, h7⟩ := hb
  obtain ⟨x1, q1⟩ := cellA_eq g1.2.2.1 g1.2.2.2
  obtain ⟨x2, q2⟩ := cellA_eq g2.2.2.1 g2.2.2.2
  rw [q1] at h5
  rw [q2] at h6
  refine ⟨_, H', execO_sound (C := (CJ false false cs1 cs2 (ringC ρ 2) t1 s1 t2 s2 t3 s3 e1 e2 e3 n1 c1 n2 c2 2)) tsG0 (ls12_ff f1 f2 (ringC_flat ρ 2) g1 g2) 60 _ _ hs, hl, ⟨10, 12, ⟨?_, ⟨x1, h5⟩, ⟨x2, h6⟩, by decide⟩, by decide⟩, h7⟩
  rw [lA_eq g1.2.2.2, lB_eq g2.2.2.2]; rfl
theorem cp_2_ft (g1 : n1 ≤ c1 ∧ n1 ≤ 1000000 ∧ cs1.length = n1 ∧ decide (n1 = 0) = false) (g2 : n2 ≤ c2 ∧ n2 ≤ 1000000 ∧ cs2.length = n2 ∧ decide (n2 = 0) = true) (f1 : cs1.all Ex.flat = true) (f2 : cs2.all Ex.flat = true) :
    ∃ v H', Sound Tryd.prog 7 (.call Fn.top_hawseBlade ⟨[blV n1 c1 n2 c2 (sl 6 0 2 2)]⟩ (hpB cs1 t1 s1 e1 cs2 t2 s2 e2 (ringC ρ 2) t3 s3 e3)) (.val v H') ∧ H'.length = 20 ∧ (∃ kA kB, Cop H' v cs1 cs2 n1 n2 (sl 19 0 2 2) kA kB ∧ kB < 13) ∧ H'[19]? = some (.cells (ringC ρ 2) 103 4 false) := by
  obtain ⟨H', hs, hl, hb⟩ := seen_sel (o := execO Tryd.prog 7 (CJ false true cs1 cs2 (ringC ρ 2) t1 s1 t2 s2 t3 s3 e1 e2 e3 n1 c1 n2 c2 2) 60 (.call Fn.top_hawseBlade ⟨[blV n1 c1 n2 c2 (sl 6 0 2 2)]⟩ (hpB cs1 t1 s1 e1 cs2 t2 s2 e2 (ringC ρ 2) t3 s3 e3))) (κ := [10, 11, 19]) (v := ag [lA false n1, lB true n2, (sl 19 0 2 2)]) (len := 20) (bl := [some (cellA false cs1 n1), some (cellA true cs2 n2), some (.cells (ringC ρ 2) 103 4 false)]) (by kernel_rfl) (by kernel_rfl)
  simp only [List.map_cons, List.map_nil, List.cons.injEq, and_true] at hb
  obtain ⟨h5, h6, h7⟩ := hb
  obtain ⟨x1, q1⟩ := cellA_eq g1.2.2.1 g1.2.2.2
  obtain ⟨x2, q2⟩ := cellA_eq g2.2.2.1 g2.2.2.2
  rw [q1] at h5
  rw [q2] at h6
  refine ⟨_, H', execO_sound (C := (CJ false true cs1 cs2 (ringC ρ 2) t1 s1 t2 s2 t3 s3 e1 e2 e3 n1 c1 n2 c2 2)) tsG0 (ls12_ft f1 f2 (ringC_flat ρ 2) g1 g2) 60 _ _ hs, hl, ⟨10, 11, ⟨?_, ⟨x1, h5⟩, ⟨x2, h6⟩, by decide⟩, by decide⟩, h7⟩
  rw [lA_eq g1.2.2.2, lB_eq g2.2.2.2]; rfl
theorem cp_2_tf (g1 : n1 ≤ c1 ∧ n1 ≤ 1000000 ∧ cs1.length = n1 ∧ decide (n1 = 0) = true) (g2 : n2 ≤ c2 ∧ n2 ≤ 1000000 ∧ cs2.length = n2 ∧ decide (n2 = 0) = false) (f1 : cs1.all Ex.flat = true) (f2 : cs2.all Ex.flat = true) :
    ∃ v H', Sound Tryd.prog 7 (.call Fn.top_hawseBlade ⟨[blV n1 c1 n2 c2 (sl 6 0 2 2)]⟩ (hpB cs1 t1 s1 e1 cs2 t2 s2 e2 (ringC ρ 2) t3 s3 e3)) (.val v H') ∧ H'.length = 20 ∧ (∃ kA kB, Cop H' v cs1 cs2 n1 n2 (sl 19 0 2 2) kA kB ∧ kB < 13) ∧ H'[19]? = some (.cells (ringC ρ 2) 103 4 false) := by
  obtain ⟨H', hs, hl, hb⟩ := seen_sel (o := execO Tryd.prog 7 (CJ true false cs1 cs2 (ringC ρ 2) t1 s1 t2 s2 t3 s3 e1 e2 e3 n1 c1 n2 c2 2) 60 (.call Fn.top_hawseBlade ⟨[blV n1 c1 n2 c2 (sl 6 0 2 2)]⟩ (hpB cs1 t1 s1 e1 cs2 t2 s2 e2 (ringC ρ 2) t3 s3 e3))) (κ := [9, 12, 19]) (v := ag [lA true n1, lB false n2, (sl 19 0 2 2)]) (len := 20) (bl := [some (cellA true cs1 n1), some (cellA false cs2 n2), some (.cells (ringC ρ 2) 103 4 false)]) (by kernel_rfl) (by kernel_rfl)
  simp only [List.map_cons, List.map_nil, List.cons.injEq, and_true] at hb
  obtain ⟨h5, h6, h7⟩ := hb
  obtain ⟨x1, q1⟩ := cellA_eq g1.2.2.1 g1.2.2.2
  obtain ⟨x2, q2⟩ := cellA_eq g2.2.2.1 g2.2.2.2
  rw [q1] at h5
  rw [q2] at h6
  refine ⟨_, H', execO_sound (C := (CJ true false cs1 cs2 (ringC ρ 2) t1 s1 t2 s2 t3 s3 e1 e2 e3 n1 c1 n2 c2 2)) tsG0 (ls12_tf f1 f2 (ringC_flat ρ 2) g1 g2) 60 _ _ hs, hl, ⟨9, 12, ⟨?_, ⟨x1, h5⟩, ⟨x2, h6⟩, by decide⟩, by decide⟩, h7⟩
  rw [lA_eq g1.2.2.2, lB_eq g2.2.2.2]; rfl
theorem cp_2_tt (g1 : n1 ≤ c1 ∧ n1 ≤ 1000000 ∧ cs1.length = n1 ∧ decide (n1 = 0) = true) (g2 : n2 ≤ c2 ∧ n2 ≤ 1000000 ∧ cs2.length = n2 ∧ decide (n2 = 0) = true) (f1 : cs1.all Ex.flat = true) (f2 : cs2.all Ex.flat = true) :
    ∃ v H', Sound Tryd.prog 7 (.call Fn.top_hawseBlade ⟨[blV n1 c1 n2 c2 (sl 6 0 2 2)]⟩ (hpB cs1 t1 s1 e1 cs2 t2 s2 e2 (ringC ρ 2) t3 s3 e3)) (.val v H') ∧ H'.length = 20 ∧ (∃ kA kB, Cop H' v cs1 cs2 n1 n2 (sl 19 0 2 2) kA kB ∧ kB < 13) ∧ H'[19]? = some (.cells (ringC ρ 2) 103 4 false) := by
  obtain ⟨H', hs, hl, hb⟩ := seen_sel (o := execO Tryd.prog 7 (CJ true true cs1 cs2 (ringC ρ 2) t1 s1 t2 s2 t3 s3 e1 e2 e3 n1 c1 n2 c2 2) 60 (.call Fn.top_hawseBlade ⟨[blV n1 c1 n2 c2 (sl 6 0 2 2)]⟩ (hpB cs1 t1 s1 e1 cs2 t2 s2 e2 (ringC ρ 2) t3 s3 e3))) (κ := [9, 11, 19]) (v := ag [lA true n1, lB true n2, (sl 19 0 2 2)]) (len := 20) (bl := [some (cellA true cs1 n1), some (cellA true cs2 n2), some (.cells (ringC ρ 2) 103 4 false)]) (by kernel_rfl) (by kernel_rfl)
  simp only [List.map_cons, List.map_nil, List.cons.injEq, and_true] at hb
  obtain ⟨h5, h6, h7⟩ := hb
  obtain ⟨x1, q1⟩ := cellA_eq g1.2.2.1 g1.2.2.2
  obtain ⟨x2, q2⟩ := cellA_eq g2.2.2.1 g2.2.2.2
  rw [q1] at h5
  rw [q2] at h6
  refine ⟨_, H', execO_sound (C := (CJ true true cs1 cs2 (ringC ρ 2) t1 s1 t2 s2 t3 s3 e1 e2 e3 n1 c1 n2 c2 2)) tsG0 (ls12_tt f1 f2 (ringC_flat ρ 2) g1 g2) 60 _ _ hs, hl, ⟨9, 11, ⟨?_, ⟨x1, h5⟩, ⟨x2, h6⟩, by decide⟩, by decide⟩, h7⟩
  rw [lA_eq g1.2.2.2, lB_eq g2.2.2.2]; rfl
theorem cp_3_ff (g1 : n1 ≤ c1 ∧ n1 ≤ 1000000 ∧ cs1.length = n1 ∧ decide (n1 = 0) = false) (g2 : n2 ≤ c2 ∧ n2 ≤ 1000000 ∧ cs2.length = n2 ∧ decide (n2 = 0) = false) (f1 : cs1.all Ex.flat = true) (f2 : cs2.all Ex.flat = true) :
    ∃ v H', Sound Tryd.prog 7 (.call Fn.top_hawseBlade ⟨[blV n1 c1 n2 c2 (sl 6 0 3 3)]⟩ (hpB cs1 t1 s1 e1 cs2 t2 s2 e2 (ringC ρ 3) t3 s3 e3)) (.val v H') ∧ H'.length = 23 ∧ (∃ kA kB, Cop H' v cs1 cs2 n1 n2 (sl 22 0 3 3) kA kB ∧ kB < 13) ∧ H'[22]? = some (.cells (ringC ρ 3) 103 4 false) := by
  obtain ⟨H', hs, hl, hb⟩ := seen_sel (o := execO Tryd.prog 7 (CJ false false cs1 cs2 (ringC ρ 3) t1 s1 t2 s2 t3 s3 e1 e2 e3 n1 c1 n2 c2 3) 60 (.call Fn.top_hawseBlade ⟨[blV n1 c1 n2 c2 (sl 6 0 3 3)]⟩ (hpB cs1 t1 s1 e1 cs2 t2 s2 e2 (ringC ρ 3) t3 s3 e3))) (κ := [10, 12, 22]) (v := ag [lA false n1, lB false n2, (sl 22 0 3 3)]) (len := 23) (bl := [some (cellA false cs1 n1), some (cellA false cs2 n2), some (.cells (ringC ρ 3) 103 4 false)]) (by kernel_rfl) (by kernel_rfl)
  simp only [List.map_cons, List.map_nil, List.cons.injEq, and_true] at hb
  obtain ⟨h5, h6, h7⟩ := hb
  obtain ⟨x1, q1⟩ := cellA_eq g1.2.2.1 g1.2.2.2
  obtain ⟨x2, q2⟩ := cellA_eq g2.2.2.1 g2.2.2.2
  rw [q1] at h5
  rw [q2] at h6
  refine ⟨_, H', execO_sound (C := (CJ false false cs1 cs2 (ringC ρ 3) t1 s1 t2 s2 t3 s3 e1 e2 e3 n1 c1 n2 c2 3)) tsG0 (ls12_ff f1 f2 (ringC_flat ρ 3) g1 g2) 60 _ _ hs, hl, ⟨10, 12, ⟨?_, ⟨x1, h5⟩, ⟨x2, h6⟩, by decide⟩, by decide⟩, h7⟩
  rw [lA_eq g1.2.2.2, lB_eq g2.2.2.2]; rfl
theorem cp_3_ft (g1 : n1 ≤ c1 ∧ n1 ≤ 1000000 ∧ cs1.length = n1 ∧ decide (n1 = 0) = false) (g2 : n2 ≤ c2 ∧ n2 ≤ 1000000 ∧ cs2.length = n2 ∧ decide (n2 = 0) = true) (f1 : cs1.all Ex.flat = true) (f2 : cs2.all Ex.flat = true) :
    ∃ v H', Sound Tryd.prog 7 (.call Fn.top_hawseBlade ⟨[blV n1 c1 n2 c2 (sl 6 0 3 3)]⟩ (hpB cs1 t1 s1 e1 cs2 t2 s2 e2 (ringC ρ 3) t3 s3 e3)) (.val v H') ∧ H'.length = 23 ∧ (∃ kA kB, Cop H' v cs1 cs2 n1 n2 (sl 22 0 3 3) kA kB ∧ kB < 13) ∧ H'[22]? = some (.cells (ringC ρ 3) 103 4 false) := by
  obtain ⟨H', hs, hl, hb⟩ := seen_sel (o := execO Tryd.prog 7 (CJ false true cs1 cs2 (ringC ρ 3) t1 s1 t2 s2 t3 s3 e1 e2 e3 n1 c1 n2 c2 3) 60 (.call Fn.top_hawseBlade ⟨[blV n1 c1 n2 c2 (sl 6 0 3 3)]⟩ (hpB cs1 t1 s1 e1 cs2 t2 s2 e2 (ringC ρ 3) t3 s3 e3))) (κ := [10, 11, 22]) (v := ag [lA false n1, lB true n2, (sl 22 0 3 3)]) (len := 23) (bl := [some (cellA false cs1 n1), some (cellA true cs2 n2), some (.cells (ringC ρ 3) 103 4 false)]) (by kernel_rfl) (by kernel_rfl)
  simp only [List.map_cons, List.map_nil, List.cons.injEq, and_true] at hb
  obtain ⟨h5, h6, h7⟩ := hb
  obtain ⟨x1, q1⟩ := cellA_eq g1.2.2.1 g1.2.2.2
  obtain ⟨x2, q2⟩ := cellA_eq g2.2.2.1 g2.2.2.2
  rw [q1] at h5
  rw [q2] at h6
  refine ⟨_, H', execO_sound (C := (CJ false true cs1 cs2 (ringC ρ 3) t1 s1 t2 s2 t3 s3 e1 e2 e3 n1 c1 n2 c2 3)) tsG0 (ls12_ft f1 f2 (ringC_flat ρ 3) g1 g2) 60 _ _ hs, hl, ⟨10, 11, ⟨?_, ⟨x1, h5⟩, ⟨x2, h6⟩, by decide⟩, by decide⟩, h7⟩
  rw [lA_eq g1.2.2.2, lB_eq g2.2.2.2]; rfl
theorem cp_3_tf (g1 : n1 ≤ c1 ∧ n1 ≤ 1000000 ∧ cs1.length = n1 ∧ decide (n1 = 0) = true) (g2 : n2 ≤ c2 ∧ n2 ≤ 1000000 ∧ cs2.length = n2 ∧ decide (n2 = 0) = false) (f1 : cs1.all Ex.flat = true) (f2 : cs2.all Ex.flat = true) :
    ∃ v H', Sound Tryd.prog 7 (.call Fn.top_hawseBlade ⟨[blV n1 c1 n2 c2 (sl 6 0 3 3)]⟩ (hpB cs1 t1 s1 e1 cs2 t2 s2 e2 (ringC ρ 3) t3 s3 e3)) (.val v H') ∧ H'.length = 23 ∧ (∃ kA kB, Cop H' v cs1 cs2 n1 n2 (sl 22 0 3 3) kA kB ∧ kB < 13) ∧ H'[22]? = some (.cells (ringC ρ 3) 103 4 false) := by
  obtain ⟨H', hs, hl, hb⟩ := seen_sel (o := execO Tryd.prog 7 (CJ true false cs1 cs2 (ringC ρ 3) t1 s1 t2 s2 t3 s3 e1 e2 e3 n1 c1 n2 c2 3) 60 (.call Fn.top_hawseBlade ⟨[blV n1 c1 n2 c2 (sl 6 0 3 3)]⟩ (hpB cs1 t1 s1 e1 cs2 t2 s2 e2 (ringC ρ 3) t3 s3 e3))) (κ := [9, 12, 22]) (v := ag [lA true n1, lB false n2, (sl 22 0 3 3)]) (len := 23) (bl := [some (cellA true cs1 n1), some (cellA false cs2 n2), some (.cells (ringC ρ 3) 103 4 false)]) (by kernel_rfl) (by kernel_rfl)
  simp only [List.map_cons, List.map_nil, List.cons.injEq, and_true] at hb
  obtain ⟨h5, h6, h7⟩ := hb
  obtain ⟨x1, q1⟩ := cellA_eq g1.2.2.1 g1.2.2.2
  obtain ⟨x2, q2⟩ := cellA_eq g2.2.2.1 g2.2.2.2
  rw [q1] at h5
  rw [q2] at h6
  refine ⟨_, H', execO_sound (C := (CJ true false cs1 cs2 (ringC ρ 3) t1 s1 t2 s2 t3 s3 e1 e2 e3 n1 c1 n2 c2 3)) tsG0 (ls12_tf f1 f2 (ringC_flat ρ 3) g1 g2) 60 _ _ hs, hl, ⟨9, 12, ⟨?_, ⟨x1, h5⟩, ⟨x2, h6⟩, by decide⟩, by decide⟩, h7⟩
  rw [lA_eq g1.2.2.2, lB_eq g2.2.2.2]; rfl
theorem cp_3_tt (g1 : n1 ≤ c1 ∧ n1 ≤ 1000000 ∧ cs1.length = n1 ∧ decide (n1 = 0) = true) (g2 : n2 ≤ c2 ∧ n2 ≤ 1000000 ∧ cs2.length = n2 ∧ decide (n2 = 0) = true) (f1 : cs1.all Ex.flat = true) (f2 : cs2.all Ex.flat = true) :
    ∃ v H', Sound Tryd.prog 7 (.call Fn.top_hawseBlade ⟨[blV n1 c1 n2 c2 (sl 6 0 3 3)]⟩ (hpB cs1 t1 s1 e1 cs2 t2 s2 e2 (ringC ρ 3) t3 s3 e3)) (.val v H') ∧ H'.length = 23 ∧ (∃ kA kB, Cop H' v cs1 cs2 n1 n2 (sl 22 0 3 3) kA kB ∧ kB < 13) ∧ H'[22]? = some (.cells (ringC ρ 3) 103 4 false) := by
  obtain ⟨H', hs, hl, hb⟩ := seen_sel (o := execO Tryd.prog 7 (CJ true true cs1 cs2 (ringC ρ 3) t1 s1 t2 s2 t3 s3 e1 e2 e3 n1 c1 n2 c2 3) 60 (.call Fn.top_hawseBlade ⟨[blV n1 c1 n2 c2 (sl 6 0 3 3)]⟩ (hpB cs1 t1 s1 e1 cs2 t2 s2 e2 (ringC ρ 3) t3 s3 e3))) (κ := [9, 11, 22]) (v := ag [lA true n1, lB true n2, (sl 22 0 3 3)]) (len := 23) (bl := [some (cellA true cs1 n1), some (cellA true cs2 n2), some (.cells (ringC ρ 3) 103 4 false)]) (by kernel_rfl) (by kernel_rfl)
  simp only [List.map_cons, List.map_nil, List.cons.injEq, and_true] at hb
  obtain ⟨h5, h6, h7⟩ := hb
  obtain ⟨x1, q1⟩ := cellA_eq g1.2.2.1 g1.2.2.2
  obtain ⟨x2, q2⟩ := cellA_eq g2.2.2.1 g2.2.2.2
  rw [q1] at h5
  rw [q2] at h6
  refine ⟨_, H', execO_sound (C := (CJ true true cs1 cs2 (ringC ρ 3) t1 s1 t2 s2 t3 s3 e1 e2 e3 n1 c1 n2 c2 3)) tsG0 (ls12_tt f1 f2 (ringC_flat ρ 3) g1 g2) 60 _ _ hs, hl, ⟨9, 11, ⟨?_, ⟨x1, h5⟩, ⟨x2, h6⟩, by decide⟩, by decide⟩, h7⟩
  rw [lA_eq g1.2.2.2, lB_eq g2.2.2.2]; rfl
theorem cp_17_ff (g1 : n1 ≤ c1 ∧ n1 ≤ 1000000 ∧ cs1.length = n1 ∧ decide (n1 = 0) = false) (g2 : n2 ≤ c2 ∧ n2 ≤ 1000000 ∧ cs2.length = n2 ∧ decide (n2 = 0) = false) (f1 : cs1.all Ex.flat = true) (f2 : cs2.all Ex.flat = true) :
    ∃ v H', Sound Tryd.prog 7 (.call Fn.top_hawseBlade ⟨[blV n1 c1 n2 c2 (sl 6 0 17 17)]⟩ (hpB cs1 t1 s1 e1 cs2 t2 s2 e2 (ringC ρ 17) t3 s3 e3)) (.val v H') ∧ H'.length = 65 ∧ (∃ kA kB, Cop H' v cs1 cs2 n1 n2 (sl 64 0 17 17) kA kB ∧ kB < 13) ∧ H'[64]? = some (.cells (ringC ρ 17) 103 4 false) := by
  obtain ⟨H', hs, hl, hb⟩ := seen_sel (o := execO Tryd.prog 7 (CJ false false cs1 cs2 (ringC ρ 17) t1 s1 t2 s2 t3 s3 e1 e2 e3 n1 c1 n2 c2 17) 60 (.call Fn.top_hawseBlade ⟨[blV n1 c1 n2 c2 (sl 6 0 17 17)]⟩ (hpB cs1 t1 s1 e1 cs2 t2 s2 e2 (ringC ρ 17) t3 s3 e3))) (κ := [10, 12, 64]) (v := ag [lA false n1, lB false n2, (sl 64 0 17 17)]) (len := 65) (bl := [some (cellA false cs1 n1), some (cellA false cs2 n2), some (.cells (ringC ρ 17) 103 4 false)]) (by kernel_rfl) (by kernel_rfl)
  simp only [List.map_cons, List.map_nil, List.cons.injEq, and_true] at hb
  obtain ⟨h5, h6, h7⟩ := hb
  obtain ⟨x1, q1⟩ := cellA_eq g1.2.2.1 g1.2.2.2
  obtain ⟨x2, q2⟩ := cellA_eq g2.2.2.1 g2.2.2.2
  rw [q1] at h5
  rw [q2] at h6
  refine ⟨_, H', execO_sound (C := (CJ false false cs1 cs2 (ringC ρ 17) t1 s1 t2 s2 t3 s3 e1 e2 e3 n1 c1 n2 c2 17)) tsG0 (ls12_ff f1 f2 (ringC_flat ρ 17) g1 g2) 60 _ _ hs, hl, ⟨10, 12, ⟨?_, ⟨x1, h5⟩, ⟨x2, h6⟩, by decide⟩, by decide⟩, h7⟩
  rw [lA_eq g1.2.2.2, lB_eq g2.2.2.2]; rfl
theorem cp_17_ft (g1 : n1 ≤ c1 ∧ n1 ≤ 1000000 ∧ cs1.length = n1 ∧ decide (n1 = 0) = false) (g2 : n2 ≤ c2 ∧ n2 ≤ 1000000 ∧ cs2.length = n2 ∧ decide (n2 = 0) = true) (f1 : cs1.all Ex.flat = true) (f2 : cs2.all Ex.flat = true) :
    ∃ v H', Sound Tryd.prog 7 (.call Fn.top_hawseBlade ⟨[blV n1 c1 n2 c2 (sl 6 0 17 17)]⟩ (hpB cs1 t1 s1 e1 cs2 t2 s2 e2 (ringC ρ 17) t3 s3 e3)) (.val v H') ∧ H'.length = 65 ∧ (∃ kA kB, Cop H' v cs1 cs2 n1 n2 (sl 64 0 17 17) kA kB ∧ kB < 13) ∧ H'[64]? = some (.cells (ringC ρ 17) 103 4 false) := by
  obtain ⟨H', hs, hl, hb⟩ := seen_sel (o := execO Tryd.prog 7 (CJ false true cs1 cs2 (ringC ρ 17) t1 s1 t2 s2 t3 s3 e1 e2 e3 n1 c1 n2 c2 17) 60 (.call Fn.top_hawseBlade ⟨[blV n1 c1 n2 c2 (sl 6 0 17 17)]⟩ (hpB cs1 t1 s1 e1 cs2 t2 s2 e2 (ringC ρ 17) t3 s3 e3))) (κ := [10, 11, 64]) (v := ag [lA false n1, lB true n2, (sl 64 0 17 17)]) (len := 65) (bl := [some (cellA false cs1 n1), some (cellA true cs2 n2), some (.cells (ringC ρ 17) 103 4 false)]) (by kernel_rfl) (by kernel_rfl)
  simp only [List.map_cons, List.map_nil, List.cons.injEq, and_true] at hb
  obtain ⟨h5, h6, h7⟩ := hb
  obtain ⟨x1, q1⟩ := cellA_eq g1.2.2.1 g1.2.2.2
  obtain ⟨x2, q2⟩ := cellA_eq g2.2.2.1 g2.2.2.2
  rw [q1] at h5
  rw [q2] at h6
  refine ⟨_, H', execO_sound (C := (CJ false true cs1 cs2 (ringC ρ 17) t1 s1 t2 s2 t3 s3 e1 e2 e3 n1 c1 n2 c2 17)) tsG0 (ls12_ft f1 f2 (ringC_flat ρ 17) g1 g2) 60 _ _ hs, hl, ⟨10, 11, ⟨?_, ⟨x1, h5⟩, ⟨x2, h6⟩, by decide⟩, by decide⟩, h7⟩
  rw [lA_eq g1.2.2.2, lB_eq g2.2.2.2]; rfl
theorem cp_17_tf (g1 : n1 ≤ c1 ∧ n1 ≤ 1000000 ∧ cs1.length = n1 ∧ decide (n1 = 0) = true) (g2 : n2 ≤ c2 ∧ n2 ≤ 1000000 ∧ cs2.length = n2 ∧ decide (n2 = 0) = false) (f1 : cs1.all Ex.flat = true) (f2 : cs2.all Ex.flat = true) :
    ∃ v H', Sound Tryd.prog 7 (.call Fn.top_hawseBlade ⟨[blV n1 c1 n2 c2 (sl 6 0 17 17)]⟩ (hpB cs1 t1 s1 e1 cs2 t2 s2 e2 (ringC ρ 17) t3 s3 e3)) (.val v H') ∧ H'.length = 65 ∧ (∃ kA kB, Cop H' v cs1 cs2 n1 n2 (sl 64 0 17 17) kA kB ∧ kB < 13) ∧ H'[64]? = some (.cells (ringC ρ 17) 103 4 false) := by
  obtain ⟨H', hs, hl, hb⟩ := seen_sel (o := execO Tryd.prog 7 (CJ true false cs1 cs2 (ringC ρ 17) t1 s1 t2 s2 t3 s3 e1 e2 e3 n1 c1 n2 c2 17) 60 (.call Fn.top_hawseBlade ⟨[blV n1 c1 n2 c2 (sl 6 0 17 17)]⟩ (hpB cs1 t1 s1 e1 cs2 t2 s2 e2 (ringC ρ 17) t3 s3 e3))) (κ := [9, 12, 64]) (v := ag [lA true n1, lB false n2, (sl 64 0 17 17)]) (len := 65) (bl := [some (cellA true cs1 n1), some (cellA false cs2 n2), some (.cells (ringC ρ 17) 103 4 false)]) (by kernel_rfl) (by kernel_rfl)
  simp only [List.map_cons, List.map_nil, List.cons.injEq, and_true] at hb
  obtain ⟨h5, h6, h7⟩ := hb
  obtain ⟨x1, q1⟩ := cellA_eq g1.2.2.1 g1.2.2.2
  obtain ⟨x2, q2⟩ := cellA_eq g2.2.2.1 g2.2.2.2
  rw [q1] at h5
  rw [q2] at h6
  refine ⟨_, H', execO_sound (C := (CJ true false cs1 cs2 (ringC ρ 17) t1 s1 t2 s2 t3 s3 e1 e2 e3 n1 c1 n2 c2 17)) tsG0 (ls12_tf f1 f2 (ringC_flat ρ 17) g1 g2) 60 _ _ hs, hl, ⟨9, 12, ⟨?_, ⟨x1, h5⟩, ⟨x2, h6⟩, by decide⟩, by decide⟩, h7⟩
  rw [lA_eq g1.2.2.2, lB_eq g2.2.2.2]; rfl
theorem cp_17_tt (g1 : n1 ≤ c1 ∧ n1 ≤ 1000000 ∧ cs1.length = n1 ∧ decide (n1 = 0) = true) (g2 : n2 ≤ c2 ∧ n2 ≤ 1000000 ∧ cs2.length = n2 ∧ decide (n2 = 0) = true) (f1 : cs1.all Ex.flat = true) (f2 : cs2.all Ex.flat = true) :
    ∃ v H', Sound Tryd.prog 7 (.call Fn.top_hawseBlade ⟨[blV n1 c1 n2 c2 (sl 6 0 17 17)]⟩ (hpB cs1 t1 s1 e1 cs2 t2 s2 e2 (ringC ρ 17) t3 s3 e3)) (.val v H') ∧ H'.length = 65 ∧ (∃ kA kB, Cop H' v cs1 cs2 n1 n2 (sl 64 0 17 17) kA kB ∧ kB < 13) ∧ H'[64]? = some (.cells (ringC ρ 17) 103 4 false) := by
  obtain ⟨H', hs, hl, hb⟩ := seen_sel (o := execO Tryd.prog 7 (CJ true true cs1 cs2 (ringC ρ 17) t1 s1 t2 s2 t3 s3 e1 e2 e3 n1 c1 n2 c2 17) 60 (.call Fn.top_hawseBlade ⟨[blV n1 c1 n2 c2 (sl 6 0 17 17)]⟩ (hpB cs1 t1 s1 e1 cs2 t2 s2 e2 (ringC ρ 17) t3 s3 e3))) (κ := [9, 11, 64]) (v := ag [lA true n1, lB true n2, (sl 64 0 17 17)]) (len := 65) (bl := [some (cellA true cs1 n1), some (cellA true cs2 n2), some (.cells (ringC ρ 17) 103 4 false)]) (by kernel_rfl) (by kernel_rfl)
  simp only [List.map_cons, List.map_nil, List.cons.injEq, and_true] at hb
  obtain ⟨h5, h6, h7⟩ := hb
  obtain ⟨x1, q1⟩ := cellA_eq g1.2.2.1 g1.2.2.2
  obtain ⟨x2, q2⟩ := cellA_eq g2.2.2.1 g2.2.2.2
  rw [q1] at h5
  rw [q2] at h6
  refine ⟨_, H', execO_sound (C := (CJ true true cs1 cs2 (ringC ρ 17) t1 s1 t2 s2 t3 s3 e1 e2 e3 n1 c1 n2 c2 17)) tsG0 (ls12_tt f1 f2 (ringC_flat ρ 17) g1 g2) 60 _ _ hs, hl, ⟨9, 11, ⟨?_, ⟨x1, h5⟩, ⟨x2, h6⟩, by decide⟩, by decide⟩, h7⟩
  rw [lA_eq g1.2.2.2, lB_eq g2.2.2.2]; rfl
end
end Go.Proofs.YtbocpikgochioaaDoor.WaysH
namespace Go.Proofs.YtbocpikgochioaaDoor.WaysH
open Go Go.Ex Go.Proofs.YtbocpikgochioaaDoor Go.Proofs.YtbocpikgochioaaDoor.Ways
section
variable {cs1 cs2 : List Value} {t1 s1 t2 s2 t3 s3 : Nat} {e1 e2 e3 : Bool} {n1 c1 n2 c2 : Nat} {ρ : Nat → Int}
theorem cp_0 (h1 : OkI cs1 n1 c1) (l1 : cs1.length = n1) (h2 : OkI cs2 n2 c2) (l2 : cs2.length = n2) :
    ∃ v H', Sound Tryd.prog 7 (.call Fn.top_hawseBlade ⟨[blV n1 c1 n2 c2 (sl 6 0 0 0)]⟩ (hpB cs1 t1 s1 e1 cs2 t2 s2 e2 (ringC ρ 0) t3 s3 e3)) (.val v H') ∧ H'.length = 14 ∧ (∃ kA kB, Cop H' v cs1 cs2 n1 n2 nilV kA kB ∧ kB < 13) ∧ True := by
  obtain ⟨f1, _, c1', b1⟩ := h1
  obtain ⟨f2, _, c2', b2⟩ := h2
  cases z1 : decide (n1 = 0) <;> cases z2 : decide (n2 = 0)
  · exact cp_0_ff ⟨c1', b1, l1, z1⟩ ⟨c2', b2, l2, z2⟩ f1 f2
  · exact cp_0_ft ⟨c1', b1, l1, z1⟩ ⟨c2', b2, l2, z2⟩ f1 f2
  · exact cp_0_tf ⟨c1', b1, l1, z1⟩ ⟨c2', b2, l2, z2⟩ f1 f2
  · exact cp_0_tt ⟨c1', b1, l1, z1⟩ ⟨c2', b2, l2, z2⟩ f1 f2
theorem cp_1 (h1 : OkI cs1 n1 c1) (l1 : cs1.length = n1) (h2 : OkI cs2 n2 c2) (l2 : cs2.length = n2) :
    ∃ v H', Sound Tryd.prog 7 (.call Fn.top_hawseBlade ⟨[blV n1 c1 n2 c2 (sl 6 0 1 1)]⟩ (hpB cs1 t1 s1 e1 cs2 t2 s2 e2 (ringC ρ 1) t3 s3 e3)) (.val v H') ∧ H'.length = 17 ∧ (∃ kA kB, Cop H' v cs1 cs2 n1 n2 (sl 16 0 1 1) kA kB ∧ kB < 13) ∧ H'[16]? = some (.cells (ringC ρ 1) 103 4 false) := by
  obtain ⟨f1, _, c1', b1⟩ := h1
  obtain ⟨f2, _, c2', b2⟩ := h2
  cases z1 : decide (n1 = 0) <;> cases z2 : decide (n2 = 0)
  · exact cp_1_ff ⟨c1', b1, l1, z1⟩ ⟨c2', b2, l2, z2⟩ f1 f2
  · exact cp_1_ft ⟨c1', b1, l1, z1⟩ ⟨c2', b2, l2, z2⟩ f1 f2
  · exact cp_1_tf ⟨c1', b1, l1, z1⟩ ⟨c2', b2, l2, z2⟩ f1 f2
  · exact cp_1_tt ⟨c1', b1, l1, z1⟩ ⟨c2', b2, l2, z2⟩ f1 f2
theorem cp_2 (h1 : OkI cs1 n1 c1) (l1 : cs1.length = n1) (h2 : OkI cs2 n2 c2) (l2 : cs2.length = n2) :
    ∃ v H', Sound Tryd.prog 7 (.call Fn.top_hawseBlade ⟨[blV n1 c1 n2 c2 (sl 6 0 2 2)]⟩ (hpB cs1 t1 s1 e1 cs2 t2 s2 e2 (ringC ρ 2) t3 s3 e3)) (.val v H') ∧ H'.length = 20 ∧ (∃ kA kB, Cop H' v cs1 cs2 n1 n2 (sl 19 0 2 2) kA kB ∧ kB < 13) ∧ H'[19]? = some (.cells (ringC ρ 2) 103 4 false) := by
  obtain ⟨f1, _, c1', b1⟩ := h1
  obtain ⟨f2, _, c2', b2⟩ := h2
  cases z1 : decide (n1 = 0) <;> cases z2 : decide (n2 = 0)
  · exact cp_2_ff ⟨c1', b1, l1, z1⟩ ⟨c2', b2, l2, z2⟩ f1 f2
  · exact cp_2_ft ⟨c1', b1, l1, z1⟩ ⟨c2', b2, l2, z2⟩ f1 f2
  · exact cp_2_tf ⟨c1', b1, l1, z1⟩ ⟨c2', b2, l2, z2⟩ f1 f2
  · exact cp_2_tt ⟨c1', b1, l1, z1⟩ ⟨c2', b2, l2, z2⟩ f1 f2
theorem cp_3 (h1 : OkI cs1 n1 c1) (l1 : cs1.length = n1) (h2 : OkI cs2 n2 c2) (l2 : cs2.length = n2) :
    ∃ v H', Sound Tryd.prog 7 (.call Fn.top_hawseBlade ⟨[blV n1 c1 n2 c2 (sl 6 0 3 3)]⟩ (hpB cs1 t1 s1 e1 cs2 t2 s2 e2 (ringC ρ 3) t3 s3 e3)) (.val v H') ∧ H'.length = 23 ∧ (∃ kA kB, Cop H' v cs1 cs2 n1 n2 (sl 22 0 3 3) kA kB ∧ kB < 13) ∧ H'[22]? = some (.cells (ringC ρ 3) 103 4 false) := by
  obtain ⟨f1, _, c1', b1⟩ := h1
  obtain ⟨f2, _, c2', b2⟩ := h2
  cases z1 : decide (n1 = 0) <;> cases z2 : decide (n2 = 0)
  · exact cp_3_ff ⟨c1', b1, l1, z1⟩ ⟨c2', b2, l2, z2⟩ f1 f2
  · exact cp_3_ft ⟨c1', b1, l1, z1⟩ ⟨c2', b2, l2, z2⟩ f1 f2
  · exact cp_3_tf ⟨c1', b1, l1, z1⟩ ⟨c2', b2, l2, z2⟩ f1 f2
  · exact cp_3_tt ⟨c1', b1, l1, z1⟩ ⟨c2', b2, l2, z2⟩ f1 f2
theorem cp_17 (h1 : OkI cs1 n1 c1) (l1 : cs1.length = n1) (h2 : OkI cs2 n2 c2) (l2 : cs2.length = n2) :
    ∃ v H', Sound Tryd.prog 7 (.call Fn.top_hawseBlade ⟨[blV n1 c1 n2 c2 (sl 6 0 17 17)]⟩ (hpB cs1 t1 s1 e1 cs2 t2 s2 e2 (ringC ρ 17) t3 s3 e3)) (.val v H') ∧ H'.length = 65 ∧ (∃ kA kB, Cop H' v cs1 cs2 n1 n2 (sl 64 0 17 17) kA kB ∧ kB < 13) ∧ H'[64]? = some (.cells (ringC ρ 17) 103 4 false) := by
  obtain ⟨f1, _, c1', b1⟩ := h1
  obtain ⟨f2, _, c2', b2⟩ := h2
  cases z1 : decide (n1 = 0) <;> cases z2 : decide (n2 = 0)
  · exact cp_17_ff ⟨c1', b1, l1, z1⟩ ⟨c2', b2, l2, z2⟩ f1 f2
  · exact cp_17_ft ⟨c1', b1, l1, z1⟩ ⟨c2', b2, l2, z2⟩ f1 f2
  · exact cp_17_tf ⟨c1', b1, l1, z1⟩ ⟨c2', b2, l2, z2⟩ f1 f2
  · exact cp_17_tt ⟨c1', b1, l1, z1⟩ ⟨c2', b2, l2, z2⟩ f1 f2
end
section
variable {G : Nat} {H H' : CH} {v : Value} {cs1 cs2 cs3 : List Value} {t1 s1 t2 s2 t3 s3 : Nat} {e1 e2 e3 : Bool} {bs : List Nat} {a : BlA} {args : List Value} {r kA kB : Nat}
theorem cp_fin (hbs : okBs bs = true) (hl : bs.length = 3) (hb : ∀ (j b : Nat) (o : CO), bs[j]? = some b → [CO.cells cs1 t1 s1 e1, .cells cs2 t2 s2 e2, .cells cs3 t3 s3 e3][j]? = some o → H[b]? = some o) (hgl : gl ≤ H.length)
    (has : renOk (List.range gl ++ bs) 8 a.val = true) (hargs : args = [ren (List.range gl ++ bs) 8 a.val]) (f1 : cs1.all Ex.flat = true) (f2 : cs2.all Ex.flat = true) (f3 : cs3.all Ex.flat = true)
    (hs : Sound Tryd.prog 7 (.call Fn.top_hawseBlade ⟨[a.val]⟩ (hpB cs1 t1 s1 e1 cs2 t2 s2 e2 cs3 t3 s3 e3)) (.val v H')) {R : Value} (hc : Cop H' v cs1 cs2 a.n1 a.n2 R kA kB) (hk : kB < 13) {κ : List Nat} {nb : List CO} {R' : Value}
    (hn : (κ = [kA, kB] ∧ nb = [.cells cs1 3 1 false, .cells cs2 3 1 false] ∧ R = nilV ∧ R' = nilV ∧ 13 ≤ H'.length) ∨ (κ = [kA, kB, r] ∧ nb = [.cells cs1 3 1 false, .cells cs2 3 1 false, .cells cs3 103 4 false] ∧ R = sl r 0 a.n a.n ∧ R' = sl (H.length + 2) 0 a.n a.n ∧ 13 ≤ r ∧ r < H'.length ∧ H'[r]? = some (.cells cs3 103 4 false))) :
    Sound Tryd.prog G (.call Fn.top_hawseBlade ⟨args⟩ H) (.val (ag [sl H.length 0 a.n1 a.n1, sl (H.length + 1) 0 a.n2 a.n2, R']) (pushesL H nb)) := by
  obtain ⟨hv, ⟨x1, hA⟩, ⟨x2, hB⟩, hge⟩ := hc
  subst hv
  have hlen : (heapL (deads ++ [CO.cells cs1 t1 s1 e1, .cells cs2 t2 s2 e2, .cells cs3 t3 s3 e3])).length = 7 := by rw [heapL_len]; rfl
  have hA' : ∀ {κ : List Nat}, κ[0]? = some kA → RN (List.replicate H.length H'.length ++ κ) (sl H.length 0 a.n1 a.n1) (sl kA 0 a.n1 a.n1) := fun h => .slice (by have := rep_get (N := H.length) (M := H'.length) h; simpa using this)
  have hB' : ∀ {κ : List Nat}, κ[1]? = some kB → RN (List.replicate H.length H'.length ++ κ) (sl (H.length + 1) 0 a.n2 a.n2) (sl kB 0 a.n2 a.n2) := fun h => .slice (rep_get h)
  have key : ∀ {κ : List Nat} {nb : List CO} {R R' : Value}, κ.length = nb.length → κ.Nodup → (∀ c ∈ κ, 7 ≤ c ∧ c < H'.length) → κ[0]? = some kA → κ[1]? = some kB → RN (List.replicate H.length H'.length ++ κ) R' R → (∀ (j c : Nat) (o : CO), nb[j]? = some o → κ[j]? = some c → o.alive = true → ∃ o', H'[c]? = some o' ∧ RO (List.replicate H.length H'.length ++ κ) o o') →
      Sound Tryd.prog 7 (.call Fn.top_hawseBlade ⟨[a.val]⟩ (hpB cs1 t1 s1 e1 cs2 t2 s2 e2 cs3 t3 s3 e3)) (.val (ag [sl kA 0 a.n1 a.n1, sl kB 0 a.n2 a.n2, R]) H') → Sound Tryd.prog G (.call Fn.top_hawseBlade ⟨args⟩ H) (.val (ag [sl H.length 0 a.n1 a.n1, sl (H.length + 1) 0 a.n2 a.n2, R']) (pushesL H nb)) := by
    intro κ nb R R' k1 k2 k3 k4 k5 k6 k7 hs
    refine Sound.makes (g := deads) (os := [CO.cells cs1 t1 s1 e1, .cells cs2 t2 s2 e2, .cells cs3 t3 s3 e3]) (bs := bs) (al := [a.val]) deads_len deads_flat (fun b o ho ha => ?_) hbs (by simp [hl]) ?_ hb (by simp [has]) (by rw [hargs]; rfl) (by rw [hlen]; exact hs) hgl k1 k2 (by rw [hlen]; exact k3) ?_ k7
    · have := (List.mem_replicate.1 (List.mem_of_getElem? ho)).2
      rw [this] at ha; cases ha
    · intro o ho
      simp at ho
      rcases ho with rfl | rfl | rfl
      · exact flatO_of f1
      · exact flatO_of f2
      · exact flatO_of f3
    · refine RN.nth rfl fun i x y hx hy => ?_
      match i, hx, hy with
      | 0, hx, hy => cases hx; cases hy; exact hA' k4
      | 1, hx, hy => cases hx; cases hy; exact hB' k5
      | 2, hx, hy => cases hx; cases hy; exact k6
      | i + 3, hx, _ => simp at hx
  rcases hn with ⟨rfl, rfl, rfl, rfl, hr⟩ | ⟨rfl, rfl, rfl, rfl, hr1, hr2, hr3⟩
  · refine key (κ := [kA, kB]) (R := nilV) (R' := nilV) rfl (by simp; omega) (fun c hc => ?_) rfl rfl (.flat rfl) (fun j c o ho hc _ => ?_) hs
    · simp at hc; omega
    · match j, ho, hc with
      | 0, ho, hc => cases ho; cases hc; exact ⟨_, hA, RO_weak f1⟩
      | 1, ho, hc => cases ho; cases hc; exact ⟨_, hB, RO_weak f2⟩
      | j + 2, ho, _ => simp at ho
  · refine key (κ := [kA, kB, r]) (R := sl r 0 a.n a.n) (R' := sl (H.length + 2) 0 a.n a.n) rfl (by simp; omega) (fun c hc => ?_) rfl rfl (.slice (rep_get (j := 2) rfl)) (fun j c o ho hc _ => ?_) hs
    · simp at hc; omega
    · match j, ho, hc with
      | 0, ho, hc => cases ho; cases hc; exact ⟨_, hA, RO_weak f1⟩
      | 1, ho, hc => cases ho; cases hc; exact ⟨_, hB, RO_weak f2⟩
      | 2, ho, hc => cases ho; cases hc; exact ⟨_, hr3, RO_weak f3⟩
      | j + 3, ho, _ => simp at ho
end
theorem cpE_ok {G : Nat} : ∀ args H c v H' l, cpE args H = some (c, v, H', l) → c.getD true = true → Same l → Sound Tryd.prog G (.call Fn.top_hawseBlade ⟨args⟩ H) (.val v H') := by
  intro args H c v H' l he hc _
  unfold cpE at he
  split at he
  case h_2 => cases he
  rename_i x hx
  obtain ⟨bs, a⟩ := x
  split at he
  case h_2 => cases he
  rename_i cs1 cs2 cs3 hcs
  dsimp only at hcs
  cases hgb : okBs bs && Nat.ble gl H.length with
  | false =>
    dsimp only at he
    rw [hgb] at he; cases he
  | true =>
    dsimp only at he
    rw [hgb] at he
    cases he
    rw [Bool.and_eq_true] at hgb
    have hok : okCp a cs1 cs2 cs3 := tru_iff.1 hc
    obtain ⟨os, o1, o2, o3⟩ := cellsOf_blks bs _ hcs
    obtain ⟨t1, s1, e1, t2, s2, e2, t3, s3, e3, rfl⟩ := blks3 o1
    obtain ⟨r1, r2⟩ := rdBl_ok args bs a hx
    have r1' : renOk (List.range gl ++ bs) 8 a.val = true := by simpa using r1
    obtain ⟨n1, c1, n2, c2, n, c, nl⟩ := a
    obtain ⟨hnl, ⟨h1, l1⟩, ⟨h2, l2⟩, h5, hcn, h3⟩ := hok
    dsimp only at hnl h1 l1 h2 l2 h5 hcn h3
    subst hnl
    subst hcn
    have f3 : cs3.all Ex.flat = true := by rw [h3]; exact ringC_flat _ _
    rcases h5 with rfl | rfl | rfl | rfl | rfl
    · obtain ⟨v, H2, q1, q2, ⟨kA, kB, q3, q4⟩, _⟩ := cp_0 (t1 := t1) (s1 := s1) (e1 := e1) (t2 := t2) (s2 := s2) (e2 := e2) (t3 := t3) (s3 := s3) (e3 := e3) (ρ := rhoE cs3) h1 l1 h2 l2
      rw [← h3] at q1
      exact cp_fin (r := 0) (a := ⟨n1, c1, n2, c2, 0, 0, false⟩) hgb.1 o2.symm o3 (Nat.le_of_ble_eq_true hgb.2) r1' r2 h1.1 h2.1 f3 q1 q3 q4 (.inl ⟨rfl, rfl, rfl, rfl, by rw [q2]; decide⟩)
    · obtain ⟨v, H2, q1, q2, ⟨kA, kB, q3, q4⟩, q5⟩ := cp_1 (t1 := t1) (s1 := s1) (e1 := e1) (t2 := t2) (s2 := s2) (e2 := e2) (t3 := t3) (s3 := s3) (e3 := e3) (ρ := rhoE cs3) h1 l1 h2 l2
      rw [← h3] at q1
      exact cp_fin (r := 16) (a := ⟨n1, c1, n2, c2, 1, 1, false⟩) hgb.1 o2.symm o3 (Nat.le_of_ble_eq_true hgb.2) r1' r2 h1.1 h2.1 f3 q1 q3 q4 (.inr ⟨rfl, rfl, rfl, rfl, by decide, by rw [q2]; decide, by rw [h3]; exact q5⟩)
    · obtain ⟨v, H2, q1, q2, ⟨kA, kB, q3, q4⟩, q5⟩ := cp_2 (t1 := t1) (s1 := s1) (e1 := e1) (t2 := t2) (s2 := s2) (e2 := e2) (t3 := t3) (s3 := s3) (e3 := e3) (ρ := rhoE cs3) h1 l1 h2 l2
      rw [← h3] at q1
      exact cp_fin (r := 19) (a := ⟨n1, c1, n2, c2, 2, 2, false⟩) hgb.1 o2.symm o3 (Nat.le_of_ble_eq_true hgb.2) r1' r2 h1.1 h2.1 f3 q1 q3 q4 (.inr ⟨rfl, rfl, rfl, rfl, by decide, by rw [q2]; decide, by rw [h3]; exact q5⟩)
    · obtain ⟨v, H2, q1, q2, ⟨kA, kB, q3, q4⟩, q5⟩ := cp_3 (t1 := t1) (s1 := s1) (e1 := e1) (t2 := t2) (s2 := s2) (e2 := e2) (t3 := t3) (s3 := s3) (e3 := e3) (ρ := rhoE cs3) h1 l1 h2 l2
      rw [← h3] at q1
      exact cp_fin (r := 22) (a := ⟨n1, c1, n2, c2, 3, 3, false⟩) hgb.1 o2.symm o3 (Nat.le_of_ble_eq_true hgb.2) r1' r2 h1.1 h2.1 f3 q1 q3 q4 (.inr ⟨rfl, rfl, rfl, rfl, by decide, by rw [q2]; decide, by rw [h3]; exact q5⟩)
    · obtain ⟨v, H2, q1, q2, ⟨kA, kB, q3, q4⟩, q5⟩ := cp_17 (t1 := t1) (s1 := s1) (e1 := e1) (t2 := t2) (s2 := s2) (e2 := e2) (t3 := t3) (s3 := s3) (e3 := e3) (ρ := rhoE cs3) h1 l1 h2 l2
      rw [← h3] at q1
      exact cp_fin (r := 64) (a := ⟨n1, c1, n2, c2, 17, 17, false⟩) hgb.1 o2.symm o3 (Nat.le_of_ble_eq_true hgb.2) r1' r2 h1.1 h2.1 f3 q1 q3 q4 (.inr ⟨rfl, rfl, rfl, rfl, by decide, by rw [q2]; decide, by rw [h3]; exact q5⟩)

end Go.Proofs.YtbocpikgochioaaDoor.WaysH
