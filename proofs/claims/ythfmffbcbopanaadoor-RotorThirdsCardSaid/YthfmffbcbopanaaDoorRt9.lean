import Derived.Test.YthfmffbcbopanaaDoorRt8
namespace Go.Proofs.YthfmffbcbopanaaDoor.Ways
open Go Go.Ex
theorem neg_sel {b : Bool} {k : VT} (h : b = false) : (neg b k).sel = k.sel := by subst h; rfl
theorem pos_sel {b : Bool} {k : VT} (h : b = true) : (pos b k).sel = k.sel := by subst h; rfl
theorem nz {u : Int} (h : u = 0) : (!eqF u 0) = false := by rw [eqF_d, h]; rfl
theorem ne' {u v : Int} (h : u = v) : (!eqF u v) = false := by rw [eqF_d, h]; simp
theorem ez {u : Int} (h : u = 0) : eqF u 0 = true := by rw [eqF_d, h]; rfl
theorem and2 {u v p q : Int} (h1 : u = p) (h2 : v = q) : (u == p && (v == q && true)) = true := by rw [h1, h2]; simp
theorem nand2 {u v p q : Int} (h1 : u = p) (h2 : v = q) : (!(u == p && (v == q && true))) = false := by rw [and2 h1 h2]; rfl
theorem nand3 {u v w p q r : Int} (h1 : u = p) (h2 : v = q) (h3 : w = r) : (!(u == p && (v == q && (w == r && true)))) = false := by rw [h1, h2, h3]; simp
theorem ltf {u v : Int} (h : ¬ u < v) : ltF u v = false := by rw [ltF_eq]; simpa using h
theorem mx_le {u v m : Int} (h : mxI u v ≤ m) : u ≤ m ∧ v ≤ m := by unfold mxI at h; split at h <;> omega
theorem mx_of {u v m : Int} (h1 : u ≤ m) (h2 : v ≤ m) : mxI u v ≤ m := by unfold mxI; split <;> omega
theorem mn_ge {u v m : Int} (h : m ≤ mnI u v) : m ≤ u ∧ m ≤ v := by unfold mnI at h; split at h <;> omega
theorem ng_sm {u : Int} (h : -4000000000000 ≤ u ∧ u ≤ 4000000000000) : ngI u = -u := by
  unfold ngI; rw [← wrapF_eq, wrapF_in (by omega) (by omega)]; omega
theorem p_sm {a b c d : Int} (ha : -10000 ≤ a ∧ a ≤ 10000) (hb : -10000 ≤ b ∧ b ≤ 10000) (hc : -10000 ≤ c ∧ c ≤ 10000) (hd : -10000 ≤ d ∧ d ≤ 10000) :
    P0 a b c d = a * c - b * d ∧ P1 a b c d = a * d + b * c - b * d ∧ (-300000000 ≤ P0 a b c d ∧ P0 a b c d ≤ 300000000) ∧ (-300000000 ≤ P1 a b c d ∧ P1 a b c d ≤ 300000000) := by
  have two : twoE a b c d = 0 := two_sm (by omega) (by omega) (by omega) (by omega)
  obtain ⟨t1, t2⟩ := t_sm (a := a) (b := b) (c := c) (d := d) 10000 (by omega) ha hb hc hd
  have p0 : P0 a b c d = a * c - b * d := by unfold P0; rw [two, ok0, t1]
  have p1 : P1 a b c d = a * d + b * c - b * d := by unfold P1; rw [two, ok0, t2]
  have m1 := mul_bd 10000 10000 ha hc
  have m2 := mul_bd 10000 10000 hb hd
  have m3 := mul_bd 10000 10000 ha hd
  have m4 := mul_bd 10000 10000 hb hc
  clear two t1 t2
  rw [p0, p1]
  clear p0 p1
  exact ⟨rfl, rfl, ⟨by omega, by omega⟩, ⟨by omega, by omega⟩⟩
theorem n0_sm {a b : Int} (ha : -10000 ≤ a ∧ a ≤ 10000) (hb : -10000 ≤ b ∧ b ≤ 10000) : N0 a b = a * a - a * b + b * b ∧ 0 ≤ N0 a b ∧ N0 a b ≤ 300000000 := by
  have pab : pairE a b = 0 := pair_sm (by omega) (by omega)
  have n0 : N0 a b = a * a - a * b + b * b := by unfold N0; rw [pab, ok0]; exact n_sm (by omega) (by omega)
  have m5 := mul_bd 10000 10000 ha ha
  have m6 := mul_bd 10000 10000 ha hb
  have m7 := mul_bd 10000 10000 hb hb
  have nn := n_nn a b
  rw [n0]
  clear n0 pab
  exact ⟨rfl, nn, by omega⟩
theorem u_sm {a b : Int} (ha : -10000 ≤ a ∧ a ≤ 10000) (hb : -10000 ≤ b ∧ b ≤ 10000) : U0 a b = -b ∧ U1 a b = a - b := by
  have pn : pnE a b 1 = 0 := pn_sm (by omega) (by omega) (by omega)
  obtain ⟨_, _, u0, u1, _, _⟩ := turn_sm (u := a) (v := b) (by omega) (by omega)
  exact ⟨by unfold U0; rw [pn, ok0, u0], by unfold U1; rw [pn, ok0, u1]⟩
theorem x_sm {a b : Int} (ha : -10000 ≤ a ∧ a ≤ 10000) (hb : -10000 ≤ b ∧ b ≤ 10000) : X0 a b = a - b ∧ X1 a b = -b := by
  have pab : pairE a b = 0 := pair_sm (by omega) (by omega)
  refine ⟨by unfold X0; rw [pab, ok0]; unfold cAE; exact wsm (by omega) (by omega), ?_⟩
  unfold X1
  rw [pab, ok0]
  unfold cBE
  rw [wsm (by omega) (by omega), Int.zero_sub]
theorem max4_sm {u v : Int} (hu : -300000000 ≤ u ∧ u ≤ 300000000) (hv : -300000000 ≤ v ∧ v ≤ 300000000) : ¬ 999999999 < max4 u v := by
  have e1 := ng_sm (u := u) (by omega)
  have e2 := ng_sm (u := v) (by omega)
  have : max4 u v ≤ 999999999 := by
    unfold max4
    exact mx_of (mx_of (mx_of (by omega) (by rw [e1]; omega)) (by omega)) (by rw [e2]; omega)
  exact fun h => by omega
theorem nmul {a b c d : Int} : (a * c - b * d) * (a * c - b * d) - (a * c - b * d) * (a * d + b * c - b * d) + (a * d + b * c - b * d) * (a * d + b * c - b * d) = (a * a - a * b + b * b) * (c * c - c * d + d * d) := by grind
theorem norm_sm {a b c d : Int} (ha : -10000 ≤ a ∧ a ≤ 10000) (hb : -10000 ≤ b ∧ b ≤ 10000) (hc : -10000 ≤ c ∧ c ≤ 10000) (hd : -10000 ≤ d ∧ d ≤ 10000) :
    nE (P0 a b c d) (P1 a b c d) = wrapF .i64 (N0 a b * N0 c d) := by
  obtain ⟨p0, p1, q0, q1⟩ := p_sm ha hb hc hd
  obtain ⟨n0, l0, h0⟩ := n0_sm ha hb
  obtain ⟨n1, l1, h1⟩ := n0_sm hc hd
  have k1 := mul_bd 300000000 300000000 (u := N0 a b) (v := N0 c d) ⟨by omega, h0⟩ ⟨by omega, h1⟩
  have e1 : nE (P0 a b c d) (P1 a b c d) = P0 a b c d * P0 a b c d - P0 a b c d * P1 a b c d + P1 a b c d * P1 a b c d := n_sm ⟨by omega, by omega⟩ ⟨by omega, by omega⟩
  have e2 : wrapF .i64 (N0 a b * N0 c d) = N0 a b * N0 c d := wrapF_in (by omega) (by omega)
  rw [e1, e2, n0, n1, p0, p1]
  exact nmul
theorem unorm {a b : Int} : (-b) * (-b) - (-b) * (a - b) + (a - b) * (a - b) = a * a - a * b + b * b := by grind
theorem cnorm {a b : Int} : a * (a - b) - b * (-b) = a * a - a * b + b * b := by grind
theorem cnil {a b : Int} : a * (-b) + b * (a - b) - b * (-b) = 0 := by grind
theorem P3 {u v w : Int} (hu : -10000000 ≤ u ∧ u ≤ 10000000) (hv : -10000000 ≤ v ∧ v ≤ 10000000) (hw : -10000000 ≤ w ∧ w ≤ 10000000) : plE (plE (plE 0 u) v) w = u + v + w := by
  rw [pl_sm (u := 0) (v := u) (by omega) (by omega), pl_sm (u := 0 + u) (v := v) (by omega) (by omega), pl_sm (by omega) (by omega), Int.zero_add]
theorem rot_sm {x y z : Int} (hx : -1000000 ≤ x ∧ x ≤ 1000000) (hy : -1000000 ≤ y ∧ y ≤ 1000000) (hz : -1000000 ≤ z ∧ z ≤ 1000000) :
    rotA x y z y z x z x y = 0 ∧ rotB x y z y z x z x y = 0 ∧ rotA x y z x y z x y z = 3 * (x - z) ∧ rotB x y z x y z x y z = 3 * (y - z) := by
  obtain ⟨_, s1, s2⟩ := split_eq (x := x) (y := y) (z := z) (by omega) (by omega) (by omega)
  obtain ⟨_, s4, s5⟩ := split_eq (x := y) (y := z) (z := x) (by omega) (by omega) (by omega)
  obtain ⟨_, s7, s8⟩ := split_eq (x := z) (y := x) (z := y) (by omega) (by omega) (by omega)
  unfold rotA rotB
  rw [s1, s2, s4, s5, s7, s8]
  clear s1 s2 s4 s5 s7 s8
  rw [P3 (by omega) (by omega) (by omega), P3 (by omega) (by omega) (by omega), P3 (by omega) (by omega) (by omega), P3 (by omega) (by omega) (by omega)]
  omega
set_option maxHeartbeats 2000000 in
theorem fix_sm {x y z : Int} (hx : -1000000 ≤ x ∧ x ≤ 1000000) (hy : -1000000 ≤ y ∧ y ≤ 1000000) (hz : -1000000 ≤ z ∧ z ≤ 1000000) :
    fixA x y z y z x z x y = 3 * (x - z) ∧ fixB x y z y z x z x y = 3 * (y - z) ∧ fixA x y z x y z x y z = 0 ∧ fixB x y z x y z x y z = 0 := by
  obtain ⟨_, s1, s2⟩ := split_eq (x := x) (y := y) (z := z) (by omega) (by omega) (by omega)
  obtain ⟨_, s4, s5⟩ := split_eq (x := y) (y := z) (z := x) (by omega) (by omega) (by omega)
  obtain ⟨_, s7, s8⟩ := split_eq (x := z) (y := x) (z := y) (by omega) (by omega) (by omega)
  unfold fixA fixB
  rw [s1, s2, s4, s5, s7, s8]
  clear s1 s2 s4 s5 s7 s8
  obtain ⟨f0, f1, f6, f7, f8, f9⟩ := turn_sm (u := x - z) (v := y - z) (by omega) (by omega)
  obtain ⟨_, _, f2, f3, _, _⟩ := turn_sm (u := y - x) (v := z - x) (by omega) (by omega)
  obtain ⟨_, _, _, _, f4, f5⟩ := turn_sm (u := z - y) (v := x - y) (by omega) (by omega)
  rw [f0, f1, f2, f3, f4, f5, f6, f7, f8, f9]
  clear f0 f1 f2 f3 f4 f5 f6 f7 f8 f9
  rw [P3 (by omega) (by omega) (by omega), P3 (by omega) (by omega) (by omega), P3 (by omega) (by omega) (by omega), P3 (by omega) (by omega) (by omega)]
  omega
theorem a0_sm {x y z : Int} (hx : -1000000 ≤ x ∧ x ≤ 1000000) (hy : -1000000 ≤ y ∧ y ≤ 1000000) (hz : -1000000 ≤ z ∧ z ≤ 1000000) :
    A0 x y z = x - z ∧ B0 x y z = y - z ∧ S0 x y z = x + y + z ∧ wrapF .i64 (3 * A0 x y z) = 3 * (x - z) ∧ wrapF .i64 (3 * B0 x y z) = 3 * (y - z) := by
  obtain ⟨s0, s1, s2⟩ := split_eq (x := x) (y := y) (z := z) (by omega) (by omega) (by omega)
  have a0 : A0 x y z = x - z := by unfold A0; rw [in_sm hx hy hz, ok0, s1]
  have a1 : B0 x y z = y - z := by unfold B0; rw [in_sm hx hy hz, ok0, s2]
  have a2 : S0 x y z = x + y + z := by unfold S0; rw [in_sm hx hy hz, ok0, s0]
  rw [a0, a1, a2]
  clear a0 a1 a2 s0 s1 s2
  exact ⟨rfl, rfl, rfl, wsm (by omega) (by omega), wsm (by omega) (by omega)⟩
theorem wide {u k l : Int} (h : -k ≤ u ∧ u ≤ k) (hkl : k ≤ l) : -l ≤ u ∧ u ≤ l := ⟨by omega, by omega⟩
theorem lawR_sel {x y z a b c d : Int} (hx : -1000000 ≤ x ∧ x ≤ 1000000) (hy : -1000000 ≤ y ∧ y ≤ 1000000) (hz : -1000000 ≤ z ∧ z ≤ 1000000) (ha : -10000 ≤ a ∧ a ≤ 10000) (hb : -10000 ≤ b ∧ b ≤ 10000) (hc : -10000 ≤ c ∧ c ≤ 10000) (hd : -10000 ≤ d ∧ d ≤ 10000) :
    (lawR x y z a b c d).sel = some (b_ true) := by
  have wa := wide ha (show (10000 : Int) ≤ 999999999 by decide)
  have wb := wide hb (show (10000 : Int) ≤ 999999999 by decide)
  have wc := wide hc (show (10000 : Int) ≤ 999999999 by decide)
  have wd := wide hd (show (10000 : Int) ≤ 999999999 by decide)
  have w1 : -20000 ≤ a - b ∧ a - b ≤ 20000 := ⟨by omega, by omega⟩
  have w2 : -20000 ≤ -b ∧ -b ≤ 20000 := ⟨by omega, by omega⟩
  have w3 : -20000 ≤ a ∧ a ≤ 20000 := ⟨by omega, by omega⟩
  have w4 : -20000 ≤ b ∧ b ≤ 20000 := ⟨by omega, by omega⟩
  have w5 := wide w1 (show (20000 : Int) ≤ 999999999 by decide)
  have w6 := wide w2 (show (20000 : Int) ≤ 999999999 by decide)
  have i2 : -999999999 ≤ (2 : Int) ∧ (2 : Int) ≤ 999999999 := by decide
  have two : twoE a b c d = 0 := two_sm wa wb wc wd
  have pab : pairE a b = 0 := pair_sm wa wb
  have pcd : pairE c d = 0 := pair_sm wc wd
  obtain ⟨_, _, q0, q1⟩ := p_sm ha hb hc hd
  obtain ⟨n0, l0, g0⟩ := n0_sm ha hb
  obtain ⟨_, l1, g1⟩ := n0_sm hc hd
  have pp : pairE (P0 a b c d) (P1 a b c d) = 0 := pair_sm (wide q0 (by decide)) (wide q1 (by decide))
  have pn : pnE a b 1 = 0 := pn_sm wa wb (by decide)
  obtain ⟨e0, e1⟩ := u_sm ha hb
  have pu : pairE (U0 a b) (U1 a b) = 0 := by rw [e0, e1]; exact pair_sm w6 w5
  have pu2 : pnE (U0 a b) (U1 a b) 2 = 0 := by rw [e0, e1]; exact pn_sm w6 w5 i2
  obtain ⟨_, _, _, _, u4, u5⟩ := turn_sm (u := -b) (v := a - b) (wide w2 (by decide)) (wide w1 (by decide))
  obtain ⟨x0, x1⟩ := x_sm ha hb
  have px : twoE a b (X0 a b) (X1 a b) = 0 := by rw [x0, x1]; exact two_sm wa wb w5 w6
  obtain ⟨y0, y1⟩ := t_sm (a := a) (b := b) (c := a - b) (d := -b) 20000 (by decide) w3 w4 w1 w2
  have e3a : e3E x y z y z x z x y = 0 := by unfold e3E err3E firstE; rw [in_sm hx hy hz, in_sm hy hz hx, in_sm hz hx hy]; rfl
  have e3b : e3E x y z x y z x y z = 0 := by unfold e3E err3E firstE; rw [in_sm hx hy hz]; rfl
  obtain ⟨_, _, _, w3a, w3b⟩ := a0_sm hx hy hz
  obtain ⟨r1, r2, r5, r6⟩ := rot_sm hx hy hz
  obtain ⟨r3, r4, r7, r8⟩ := fix_sm hx hy hz
  have ub : nE (U0 a b) (U1 a b) = N0 a b := by
    rw [e0, e1, n0, n_sm (wide w2 (by decide)) (wide w1 (by decide))]; exact unorm
  have ge : a - b - -b = a := by omega
  have ge2 : - -b = b := by omega
  unfold lawR
  rw [neg_sel (nz two), neg_sel (nz pab), neg_sel (nz pcd), neg_sel (ltf (max4_sm q0 q1)), neg_sel (ltf (Int.not_lt.2 l0)), neg_sel (ltf (Int.not_lt.2 (Int.le_trans g0 (by decide)))), neg_sel (ltf (Int.not_lt.2 l1)), neg_sel (ltf (Int.not_lt.2 (Int.le_trans g1 (by decide)))),
    neg_sel (nz pp), neg_sel (nz pn), neg_sel (nz pu), neg_sel (nz pu2), neg_sel (nz pab), neg_sel (nz px)]
  rw [neg_sel (ne' (by rw [pp, ok0]; exact norm_sm ha hb hc hd))]
  rw [neg_sel (ne' (by rw [pu, ok0]; exact ub))]
  rw [neg_sel (nand2 (by rw [pu2, ok0, e0, e1, u4]; exact ge) (by rw [pu2, ok0, e0, e1, u5]; exact ge2))]
  rw [neg_sel (nand2 (by rw [px, ok0, x0, x1, y0, n0]; exact cnorm) (by rw [px, ok0, x0, x1, y1]; exact cnil))]
  rw [pos_sel (ez e3a), pos_sel (ez e3a), pos_sel (ez e3b), pos_sel (ez e3b), pos_sel (and2 (by rw [e3a, ok0, r1]) (by rw [e3a, ok0, r2])), pos_sel (and2 (by rw [e3a, ok0, r3, w3a]) (by rw [e3a, ok0, r4, w3b])),
    pos_sel (and2 (by rw [e3b, ok0, r5, w3a]) (by rw [e3b, ok0, r6, w3b])), pos_sel (and2 (by rw [e3b, ok0, r7]) (by rw [e3b, ok0, r8]))]
  rfl
end Go.Proofs.YthfmffbcbopanaaDoor.Ways
