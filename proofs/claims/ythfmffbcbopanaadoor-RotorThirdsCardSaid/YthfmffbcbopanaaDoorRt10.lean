import Derived.Test.YthfmffbcbopanaaDoorRt9
namespace Go.Proofs.YthfmffbcbopanaaDoor.Ways
open Go Go.Ex
theorem max8_le {a b c d : Int} (h : ¬ 10000 < max8 a b c d) : a ≤ 10000 ∧ b ≤ 10000 ∧ c ≤ 10000 ∧ d ≤ 10000 := by
  have g1 := mx_le (show max8 a b c d ≤ 10000 from Int.not_lt.1 h)
  have g2 := mx_le g1.1
  have g3 := mx_le g2.1
  have g4 := mx_le g3.1
  have g5 := mx_le g4.1
  have g6 := mx_le g5.1
  have g7 := mx_le g6.1
  exact ⟨g7.1, g6.2, g4.2, g2.2⟩
theorem min4_ge {a b c d : Int} (h : ¬ min4 a b c d < -10000) : -10000 ≤ a ∧ -10000 ≤ b ∧ -10000 ≤ c ∧ -10000 ≤ d := by
  have k1 := mn_ge (show -10000 ≤ min4 a b c d from Int.not_lt.1 h)
  have k2 := mn_ge k1.1
  have k3 := mn_ge k2.1
  exact ⟨k3.1, k3.2, k2.2, k1.2⟩
def lawM (x y z a b c d : Int) : VT :=
  neg (!eqF (inE x y z) 0) (neg (!eqF (inE z x y) 0) (neg (!eqF (mErrE (S0 x y z) (A0 x y z) (B0 x y z)) 0) (neg (!eqF (pnE (A0 x y z) (B0 x y z) 1) 0) (neg (!eqF (okE (inE z x y) (sE z x y)) (S0 x y z))
    (neg (!eqF (S0 x y z) (wrapF .i64 (wrapF .i64 (x + y) + z)))
    (neg (!(okE (mErrE (S0 x y z) (A0 x y z) (B0 x y z)) (mXE (S0 x y z) (A0 x y z) (B0 x y z)) == x && (okE (mErrE (S0 x y z) (A0 x y z) (B0 x y z)) (mYE (S0 x y z) (A0 x y z) (B0 x y z)) == y && (okE (mErrE (S0 x y z) (A0 x y z) (B0 x y z)) (thE (S0 x y z) (A0 x y z) (B0 x y z)) == z && true))))
    (neg (!(okE (inE z x y) (aE z x y) == okE (pnE (A0 x y z) (B0 x y z) 1) (turnAE (A0 x y z) (B0 x y z) 1) && (okE (inE z x y) (bE z x y) == okE (pnE (A0 x y z) (B0 x y z) 1) (turnBE (A0 x y z) (B0 x y z) 1) && true)))
    (.br (A0 x y z == 0 && (B0 x y z == 0 && true)) (pos (eqF x y) (pos (eqF y z) (lawR x y z a b c d))) (.br (eqF x y) (neg (eqF y z) (lawR x y z a b c d)) (lawR x y z a b c d))))))))))
theorem lawM_sel {x y z a b c d : Int} (hx : -1000000 ≤ x ∧ x ≤ 1000000) (hy : -1000000 ≤ y ∧ y ≤ 1000000) (hz : -1000000 ≤ z ∧ z ≤ 1000000) (hR : (lawR x y z a b c d).sel = some (b_ true)) : (lawM x y z a b c d).sel = some (b_ true) := by
  have l1 : z + x + y = x + y + z := by omega
  have l2 : x + y + z = wrapF .i64 (wrapF .i64 (x + y) + z) := by rw [wsm (x := x + y) (by omega) (by omega), wsm (by omega) (by omega)]
  have l3 : z - y = -(y - z) := by omega
  have l4 : x - y = x - z - (y - z) := by omega
  have l5 : x - z = 0 ∧ y - z = 0 ↔ x = y ∧ y = z := by omega
  have v1 : -999999999 ≤ x - z ∧ x - z ≤ 999999999 := by omega
  have v2 : -999999999 ≤ y - z ∧ y - z ≤ 999999999 := by omega
  have wx := wide hx (show (1000000 : Int) ≤ 10000000000 by decide)
  have wy := wide hy (show (1000000 : Int) ≤ 10000000000 by decide)
  have wz := wide hz (show (1000000 : Int) ≤ 10000000000 by decide)
  have h0 : inE x y z = 0 := in_sm hx hy hz
  have h0' : inE z x y = 0 := in_sm hz hx hy
  obtain ⟨s6, s7, s8⟩ := split_eq (x := z) (y := x) (z := y) wz wx wy
  obtain ⟨a0, a1, a2, _, _⟩ := a0_sm hx hy hz
  obtain ⟨g8, g9, g10, g11⟩ := merge_sm hx hy hz
  have pn : pnE (x - z) (y - z) 1 = 0 := pn_sm v1 v2 (by decide)
  obtain ⟨_, _, f2, f3, _, _⟩ := turn_sm (u := x - z) (v := y - z) (wide v1 (by decide)) (wide v2 (by decide))
  unfold lawM
  rw [a0, a1, a2]
  rw [neg_sel (nz h0), neg_sel (nz h0'), neg_sel (nz g11), neg_sel (nz pn), neg_sel (ne' (by rw [h0', ok0, s6]; exact l1)), neg_sel (ne' l2),
    neg_sel (nand3 (by rw [g11, ok0, g9]) (by rw [g11, ok0, g10]) (by rw [g11, ok0, g8])), neg_sel (nand2 (by rw [h0', ok0, s7, pn, ok0, f2]; exact l3) (by rw [h0', ok0, s8, pn, ok0, f3]; exact l4))]
  clear s6 s7 s8 a0 a1 a2 g8 g9 g10 g11 pn f2 f3 l1 l2 l3 l4 h0 h0'
  show cond (x - z == 0 && (y - z == 0 && true)) (pos (eqF x y) (pos (eqF y z) (lawR x y z a b c d))).sel (cond (eqF x y) (neg (eqF y z) (lawR x y z a b c d)).sel (lawR x y z a b c d).sel) = _
  by_cases h : x = y ∧ y = z
  · have h' := l5.2 h
    rw [show (x - z == 0 && (y - z == 0 && true)) = true from and2 h'.1 h'.2]
    show (pos (eqF x y) (pos (eqF y z) (lawR x y z a b c d))).sel = _
    rw [pos_sel (by rw [eqF_d, decide_eq_true h.1]), pos_sel (by rw [eqF_d, decide_eq_true h.2])]
    exact hR
  · have h' : ¬ (x - z = 0 ∧ y - z = 0) := fun g => h (l5.1 g)
    have e : (x - z == 0 && (y - z == 0 && true)) = false := by
      rw [Bool.eq_false_iff]
      intro g
      simp only [Bool.and_eq_true, beq_iff_eq] at g
      exact h' ⟨g.1, g.2.1⟩
    rw [e]
    show cond (eqF x y) (neg (eqF y z) (lawR x y z a b c d)).sel (lawR x y z a b c d).sel = _
    by_cases hxy : x = y
    · rw [eqF_d, decide_eq_true hxy]
      show (neg (eqF y z) (lawR x y z a b c d)).sel = _
      rw [neg_sel (by rw [eqF_d]; exact decide_eq_false fun g => h ⟨hxy, g⟩)]
      exact hR
    · rw [eqF_d, decide_eq_false hxy]
      exact hR
theorem law4_sel (x y z a b c d : Int) : (law4 x y z a b c d).sel = some (b_ true) := by
  show cond (!eqF (inE x y z) 0) (lf true).sel (cond (ltF 10000 (max8 a b c d)) (lf true).sel (cond (ltF (min4 a b c d) (-10000)) (lf true).sel (lawM x y z a b c d).sel)) = _
  by_cases h0 : inE x y z = 0
  · rw [nz h0]
    obtain ⟨hx, hy, hz⟩ := inE_zero h0
    by_cases h1 : (10000 : Int) < max8 a b c d
    · rw [ltF_eq, decide_eq_true h1]; rfl
    · rw [ltf h1]
      by_cases h2 : min4 a b c d < -10000
      · rw [ltF_eq, decide_eq_true h2]; rfl
      · rw [ltf h2]
        obtain ⟨g1, g2, g3, g4⟩ := max8_le h1
        obtain ⟨k1, k2, k3, k4⟩ := min4_ge h2
        exact lawM_sel hx hy hz (lawR_sel hx hy hz ⟨k1, g1⟩ ⟨k2, g2⟩ ⟨k3, g3⟩ ⟨k4, g4⟩)
  · rw [eqF_d, decide_eq_false h0]; rfl
theorem law4_pure (x y z a b c d : Int) : Pure Tryd.prog Ha 4 [ar x y z, ag [i a, i b], ag [i c, i d]] (b_ true) :=
  pure_run (C := C10) (G := 4) 60 (law4 x y z a b c d) ts10 .none (by decide) ha_len rfl (by kernel_rfl) (law4_run x y z a b c d) (law4_sel x y z a b c d)
end Go.Proofs.YthfmffbcbopanaaDoor.Ways
