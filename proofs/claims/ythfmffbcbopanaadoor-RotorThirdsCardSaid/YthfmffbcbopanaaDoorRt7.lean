import Derived.Test.YthfmffbcbopanaaDoorRt5
namespace Go.Proofs.YthfmffbcbopanaaDoor.Ways
open Go Go.Ex
theorem turn_sm {u v : Int} (hu : -10000000000 ≤ u ∧ u ≤ 10000000000) (hv : -10000000000 ≤ v ∧ v ≤ 10000000000) :
    turnAE u v 0 = u ∧ turnBE u v 0 = v ∧ turnAE u v 1 = -v ∧ turnBE u v 1 = u - v ∧ turnAE u v 2 = v - u ∧ turnBE u v 2 = -u := by
  have t0 : thirdsE 0 = 0 := by decide
  have t1 : thirdsE 1 = 1 := by decide
  have t2 : thirdsE 2 = 2 := by decide
  have m1 : ∀ w : Int, w * -1 = -w := fun w => by omega
  unfold turnAE turnBE by3E tAE tBE
  rw [t0, t1, t2]
  simp only [if_true, show ¬ (1 : Int) = 0 from by omega, show ¬ (2 : Int) = 0 from by omega, show ¬ (2 : Int) = 1 from by omega, if_false, Int.mul_one, Int.mul_zero, m1]
  rw [show wrapF .i64 0 = 0 from by decide]
  simp only [Int.zero_add, Int.add_zero, Int.sub_zero, Int.zero_sub]
  refine ⟨?_, ?_, ?_, ?_, ?_, ?_⟩
  · rw [wsm (x := u) (by omega) (by omega), wsm (x := u) (by omega) (by omega)]
  · rw [wsm (x := v) (by omega) (by omega), wsm (x := v) (by omega) (by omega), wsm (x := v) (by omega) (by omega)]
  · rw [wsm (x := v) (by omega) (by omega), wsm (x := -v) (by omega) (by omega)]
  · rw [wsm (x := u) (by omega) (by omega), wsm (x := u) (by omega) (by omega), wsm (x := v) (by omega) (by omega), wsm (x := u - v) (by omega) (by omega)]
  · rw [wsm (x := -u) (by omega) (by omega), wsm (x := -v) (by omega) (by omega), wsm (x := -u - -v) (by omega) (by omega)]; omega
  · rw [wsm (x := -u) (by omega) (by omega), wsm (x := -v) (by omega) (by omega), wsm (x := -u + -v) (by omega) (by omega), wsm (x := -u + -v - -v) (by omega) (by omega)]; omega
theorem pl_sm {u v : Int} (hu : -100000000000 ≤ u ∧ u ≤ 100000000000) (hv : -100000000000 ≤ v ∧ v ≤ 100000000000) : plE u v = u + v := by
  unfold plE; exact wsm (by omega) (by omega)
theorem num_sm {u : Int} (hu : -999999999 ≤ u ∧ u ≤ 999999999) : numE u = 0 := by
  unfold numE rangeE; rw [if_neg (by omega)]
theorem pair_sm {u v : Int} (hu : -999999999 ≤ u ∧ u ≤ 999999999) (hv : -999999999 ≤ v ∧ v ≤ 999999999) : pairE u v = 0 := by
  unfold pairE firstE; rw [num_sm hu, if_pos rfl, num_sm hv]
theorem pn_sm {u v n : Int} (hu : -999999999 ≤ u ∧ u ≤ 999999999) (hv : -999999999 ≤ v ∧ v ≤ 999999999) (hn : -999999999 ≤ n ∧ n ≤ 999999999) : pnE u v n = 0 := by
  unfold pnE firstE; rw [pair_sm hu hv, if_pos rfl, num_sm hn]
theorem two_sm {a b c d : Int} (ha : -999999999 ≤ a ∧ a ≤ 999999999) (hb : -999999999 ≤ b ∧ b ≤ 999999999) (hc : -999999999 ≤ c ∧ c ≤ 999999999) (hd : -999999999 ≤ d ∧ d ≤ 999999999) : twoE a b c d = 0 := by
  unfold twoE firstE; rw [pair_sm ha hb, if_pos rfl, pair_sm hc hd]
theorem in_sm {x y z : Int} (hx : -1000000 ≤ x ∧ x ≤ 1000000) (hy : -1000000 ≤ y ∧ y ≤ 1000000) (hz : -1000000 ≤ z ∧ z ≤ 1000000) : inE x y z = 0 := by
  unfold inE; rw [if_pos ⟨hx, hy, hz⟩]
theorem ok0 (x : Int) : okE 0 x = x := by unfold okE; rw [if_pos rfl]
theorem mul_bd {u v : Int} (k l : Int) (hu : -k ≤ u ∧ u ≤ k) (hv : -l ≤ v ∧ v ≤ l) : -(k * l) ≤ u * v ∧ u * v ≤ k * l := by
  have h1 : 0 ≤ (k - u) * (l + v) := Int.mul_nonneg (by omega) (by omega)
  have h2 : 0 ≤ (k + u) * (l - v) := Int.mul_nonneg (by omega) (by omega)
  have h3 : 0 ≤ (k - u) * (l - v) := Int.mul_nonneg (by omega) (by omega)
  have h4 : 0 ≤ (k + u) * (l + v) := Int.mul_nonneg (by omega) (by omega)
  constructor <;> grind
theorem sq_nn (u : Int) : 0 ≤ u * u := by
  rcases Int.le_total 0 u with h | h
  · exact Int.mul_nonneg h h
  · have := Int.mul_nonneg (show 0 ≤ -u by omega) (show 0 ≤ -u by omega)
    rwa [Int.neg_mul_neg] at this
theorem t_sm {a b c d : Int} (k : Int) (hk : 0 ≤ k ∧ k ≤ 1000000) (ha : -k ≤ a ∧ a ≤ k) (hb : -k ≤ b ∧ b ≤ k) (hc : -k ≤ c ∧ c ≤ k) (hd : -k ≤ d ∧ d ≤ k) : tAE a b c d = a * c - b * d ∧ tBE a b c d = a * d + b * c - b * d := by
  have h0 := mul_bd 1000000 1000000 (u := k) (v := k) (by omega) (by omega)
  have h1 := mul_bd k k ha hc
  have h2 := mul_bd k k hb hd
  have h3 := mul_bd k k ha hd
  have h4 := mul_bd k k hb hc
  have w : ∀ x : Int, -4000000000000 ≤ x → x ≤ 4000000000000 → wrapF .i64 x = x := fun x g1 g2 => wrapF_in (by omega) (by omega)
  unfold tAE tBE
  rw [w (a * c) (by omega) (by omega), w (b * d) (by omega) (by omega), w (a * d) (by omega) (by omega), w (b * c) (by omega) (by omega), w _ (by omega) (by omega), w (a * d + b * c) (by omega) (by omega), w _ (by omega) (by omega)]
  exact ⟨rfl, rfl⟩
theorem n_sm {a b : Int} (ha : -1000000000 ≤ a ∧ a ≤ 1000000000) (hb : -1000000000 ≤ b ∧ b ≤ 1000000000) : nE a b = a * a - a * b + b * b := by
  have h1 := mul_bd 1000000000 1000000000 ha ha
  have h2 := mul_bd 1000000000 1000000000 ha hb
  have h3 := mul_bd 1000000000 1000000000 hb hb
  have w : ∀ x : Int, -4000000000000000000 ≤ x → x ≤ 4000000000000000000 → wrapF .i64 x = x := fun x g1 g2 => wrapF_in (by omega) (by omega)
  unfold nE
  rw [w (a * a) (by omega) (by omega), w (a * b) (by omega) (by omega), w (b * b) (by omega) (by omega), w (a * a - a * b) (by omega) (by omega), w _ (by omega) (by omega)]
theorem n_nn (a b : Int) : 0 ≤ a * a - a * b + b * b := by
  have h1 := sq_nn (2 * a - b)
  have h2 := sq_nn b
  grind
theorem merge_sm {x y z : Int} (hx : -1000000 ≤ x ∧ x ≤ 1000000) (hy : -1000000 ≤ y ∧ y ≤ 1000000) (hz : -1000000 ≤ z ∧ z ≤ 1000000) :
    thE (x + y + z) (x - z) (y - z) = z ∧ mXE (x + y + z) (x - z) (y - z) = x ∧ mYE (x + y + z) (x - z) (y - z) = y ∧ mErrE (x + y + z) (x - z) (y - z) = 0 := by
  have h1 : thE (x + y + z) (x - z) (y - z) = z := by
    unfold thE
    rw [wsm (x := x + y + z - (x - z)) (by omega) (by omega), wsm (x := x + y + z - (x - z) - (y - z)) (by omega) (by omega), show x + y + z - (x - z) - (y - z) = z * 3 from by omega, Int.mul_tdiv_cancel z (by omega), ← wrapF_eq]
    exact wsm (by omega) (by omega)
  have h2 : mXE (x + y + z) (x - z) (y - z) = x := by
    unfold mXE; rw [h1, wsm (by omega) (by omega)]; omega
  have h3 : mYE (x + y + z) (x - z) (y - z) = y := by
    unfold mYE; rw [h1, wsm (by omega) (by omega)]; omega
  refine ⟨h1, h2, h3, ?_⟩
  unfold mErrE confE
  rw [h1, h2, h3]
  obtain ⟨e1, e2, e3⟩ := split_eq (x := x) (y := y) (z := z) (by omega) (by omega) (by omega)
  rw [e1, e2, e3, pair_sm (by omega) (by omega), in_sm hx hy hz]
  have : rangeE (x + y + z) (-3000000) 3000000 = 0 := by unfold rangeE; rw [if_neg (by omega)]
  rw [this]
  simp [firstE]
end Go.Proofs.YthfmffbcbopanaaDoor.Ways
