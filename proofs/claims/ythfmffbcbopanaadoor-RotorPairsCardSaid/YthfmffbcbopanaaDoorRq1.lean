import Derived.Test.YthfmffbcbopanaaDoorRt2
namespace Go.Proofs.YthfmffbcbopanaaDoor.Ways
open Go Go.Ex
def fst2 (x y : Int) (k : Int → VT) : VT := .br (!eqF x 0) (k x) (.br (!eqF y 0) (k y) (k 0))
theorem fst2_sel (x y : Int) (k : Int → VT) : (fst2 x y k).sel = (k (firstE x y)).sel := by
  unfold fst2 firstE
  by_cases h1 : x = 0 <;> by_cases h2 : y = 0 <;> simp [VT.sel, eqF_d, h1, h2]
def ifz (x : Int) (k : Bool → VT) : VT := .br (eqF x 0) (k true) (k false)
theorem ifz_sel (x : Int) (k : Bool → VT) : (ifz x k).sel = (k (decide (x = 0))).sel := by
  unfold ifz
  by_cases h1 : x = 0 <;> simp [VT.sel, eqF_d, h1]
def ifB (b : Bool) (x : Int) : Int := cond b x 0
def andT (b : Bool) (t : VT) : VT := .br b t (lf false)
def lawT (a b c d n : Int) : VT :=
  fst2 (pairE a b) (pairE c d) fun one => fst2 (pairE a b) (rangeE n (-999999999) 999999999) fun four =>
    ifz one fun p1 => ifz (pairE a b) fun p2 => ifz four fun p3 =>
      andT (likeE (okE (twoE a b c d) (tAE a b c d)) (okE (twoE a b c d) (tBE a b c d)) (twoE a b c d) one (ifB p1 (tAE a b c d)) (ifB p1 (tBE a b c d)))
        (andT (likeE (okE (pairE a b) (cAE a b)) (okE (pairE a b) (cBE b)) (pairE a b) (pairE a b) (ifB p2 (cAE a b)) (ifB p2 (cBE b)))
          (andT (like1E (okE (pairE a b) (nE a b)) (pairE a b) (pairE a b) (ifB p2 (nE a b)))
            (andT (likeE (okE (pnE a b n) (turnAE a b n)) (okE (pnE a b n) (turnBE a b n)) (pnE a b n) four (ifB p3 (rturnAE a b n)) (ifB p3 (rturnBE a b n))) (lf true))))
theorem rangeE_zero {n lo hi : Int} (h : rangeE n lo hi = 0) : lo ≤ n ∧ n ≤ hi := by
  unfold rangeE at h
  split at h
  · cases h
  · omega
theorem firstE_zero {x y : Int} (h : firstE x y = 0) : x = 0 ∧ y = 0 := by
  unfold firstE at h
  split at h
  · exact ⟨by assumption, h⟩
  · exact absurd h (by assumption)
theorem turn_eq {a b n : Int} (h : pnE a b n = 0) : turnAE a b n = rturnAE a b n ∧ turnBE a b n = rturnBE a b n := by
  obtain ⟨h1, _⟩ := firstE_zero h
  obtain ⟨h2, h3⟩ := firstE_zero h1
  have ha := rangeE_zero h2
  have hb := rangeE_zero h3
  have w : ∀ x : Int, -10000000000 ≤ x → x ≤ 10000000000 → wrapF .i64 x = x := fun x h1 h2 => wrapF_in (by omega) (by omega)
  have tA : ∀ c d : Int, -1 ≤ c → c ≤ 1 → -1 ≤ d → d ≤ 1 → ∀ x y : Int, -2000000000 ≤ x → x ≤ 2000000000 → -2000000000 ≤ y → y ≤ 2000000000 → tAE x y c d = x * c - y * d ∧ tBE x y c d = x * d + y * c - y * d := by
    intro c d c1 c2 d1 d2 x y x1 x2 y1 y2
    have key : ∀ u v : Int, -1 ≤ u → u ≤ 1 → -2000000000 ≤ v → v ≤ 2000000000 → -2000000000 ≤ v * u ∧ v * u ≤ 2000000000 := by
      intro u v u1 u2 v1 v2
      have : u = -1 ∨ u = 0 ∨ u = 1 := by omega
      rcases this with rfl | rfl | rfl <;> omega
    have k1 := key c x c1 c2 x1 x2
    have k2 := key d y d1 d2 y1 y2
    have k3 := key d x d1 d2 x1 x2
    have k4 := key c y c1 c2 y1 y2
    unfold tAE tBE
    rw [w (x * c) (by omega) (by omega), w (y * d) (by omega) (by omega), w (x * d) (by omega) (by omega), w (y * c) (by omega) (by omega), w _ (by omega) (by omega), w (x * d + y * c) (by omega) (by omega), w _ (by omega) (by omega)]
    exact ⟨rfl, rfl⟩
  have e0 := tA 1 0 (by omega) (by omega) (by omega) (by omega) a b (by omega) (by omega) (by omega) (by omega)
  have e1 := tA 0 1 (by omega) (by omega) (by omega) (by omega) a b (by omega) (by omega) (by omega) (by omega)
  have e2 := tA (-1) (-1) (by omega) (by omega) (by omega) (by omega) a b (by omega) (by omega) (by omega) (by omega)
  unfold turnAE turnBE rturnAE rturnBE rA2 rB2 by3E
  have e3 := tA 0 1 (by omega) (by omega) (by omega) (by omega) (tAE a b 0 1) (tBE a b 0 1) (by rw [e1.1]; omega) (by rw [e1.1]; omega) (by rw [e1.2]; omega) (by rw [e1.2]; omega)
  rw [e3.1, e3.2, e0.1, e0.2, e2.1, e2.2, e1.1, e1.2]
  constructor <;> (split <;> first | omega | (split <;> omega))
theorem likeE_self (e x y : Int) : likeE (okE e x) (okE e y) e e (ifB (decide (e = 0)) x) (ifB (decide (e = 0)) y) = true := by
  unfold likeE okE ifB
  by_cases h : e = 0 <;> simp [h]
theorem like1E_self (e x : Int) : like1E (okE e x) e e (ifB (decide (e = 0)) x) = true := by
  unfold like1E okE ifB
  by_cases h : e = 0 <;> simp [h]
theorem lawT_sel (a b c d n : Int) : (lawT a b c d n).sel = some (b_ true) := by
  unfold lawT
  rw [fst2_sel, fst2_sel, ifz_sel, ifz_sel, ifz_sel]
  have e4 : likeE (okE (pnE a b n) (turnAE a b n)) (okE (pnE a b n) (turnBE a b n)) (pnE a b n) (pnE a b n) (ifB (decide (pnE a b n = 0)) (rturnAE a b n)) (ifB (decide (pnE a b n = 0)) (rturnBE a b n)) = true := by
    by_cases h : pnE a b n = 0
    · rw [← (turn_eq h).1, ← (turn_eq h).2]; exact likeE_self _ _ _
    · unfold likeE okE ifB; simp [h]
  have e1 := likeE_self (twoE a b c d) (tAE a b c d) (tBE a b c d)
  have e2 := likeE_self (pairE a b) (cAE a b) (cBE b)
  have e3 := like1E_self (pairE a b) (nE a b)
  show (andT (likeE _ _ (twoE a b c d) (twoE a b c d) _ _) (andT _ (andT _ (andT (likeE _ _ (pnE a b n) (pnE a b n) _ _) (lf true))))).sel = _
  unfold andT
  have e1' : likeE (okE (twoE a b c d) (tAE a b c d)) (okE (twoE a b c d) (tBE a b c d)) (twoE a b c d) (twoE a b c d) (ifB (decide (firstE (pairE a b) (pairE c d) = 0)) (tAE a b c d)) (ifB (decide (firstE (pairE a b) (pairE c d) = 0)) (tBE a b c d)) = true := e1
  have e4' : likeE (okE (pnE a b n) (turnAE a b n)) (okE (pnE a b n) (turnBE a b n)) (pnE a b n) (pnE a b n) (ifB (decide (firstE (pairE a b) (rangeE n (-999999999) 999999999) = 0)) (rturnAE a b n)) (ifB (decide (firstE (pairE a b) (rangeE n (-999999999) 999999999) = 0)) (rturnBE a b n)) = true := e4
  rw [e1', e2, e3, e4']
  rfl
noncomputable def C7 : Cfg := ⟨T7, at_ [(3, 59), (3, 64), (3, 70), (3, 78), (3, 84), (3, 91), (3, 98)] .bool sp_, off_, noL⟩
theorem law_pure (a b c d n : Int) : Pure Tryd.prog Ha 3 [ag [i a, i b], ag [i c, i d], i n] (b_ true) :=
  pure_run (C := C7) (G := 4) 60 (lawT a b c d n) ts7 .none (by decide) ha_len rfl (by kernel_rfl) (by kernel_rfl) (lawT_sel a b c d n)
end Go.Proofs.YthfmffbcbopanaaDoor.Ways
