import Derived.Test.YtbocpikgochioaaGreatDoorZh
namespace Go.Proofs.YtbocpikgochioaaGreatDoor.Ways
open Go Go.Ex
theorem turn_sm {u v : Int} (hu : -10000000000 ≤ u ∧ u ≤ 10000000000) (hv : -10000000000 ≤ v ∧ v ≤ 10000000000) :
    (tAE u v 1 0 = u ∧ tBE u v 1 0 = v) ∧ (tAE u v 0 1 = -v ∧ tBE u v 0 1 = u - v) ∧ (tAE u v (-1) (-1) = v - u ∧ tBE u v (-1) (-1) = -u) := by
  have m1 : ∀ w : Int, w * -1 = -w := fun w => by omega
  unfold tAE tBE
  simp only [Int.mul_one, Int.mul_zero, m1]
  rw [show wrapF .i64 0 = 0 from by decide]
  simp only [Int.zero_add, Int.add_zero, Int.sub_zero, Int.zero_sub]
  refine ⟨⟨?_, ?_⟩, ⟨?_, ?_⟩, ?_, ?_⟩
  · rw [wsm (x := u) (by omega) (by omega), wsm (x := u) (by omega) (by omega)]
  · rw [wsm (x := v) (by omega) (by omega), wsm (x := v) (by omega) (by omega), wsm (x := v) (by omega) (by omega)]
  · rw [wsm (x := v) (by omega) (by omega), wsm (x := -v) (by omega) (by omega)]
  · rw [wsm (x := u) (by omega) (by omega), wsm (x := u) (by omega) (by omega), wsm (x := v) (by omega) (by omega), wsm (x := u - v) (by omega) (by omega)]
  · rw [wsm (x := -u) (by omega) (by omega), wsm (x := -v) (by omega) (by omega), wsm (x := -u - -v) (by omega) (by omega)]; omega
  · rw [wsm (x := -u) (by omega) (by omega), wsm (x := -v) (by omega) (by omega), wsm (x := -u + -v) (by omega) (by omega), wsm (x := -u + -v - -v) (by omega) (by omega)]; omega
theorem r2_sm {u v : Int} (hu : -4000000000 ≤ u ∧ u ≤ 4000000000) (hv : -4000000000 ≤ v ∧ v ≤ 4000000000) : rA2 u v = v - u ∧ rB2 u v = -u := by
  obtain ⟨_, ⟨h1, h2⟩, _⟩ := turn_sm (u := u) (v := v) (by omega) (by omega)
  unfold rA2 rB2
  rw [h1, h2]
  obtain ⟨_, ⟨h3, h4⟩, _⟩ := turn_sm (u := -v) (v := u - v) (by omega) (by omega)
  rw [h3, h4]
  exact ⟨by omega, by omega⟩
theorem turn_eq {u v : Int} (hu : -4000000000 ≤ u ∧ u ≤ 4000000000) (hv : -4000000000 ≤ v ∧ v ≤ 4000000000) (n : Int) : turnAE u v n = rturnAE u v n ∧ turnBE u v n = rturnBE u v n := by
  obtain ⟨⟨a1, a2⟩, ⟨b1, b2⟩, ⟨c1, c2⟩⟩ := turn_sm (u := u) (v := v) (by omega) (by omega)
  obtain ⟨d1, d2⟩ := r2_sm hu hv
  unfold turnAE turnBE rturnAE rturnBE by3E
  rw [a1, a2, b1, b2, c1, c2, d1, d2]
  exact ⟨rfl, rfl⟩
theorem pl_sm {u v : Int} (hu : -100000000000 ≤ u ∧ u ≤ 100000000000) (hv : -100000000000 ≤ v ∧ v ≤ 100000000000) : plE u v = u + v := by
  unfold plE; exact wsm (by omega) (by omega)
theorem cp_sm {x y z : Int} (hx : -1000000 ≤ x ∧ x ≤ 1000000) (hy : -1000000 ≤ y ∧ y ≤ 1000000) (hz : -1000000 ≤ z ∧ z ≤ 1000000) : cpA x y z = x - z ∧ cpB x y z = y - z := by
  obtain ⟨e1, e2⟩ := turn_eq (u := y) (v := 0) (by omega) (by omega) 1
  obtain ⟨e3, e4⟩ := turn_eq (u := z) (v := 0) (by omega) (by omega) 2
  obtain ⟨_, ⟨b1, b2⟩, _⟩ := turn_sm (u := y) (v := 0) (by omega) (by omega)
  obtain ⟨_, _, ⟨c1, c2⟩⟩ := turn_sm (u := z) (v := 0) (by omega) (by omega)
  unfold cpA cpB
  rw [← e1, ← e2, ← e3, ← e4]
  unfold turnAE turnBE by3E
  rw [show thirdsE 1 = 1 from by decide, show thirdsE 2 = 2 from by decide]
  simp only [if_true, show ¬ (1 : Int) = 0 from by omega, show ¬ (2 : Int) = 0 from by omega, show ¬ (2 : Int) = 1 from by omega, if_false]
  rw [b1, b2, c1, c2]
  rw [pl_sm (u := -0) (v := 0 - z) (by omega) (by omega), pl_sm (u := y - 0) (v := -z) (by omega) (by omega), pl_sm (by omega) (by omega), pl_sm (by omega) (by omega)]
  exact ⟨by omega, by omega⟩
theorem split_sm {x y z : Int} (hx : -1000000 ≤ x ∧ x ≤ 1000000) (hy : -1000000 ≤ y ∧ y ≤ 1000000) (hz : -1000000 ≤ z ∧ z ≤ 1000000) : sE x y z = wrapF .i64 (wrapF .i64 (x + y) + z) ∧ aE x y z = cpA x y z ∧ bE x y z = cpB x y z := by
  obtain ⟨h1, h2, h3⟩ := split_eq (x := x) (y := y) (z := z) (by omega) (by omega) (by omega)
  obtain ⟨h4, h5⟩ := cp_sm hx hy hz
  rw [h1, h2, h3, h4, h5, wsm (x := x + y) (by omega) (by omega), wsm (x := x + y + z) (by omega) (by omega)]
  exact ⟨rfl, rfl, rfl⟩

/-! ### the parts of a record -/
theorem rec_zero {cs : List Value} {n : Nat} (h : recE cs n = 0) : ∀ j, j < n → eJE cs j = 0 := by
  unfold recE at h
  split at h
  · cases h
  · exact fun j hj => (firstF_zero n 0).1 h j (Nat.zero_le _) (by omega)
theorem rot_same {cs : List Value} {n : Nat} (h : recE cs n = 0) : accF (fRot cs) n 0 0 0 = accF (rRot cs) n 0 0 0 := by
  refine accF_congr (fun _ _ _ => True) n 0 0 0 trivial fun k A B _ hk _ => ⟨?_, trivial⟩
  obtain ⟨hx, hy, hz⟩ := inE_zero (rec_zero h k (by omega))
  obtain ⟨_, h2, h3⟩ := split_sm hx hy hz
  unfold fRot rRot cA cB rcA rcB
  rw [h2, h3]
theorem fix_same {cs : List Value} {n : Nat} (h : recE cs n = 0) : accF (fFix cs) n 0 0 0 = accF (rFix cs) n 0 0 0 := by
  refine accF_congr (fun _ _ _ => True) n 0 0 0 trivial fun k A B _ hk _ => ⟨?_, trivial⟩
  obtain ⟨hx, hy, hz⟩ := inE_zero (rec_zero h k (by omega))
  obtain ⟨_, h2, h3⟩ := split_sm hx hy hz
  obtain ⟨h4, h5⟩ := cp_sm hx hy hz
  unfold fFix rFix cA cB rcA rcB
  rw [h2, h3]
  obtain ⟨h6, h7⟩ := turn_eq (u := cpA (c0E cs k) (c1E cs k) (c2E cs k)) (v := cpB (c0E cs k) (c1E cs k) (c2E cs k)) (by rw [h4]; omega) (by rw [h5]; omega) k
  rw [h6, h7]

/-! ### merging -/
theorem range_zero {n lo hi : Int} (h : rangeE n lo hi = 0) : lo ≤ n ∧ n ≤ hi := by
  unfold rangeE at h
  split at h
  · cases h
  · omega
theorem first_zero {x y : Int} (h : firstE x y = 0) : x = 0 ∧ y = 0 := by
  unfold firstE at h
  split at h
  · exact ⟨by assumption, h⟩
  · exact absurd h (by assumption)
theorem tw_zero {s a b : Int} (h : twE s a b = 0) : (-3000000 ≤ s ∧ s ≤ 3000000) ∧ (-999999999 ≤ a ∧ a ≤ 999999999) ∧ (-999999999 ≤ b ∧ b ≤ 999999999) := by
  obtain ⟨h1, h2⟩ := first_zero h
  obtain ⟨h3, h4⟩ := first_zero h2
  exact ⟨range_zero h1, range_zero h3, range_zero h4⟩
theorem tdm (m : Int) : 3 * m.tdiv 3 + m.tmod 3 = m ∧ -3 < m.tmod 3 ∧ m.tmod 3 < 3 := by
  refine ⟨Int.mul_tdiv_add_tmod m 3, ?_, Int.tmod_lt_of_pos m (by decide)⟩
  have := Int.lt_tmod_of_pos m (by decide : (0 : Int) < 3)
  omega
theorem merge_eq {s a b : Int} (hs : -3000000 ≤ s ∧ s ≤ 3000000) (ha : -999999999 ≤ a ∧ a ≤ 999999999) (hb : -999999999 ≤ b ∧ b ≤ 999999999) :
    confE s a b = rmErrE s a b ∧ (confE s a b = 0 → mXE s a b = r0E s a b ∧ mYE s a b = r1E s a b ∧ thE s a b = r2E s a b) := by
  obtain ⟨p1, p2, p3⟩ := tdm (s - a - b)
  obtain ⟨q1, q2, q3⟩ := tdm (s + 2 * a - b)
  have hth : thE s a b = (s - a - b).tdiv 3 := by
    unfold thE
    rw [wsm (x := s - a) (by omega) (by omega), wsm (x := s - a - b) (by omega) (by omega), ← wrapF_eq, wsm (by omega) (by omega)]
  have hX : mXE s a b = (s - a - b).tdiv 3 + a := by unfold mXE; rw [hth, wsm (by omega) (by omega)]
  have hY : mYE s a b = (s - a - b).tdiv 3 + b := by unfold mYE; rw [hth, wsm (by omega) (by omega)]
  have hm : rmE s a b = s + 2 * a - b := by
    unfold rmE
    rw [wsm (x := 2 * a) (by omega) (by omega), wsm (x := s + 2 * a) (by omega) (by omega), wsm (by omega) (by omega)]
  have h0 : r0E s a b = (s + 2 * a - b).tdiv 3 := by
    unfold r0E
    rw [hm, ← wrapF_eq, wsm (by omega) (by omega)]
  have h2 : r2E s a b = (s + 2 * a - b).tdiv 3 - a := by unfold r2E; rw [h0, wsm (by omega) (by omega)]
  have h1 : r1E s a b = (s + 2 * a - b).tdiv 3 - a + b := by
    unfold r1E
    rw [h0, wsm (x := (s + 2 * a - b).tdiv 3 - a) (by omega) (by omega), wsm (by omega) (by omega)]
  obtain ⟨e1, e2, e3⟩ := split_eq (x := mXE s a b) (y := mYE s a b) (z := thE s a b) (by omega) (by omega) (by omega)
  have hrm : (rmE s a b).tmod 3 = (s + 2 * a - b).tmod 3 := by rw [hm]
  by_cases hd : (s - a - b).tmod 3 = 0
  · have hd2 : (s + 2 * a - b).tmod 3 = 0 := by omega
    have k0 : mXE s a b = r0E s a b := by omega
    have k1 : mYE s a b = r1E s a b := by omega
    have k2 : thE s a b = r2E s a b := by omega
    refine ⟨?_, fun _ => ⟨k0, k1, k2⟩⟩
    unfold confE rmErrE
    rw [e1, e2, e3, if_neg (by omega), if_neg (by rw [hrm]; omega), k0, k1, k2]
  · have hd2 : (s + 2 * a - b).tmod 3 ≠ 0 := by omega
    have hc : confE s a b = 30 := by
      unfold confE
      rw [e1, if_pos (.inl (by omega))]
    refine ⟨?_, fun h => by rw [hc] at h; cases h⟩
    rw [hc]
    unfold rmErrE
    rw [if_pos (by rw [hrm]; exact hd2)]

/-! ### the end -/
theorem pos_sel {b : Bool} {k : VT} (h : b = true) : (pos b k).sel = k.sel := by rw [h]; rfl
theorem ask_sel {b : Bool} {k : VT} (h : b = true) : (ask b k).sel = k.sel := by rw [h]; rfl
theorem okE_ne {e x : Int} (h : e ≠ 0) : okE e x = 0 := by unfold okE; rw [if_neg h]
theorem okE_z {e x : Int} (h : e = 0) : okE e x = x := by unfold okE; rw [if_pos h]
theorem like1_ok {e X w : Int} (h : e = 0 → X = w) : like1E (okE e X) e e w = true := by
  unfold like1E
  rw [decide_eq_true_eq]
  by_cases he : e = 0
  · exact ⟨rfl, .inr ⟨he, by rw [okE_z he]; exact h he⟩⟩
  · exact ⟨rfl, .inl ⟨he, okE_ne he⟩⟩
theorem like_ok {e X Y w v : Int} (h : e = 0 → X = w ∧ Y = v) : likeE (okE e X) (okE e Y) e e w v = true := by
  unfold likeE
  rw [decide_eq_true_eq]
  by_cases he : e = 0
  · exact ⟨rfl, .inr ⟨he, by rw [okE_z he]; exact (h he).1, by rw [okE_z he]; exact (h he).2⟩⟩
  · exact ⟨rfl, .inl ⟨he, okE_ne he, okE_ne he⟩⟩
theorem and3 {a b c d e f : Int} (h1 : a = d) (h2 : b = e) (h3 : c = f) : (a == d && (b == e && (c == f && true))) = true := by
  rw [h1, h2, h3]; simp
section
variable {x y z s a b : Int} {cs : List Value} {n : Nat}
theorem fin_sel {uA uB vA vB sum qA qB m0 m1 m2 tw : Int} (hsum : inE x y z = 0 → sE x y z = sum) (hq : inE x y z = 0 → aE x y z = qA ∧ bE x y z = qB) (htw : mErrE s a b = tw)
    (hm : okE (mErrE s a b) (mXE s a b) = m0 ∧ okE (mErrE s a b) (mYE s a b) = m1 ∧ okE (mErrE s a b) (thE s a b) = m2)
    (hu : recE cs n = 0 → (accF (fRot cs) n 0 0 0).1 = uA ∧ (accF (fRot cs) n 0 0 0).2 = uB) (hv : recE cs n = 0 → (accF (fFix cs) n 0 0 0).1 = vA ∧ (accF (fFix cs) n 0 0 0).2 = vB) :
    (finV x y z s a b (recE cs n) (recE cs n) (resA fRot cs n) (resB fRot cs n) (resA fFix cs n) (resB fFix cs n) uA uB vA vB sum qA qB m0 m1 m2 tw).sel = some (b_ true) := by
  unfold finV resA resB
  rw [pos_sel (like1_ok hsum), pos_sel (like_ok hq), pos_sel (by rw [eqF_d, htw]; simp), pos_sel (and3 hm.1 hm.2.1 hm.2.2), pos_sel (like_ok hu), pos_sel (like_ok hv)]
  rfl
theorem s2_sel {okk : Bool} (hok : okk = true) {sum qA qB m0 m1 m2 tw : Int} (hsum : inE x y z = 0 → sE x y z = sum) (hq : inE x y z = 0 → aE x y z = qA ∧ bE x y z = qB) (htw : mErrE s a b = tw)
    (hm : okE (mErrE s a b) (mXE s a b) = m0 ∧ okE (mErrE s a b) (mYE s a b) = m1 ∧ okE (mErrE s a b) (thE s a b) = m2) :
    (s2V x y z s a b okk (recE cs n) (recE cs n) (resA fRot cs n) (resB fRot cs n) (resA fFix cs n) (resB fFix cs n) (accF (rRot cs) n 0 0 0).1 (accF (rRot cs) n 0 0 0).2 (accF (rFix cs) n 0 0 0).1 (accF (rFix cs) n 0 0 0).2 sum qA qB m0 m1 m2 tw).sel = some (b_ true) := by
  unfold s2V
  subst hok
  by_cases he : recE cs n = 0
  · rw [show eqF (recE cs n) 0 = true from by rw [eqF_d, decide_eq_true he]]
    exact fin_sel hsum hq htw hm (fun _ => by rw [rot_same he]; exact ⟨rfl, rfl⟩) (fun _ => by rw [fix_same he]; exact ⟨rfl, rfl⟩)
  · rw [show eqF (recE cs n) 0 = false from by rw [eqF_d, decide_eq_false he]]
    exact fin_sel hsum hq htw hm (fun h => absurd h he) (fun h => absurd h he)
theorem mErr_eq (s a b : Int) : mErrE s a b = firstE (twE s a b) (confE s a b) := rfl
theorem s1_sel {okk : Bool} (hok : okk = true) {sum qA qB : Int} (hsum : inE x y z = 0 → sE x y z = sum) (hq : inE x y z = 0 → aE x y z = qA ∧ bE x y z = qB) :
    (s1V x y z s a b okk (recE cs n) (recE cs n) (resA fRot cs n) (resB fRot cs n) (resA fFix cs n) (resB fFix cs n) (accF (rRot cs) n 0 0 0).1 (accF (rRot cs) n 0 0 0).2 (accF (rFix cs) n 0 0 0).1 (accF (rFix cs) n 0 0 0).2 sum qA qB).sel = some (b_ true) := by
  unfold s1V
  by_cases ht : twE s a b = 0
  · rw [show eqF (twE s a b) 0 = true from by rw [eqF_d, decide_eq_true ht]]
    obtain ⟨hs, ha, hb⟩ := tw_zero ht
    obtain ⟨h1, h2⟩ := merge_eq hs ha hb
    have he : mErrE s a b = rmErrE s a b := by rw [mErr_eq]; unfold firstE; rw [if_pos ht, h1]
    refine s2_sel hok hsum hq he ?_
    rw [he]
    by_cases h0 : rmErrE s a b = 0
    · obtain ⟨k1, k2, k3⟩ := h2 (h1.trans h0)
      rw [k1, k2, k3]
      exact ⟨rfl, rfl, rfl⟩
    · simp only [okE_ne h0]
      exact ⟨trivial, trivial, trivial⟩
  · rw [show eqF (twE s a b) 0 = false from by rw [eqF_d, decide_eq_false ht]]
    have he : mErrE s a b = twE s a b := by rw [mErr_eq]; unfold firstE; rw [if_neg ht]
    refine s2_sel hok hsum hq he ?_
    rw [he]
    simp only [okE_ne ht]
    exact ⟨trivial, trivial, trivial⟩
theorem s_sel {okk : Bool} (hok : okk = true) : (sV x y z s a b okk cs cs n).sel = some (b_ true) := by
  unfold sV s0V
  by_cases he : inE x y z = 0
  · rw [show eqF (inE x y z) 0 = true from by rw [eqF_d, decide_eq_true he]]
    obtain ⟨hx, hy, hz⟩ := inE_zero he
    obtain ⟨h1, h2, h3⟩ := split_sm hx hy hz
    exact s1_sel hok (fun _ => h1) (fun _ => ⟨h2, h3⟩)
  · rw [show eqF (inE x y z) 0 = false from by rw [eqF_d, decide_eq_false he]]
    exact s1_sel hok (fun h => absurd h he) (fun h => absurd h he)
theorem top_sel {M : VT} {k : Int} (h : k ≤ 401 → M.sel = some (b_ true)) : (top k M).sel = some (b_ true) := by
  unfold top
  show cond (ltF 20 k) (cond (!eqF k 401) (some (b_ true)) M.sel) M.sel = _
  by_cases h1 : 20 < k
  · by_cases h2 : k = 401
    · rw [h (by omega)]
      cases ltF 20 k <;> cases !eqF k 401 <;> rfl
    · rw [ltF_eq, decide_eq_true h1, eqF_d, decide_eq_false h2]; rfl
  · rw [ltF_eq, decide_eq_false h1]
    exact h (by omega)
theorem law_sel (hf : cs.all Ex.flat = true) (hl : Lds cs n) (hlen : cs.length = n * 3) (h0 : n ≠ 0) : (lawV x y z s a b cs n).sel = some (b_ true) := by
  unfold lawV
  refine top_sel fun hn => ?_
  have hc : cT cs n = cs := by unfold cT; rw [List.drop_zero]; exact List.take_of_length_le (by omega)
  have hok : tru (OkR cs n n) = true := tru_iff.2 ⟨hf, hl, by omega, rfl⟩
  have hc0 : c0B cs n = true := by unfold c0B; simp [h0, hlen]; omega
  rw [hc, ask_sel hc0, ask_sel hok, ask_sel hc0, ask_sel hok, ask_sel hok]
  exact s_sel hok
theorem law_sel0 : (lawV0 x y z s a b).sel = some (b_ true) := by
  unfold lawV0
  refine top_sel fun hn => ?_
  have hok : tru (OkR [] 0 0) = true := tru_iff.2 ⟨rfl, fun j hj => by omega, by omega, rfl⟩
  rw [ask_sel hok, ask_sel hok, ask_sel hok]
  exact s_sel hok
end
end Go.Proofs.YtbocpikgochioaaGreatDoor.Ways
