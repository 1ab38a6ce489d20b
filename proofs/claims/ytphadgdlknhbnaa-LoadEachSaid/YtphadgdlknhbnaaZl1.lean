import Derived.Test.YtphadgdlknhbnaaZe2
import Derived.Test.YtphadgdlknhbnaaZg
import Derived.Test.YtphadgdlknhbnaaLc5
set_option maxRecDepth 10000
noncomputable section
namespace Go.Proofs.Ytphadgdlknhbnaa.Ways
open Go Go.Ex Go.RowKit Go.Turn
def intV (v : Option Value) : Int := match v with
  | some (.int _ b) => b
  | _ => 0
theorem mapIV_eq (es : List MapEntry) (k : Int) : mapIV es k = intV (valAt k es) := by
  rw [← findI_valAt es 0]
  unfold mapIV intV
  cases findI k es 0 with
  | none => rfl
  | some r =>
    obtain ⟨j, v⟩ := r
    cases v <;> rfl
theorem mapIV_upd (es : List MapEntry) (k k' x : Int) (clock : Nat) : mapIV (updE k (i x) clock es) k' = if k' = k then x else mapIV es k' := by
  rw [mapIV_eq, mapIV_eq, valAt_upd]
  by_cases h : k' = k
  · rw [if_pos h, if_pos h]; rfl
  · rw [if_neg h, if_neg h]
theorem valsI_upd {k x : Int} {clock : Nat} : ∀ {es : List MapEntry}, valsI es = true → valsI (updE k (i x) clock es) = true
  | [], _ => rfl
  | e :: es, h => by
    have h' : ((match e.val with
      | .int .i64 _ => true
      | _ => false) && valsI es) = true := h
    rw [Bool.and_eq_true] at h'
    show valsI (if k = keyI e then { e with key := .int .i64 k, val := i x } :: es else e :: updE k (i x) clock es) = true
    by_cases hk : k = keyI e
    · rw [if_pos hk]
      exact h'.2
    · rw [if_neg hk]
      show (_ && valsI (updE k (i x) clock es)) = true
      rw [valsI_upd h'.2, Bool.and_true]
      exact h'.1
theorem okM_up {m : Mp} {k v : Int} (h : okM m = true) : okM (upM k v m) = true := by
  unfold okM at h ⊢
  rw [Bool.and_eq_true] at h ⊢
  exact ⟨keysI_upd h.1, valsI_upd h.2⟩
theorem okM_inc {m : Mp} {k : Int} (h : okM m = true) : okM (incM k m) = true := okM_up h
theorem okM_k {m : Mp} (h : okM m = true) : keysI m.1 = true := by
  unfold okM at h
  rw [Bool.and_eq_true] at h
  exact h.1
theorem up_get (m : Mp) (k v k' : Int) : mapIV (upM k v m).1 k' = if k' = k then v else mapIV m.1 k' := mapIV_upd _ _ _ _ _
def mld (m : Mp) (P : List Pt) : Mp := P.foldl (fun m p => upM p.1 p.2 m) m
theorem mld_ok {m : Mp} : ∀ {P : List Pt}, okM m = true → okM (mld m P) = true
  | [], h => h
  | p :: P, h => by show okM (mld (upM p.1 p.2 m) P) = true; exact mld_ok (okM_up h)
theorem mld_out {k : Int} : ∀ {P : List Pt} {m : Mp}, (∀ p ∈ P, p.1 ≠ k) → mapIV (mld m P).1 k = mapIV m.1 k
  | [], _, _ => rfl
  | p :: P, m, h => by
    show mapIV (mld (upM p.1 p.2 m) P).1 k = _
    rw [mld_out (fun q hq => h q (List.mem_cons_of_mem _ hq)), up_get, if_neg (fun e => h p (List.mem_cons_self ..) e.symm)]
theorem mld_get {x : Pt} : ∀ {P : List Pt} {m : Mp}, P.Pairwise (fun a b => a.1 ≠ b.1) → x ∈ P → mapIV (mld m P).1 x.1 = x.2
  | p :: P, m, hp, hx => by
    show mapIV (mld (upM p.1 p.2 m) P).1 x.1 = _
    have hp' := List.pairwise_cons.1 hp
    rcases List.mem_cons.1 hx with rfl | hx
    · rw [mld_out (fun q hq => fun e => hp'.1 q hq e.symm), up_get, if_pos rfl]
    · exact mld_get hp'.2 hx
def mct (m : Mp) (L : List Int) : Mp := L.foldl (fun m k => incM k m) m
theorem mct_ok {m : Mp} : ∀ {L : List Int}, okM m = true → okM (mct m L) = true
  | [], h => h
  | k :: L, h => by show okM (mct (incM k m) L) = true; exact mct_ok (okM_inc h)
theorem mct_app (m : Mp) (A B : List Int) : mct m (A ++ B) = mct (mct m A) B := List.foldl_append
theorem mct_get {k : Int} : ∀ {L : List Int} {m : Mp}, 0 ≤ mapIV m.1 k → mapIV m.1 k + L.length < 1000000 → mapIV (mct m L).1 k = mapIV m.1 k + (L.count k : Nat)
  | [], m, _, _ => by show mapIV m.1 k = _; simp
  | x :: L, m, h0, h1 => by
    rw [List.length_cons] at h1
    have e : mapIV (incM x m).1 k = mapIV m.1 k + if k = x then 1 else 0 := by
      unfold incM
      rw [up_get]
      by_cases hk : k = x
      · subst hk
        rw [if_pos rfl, if_pos rfl, wrapF_in (by omega) (by omega)]
      · rw [if_neg hk, if_neg hk, Int.add_zero]
    show mapIV (mct (incM x m) L).1 k = _
    rw [mct_get (by rw [e]; split <;> omega) (by rw [e]; split <;> omega), e, List.count_cons]
    by_cases hk : k = x
    · subst hk; simp; omega
    · rw [if_neg hk, if_neg (by simpa using fun e => hk e.symm)]; simp
end Go.Proofs.Ytphadgdlknhbnaa.Ways
set_option maxRecDepth 10000
noncomputable section
namespace Go.Proofs.Ytphadgdlknhbnaa.Ways
open Go Go.Ex Go.RowKit Go.Turn
theorem pB_fl {P : List Pt} {j : Nat} (h : j < P.length) : pB (flatP P) j = P[j].2 := by
  rw [pB_flat h]
  unfold Turn.at_
  rw [List.getD_eq_getElem?_getD, List.getElem?_eq_getElem h]; rfl
theorem f_fl {C : List Cy} {j : Nat} (h : j < C.length) : f_ (flatC C) j 0 = C[j].1.1 ∧ f_ (flatC C) j 1 = C[j].2.1 ∧ f_ (flatC C) j 2 = minQ C[j].1.2 C[j].2.2 ∧ f_ (flatC C) j 3 = maxQ C[j].1.2 C[j].2.2 := by
  obtain ⟨h0, h1, h2, h3⟩ := flatC_get C j h
  unfold f_
  rw [show 0 + j * 4 + 0 = j * 4 from by omega, show 0 + j * 4 + 1 = j * 4 + 1 from by omega, show 0 + j * 4 + 2 = j * 4 + 2 from by omega, show 0 + j * 4 + 3 = j * 4 + 3 from by omega, h0, h1, h2, h3]
  exact ⟨rfl, rfl, rfl, rfl⟩
theorem mld_take {P : List Pt} {m : Mp} {j : Nat} (h : j < P.length) : mld m (P.take (j + 1)) = upM P[j].1 P[j].2 (mld m (P.take j)) := by
  unfold mld
  rw [List.take_add_one, List.getElem?_eq_getElem h, List.foldl_append]; rfl
theorem mct_take {P : List Pt} {m : Mp} {j : Nat} (h : j < P.length) : mct m ((P.take (j + 1)).map (·.1)) = incM P[j].1 (mct m ((P.take j).map (·.1))) := by
  rw [List.take_add_one, List.getElem?_eq_getElem h, List.map_append, mct_app]; rfl
theorem both_take {C : List Cy} {j : Nat} (h : j < C.length) : both (C.take (j + 1)) = both (C.take j) ++ [C[j].1, C[j].2] := by
  rw [List.take_add_one, List.getElem?_eq_getElem h, both_app]; rfl
theorem mct_both {C : List Cy} {m : Mp} {j : Nat} (h : j < C.length) : mct m ((both (C.take (j + 1))).map (·.1)) = incM C[j].2.1 (incM C[j].1.1 (mct m ((both (C.take j)).map (·.1)))) := by
  rw [both_take h, List.map_append, mct_app]; rfl
theorem nE {x y : Int} (h : x = y) : (!eqF x y) = false := by rw [eqF_d]; simp [h]
theorem run10A {R : List Pt} {m1 m2 : Mp} (hn : R.length < 1000000) (h2 : okM m2 = true) : runS (s10A (flatP R) R.length) (R.length + 1) (0, m1, m2) = some (0, ((R.length : Int), m1, mld m2 R)) := by
  have hok := okP_flat hn
  have key := run_all (step := s10A (flatP R) R.length) (st := fun j => (((j : Nat) : Int), m1, mld m2 (R.take j))) (a := 0) R.length (fun j hj => ?_) ?_
  · rw [List.take_length] at key
    exact key
  · unfold s10A
    dsimp only
    rw [br_t (by rw [ltF_eq]; simpa using hj), askS_sel (bnd_t hj (Nat.le_refl _)), askS_sel (cP_t hok hj), askS_sel (okM_k (mld_ok h2)), show ((j : Nat) : Int).toNat = j from rfl, wsucc (by omega), pA_fl hj, pB_fl hj, mld_take hj]; rfl
  · unfold s10A
    dsimp only
    rw [br_f (by rw [ltF_eq]; simp)]; rfl
theorem run23A {D : List Pt} {m1 m2 : Mp} (hn : D.length < 1000000) (h1 : okM m1 = true) (h2 : okM m2 = true) (hg : ∀ p ∈ D, mapIV m2.1 p.1 = p.2) : runS (s23A (flatP D) D.length) (D.length + 1) (0, m1, m2) = some (0, ((D.length : Int), mct m1 (D.map (·.1)), m2)) := by
  have hok := okP_flat hn
  have key := run_all (step := s23A (flatP D) D.length) (st := fun j => (((j : Nat) : Int), mct m1 ((D.take j).map (·.1)), m2)) (a := 0) D.length (fun j hj => ?_) ?_
  · rw [List.take_length] at key
    exact key
  · have hm := mct_ok (L := (D.take j).map (·.1)) h1
    unfold s23A
    dsimp only
    rw [br_t (by rw [ltF_eq]; simpa using hj), askS_sel (bnd_t hj (Nat.le_refl _)), askS_sel (cP_t hok hj), askS_sel hm, askS_sel (okM_k hm), askS_sel h2, show ((j : Nat) : Int).toNat = j from rfl, pA_fl hj, pB_fl hj, br_f (nE (hg _ (List.getElem_mem hj))), wsucc (by omega), mct_take hj]; rfl
  · unfold s23A
    dsimp only
    rw [br_f (by rw [ltF_eq]; simp)]; rfl
theorem run30A {R : List Pt} {m1 m2 : Mp} (hn : R.length < 1000000) (h1 : okM m1 = true) (hg : ∀ p ∈ R, mapIV m1.1 p.1 = 1) : runS (s30A (flatP R) R.length) (R.length + 1) (0, m1, m2) = some (0, ((R.length : Int), m1, m2)) := by
  have hok := okP_flat hn
  refine run_all (step := s30A (flatP R) R.length) (st := fun j => (((j : Nat) : Int), m1, m2)) (a := 0) R.length (fun j hj => ?_) ?_
  · unfold s30A
    dsimp only
    rw [br_t (by rw [ltF_eq]; simpa using hj), askS_sel (bnd_t hj (Nat.le_refl _)), askS_sel (cP_t hok hj), askS_sel h1, show ((j : Nat) : Int).toNat = j from rfl, pA_fl hj, br_f (nE (hg _ (List.getElem_mem hj))), wsucc (by omega)]; rfl
  · unfold s30A
    dsimp only
    rw [br_f (by rw [ltF_eq]; simp)]; rfl
theorem run10N {R : List Pt} {m1 m2 : Mp} (hn : R.length < 1000000) (h2 : okM m2 = true) : runS (s10N (flatP R) R.length) (R.length + 1) (0, m1, m2) = some (0, ((R.length : Int), m1, mld m2 R)) := by
  have hok := okP_flat hn
  have key := run_all (step := s10N (flatP R) R.length) (st := fun j => (((j : Nat) : Int), m1, mld m2 (R.take j))) (a := 0) R.length (fun j hj => ?_) ?_
  · rw [List.take_length] at key
    exact key
  · unfold s10N
    dsimp only
    rw [br_t (by rw [ltF_eq]; simpa using hj), askS_sel (bnd_t hj (Nat.le_refl _)), askS_sel (cP_t hok hj), askS_sel (okM_k (mld_ok h2)), show ((j : Nat) : Int).toNat = j from rfl, wsucc (by omega), pA_fl hj, pB_fl hj, mld_take hj]; rfl
  · unfold s10N
    dsimp only
    rw [br_f (by rw [ltF_eq]; simp)]; rfl
theorem run23N {D : List Pt} {m1 m2 : Mp} (hn : D.length < 1000000) (h1 : okM m1 = true) (h2 : okM m2 = true) (hg : ∀ p ∈ D, mapIV m2.1 p.1 = p.2) : runS (s23N (flatP D) D.length) (D.length + 1) (0, m1, m2) = some (0, ((D.length : Int), mct m1 (D.map (·.1)), m2)) := by
  have hok := okP_flat hn
  have key := run_all (step := s23N (flatP D) D.length) (st := fun j => (((j : Nat) : Int), mct m1 ((D.take j).map (·.1)), m2)) (a := 0) D.length (fun j hj => ?_) ?_
  · rw [List.take_length] at key
    exact key
  · have hm := mct_ok (L := (D.take j).map (·.1)) h1
    unfold s23N
    dsimp only
    rw [br_t (by rw [ltF_eq]; simpa using hj), askS_sel (bnd_t hj (Nat.le_refl _)), askS_sel (cP_t hok hj), askS_sel hm, askS_sel (okM_k hm), askS_sel h2, show ((j : Nat) : Int).toNat = j from rfl, pA_fl hj, pB_fl hj, br_f (nE (hg _ (List.getElem_mem hj))), wsucc (by omega), mct_take hj]; rfl
  · unfold s23N
    dsimp only
    rw [br_f (by rw [ltF_eq]; simp)]; rfl
theorem run30N {R : List Pt} {m1 m2 : Mp} (hn : R.length < 1000000) (h1 : okM m1 = true) (hg : ∀ p ∈ R, mapIV m1.1 p.1 = 1) : runS (s30N (flatP R) R.length) (R.length + 1) (0, m1, m2) = some (0, ((R.length : Int), m1, m2)) := by
  have hok := okP_flat hn
  refine run_all (step := s30N (flatP R) R.length) (st := fun j => (((j : Nat) : Int), m1, m2)) (a := 0) R.length (fun j hj => ?_) ?_
  · unfold s30N
    dsimp only
    rw [br_t (by rw [ltF_eq]; simpa using hj), askS_sel (bnd_t hj (Nat.le_refl _)), askS_sel (cP_t hok hj), askS_sel h1, show ((j : Nat) : Int).toNat = j from rfl, pA_fl hj, br_f (nE (hg _ (List.getElem_mem hj))), wsucc (by omega)]; rfl
  · unfold s30N
    dsimp only
    rw [br_f (by rw [ltF_eq]; simp)]; rfl
theorem run15A {C : List Cy} {m1 m2 : Mp} (hn : C.length < 1000000) (h1 : okM m1 = true) (h2 : okM m2 = true) (hg : ∀ q ∈ C, mapIV m2.1 q.1.1 = q.1.2 ∧ mapIV m2.1 q.2.1 = q.2.2) : runS (s15A (flatC C) C.length) (C.length + 1) (0, m1, m2) = some (0, ((C.length : Int), mct m1 ((both C).map (·.1)), m2)) := by
  have hok := okF_flat C hn
  have key := run_all (step := s15A (flatC C) C.length) (st := fun j => (((j : Nat) : Int), mct m1 ((both (C.take j)).map (·.1)), m2)) (a := 0) C.length (fun j hj => ?_) ?_
  · rw [List.take_length] at key
    exact key
  · have hm := mct_ok (L := (both (C.take j)).map (·.1)) h1
    obtain ⟨f0, f1, f2, f3⟩ := f_fl hj
    obtain ⟨g1, g2⟩ := hg _ (List.getElem_mem hj)
    unfold s15A
    dsimp only
    rw [br_t (by rw [ltF_eq]; simpa using hj), askS_sel (bnd_t hj (Nat.le_refl _)), askS_sel (show cF (flatC C) (j : Int) = true from hok.2.2.2 j hj), show ((j : Nat) : Int).toNat = j from rfl, f0, f1, f2, f3, g1, g2, askS_sel hm, askS_sel (okM_k hm), askS_sel (okM_inc hm), askS_sel (okM_k (okM_inc hm)), askS_sel h2, askS_sel h2,
      br_f (nE (show mnI C[j].1.2 C[j].2.2 = minQ C[j].1.2 C[j].2.2 from rfl)), askS_sel h2, askS_sel h2, br_f (nE (show mxI C[j].1.2 C[j].2.2 = maxQ C[j].1.2 C[j].2.2 from rfl)), wsucc (by omega), mct_both hj]; rfl
  · unfold s15A
    dsimp only
    rw [br_f (by rw [ltF_eq]; simp)]; rfl
theorem runE40 {C : List Cy} {x k0 : Int} (hn : C.length < 1000000) (h0 : 0 ≤ k0 ∧ k0 < 1000000) : runS (sE40 (flatC C) C.length x 18) (C.length + 1) (0, k0) = some (0, ((C.length : Int), k0 + (upCs x C : Nat))) := by
  have hok := okF_flat C hn
  have hb : ∀ j, j ≤ C.length → upCs x (C.take j) ≤ j := fun j => by
    induction j with
    | zero => intro _; simp [upCs]
    | succ j ih =>
      intro hj
      rw [List.take_add_one, List.getElem?_eq_getElem (by omega), upCs_app]
      have h1 := ih (by omega)
      show upCs x (C.take j) + (cond (upC x C[j]) 1 0 + 0) ≤ j + 1
      cases upC x C[j] <;> simp <;> omega
  have key := run_all (step := sE40 (flatC C) C.length x 18) (st := fun j => (((j : Nat) : Int), k0 + (upCs x (C.take j) : Nat))) (a := 0) C.length (fun j hj => ?_) ?_
  · rw [List.take_length] at key
    simpa [upCs] using key
  · obtain ⟨_, _, f2, f3⟩ := f_fl hj
    have hbj := hb j (by omega)
    have e : upCs x (C.take (j + 1)) = upCs x (C.take j) + cond (upC x C[j]) 1 0 := by
      rw [List.take_add_one, List.getElem?_eq_getElem hj, upCs_app]; rfl
    have hu : upC x C[j] = (decide (minQ C[j].1.2 C[j].2.2 ≤ x) && decide (x < maxQ C[j].1.2 C[j].2.2)) := by
      unfold upC
      rw [Bool.eq_iff_iff, Bool.and_eq_true, decide_eq_true_eq, decide_eq_true_eq, decide_eq_true_eq]
      unfold minQ maxQ
      split <;> split <;> omega
    unfold sE40
    dsimp only
    rw [br_t (by rw [ltF_eq]; simpa using hj), askS_sel (bnd_t hj (Nat.le_refl _)), askS_sel (show cF (flatC C) (j : Int) = true from hok.2.2.2 j hj), show ((j : Nat) : Int).toNat = j from rfl, f2, f3, wsucc (by omega), e, hu]
    by_cases g1 : minQ C[j].1.2 C[j].2.2 ≤ x
    · rw [br_t (by rw [leF_eq]; exact decide_eq_true g1), decide_eq_true g1]
      by_cases g2 : x < maxQ C[j].1.2 C[j].2.2
      · rw [br_t (by rw [ltF_eq]; exact decide_eq_true g2), decide_eq_true g2, wrapF_in (by omega) (by omega)]
        show some (Sum.inl (((j + 1 : Nat) : Int), k0 + (upCs x (C.take j) : Nat) + 1)) = some (Sum.inl (((j + 1 : Nat) : Int), k0 + ((upCs x (C.take j) + 1 : Nat) : Int)))
        rw [Int.natCast_add, Int.add_assoc]; rfl
      · rw [br_f (by rw [ltF_eq]; exact decide_eq_false g2), decide_eq_false g2]; rfl
    · rw [br_f (by rw [leF_eq]; exact decide_eq_false g1), decide_eq_false g1]; rfl
  · unfold sE40
    dsimp only
    rw [br_f (by rw [ltF_eq]; simp)]; rfl
theorem runE52 {C : List Cy} {m : Int} (hn : C.length < 1000000) (hg : ∀ q ∈ C, wrapF .i64 (maxQ q.1.2 q.2.2 - minQ q.1.2 q.2.2) ≤ m) : runS (sE52 (flatC C) C.length 20 m) (C.length + 1) 0 = some (0, (C.length : Int)) := by
  have hok := okF_flat C hn
  refine run_all (step := sE52 (flatC C) C.length 20 m) (st := fun j => ((j : Nat) : Int)) (a := 0) C.length (fun j hj => ?_) ?_
  · obtain ⟨_, _, f2, f3⟩ := f_fl hj
    have h1 := hg _ (List.getElem_mem hj)
    unfold sE52
    rw [br_t (by rw [ltF_eq]; simpa using hj), askS_sel (bnd_t hj (Nat.le_refl _)), askS_sel (show cF (flatC C) (j : Int) = true from hok.2.2.2 j hj), show ((j : Nat) : Int).toNat = j from rfl, f2, f3, br_f (by rw [ltF_eq]; exact decide_eq_false (by omega)), wsucc (by omega)]; rfl
  · unfold sE52
    rw [br_f (by rw [ltF_eq]; simp)]; rfl
end Go.Proofs.Ytphadgdlknhbnaa.Ways
set_option maxRecDepth 10000
noncomputable section
namespace Go.Proofs.Ytphadgdlknhbnaa.Ways
open Go Go.Ex Go.RowKit Go.Turn
theorem noC_get : ∀ {S : List Pt} {k : Nat}, NoC S → (h : k + 3 < S.length) → nst S[k + 3] S[k + 2] S[k + 1] S[k] = false
  | [], k, _, h => by simp at h
  | [_], k, _, h => by simp at h
  | [_, _], k, _, h => by exfalso; simp at h; omega
  | [_, _, _], k, _, h => by exfalso; simp at h; omega
  | d :: c :: b :: a :: T, 0, hn, h => hn.1
  | d :: c :: b :: a :: T, k + 1, hn, h => noC_get (S := c :: b :: a :: T) hn.2 (by simpa using h)
theorem noC_rev {S : List Pt} (hn : NoC S) {j : Nat} (h : j + 3 < S.reverse.length) : nst (S.reverse[j]'(by omega)) (S.reverse[j + 1]'(by omega)) (S.reverse[j + 2]'(by omega)) S.reverse[j + 3] = false := by
  have hl : S.reverse.length = S.length := List.length_reverse
  have key := noC_get hn (k := S.length - 1 - (j + 3)) (by omega)
  simp only [List.getElem_reverse]
  have e0 : S.length - 1 - (j + 3) + 3 = S.length - 1 - j := by omega
  have e1 : S.length - 1 - (j + 3) + 2 = S.length - 1 - (j + 1) := by omega
  have e2 : S.length - 1 - (j + 3) + 1 = S.length - 1 - (j + 2) := by omega
  simp only [e0, e1, e2] at key
  exact key
theorem aDE_sel {D : List Pt} (hn : D.length < 1000000) {j : Nat} (hj : j < D.length) (u : SS Int) : (aDE (flatP D) D.length (j : Int) u).sel = u.sel := by
  unfold aDE
  rw [askS_sel (bnd_t hj (Nat.le_refl _)), askS_sel (cB2_t (okP_flat hn) hj)]
theorem dDE_eq {D : List Pt} {v w : Nat} (hv : v < D.length) (hw : w < D.length) : dDE (flatP D) (v : Int) (w : Int) = difQ D[v].2 D[w].2 := by
  unfold dDE
  rw [show ((v : Nat) : Int).toNat = v from rfl, show ((w : Nat) : Int).toNat = w from rfl, pB_fl hv, pB_fl hw]; rfl
theorem s58_next {K : Nat} {D : List Pt} (hn : D.length < 1000000) {j : Nat} (hj : j + 3 < D.length) (hc : nst (D[j]'(by omega)) (D[j + 1]'(by omega)) (D[j + 2]'(by omega)) D[j + 3] = false) :
    (sE58 (flatP D) D.length K ((j + 3 : Nat) : Int)).sel = some (.inl ((j + 1 + 3 : Nat) : Int)) := by
  have w3 : wrapF .i64 (((j + 3 : Nat) : Int) - 3) = (j : Int) := by rw [wrapF_in (by omega) (by omega)]; omega
  have w2 : wrapF .i64 (((j + 3 : Nat) : Int) - 2) = ((j + 1 : Nat) : Int) := by rw [wrapF_in (by omega) (by omega)]; omega
  have w1 : wrapF .i64 (((j + 3 : Nat) : Int) - 1) = ((j + 2 : Nat) : Int) := by rw [wrapF_in (by omega) (by omega)]; omega
  have ws : wrapF .i64 (((j + 3 : Nat) : Int) + 1) = ((j + 1 + 3 : Nat) : Int) := by rw [wrapF_in (by omega) (by omega)]; omega
  unfold sE58
  rw [w1, w2, w3, ws, br_t (by rw [ltF_eq]; exact decide_eq_true (by omega)), aDE_sel hn (by omega), aDE_sel hn (by omega), aDE_sel hn (by omega), aDE_sel hn (by omega), aDE_sel hn (by omega), aDE_sel hn (by omega), aDE_sel hn (by omega), aDE_sel hn (by omega),
    dDE_eq (v := j + 1) (w := j + 2) (by omega) (by omega), dDE_eq (v := j) (w := j + 1) (by omega) (by omega)]
  unfold nst minQ at hc
  rw [leF_eq, decide_eq_false_iff_not] at hc
  by_cases h1 : difQ (D[j + 1]'(by omega)).2 (D[j + 2]'(by omega)).2 ≤ difQ (D[j]'(by omega)).2 (D[j + 1]'(by omega)).2
  · rw [br_t (by rw [leF_eq]; exact decide_eq_true h1), aDE_sel hn (by omega), aDE_sel hn (by omega), aDE_sel hn (by omega), aDE_sel hn (by omega), dDE_eq (v := j + 2) (w := j + 3) (by omega) (by omega),
      br_f (by rw [leF_eq]; refine decide_eq_false fun h2 => hc ?_; split <;> assumption)]; rfl
  · rw [br_f (by rw [leF_eq]; exact decide_eq_false h1)]; rfl
theorem runE58 {K : Nat} {S : List Pt} (hn : S.length < 1000000) (hc : NoC S) : ∃ m r, runS (sE58 (flatP S.reverse) S.reverse.length K) m 3 = some (0, r) := by
  have hl : S.reverse.length = S.length := List.length_reverse
  by_cases h3 : 3 < S.length
  · refine ⟨_, _, run_all (step := sE58 (flatP S.reverse) S.reverse.length K) (st := fun j => ((j + 3 : Nat) : Int)) (a := 0) (S.length - 3) (fun _ _ => s58_next (by omega) (by omega) (noC_rev hc (by omega))) ?_⟩
    unfold sE58
    rw [br_f (by rw [ltF_eq]; exact decide_eq_false (by omega))]; rfl
  · refine ⟨1, 3, runD (s := (3 : Int)) ?_⟩
    unfold sE58
    rw [br_f (by rw [ltF_eq]; exact decide_eq_false (by omega))]; rfl
theorem crs_ups (x : Int) : ∀ (P : List Pt), crs (flatP P) x P.length = (upsR x P.reverse : Nat) := by
  intro P
  have key : ∀ j, j ≤ P.length → crs (flatP P) x j = (upsR x (P.take j).reverse : Nat) := by
    intro j
    induction j with
    | zero => intro _; rfl
    | succ j ih =>
      intro hj
      cases j with
      | zero =>
        match P, hj with
        | p :: P, _ => rfl
      | succ j =>
        have e : (P.take (j + 1 + 1)).reverse = P[j + 1] :: P[j] :: (P.take j).reverse := by
          rw [List.take_add_one, List.getElem?_eq_getElem (by omega), List.take_add_one, List.getElem?_eq_getElem (by omega)]
          simp
        have e2 : (P.take (j + 1)).reverse = P[j] :: (P.take j).reverse := by
          rw [List.take_add_one, List.getElem?_eq_getElem (by omega)]
          simp
        have h1 := ih (by omega)
        rw [e2] at h1
        rw [e]
        show crs (flatP P) x (j + 1) + (if pB (flatP P) j ≤ x ∧ x < pB (flatP P) (j + 1) then 1 else 0) = ((upN x P[j] P[j + 1] + upsR x (P[j] :: (P.take j).reverse) : Nat) : Int)
        rw [h1, pB_fl (by omega), pB_fl (by omega)]
        unfold upN
        split <;> omega
  have := key P.length (Nat.le_refl _)
  rwa [List.take_length] at this
theorem mxI_le (a b : Int) : a ≤ mxI a b ∧ b ≤ mxI a b := by unfold mxI; constructor <;> split <;> omega
theorem mnI_le (a b : Int) : mnI a b ≤ a ∧ mnI a b ≤ b := by unfold mnI; constructor <;> split <;> omega
theorem fo_le {cs : List Value} : ∀ (n j : Nat), j < n → eI cs j ≤ foN mxI cs n ∧ foN mnI cs n ≤ eI cs j
  | 1, j, hj => by
    have : j = 0 := by omega
    subst this
    exact ⟨Int.le_refl _, Int.le_refl _⟩
  | n + 2, j, hj => by
    show eI cs j ≤ mxI (foN mxI cs (n + 1)) (eI cs (n + 1)) ∧ mnI (foN mnI cs (n + 1)) (eI cs (n + 1)) ≤ eI cs j
    have h1 := mxI_le (foN mxI cs (n + 1)) (eI cs (n + 1))
    have h2 := mnI_le (foN mnI cs (n + 1)) (eI cs (n + 1))
    by_cases h : j = n + 1
    · subst h
      exact ⟨h1.2, h2.2⟩
    · have := fo_le (cs := cs) (n + 1) j (by omega)
      omega
theorem fo_mem {cs : List Value} {f : Int → Int → Int} (hf : ∀ a b, f a b = a ∨ f a b = b) : ∀ n, ∃ j, j ≤ n ∧ foN f cs (n + 1) = eI cs j
  | 0 => ⟨0, Nat.le_refl _, rfl⟩
  | n + 1 => by
    rcases hf (foN f cs (n + 1)) (eI cs (n + 1)) with h | h
    · obtain ⟨j, h1, h2⟩ := fo_mem hf n
      exact ⟨j, by omega, h.trans h2⟩
    · exact ⟨n + 1, Nat.le_refl _, h⟩
theorem gr_le {P : List Pt} (hb : ∀ p ∈ P, Bd p) {p q : Pt} (hp : p ∈ P) (hq : q ∈ P) : wrapF .i64 (maxQ p.2 q.2 - minQ p.2 q.2) ≤ grE (flatP P) P.length := by
  obtain ⟨a, ha, rfl⟩ := List.getElem_of_mem hp
  obtain ⟨b, hb', rfl⟩ := List.getElem_of_mem hq
  obtain ⟨n, hn⟩ : ∃ n, P.length = n + 1 := ⟨P.length - 1, by omega⟩
  have hl : ∀ j, j < P.length → eI (lds (flatP P) P.length) j = (P[j]?.map (·.2)).getD 0 := fun j hj => by rw [eI_lds hj, pB_fl hj, List.getElem?_eq_getElem hj]; rfl
  have la : eI (lds (flatP P) P.length) a = P[a].2 := by rw [eI_lds ha, pB_fl ha]
  have lb : eI (lds (flatP P) P.length) b = P[b].2 := by rw [eI_lds hb', pB_fl hb']
  have m1 := fo_le (cs := lds (flatP P) P.length) P.length a ha
  have m2 := fo_le (cs := lds (flatP P) P.length) P.length b hb'
  obtain ⟨j1, h1, g1⟩ := fo_mem (cs := lds (flatP P) P.length) (f := mxI) (fun a b => by unfold mxI; split <;> simp) n
  obtain ⟨j2, h2, g2⟩ := fo_mem (cs := lds (flatP P) P.length) (f := mnI) (fun a b => by unfold mnI; split <;> simp) n
  have b1 : eI (lds (flatP P) P.length) j1 = (P[j1]'(by omega)).2 := by rw [eI_lds (by omega), pB_fl (by omega)]
  have b2 : eI (lds (flatP P) P.length) j2 = (P[j2]'(by omega)).2 := by rw [eI_lds (by omega), pB_fl (by omega)]
  have c1 := (hb _ (List.getElem_mem (show j1 < P.length by omega))).2.2
  have c2 := (hb _ (List.getElem_mem (show j2 < P.length by omega))).2.2
  have ca := (hb _ (List.getElem_mem ha)).2.2
  have cb := (hb _ (List.getElem_mem hb')).2.2
  rw [← hn] at g1 g2
  unfold grE
  rw [g1.trans b1, g2.trans b2]
  rw [la, g1.trans b1, g2.trans b2] at m1
  rw [lb, g1.trans b1, g2.trans b2] at m2
  unfold maxQ minQ
  rw [wrapF_in (by split <;> split <;> omega) (by split <;> split <;> omega), wrapF_in (by omega) (by omega)]
  split <;> split <;> omega
end Go.Proofs.Ytphadgdlknhbnaa.Ways
