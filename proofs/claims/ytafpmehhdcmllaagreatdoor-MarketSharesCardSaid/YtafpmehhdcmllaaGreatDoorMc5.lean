import Derived.Test.YtafpmehhdcmllaaGreatDoorMc4
set_option maxRecDepth 10000
noncomputable section
namespace Go.Proofs.YtafpmehhdcmllaaGreatDoor.Ways
open Go Go.Ex Go.RowKit Go.Ex.Srt
/-! ### curtailed: what its loops come to -/
/-- valid energies and a valid limit -/
def VaE (cs : List Value) (n c : Nat) (lim : Int) : Prop := CiE cs n c ∧ n ≤ 10 ∧ (∀ j, j < n → 0 ≤ eI cs j ∧ eI cs j ≤ 100000) ∧ 0 ≤ lim ∧ lim ≤ 6400000
theorem sum_psm {cs : List Value} {n : Nat} (hn : n ≤ 10) (h : ∀ j, j < n → 0 ≤ eI cs j ∧ eI cs j ≤ 100000) : ∀ {j : Nat}, j ≤ n → sumW (eI cs) j = psm (eI cs) j
  | 0, _ => rfl
  | j + 1, hj => by
    show wrapF .i64 (sumW (eI cs) j + eI cs j) = psm (eI cs) j + eI cs j
    rw [sum_psm hn h (by omega)]
    have h1 := psm_bd (n := j) fun k hk => h k (by omega)
    have h2 := h j (by omega)
    exact wrapF_in (by omega) (by omega)
theorem prod_bd {e lim : Int} (h1 : 0 ≤ e) (h2 : e ≤ 100000) (h3 : 0 ≤ lim) (h4 : lim ≤ 6400000) : 0 ≤ e * lim ∧ e * lim ≤ 640000000000 :=
  ⟨Int.mul_nonneg h1 h3, Int.le_trans (Int.mul_le_mul h2 h4 h3 (by decide)) (by decide)⟩
theorem qt_eq {e lim S : Int} (h1 : 0 ≤ e) (h2 : e ≤ 100000) (h3 : 0 ≤ lim) (h4 : lim ≤ 6400000) (h5 : lim < S) : qtE lim S e = e * lim / S ∧ rmE lim S e = e * lim % S := by
  obtain ⟨p1, p2⟩ := prod_bd h1 h2 h3 h4
  have q := qt_bd h5 h3 h1
  unfold qtE rmE
  rw [wrapF_in (n := e * lim) (by omega) (by omega), Int.tdiv_eq_ediv_of_nonneg p1, Int.tmod_eq_emod_of_nonneg p1]
  exact ⟨wrapF_in (by omega) (by omega), rfl⟩
theorem left_lft {cs : List Value} {n : Nat} {lim S : Int} (hn : n ≤ 10) (h : ∀ j, j < n → 0 ≤ eI cs j ∧ eI cs j ≤ 100000) (h3 : 0 ≤ lim) (h4 : lim ≤ 6400000) (h5 : lim < S) : ∀ {j : Nat}, j ≤ n → leftE cs S lim j = lft (eI cs) S lim j
  | 0, _ => rfl
  | j + 1, hj => by
    show wrapF .i64 (leftE cs S lim j - qtE lim S (eI cs j)) = lft (eI cs) S lim j - eI cs j * lim / S
    have h2 := h j (by omega)
    rw [left_lft hn h h3 h4 h5 (by omega), (qt_eq h2.1 h2.2 h3 h4 h5).1]
    have h6 := lft_mono (e := eI cs) h5 h3 (n := j) fun k hk => (h k (by omega)).1
    have h7 := psm_bd (n := j) fun k hk => h k (by omega)
    have h8 := qt_bd h5 h3 h2.1
    exact wrapF_in (by omega) (by omega)
theorem leC_bd {cs : List Value} {n c : Nat} {lim : Int} (h : VaE cs n c lim) (hs : lim < sumW (eI cs) n) : 0 ≤ leC cs n lim ∧ leC cs n lim < n := by
  obtain ⟨_, h2, h3, h4, h5⟩ := h
  unfold leC
  have e1 := sum_psm h2 h3 (Nat.le_refl n)
  rw [left_lft h2 h3 h4 h5 hs (Nat.le_refl n), e1]
  rw [e1] at hs
  exact lft_bd h4 hs fun j hj => (h3 j hj).1
/-- the rows of portions, with the quotients of a function -/
def rwF (F m : Nat → Int) (j : Nat) : Rw := ((j : Int), F j, m j)
def qF (cs : List Value) (n : Nat) (lim : Int) (j : Nat) : Int := qtE lim (sumW (eI cs) n) (eI cs j)
def mF (cs : List Value) (n : Nat) (lim : Int) (j : Nat) : Int := rmE lim (sumW (eI cs) n) (eI cs j)
def fF (cs : List Value) (n : Nat) (lim : Int) : Nat → Rw := rwF (qF cs n lim) (mF cs n lim)
theorem rst_snoc (f : Nat → Rw) : ∀ (d k : Nat), rst f k (d + 1) = rst f k d ++ [f (k + d)]
  | 0, k => rfl
  | d + 1, k => by
    show f k :: rst f (k + 1) (d + 1) = (f k :: rst f (k + 1) d) ++ [f (k + (d + 1))]
    rw [rst_snoc f d (k + 1), show k + 1 + d = k + (d + 1) from by omega]; rfl
theorem poL_rwC {cs : List Value} {S lim : Int} : ∀ n, poL cs S lim n = rwC (rst (rwF (fun j => qtE lim S (eI cs j)) (fun j => rmE lim S (eI cs j))) 0 n)
  | 0 => rfl
  | n + 1 => by
    rw [rst_snoc, rwC_app, ← poL_rwC n, Nat.zero_add]; rfl
theorem poC_rwC {cs : List Value} {n : Nat} {lim : Int} : poC cs n lim = rwC (rst (fF cs n lim) 0 n) := poL_rwC n
theorem rst_at (f : Nat → Rw) : ∀ (k a d : Nat), rst f a (k + (d + 1)) = rst f a k ++ f (a + k) :: rst f (a + k + 1) d
  | 0, a, d => by rw [Nat.zero_add]; rfl
  | k + 1, a, d => by
    rw [show k + 1 + (d + 1) = (k + (d + 1)) + 1 from by omega]
    show f a :: rst f (a + 1) (k + (d + 1)) = (f a :: rst f (a + 1) k) ++ _
    rw [rst_at f k (a + 1) d, show a + 1 + k = a + (k + 1) from by omega]; rfl
theorem rst_ext {f g : Nat → Rw} : ∀ (d a : Nat), (∀ j, a ≤ j → j < a + d → f j = g j) → rst f a d = rst g a d
  | 0, _, _ => rfl
  | d + 1, a, h => by
    show f a :: rst f (a + 1) d = g a :: rst g (a + 1) d
    rw [h a (by omega) (by omega), rst_ext d (a + 1) fun j h1 h2 => h j (by omega) (by omega)]
/-- one more at a place -/
def upF (F : Nat → Int) (k : Nat) (j : Nat) : Int := if j = k then wrapF .i64 (F j + 1) else F j
def upT (ix : Nat → Nat) (F : Nat → Int) : Nat → Nat → Int
  | 0 => F
  | t + 1 => upF (upT ix F t) (ix t)
theorem rwC_up {F m : Nat → Int} {n k : Nat} (hk : k < n) : (rwC (rst (rwF F m) 0 n)).set (0 + k * 3 + 1) (i (wrapF .i64 (intO (rwC (rst (rwF F m) 0 n))[0 + k * 3 + 1]? + 1))) = rwC (rst (rwF (upF F k) m) 0 n) ∧ isI (rwC (rst (rwF F m) 0 n)) (0 + k * 3 + 1) = true ∧ in1 (rwC (rst (rwF F m) 0 n)) (0 + k * 3 + 1) = true := by
  obtain ⟨d, rfl⟩ : ∃ d, n = k + (d + 1) := ⟨n - k - 1, by omega⟩
  rw [rst_at (rwF F m) k 0 d, rst_at (rwF (upF F k) m) k 0 d, Nat.zero_add]
  have hl : (rst (rwF F m) 0 k).length = k := rst_len _ _ _
  have hc := rwC_at (A := rst (rwF F m) 0 k) (B := rst (rwF F m) (k + 1) d) (r := rwF F m k) hl
  refine ⟨?_, ?_, ?_⟩
  · rw [hc.2.1, rwC_app, rwC_app]
    have e1 : rst (rwF (upF F k) m) 0 k = rst (rwF F m) 0 k := rst_ext k 0 fun j _ h2 => by
      unfold rwF upF
      rw [if_neg (by omega)]
    have e2 : rst (rwF (upF F k) m) (k + 1) d = rst (rwF F m) (k + 1) d := rst_ext d (k + 1) fun j h1 _ => by
      unfold rwF upF
      rw [if_neg (by omega)]
    have e3 : rwF (upF F k) m k = ((k : Int), wrapF .i64 (F k + 1), m k) := by
      unfold rwF upF
      rw [if_pos rfl]
    rw [e1, e2, e3, set_app (by rw [rwC_len, hl]; omega), rwC_len, hl, show 0 + k * 3 + 1 - k * 3 = 1 from by omega]; rfl
  · unfold isI
    rw [hc.2.1]; rfl
  · unfold in1
    rw [decide_eq_true (by rw [rwC_len, List.length_append, List.length_cons, hl]; omega)]; rfl
theorem srtC_at {f : Nat → Rw} (hf : ∀ j, (f j).1 = (j : Int)) {n t : Nat} (h : t < n) : cR k3 3 (srtC f n) (t : Int) = true ∧ ce 3 0 (srtC f n) t = (ixO f n t : Int) := by
  have hl : t < (srt f n).reverse.length := by rw [List.length_reverse, srt_len]; exact h
  have h1 := (at_row hf h).1
  rw [List.getElem?_eq_getElem hl] at h1
  have hs : (srt f n).reverse = (srt f n).reverse.take t ++ f (ixO f n t) :: (srt f n).reverse.drop (t + 1) := by
    rw [← Option.some.inj h1, ← List.drop_eq_getElem_cons hl, List.take_append_drop]
  have hk : ((srt f n).reverse.take t).length = t := by rw [List.length_take]; omega
  unfold srtC
  rw [hs]
  refine ⟨rwC_cR hk, ?_⟩
  rw [(rwC_ce hk).1, hf]
theorem fF_idx (cs : List Value) (n : Nat) (lim : Int) (j : Nat) : (fF cs n lim j).1 = (j : Int) := rfl
theorem run109 {F m : Nat → Int} {f : Nat → Rw} (hf : ∀ j, (f j).1 = (j : Int)) {n l : Nat} (hl : l ≤ n) (hn : n < 1000000) : runS (st109 (srtC f n) n l) (l + 1) (0, rwC (rst (rwF F m) 0 n)) = some (0, ((l : Int), rwC (rst (rwF (upT (ixO f n) F l) m) 0 n))) := by
  refine run_all (step := st109 (srtC f n) n l) (st := fun j => (((j : Nat) : Int), rwC (rst (rwF (upT (ixO f n) F j) m) 0 n))) (a := 0) l (fun j hj => ?_) ?_
  · obtain ⟨g1, g2⟩ := srtC_at hf (show j < n by omega)
    have hi := (at_row hf (show j < n by omega)).2
    obtain ⟨u1, u2, u3⟩ := rwC_up (F := upT (ixO f n) F j) (m := m) hi
    have ho : offR (srtC f n) (j : Int) = 0 + ixO f n j * 3 + 1 := by
      unfold offR ixR
      rw [show ((j : Nat) : Int).toNat = j from rfl, g2]; rfl
    have hx : ixR (srtC f n) (j : Int) = (ixO f n j : Int) := by
      unfold ixR
      rw [show ((j : Nat) : Int).toNat = j from rfl, g2]
    unfold st109
    dsimp only
    rw [br_t (by rw [ltF_eq]; simpa using hj), askS_sel (bnd_t hj hl), askS_sel g1, hx, askS_sel (bnd_t hi (Nat.le_refl n)), ho, askS_sel u2, askS_sel (bnd_t hi (Nat.le_refl n)), askS_sel u3, wsucc (by omega), u1]; rfl
  · unfold st109
    dsimp only
    rw [br_f (by rw [ltF_eq]; simp)]; rfl
end Go.Proofs.YtafpmehhdcmllaaGreatDoor.Ways
set_option maxRecDepth 10000
noncomputable section
namespace Go.Proofs.YtafpmehhdcmllaaGreatDoor.Ways
open Go Go.Ex Go.RowKit Go.Ex.Srt
/-! ### curtailed, and the program's Curtail: contracts -/
/-- what each energy feeds in -/
def resF (cs : List Value) (n : Nat) (lim : Int) : Nat → Int := upT (ixO (fF cs n lim) n) (qF cs n lim) (leC cs n lim).toNat
/-- all are fed in (g), or some -/
def CuE (g : Bool) (cs : List Value) (n c : Nat) (lim : Int) : Prop := VaE cs n c lim ∧ cond g (sumW (eI cs) n ≤ lim) (lim < sumW (eI cs) n)
def cuN (g : Bool) (cs : List Value) (n : Nat) (lim : Int) : NRes := cond g (.sl n n cs 3 1 false) (.sl n n (nmL (resF cs n lim) n) 3 1 true)
def sp109c (g : Bool) : NSpec := fun al css => match al, css with
  | [.slice (some ⟨4, 0, none⟩) n c, .int .i64 lim], [cs] => some (CuE g cs n c lim, cuN g cs n lim)
  | _, _ => none
theorem rwC_okR {F m : Nat → Int} {n : Nat} (h : n < 1000000) : okR k3 3 (rwC (rst (rwF F m) 0 n)) n n := by
  refine ⟨rwC_flat _, Nat.le_refl n, by omega, fun j hj => ?_⟩
  obtain ⟨d, rfl⟩ : ∃ d, n = j + (d + 1) := ⟨n - j - 1, by omega⟩
  rw [rst_at (rwF F m) j 0 d]
  exact rwC_cR (rst_len _ _ _)
theorem rwC_qI {F m : Nat → Int} {n : Nat} : nmL (qI (rwC (rst (rwF F m) 0 n))) n = nmL F n := by
  refine nmL_ext fun j hj => ?_
  obtain ⟨d, rfl⟩ : ∃ d, n = j + (d + 1) := ⟨n - j - 1, by omega⟩
  unfold qI
  rw [rst_at (rwF F m) j 0 d, Nat.zero_add]
  exact (rwC_ce (rst_len _ _ _)).2.1
noncomputable def K109z : Cfg := ⟨Tc4, at_ [(109, 13)] .bool (at_ [(109, 17)] (.ints []) no_), off_, noL⟩
section
variable (cs : List Value) (n c : Nat) (lim : Int) (t s : Nat) (ex : Bool)
noncomputable def p109 : Out QRes := execO Tryz.prog 5 K109z 80 (.call 109 ⟨[sl 4 0 n c, i lim]⟩ (heapL (deads ++ [.cells cs t s ex])))
theorem w109 : (p109 cs n c lim t s ex).news = asN (tru (okI cs n c)) (.br (leF (sumW (eI cs) n) lim) (asN (tru (CiE cs n c)) (.leaf 5 (.sl n n cs 3 1 false))) .fail) := by kernel_rfl
theorem z109 : p109 cs n c lim t s ex = (p109 cs n c lim t s ex).fix := by kernel_rfl
end
theorem c109 (g : Bool) : ∀ al css os p v, sp109c g al css = some (p, v) → p → Blks css os → (∀ cs ∈ css, cs.all Ex.flat = true) ∧ v.Ok Tryz.prog 109 al deads os (gl + css.length) := by
  intro al css os p v hs hp hb
  unfold sp109c at hs
  split at hs
  case h_2 => cases hs
  rename_i n c lim cs
  cases hs
  obtain ⟨t, s, ex, rfl⟩ := blks1 hb
  obtain ⟨hv, hg⟩ := hp
  obtain ⟨⟨p1, p2, p3, p4⟩, v2, v3, v4, v5⟩ := hv
  have hv : VaE cs n c lim := ⟨⟨p1, p2, p3, p4⟩, v2, v3, v4, v5⟩
  refine ⟨by simpa using p1.1, ?_⟩
  have hlT : ∀ (R P' : List Value) (l : Nat) (j1 j2 : Int), runS (stSo n) n (1, poC cs n lim) = some (0, (j1, R)) → R.all Ex.flat = true → runS (st109 R n l) (l + 1) (0, poC cs n lim) = some (0, (j2, P')) → LSound Tryz.prog 5 (LK109 cs n lim t s ex R l P' j1 j2) := by
    intro R P' l j1 j2 h1 h2 h3
    have hP : (poC cs n lim).all Ex.flat = true := poL_flat _ _ _ _
    have a1 := (Lso (cs := cs) (P := poC cs n lim) (n := n) (t := t) (s := s) (ex := ex) p1.1 hP).table (id := 1) (s0 := (1, poC cs n lim)) .none (by decide) hP h1 (by kernel_rfl) [0]
    exact (L109 (cs := cs) (R := R) (n := n) (l := l) (t := t) (s := s) (ex := ex) p1.1 h2).table (id := 7) (s0 := (0, poC cs n lim)) a1 (by decide) hP h3 (by kernel_rfl) [0]
  have hso : runS (stSo n) n (1, poC cs n lim) = some (0, ((n : Int), srtC (fF cs n lim) n)) := by
    rw [poC_rwC]; exact runSo p2 p3
  cases g with
  | true =>
    have hg' : sumW (eI cs) n ≤ lim := hg
    refine news_ok (C := K109z) (n := 80) tsc4 .none (z109 cs n c lim t s ex) (b := 5) ((congrArg NT.sel (w109 cs n c lim t s ex)).trans ?_) (show 5 ≤ 5 by decide) p1.1
    rw [asN_t (tru_iff.2 p1), nb_t (by rw [leF_eq]; exact decide_eq_true hg'), asN_t (tru_iff.2 ⟨p1, p2, p3, p4⟩)]; rfl
  | false =>
    have hg' : lim < sumW (eI cs) n := hg
    obtain ⟨b1, b2⟩ := leC_bd hv hg'
    have hb : (leC cs n lim).toNat ≤ n := by omega
    have h8 := run109 (F := qF cs n lim) (m := mF cs n lim) (fF_idx cs n lim) (l := (leC cs n lim).toNat) hb p3
    rw [show rwC (rst (rwF (qF cs n lim) (mF cs n lim)) 0 n) = poC cs n lim from poC_rwC.symm] at h8
    have hL := hlT (srtC (fF cs n lim) n) _ (leC cs n lim).toNat n ((leC cs n lim).toNat : Int) hso (rwC_flat _) h8
    refine news_ok (C := K109 cs n lim t s ex (srtC (fF cs n lim) n) _ n ((leC cs n lim).toNat : Int)) (n := 80) tsc4 hL (x109 cs n c lim t s ex _ _ _ _) (b := 7) ((congrArg NT.sel (v109 cs n c lim t s ex _ _ _ _)).trans ?_) (show 5 ≤ 7 by decide) (nmL_flat _ _)
    have hok : okR k3 3 (poC cs n lim) n n := by rw [poC_rwC]; exact rwC_okR p3
    have hpl : (poC cs n lim).length = n * 3 := poL_len _ _ _ _
    have hsl : (leF 0 0 && (leF 0 (leC cs n lim) && leF (leC cs n lim) n)) = true := by
      rw [leF_eq, leF_eq, leF_eq, decide_eq_true b1, decide_eq_true (show leC cs n lim ≤ (n : Int) by omega)]; rfl
    unfold v109T
    rw [asN_t (tru_iff.2 p1), nb_f (by rw [leF_eq]; exact decide_eq_false (by omega)), asN_t (tru_iff.2 ⟨p1, by omega, p3⟩), asN_t (tru_iff.2 ⟨hok, p2, p3, hpl⟩), nb_f (by rw [leF_eq]; exact decide_eq_false (by omega)), asN_t rfl,
      nb_f (by rw [ltF_eq]; exact decide_eq_false (by omega)), asN_t hsl, asN_t rfl, asN_t (tru_iff.2 ⟨rwC_okR p3, p3⟩), rwC_qI]; rfl
end Go.Proofs.YtafpmehhdcmllaaGreatDoor.Ways
