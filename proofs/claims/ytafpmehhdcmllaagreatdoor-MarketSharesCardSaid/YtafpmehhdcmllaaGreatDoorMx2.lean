import Derived.Test.YtafpmehhdcmllaaGreatDoorMx1
import Derived.Test.YtafpmehhdcmllaaGreatDoorMc9
set_option maxRecDepth 10000
noncomputable section
namespace Go.Proofs.YtafpmehhdcmllaaGreatDoor.Ways
open Go Go.Ex Go.RowKit Go.Ex.Srt
/-! ### MarketShares: the shares are as the law asks -/
theorem psm_shift (e : Nat → Int) : ∀ n, psm e (n + 1) = e 0 + psm (fun j => e (j + 1)) n
  | 0 => by simp [psm]
  | n + 1 => by
    show psm e (n + 1) + e (n + 1) = e 0 + (psm (fun j => e (j + 1)) n + e (n + 1))
    rw [psm_shift e n]; omega
theorem psm_rev : ∀ (n : Nat) (e : Nat → Int), psm (fun j => e (n - 1 - j)) n = psm e n
  | 0, _ => rfl
  | n + 1, e => by
    show psm (fun j => e (n + 1 - 1 - j)) n + e (n + 1 - 1 - n) = psm e (n + 1)
    rw [psm_shift e n, ← psm_rev n fun j => e (j + 1)]
    have h1 : psm (fun j => e (n + 1 - 1 - j)) n = psm (fun j => e (n - 1 - j + 1)) n := psm_ext fun j hj => by
      rw [show n + 1 - 1 - j = n - 1 - j + 1 from by omega]
    rw [h1, show n + 1 - 1 - n = 0 from by omega]; omega
theorem psm_up {F : Nat → Int} {k : Nat} (hw : wrapF .i64 (F k + 1) = F k + 1) : ∀ {n : Nat}, psm (upF F k) n = psm F n + if k < n then 1 else 0
  | 0 => by simp [psm]
  | n + 1 => by
    show psm (upF F k) n + upF F k n = psm F n + F n + if k < n + 1 then 1 else 0
    rw [psm_up hw]
    unfold upF
    by_cases h : n = k
    · subst h
      rw [if_neg (Nat.lt_irrefl _), if_pos rfl, if_pos (Nat.lt_succ_self _), hw]; omega
    · rw [if_neg h]
      by_cases h2 : k < n
      · rw [if_pos h2, if_pos (by omega)]; omega
      · rw [if_neg h2, if_neg (by omega)]; omega
section
variable {f : Nat → Rw} {n : Nat}
theorem ix_new (hf : ∀ j, (f j).1 = (j : Int)) {t : Nat} (h : t < n) : exT (ixO f n) t (ixO f n t) = false := by
  rw [Bool.eq_false_iff]
  intro he
  obtain ⟨s, h1, h2⟩ := exT_iff.1 he
  have := ord_row hf h1 h
  rw [h2] at this
  exact bf_irr this
/-- those that were taken have one more -/
theorem upT_eq (hf : ∀ j, (f j).1 = (j : Int)) {F : Nat → Int} (hF : ∀ j, j < n → 0 ≤ F j ∧ F j ≤ 100000) : ∀ {t : Nat}, t ≤ n → ∀ j, j < n → upT (ixO f n) F t j = if exT (ixO f n) t j = true then F j + 1 else F j
  | 0, _, j, _ => by
    show F j = if false = true then _ else _
    rw [if_neg (by simp)]
  | t + 1, ht, j, hj => by
    have ih := upT_eq hf hF (t := t) (by omega) j hj
    have hb := hF j hj
    show (if j = ixO f n t then wrapF .i64 (upT (ixO f n) F t j + 1) else upT (ixO f n) F t j) = if (decide (j = ixO f n t) || exT (ixO f n) t j) = true then _ else _
    by_cases hji : j = ixO f n t
    · have hn := ix_new hf (show t < n by omega)
      rw [← hji] at hn
      rw [hn, if_neg (by simp)] at ih
      rw [if_pos hji, decide_eq_true hji, Bool.true_or, if_pos rfl, ih, wrapF_in (by omega) (by omega)]
    · rw [if_neg hji, decide_eq_false hji, Bool.false_or, ih]
theorem upT_psm (hf : ∀ j, (f j).1 = (j : Int)) {F : Nat → Int} (hF : ∀ j, j < n → 0 ≤ F j ∧ F j ≤ 100000) : ∀ {t : Nat}, t ≤ n → psm (upT (ixO f n) F t) n = psm F n + t
  | 0, _ => by simp [upT]
  | t + 1, ht => by
    have hi := (at_row hf (show t < n by omega)).2
    have hu := upT_eq hf hF (t := t) (by omega) _ hi
    rw [ix_new hf (show t < n by omega), if_neg (by simp)] at hu
    have hb := hF _ hi
    show psm (upF (upT (ixO f n) F t) (ixO f n t)) n = _
    rw [psm_up (by rw [hu]; exact wrapF_in (by omega) (by omega)), if_pos hi, upT_psm hf hF (by omega)]; omega
theorem psm_mono {e g : Nat → Int} : ∀ {n : Nat}, (∀ j, j < n → e j ≤ g j) → psm e n ≤ psm g n
  | 0, _ => Int.le_refl _
  | n + 1, h => by
    have h1 := psm_mono (n := n) fun j hj => h j (by omega)
    have h2 := h n (by omega)
    show psm e n + e n ≤ psm g n + g n
    omega
theorem psm_mul (a : Int) (e : Nat → Int) : ∀ n, psm (fun j => a * e j) n = a * psm e n
  | 0 => by simp [psm]
  | n + 1 => by
    show psm (fun j => a * e j) n + a * e n = a * (psm e n + e n)
    rw [psm_mul a e n, Int.mul_add]
/-- who is taken early has no lesser remainder -/
theorem ord_le (hf : ∀ j, (f j).1 = (j : Int)) {s t : Nat} (h : s ≤ t) (ht : t < n) : (f (ixO f n t)).2.2 ≤ (f (ixO f n s)).2.2 := by
  rcases Nat.lt_or_ge s t with hst | hst
  · have := ord_row hf hst ht
    unfold bf at this
    omega
  · rw [show s = t from by omega]; exact Int.le_refl _
/-- who is taken has a remainder, if all remainders together are so many times the divisor -/
theorem taken_pos (hf : ∀ j, (f j).1 = (j : Int)) {S : Int} {l : Nat} (hl : l ≤ n) (hm : ∀ j, j < n → 0 ≤ (f j).2.2 ∧ (f j).2.2 ≤ S - 1) (hs : psm (fun j => (f j).2.2) n = S * l) {j : Nat} (hj : j < n) (ht : exT (ixO f n) l j = true) : 0 < (f j).2.2 := by
  obtain ⟨t0, h0, rfl⟩ := exT_iff.1 ht
  refine Int.not_le.1 fun hz => ?_
  have hS : 0 ≤ S - 1 := by have := hm _ hj; omega
  have hle : ∀ k, k < n → (f k).2.2 ≤ (S - 1) * upT (ixO f n) (fun _ => 0) t0 k := fun k hk => by
    rw [upT_eq hf (F := fun _ => 0) (fun _ _ => by omega) (by omega) k hk]
    by_cases he : exT (ixO f n) t0 k = true
    · rw [if_pos he]
      have := hm k hk
      simp only [Int.zero_add, Int.mul_one]
      omega
    · rw [if_neg he, Int.mul_zero]
      obtain ⟨s, hs1, rfl⟩ := all_row hf hk
      have hst : t0 ≤ s := Nat.le_of_not_lt fun hlt => he (exT_iff.2 ⟨s, hlt, rfl⟩)
      have := ord_le hf hst hs1
      omega
  have h1 := psm_mono hle
  rw [psm_mul, upT_psm hf (F := fun _ => 0) (fun _ _ => by omega) (by omega), hs] at h1
  have h2 : psm (fun _ => (0 : Int)) n = 0 := by
    have h3 := psm_mul 0 (fun _ => 0) n
    simpa using h3
  rw [h2, Int.zero_add, Int.sub_mul, Int.one_mul] at h1
  have h4 : S * ((t0 : Int) + 1) ≤ S * (l : Int) := Int.mul_le_mul_of_nonneg_left (by omega) (by omega)
  rw [Int.mul_add, Int.mul_one] at h4
  omega
/-- who has a greater remainder than one that is taken is taken, too -/
theorem taken_gt (hf : ∀ j, (f j).1 = (j : Int)) {l j k : Nat} (hj : j < n) (h : (f k).2.2 < (f j).2.2) (_hl : l ≤ n) (hk : exT (ixO f n) l k = true) : exT (ixO f n) l j = true := by
  obtain ⟨s, h1, rfl⟩ := exT_iff.1 hk
  obtain ⟨t, h2, rfl⟩ := all_row hf hj
  refine exT_iff.2 ⟨t, ?_, rfl⟩
  rcases Nat.lt_or_ge t l with h3 | h3
  · exact h3
  · have := ord_le hf (show s ≤ t by omega) h2
    omega
end
theorem rem_psm {e : Nat → Int} {S lim : Int} : ∀ n, S * (lim - lft e S lim n) + psm (fun j => e j * lim % S) n = lim * psm e n
  | 0 => by simp [lft, psm]
  | n + 1 => by
    have ih := rem_psm (e := e) (S := S) (lim := lim) n
    have m3 := Int.mul_ediv_add_emod (e n * lim) S
    show S * (lim - (lft e S lim n - e n * lim / S)) + (psm (fun j => e j * lim % S) n + e n * lim % S) = lim * (psm e n + e n)
    have e1 : S * (lim - (lft e S lim n - e n * lim / S)) = S * (lim - lft e S lim n) + S * (e n * lim / S) := by rw [← Int.mul_add]; congr 1; omega
    have e2 : lim * (psm e n + e n) = lim * psm e n + e n * lim := by rw [Int.mul_add, Int.mul_comm lim (e n)]
    omega
/-- what a share is, by its quotient and its remainder -/
structure Part (x c S lim q m : Int) : Prop where
  eq : S * q + m = x * lim
  m0 : 0 ≤ m
  m1 : m < S
  q0 : 0 ≤ q
  c_ : c = q ∨ (c = q + 1 ∧ 0 < m)
section
variable {cs : List Value} {n c : Nat} {lim : Int}
theorem res_part (h : VaE cs n c lim) (hs : lim < sumW (eI cs) n) {j : Nat} (hj : j < n) : Part (eI cs j) (resF cs n lim j) (sumW (eI cs) n) lim (qF cs n lim j) (mF cs n lim j) ∧ qF cs n lim j ≤ eI cs j ∧ (resF cs n lim j = qF cs n lim j + 1 ↔ exT (ixO (fF cs n lim) n) (leC cs n lim).toNat j = true) := by
  have hb := leC_bd h hs
  obtain ⟨_, h2, h3, h4, h5⟩ := h
  have hsp := sum_psm h2 h3 (Nat.le_refl n)
  have hq : ∀ k, k < n → qF cs n lim k = eI cs k * lim / sumW (eI cs) n ∧ mF cs n lim k = eI cs k * lim % sumW (eI cs) n := fun k hk => qt_eq (h3 k hk).1 (h3 k hk).2 h4 h5 hs
  have hqb : ∀ k, k < n → 0 ≤ qF cs n lim k ∧ qF cs n lim k ≤ eI cs k := fun k hk => by rw [(hq k hk).1]; exact qt_bd hs h4 (h3 k hk).1
  have hmb : ∀ k, k < n → 0 ≤ mF cs n lim k ∧ mF cs n lim k < sumW (eI cs) n := fun k hk => by
    rw [(hq k hk).2]
    exact ⟨Int.emod_nonneg _ (by omega), Int.emod_lt_of_pos _ (by omega)⟩
  have hup := upT_eq (fF_idx cs n lim) (F := qF cs n lim) (fun k hk => by have := hqb k hk; have := h3 k hk; omega) (t := (leC cs n lim).toNat) (by omega) j hj
  have hsum : psm (fun k => (fF cs n lim k).2.2) n = sumW (eI cs) n * (leC cs n lim).toNat := by
    have e1 : psm (fun k => (fF cs n lim k).2.2) n = psm (fun k => eI cs k * lim % sumW (eI cs) n) n := psm_ext fun k hk => (hq k hk).2
    have e2 := rem_psm (e := eI cs) (S := sumW (eI cs) n) (lim := lim) n
    have e3 : leC cs n lim = lft (eI cs) (sumW (eI cs) n) lim n := left_lft h2 h3 h4 h5 hs (Nat.le_refl n)
    rw [← e3, ← hsp] at e2
    have e4 : ((leC cs n lim).toNat : Int) = leC cs n lim := by omega
    rw [e1, e4]
    rw [Int.mul_sub, Int.mul_comm lim] at e2
    omega
  have heq : sumW (eI cs) n * qF cs n lim j + mF cs n lim j = eI cs j * lim := by
    rw [(hq j hj).1, (hq j hj).2]; exact Int.mul_ediv_add_emod _ _
  have hpos := fun ht => taken_pos (fF_idx cs n lim) (S := sumW (eI cs) n) (l := (leC cs n lim).toNat) (by omega) (fun k hk => by have := hmb k hk; show 0 ≤ mF cs n lim k ∧ mF cs n lim k ≤ _; omega) hsum hj ht
  refine ⟨⟨heq, (hmb j hj).1, (hmb j hj).2, (hqb j hj).1, ?_⟩, (hqb j hj).2, ?_⟩
  · unfold resF
    rw [hup]
    by_cases he : exT (ixO (fF cs n lim) n) (leC cs n lim).toNat j = true
    · rw [if_pos he]; exact .inr ⟨rfl, hpos he⟩
    · rw [if_neg he]; exact .inl rfl
  · unfold resF
    rw [hup]
    by_cases he : exT (ixO (fF cs n lim) n) (leC cs n lim).toNat j = true
    · rw [if_pos he]; exact ⟨fun _ => he, fun _ => rfl⟩
    · rw [if_neg he]; exact ⟨fun h => by omega, fun h => absurd h he⟩
theorem res_sum (h : VaE cs n c lim) (hs : lim < sumW (eI cs) n) : sumW (eI (nmL (resF cs n lim) n)) n = lim := by
  have hb := leC_bd h hs
  have hp := fun j (hj : j < n) => res_part h hs hj
  obtain ⟨_, h2, h3, h4, h5⟩ := h
  have hq : ∀ k, k < n → qF cs n lim k = eI cs k * lim / sumW (eI cs) n := fun k hk => (qt_eq (h3 k hk).1 (h3 k hk).2 h4 h5 hs).1
  have hrb : ∀ j, j < n → 0 ≤ resF cs n lim j ∧ resF cs n lim j ≤ 100000 := fun j hj => by
    obtain ⟨p1, p2, _⟩ := hp j hj
    have := p1.q0
    have hx := h3 j hj
    rcases p1.c_ with h6 | ⟨h6, h7⟩
    · omega
    · have h8 : qF cs n lim j < eI cs j := by
        refine Int.not_le.1 fun hge => ?_
        have e1 := p1.eq
        have h9 : qF cs n lim j = eI cs j := by omega
        rw [h9, Int.mul_comm] at e1
        have h10 := Int.mul_le_mul_of_nonneg_left (show lim ≤ sumW (eI cs) n by omega) hx.1
        omega
      omega
  rw [sum_psm h2 (fun j hj => by rw [nmL_eI _ hj]; exact hrb j hj) (Nat.le_refl n), psm_ext (f := resF cs n lim) fun j hj => nmL_eI _ hj]
  show psm (upT _ _ _) n = _
  rw [upT_psm (fF_idx cs n lim) (fun j hj => by obtain ⟨p1, p2, _⟩ := hp j hj; have := p1.q0; have := h3 j hj; omega) (by omega), psm_ext hq]
  have e3 : leC cs n lim = lft (eI cs) (sumW (eI cs) n) lim n := left_lft h2 h3 h4 h5 hs (Nat.le_refl n)
  rw [lft_psm] at e3
  omega
end
end Go.Proofs.YtafpmehhdcmllaaGreatDoor.Ways
set_option maxRecDepth 10000
noncomputable section
namespace Go.Proofs.YtafpmehhdcmllaaGreatDoor.Ways
open Go Go.Ex Go.RowKit Go.Ex.Srt
/-! ### MarketShares: the shares are as the law asks (all of it); the law's table -/
theorem df_le {a b : Int} (h1 : a - b ≤ 1) (h2 : b - a ≤ 1) (_ha : 0 ≤ a ∧ a ≤ 200000) (_hb : 0 ≤ b ∧ b ≤ 200000) : df a b ≤ 1 := by
  unfold df mx2
  rw [wrapF_in (by omega) (by omega), wrapF_in (by omega) (by omega)]
  by_cases h : a - b < b - a
  · rw [if_pos h]; exact h2
  · rw [if_neg h]; exact h1
section
variable {cs : List Value} {n c : Nat} {lim : Int}
theorem res_bd (h : VaE cs n c lim) (hs : lim < sumW (eI cs) n) {j : Nat} (hj : j < n) : 0 ≤ resF cs n lim j ∧ resF cs n lim j ≤ eI cs j := by
  obtain ⟨p1, p2, _⟩ := res_part h hs hj
  have hx := h.2.2.1 j hj
  have hl := h.2.2.2.1
  have := p1.q0
  rcases p1.c_ with h6 | ⟨h6, h7⟩
  · omega
  · have h8 : qF cs n lim j < eI cs j := by
      refine Int.not_le.1 fun hge => ?_
      have e1 := p1.eq
      have h9 : qF cs n lim j = eI cs j := by omega
      rw [h9, Int.mul_comm] at e1
      have h10 := Int.mul_le_mul_of_nonneg_left (show lim ≤ sumW (eI cs) n by omega) hx.1
      omega
    omega
theorem sum_bd (h : VaE cs n c lim) : 0 ≤ sumW (eI cs) n ∧ sumW (eI cs) n ≤ 1000000 := by
  have h2 := h.2.1
  have h1 := psm_bd (n := n) h.2.2.1
  rw [sum_psm h2 h.2.2.1 (Nat.le_refl n)]
  omega
/-- a share lies within one of its exact value -/
theorem near (h : VaE cs n c lim) (hs : lim < sumW (eI cs) n) {j : Nat} (hj : j < n) : lo2 cs (nmL (resF cs n lim) n) lim (sumW (eI cs) n) (j : Int) = false ∧ hi2 cs (nmL (resF cs n lim) n) lim (sumW (eI cs) n) (j : Int) = false := by
  obtain ⟨p1, p2, _⟩ := res_part h hs hj
  have hb := res_bd h hs hj
  have hx := h.2.2.1 j hj
  have hS := sum_bd h
  obtain ⟨l1, l2⟩ := prod_bd hx.1 hx.2 h.2.2.2.1 h.2.2.2.2
  have hc1 : 0 ≤ resF cs n lim j * sumW (eI cs) n := Int.mul_nonneg hb.1 hS.1
  have hc2 : resF cs n lim j * sumW (eI cs) n ≤ 100000 * 1000000 := Int.mul_le_mul (by omega) hS.2 hS.1 (by decide)
  have e1 := p1.eq
  have e2 : resF cs n lim j * sumW (eI cs) n = sumW (eI cs) n * qF cs n lim j ∨ (resF cs n lim j * sumW (eI cs) n = sumW (eI cs) n * qF cs n lim j + sumW (eI cs) n ∧ 0 < mF cs n lim j) := by
    rcases p1.c_ with h6 | ⟨h6, h7⟩
    · left; rw [h6, Int.mul_comm]
    · right; rw [h6, Int.add_mul, Int.one_mul, Int.mul_comm (qF cs n lim j)]; exact ⟨rfl, h7⟩
  have m0 := p1.m0
  have m1 := p1.m1
  unfold lo2 hi2
  rw [show ((j : Nat) : Int).toNat = j from rfl, nmL_eI _ hj, wrapF_in (n := resF cs n lim j * sumW (eI cs) n) (by omega) (by omega), wrapF_in (n := eI cs j * lim) (by omega) (by omega), wrapF_in (n := eI cs j * lim - sumW (eI cs) n) (by omega) (by omega), wrapF_in (n := eI cs j * lim + sumW (eI cs) n) (by omega) (by omega), leF_eq, leF_eq]
  constructor
  · refine decide_eq_false ?_
    rcases e2 with h6 | ⟨h6, _⟩ <;> omega
  · refine decide_eq_false ?_
    rcases e2 with h6 | ⟨h6, h7⟩ <;> omega
/-- the list backwards -/
theorem rev_va (h : VaE cs n c lim) : VaE (rvL cs n) n n lim ∧ sumW (eI (rvL cs n)) n = sumW (eI cs) n := by
  obtain ⟨⟨p1, p2, p3, p4⟩, h2, h3, h4, h5⟩ := h
  have he : ∀ j, j < n → eI (rvL cs n) j = eI cs (n - 1 - j) := fun j hj => nmL_eI _ hj
  have h3' : ∀ j, j < n → 0 ≤ eI (rvL cs n) j ∧ eI (rvL cs n) j ≤ 100000 := fun j hj => by rw [he j hj]; exact h3 _ (by omega)
  refine ⟨⟨⟨nmL_ok _ p3, p2, p3, nmL_len _ _⟩, h2, h3', h4, h5⟩, ?_⟩
  rw [sum_psm h2 h3' (Nat.le_refl n), sum_psm h2 h3 (Nat.le_refl n), psm_ext he]
  exact psm_rev n (eI cs)
theorem rev_cu {g : Bool} (h : CuE g cs n c lim) : CuE g (rvL cs n) n n lim := by
  obtain ⟨h1, h2⟩ := h
  obtain ⟨h3, h4⟩ := rev_va h1
  refine ⟨h3, ?_⟩
  cases g with
  | true => show sumW (eI (rvL cs n)) n ≤ lim; rw [h4]; exact h2
  | false => show lim < sumW (eI (rvL cs n)) n; rw [h4]; exact h2
theorem share_ok {g : Bool} (h : CuE g cs n n lim) : ShE cs (cu1 cs n lim g) (cu1 (rvL cs n) n lim g) n lim (sumW (eI cs) n) := by
  obtain ⟨hv, hg⟩ := h
  have hn := hv.1.2.2.1
  have hx := hv.2.2.1
  obtain ⟨hrv, hrs⟩ := rev_va hv
  have he : ∀ j, j < n → eI (rvL cs n) j = eI cs (n - 1 - j) := fun j hj => nmL_eI _ hj
  have hback : ∀ j, j < n → n - 1 - (n - 1 - j) = j := fun j hj => by omega
  cases g with
  | true =>
    have hg' : sumW (eI cs) n ≤ lim := hg
    refine ⟨hv.1.1, hv.1.1, nmL_ok _ hn, fun j hj => ⟨(hx j hj).1, Int.le_refl _⟩, fun j hj hl => by omega, fun j k hj hk hl => ?_, fun j k hj hk hl => ?_, fun j hj => ?_⟩
    · show ¬ eI cs j < eI cs k
      omega
    · have := hx j hj
      have := hx k hk
      show df (eI cs j) (eI cs k) ≤ 1
      exact df_le (by omega) (by omega) (by omega) (by omega)
    · show df (eI cs j) (eI (rvL cs n) (n - 1 - j)) ≤ 1
      rw [he _ (by omega), hback j hj]
      have := hx j hj
      exact df_le (by omega) (by omega) (by omega) (by omega)
  | false =>
    have hs : lim < sumW (eI cs) n := hg
    have hs' : lim < sumW (eI (rvL cs n)) n := by rw [hrs]; exact hs
    have eC : ∀ j, j < n → eI (cu1 cs n lim false) j = resF cs n lim j := fun j hj => nmL_eI _ hj
    have eD : ∀ j, j < n → eI (cu1 (rvL cs n) n lim false) j = resF (rvL cs n) n lim j := fun j hj => nmL_eI _ hj
    refine ⟨hv.1.1, nmL_ok _ hn, nmL_ok _ hn, fun j hj => by rw [eC j hj]; exact res_bd hv hs hj, fun j hj _ => near hv hs hj, fun j k hj hk hl => ?_, fun j k hj hk hl => ?_, fun j hj => ?_⟩
    · rw [eC j hj, eC k hk]
      intro hlt
      obtain ⟨a1, a2, a3⟩ := res_part hv hs hj
      obtain ⟨b1, b2, b3'⟩ := res_part hv hs hk
      have hS := sum_bd hv
      have e1 := a1.eq
      have e2 := b1.eq
      have hle : eI cs k * lim ≤ eI cs j * lim := Int.mul_le_mul_of_nonneg_right (by omega) hv.2.2.2.1
      have a4 := a1.m1
      have b4 := b1.m0
      have hqq : qF cs n lim k ≤ qF cs n lim j := by
        refine Int.not_lt.1 fun hq => ?_
        have h1 := Int.mul_le_mul_of_nonneg_left (show qF cs n lim j + 1 ≤ qF cs n lim k by omega) (show 0 ≤ sumW (eI cs) n by omega)
        rw [Int.mul_add, Int.mul_one] at h1
        omega
      rcases a1.c_ with h6 | ⟨h6, h7⟩
      · rcases b1.c_ with h8 | ⟨h8, h9⟩
        · omega
        · have hq2 : qF cs n lim j = qF cs n lim k := by omega
          rw [hq2] at e1
          have hlim : 0 < lim := by
            refine Int.not_le.1 fun hz => ?_
            have hl0 : lim = 0 := by have := hv.2.2.2.1; omega
            have e5 : eI cs k * lim = 0 := by rw [hl0, Int.mul_zero]
            have := Int.mul_nonneg (show 0 ≤ sumW (eI cs) n by omega) b1.q0
            omega
          have hlt2 : eI cs k * lim < eI cs j * lim := Int.mul_lt_mul_of_pos_right hl hlim
          have hm : mF cs n lim k < mF cs n lim j := by omega
          have hb := leC_bd hv hs
          have htk := b3'.1 h8
          have htj := taken_gt (fF_idx cs n lim) (l := (leC cs n lim).toNat) (j := j) (k := k) hj hm (by omega) htk
          have := a3.2 htj
          omega
      · rcases b1.c_ with h8 | ⟨h8, _⟩ <;> omega
    · rw [eC j hj, eC k hk]
      have a1 := (res_part hv hs hj).1
      have b1 := (res_part hv hs hk).1
      have hq : qF cs n lim j = qF cs n lim k := by
        unfold qF
        rw [hl]
      have r1 := res_bd hv hs hj
      have r2 := res_bd hv hs hk
      have x1 := hx j hj
      have x2 := hx k hk
      have := a1.c_
      have := b1.c_
      exact df_le (by omega) (by omega) (by omega) (by omega)
    · rw [eC j hj, eD _ (by omega)]
      have a1 := (res_part hv hs hj).1
      have hj' : n - 1 - j < n := by omega
      have b1 := (res_part hrv hs' hj').1
      have hq : qF (rvL cs n) n lim (n - 1 - j) = qF cs n lim j := by
        unfold qF
        rw [hrs, he _ hj', hback j hj]
      have r1 := res_bd hv hs hj
      have r2 := res_bd hrv hs' hj'
      have x1 := hx j hj
      have x2 := hrv.2.2.1 _ hj'
      have := a1.c_
      have := b1.c_
      exact df_le (by omega) (by omega) (by omega) (by omega)
end
end Go.Proofs.YtafpmehhdcmllaaGreatDoor.Ways
