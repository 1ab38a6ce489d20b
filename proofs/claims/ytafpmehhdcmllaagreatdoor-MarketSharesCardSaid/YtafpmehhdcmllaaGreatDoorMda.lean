
namespace Go.Ex.Srt
/-- a row: its index, its quotient, its remainder -/
abbrev Rw := Int × Int × Int
def bf (x y : Rw) : Prop := y.2.2 < x.2.2 ∨ (x.2.2 = y.2.2 ∧ x.1 < y.1)
theorem bf_trans {x y z : Rw} (h : bf x y) (k : bf y z) : bf x z := by unfold bf at *; omega
theorem bf_irr {x : Rw} (h : bf x x) : False := by unfold bf at h; omega
/-- a row goes into a list that is sorted backwards -/
def insR (y : Rw) : List Rw → List Rw
  | [] => [y]
  | x :: t => if x.2.2 < y.2.2 then x :: insR y t else y :: x :: t
def Sb : List Rw → Prop := List.Pairwise fun x y => bf y x
theorem insR_mem {y z : Rw} : ∀ {l : List Rw}, z ∈ insR y l ↔ z = y ∨ z ∈ l
  | [] => by simp [insR]
  | x :: t => by
    unfold insR
    split
    · rw [List.mem_cons, insR_mem, List.mem_cons]
      constructor
      · rintro (h | h | h)
        · exact .inr (.inl h)
        · exact .inl h
        · exact .inr (.inr h)
      · rintro (h | h | h)
        · exact .inr (.inl h)
        · exact .inl h
        · exact .inr (.inr h)
    · rw [List.mem_cons]
theorem insR_len {y : Rw} : ∀ {l : List Rw}, (insR y l).length = l.length + 1
  | [] => rfl
  | x :: t => by
    unfold insR
    split
    · rw [List.length_cons, insR_len, List.length_cons]
    · rfl
theorem insR_sb {y : Rw} : ∀ {l : List Rw}, Sb l → (∀ x ∈ l, x.1 < y.1) → Sb (insR y l)
  | [], _, _ => by simp [insR, Sb]
  | x :: t, h, hy => by
    have h' := List.pairwise_cons.1 h
    unfold insR
    by_cases hx : x.2.2 < y.2.2
    · rw [if_pos hx]
      refine List.pairwise_cons.2 ⟨fun z hz => ?_, insR_sb h'.2 fun z hz => hy z (List.mem_cons_of_mem _ hz)⟩
      rcases insR_mem.1 hz with rfl | hz
      · exact .inl hx
      · exact h'.1 z hz
    · rw [if_neg hx]
      refine List.pairwise_cons.2 ⟨fun z hz => ?_, h⟩
      have hxy : bf x y := by
        have := hy x (List.mem_cons_self ..)
        unfold bf; omega
      rcases List.mem_cons.1 hz with rfl | hz
      · exact hxy
      · exact bf_trans (h'.1 z hz) hxy
/-- the first rows, sorted backwards -/
def srt (f : Nat → Rw) : Nat → List Rw
  | 0 => []
  | j + 1 => insR (f j) (srt f j)
theorem srt_len {f : Nat → Rw} : ∀ n, (srt f n).length = n
  | 0 => rfl
  | n + 1 => by
    show (insR (f n) (srt f n)).length = n + 1
    rw [insR_len, srt_len]
theorem srt_mem {f : Nat → Rw} : ∀ {n : Nat} {x : Rw}, x ∈ srt f n ↔ ∃ j, j < n ∧ x = f j
  | 0, x => by
    constructor
    · intro h; cases h
    · rintro ⟨j, h, _⟩; omega
  | n + 1, x => by
    show x ∈ insR (f n) (srt f n) ↔ _
    rw [insR_mem, srt_mem]
    constructor
    · rintro (h | ⟨j, h1, h2⟩)
      · exact ⟨n, by omega, h⟩
      · exact ⟨j, by omega, h2⟩
    · rintro ⟨j, h1, h2⟩
      by_cases hj : j = n
      · subst hj; exact .inl h2
      · exact .inr ⟨j, by omega, h2⟩
theorem srt_sb {f : Nat → Rw} (hf : ∀ j, (f j).1 = (j : Int)) : ∀ n, Sb (srt f n)
  | 0 => List.Pairwise.nil
  | n + 1 => insR_sb (srt_sb hf n) fun x hx => by
    obtain ⟨j, h1, rfl⟩ := srt_mem.1 hx
    rw [hf, hf]; omega
/-- the index of the row at a place of the sorted list -/
def ixO (f : Nat → Rw) (n t : Nat) : Nat := ((srt f n).reverse.getD t (0, 0, 0)).1.toNat
theorem at_row {f : Nat → Rw} (hf : ∀ j, (f j).1 = (j : Int)) {n t : Nat} (h : t < n) : (srt f n).reverse[t]? = some (f (ixO f n t)) ∧ ixO f n t < n := by
  have hl : t < (srt f n).reverse.length := by rw [List.length_reverse, srt_len]; exact h
  have hm : (srt f n).reverse[t] ∈ srt f n := List.mem_reverse.1 (List.getElem_mem hl)
  obtain ⟨j, h1, h2⟩ := srt_mem.1 hm
  have hx : ixO f n t = j := by
    unfold ixO
    rw [List.getD_eq_getElem?_getD, List.getElem?_eq_getElem hl, h2]
    show (f j).1.toNat = j
    rw [hf]; rfl
  rw [hx]
  exact ⟨by rw [List.getElem?_eq_getElem hl, h2], h1⟩
theorem ord_row {f : Nat → Rw} (hf : ∀ j, (f j).1 = (j : Int)) {n s t : Nat} (h : s < t) (ht : t < n) : bf (f (ixO f n s)) (f (ixO f n t)) := by
  have hs : (srt f n).reverse.Pairwise fun x y => bf x y := by
    rw [List.pairwise_reverse]; exact srt_sb hf n
  have hl : t < (srt f n).reverse.length := by rw [List.length_reverse, srt_len]; exact ht
  have := List.pairwise_iff_getElem.1 hs s t (by omega) hl h
  have h1 := (at_row hf (show s < n by omega)).1
  have h2 := (at_row hf ht).1
  rw [List.getElem?_eq_getElem (by omega)] at h1
  rw [List.getElem?_eq_getElem hl] at h2
  rw [Option.some.inj h1, Option.some.inj h2] at this
  exact this
theorem all_row {f : Nat → Rw} (hf : ∀ j, (f j).1 = (j : Int)) {n j : Nat} (h : j < n) : ∃ t, t < n ∧ ixO f n t = j := by
  have hm : f j ∈ (srt f n).reverse := List.mem_reverse.2 (srt_mem.2 ⟨j, h, rfl⟩)
  obtain ⟨t, ht, e⟩ := List.getElem_of_mem hm
  have ht' : t < n := by rw [List.length_reverse, srt_len] at ht; exact ht
  refine ⟨t, ht', ?_⟩
  have h1 := (at_row hf ht').1
  rw [List.getElem?_eq_getElem ht] at h1
  have h2 := Option.some.inj h1
  rw [e] at h2
  have h3 := congrArg (fun r : Rw => r.1) h2
  rw [hf, hf] at h3
  omega
/-- those that were taken -/
def exT (ix : Nat → Nat) : Nat → Nat → Bool
  | 0, _ => false
  | t + 1, k => decide (k = ix t) || exT ix t k
theorem exT_iff {ix : Nat → Nat} : ∀ {t k : Nat}, exT ix t k = true ↔ ∃ s, s < t ∧ ix s = k
  | 0, k => by
    constructor
    · intro h; cases h
    · rintro ⟨s, h, _⟩; omega
  | t + 1, k => by
    show (decide (k = ix t) || exT ix t k) = true ↔ _
    rw [Bool.or_eq_true, decide_eq_true_eq, exT_iff]
    constructor
    · rintro (h | ⟨s, h1, h2⟩)
      · exact ⟨t, by omega, h.symm⟩
      · exact ⟨s, by omega, h2⟩
    · rintro ⟨s, h1, h2⟩
      by_cases hs : s = t
      · subst hs; exact .inl h2.symm
      · exact .inr ⟨s, by omega, h2⟩
/-- the best of the first ones that is not taken yet, or -1 -/
def bst (m : Nat → Int) (ex : Nat → Bool) : Nat → Int
  | 0 => -1
  | j + 1 => if ex j = false ∧ (bst m ex j < 0 ∨ m (bst m ex j).toNat < m j) then (j : Int) else bst m ex j
theorem bst_spec (m : Nat → Int) (ex : Nat → Bool) : ∀ n, (bst m ex n = -1 ∧ ∀ k, k < n → ex k = true) ∨ ∃ b : Nat, bst m ex n = (b : Int) ∧ b < n ∧ ex b = false ∧ ∀ k, k < n → ex k = false → k = b ∨ m k < m b ∨ (m b = m k ∧ b < k)
  | 0 => .inl ⟨rfl, fun k h => by omega⟩
  | n + 1 => by
    rcases bst_spec m ex n with ⟨h1, h2⟩ | ⟨b, h1, h2, h3, h4⟩
    · cases he : ex n with
      | true =>
        refine .inl ⟨?_, fun k hk => ?_⟩
        · show (if _ then _ else _) = _
          rw [if_neg (by rw [he]; simp), h1]
        · by_cases hkn : k = n
          · subst hkn; exact he
          · exact h2 k (by omega)
      | false =>
        refine .inr ⟨n, ?_, by omega, he, fun k hk hke => ?_⟩
        · show (if _ then _ else _) = _
          rw [if_pos ⟨he, .inl (by rw [h1]; decide)⟩]
        · by_cases hkn : k = n
          · exact .inl hkn
          · rw [h2 k (by omega)] at hke; cases hke
    · by_cases hc : ex n = false ∧ m b < m n
      · refine .inr ⟨n, ?_, by omega, hc.1, fun k hk hke => ?_⟩
        · show (if _ then _ else _) = _
          rw [if_pos ⟨hc.1, .inr (by rw [h1]; exact hc.2)⟩]
        · by_cases hkn : k = n
          · exact .inl hkn
          · have hcc := hc.2
            rcases h4 k (by omega) hke with rfl | h | h <;> omega
      · refine .inr ⟨b, ?_, by omega, h3, fun k hk hke => ?_⟩
        · show (if _ then _ else _) = _
          rw [if_neg (by
            rintro ⟨g1, g2 | g2⟩
            · rw [h1] at g2; omega
            · rw [h1] at g2; exact hc ⟨g1, g2⟩), h1]
        · by_cases hkn : k = n
          · subst hkn
            have : ¬ m b < m k := fun h => hc ⟨hke, h⟩
            omega
          · exact h4 k (by omega) hke
theorem bst_ix {f : Nat → Rw} (hf : ∀ j, (f j).1 = (j : Int)) {n t : Nat} (h : t < n) : bst (fun k => (f k).2.2) (exT (ixO f n) t) n = (ixO f n t : Int) := by
  have hb := (at_row hf h).2
  have hx : exT (ixO f n) t (ixO f n t) = false := by
    rw [Bool.eq_false_iff]
    intro he
    obtain ⟨s, h1, h2⟩ := exT_iff.1 he
    have := ord_row hf h1 h
    rw [h2] at this
    exact bf_irr this
  rcases bst_spec (fun k => (f k).2.2) (exT (ixO f n) t) n with ⟨_, h2⟩ | ⟨b, h1, h2, h3, h4⟩
  · rw [h2 _ hb] at hx; cases hx
  · rw [h1]
    obtain ⟨s, hs, rfl⟩ := all_row hf h2
    by_cases hst : s = t
    · rw [hst]
    · have hts : t < s := by
        rcases Nat.lt_or_ge s t with hh | hh
        · rw [exT_iff.2 ⟨s, hh, rfl⟩] at h3; cases h3
        · omega
      have hlt := ord_row hf hts hs
      unfold bf at hlt
      rw [hf, hf] at hlt
      rcases h4 _ hb hx with h | h | h
      · rw [h]
      · omega
      · omega

def psm (e : Nat → Int) : Nat → Int
  | 0 => 0
  | j + 1 => psm e j + e j
theorem psm_bd {e : Nat → Int} {B : Int} : ∀ {n : Nat}, (∀ j, j < n → 0 ≤ e j ∧ e j ≤ B) → 0 ≤ psm e n ∧ psm e n ≤ (n : Int) * B
  | 0, _ => by simp [psm]
  | n + 1, h => by
    have h1 := psm_bd (n := n) fun j hj => h j (by omega)
    have h2 := h n (by omega)
    show 0 ≤ psm e n + e n ∧ psm e n + e n ≤ ((n + 1 : Nat) : Int) * B
    have : ((n + 1 : Nat) : Int) * B = (n : Int) * B + B := by
      rw [Int.natCast_succ, Int.add_mul, Int.one_mul]
    omega
theorem psm_le {e : Nat → Int} {n : Nat} (h : ∀ j, j < n → 0 ≤ e j) : ∀ {j : Nat}, j ≤ n → 0 ≤ psm e j ∧ psm e j ≤ psm e n := by
  have key : ∀ d j, j + d = n → psm e j ≤ psm e n := by
    intro d
    induction d with
    | zero => intro j hj; rw [show j = n from by omega]; exact Int.le_refl _
    | succ d ih =>
      intro j hj
      have h1 := ih (j + 1) (by omega)
      have h2 := h j (by omega)
      have h3 : psm e (j + 1) = psm e j + e j := rfl
      omega
  have key2 : ∀ j, j ≤ n → 0 ≤ psm e j := by
    intro j
    induction j with
    | zero => intro _; exact Int.le_refl _
    | succ j ih =>
      intro hj
      have h1 := ih (by omega)
      have h2 := h j (by omega)
      have h3 : psm e (j + 1) = psm e j + e j := rfl
      omega
  intro j hj
  exact ⟨key2 j hj, key (n - j) j (by omega)⟩
/-- what is left of a limit behind the first parts -/
def lft (e : Nat → Int) (S lim : Int) : Nat → Int
  | 0 => lim
  | j + 1 => lft e S lim j - e j * lim / S
theorem lft_eq {e : Nat → Int} {S lim : Int} (hS : 0 < S) (hl : 0 ≤ lim) : ∀ {n : Nat}, (∀ j, j < n → 0 ≤ e j) → ∃ R : Int, S * (lim - lft e S lim n) + R = lim * psm e n ∧ 0 ≤ R ∧ R ≤ (n : Int) * (S - 1)
  | 0, _ => ⟨0, by simp [lft, psm]⟩
  | n + 1, h => by
    obtain ⟨R, h1, h2, h3⟩ := lft_eq hS hl (n := n) fun j hj => h j (by omega)
    have m1 := Int.emod_nonneg (e n * lim) (show S ≠ 0 by omega)
    have m2 := Int.emod_lt_of_pos (e n * lim) hS
    have m3 := Int.mul_ediv_add_emod (e n * lim) S
    refine ⟨R + e n * lim % S, ?_, by omega, ?_⟩
    · show S * (lim - (lft e S lim n - e n * lim / S)) + (R + e n * lim % S) = lim * (psm e n + e n)
      have e1 : S * (lim - (lft e S lim n - e n * lim / S)) = S * (lim - lft e S lim n) + S * (e n * lim / S) := by rw [← Int.mul_add]; congr 1; omega
      have e2 : lim * (psm e n + e n) = lim * psm e n + e n * lim := by rw [Int.mul_add, Int.mul_comm lim (e n)]
      omega
    · have : ((n + 1 : Nat) : Int) * (S - 1) = (n : Int) * (S - 1) + (S - 1) := by rw [Int.natCast_succ, Int.add_mul, Int.one_mul]
      omega
theorem lft_bd {e : Nat → Int} {lim : Int} {n : Nat} (hl : 0 ≤ lim) (hS : lim < psm e n) (he : ∀ j, j < n → 0 ≤ e j) : 0 ≤ lft e (psm e n) lim n ∧ lft e (psm e n) lim n < n := by
  have hS0 : 0 < psm e n := by omega
  obtain ⟨R, h1, h2, h3⟩ := lft_eq hS0 hl he
  generalize lft e (psm e n) lim n = L at *
  generalize hSS : psm e n = S at *
  have e1 : S * (lim - L) = lim * S - S * L := by rw [Int.mul_sub, Int.mul_comm S lim]
  have e2 : S * L = R := by omega
  have e3 : (n : Int) * (S - 1) = (n : Int) * S - n := by rw [Int.mul_sub, Int.mul_one]
  constructor
  · refine Int.not_lt.1 fun hL => ?_
    have := Int.mul_neg_of_pos_of_neg hS0 hL
    omega
  · refine Int.not_le.1 fun hL => ?_
    have h4 := Int.mul_le_mul_of_nonneg_left hL (show 0 ≤ S by omega)
    rw [Int.mul_comm S (n : Int)] at h4
    have : 0 < n := by
      rcases Nat.eq_zero_or_pos n with rfl | h
      · rw [show psm e 0 = 0 from rfl] at hSS; omega
      · exact h
    omega
/-- the parts of all that are in [0, lim] -/
theorem qt_bd {e S lim : Int} (hS : lim < S) (hl : 0 ≤ lim) (he : 0 ≤ e) : 0 ≤ e * lim / S ∧ e * lim / S ≤ e := by
  have hm : 0 ≤ e * lim := Int.mul_nonneg he hl
  constructor
  · exact Int.ediv_nonneg hm (by omega)
  · refine Int.ediv_le_of_le_mul (by omega) ?_
    exact Int.mul_le_mul_of_nonneg_left (by omega) he
theorem lft_mono {e : Nat → Int} {S lim : Int} (hS : lim < S) (hl : 0 ≤ lim) : ∀ {n : Nat}, (∀ j, j < n → 0 ≤ e j) → lft e S lim n ≤ lim ∧ lim - psm e n ≤ lft e S lim n
  | 0, _ => by simp [lft, psm]
  | n + 1, h => by
    have h1 := lft_mono hS hl (n := n) fun j hj => h j (by omega)
    have h2 := qt_bd hS hl (h n (by omega))
    show lft e S lim n - e n * lim / S ≤ lim ∧ lim - (psm e n + e n) ≤ lft e S lim n - e n * lim / S
    omega
end Go.Ex.Srt
