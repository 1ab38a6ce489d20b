import Derived.Test.YtphadgdlknhbnaaYc1
import Derived.Test.YtphadgdlknhbnaaYc3
import Derived.Test.YtphadgdlknhbnaaLc5
set_option maxRecDepth 10000
noncomputable section
namespace Go.Proofs.Ytphadgdlknhbnaa.Ways
open Go Go.Ex Go.RowKit Go.Turn
section
variable (cs ds : List Value) (n m : Nat) (x y : Int) (t s t2 s2 : Nat) (ex e2 : Bool)
def wayOk : Bool → Bool → Bool → Bool → Bool → Bool → Bool → Bool → Bool
  | false, false, true, true, false, false, true, true => true
  | false, false, true, true, false, false, true, false => true
  | false, false, true, true, false, false, false, false => true
  | false, false, true, true, false, true, true, true => true
  | false, false, true, true, false, true, true, false => true
  | false, false, true, true, false, true, false, false => true
  | false, false, true, true, true, false, true, true => true
  | false, false, true, true, true, false, true, false => true
  | false, false, true, true, true, false, false, false => true
  | false, false, true, true, true, true, true, true => true
  | false, false, true, true, true, true, true, false => true
  | false, false, true, true, true, true, false, false => true
  | false, false, true, false, false, false, true, true => true
  | false, false, true, false, false, false, true, false => true
  | false, false, true, false, false, false, false, false => true
  | false, false, true, false, false, true, true, true => true
  | false, false, true, false, false, true, true, false => true
  | false, false, true, false, false, true, false, false => true
  | false, false, false, false, false, false, false, false => true
  | false, true, true, true, false, false, true, true => true
  | false, true, true, true, false, false, true, false => true
  | false, true, true, true, false, false, false, false => true
  | false, true, true, true, false, true, true, true => true
  | false, true, true, true, false, true, true, false => true
  | false, true, true, true, false, true, false, false => true
  | false, true, true, true, true, false, true, true => true
  | false, true, true, true, true, false, true, false => true
  | false, true, true, true, true, false, false, false => true
  | false, true, true, true, true, true, true, true => true
  | false, true, true, true, true, true, true, false => true
  | false, true, true, true, true, true, false, false => true
  | false, true, true, false, false, false, true, true => true
  | false, true, true, false, false, false, true, false => true
  | false, true, true, false, false, false, false, false => true
  | false, true, true, false, false, true, true, true => true
  | false, true, true, false, false, true, true, false => true
  | false, true, true, false, false, true, false, false => true
  | false, true, false, false, false, false, false, false => true
  | true, false, true, false, false, false, true, false => true
  | true, false, true, false, false, true, true, false => true
  | true, false, true, true, false, false, true, false => true
  | true, false, true, true, false, true, true, false => true
  | true, true, true, false, false, false, true, false => true
  | true, true, true, false, false, true, true, false => true
  | true, true, true, true, false, false, true, false => true
  | true, true, true, true, false, true, true, false => true
  | _, _, _, _, _, _, _, _ => false
theorem run5 : ∀ A B h g1 z1 g2 g3 f3, wayOk A B h g1 z1 g2 g3 f3 = true → (o5 A B h g1 z1 g2 g3 f3 cs ds n m x y t s t2 s2 ex e2).vals = lawF A B h g1 z1 g2 g3 f3 cs ds n m x y ∧ o5 A B h g1 z1 g2 g3 f3 cs ds n m x y t s t2 s2 ex e2 = (o5 A B h g1 z1 g2 g3 f3 cs ds n m x y t s t2 s2 ex e2).fix := by
  intro A B h g1 z1 g2 g3 f3 hw
  unfold wayOk at hw
  split at hw
  · exact ⟨w5_00110011 cs ds n m x y t s t2 s2 ex e2, x5_00110011 cs ds n m x y t s t2 s2 ex e2⟩
  · exact ⟨w5_00110010 cs ds n m x y t s t2 s2 ex e2, x5_00110010 cs ds n m x y t s t2 s2 ex e2⟩
  · exact ⟨w5_00110000 cs ds n m x y t s t2 s2 ex e2, x5_00110000 cs ds n m x y t s t2 s2 ex e2⟩
  · exact ⟨w5_00110111 cs ds n m x y t s t2 s2 ex e2, x5_00110111 cs ds n m x y t s t2 s2 ex e2⟩
  · exact ⟨w5_00110110 cs ds n m x y t s t2 s2 ex e2, x5_00110110 cs ds n m x y t s t2 s2 ex e2⟩
  · exact ⟨w5_00110100 cs ds n m x y t s t2 s2 ex e2, x5_00110100 cs ds n m x y t s t2 s2 ex e2⟩
  · exact ⟨w5_00111011 cs ds n m x y t s t2 s2 ex e2, x5_00111011 cs ds n m x y t s t2 s2 ex e2⟩
  · exact ⟨w5_00111010 cs ds n m x y t s t2 s2 ex e2, x5_00111010 cs ds n m x y t s t2 s2 ex e2⟩
  · exact ⟨w5_00111000 cs ds n m x y t s t2 s2 ex e2, x5_00111000 cs ds n m x y t s t2 s2 ex e2⟩
  · exact ⟨w5_00111111 cs ds n m x y t s t2 s2 ex e2, x5_00111111 cs ds n m x y t s t2 s2 ex e2⟩
  · exact ⟨w5_00111110 cs ds n m x y t s t2 s2 ex e2, x5_00111110 cs ds n m x y t s t2 s2 ex e2⟩
  · exact ⟨w5_00111100 cs ds n m x y t s t2 s2 ex e2, x5_00111100 cs ds n m x y t s t2 s2 ex e2⟩
  · exact ⟨w5_00100011 cs ds n m x y t s t2 s2 ex e2, x5_00100011 cs ds n m x y t s t2 s2 ex e2⟩
  · exact ⟨w5_00100010 cs ds n m x y t s t2 s2 ex e2, x5_00100010 cs ds n m x y t s t2 s2 ex e2⟩
  · exact ⟨w5_00100000 cs ds n m x y t s t2 s2 ex e2, x5_00100000 cs ds n m x y t s t2 s2 ex e2⟩
  · exact ⟨w5_00100111 cs ds n m x y t s t2 s2 ex e2, x5_00100111 cs ds n m x y t s t2 s2 ex e2⟩
  · exact ⟨w5_00100110 cs ds n m x y t s t2 s2 ex e2, x5_00100110 cs ds n m x y t s t2 s2 ex e2⟩
  · exact ⟨w5_00100100 cs ds n m x y t s t2 s2 ex e2, x5_00100100 cs ds n m x y t s t2 s2 ex e2⟩
  · exact ⟨w5_00000000 cs ds n m x y t s t2 s2 ex e2, x5_00000000 cs ds n m x y t s t2 s2 ex e2⟩
  · exact ⟨w5_01110011 cs ds n m x y t s t2 s2 ex e2, x5_01110011 cs ds n m x y t s t2 s2 ex e2⟩
  · exact ⟨w5_01110010 cs ds n m x y t s t2 s2 ex e2, x5_01110010 cs ds n m x y t s t2 s2 ex e2⟩
  · exact ⟨w5_01110000 cs ds n m x y t s t2 s2 ex e2, x5_01110000 cs ds n m x y t s t2 s2 ex e2⟩
  · exact ⟨w5_01110111 cs ds n m x y t s t2 s2 ex e2, x5_01110111 cs ds n m x y t s t2 s2 ex e2⟩
  · exact ⟨w5_01110110 cs ds n m x y t s t2 s2 ex e2, x5_01110110 cs ds n m x y t s t2 s2 ex e2⟩
  · exact ⟨w5_01110100 cs ds n m x y t s t2 s2 ex e2, x5_01110100 cs ds n m x y t s t2 s2 ex e2⟩
  · exact ⟨w5_01111011 cs ds n m x y t s t2 s2 ex e2, x5_01111011 cs ds n m x y t s t2 s2 ex e2⟩
  · exact ⟨w5_01111010 cs ds n m x y t s t2 s2 ex e2, x5_01111010 cs ds n m x y t s t2 s2 ex e2⟩
  · exact ⟨w5_01111000 cs ds n m x y t s t2 s2 ex e2, x5_01111000 cs ds n m x y t s t2 s2 ex e2⟩
  · exact ⟨w5_01111111 cs ds n m x y t s t2 s2 ex e2, x5_01111111 cs ds n m x y t s t2 s2 ex e2⟩
  · exact ⟨w5_01111110 cs ds n m x y t s t2 s2 ex e2, x5_01111110 cs ds n m x y t s t2 s2 ex e2⟩
  · exact ⟨w5_01111100 cs ds n m x y t s t2 s2 ex e2, x5_01111100 cs ds n m x y t s t2 s2 ex e2⟩
  · exact ⟨w5_01100011 cs ds n m x y t s t2 s2 ex e2, x5_01100011 cs ds n m x y t s t2 s2 ex e2⟩
  · exact ⟨w5_01100010 cs ds n m x y t s t2 s2 ex e2, x5_01100010 cs ds n m x y t s t2 s2 ex e2⟩
  · exact ⟨w5_01100000 cs ds n m x y t s t2 s2 ex e2, x5_01100000 cs ds n m x y t s t2 s2 ex e2⟩
  · exact ⟨w5_01100111 cs ds n m x y t s t2 s2 ex e2, x5_01100111 cs ds n m x y t s t2 s2 ex e2⟩
  · exact ⟨w5_01100110 cs ds n m x y t s t2 s2 ex e2, x5_01100110 cs ds n m x y t s t2 s2 ex e2⟩
  · exact ⟨w5_01100100 cs ds n m x y t s t2 s2 ex e2, x5_01100100 cs ds n m x y t s t2 s2 ex e2⟩
  · exact ⟨w5_01000000 cs ds n m x y t s t2 s2 ex e2, x5_01000000 cs ds n m x y t s t2 s2 ex e2⟩
  · exact ⟨w5_10100010 cs ds n m x y t s t2 s2 ex e2, x5_10100010 cs ds n m x y t s t2 s2 ex e2⟩
  · exact ⟨w5_10100110 cs ds n m x y t s t2 s2 ex e2, x5_10100110 cs ds n m x y t s t2 s2 ex e2⟩
  · exact ⟨w5_10110010 cs ds n m x y t s t2 s2 ex e2, x5_10110010 cs ds n m x y t s t2 s2 ex e2⟩
  · exact ⟨w5_10110110 cs ds n m x y t s t2 s2 ex e2, x5_10110110 cs ds n m x y t s t2 s2 ex e2⟩
  · exact ⟨w5_11100010 cs ds n m x y t s t2 s2 ex e2, x5_11100010 cs ds n m x y t s t2 s2 ex e2⟩
  · exact ⟨w5_11100110 cs ds n m x y t s t2 s2 ex e2, x5_11100110 cs ds n m x y t s t2 s2 ex e2⟩
  · exact ⟨w5_11110010 cs ds n m x y t s t2 s2 ex e2, x5_11110010 cs ds n m x y t s t2 s2 ex e2⟩
  · exact ⟨w5_11110110 cs ds n m x y t s t2 s2 ex e2, x5_11110110 cs ds n m x y t s t2 s2 ex e2⟩
  · cases hw
end
end Go.Proofs.Ytphadgdlknhbnaa.Ways
set_option maxRecDepth 10000
noncomputable section
namespace Go.Proofs.Ytphadgdlknhbnaa.Ways
open Go Go.Ex Go.RowKit Go.Turn
theorem raw_row {cs : List Value} {n : Nat} (h : rawP cs n) (hn : n < 1000000) : RowE cs n := by
  refine ⟨pts cs n, ?_, pts_len _ _, hn⟩
  exact (cells_pts (c := n) ⟨h.1, Nat.le_refl n, by omega, h.2.2⟩ h.2.1).symm
theorem ckE_two (x : Int) : ckE x = 0 ∨ ckE x = 3 := by unfold ckE rgE; split <;> simp
theorem pairT_sel {L : List Pt} {K : VT} (h1 : 1 ≤ L.length) (h : L.length < 1000000) : (pairT L K).sel = K.sel := by
  have hok := okP_flat h
  have hp : flatP (pts (flatP L) L.length) = flatP L := by rw [pts_flat L _ (Nat.le_refl _), List.take_length]
  unfold pairT
  rw [aP ⟨hok, h1, h⟩, hp, aP ⟨okX_P hok, okX_P hok⟩, vb_t (sameE_self (eqP_self _))]
theorem cycP_sel {C : List Cy} (h1 : C ≠ []) (h : C.length < 1000000) : (cycP C).sel = some (b_ true) := by
  have hok := okF_flat C h
  have hl : 1 ≤ C.length := by
    cases C with
    | nil => exact absurd rfl h1
    | cons _ _ => simp
  unfold cycP
  rw [aP ⟨hok, hl, h, flatC_len C⟩, aP ⟨okX_F hok, okX_F hok⟩, sameE_self (eqF4_self _)]; rfl
structure WayF (A B h g1 z1 g2 g3 f3 : Bool) (cs ds : List Value) (n m : Nat) (x y : Int) : Prop where
  ca : rawP cs (nz A n)
  cb : rawP ds (nz B m)
  la : nz A n ≤ 16
  lb : nz B m ≤ 16
  wh : h = true ↔ crE cs (nz A n) = 0
  wg1 : g1 = true ↔ h = true ∧ ckE x = 0
  wz1 : A = false → g1 = true → zq z1 (FL x (pts cs (n + 1)))
  wg2 : g2 = true ↔ v5 A B cs ds n m y = 0
  wg3 : A = false → (g3 = true ↔ h = true ∧ e29 cs n = 0)
  wf3 : A = false → g3 = true → fq f3 (CJ cs n (dJ cs n))
section
variable {A B h g1 z1 g2 g3 f3 : Bool} {cs ds : List Value} {n m : Nat} {x y : Int}
theorem WayF.rowA (w : WayF A B h g1 z1 g2 g3 f3 cs ds n m x y) (hA : A = false) : RowE cs (n + 1) ∧ n + 1 ≤ 16 := by
  subst hA
  have hl : n + 1 ≤ 16 := w.la
  exact ⟨raw_row w.ca (show n + 1 < 1000000 by omega), hl⟩
theorem WayF.rowB (w : WayF A B h g1 z1 g2 g3 f3 cs ds n m x y) (hB : B = false) : RowE ds (m + 1) ∧ m + 1 ≤ 16 := by
  subst hB
  have hl : m + 1 ≤ 16 := w.lb
  exact ⟨raw_row w.cb (show m + 1 < 1000000 by omega), hl⟩
theorem WayF.own (w : WayF A B h g1 z1 g2 g3 f3 cs ds n m x y) {K : VT} : (ownT A cs (nz A n) K).sel = K.sel :=
  own_sel w.ca (by have := w.la; omega) (by cases A <;> simp [nz])
theorem WayF.ownB (w : WayF A B h g1 z1 g2 g3 f3 cs ds n m x y) {K : VT} : (ownT B ds (nz B m) K).sel = K.sel :=
  own_sel w.cb (by have := w.lb; omega) (by cases B <;> simp [nz])
theorem WayF.hA (w : WayF A B h g1 z1 g2 g3 f3 cs ds n m x y) (hA : A = true) : h = true := by
  subst hA
  exact w.wh.2 rfl
theorem e27_h {cs : List Value} {n : Nat} {x : Int} (hc : crE cs (n + 1) = 0) : e27 cs n x = ckE x := by
  unfold e27
  rw [hc, fst2_eq]
  by_cases hx : ckE x = 0 <;> simp [hx]
theorem WayF.eA (w : WayF A B h g1 z1 g2 g3 f3 cs ds n m x y) (hA : A = false) : eq3 h g1 3 (e27 cs n x) := by
  subst hA
  have hh : h = true ↔ crE cs (n + 1) = 0 := w.wh
  unfold eq3
  cases hb : h with
  | true =>
    rw [e27_h (hh.1 hb)]
    cases hg : g1 with
    | true => exact (w.wg1.1 hg).2
    | false =>
      rcases ckE_two x with h0 | h3
      · exact absurd (w.wg1.2 ⟨hb, h0⟩) (by rw [hg]; decide)
      · exact h3
  | false =>
    have hc : crE cs (n + 1) ≠ 0 := fun hc => by rw [hh.2 hc] at hb; cases hb
    have hg : g1 = false := by
      cases hg : g1 with
      | false => rfl
      | true => have := (w.wg1.1 hg).1; rw [hb] at this; cases this
    subst hg
    show e27 cs n x ≠ 0
    unfold e27
    rw [fst2_eq, if_pos hc]
    exact hc
theorem WayF.e29 (w : WayF A B h g1 z1 g2 g3 f3 cs ds n m x y) (hA : A = false) : eq3 h g3 3 (e29 cs n) ∧ (h = true → if g3 = true then Ways.e29 cs n = 0 else Ways.e29 cs n = 3) := by
  obtain ⟨hr, hl⟩ := w.rowA hA
  have hg3 := w.wg3 hA
  have hh := w.wh
  subst hA
  have hh : h = true ↔ crE cs (n + 1) = 0 := hh
  unfold eq3
  cases hb : h with
  | true =>
    have he := e29_eq hr (hh.1 hb)
    have h2 : e35 cs n = 0 ∨ e35 cs n = 3 := by unfold e35; split <;> simp
    cases hg : g3 with
    | true => exact ⟨(hg3.1 hg).2, fun _ => (hg3.1 hg).2⟩
    | false =>
      have h3 : Ways.e29 cs n = 3 := by
        rw [he]
        rcases h2 with h0 | h3
        · exact absurd (hg3.2 ⟨hb, by rw [he]; exact h0⟩) (by rw [hg]; decide)
        · exact h3
      exact ⟨h3, fun _ => h3⟩
  | false =>
    have hc : crE cs (n + 1) ≠ 0 := fun hc => by rw [hh.2 hc] at hb; cases hb
    have hg : g3 = false := by
      cases hg : g3 with
      | false => rfl
      | true => have := (hg3.1 hg).1; rw [hb] at this; cases this
    subst hg
    refine ⟨?_, fun h => by cases h⟩
    show Ways.e29 cs n ≠ 0
    unfold Ways.e29
    rw [if_pos hc]
    exact hc
theorem gq_of {g : Bool} {v : Int} (hg : g = true ↔ v = 0) : gq g v := by
  unfold gq
  cases hb : g with
  | true => exact hg.1 hb
  | false => exact fun h => by rw [hg.2 h] at hb; cases hb
theorem WayF.p27 (w : WayF A B h g1 z1 g2 g3 f3 cs ds n m x y) : P27_ A h g1 z1 cs n x := by
  unfold P27_
  cases hA : A with
  | true =>
    show eq3 true g1 3 (ckE x)
    have hh := w.hA hA
    unfold eq3
    cases hg : g1 with
    | true => exact (w.wg1.1 hg).2
    | false =>
      rcases ckE_two x with h0 | h3
      · exact absurd (w.wg1.2 ⟨hh, h0⟩) (by rw [hg]; decide)
      · exact h3
  | false =>
    obtain ⟨hr, hl⟩ := w.rowA hA
    exact ⟨rfl, hr, by omega, w.eA hA, w.wz1 hA⟩
theorem WayF.p28 (w : WayF A B h g1 z1 g2 g3 f3 cs ds n m x y) : P28_ A B g2 cs ds n m y ∧ P32_ A B g2 cs ds n m y ∧ P34_ A B cs ds n m := by
  have hg := gq_of w.wg2
  unfold P28_ P32_ P34_
  unfold v5 at hg
  cases hA : A with
  | true =>
    have ca : cs.all Ex.flat = true := w.ca.1
    cases hB : B with
    | true =>
      rw [hA, hB] at hg
      exact ⟨hg, ⟨ca, w.cb.1, hg⟩, ca, w.cb.1⟩
    | false =>
      rw [hA, hB] at hg
      obtain ⟨hr, hl⟩ := w.rowB hB
      exact ⟨⟨rfl, hr, by omega, hg⟩, ⟨rfl, ca, hr, hg⟩, rfl, ca, hr, by omega⟩
  | false =>
    obtain ⟨hrA, hlA⟩ := w.rowA hA
    cases hB : B with
    | true =>
      rw [hA, hB] at hg
      exact ⟨⟨rfl, hrA, by omega, hg⟩, ⟨rfl, w.cb.1, hrA, hg⟩, rfl, w.cb.1, hrA, by omega⟩
    | false =>
      rw [hA, hB] at hg
      obtain ⟨hr, hl⟩ := w.rowB hB
      exact ⟨⟨⟨rfl, rfl⟩, hrA, hr, by omega, hg⟩, ⟨⟨rfl, rfl⟩, hrA, hr, hg⟩, ⟨rfl, rfl⟩, hrA, hr, by omega⟩
theorem WayF.p29 (w : WayF A B h g1 z1 g2 g3 f3 cs ds n m x y) (hA : A = false) : P29_ h g3 f3 cs n := by
  obtain ⟨hr, hl⟩ := w.rowA hA
  refine ⟨rfl, hr, by omega, ?_, (w.e29 hA).1, w.wf3 hA⟩
  have hh := w.wh
  subst hA
  have hh : h = true ↔ crE cs (n + 1) = 0 := hh
  cases hb : h with
  | true => exact hh.1 hb
  | false => exact fun hc => by rw [hh.2 hc] at hb; cases hb
theorem WayF.p20 (w : WayF A B h g1 z1 g2 g3 f3 cs ds n m x y) : P20_ A h cs n := by
  have hok : BokE cs (nz A n) (nz A n) := ⟨okP_raw w.ca (by have := w.la; omega), by have := w.la; omega⟩
  unfold P20_
  cases hb : h with
  | true => exact ⟨hok, w.wh.1 hb⟩
  | false => exact ⟨hok, fun hc => by rw [w.wh.2 hc] at hb; cases hb⟩
theorem WayF.p31 (w : WayF A B h g1 z1 g2 g3 f3 cs ds n m x y) : P31_ h g1 x := by
  unfold P31_
  cases hb : h with
  | true =>
    cases hg : g1 with
    | true => exact (w.wg1.1 hg).2
    | false =>
      rcases ckE_two x with h0 | h3
      · exact absurd (w.wg1.2 ⟨hb, h0⟩) (by rw [hg]; decide)
      · exact h3
  | false => trivial
theorem WayF.p33 (w : WayF A B h g1 z1 g2 g3 f3 cs ds n m x y) (hg : g1 = true) : P33_ A z1 cs n x := by
  unfold P33_
  cases hA : A with
  | true => exact w.ca.1
  | false =>
    obtain ⟨hr, hl⟩ := w.rowA hA
    exact ⟨rfl, hr, by omega, w.wz1 hA hg⟩
theorem WayF.p35 (w : WayF A B h g1 z1 g2 g3 f3 cs ds n m x y) (hb : h = true) : P35_ A g3 f3 cs n := by
  unfold P35_
  cases hA : A with
  | true => exact w.ca.1
  | false =>
    obtain ⟨hr, hl⟩ := w.rowA hA
    have hh := w.wh
    have h9 := (w.e29 hA).2 hb
    have hf := w.wf3 hA
    subst hA
    exact ⟨rfl, hr, by omega, hh.1 hb, h9, hf⟩
theorem WayF.end_ (w : WayF A B h g1 z1 g2 g3 f3 cs ds n m x y) {v : Int} {K : VT} : (endF h v K).sel = K.sel := by
  unfold endF
  cases h with
  | true => rfl
  | false => exact vb_t (by rw [eqF_d]; exact decide_eq_true rfl)
theorem WayF.last (w : WayF A B h g1 z1 g2 g3 f3 cs ds n m x y) : (lastF A g3 f3 cs n).sel = some (b_ true) := by
  unfold lastF
  cases hA : A with
  | true => exact aPT
  | false =>
    obtain ⟨hr, hl⟩ := w.rowA hA
    cases hg : g3 with
    | false => exact aPT
    | true =>
      cases hf : f3 with
      | false => exact aPT
      | true =>
        have hC : CJ cs n (dJ cs n) ≠ [] := by have := w.wf3 hA hg; rw [hf] at this; exact this
        refine cycP_sel hC ?_
        have hX : (JE cs cs n n (dJ cs n)).length = n + n + 2 := by unfold JE; rw [List.length_append, List.length_map, pts_len]; omega
        have h2 := (RV_len (cs := flatP (JE cs cs n n (dJ cs n))) (n := (JE cs cs n n (dJ cs n)).length) (by omega)).2
        have h3 := cnt_len (flatP (XJ cs n (dJ cs n))) (XJ cs n (dJ cs n)).length
        have h4 : (XJ cs n (dJ cs n)).length ≤ n + n + 2 := by rw [← hX]; exact h2
        unfold CJ
        omega
theorem WayF.x5 (w : WayF A B h g1 z1 g2 g3 f3 cs ds n m x y) : (X5 A B cs ds n m y).length < 900000 ∧ ((A && B) = false → 1 ≤ (X5 A B cs ds n m y).length) := by
  unfold X5
  cases hA : A with
  | true =>
    cases hB : B with
    | true => exact ⟨show ([] : List Pt).length < 900000 by decide, fun h => by cases h⟩
    | false =>
      obtain ⟨_, hl⟩ := w.rowB hB
      have e : ((pts ds (m + 1)).map (shP y)).length = m + 1 := by rw [List.length_map, pts_len]
      exact ⟨by show ((pts ds (m + 1)).map (shP y)).length < _; omega, fun _ => by show 1 ≤ ((pts ds (m + 1)).map (shP y)).length; omega⟩
  | false =>
    obtain ⟨_, hlA⟩ := w.rowA hA
    cases hB : B with
    | true => exact ⟨by show (pts cs (n + 1)).length < _; rw [pts_len]; omega, fun _ => by show 1 ≤ (pts cs (n + 1)).length; rw [pts_len]; omega⟩
    | false =>
      obtain ⟨_, hl⟩ := w.rowB hB
      have e : (JE cs ds n m y).length = n + m + 2 := by unfold JE; rw [List.length_append, List.length_map, pts_len, pts_len]; omega
      exact ⟨by show (JE cs ds n m y).length < _; omega, fun _ => by show 1 ≤ (JE cs ds n m y).length; omega⟩
theorem WayF.mid (w : WayF A B h g1 z1 g2 g3 f3 cs ds n m x y) : (midF A B h g2 g3 f3 cs ds n m y).sel = some (b_ true) := by
  unfold midF
  have hlast : (endF h (w20 A h cs n) (lastF A g3 f3 cs n)).sel = some (b_ true) := by rw [w.end_]; exact w.last
  cases g2 with
  | true =>
    obtain ⟨x1, x2⟩ := w.x5
    cases hAB : (A && B) with
    | true => exact aPT.trans hlast
    | false =>
      obtain ⟨r1, r2⟩ := RV_len (cs := flatP (X5 A B cs ds n m y)) (n := (X5 A B cs ds n m y).length) (x2 hAB)
      exact (pairT_sel r1 (by omega)).trans hlast
  | false => exact (vb_t (by rw [eqF_d]; exact decide_eq_true rfl)).trans (aPT.trans hlast)
theorem WayF.top (w : WayF A B h g1 z1 g2 g3 f3 cs ds n m x y) : (topF A B h g1 z1 g2 g3 f3 cs ds n m x y).sel = some (b_ true) := by
  unfold topF
  rw [w.end_]
  cases hA : A with
  | true => exact aPT.trans (hA ▸ w.mid)
  | false =>
    cases hg : g1 with
    | false => exact aPT.trans (hA ▸ w.mid)
    | true =>
      cases hz : z1 with
      | true => exact aPT.trans (hA ▸ w.mid)
      | false =>
        obtain ⟨_, hl⟩ := w.rowA hA
        have hL : FL x (pts cs (n + 1)) ≠ [] := by have := w.wz1 hA hg; rw [hz] at this; exact this
        have h1 : (FL x (pts cs (n + 1))).length ≤ n + 1 := by
          unfold FL
          exact Nat.le_trans (List.length_filter_le _ _) (by rw [pts_len]; exact Nat.le_refl _)
        refine (pairT_sel ?_ (by omega)).trans (hA ▸ w.mid)
        cases hF : FL x (pts cs (n + 1)) with
        | nil => exact absurd hF hL
        | cons _ _ => simp
theorem WayF.ref (w : WayF A B h g1 z1 g2 g3 f3 cs ds n m x y) : (refF A B h g1 z1 g2 g3 f3 cs ds n m x y).sel = some (b_ true) := by
  unfold refF
  have t1 := w.top
  have hcr : h = false → crE cs (nz A n) ≠ 0 := fun hb hc => by rw [w.wh.2 hc] at hb; cases hb
  have s3 : (cond h (fun t => aV (tru (P35_ A g3 f3 cs n)) t) (fun t => VT.br (eqF (crE cs (nz A n)) 0) .fail t) (topF A B h g1 z1 g2 g3 f3 cs ds n m x y)).sel = some (b_ true) := by
    cases hb : h with
    | true => exact (aP (w.p35 hb)).trans (hb ▸ t1)
    | false => exact (vb_f (by rw [eqF_d]; exact decide_eq_false (hcr hb))).trans (hb ▸ t1)
  generalize (cond h (fun t => aV (tru (P35_ A g3 f3 cs n)) t) (fun t => VT.br (eqF (crE cs (nz A n)) 0) .fail t) (topF A B h g1 z1 g2 g3 f3 cs ds n m x y)) = T3 at s3 ⊢
  have s2 : (cond g2 (fun t => aV (tru (P34_ A B cs ds n m)) t) (fun t => VT.br (eqF (v5 A B cs ds n m y) 0) .fail t) T3).sel = some (b_ true) := by
    cases hb : g2 with
    | true => exact (aP w.p28.2.2).trans s3
    | false => exact (vb_f (by rw [eqF_d]; exact decide_eq_false (fun hc => by rw [w.wg2.2 hc] at hb; cases hb))).trans s3
  generalize (cond g2 (fun t => aV (tru (P34_ A B cs ds n m)) t) (fun t => VT.br (eqF (v5 A B cs ds n m y) 0) .fail t) T3) = T2 at s2 ⊢
  cases hb : h with
  | true =>
    cases hg : g1 with
    | true => exact (aP (w.p33 hg)).trans s2
    | false => exact s2
  | false =>
    refine (vb_f ?_).trans s2
    rw [eqF_d, fst2_eq, if_pos (hcr hb)]
    exact decide_eq_false (hcr hb)
theorem WayF.go (w : WayF A B h g1 z1 g2 g3 f3 cs ds n m x y) : (goF A B h g1 z1 g2 g3 f3 cs ds n m x y).sel = some (b_ true) := by
  unfold goF
  rw [w.own, aP w.p27, w.own, w.ownB, aP w.p28.1, w.own]
  have s : (aV (tru (P20_ A h cs n)) <| aV (tru (P31_ h g1 x)) <| aV (tru (okI [i (w20 A h cs n), i (w31 h g1 x)] 2 2)) <| aV (tru (P32_ A B g2 cs ds n m y)) <| refF A B h g1 z1 g2 g3 f3 cs ds n m x y).sel = some (b_ true) := by
    rw [aP w.p20, aP w.p31, aP (okI2 _ _), aP w.p28.2.1]
    exact w.ref
  cases A with
  | true => exact s
  | false => exact (aP (w.p29 rfl)).trans s
end
theorem law_true5 (haw : Pure Try.prog Hd 9 [] (b_ true)) {cs ds : List Value} {N M t s t2 s2 : Nat} {ex e2 : Bool} {x y : Int} (hc : rawP cs N) (hd : rawP ds M) :
    ∃ H', Sound Try.prog 3 (.call 5 ⟨[sl 1 0 N N, sl 2 0 M M, ag [i x, i y]]⟩ (heapL (deads ++ [.cells cs t s ex, .cells ds t2 s2 e2]))) (.val (b_ true) H') := by
  obtain ⟨A, hA⟩ : ∃ A : Bool, A = decide (N = 0) := ⟨_, rfl⟩
  obtain ⟨B, hB⟩ : ∃ B : Bool, B = decide (M = 0) := ⟨_, rfl⟩
  have hN : nz A (N - 1) = N := by rw [hA]; exact nz_eq N
  have hM : nz B (M - 1) = M := by rw [hB]; exact nz_eq M
  obtain ⟨h, hh⟩ : ∃ h : Bool, h = decide (crE cs N = 0) := ⟨_, rfl⟩
  obtain ⟨g1, hg1⟩ : ∃ g : Bool, g = (h && decide (ckE x = 0)) := ⟨_, rfl⟩
  obtain ⟨z1, hz1⟩ : ∃ z : Bool, z = (!A && (g1 && (FL x (pts cs (N - 1 + 1))).isEmpty)) := ⟨_, rfl⟩
  obtain ⟨g2, hg2⟩ : ∃ g : Bool, g = decide (v5 A B cs ds (N - 1) (M - 1) y = 0) := ⟨_, rfl⟩
  obtain ⟨g3, hg3⟩ : ∃ g : Bool, g = (A || (h && decide (e29 cs (N - 1) = 0))) := ⟨_, rfl⟩
  obtain ⟨f3, hf3⟩ : ∃ f : Bool, f = (!A && (g3 && !(CJ cs (N - 1) (dJ cs (N - 1))).isEmpty)) := ⟨_, rfl⟩
  have hA1 : A = true → h = true := fun ha => by
    have : N = 0 := by rw [ha] at hA; simpa using hA.symm
    rw [hh, this]; rfl
  have hbad : h = false → A = false ∧ g1 = false ∧ g2 = false ∧ g3 = false := fun hb => by
    have ha : A = false := by
      cases ha : A with
      | false => rfl
      | true => rw [hA1 ha] at hb; cases hb
    have hcr : crE cs N ≠ 0 := by rw [hb] at hh; simpa using hh.symm
    have hcr' : crE cs (N - 1 + 1) ≠ 0 := by
      have : nz A (N - 1) = N - 1 + 1 := by rw [ha]; rfl
      rwa [← this, hN]
    refine ⟨ha, by rw [hg1, hb]; rfl, ?_, by rw [hg3, ha, hb]; rfl⟩
    rw [hg2]
    refine decide_eq_false ?_
    have hF : ∀ b, F28 (crE cs (N - 1 + 1)) b y ≠ 0 := fun b hz => hcr' (fst3_zero hz).1
    unfold v5
    rw [ha]
    cases B with
    | true => show e28 _ _ _ _ ≠ 0; unfold e28; rw [if_pos (hF _)]; exact hF _
    | false => show e28 _ _ _ _ ≠ 0; unfold e28; rw [if_pos (hF _)]; exact hF _
  have hway : wayOk A B h g1 z1 g2 g3 f3 = true := by
    cases hb : h with
    | false =>
      obtain ⟨b1, b2, b3, b4⟩ := hbad hb
      have hz : z1 = false := by rw [hz1, b2]; simp
      have hf : f3 = false := by rw [hf3, b4]; simp
      rw [b1, b2, b3, b4, hz, hf]
      cases B <;> rfl
    | true =>
      cases ha : A with
      | true =>
        have hz : z1 = false := by rw [hz1, ha]; rfl
        have hg : g3 = true := by rw [hg3, ha]; rfl
        have hf : f3 = false := by rw [hf3, ha]; rfl
        rw [hz, hg, hf]
        cases B <;> cases g1 <;> cases g2 <;> rfl
      | false =>
        have hz : g1 = false → z1 = false := fun h1 => by rw [hz1, h1]; simp
        have hf : g3 = false → f3 = false := fun h1 => by rw [hf3, h1]; simp
        cases hgg : g1 with
        | false =>
          rw [hz hgg]
          cases hg3' : g3 with
          | false => rw [hf hg3']; cases B <;> cases g2 <;> rfl
          | true => cases B <;> cases g2 <;> cases f3 <;> rfl
        | true =>
          cases hg3' : g3 with
          | false => rw [hf hg3']; cases B <;> cases g2 <;> cases z1 <;> rfl
          | true => cases B <;> cases g2 <;> cases z1 <;> cases f3 <;> rfl
  obtain ⟨hv, hy⟩ := run5 cs ds (N - 1) (M - 1) x y t s t2 s2 ex e2 A B h g1 z1 g2 g3 f3 hway
  have hsel : (lawF A B h g1 z1 g2 g3 f3 cs ds (N - 1) (M - 1) x y).sel = some (b_ true) := by
    unfold lawF
    rw [hN, hM]
    by_cases h1 : N ≤ 16
    · rw [vb_f (by rw [leF_eq, decide_eq_true (by omega)]; rfl)]
      by_cases h2 : M ≤ 16
      · rw [vb_f (by rw [leF_eq, decide_eq_true (by omega)]; rfl)]
        refine WayF.go ⟨by rw [hN]; exact hc, by rw [hM]; exact hd, by omega, by omega, by rw [hN, hh]; simp, by rw [hg1]; simp, fun ha hg => ?_, by rw [hg2]; simp, fun ha => by rw [hg3, ha]; simp, fun ha hg => ?_⟩
        · unfold zq
          rw [hz1, ha, hg]
          cases hF : FL x (pts cs (N - 1 + 1)) with
          | nil => simp
          | cons _ _ => simp
        · unfold fq
          rw [hf3, ha, hg]
          cases hF : CJ cs (N - 1) (dJ cs (N - 1)) with
          | nil => simp
          | cons _ _ => simp
      · rw [vb_t (by rw [leF_eq, decide_eq_false (by omega)]; rfl)]; rfl
    · rw [vb_t (by rw [leF_eq, decide_eq_false (by omega)]; rfl)]; rfl
  obtain ⟨H', h'⟩ := Out.vals_sel hy (v := b_ true) (by rw [hv]; exact hsel)
  have hs := execO_sound (C := CF5 A B h g1 z1 g2 g3 f3) (tsF haw h g1 z1 g2 g3 f3) .none 80 _ _ h'
  refine ⟨H', ?_⟩
  have hs' : Sound Try.prog 3 (.call 5 ⟨[sl 1 0 (nz A (N - 1)) (nz A (N - 1)), sl 2 0 (nz B (M - 1)) (nz B (M - 1)), ag [i x, i y]]⟩ (heapL (deads ++ [.cells cs t s ex, .cells ds t2 s2 e2]))) (.val (b_ true) H') := hs
  rw [hN, hM] at hs'
  exact hs'
end Go.Proofs.Ytphadgdlknhbnaa.Ways
