import Derived.Test.YtdnogbdfiahcaaaGreatWr3
import Derived.Test.YtdnogbdfiahcaaaGreatWr4
import Derived.Test.YtdnogbdfiahcaaaGreatWr5
noncomputable section
namespace Go.Proofs.YtdnogbdfiahcaaaGreat.Ways
open Go Go.Ex Go.RowKit
/-! ### what both Votes come to -/
def one_ (b : Bool) : Nat := if b = true then 1 else 0
def cntl (j : Nat) : List Lx → Nat
  | [] => 0
  | x :: r => one_ (bO x.cs j) + cntl j r
theorem cntl_le (j : Nat) : ∀ L : List Lx, cntl j L ≤ L.length
  | [] => Nat.le_refl 0
  | x :: r => by
    have := cntl_le j r
    unfold cntl one_
    rw [List.length_cons]
    split <;> omega
theorem cntB_cons (v : Value) (l : List Value) : ∀ n, cntB (v :: l) 0 (n + 1) = one_ (boolO (some v)) + cntB l 0 n
  | 0 => by
    show (if bF (v :: l) 0 0 = true then cntB (v :: l) 0 0 + 1 else cntB (v :: l) 0 0) = _
    show (if boolO (some v) = true then 0 + 1 else 0) = one_ (boolO (some v)) + 0
    unfold one_
    split <;> rfl
  | n + 1 => by
    have ih := cntB_cons v l n
    have hb : bF (v :: l) 0 (n + 1) = bF l 0 n := by
      unfold bF
      rw [show 0 + (n + 1) * 1 = (0 + n * 1) + 1 from by omega, List.getElem?_cons_succ]
    have e1 : cntB (v :: l) 0 (n + 1 + 1) = if bF (v :: l) 0 (n + 1) = true then cntB (v :: l) 0 (n + 1) + 1 else cntB (v :: l) 0 (n + 1) := rfl
    have e2 : cntB l 0 (n + 1) = if bF l 0 n = true then cntB l 0 n + 1 else cntB l 0 n := rfl
    rw [e1, e2, hb, ih]
    split <;> omega
theorem cnt_row (j : Int) : ∀ L : List Lx, cntB (rowV L j) 0 L.length = cntl j.toNat L
  | [] => rfl
  | x :: r => by
    show cntB (b_ (bO x.cs j.toNat) :: rowV r j) 0 (r.length + 1) = _
    rw [cntB_cons, cnt_row j r]; rfl
theorem row_okF {j : Int} {L : List Lx} (h : L.length ≤ 9) : okF (rowV L j) 0 L.length L.length := by
  refine ⟨List.all_eq_true.2 fun v hv => ?_, Nat.le_refl _, by omega, fun k hk => ?_⟩
  · obtain ⟨x, _, rfl⟩ := List.mem_map.1 hv
    rfl
  · rw [show 0 + k * 1 = k from by omega]
    unfold rowV
    rw [List.getElem?_map, List.getElem?_eq_getElem hk]; rfl
/-- lists that are alike -/
def okN (L : List Lx) (n : Nat) : Prop := okL L ∧ ∀ x ∈ L, x.n = n
theorem asksV_sel {σ : Type} {j n : Nat} {K : SS σ} (hj : j < n) : ∀ {L : List Lx}, okN L n → (asksV (j : Int) K L).sel = K.sel
  | [], _ => rfl
  | x :: r, h => by
    have hx := h.2 x (by simp)
    have hk := h.1 x (by simp)
    unfold asksV
    rw [askS_sel (bnd_t (by omega) hk.2.1), askS_sel (cb_t hk (by omega))]
    exact asksV_sel hj ⟨fun y hy => h.1 y (by simp [hy]), fun y hy => h.2 y (by simp [hy])⟩
theorem asksW_sel {σ : Type} {j n : Nat} {K : Int → SS σ} (hj : j < n) : ∀ {L : List Lx} (c : Nat), okN L n → c + L.length < 1000000 → (asksW (j : Int) K L (c : Int)).sel = (K ((c + cntl j L : Nat) : Int)).sel
  | [], c, _, _ => rfl
  | x :: r, c, h, hc => by
    have hx := h.2 x (by simp)
    have hk := h.1 x (by simp)
    have hr : okN r n := ⟨fun y hy => h.1 y (by simp [hy]), fun y hy => h.2 y (by simp [hy])⟩
    rw [List.length_cons] at hc
    unfold asksW
    rw [askS_sel (bnd_t (by omega) hk.2.1), askS_sel (cb_t hk (by omega)), show ((j : Nat) : Int).toNat = j from rfl]
    cases hb : bO x.cs j with
    | true =>
      rw [br_t rfl, wsucc (by omega), asksW_sel hj (c + 1) hr (by omega)]
      have : c + 1 + cntl j r = c + cntl j (x :: r) := by
        rw [show cntl j (x :: r) = one_ (bO x.cs j) + cntl j r from rfl, hb, show one_ true = 1 from rfl]; omega
      rw [this]
    | false =>
      rw [br_f rfl, asksW_sel hj c hr (by omega)]
      have : c + cntl j r = c + cntl j (x :: r) := by
        rw [show cntl j (x :: r) = one_ (bO x.cs j) + cntl j r from rfl, hb, show one_ false = 0 from rfl]; omega
      rw [this]
def votO (L : List Lx) (m : Int) : Nat → List Value
  | 0 => []
  | j + 1 => votO L m j ++ [b_ (leF m ((cntl j L : Nat) : Int))]
theorem votO_len (L : List Lx) (m : Int) : ∀ j, (votO L m j).length = j
  | 0 => rfl
  | j + 1 => by
    unfold votO
    rw [List.length_append, votO_len L m j]; rfl
theorem votO_flat (L : List Lx) (m : Int) : ∀ j, (votO L m j).all Ex.flat = true
  | 0 => rfl
  | j + 1 => by
    unfold votO
    rw [List.all_append, votO_flat L m j]; rfl
theorem runV {L : List Lx} {m : Int} {n : Nat} (h : okN L n) (h8 : L.length ≤ 8) (hn : n ≤ 1000000) : runS (stV L m n) (n + 1) (0, i0 n) = some (0, ((n : Int), votO L m n)) := by
  have hlen : ∀ j, j ≤ n → (votO L m j ++ (i0 n).drop j).length = n := by
    intro j hj
    rw [List.length_append, votO_len, List.length_drop, i0_len]; omega
  have key := run_all (step := stV L m n) (st := fun j => (((j : Nat) : Int), votO L m j ++ (i0 n).drop j)) (a := 0) n (fun j hj => ?_) ?_
  · have e1 : votO L m n ++ (i0 n).drop n = votO L m n := by rw [List.drop_of_length_le (by rw [i0_len]; exact Nat.le_refl n), List.append_nil]
    rw [e1] at key
    exact key
  · have hj' : 0 + ((j : Nat) : Int).toNat * 1 = j := by rw [show ((j : Nat) : Int).toNat = j from rfl]; omega
    have hT : votO L m (j + 1) = votO L m j ++ [b_ (leF m ((cntl j L : Nat) : Int))] := rfl
    have hcnt : cntV L ((j : Nat) : Int) = ((cntl j L : Nat) : Int) := by
      unfold cntV
      rw [cnt_row]; rfl
    unfold stV
    dsimp only
    rw [br_t (by rw [ltF_eq]; simpa using hj), asksV_sel hj h]
    unfold nxV
    dsimp only
    rw [askS_sel (tru_iff.2 (row_okF (by omega))), askS_sel (bnd_t hj (Nat.le_refl n)), hj', askS_sel (by rw [hlen j (by omega), decide_eq_true hj]; rfl), wsucc (by omega), set_mid (votO_len L m j) (i0_len n) hj, hcnt, hT]; rfl
  · unfold stV
    dsimp only
    rw [br_f (by rw [ltF_eq]; simp)]; rfl
def wsT (L : List Lx) (m : Int) : Nat → PS
  | 0 => .z
  | j + 1 => .m ((j + 1 : Nat) : Int) (j + 1) (votO L m (j + 1))
theorem runW {L : List Lx} {m : Int} {n : Nat} (h : okN L n) (h1 : 1 ≤ L.length) (h8 : L.length ≤ 8) (hn : n ≤ 1000000) : runS (stW L m) (n + 1) .z = some (0, wsT L m n) := by
  have hn0 : n0 L = n := by
    cases L with
    | nil => simp at h1
    | cons x r => exact h.2 x (by simp)
  refine run_all (st := wsT L m) n (fun j hj => ?_) ?_
  · have hT : wsT L m (j + 1) = .m ((j + 1 : Nat) : Int) (j + 1) (votO L m j ++ [b_ (leF m ((cntl j L : Nat) : Int))]) := rfl
    rw [hT]
    cases j with
    | zero =>
      show (stW L m .z).sel = _
      unfold stW
      dsimp only
      rw [br_t (by rw [hn0, ltF_eq]; simpa using hj)]
      have := asksW_sel (K := nWz L m) hj 0 h (by omega)
      rw [Nat.zero_add] at this
      exact this
    | succ j =>
      show (stW L m (.m ((j + 1 : Nat) : Int) (j + 1) (votO L m (j + 1)))).sel = _
      unfold stW
      dsimp only
      rw [br_t (by rw [hn0, ltF_eq]; exact decide_eq_true (by omega))]
      have := asksW_sel (K := nWm L m ((j + 1 : Nat) : Int) (j + 1) (votO L m (j + 1))) hj 0 h (by omega)
      rw [Nat.zero_add] at this
      refine this.trans ?_
      unfold nWm
      rw [askS_sel (full_t (votO_len L m _) (by omega)), wsucc (by omega)]; rfl
  · cases n with
    | zero =>
      show (stW L m .z).sel = _
      unfold stW
      dsimp only
      rw [br_f (by rw [hn0]; rfl)]; rfl
    | succ n =>
      show (stW L m (.m ((n + 1 : Nat) : Int) _ _)).sel = _
      unfold stW
      dsimp only
      rw [br_f (by rw [hn0, ltF_eq]; simp)]; rfl
end Go.Proofs.YtdnogbdfiahcaaaGreat.Ways
noncomputable section
namespace Go.Proofs.YtdnogbdfiahcaaaGreat.Ways
open Go Go.Ex Go.RowKit
/-! ### the reference's Vote: the loop as an entry -/
theorem fxW : ∀ (L : List Lx) (t s : Nat) (ex : Bool) (m : Int) (q : PS) (ro : Option Nat), 1 ≤ L.length → L.length ≤ 8 → oW L t s ex m q ro = (oW L t s ex m q ro).fix
  | [], _, _, _, _, _, _, h, _ => by simp at h
  | [a], t, s, ex, m, .z, ro, _, _ => fW1z a t s ex m ro
  | [a], t, s, ex, m, .m y l out, ro, _, _ => fW1m a t s ex m y l out ro
  | [a, b], t, s, ex, m, .z, ro, _, _ => fW2z a b t s ex m ro
  | [a, b], t, s, ex, m, .m y l out, ro, _, _ => fW2m a b t s ex m y l out ro
  | [a, b, d], t, s, ex, m, .z, ro, _, _ => fW3z a b d t s ex m ro
  | [a, b, d], t, s, ex, m, .m y l out, ro, _, _ => fW3m a b d t s ex m y l out ro
  | [a, b, d, e], t, s, ex, m, .z, ro, _, _ => fW4z a b d e t s ex m ro
  | [a, b, d, e], t, s, ex, m, .m y l out, ro, _, _ => fW4m a b d e t s ex m y l out ro
  | [a, b, d, e, f], t, s, ex, m, .z, ro, _, _ => fW5z a b d e f t s ex m ro
  | [a, b, d, e, f], t, s, ex, m, .m y l out, ro, _, _ => fW5m a b d e f t s ex m y l out ro
  | [a, b, d, e, f, h], t, s, ex, m, .z, ro, _, _ => fW6z a b d e f h t s ex m ro
  | [a, b, d, e, f, h], t, s, ex, m, .m y l out, ro, _, _ => fW6m a b d e f h t s ex m y l out ro
  | [a, b, d, e, f, h, j], t, s, ex, m, .z, ro, _, _ => fW7z a b d e f h j t s ex m ro
  | [a, b, d, e, f, h, j], t, s, ex, m, .m y l out, ro, _, _ => fW7m a b d e f h j t s ex m y l out ro
  | [a, b, d, e, f, h, j, k], t, s, ex, m, .z, ro, _, _ => fW8z a b d e f h j k t s ex m ro
  | [a, b, d, e, f, h, j, k], t, s, ex, m, .m y l out, ro, _, _ => fW8m a b d e f h j k t s ex m y l out ro
  | _ :: _ :: _ :: _ :: _ :: _ :: _ :: _ :: _ :: L, _, _, _, _, _, _, _, h => by simp at h
theorem vwW : ∀ (L : List Lx) (t s : Nat) (ex : Bool) (m : Int) (q : PS) (ro : Option Nat), 1 ≤ L.length → L.length ≤ 8 → (oW L t s ex m q ro).view (SW L t s ex m) q (stW L m q) = (stW L m q).view (SW L t s ex m) q
  | [], _, _, _, _, _, _, h, _ => by simp at h
  | [a], t, s, ex, m, .z, ro, _, _ => vW1z a t s ex m ro
  | [a], t, s, ex, m, .m y l out, ro, _, _ => vW1m a t s ex m y l out ro
  | [a, b], t, s, ex, m, .z, ro, _, _ => vW2z a b t s ex m ro
  | [a, b], t, s, ex, m, .m y l out, ro, _, _ => vW2m a b t s ex m y l out ro
  | [a, b, d], t, s, ex, m, .z, ro, _, _ => vW3z a b d t s ex m ro
  | [a, b, d], t, s, ex, m, .m y l out, ro, _, _ => vW3m a b d t s ex m y l out ro
  | [a, b, d, e], t, s, ex, m, .z, ro, _, _ => vW4z a b d e t s ex m ro
  | [a, b, d, e], t, s, ex, m, .m y l out, ro, _, _ => vW4m a b d e t s ex m y l out ro
  | [a, b, d, e, f], t, s, ex, m, .z, ro, _, _ => vW5z a b d e f t s ex m ro
  | [a, b, d, e, f], t, s, ex, m, .m y l out, ro, _, _ => vW5m a b d e f t s ex m y l out ro
  | [a, b, d, e, f, h], t, s, ex, m, .z, ro, _, _ => vW6z a b d e f h t s ex m ro
  | [a, b, d, e, f, h], t, s, ex, m, .m y l out, ro, _, _ => vW6m a b d e f h t s ex m y l out ro
  | [a, b, d, e, f, h, j], t, s, ex, m, .z, ro, _, _ => vW7z a b d e f h j t s ex m ro
  | [a, b, d, e, f, h, j], t, s, ex, m, .m y l out, ro, _, _ => vW7m a b d e f h j t s ex m y l out ro
  | [a, b, d, e, f, h, j, k], t, s, ex, m, .z, ro, _, _ => vW8z a b d e f h j k t s ex m ro
  | [a, b, d, e, f, h, j, k], t, s, ex, m, .m y l out, ro, _, _ => vW8m a b d e f h j k t s ex m y l out ro
  | _ :: _ :: _ :: _ :: _ :: _ :: _ :: _ :: _ :: L, _, _, _, _, _, _, _, h => by simp at h
theorem gdW : ∀ (L : List Lx) (t s : Nat) (ex : Bool) (m : Int) (q : PS), 1 ≤ L.length → L.length ≤ 8 → (stW L m q).good (SW L t s ex m) q (L.length + 2) = true
  | [], _, _, _, _, _, h, _ => by simp at h
  | [a], t, s, ex, m, .z, _, _ => gW1z a t s ex m
  | [a], t, s, ex, m, .m y l out, _, _ => gW1m a t s ex m y l out
  | [a, b], t, s, ex, m, .z, _, _ => gW2z a b t s ex m
  | [a, b], t, s, ex, m, .m y l out, _, _ => gW2m a b t s ex m y l out
  | [a, b, d], t, s, ex, m, .z, _, _ => gW3z a b d t s ex m
  | [a, b, d], t, s, ex, m, .m y l out, _, _ => gW3m a b d t s ex m y l out
  | [a, b, d, e], t, s, ex, m, .z, _, _ => gW4z a b d e t s ex m
  | [a, b, d, e], t, s, ex, m, .m y l out, _, _ => gW4m a b d e t s ex m y l out
  | [a, b, d, e, f], t, s, ex, m, .z, _, _ => gW5z a b d e f t s ex m
  | [a, b, d, e, f], t, s, ex, m, .m y l out, _, _ => gW5m a b d e f t s ex m y l out
  | [a, b, d, e, f, h], t, s, ex, m, .z, _, _ => gW6z a b d e f h t s ex m
  | [a, b, d, e, f, h], t, s, ex, m, .m y l out, _, _ => gW6m a b d e f h t s ex m y l out
  | [a, b, d, e, f, h, j], t, s, ex, m, .z, _, _ => gW7z a b d e f h j t s ex m
  | [a, b, d, e, f, h, j], t, s, ex, m, .m y l out, _, _ => gW7m a b d e f h j t s ex m y l out
  | [a, b, d, e, f, h, j, k], t, s, ex, m, .z, _, _ => gW8z a b d e f h j k t s ex m
  | [a, b, d, e, f, h, j, k], t, s, ex, m, .m y l out, _, _ => gW8m a b d e f h j k t s ex m y l out
  | _ :: _ :: _ :: _ :: _ :: _ :: _ :: _ :: _ :: L, _, _, _, _, _, _, h => by simp at h
theorem hpWz_flat {L : List Lx} {t s : Nat} {ex : Bool} (h : okL L) : ∀ o, (o, true) ∈ hpWz L t s ex → FlatO o := by
  intro o ho
  simp only [hpWz, List.mem_cons, List.mem_map, Prod.mk.injEq, Bool.true_eq_false, and_false, false_or] at ho
  obtain ⟨x, hx, rfl, _⟩ := ho
  exact fun y hy => List.all_eq_true.1 (h x hx).1 y hy
theorem hpWm_flat {L : List Lx} {t s : Nat} {ex : Bool} {out : List Value} (h : okL L) (h2 : out.all Ex.flat = true) : ∀ o, (o, true) ∈ hpWm L t s ex out → FlatO o := by
  intro o ho
  simp only [hpWm, List.mem_cons, List.mem_append, List.mem_map, Prod.mk.injEq, Bool.true_eq_false, and_false, List.not_mem_nil, or_false, false_or] at ho
  rcases ho with ⟨x, hx, rfl, _⟩ | ⟨rfl, _⟩
  · exact fun y hy => List.all_eq_true.1 (h x hx).1 y hy
  · exact fun y hy => List.all_eq_true.1 h2 y hy
theorem asksW_or {σ : Type} {j : Int} {r : σ ⊕ Nat} {K : Int → SS σ} : ∀ {L : List Lx} {c : Int}, (asksW j K L c).sel = some r → ∃ c', (K c').sel = some r
  | [], c, h => ⟨c, h⟩
  | x :: l, c, h => by
    rcases br_or' (ask_or' (ask_or' h)) with h | h
    · exact asksW_or (L := l) h
    · exact asksW_or (L := l) h
theorem goodW {L : List Lx} {m : Int} : ∀ q q', GdP q → (stW L m q).sel = some (.inl q') → GdP q' := by
  intro q q' hg h
  cases q with
  | z =>
    rcases br_or' h with h | h
    · obtain ⟨c, h⟩ := asksW_or h
      cases h; rfl
    · cases h
  | m j l out =>
    rcases br_or' h with h | h
    · obtain ⟨c, h⟩ := asksW_or h
      have h := ask_or' h
      cases h
      show (out ++ [_]).all Ex.flat = true
      rw [List.all_append, show out.all Ex.flat = true from hg]; rfl
    · cases h
theorem LW {L : List Lx} {t s : Nat} {ex : Bool} {m : Int} (h : okL L) (h1 : 1 ≤ L.length) (h8 : L.length ≤ 8) : Loop1 Tryz.prog (gl + (hpL2 L t s ex).length) 24 B24 (SW L t s ex m) (L.length + 2) (stW L m) GdP :=
  .mk' (C := CW) (n := 60) (fun q _ => by cases q <;> exact ts12) (fun q _ => by cases q <;> exact .none) (fun q ro _ => fxW L t s ex m q ro h1 h8) (fun q ro _ => vwW L t s ex m q ro h1 h8) (fun q => gdW L t s ex m q h1 h8) goodW
    (fun q hq => by cases q with
      | z => exact hpWz_flat h
      | m j l out => exact hpWm_flat h hq)
    (fun q j hq _ => by cases q with
      | z => exact ⟨hpWz_flat h, fun h => by cases h⟩
      | m j l out => exact ⟨hpWm_flat h hq, fun h => by cases h⟩)
/-! ### the runs of both Votes -/
def vE (L : List Lx) (m : Int) : Int := fst2 (clE L) (rgE m 1 L.length)
noncomputable def K18 (L : List Lx) (t s : Nat) (ex : Bool) (m : Int) (r : Nat × Int × List Value) : Cfg := ⟨T12, spV, syV, loopE noL 18 6 41 (L.length + 4) B18 ((SV L t s ex m (n0 L)).st (0, i0 (n0 L))).live ((SV L t s ex m (n0 L)).st (0, i0 (n0 L))).hp (finO (SV L t s ex m (n0 L)) r [0])⟩
noncomputable def o18 (L : List Lx) (t s : Nat) (ex : Bool) (m : Int) (r : Nat × Int × List Value) : Out QRes := execO Tryz.prog (gl + (hpL2 L t s ex).length) (K18 L t s ex m r) 60 (.call 18 ⟨[sl 1 0 L.length L.length, i m]⟩ (heapL (deads ++ hpL2 L t s ex)))
noncomputable def t18 (L : List Lx) (m : Int) (r : Nat × Int × List Value) : NT := .br (tru (okL L)) (.br (tru (okI [i (clE L), i (rgE m 1 L.length)] 2 2)) (.br (!eqF (vE L m) 0) (.leaf 1000000 (.old (tp [.slice none 0 0, i (vE L m)])))
  (.br (leF 0 (n0 L) && (leF (n0 L) (n0 L) && leF (n0 L) 1048576)) (.br (Nat.beq r.1 0) (.leaf (L.length + 3) (.tup (n0 L) (n0 L) r.2.2 4 1 true (i 0))) .fail) .fail)) .fail) .fail
theorem v18 : ∀ (L : List Lx) (t s : Nat) (ex : Bool) (m : Int) (r : Nat × Int × List Value), 1 ≤ L.length → L.length ≤ 8 → (o18 L t s ex m r).news = t18 L m r ∧ o18 L t s ex m r = (o18 L t s ex m r).fix
  | [], _, _, _, _, _, h, _ => by simp at h
  | [a], t, s, ex, m, r, _, _ => ⟨by kernel_rfl, by kernel_rfl⟩
  | [a, b], t, s, ex, m, r, _, _ => ⟨by kernel_rfl, by kernel_rfl⟩
  | [a, b, d], t, s, ex, m, r, _, _ => ⟨by kernel_rfl, by kernel_rfl⟩
  | [a, b, d, e], t, s, ex, m, r, _, _ => ⟨by kernel_rfl, by kernel_rfl⟩
  | [a, b, d, e, f], t, s, ex, m, r, _, _ => ⟨by kernel_rfl, by kernel_rfl⟩
  | [a, b, d, e, f, h], t, s, ex, m, r, _, _ => ⟨by kernel_rfl, by kernel_rfl⟩
  | [a, b, d, e, f, h, j], t, s, ex, m, r, _, _ => ⟨by kernel_rfl, by kernel_rfl⟩
  | [a, b, d, e, f, h, j, k], t, s, ex, m, r, _, _ => ⟨by kernel_rfl, by kernel_rfl⟩
  | _ :: _ :: _ :: _ :: _ :: _ :: _ :: _ :: _ :: L, _, _, _, _, _, _, h => by simp at h
noncomputable def K18e : Cfg := ⟨T12, at_ [(18, 18)] .bool (at_ [(18, 20)] (.ints []) no_), off_, noL⟩
noncomputable def o18e (L : List Lx) (t s : Nat) (ex : Bool) (m : Int) : Out QRes := execO Tryz.prog (gl + (hpL2 L t s ex).length) K18e 60 (.call 18 ⟨[sl 1 0 L.length L.length, i m]⟩ (heapL (deads ++ hpL2 L t s ex)))
noncomputable def t18e (L : List Lx) (m : Int) : NT := .br (tru (okL L)) (.br (tru (okI [i (clE L), i (rgE m 1 L.length)] 2 2)) (.br (!eqF (vE L m) 0) (.leaf 1000000 (.old (tp [.slice none 0 0, i (vE L m)]))) .fail) .fail) .fail
theorem v18e : ∀ (L : List Lx) (t s : Nat) (ex : Bool) (m : Int), L.length ≤ 9 → (o18e L t s ex m).news = t18e L m ∧ o18e L t s ex m = (o18e L t s ex m).fix
  | [], t, s, ex, m, _ => ⟨by kernel_rfl, by kernel_rfl⟩
  | [a], t, s, ex, m, _ => ⟨by kernel_rfl, by kernel_rfl⟩
  | [a, b], t, s, ex, m, _ => ⟨by kernel_rfl, by kernel_rfl⟩
  | [a, b, d], t, s, ex, m, _ => ⟨by kernel_rfl, by kernel_rfl⟩
  | [a, b, d, e], t, s, ex, m, _ => ⟨by kernel_rfl, by kernel_rfl⟩
  | [a, b, d, e, f], t, s, ex, m, _ => ⟨by kernel_rfl, by kernel_rfl⟩
  | [a, b, d, e, f, h], t, s, ex, m, _ => ⟨by kernel_rfl, by kernel_rfl⟩
  | [a, b, d, e, f, h, j], t, s, ex, m, _ => ⟨by kernel_rfl, by kernel_rfl⟩
  | [a, b, d, e, f, h, j, k], t, s, ex, m, _ => ⟨by kernel_rfl, by kernel_rfl⟩
  | [a, b, d, e, f, h, j, k, l], t, s, ex, m, _ => ⟨by kernel_rfl, by kernel_rfl⟩
  | _ :: _ :: _ :: _ :: _ :: _ :: _ :: _ :: _ :: _ :: L, _, _, _, _, h => by simp at h
noncomputable def K24 (L : List Lx) (t s : Nat) (ex : Bool) (m : Int) (r : Nat × PS) : Cfg := ⟨T12, no_, off_, loopE noL 24 3 39 (L.length + 2) B24 ((SW L t s ex m).st .z).live ((SW L t s ex m).st .z).hp (finO (SW L t s ex m) r [0])⟩
noncomputable def o24 (L : List Lx) (t s : Nat) (ex : Bool) (m : Int) (r : Nat × PS) : Out QRes := execO Tryz.prog (gl + (hpL2 L t s ex).length) (K24 L t s ex m r) 60 (.call 24 ⟨[sl 1 0 L.length L.length, i m]⟩ (heapL (deads ++ hpL2 L t s ex)))
theorem v24z : ∀ (L : List Lx) (t s : Nat) (ex : Bool) (m : Int), 1 ≤ L.length → L.length ≤ 8 → (o24 L t s ex m (0, .z)).news = .br true (.leaf 1000000 (.old (.slice none 0 0))) .fail ∧ o24 L t s ex m (0, .z) = (o24 L t s ex m (0, .z)).fix
  | [], _, _, _, _, h, _ => by simp at h
  | [a], t, s, ex, m, _, _ => ⟨by kernel_rfl, by kernel_rfl⟩
  | [a, b], t, s, ex, m, _, _ => ⟨by kernel_rfl, by kernel_rfl⟩
  | [a, b, d], t, s, ex, m, _, _ => ⟨by kernel_rfl, by kernel_rfl⟩
  | [a, b, d, e], t, s, ex, m, _, _ => ⟨by kernel_rfl, by kernel_rfl⟩
  | [a, b, d, e, f], t, s, ex, m, _, _ => ⟨by kernel_rfl, by kernel_rfl⟩
  | [a, b, d, e, f, h], t, s, ex, m, _, _ => ⟨by kernel_rfl, by kernel_rfl⟩
  | [a, b, d, e, f, h, j], t, s, ex, m, _, _ => ⟨by kernel_rfl, by kernel_rfl⟩
  | [a, b, d, e, f, h, j, k], t, s, ex, m, _, _ => ⟨by kernel_rfl, by kernel_rfl⟩
  | _ :: _ :: _ :: _ :: _ :: _ :: _ :: _ :: _ :: L, _, _, _, _, _, h => by simp at h
theorem v24m : ∀ (L : List Lx) (t s : Nat) (ex : Bool) (m j : Int) (l : Nat) (out : List Value), 1 ≤ L.length → L.length ≤ 8 → (o24 L t s ex m (0, .m j l out)).news = .br true (.leaf (L.length + 2) (.sl l l out 4 1 false)) .fail ∧ o24 L t s ex m (0, .m j l out) = (o24 L t s ex m (0, .m j l out)).fix
  | [], _, _, _, _, _, _, _, h, _ => by simp at h
  | [a], t, s, ex, m, y, w, out, _, _ => ⟨by kernel_rfl, by kernel_rfl⟩
  | [a, b], t, s, ex, m, y, w, out, _, _ => ⟨by kernel_rfl, by kernel_rfl⟩
  | [a, b, d], t, s, ex, m, y, w, out, _, _ => ⟨by kernel_rfl, by kernel_rfl⟩
  | [a, b, d, e], t, s, ex, m, y, w, out, _, _ => ⟨by kernel_rfl, by kernel_rfl⟩
  | [a, b, d, e, f], t, s, ex, m, y, w, out, _, _ => ⟨by kernel_rfl, by kernel_rfl⟩
  | [a, b, d, e, f, h], t, s, ex, m, y, w, out, _, _ => ⟨by kernel_rfl, by kernel_rfl⟩
  | [a, b, d, e, f, h, j], t, s, ex, m, y, w, out, _, _ => ⟨by kernel_rfl, by kernel_rfl⟩
  | [a, b, d, e, f, h, j, k], t, s, ex, m, y, w, out, _, _ => ⟨by kernel_rfl, by kernel_rfl⟩
  | _ :: _ :: _ :: _ :: _ :: _ :: _ :: _ :: _ :: L, _, _, _, _, _, _, _, _, h => by simp at h
end Go.Proofs.YtdnogbdfiahcaaaGreat.Ways
noncomputable section
namespace Go.Proofs.YtdnogbdfiahcaaaGreat.Ways
open Go Go.Ex Go.RowKit
/-! ### the contracts of both Votes -/
theorem fst2' (a b : Int) : fst2 a b = if a ≠ 0 then a else b := by
  rw [fst2_eq]
  by_cases h : b = 0
  · rw [if_neg (show ¬ b ≠ 0 by simpa using h), h]
  · rw [if_pos h]
theorem eL_eq (n m : Nat) : eL n m = if 1024 < n then 5 else if n ≠ m then 2 else 0 := by
  unfold eL
  rw [fst2', show mnE n 1024 = if 1024 < n then 5 else 0 from mnE_nat n 1024]
  unfold shB
  by_cases h : 1024 < n
  · rw [if_pos h, if_pos (by decide), if_pos h]
  · rw [if_neg h, if_neg (by decide), if_neg h]
    by_cases h2 : n = m
    · rw [if_pos (by omega), if_neg (by simpa using h2)]
    · rw [if_neg (by omega), if_pos h2]
theorem evl_zero {m : Nat} : ∀ {L : List Lx}, evl m L = 0 → ∀ x ∈ L, x.n = m ∧ x.n ≤ 1024
  | [], _, x, hx => by cases hx
  | y :: r, h, x, hx => by
    unfold evl at h
    by_cases h0 : eL y.n m = 0
    · rw [if_neg (by simpa using h0)] at h
      rcases List.mem_cons.1 hx with rfl | hx
      · rw [eL_eq] at h0
        by_cases h1 : 1024 < x.n
        · rw [if_pos h1] at h0; cases h0
        · rw [if_neg h1] at h0
          by_cases h2 : x.n = m
          · exact ⟨h2, by omega⟩
          · rw [if_pos h2] at h0; cases h0
      · exact evl_zero h x hx
    · rw [if_pos h0] at h; exact absurd h h0
theorem flE_eq (k : Nat) : flE k = if k = 0 then 12 else if 8 < k then 5 else 0 := by
  unfold flE em
  rw [fst2', show mnE k 8 = if 8 < k then 5 else 0 from mnE_nat k 8]
  by_cases h : k = 0
  · rw [if_pos h, if_pos (by decide), if_pos h]
  · rw [if_neg h, if_neg (by decide), if_neg h]
theorem vE_zero {L : List Lx} {m : Int} (h : vE L m = 0) : 1 ≤ L.length ∧ L.length ≤ 8 ∧ (∀ x ∈ L, x.n = n0 L ∧ x.n ≤ 1024) := by
  unfold vE at h
  rw [fst2'] at h
  have hc : clE L = 0 := Classical.byContradiction fun hc => by rw [if_pos hc] at h; exact hc h
  unfold clE at hc
  rw [fst2'] at hc
  have hf : flE L.length = 0 := Classical.byContradiction fun hf => by rw [if_pos hf] at hc; exact hf hc
  rw [if_neg (by simpa using hf)] at hc
  rw [flE_eq] at hf
  have h1 : ¬ L.length = 0 := fun h0 => by rw [if_pos h0] at hf; cases hf
  rw [if_neg h1] at hf
  have h8 : ¬ 8 < L.length := fun h0 => by rw [if_pos h0] at hf; cases hf
  refine ⟨by omega, by omega, ?_⟩
  cases L with
  | nil => exact absurd rfl h1
  | cons x r => exact evl_zero hc
theorem cvl_eq (m : Nat) (e : Int) : ∀ L : List Lx, cvl m e L = if evl m L ≠ 0 then evl m L else e
  | [] => by unfold cvl evl; rw [if_neg (by decide)]
  | x :: r => by
    have ih := cvl_eq m e r
    show (if 1024 < x.n then 5 else if x.n ≠ m then 2 else cvl m e r) = if (if eL x.n m ≠ 0 then eL x.n m else evl m r) ≠ 0 then (if eL x.n m ≠ 0 then eL x.n m else evl m r) else e
    have he := eL_eq x.n m
    by_cases h1 : 1024 < x.n
    · rw [if_pos h1] at he ⊢
      rw [he]; rfl
    · rw [if_neg h1] at he ⊢
      by_cases h2 : x.n = m
      · rw [if_neg (show ¬ x.n ≠ m by simpa using h2)] at he ⊢
        rw [he, ih]; rfl
      · rw [if_pos h2] at he ⊢
        rw [he]; rfl
theorem cv_v (L : List Lx) (m : Int) : cvE m L = vE L m := by
  unfold vE clE
  rw [fst2', fst2', flE_eq]
  cases L with
  | nil => rfl
  | cons x r =>
    rw [if_neg (show ¬ (x :: r).length = 0 from by simp)]
    show (if 8 < r.length + 1 then 5 else cvl x.n (rgE m 1 (r.length + 1)) (x :: r)) = _
    rw [List.length_cons]
    by_cases h : 8 < r.length + 1
    · rw [if_pos h, if_pos h]; rfl
    · rw [if_neg h, if_neg h, cvl_eq]; rfl
theorem okN_of {L : List Lx} {m : Int} (h : okL L) (hv : vE L m = 0) : okN L (n0 L) := ⟨h, fun x hx => ((vE_zero hv).2.2 x hx).1⟩
theorem n0_le {L : List Lx} {m : Int} (hv : vE L m = 0) : n0 L ≤ 1024 := by
  obtain ⟨h1, _, h3⟩ := vE_zero hv
  cases L with
  | nil => simp at h1
  | cons x r => exact (h3 x (by simp)).2
theorem gdL18 : ∀ (L : List Lx) (t s : Nat) (ex : Bool) (m : Int), 1 ≤ L.length → L.length ≤ 8 → goodR (L.length + 4) (L.length + 4) ((SV L t s ex m (n0 L)).st (0, i0 (n0 L))).live ((SV L t s ex m (n0 L)).st (0, i0 (n0 L))).hp (List.range (L.length + 4)) = true
  | [], _, _, _, _, h, _ => by simp at h
  | [a], t, s, ex, m, _, _ => by kernel_rfl
  | [a, b], t, s, ex, m, _, _ => by kernel_rfl
  | [a, b, d], t, s, ex, m, _, _ => by kernel_rfl
  | [a, b, d, e], t, s, ex, m, _, _ => by kernel_rfl
  | [a, b, d, e, f], t, s, ex, m, _, _ => by kernel_rfl
  | [a, b, d, e, f, h], t, s, ex, m, _, _ => by kernel_rfl
  | [a, b, d, e, f, h, j], t, s, ex, m, _, _ => by kernel_rfl
  | [a, b, d, e, f, h, j, k], t, s, ex, m, _, _ => by kernel_rfl
  | _ :: _ :: _ :: _ :: _ :: _ :: _ :: _ :: _ :: L, _, _, _, _, _, h => by simp at h
theorem gdL24 : ∀ (L : List Lx) (t s : Nat) (ex : Bool) (m : Int), 1 ≤ L.length → L.length ≤ 8 → goodR (L.length + 2) (L.length + 2) ((SW L t s ex m).st .z).live ((SW L t s ex m).st .z).hp (List.range (L.length + 2)) = true
  | [], _, _, _, _, h, _ => by simp at h
  | [a], t, s, ex, m, _, _ => by kernel_rfl
  | [a, b], t, s, ex, m, _, _ => by kernel_rfl
  | [a, b, d], t, s, ex, m, _, _ => by kernel_rfl
  | [a, b, d, e], t, s, ex, m, _, _ => by kernel_rfl
  | [a, b, d, e, f], t, s, ex, m, _, _ => by kernel_rfl
  | [a, b, d, e, f, h], t, s, ex, m, _, _ => by kernel_rfl
  | [a, b, d, e, f, h, j], t, s, ex, m, _, _ => by kernel_rfl
  | [a, b, d, e, f, h, j, k], t, s, ex, m, _, _ => by kernel_rfl
  | _ :: _ :: _ :: _ :: _ :: _ :: _ :: _ :: _ :: L, _, _, _, _, _, h => by simp at h
def VotOK (L : List Lx) (m : Int) : Prop := okL L ∧ vE L m = 0
def VotNo (L : List Lx) (m : Int) : Prop := okL L ∧ vE L m ≠ 0
def sp18 : XSpec := fun al os => match al, os with
  | [.slice (some ⟨1, 0, none⟩) k c, .int .i64 m], .cells vs _ _ _ :: q => match mkL 2 vs q with
    | some L => ifB (lenB k c L) (VotOK L m, .tup (n0 L) (n0 L) (votO L m (n0 L)) 4 1 true (i 0))
    | none => none
  | _, _ => none
def sp18e : XSpec := fun al os => match al, os with
  | [.slice (some ⟨1, 0, none⟩) k c, .int .i64 m], .cells vs _ _ _ :: q => match mkL 2 vs q with
    | some L => ifB (lenB k c L) (VotNo L m, .old (tp [.slice none 0 0, i (vE L m)]))
    | none => none
  | _, _ => none
theorem hpL2_len (L : List Lx) (t s : Nat) (ex : Bool) : (hpL2 L t s ex).length = L.length + 1 := by simp [hpL2, blksN]
theorem c18 : ∀ al os p v, sp18 al os = some (p, v) → p → (∀ o ∈ os.drop 1, FlatO o) ∧ v.OkX Tryz.prog 18 al deads os (gl + os.length) := by
  intro al os p v hs hp
  unfold sp18 at hs
  split at hs
  case h_2 => cases hs
  rename_i k c m vs t s ex q
  split at hs
  case h_2 => cases hs
  rename_i L hm
  obtain ⟨hb, hr⟩ := ifB_some hs
  cases hr
  obtain ⟨_, rfl, rfl⟩ := lenB_spec hb
  obtain ⟨rfl, rfl⟩ := mkL_eq _ _ _ _ hm
  obtain ⟨p1, p2⟩ := hp
  obtain ⟨h1, h8, _⟩ := vE_zero p2
  have hn := n0_le p2
  refine ⟨okL_flat p1, ?_⟩
  have hrun := runV (m := m) (okN_of p1 p2) h8 (show n0 L ≤ 1000000 by omega)
  have hL := (LV (t := t) (s := s) (ex := ex) (m := m) (n := n0 L) p1 h1 h8).table (id := 6) (s0 := (0, i0 (n0 L))) .none (by rw [hpL2_len]; show 1 + _ ≤ _; omega) (i0_flat _) hrun (gdL18 L t s ex m h1 h8) [0]
  obtain ⟨g1, g2⟩ := v18 L t s ex m (0, ((n0 L : Int), votO L m (n0 L))) h1 h8
  refine (news_ok (C := K18 L t s ex m (0, ((n0 L : Int), votO L m (n0 L)))) (n := 60) (os := hpL2 L t s ex) (b := L.length + 3) ts12 hL g2 ((congrArg NT.sel g1).trans ?_) (by rw [hpL2_len]; show 1 + _ ≤ _; omega) (show NRes.Fl (.tup (n0 L) (n0 L) (votO L m (n0 L)) 4 1 true (i 0)) from ⟨votO_flat L m _, rfl⟩)).x
  unfold t18
  simp only [NT.sel]
  rw [tru_iff.2 p1, tru_iff.2 (okI2 _ _), p2, leF_eq, leF_eq, leF_eq, decide_eq_true (by omega), decide_eq_true (by omega), decide_eq_true (by omega)]; rfl
theorem c18e : ∀ al os p v, sp18e al os = some (p, v) → p → (∀ o ∈ os.drop 1, FlatO o) ∧ v.OkX Tryz.prog 18 al deads os (gl + os.length) := by
  intro al os p v hs hp
  unfold sp18e at hs
  split at hs
  case h_2 => cases hs
  rename_i k c m vs t s ex q
  split at hs
  case h_2 => cases hs
  rename_i L hm
  obtain ⟨hb, hr⟩ := ifB_some hs
  cases hr
  obtain ⟨h9, rfl, rfl⟩ := lenB_spec hb
  obtain ⟨rfl, rfl⟩ := mkL_eq _ _ _ _ hm
  obtain ⟨p1, p2⟩ := hp
  refine ⟨okL_flat p1, ?_⟩
  obtain ⟨g1, g2⟩ := v18e L t s ex m h9
  refine (news_ok (C := K18e) (n := 60) (os := hpL2 L t s ex) (b := 1000000) ts12 .none g2 ((congrArg NT.sel g1).trans ?_) (by rw [hpL2_len]; show 1 + _ ≤ _; omega) (show NRes.Fl (.old (tp [.slice none 0 0, i (vE L m)])) from rfl)).x
  unfold t18e
  simp only [NT.sel]
  rw [tru_iff.2 p1, tru_iff.2 (okI2 _ _), eqF_d, decide_eq_false p2]; rfl
def VotZ (L : List Lx) (m : Int) : Prop := VotOK L m ∧ n0 L = 0
def VotM (L : List Lx) (m : Int) : Prop := VotOK L m ∧ n0 L ≠ 0
def sp24z : XSpec := fun al os => match al, os with
  | [.slice (some ⟨1, 0, none⟩) k c, .int .i64 m], .cells vs _ _ _ :: q => match mkL 2 vs q with
    | some L => ifB (lenB k c L) (VotZ L m, .old (.slice none 0 0))
    | none => none
  | _, _ => none
def sp24m : XSpec := fun al os => match al, os with
  | [.slice (some ⟨1, 0, none⟩) k c, .int .i64 m], .cells vs _ _ _ :: q => match mkL 2 vs q with
    | some L => ifB (lenB k c L) (VotM L m, .sl (n0 L) (n0 L) (votO L m (n0 L)) 4 1 false)
    | none => none
  | _, _ => none
theorem c24z : ∀ al os p v, sp24z al os = some (p, v) → p → (∀ o ∈ os.drop 1, FlatO o) ∧ v.OkX Tryz.prog 24 al deads os (gl + os.length) := by
  intro al os p v hs hp
  unfold sp24z at hs
  split at hs
  case h_2 => cases hs
  rename_i k c m vs t s ex q
  split at hs
  case h_2 => cases hs
  rename_i L hm
  obtain ⟨hb, hr⟩ := ifB_some hs
  cases hr
  obtain ⟨_, rfl, rfl⟩ := lenB_spec hb
  obtain ⟨rfl, rfl⟩ := mkL_eq _ _ _ _ hm
  obtain ⟨⟨p1, p2⟩, p3⟩ := hp
  obtain ⟨h1, h8, _⟩ := vE_zero p2
  have hn := n0_le p2
  refine ⟨okL_flat p1, ?_⟩
  have hrun := runW (m := m) (okN_of p1 p2) h1 h8 (show n0 L ≤ 1000000 by omega)
  rw [p3] at hrun
  have hL := (LW (t := t) (s := s) (ex := ex) (m := m) p1 h1 h8).table (id := 3) (s0 := .z) .none (by rw [hpL2_len]; show 1 + _ ≤ _; omega) trivial hrun (gdL24 L t s ex m h1 h8) [0]
  obtain ⟨g1, g2⟩ := v24z L t s ex m h1 h8
  exact (news_ok (C := K24 L t s ex m (0, .z)) (n := 60) (os := hpL2 L t s ex) (b := 1000000) ts12 hL g2 ((congrArg NT.sel g1).trans rfl) (by rw [hpL2_len]; show 1 + _ ≤ _; omega) (show NRes.Fl (.old (.slice none 0 0)) from rfl)).x
theorem c24m : ∀ al os p v, sp24m al os = some (p, v) → p → (∀ o ∈ os.drop 1, FlatO o) ∧ v.OkX Tryz.prog 24 al deads os (gl + os.length) := by
  intro al os p v hs hp
  unfold sp24m at hs
  split at hs
  case h_2 => cases hs
  rename_i k c m vs t s ex q
  split at hs
  case h_2 => cases hs
  rename_i L hm
  obtain ⟨hb, hr⟩ := ifB_some hs
  cases hr
  obtain ⟨_, rfl, rfl⟩ := lenB_spec hb
  obtain ⟨rfl, rfl⟩ := mkL_eq _ _ _ _ hm
  obtain ⟨⟨p1, p2⟩, p3⟩ := hp
  obtain ⟨h1, h8, _⟩ := vE_zero p2
  have hn := n0_le p2
  refine ⟨okL_flat p1, ?_⟩
  have hrun := runW (m := m) (okN_of p1 p2) h1 h8 (show n0 L ≤ 1000000 by omega)
  have hL := (LW (t := t) (s := s) (ex := ex) (m := m) p1 h1 h8).table (id := 3) (s0 := .z) .none (by rw [hpL2_len]; show 1 + _ ≤ _; omega) trivial hrun (gdL24 L t s ex m h1 h8) [0]
  obtain ⟨j, hj⟩ : ∃ j, n0 L = j + 1 := ⟨n0 L - 1, by omega⟩
  have hw : wsT L m (n0 L) = .m ((n0 L : Nat) : Int) (n0 L) (votO L m (n0 L)) := by rw [hj]; rfl
  rw [hw] at hL
  obtain ⟨g1, g2⟩ := v24m L t s ex m ((n0 L : Nat) : Int) (n0 L) (votO L m (n0 L)) h1 h8
  exact (news_ok (C := K24 L t s ex m (0, .m ((n0 L : Nat) : Int) (n0 L) (votO L m (n0 L)))) (n := 60) (os := hpL2 L t s ex) (b := L.length + 2) ts12 hL g2 ((congrArg NT.sel g1).trans rfl) (by rw [hpL2_len]; show 1 + _ ≤ _; omega) (show NRes.Fl (.sl (n0 L) (n0 L) (votO L m (n0 L)) 4 1 false) from votO_flat L m _)).x
end Go.Proofs.YtdnogbdfiahcaaaGreat.Ways
