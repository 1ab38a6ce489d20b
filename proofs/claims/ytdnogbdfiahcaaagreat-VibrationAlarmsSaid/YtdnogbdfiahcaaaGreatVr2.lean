import Derived.Test.YtdnogbdfiahcaaaGreatVr1
namespace Go.Proofs.YtdnogbdfiahcaaaGreat.Ways
open Go Go.Ex Go.RowKit
/-! ### the program's Crossing -/
noncomputable def B8 : Code := bodyL Tryz.f8 6
noncomputable def sp4 : Nat → Nat → Split := at_ [(8, 24), (8, 29), (8, 38), (8, 41)] .bool no_
def sy4 : Nat → Nat → Bool := on_ [(8, 31), (8, 32)]
section
variable (bs ss : List Value) (t s t2 s2 n c m c2 : Nat) (ex e2 : Bool) (most : Int)
def hpC : List (CO × Bool) := [(.dead, false), (.cells bs t s ex, true), (.cells ss t2 s2 e2, true), (.dead, false)]
def S8 : Shape (Int × Int) := ⟨44, fun q => ⟨[(0, sl 1 0 n c), (2, i most), (9, i q.2), (26, sl 2 0 m c2), (27, i m), (28, i q.1)], hpC bs ss t s t2 s2 ex e2⟩, fun j q => match j with
  | 0 => (.exit 0, ⟨[], hpC bs ss t s t2 s2 ex e2⟩)
  | _ => (.ret, ⟨[(6, i q.1), (7, i 0)], hpC bs ss t s t2 s2 ex e2⟩)⟩
noncomputable def st8 (q : Int × Int) : SS (Int × Int) := .br (ltF q.1 m) (askS (bnd_ q.1 m c2) <| askS (cB ss (.i .i64) q.1) <| askS (tru (okP bs n c)) <|
  .br (!anyB bs n (eI ss q.1.toNat)) (.br (ltF most 0) (.done 5 [0, 1, 2, 3] 1) (.next 5 [0, 1, 2, 3] (wrapF .i64 (q.1 + 1), 0)))
    (.br (ltF most (wrapF .i64 (q.2 + 1))) (.done 5 [0, 1, 2, 3] 1) (.next 5 [0, 1, 2, 3] (wrapF .i64 (q.1 + 1), wrapF .i64 (q.2 + 1))))) (.done 4 [0, 1, 2, 3] 0)
noncomputable def K8 (r : Nat × Int × Int) : Cfg := ⟨T3, sp4, sy4, loopE noL 8 6 44 4 B8 ((S8 bs ss t s t2 s2 n c m c2 ex e2 most).st (0, 0)).live ((S8 bs ss t s t2 s2 n c m c2 ex e2 most).st (0, 0)).hp (finO (S8 bs ss t s t2 s2 n c m c2 ex e2 most) r [0, 1])⟩
noncomputable def o8 (r : Nat × Int × Int) : Out QRes := execO Tryz.prog 3 (K8 bs ss t s t2 s2 n c m c2 ex e2 most r) 80 (.call 8 ⟨[sl 1 0 n c, sl 2 0 m c2, i most]⟩ (heapL [.dead, .cells bs t s ex, .cells ss t2 s2 e2]))
end
section
variable {bs ss : List Value} {t s t2 s2 n c m c2 : Nat} {ex e2 : Bool} {most : Int}
theorem hpC_flat (h : bs.all Ex.flat = true) (h2 : ss.all Ex.flat = true) : ∀ o, (o, true) ∈ hpC bs ss t s t2 s2 ex e2 → FlatO o := by
  intro o ho
  simp [hpC] at ho
  rcases ho with rfl | rfl
  · exact fun x hx => List.all_eq_true.1 h x hx
  · exact fun x hx => List.all_eq_true.1 h2 x hx
theorem L8 (h : bs.all Ex.flat = true) (h2 : ss.all Ex.flat = true) : Loop1 Tryz.prog 3 8 B8 (S8 bs ss t s t2 s2 n c m c2 ex e2 most) 4 (st8 bs ss n c m c2 most) (fun _ => True) :=
  .mk' (C := fun _ => ⟨T3, sp4, sy4, noL⟩) (n := 40) (fun _ _ => ts3) (fun _ _ => .none) (fun s ro _ => by kernel_rfl) (fun s ro _ => by kernel_rfl) (fun s => by kernel_rfl) (fun _ _ _ _ => trivial) (fun _ _ => hpC_flat h h2)
    (fun s j _ _ => by cases j <;> exact ⟨hpC_flat h h2, fun h => by cases h⟩)
end
end Go.Proofs.YtdnogbdfiahcaaaGreat.Ways
namespace Go.Ex
open Go.RowKit
variable {σ : Type}
theorem Loop1.tableIf {P : Program} {G f id : Nat} {b : Code} {S : Shape σ} {k : Nat} {step : σ → SS σ} {Good : σ → Prop} {L : LTab} (h : Loop1 P G f b S k step Good) (hL : LSound P G L) (hG : G ≤ k) {s0 : σ} {r : Nat × σ} {p : Bool} (hg : Good s0) (hr : p = true → ∃ m, runS step m s0 = some r)
    (hgood : goodR k k (S.st s0).live (S.st s0).hp (List.range k) = true) (js : List Nat) : LSound P G (loopE L f id S.N k b (S.st s0).live (S.st s0).hp (.br p (finO S r js) .fail)) := by
  refine hL.loop hgood (h.flat s0 hg) fun q hq ro tm0 H0 hk hst => ?_
  have h' : cond p (finO S r js).sel none = some q := hq
  cases hp : p with
  | false => rw [hp] at h'; cases h'
  | true =>
    rw [hp] at h'
    obtain ⟨m, hm⟩ := hr hp
    rw [finO_sel h']
    exact h.run hG hg hm ro hk hst
end Go.Ex
namespace Go.Proofs.YtdnogbdfiahcaaaGreat.Ways
open Go Go.Ex Go.RowKit
/-! ### the reference's Crossing: three loops in one another -/
noncomputable def BI : Code := bodyL Tryz.f15 10
noncomputable def BM : Code := bodyL Tryz.f15 6
noncomputable def BO : Code := bodyL Tryz.f15 2
noncomputable def sp5 : Nat → Nat → Split := at_ [(15, 16), (15, 24), (15, 30), (15, 33), (15, 44), (15, 58), (15, 62)] .bool no_
def sy5 : Nat → Nat → Bool := on_ [(15, 37), (15, 38), (15, 41), (15, 43), (15, 48), (15, 49), (15, 52), (15, 54)]
section
variable (bs ss : List Value) (t s t2 s2 n c m c2 : Nat) (ex e2 : Bool) (most : Int)
def hpR : List (CO × Bool) := [(.dead, false), (.cells bs t s ex, true), (.cells ss t2 s2 e2, true)]
def SI (ii k : Int) (all : Bool) : Shape (Int × Bool) := ⟨64, fun q => ⟨[(0, sl 1 0 n c), (1, sl 2 0 m c2), (2, i most), (7, i ii), (8, b_ all), (9, i k), (10, b_ q.2), (11, i q.1)], hpR bs ss t s t2 s2 ex e2⟩, fun _ q => (.exit 4, ⟨[(0, sl 1 0 n c), (1, sl 2 0 m c2), (2, i most), (7, i ii), (8, b_ all), (9, i k), (10, b_ q.2)], hpR bs ss t s t2 s2 ex e2⟩)⟩
def stI (k : Int) (q : Int × Bool) : SS (Int × Bool) := .br (ltF q.1 n) (.br q.2 (.next 3 [0, 1, 2] (wrapF .i64 (q.1 + 1), true)) <|
  askS (bnd_ k m c2) <| askS (cB ss (.i .i64) k) <| askS (bnd_ q.1 n c) <| askS (cA bs q.1) <| .br (leF (pA bs q.1.toNat) (eI ss k.toNat))
    (askS (bnd_ k m c2) <| askS (cB ss (.i .i64) k) <| askS (bnd_ q.1 n c) <| askS (cA1 bs q.1) <| .next 3 [0, 1, 2] (wrapF .i64 (q.1 + 1), leF (eI ss k.toNat) (pB bs q.1.toNat)))
    (.next 3 [0, 1, 2] (wrapF .i64 (q.1 + 1), false))) (.done 3 [0, 1, 2] 0)
def SM (ii : Int) : Shape (Int × Bool) := ⟨64, fun q => ⟨[(0, sl 1 0 n c), (1, sl 2 0 m c2), (2, i most), (7, i ii), (8, b_ q.2), (9, i q.1)], hpR bs ss t s t2 s2 ex e2⟩, fun _ q => (.exit 2, ⟨[(0, sl 1 0 n c), (1, sl 2 0 m c2), (2, i most), (7, i ii), (8, b_ q.2)], hpR bs ss t s t2 s2 ex e2⟩)⟩
def stM (ii : Int) (q : Int × Bool) : SS (Int × Bool) := .br (leF q.1 ii) (askS (bnd_ q.1 m c2) <| askS true <| .br q.2 (.next 3 [0, 1, 2] (wrapF .i64 (q.1 + 1), anyB bs n (eI ss q.1.toNat))) (.next 3 [0, 1, 2] (wrapF .i64 (q.1 + 1), false))) (.done 3 [0, 1, 2] 0)
noncomputable def KM (ii : Int) (q : Int × Bool) : Cfg := ⟨T3, sp5, sy5, loopE noL 15 10 64 3 BI ((SI bs ss t s t2 s2 n c m c2 ex e2 most ii q.1 q.2).st (0, false)).live ((SI bs ss t s t2 s2 n c m c2 ex e2 most ii q.1 q.2).st (0, false)).hp
  (.br (bnd_ q.1 m c2) (finO (SI bs ss t s t2 s2 n c m c2 ex e2 most ii q.1 q.2) (0, ((n : Int), anyB bs n (eI ss q.1.toNat))) [0]) .fail)⟩
/-- all speeds of a window lie in a band -/
def allW (j : Nat) : Nat → Bool
  | 0 => true
  | l + 1 => allW j l && anyB bs n (eI ss (j + l))
def SO : Shape Int := ⟨64, fun q => ⟨[(0, sl 1 0 n c), (1, sl 2 0 m c2), (2, i most), (7, i q)], hpR bs ss t s t2 s2 ex e2⟩, fun j q => match j with
  | 0 => (.exit 0, ⟨[], hpR bs ss t s t2 s2 ex e2⟩)
  | _ => (.ret, ⟨[(6, i q)], hpR bs ss t s t2 s2 ex e2⟩)⟩
def inW (q : Int) : Bool := leF 0 most && (leF most q && bnd_ q m c2)
def wE (q : Int) : Bool := allW bs ss n (q - most).toNat (most.toNat + 1)
def stO (q : Int) : SS Int := .br (ltF q m) (askS (inW m c2 most q) <| askS true <| .br (wE bs ss n most q) (.done 3 [0, 1, 2] 1) (.next 3 [0, 1, 2] (wrapF .i64 (q + 1)))) (.done 3 [0, 1, 2] 0)
noncomputable def KO (q : Int) : Cfg := ⟨T3, sp5, sy5, loopE noL 15 6 64 3 BM ((SM bs ss t s t2 s2 n c m c2 ex e2 most q).st (wrapF .i64 (q - most), true)).live ((SM bs ss t s t2 s2 n c m c2 ex e2 most q).st (wrapF .i64 (q - most), true)).hp
  (.br (inW m c2 most q) (finO (SM bs ss t s t2 s2 n c m c2 ex e2 most q) (0, (q + 1, wE bs ss n most q)) [0]) .fail)⟩
noncomputable def K15 (r : Nat × Int) : Cfg := ⟨T3, sp5, sy5, loopE noL 15 2 64 3 BO ((SO bs ss t s t2 s2 n c m c2 ex e2 most).st most).live ((SO bs ss t s t2 s2 n c m c2 ex e2 most).st most).hp (finO (SO bs ss t s t2 s2 n c m c2 ex e2 most) r [0, 1])⟩
noncomputable def o15 (r : Nat × Int) : Out QRes := execO Tryz.prog 3 (K15 bs ss t s t2 s2 n c m c2 ex e2 most r) 80 (.call 15 ⟨[sl 1 0 n c, sl 2 0 m c2, i most]⟩ (heapL [.dead, .cells bs t s ex, .cells ss t2 s2 e2]))
theorem v15 (r : Nat × Int) : (o15 bs ss t s t2 s2 n c m c2 ex e2 most r).vals = .br (Nat.beq r.1 0) (.leaf (i (-1))) (.br (Nat.beq r.1 1) (.leaf (i r.2)) .fail) := by kernel_rfl
theorem x15 (r : Nat × Int) : o15 bs ss t s t2 s2 n c m c2 ex e2 most r = (o15 bs ss t s t2 s2 n c m c2 ex e2 most r).fix := by kernel_rfl
end
section
variable {bs ss : List Value} {t s t2 s2 n c m c2 : Nat} {ex e2 : Bool} {most : Int}
theorem hpR_flat (h : bs.all Ex.flat = true) (h2 : ss.all Ex.flat = true) : ∀ o, (o, true) ∈ hpR bs ss t s t2 s2 ex e2 → FlatO o := by
  intro o ho
  simp [hpR] at ho
  rcases ho with rfl | rfl
  · exact fun x hx => List.all_eq_true.1 h x hx
  · exact fun x hx => List.all_eq_true.1 h2 x hx
theorem LI (ii k : Int) (all : Bool) (h : bs.all Ex.flat = true) (h2 : ss.all Ex.flat = true) : Loop1 Tryz.prog 3 15 BI (SI bs ss t s t2 s2 n c m c2 ex e2 most ii k all) 3 (stI bs ss n c m c2 k) (fun _ => True) :=
  .mk' (C := fun _ => ⟨T3, sp5, sy5, noL⟩) (n := 40) (fun _ _ => ts3) (fun _ _ => .none) (fun s ro _ => by kernel_rfl) (fun s ro _ => by kernel_rfl) (fun s => by kernel_rfl) (fun _ _ _ _ => trivial) (fun _ _ => hpR_flat h h2)
    (fun s j _ _ => ⟨hpR_flat h h2, fun h => by cases h⟩)
theorem LM (ii : Int) (h : bs.all Ex.flat = true) (h2 : ss.all Ex.flat = true) (hL : ∀ q, LSound Tryz.prog 3 (KM bs ss t s t2 s2 n c m c2 ex e2 most ii q).L) : Loop1 Tryz.prog 3 15 BM (SM bs ss t s t2 s2 n c m c2 ex e2 most ii) 3 (stM bs ss n m c2 ii) (fun _ => True) :=
  .mk' (C := KM bs ss t s t2 s2 n c m c2 ex e2 most ii) (n := 40) (fun _ _ => ts3) (fun q _ => hL q) (fun s ro _ => by kernel_rfl) (fun s ro _ => by kernel_rfl) (fun s => by kernel_rfl) (fun _ _ _ _ => trivial) (fun _ _ => hpR_flat h h2)
    (fun s j _ _ => ⟨hpR_flat h h2, fun h => by cases h⟩)
theorem LO (h : bs.all Ex.flat = true) (h2 : ss.all Ex.flat = true) (hL : ∀ q, LSound Tryz.prog 3 (KO bs ss t s t2 s2 n c m c2 ex e2 most q).L) : Loop1 Tryz.prog 3 15 BO (SO bs ss t s t2 s2 n c m c2 ex e2 most) 3 (stO bs ss n m c2 most) (fun _ => True) :=
  .mk' (C := KO bs ss t s t2 s2 n c m c2 ex e2 most) (n := 40) (fun _ _ => ts3) (fun q _ => hL q) (fun s ro _ => by kernel_rfl) (fun s ro _ => by kernel_rfl) (fun s => by kernel_rfl) (fun _ _ _ _ => trivial) (fun _ _ => hpR_flat h h2)
    (fun s j _ _ => by cases j <;> exact ⟨hpR_flat h h2, fun h => by cases h⟩)
end
end Go.Proofs.YtdnogbdfiahcaaaGreat.Ways
namespace Go.Proofs.YtdnogbdfiahcaaaGreat.Ways
open Go Go.Ex Go.RowKit
theorem firstF_ne {e : Nat → Int} {n a : Nat} : firstF e n a ≠ 0 ↔ ∃ k, a ≤ k ∧ k < a + n ∧ e k ≠ 0 := by
  rw [Ne, firstF_zero]
  constructor
  · intro h
    apply Classical.byContradiction
    intro hc
    exact h fun k h1 h2 => Classical.byContradiction fun h3 => hc ⟨k, h1, h2, h3⟩
  · rintro ⟨k, h1, h2, h3⟩ hz
    exact h3 (hz k h1 h2)
/-- whether the first bands hold a speed -/
def inS (bs : List Value) (sp : Int) : Nat → Bool
  | 0 => false
  | j + 1 => inS bs sp j || (leF (pA bs j) sp && leF sp (pB bs j))
theorem inS_iff {bs : List Value} {sp : Int} : ∀ n, inS bs sp n = true ↔ ∃ k, k < n ∧ inE bs sp k ≠ 0
  | 0 => by
    constructor
    · intro h; cases h
    · rintro ⟨k, h, _⟩; omega
  | n + 1 => by
    have ih := inS_iff (bs := bs) (sp := sp) n
    have hn : (leF (pA bs n) sp && leF sp (pB bs n)) = true ↔ inE bs sp n ≠ 0 := by
      unfold inE
      rw [Bool.and_eq_true, leF_eq, leF_eq, decide_eq_true_eq, decide_eq_true_eq]
      by_cases h : pA bs n ≤ sp ∧ sp ≤ pB bs n
      · rw [if_pos h]; simp [h]
      · rw [if_neg h]; simp [h]
    show (inS bs sp n || _) = true ↔ _
    rw [Bool.or_eq_true, ih, hn]
    constructor
    · rintro (⟨k, h1, h2⟩ | h)
      · exact ⟨k, by omega, h2⟩
      · exact ⟨n, by omega, h⟩
    · rintro ⟨k, h1, h2⟩
      by_cases hk : k = n
      · subst hk; exact .inr h2
      · exact .inl ⟨k, by omega, h2⟩
theorem inS_any (bs : List Value) (n : Nat) (sp : Int) : inS bs sp n = anyB bs n sp := by
  have h : inS bs sp n = true ↔ anyB bs n sp = true := by
    rw [inS_iff]
    unfold anyB
    rw [decide_eq_true_eq, firstF_ne]
    constructor
    · rintro ⟨k, h1, h2⟩; exact ⟨k, by omega, by omega, h2⟩
    · rintro ⟨k, _, h1, h2⟩; exact ⟨k, by omega, h2⟩
  cases hA : inS bs sp n <;> cases hB : anyB bs n sp
  · rfl
  · rw [hA, hB] at h; exact absurd (h.2 rfl) (by decide)
  · rw [hA, hB] at h; exact absurd (h.1 rfl) (by decide)
  · rfl
theorem runI {bs ss : List Value} {n c m c2 : Nat} (h : okP bs n c) (h2 : okI ss m c2) {k : Int} (hk : bnd_ k m c2 = true) : runS (stI bs ss n c m c2 k) (n + 1) (0, false) = some (0, ((n : Int), anyB bs n (eI ss k.toNat))) := by
  have hk' := hk
  unfold bnd_ at hk'
  rw [leF_eq, ltF_eq] at hk'
  simp only [Bool.and_eq_true, decide_eq_true_eq] at hk'
  have hcB : cB ss (.i .i64) k = true := h2.2.2.2 k.toNat (by omega)
  have hl := h.2.2.1
  have hc := h.2.1
  rw [← inS_any]
  refine run_all (st := fun j => (((j : Nat) : Int), inS bs (eI ss k.toNat) j)) n (fun j hj => ?_) ?_
  · unfold stI
    dsimp only
    rw [br_t (by rw [ltF_eq]; simpa using hj)]
    cases hin : inS bs (eI ss k.toNat) j with
    | true =>
      rw [br_t rfl, wsucc (by omega)]
      show some _ = some (Sum.inl (((j + 1 : Nat) : Int), (inS bs (eI ss k.toNat) j || _)))
      rw [hin]; rfl
    | false =>
      rw [br_f rfl, askS_sel hk, askS_sel hcB, askS_sel (bnd_t hj hc), askS_sel (cA_t h hj)]
      by_cases hle : pA bs j ≤ eI ss k.toNat
      · have hle' : leF (pA bs j) (eI ss k.toNat) = true := by rw [leF_eq]; exact decide_eq_true hle
        rw [br_t (by simpa using hle'), askS_sel hk, askS_sel hcB, askS_sel (bnd_t hj hc), askS_sel (cA1_t h hj), wsucc (by omega)]
        show some _ = some (Sum.inl (((j + 1 : Nat) : Int), (inS bs (eI ss k.toNat) j || (leF (pA bs j) (eI ss k.toNat) && _))))
        rw [hin, hle']; rfl
      · have hle' : leF (pA bs j) (eI ss k.toNat) = false := by rw [leF_eq]; exact decide_eq_false hle
        rw [br_f (by simpa using hle'), wsucc (by omega)]
        show some _ = some (Sum.inl (((j + 1 : Nat) : Int), (inS bs (eI ss k.toNat) j || (leF (pA bs j) (eI ss k.toNat) && _))))
        rw [hin, hle']; rfl
  · unfold stI
    dsimp only
    rw [br_f (by rw [ltF_eq]; simp)]; rfl
theorem inW_of {m c2 : Nat} {most q : Int} (h : inW m c2 most q = true) : ∃ M a : Nat, most = M ∧ q = ((a + M : Nat) : Int) ∧ a + M < m ∧ m ≤ c2 := by
  unfold inW bnd_ at h
  simp only [leF_eq, ltF_eq, Bool.and_eq_true, decide_eq_true_eq] at h
  exact ⟨most.toNat, (q - most).toNat, by omega, by omega, by omega, by omega⟩
theorem runM {bs ss : List Value} {n m c2 : Nat} (h2 : okI ss m c2) {most q : Int} (hw : inW m c2 most q = true) : ∃ x, runS (stM bs ss n m c2 q) x (wrapF .i64 (q - most), true) = some (0, (q + 1, wE bs ss n most q)) := by
  obtain ⟨M, a, rfl, rfl, h3, h4⟩ := inW_of hw
  have hl := h2.2.2.1
  have e1 : wrapF .i64 (((a + M : Nat) : Int) - (M : Int)) = (a : Int) := by rw [wrapF_in (by omega) (by omega)]; omega
  have e2 : (((a + M : Nat) : Int) - (M : Int)).toNat = a := by omega
  rw [e1]
  unfold wE
  rw [e2]
  have key := run_all (step := stM bs ss n m c2 ((a + M : Nat) : Int)) (st := fun l => (((a + l : Nat) : Int), allW bs ss n a l)) (a := 0) (M + 1) (fun l hl' => ?_) ?_
  · refine ⟨M + 1 + 1, ?_⟩
    rw [show ((a + M : Nat) : Int) + 1 = ((a + (M + 1) : Nat) : Int) from by omega]
    exact key
  · unfold stM
    dsimp only
    rw [br_t (by rw [leF_eq]; simp; omega), askS_sel (bnd_t (by omega) h4), askS_sel rfl]
    cases hA : allW bs ss n a l with
    | true =>
      rw [br_t rfl, wsucc (by omega)]
      show some _ = some (Sum.inl (((a + (l + 1) : Nat) : Int), (allW bs ss n a l && _)))
      rw [hA]; rfl
    | false =>
      rw [br_f rfl, wsucc (by omega)]
      show some _ = some (Sum.inl (((a + (l + 1) : Nat) : Int), (allW bs ss n a l && _)))
      rw [hA]; rfl
  · unfold stM
    dsimp only
    rw [br_f (by rw [leF_eq]; simp; omega)]; rfl
def eO (bs ss : List Value) (n M j : Nat) : Int := if allW bs ss n j (M + 1) = true then ((M + j : Nat) : Int) + 1 else 0
theorem runO {bs ss : List Value} {n m c2 M : Nat} (h2 : okI ss m c2) (hM : M ≤ 1024) : ∃ r, runS (stO bs ss n m c2 M) (m - M + 1) (M : Int) = some r ∧ ((firstF (eO bs ss n M) (m - M) 0 = 0 ∧ r.1 = 0) ∨ (firstF (eO bs ss n M) (m - M) 0 ≠ 0 ∧ r.1 = 1 ∧ r.2 = firstF (eO bs ss n M) (m - M) 0 - 1)) := by
  have hl := h2.2.2.1
  have hc := h2.2.1
  have hw : ∀ j, j < m - M → inW m c2 (M : Int) ((M + j : Nat) : Int) = true := by
    intro j hj
    unfold inW
    rw [leF_eq, leF_eq, decide_eq_true (by omega), decide_eq_true (by omega), bnd_t (by omega) hc]; rfl
  have hE : ∀ j, wE bs ss n (M : Int) ((M + j : Nat) : Int) = allW bs ss n j (M + 1) := by
    intro j
    unfold wE
    rw [show (((M + j : Nat) : Int) - (M : Int)).toNat = j from by omega]; rfl
  have key := run_first (step := stO bs ss n m c2 M) (st := fun j => ((M + j : Nat) : Int)) (e := eO bs ss n M) (a := 0) (b := fun _ => 1) (m - M) (fun j hj he => ?_) (fun j hj he => ?_) ?_
  · obtain ⟨r, hr, hv⟩ := key
    refine ⟨r, hr, ?_⟩
    rcases hv with ⟨h1, rfl⟩ | ⟨h0, j, _, rfl, h3, _⟩
    · exact .inl ⟨h1, rfl⟩
    · refine .inr ⟨h0, rfl, ?_⟩
      rw [← h3]
      rw [← h3] at h0
      unfold eO at h0 ⊢
      by_cases hA : allW bs ss n j (M + 1) = true
      · rw [if_pos hA]
        show ((M + j : Nat) : Int) = _
        omega
      · rw [if_neg hA] at h0; exact absurd rfl h0
  · unfold stO
    unfold eO at he
    rw [br_t (by rw [ltF_eq]; simp; omega), askS_sel (hw j hj), askS_sel rfl, br_f, wsucc (by omega)]; · rfl
    rw [hE]
    cases hA : allW bs ss n j (M + 1) with
    | false => rfl
    | true => rw [if_pos hA] at he; omega
  · unfold stO
    unfold eO at he
    rw [br_t (by rw [ltF_eq]; simp; omega), askS_sel (hw j hj), askS_sel rfl, br_t]; · rfl
    rw [hE]
    cases hA : allW bs ss n j (M + 1) with
    | true => rfl
    | false => rw [hA] at he; exact absurd rfl he
  · unfold stO
    rw [br_f (by rw [ltF_eq]; simp; omega)]; rfl
/-! the program's counter -/
def stay (bs ss : List Value) (n : Nat) : Nat → Nat
  | 0 => 0
  | j + 1 => if anyB bs n (eI ss j) = true then stay bs ss n j + 1 else 0
theorem stay_le (bs ss : List Value) (n : Nat) : ∀ j, stay bs ss n j ≤ j
  | 0 => Nat.le_refl 0
  | j + 1 => by
    have := stay_le bs ss n j
    unfold stay
    split <;> omega
theorem stay_iff {bs ss : List Value} {n : Nat} : ∀ j l, l ≤ stay bs ss n j ↔ l ≤ j ∧ allW bs ss n (j - l) l = true
  | 0, l => by
    show l ≤ 0 ↔ _
    constructor
    · intro h
      have : l = 0 := by omega
      subst this
      exact ⟨Nat.le_refl 0, rfl⟩
    · exact fun h => h.1
  | j + 1, 0 => ⟨fun _ => ⟨Nat.zero_le _, rfl⟩, fun _ => Nat.zero_le _⟩
  | j + 1, l + 1 => by
    have ih := stay_iff (bs := bs) (ss := ss) (n := n) j l
    show l + 1 ≤ (if _ then _ else _) ↔ _ ∧ (allW bs ss n (j + 1 - (l + 1)) l && anyB bs n (eI ss (j + 1 - (l + 1) + l))) = true
    rw [show j + 1 - (l + 1) = j - l from by omega, Bool.and_eq_true]
    by_cases hl : l ≤ j
    · rw [show j - l + l = j from by omega]
      by_cases hA : anyB bs n (eI ss j) = true
      · rw [if_pos hA]
        constructor
        · intro h
          obtain ⟨g1, g2⟩ := ih.1 (by omega)
          exact ⟨by omega, g2, hA⟩
        · rintro ⟨_, g2, _⟩
          have := ih.2 ⟨hl, g2⟩
          omega
      · rw [if_neg hA]
        constructor
        · intro h; omega
        · rintro ⟨_, _, g⟩; exact absurd g hA
    · constructor
      · intro h
        have := stay_le bs ss n (j + 1)
        have h' : l + 1 ≤ stay bs ss n (j + 1) := h
        omega
      · rintro ⟨g, _⟩; omega
def e8 (bs ss : List Value) (n : Nat) (most : Int) (j : Nat) : Int := if most < stay bs ss n (j + 1) then (j : Int) + 1 else 0
theorem run8 {bs ss : List Value} {n c m c2 : Nat} (h : okP bs n c) (h2 : okI ss m c2) (most : Int) : ∃ r, runS (st8 bs ss n c m c2 most) (m + 1) (0, 0) = some r ∧ ((firstF (e8 bs ss n most) m 0 = 0 ∧ r.1 = 0) ∨ (firstF (e8 bs ss n most) m 0 ≠ 0 ∧ r.1 = 1 ∧ r.2.1 = firstF (e8 bs ss n most) m 0 - 1)) := by
  have hl := h2.2.2.1
  have hc := h2.2.1
  have hst : ∀ j, j < m → ∀ (A B C D : SS (Int × Int)), (SS.br (!anyB bs n (eI ss j)) (.br (ltF most 0) A B) (.br (ltF most (wrapF .i64 ((stay bs ss n j : Nat) + 1))) C D)).sel =
      if most < stay bs ss n (j + 1) then (if anyB bs n (eI ss j) = true then C.sel else A.sel) else (if anyB bs n (eI ss j) = true then D.sel else B.sel) := by
    intro j hj A B C D
    have hs := stay_le bs ss n j
    rw [wsucc (by omega)]
    by_cases hA : anyB bs n (eI ss j) = true
    · have e1 : stay bs ss n (j + 1) = stay bs ss n j + 1 := by show (if _ then _ else _) = _; rw [if_pos hA]
      rw [br_f (by rw [hA]; rfl), e1, if_pos hA, if_pos hA]
      by_cases hm : most < ((stay bs ss n j + 1 : Nat) : Int)
      · rw [br_t (by rw [ltF_eq]; exact decide_eq_true hm), if_pos hm]
      · rw [br_f (by rw [ltF_eq]; exact decide_eq_false hm), if_neg hm]
    · have e1 : stay bs ss n (j + 1) = 0 := by show (if _ then _ else _) = _; rw [if_neg hA]
      have hA' : anyB bs n (eI ss j) = false := by simpa using hA
      rw [br_t (by rw [hA']; rfl), e1, if_neg hA, if_neg hA]
      by_cases hm : most < ((0 : Nat) : Int)
      · rw [br_t (by rw [ltF_eq]; exact decide_eq_true (by simpa using hm)), if_pos hm]
      · rw [br_f (by rw [ltF_eq]; exact decide_eq_false (by simpa using hm)), if_neg hm]
  have key := run_first (step := st8 bs ss n c m c2 most) (st := fun j => (((j : Nat) : Int), ((stay bs ss n j : Nat) : Int))) (e := e8 bs ss n most) (a := 0) (b := fun _ => 1) m (fun j hj he => ?_) (fun j hj he => ?_) ?_
  · obtain ⟨r, hr, hv⟩ := key
    refine ⟨r, hr, ?_⟩
    rcases hv with ⟨h1, rfl⟩ | ⟨h0, j, _, rfl, h3, _⟩
    · exact .inl ⟨h1, rfl⟩
    · refine .inr ⟨h0, rfl, ?_⟩
      rw [← h3]
      rw [← h3] at h0
      unfold e8 at h0 ⊢
      by_cases hA : most < stay bs ss n (j + 1)
      · rw [if_pos hA]
        show (j : Int) = _
        omega
      · rw [if_neg hA] at h0; exact absurd rfl h0
  · unfold st8
    unfold e8 at he
    have hm : ¬ most < stay bs ss n (j + 1) := fun hm => by rw [if_pos hm] at he; omega
    rw [br_t (by rw [ltF_eq]; simpa using hj), askS_sel (bnd_t hj hc), askS_sel (by exact h2.2.2.2 j hj), askS_sel (tru_iff.2 h)]
    refine (hst j hj _ _ _ _).trans ?_
    have hs := stay_le bs ss n j
    rw [if_neg hm, wsucc (by omega)]
    by_cases hA : anyB bs n (eI ss j) = true
    · rw [if_pos hA]
      show some (Sum.inl (((j + 1 : Nat) : Int), wrapF .i64 ((stay bs ss n j : Nat) + 1))) = some (Sum.inl (((j + 1 : Nat) : Int), (((if _ then _ else _ : Nat) : Nat) : Int)))
      rw [wsucc (by omega), if_pos hA]
    · rw [if_neg hA]
      show some (Sum.inl (((j + 1 : Nat) : Int), (0 : Int))) = some (Sum.inl (((j + 1 : Nat) : Int), (((if _ then _ else _ : Nat) : Nat) : Int)))
      rw [if_neg hA]; rfl
  · unfold st8
    unfold e8 at he
    have hm : most < stay bs ss n (j + 1) := Classical.byContradiction fun hm => by rw [if_neg hm] at he; exact he rfl
    rw [br_t (by rw [ltF_eq]; simpa using hj), askS_sel (bnd_t hj hc), askS_sel (by exact h2.2.2.2 j hj), askS_sel (tru_iff.2 h)]
    refine (hst j hj _ _ _ _).trans ?_
    rw [if_pos hm]
    split <;> rfl
  · unfold st8
    rw [br_f (by rw [ltF_eq]; simp)]; rfl
/-- both find the same index -/
theorem firstF_split {e : Nat → Int} : ∀ (a b j : Nat), (∀ k, j ≤ k → k < j + a → e k = 0) → firstF e (a + b) j = firstF e b (j + a)
  | 0, b, j, _ => by rw [Nat.zero_add, Nat.add_zero]
  | a + 1, b, j, h => by
    rw [show a + 1 + b = (a + b) + 1 from by omega]
    show (if e j ≠ 0 then e j else firstF e (a + b) (j + 1)) = _
    rw [if_neg (by simpa using h j (Nat.le_refl j) (by omega)), firstF_split a b (j + 1) (fun k h1 h2 => h k (by omega) (by omega)), show j + 1 + a = j + (a + 1) from by omega]
theorem firstF_shift {e e' : Nat → Int} (d : Nat) : ∀ (n j : Nat), (∀ k, j ≤ k → k < j + n → e (k + d) = e' k) → firstF e n (j + d) = firstF e' n j
  | 0, _, _ => rfl
  | n + 1, j, h => by
    show (if e (j + d) ≠ 0 then e (j + d) else firstF e n (j + d + 1)) = (if e' j ≠ 0 then e' j else firstF e' n (j + 1))
    rw [h j (Nat.le_refl j) (by omega), show j + d + 1 = j + 1 + d from by omega, firstF_shift d n (j + 1) (fun k h1 h2 => h k (by omega) (by omega))]
theorem e8_eO (bs ss : List Value) (n m M : Nat) : firstF (e8 bs ss n M) m 0 = firstF (eO bs ss n M) (m - M) 0 := by
  have hz : ∀ j, j < M → e8 bs ss n M j = 0 := by
    intro j hj
    unfold e8
    have := stay_le bs ss n (j + 1)
    rw [if_neg (by omega)]
  by_cases hm : m < M
  · rw [(firstF_zero m 0).2 fun k _ hk => hz k (by omega), show m - M = 0 from by omega]; rfl
  · have h1 := firstF_split (e := e8 bs ss n M) M (m - M) 0 fun k _ hk => hz k (by omega)
    rw [show M + (m - M) = m from by omega] at h1
    rw [h1]
    refine firstF_shift M (m - M) 0 fun k _ _ => ?_
    unfold e8 eO
    have h2 := stay_iff (bs := bs) (ss := ss) (n := n) (k + M + 1) (M + 1)
    rw [show k + M + 1 - (M + 1) = k from by omega] at h2
    by_cases hA : allW bs ss n k (M + 1) = true
    · have := h2.2 ⟨by omega, hA⟩
      rw [if_pos hA, if_pos (by omega)]
      omega
    · rw [if_neg hA, if_neg]
      intro hh
      exact hA (h2.1 (by omega)).2
end Go.Proofs.YtdnogbdfiahcaaaGreat.Ways
