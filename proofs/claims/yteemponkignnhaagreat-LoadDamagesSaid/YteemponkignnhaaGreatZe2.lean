import Derived.Test.YteemponkignnhaaGreatZe1
import Derived.Test.YteemponkignnhaaGreatLc3
import Derived.Test.YteemponkignnhaaGreatLc1
import Derived.Test.YteemponkignnhaaGreatLf4
set_option maxRecDepth 10000
noncomputable section
namespace Go.Proofs.YteemponkignnhaaGreat.Ways
open Go Go.Ex Go.RowKit Go.Turn
noncomputable def B70 : Code := bodyL Tryz.f13 4
noncomputable def C70 : Cfg := ⟨TX9, at_ [(13, 11), (13, 41), (13, 53), (13, 65)] .bool no_, on_ [(13, 18), (13, 24), (13, 30), (13, 36), (13, 47), (13, 52), (13, 59), (13, 64), (13, 16), (13, 22), (13, 28), (13, 34), (13, 45), (13, 50), (13, 57), (13, 62)], noL⟩
def c1F (cs : List Value) (j : Int) (k : Nat) : Bool := isCellB (.i .i64) cs[0 + j.toNat * 4 + k]?
def e70 (cs : List Value) (j : Nat) : Int := fst4 (rgE (f_ cs j 0) 0 39999) (rgE (f_ cs j 1) 0 39999) (ldE (f_ cs j 2)) (ldE (f_ cs j 3))
section
variable (cs : List Value) (t s n c : Nat) (ex : Bool)
def S70 : Shape Int := ⟨67, fun j => ⟨[(0, sl 1 0 n c), (3, i j)], hpI cs t s ex⟩, fun k j => match k with
  | 0 => (.exit 0, ⟨[], hpI cs t s ex⟩)
  | 1 => (.ret, ⟨[(2, i (e70 cs j.toNat))], hpI cs t s ex⟩)
  | _ => (.ret, ⟨[(2, i 11)], hpI cs t s ex⟩)⟩
def a70 (j : Int) (k : Nat) (u : SS Int) : SS Int := askS (bnd_ j n c) (askS (c1F cs j k) u)
noncomputable def st70 (j : Int) : SS Int := .br (ltF j n) (a70 cs n c j 0 <| a70 cs n c j 1 <| a70 cs n c j 2 <| a70 cs n c j 3 <|
  askS (tru (okI [i (rgE (f_ cs j.toNat 0) 0 39999), i (rgE (f_ cs j.toNat 1) 0 39999), i (ldE (f_ cs j.toNat 2)), i (ldE (f_ cs j.toNat 3))] 4 4)) <| .br (!eqF (e70 cs j.toNat) 0) (.done 3 [0, 1] 1) <|
  a70 cs n c j 0 <| a70 cs n c j 1 <| .br (leF (f_ cs j.toNat 1) (f_ cs j.toNat 0)) (.done 3 [0, 1] 2) <| a70 cs n c j 2 <| a70 cs n c j 3 <| .br (leF (f_ cs j.toNat 3) (f_ cs j.toNat 2)) (.done 3 [0, 1] 2) (.next 3 [0, 1] (wrapF .i64 (j + 1)))) (.done 2 [0, 1] 0)
end
section
variable {cs : List Value} {t s n c : Nat} {ex : Bool}
theorem L70 (h : cs.all Ex.flat = true) : Loop1 Tryz.prog 2 13 B70 (S70 cs t s n c ex) 2 (st70 cs n c) (fun _ => True) :=
  .mk' (C := fun _ => C70) (n := 60) (fun _ _ => tsX9) (fun _ _ => .none) (fun q ro _ => by kernel_rfl) (fun q ro _ => by kernel_rfl) (fun q => by kernel_rfl) (fun _ _ _ _ => trivial)
    (fun _ _ => hpI_flat h) (fun q k _ _ => by
      match k with
      | 0 => exact ⟨hpI_flat h, fun h => by cases h⟩
      | 1 => exact ⟨hpI_flat h, fun h => by cases h⟩
      | k + 2 => exact ⟨hpI_flat h, fun h => by cases h⟩)
end
structure Cy1 (cs : List Value) (j : Nat) : Prop where
  b0 : 0 ≤ f_ cs j 0 ∧ f_ cs j 0 ≤ 39999
  b1 : 0 ≤ f_ cs j 1 ∧ f_ cs j 1 ≤ 39999
  b2 : -32768 ≤ f_ cs j 2 ∧ f_ cs j 2 ≤ 32768
  b3 : -32768 ≤ f_ cs j 3 ∧ f_ cs j 3 ≤ 32768
  lt0 : f_ cs j 0 < f_ cs j 1
  lt2 : f_ cs j 2 < f_ cs j 3
theorem a70_sel {cs : List Value} {n c j : Nat} (h : okF cs n c) (hj : j < n) (k : Nat) (hk : k < 4) (u : SS Int) : (a70 cs n c (j : Int) k u).sel = u.sel := by
  unfold a70
  rw [askS_sel (bnd_t hj h.2.1), askS_sel (show c1F cs (j : Int) k = true from by
    unfold c1F
    rw [show ((j : Nat) : Int).toNat = j from rfl, okF_at h hj k hk]; rfl)]
section
variable (cs : List Value) (t s n c : Nat) (ex : Bool)
noncomputable def K70 (r : Nat × Int) : Cfg := ⟨TX9, at_ [(13, 7)] .bool no_, off_, loopE noL 13 4 67 2 B70 ((S70 cs t s n c ex).st 0).live ((S70 cs t s n c ex).st 0).hp (finO (S70 cs t s n c ex) r [0, 1, 2])⟩
noncomputable def o70 (r : Nat × Int) : Out QRes := execO Tryz.prog 2 (K70 cs t s n c ex r) 60 (.call 13 ⟨[sl 1 0 n c]⟩ (heapL (deads ++ [.cells cs t s ex])))
theorem v70 (r : Nat × Int) : (o70 cs t s n c ex r).vals = .br (ltF 40000 n) (.leaf (i 5)) (.br (Nat.beq r.1 0) (.leaf (i 0)) (.br (Nat.beq r.1 1) (.leaf (i (e70 cs r.2.toNat))) (.br (Nat.beq r.1 2) (.leaf (i 11)) .fail))) := by kernel_rfl
theorem x70 (r : Nat × Int) : o70 cs t s n c ex r = (o70 cs t s n c ex r).fix := by kernel_rfl
end
def GcE (cs : List Value) (n c : Nat) : Prop := okF cs n c ∧ n ≤ 40000 ∧ ∀ j, j < n → Cy1 cs j
end Go.Proofs.YteemponkignnhaaGreat.Ways
set_option maxRecDepth 10000
noncomputable section
namespace Go.Proofs.YteemponkignnhaaGreat.Ways
open Go Go.Ex Go.RowKit Go.Turn
def both : List Cy → List Pt
  | [] => []
  | q :: r => q.1 :: q.2 :: both r
theorem both_app : ∀ a b : List Cy, both (a ++ b) = both a ++ both b
  | [], _ => rfl
  | q :: r, b => by show q.1 :: q.2 :: both (r ++ b) = _; rw [both_app r b]; rfl
def Alt : List Pt → Prop
  | c :: b :: a :: T => turns a.2 b.2 c.2 = true ∧ Alt (b :: a :: T)
  | [c, b] => c.2 ≠ b.2
  | _ => True
theorem turns_iff {a b c : Int} : turns a b c = true ↔ (a < b ∧ c < b) ∨ (b < a ∧ b < c) := by
  unfold turns
  rw [Bool.or_eq_true, Bool.and_eq_true, Bool.and_eq_true, decide_eq_true_eq, decide_eq_true_eq, decide_eq_true_eq, decide_eq_true_eq]
theorem Alt.tail {p : Pt} : ∀ {S : List Pt}, Alt (p :: S) → Alt S
  | [], _ => trivial
  | [_], _ => trivial
  | _ :: _ :: _, h => h.2
theorem Alt.ne {p q : Pt} {S : List Pt} (h : Alt (p :: q :: S)) : p.2 ≠ q.2 := by
  cases S with
  | nil => exact h
  | cons r S => have := turns_iff.1 h.1; omega
def Bd (p : Pt) : Prop := 0 ≤ p.1 ∧ p.1 ≤ 39999 ∧ -32768 ≤ p.2 ∧ p.2 ≤ 32768
structure Rev (R : List Pt) : Prop where
  bd : ∀ p ∈ R, Bd p
  dn : R.Pairwise (fun x y => y.1 < x.1)
  alt : Alt R
theorem Rev.tail {p : Pt} {R : List Pt} (h : Rev (p :: R)) : Rev R := ⟨fun q hq => h.bd q (List.mem_cons_of_mem _ hq), (List.pairwise_cons.1 h.dn).2, h.alt.tail⟩
def upN (lv : Int) (x y : Pt) : Nat := if x.2 ≤ lv ∧ lv < y.2 then 1 else 0
def upsR (lv : Int) : List Pt → Nat
  | y :: x :: r => upN lv x y + upsR lv (x :: r)
  | _ => 0
def upC (lv : Int) (q : Cy) : Bool := decide (min q.1.2 q.2.2 ≤ lv ∧ lv < max q.1.2 q.2.2)
def upCs (lv : Int) : List Cy → Nat
  | [] => 0
  | q :: r => cond (upC lv q) 1 0 + upCs lv r
theorem upCs_app (lv : Int) : ∀ a b : List Cy, upCs lv (a ++ b) = upCs lv a + upCs lv b
  | [], _ => (Nat.zero_add _).symm
  | q :: r, b => by
    show cond (upC lv q) 1 0 + upCs lv (r ++ b) = cond (upC lv q) 1 0 + upCs lv r + upCs lv b
    rw [upCs_app lv r b]; omega
structure CI (R S : List Pt) (C : List Cy) : Prop where
  perm : (S ++ both C).Perm R
  sub : S.Sublist R
  alt : Alt S
  cyc : ∀ q ∈ C, q.1.1 < q.2.1 ∧ q.1.2 ≠ q.2.2
  cr : ∀ lv, upsR lv S + upCs lv C = upsR lv R
  top : ∀ p R', R = p :: R' → ∃ S', S = p :: S' ∧ ∀ q R'', R' = q :: R'' → ∃ r S'', S' = r :: S'' ∧ (r.2 < p.2 ↔ q.2 < p.2)
def NoC : List Pt → Prop
  | d :: c :: b :: a :: T => nst a b c d = false ∧ NoC (c :: b :: a :: T)
  | _ => True
theorem CI.nil : CI [] [] [] := ⟨.refl _, .refl _, trivial, fun _ h => (by cases h), fun _ => rfl, fun _ _ h => (by cases h)⟩
theorem CI.push {R S : List Pt} {C : List Cy} {p : Pt} (h : CI R S C) (hr : Rev (p :: R)) : CI (p :: R) (p :: S) C := by
  refine ⟨h.perm.cons p, h.sub.cons_cons p, ?_, h.cyc, fun lv => ?_, fun p' R' e => ?_⟩
  · cases R with
    | nil =>
      have : S = [] := List.sublist_nil.1 h.sub
      subst this; trivial
    | cons p0 R' =>
      obtain ⟨S', rfl, h2⟩ := h.top p0 R' rfl
      cases R' with
      | nil =>
        have : S' = [] := by
          have := h.sub.length_le
          simpa using this
        subst this
        exact hr.alt
      | cons q R'' =>
        obtain ⟨r, S'', rfl, h3⟩ := h2 q R'' rfl
        refine ⟨turns_iff.2 ?_, h.alt⟩
        have a1 := turns_iff.1 hr.alt.1
        have a2 := h.alt.ne
        omega
  · have hcr := h.cr lv
    cases R with
    | nil =>
      have : S = [] := List.sublist_nil.1 h.sub
      subst this; exact hcr
    | cons p0 R' =>
      obtain ⟨S', rfl, _⟩ := h.top p0 R' rfl
      show upN lv p0 p + upsR lv (p0 :: S') + upCs lv C = upN lv p0 p + upsR lv (p0 :: R')
      omega
  · cases e
    refine ⟨S, rfl, fun q R'' e => ?_⟩
    subst e
    obtain ⟨S', rfl, _⟩ := h.top q R'' rfl
    exact ⟨q, S', rfl, Iff.rfl⟩
theorem difQ_abs {x y : Int} (h1 : -32768 ≤ x ∧ x ≤ 32768) (h2 : -32768 ≤ y ∧ y ≤ 32768) : difQ x y = if x < y then y - x else x - y := by
  unfold difQ maxQ
  rw [wrapF_in (by omega) (by omega), wrapF_in (by omega) (by omega)]
  by_cases h : x < y
  · rw [if_pos (by omega), if_pos h]
  · by_cases h' : x = y
    · rw [if_neg (by omega), if_neg h]
    · rw [if_neg (by omega), if_neg h]
theorem nst_iff {a b c d : Pt} (_ : Bd a) (_ : Bd b) (_ : Bd c) (_ : Bd d) : nst a b c d = true ↔ difQ b.2 c.2 ≤ difQ a.2 b.2 ∧ difQ b.2 c.2 ≤ difQ c.2 d.2 := by
  unfold nst minQ
  rw [leF_eq, decide_eq_true_eq]
  split <;> omega
theorem CI.pop {R T : List Pt} {C : List Cy} {p a b c : Pt} (h : CI (p :: R) (p :: c :: b :: a :: T) C) (hr : Rev (p :: R)) (hn : nst a b c p = true) : CI (p :: R) (p :: a :: T) (C ++ [(b, c)]) := by
  have mem : ∀ x ∈ (p :: c :: b :: a :: T), Bd x := fun x hx => hr.bd x (h.sub.subset hx)
  have hp := mem p (by simp)
  have hc := mem c (by simp)
  have hb := mem b (by simp)
  have ha := mem a (by simp)
  obtain ⟨n1, n2⟩ := (nst_iff ha hb hc hp).1 hn
  rw [difQ_abs hb.2.2 hc.2.2, difQ_abs ha.2.2 hb.2.2] at n1
  rw [difQ_abs hb.2.2 hc.2.2, difQ_abs hc.2.2 hp.2.2] at n2
  have t1 := turns_iff.1 h.alt.1
  have t2 := turns_iff.1 h.alt.2.1
  have hdn := hr.dn.sublist h.sub
  have hcase : (a.2 ≤ c.2 ∧ c.2 < b.2 ∧ b.2 ≤ p.2) ∨ (p.2 ≤ b.2 ∧ b.2 < c.2 ∧ c.2 ≤ a.2) := by
    clear h hr hn mem hp hc hb ha hdn
    by_cases g1 : b.2 < c.2
    · rw [if_pos g1] at n1 n2
      rw [if_neg (by omega)] at n1 n2
      omega
    · rw [if_neg g1] at n1 n2
      rw [if_pos (by omega)] at n1 n2
      omega
  clear n1 n2
  refine ⟨?_, (List.Sublist.cons_cons p (by exact ((List.sublist_cons_self b _).trans (List.sublist_cons_self c _)))).trans h.sub, ?_, fun q hq => ?_, fun lv => ?_, fun p' R' e => ?_⟩
  · refine List.Perm.trans ?_ h.perm
    rw [both_app, List.perm_iff_count]
    intro x
    simp only [both, List.count_append, List.count_cons, List.count_nil]
    omega
  · have h3 : Alt (b :: a :: T) := h.alt.2.2
    cases T with
    | nil => show p.2 ≠ a.2; omega
    | cons t T =>
      have t3 := turns_iff.1 h3.1
      refine ⟨turns_iff.2 ?_, h3.2⟩
      omega
  · rcases List.mem_append.1 hq with hq | hq
    · exact h.cyc q hq
    · rw [List.mem_singleton] at hq
      subst hq
      have := (List.pairwise_cons.1 (List.pairwise_cons.1 hdn).2).1 b (by simp)
      exact ⟨this, show b.2 ≠ c.2 by omega⟩
  · have hcr := h.cr lv
    rw [upCs_app]
    have e1 : upsR lv (p :: c :: b :: a :: T) = upN lv c p + (upN lv b c + (upN lv a b + upsR lv (a :: T))) := rfl
    have e2 : upsR lv (p :: a :: T) = upN lv a p + upsR lv (a :: T) := rfl
    have e3 : upCs lv [(b, c)] = if min b.2 c.2 ≤ lv ∧ lv < max b.2 c.2 then 1 else 0 := by
      show cond (upC lv (b, c)) 1 0 + 0 = _
      unfold upC
      by_cases hh : min b.2 c.2 ≤ lv ∧ lv < max b.2 c.2
      · rw [if_pos hh, decide_eq_true hh]; rfl
      · rw [if_neg hh, decide_eq_false hh]; rfl
    rw [e1] at hcr
    rw [e2, e3]
    have key : upN lv c p + (upN lv b c + upN lv a b) = upN lv a p + (if min b.2 c.2 ≤ lv ∧ lv < max b.2 c.2 then 1 else 0) := by
      unfold upN
      rcases hcase with hh | hh
      · rw [Int.min_eq_right (by omega), Int.max_eq_left (by omega)]
        repeat' split
        all_goals omega
      · rw [Int.min_eq_left (by omega), Int.max_eq_right (by omega)]
        repeat' split
        all_goals omega
    omega
  · cases e
    obtain ⟨S', e2, h3⟩ := h.top p R rfl
    cases e2
    refine ⟨a :: T, rfl, fun q R'' e => ?_⟩
    obtain ⟨r, S'', e4, h5⟩ := h3 q R'' e
    cases e4
    exact ⟨a, T, rfl, by omega⟩
def clo (p : Pt) : List Pt → Prop
  | c :: b :: a :: _ => nst a b c p = false
  | _ => True
theorem rd_ind {p : Pt} {Q : List Pt → List Cy → Prop} (hs : ∀ a b c T C, nst a b c p = true → Q (c :: b :: a :: T) C → Q (a :: T) (C ++ [(b, c)])) : ∀ (n : Nat) (S : List Pt) (C : List Cy), S.length ≤ n → Q S C → Q (rd p S C).1 (rd p S C).2 ∧ clo p (rd p S C).1
  | _, [], _, _, h => ⟨h, trivial⟩
  | _, [_], _, _, h => ⟨h, trivial⟩
  | _, [_, _], _, _, h => ⟨h, trivial⟩
  | 0, _ :: _ :: _ :: _, _, h, _ => by simp at h
  | n + 1, c :: b :: a :: T, C, h, hq => by
    rw [rd]
    cases hn : nst a b c p with
    | false => exact ⟨hq, hn⟩
    | true => exact rd_ind hs n (a :: T) (C ++ [(b, c)]) (by simp at h ⊢; omega) (hs a b c T C hn hq)
def cntR : List Pt → List Pt × List Cy
  | [] => ([], [])
  | p :: R => psh (cntR R) p
theorem cnt_R (cs : List Value) : ∀ j, cnt cs j = cntR (pts cs j).reverse
  | 0 => rfl
  | j + 1 => by
    show psh (cnt cs j) _ = cntR (pts cs j ++ [(pA cs j, pB cs j)]).reverse
    rw [List.reverse_append, cnt_R cs j]; rfl
theorem NoC.tail {p : Pt} : ∀ {S : List Pt}, NoC (p :: S) → NoC S
  | [], _ => trivial
  | [_], _ => trivial
  | [_, _], _ => trivial
  | _ :: _ :: _ :: _, h => h.2
theorem NoC.cons {p : Pt} : ∀ {S : List Pt}, NoC S → clo p S → NoC (p :: S)
  | [], _, _ => trivial
  | [_], _, _ => trivial
  | [_, _], _, _ => trivial
  | _ :: _ :: _ :: _, h, hc => ⟨hc, h⟩
theorem cntR_inv : ∀ {R : List Pt}, Rev R → CI R (cntR R).1 (cntR R).2 ∧ NoC (cntR R).1
  | [], _ => ⟨.nil, trivial⟩
  | p :: R, hr => by
    obtain ⟨h1, h2⟩ := cntR_inv hr.tail
    have key := rd_ind (p := p) (Q := fun S C => CI (p :: R) (p :: S) C ∧ NoC S) (fun a b c T C hn hq => ⟨hq.1.pop hr hn, hq.2.tail.tail⟩) _ (cntR R).1 (cntR R).2 (Nat.le_refl _) ⟨h1.push hr, h2⟩
    exact ⟨key.1.1, key.1.2.cons key.2⟩
end Go.Proofs.YteemponkignnhaaGreat.Ways
set_option maxRecDepth 10000
noncomputable section
namespace Go.Proofs.YteemponkignnhaaGreat.Ways
open Go Go.Ex Go.RowKit Go.Turn
theorem rev_cons {p : Pt} {R : List Pt} : Rev (p :: R) ↔ Bd p ∧ Rev R ∧ (∀ q R', R = q :: R' → q.1 < p.1 ∧ p.2 ≠ q.2 ∧ ∀ r R'', R' = r :: R'' → turns r.2 q.2 p.2 = true) := by
  constructor
  · intro h
    refine ⟨h.bd p (List.mem_cons_self ..), h.tail, fun q R' e => ?_⟩
    subst e
    refine ⟨(List.pairwise_cons.1 h.dn).1 q (by simp), h.alt.ne, fun r R'' e => ?_⟩
    subst e
    exact h.alt.1
  · rintro ⟨h1, h2, h3⟩
    refine ⟨fun x hx => ?_, List.pairwise_cons.2 ⟨fun x hx => ?_, h2.dn⟩, ?_⟩
    · rcases List.mem_cons.1 hx with rfl | hx
      · exact h1
      · exact h2.bd x hx
    · cases R with
      | nil => cases hx
      | cons q R' =>
        have h4 := (h3 q R' rfl).1
        rcases List.mem_cons.1 hx with rfl | hx
        · exact h4
        · have := (List.pairwise_cons.1 h2.dn).1 x hx
          omega
    · cases R with
      | nil => trivial
      | cons q R' =>
        cases R' with
        | nil => exact (h3 q [] rfl).2.1
        | cons r R'' => exact ⟨(h3 q _ rfl).2.2 r R'' rfl, h2.alt⟩
theorem rv_zero {a b : Int} : rvE a b = 0 ↔ Bd (a, b) := by
  have hb : Bd (a, b) ↔ (0 ≤ a ∧ a ≤ 39999) ∧ (-32768 ≤ b ∧ b ≤ 32768) := ⟨fun h => ⟨⟨h.1, h.2.1⟩, h.2.2⟩, fun h => ⟨h.1.1, h.1.2, h.2⟩⟩
  rw [hb]
  unfold rvE
  rw [fst2_eq]
  have h1 : ixE a = if 0 ≤ a ∧ a ≤ 39999 then 0 else 3 := rfl
  have h2 : ldE b = if -32768 ≤ b ∧ b ≤ 32768 then 0 else 3 := rfl
  rw [h1, h2]
  by_cases g1 : 0 ≤ a ∧ a ≤ 39999 <;> by_cases g2 : -32768 ≤ b ∧ b ≤ 32768 <;> simp [g1, g2]
theorem e18_zero {cs : List Value} {j : Nat} : e18 cs j = 0 ↔ Bd (pA cs j, pB cs j) ∧ (0 < j → pA cs (j - 1) < pA cs j ∧ pB cs j ≠ pB cs (j - 1) ∧ (1 < j → turns (pB cs (j - 2)) (pB cs (j - 1)) (pB cs j) = true)) := by
  rw [e18_eq, ← rv_zero]
  by_cases h1 : rvE (pA cs j) (pB cs j) = 0
  · rw [if_neg (fun hh => hh h1)]
    unfold cbE
    by_cases h2 : j = 0
    · rw [if_pos h2]; exact ⟨fun _ => ⟨h1, fun h => absurd h (by omega)⟩, fun _ => rfl⟩
    · rw [if_neg h2]
      by_cases h3 : pA cs j ≤ pA cs (j - 1)
      · rw [if_pos h3]
        refine ⟨fun h => (by cases h), fun h => ?_⟩
        have := (h.2 (by omega)).1
        omega
      · rw [if_neg h3]
        by_cases h4 : pB cs (j - 1) = pB cs j
        · rw [if_pos h4]
          exact ⟨fun h => (by cases h), fun h => absurd h4.symm (h.2 (by omega)).2.1⟩
        · rw [if_neg h4]
          by_cases h5 : 1 < j
          · rw [if_pos h5]
            by_cases h6 : turns (pB cs (j - 2)) (pB cs (j - 1)) (pB cs j) = true
            · rw [if_pos h6]
              exact ⟨fun _ => ⟨h1, fun _ => ⟨by omega, fun e => h4 e.symm, fun _ => h6⟩⟩, fun _ => rfl⟩
            · rw [if_neg h6]
              exact ⟨fun h => (by cases h), fun h => absurd ((h.2 (by omega)).2.2 h5) h6⟩
          · rw [if_neg h5]
            exact ⟨fun _ => ⟨h1, fun _ => ⟨by omega, fun e => h4 e.symm, fun h => absurd h h5⟩⟩, fun _ => rfl⟩
  · rw [if_pos h1]
    exact ⟨fun h => absurd h h1, fun h => absurd h.1 h1⟩
theorem rev_iff (cs : List Value) : ∀ n, (∀ j, j < n → e18 cs j = 0) ↔ Rev (pts cs n).reverse
  | 0 => ⟨fun _ => ⟨fun p h => (by cases h), .nil, trivial⟩, fun _ j h => absurd h (by omega)⟩
  | n + 1 => by
    have e : (pts cs (n + 1)).reverse = (pA cs n, pB cs n) :: (pts cs n).reverse := by
      show (pts cs n ++ [(pA cs n, pB cs n)]).reverse = _
      rw [List.reverse_append]; rfl
    rw [e, rev_cons, ← rev_iff cs n]
    have hlast : (∀ j, j < n + 1 → e18 cs j = 0) ↔ e18 cs n = 0 ∧ ∀ j, j < n → e18 cs j = 0 :=
      ⟨fun h => ⟨h n (by omega), fun j hj => h j (by omega)⟩, fun h j hj => by
        by_cases e : j = n
        · rw [e]; exact h.1
        · exact h.2 j (by omega)⟩
    rw [hlast, e18_zero]
    have hd : (∀ q R', (pts cs n).reverse = q :: R' → q.1 < pA cs n ∧ pB cs n ≠ q.2 ∧ ∀ r R'', R' = r :: R'' → turns r.2 q.2 (pB cs n) = true) ↔
        (0 < n → pA cs (n - 1) < pA cs n ∧ pB cs n ≠ pB cs (n - 1) ∧ (1 < n → turns (pB cs (n - 2)) (pB cs (n - 1)) (pB cs n) = true)) := by
      cases n with
      | zero => exact ⟨fun _ h => absurd h (by omega), fun _ q R' h => (by cases h)⟩
      | succ n =>
        have e1 : (pts cs (n + 1)).reverse = (pA cs n, pB cs n) :: (pts cs n).reverse := by
          show (pts cs n ++ [(pA cs n, pB cs n)]).reverse = _
          rw [List.reverse_append]; rfl
        rw [e1, Nat.add_sub_cancel]
        constructor
        · intro h _
          obtain ⟨h1, h2, h3⟩ := h _ _ rfl
          refine ⟨h1, h2, fun h4 => ?_⟩
          cases n with
          | zero => omega
          | succ n =>
            have e2 : (pts cs (n + 1)).reverse = (pA cs n, pB cs n) :: (pts cs n).reverse := by
              show (pts cs n ++ [(pA cs n, pB cs n)]).reverse = _
              rw [List.reverse_append]; rfl
            have := h3 _ _ e2
            rw [show n + 1 + 1 - 2 = n from by omega]
            exact this
        · intro h q R' e2
          cases e2
          obtain ⟨h1, h2, h3⟩ := h (by omega)
          refine ⟨h1, h2, fun r R'' e3 => ?_⟩
          cases n with
          | zero => cases e3
          | succ n =>
            have e4 : (pts cs (n + 1)).reverse = (pA cs n, pB cs n) :: (pts cs n).reverse := by
              show (pts cs n ++ [(pA cs n, pB cs n)]).reverse = _
              rw [List.reverse_append]; rfl
            rw [e4] at e3
            cases e3
            have := h3 (by omega)
            rwa [show n + 1 + 1 - 2 = n from by omega] at this
    rw [hd]
    exact ⟨fun h => ⟨h.1.1, h.2, h.1.2⟩, fun h => ⟨⟨h.1, h.2.2⟩, h.2.1⟩⟩
theorem firstF_zr {e : Nat → Int} {n : Nat} : firstF e n 0 = 0 ↔ ∀ j, j < n → e j = 0 :=
  ⟨fun h j hj => by have := firstF_all h j hj; rwa [Nat.zero_add] at this, fun h => firstF_z0 fun j hj => by rw [Nat.zero_add]; exact h j hj⟩
theorem cr_rev {cs : List Value} {n : Nat} (hn : n ≤ 40000) : crE cs n = 0 ↔ Rev (pts cs n).reverse := by
  unfold crE
  rw [if_neg (by omega), firstF_zr, rev_iff]
theorem cr_flat {P : List Pt} (hn : P.length ≤ 40000) : crE (flatP P) P.length = 0 ↔ Rev P.reverse := by
  rw [cr_rev hn, pts_flat P _ (Nat.le_refl _), List.take_length]
end Go.Proofs.YteemponkignnhaaGreat.Ways
set_option maxRecDepth 10000
noncomputable section
namespace Go.Proofs.YteemponkignnhaaGreat.Ways
open Go Go.Ex Go.RowKit Go.Turn
theorem ps_rev {D : List Pt} {p : Pt} (h : Rev D) (hb : Bd p) (ht : ∀ x ∈ D, x.1 < p.1) : Rev (ps D p) := by
  match D, h, ht with
  | [], _, _ => exact rev_cons.2 ⟨hb, ⟨fun p h => (by cases h), .nil, trivial⟩, fun q R' e => (by cases e)⟩
  | [q], h, ht =>
    show Rev (if q.2 = p.2 then [q] else [p, q])
    split
    · exact h
    · rename_i hne
      exact rev_cons.2 ⟨hb, h, fun q' R' e => by cases e; exact ⟨ht q (by simp), fun e => hne e.symm, fun r R'' e => (by cases e)⟩⟩
  | q :: r :: o, h, ht =>
    show Rev (if q.2 = p.2 then q :: r :: o else if turns r.2 q.2 p.2 = true then p :: q :: r :: o else p :: r :: o)
    split
    · exact h
    · rename_i hne
      split
      · rename_i h2
        exact rev_cons.2 ⟨hb, h, fun q' R' e => by cases e; exact ⟨ht q (by simp), fun e => hne e.symm, fun r' R'' e => by cases e; exact h2⟩⟩
      · rename_i h2
        have hq := rev_cons.1 h
        obtain ⟨g1, g2, g3⟩ := hq.2.2 r o rfl
        have hmid : ¬ ((r.2 < q.2 ∧ p.2 < q.2) ∨ (q.2 < r.2 ∧ q.2 < p.2)) := fun hh => h2 (turns_iff.2 hh)
        refine rev_cons.2 ⟨hb, hq.2.1, fun r' o' e => ?_⟩
        cases e
        refine ⟨ht r (by simp), fun e => by omega, fun s o'' e => ?_⟩
        have := turns_iff.1 (g3 s o'' e)
        exact turns_iff.2 (by omega)
theorem ps_mem {D : List Pt} {p x : Pt} (h : x ∈ ps D p) : x = p ∨ x ∈ D := by
  match D, h with
  | [], h => exact .inl (List.mem_singleton.1 h)
  | [q], h =>
    have h : x ∈ (if q.2 = p.2 then [q] else [p, q]) := h
    split at h
    · exact .inr h
    · exact (List.mem_cons.1 h)
  | q :: r :: o, h =>
    have h : x ∈ (if q.2 = p.2 then q :: r :: o else if turns r.2 q.2 p.2 = true then p :: q :: r :: o else p :: r :: o) := h
    split at h
    · exact .inr h
    · split at h
      · exact List.mem_cons.1 h
      · rcases List.mem_cons.1 h with h | h
        · exact .inl h
        · exact .inr (List.mem_cons_of_mem _ h)
def fpI (cs : List Value) (j : Nat) : List Pt := (ipts cs j).foldl ps []
theorem fpI_succ (cs : List Value) (j : Nat) : fpI cs (j + 1) = ps (fpI cs j) ((j : Int), eI cs j) := by
  show (ipts cs j ++ [((j : Int), eI cs j)]).foldl ps [] = ps ((ipts cs j).foldl ps []) _
  rw [List.foldl_append]; rfl
theorem fpI_rev {cs : List Value} {n : Nat} (hl : ∀ j, j < n → -32768 ≤ eI cs j ∧ eI cs j ≤ 32768) (hn : n ≤ 40000) : ∀ j, j ≤ n → Rev (fpI cs j) ∧ ∀ x ∈ fpI cs j, x.1 < j
  | 0, _ => ⟨⟨fun p h => (by cases h), .nil, trivial⟩, fun x h => (by cases h)⟩
  | j + 1, hj => by
    obtain ⟨h1, h2⟩ := fpI_rev hl hn j (by omega)
    rw [fpI_succ]
    refine ⟨ps_rev h1 ⟨by show (0 : Int) ≤ (j : Int); omega, by show ((j : Nat) : Int) ≤ 39999; omega, hl j (by omega)⟩ h2, fun x hx => ?_⟩
    rcases ps_mem hx with rfl | hx
    · show ((j : Nat) : Int) < ((j + 1 : Nat) : Int); omega
    · have := h2 x hx; omega
end Go.Proofs.YteemponkignnhaaGreat.Ways
