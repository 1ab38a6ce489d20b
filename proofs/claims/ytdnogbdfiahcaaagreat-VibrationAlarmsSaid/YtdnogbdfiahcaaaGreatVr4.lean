import Derived.Test.YtdnogbdfiahcaaaGreatVr2
import Derived.Test.YtdnogbdfiahcaaaGreatVr3
namespace Go.Proofs.YtdnogbdfiahcaaaGreat.Ways
open Go Go.Ex Go.RowKit
/-! ### the contracts of both Crossings -/
def cr8e (bs ss : List Value) (n m : Nat) (most : Int) : Int := fst4 (cB4 bs n) (mnE m 1024) (firstF (rgL ss 0 100) m 0) (rgE most 1 1024)
def cr8v (bs ss : List Value) (n m : Nat) (most : Int) : Int := if cr8e bs ss n m most ≠ 0 then 0 else firstF (e8 bs ss n most) m 0 - 1
noncomputable def vt8 (e : Int) (P1 P2 P3 : Prop) (r : Nat × Int × Int) : VT := .br (tru P1) (.br (tru P2) (.br (tru P3) (.br (!eqF e 0) (.leaf (tp [i 0, i e])) (.br (Nat.beq r.1 0) (.leaf (tp [i (-1), i 0])) (.br (Nat.beq r.1 1) (.leaf (tp [i r.2.1, i 0])) .fail))) .fail) .fail) .fail
section
variable (bs ss : List Value) (t s t2 s2 n c m c2 : Nat) (ex e2 : Bool) (most : Int)
theorem v8 (r : Nat × Int × Int) : (o8 bs ss t s t2 s2 n c m c2 ex e2 most r).vals = vt8 (cr8e bs ss n m most) (okP bs n c) (okI ss m c2) (okI [i (cB4 bs n), i (mnE m 1024), i (firstF (rgL ss 0 100) m 0), i (rgE most 1 1024)] 4 4) r := by kernel_rfl
theorem x8 (r : Nat × Int × Int) : o8 bs ss t s t2 s2 n c m c2 ex e2 most r = (o8 bs ss t s t2 s2 n c m c2 ex e2 most r).fix := by kernel_rfl
end
def sp8 : ESpec := fun al css => match al, css with
  | [.slice (some ⟨1, 0, none⟩) n c, .slice (some ⟨2, 0, none⟩) m c2, .int .i64 most], [bs, ss] => some (okP bs n c ∧ okI ss m c2, tp [i (cr8v bs ss n m most), i (cr8e bs ss n m most)])
  | _, _ => none
def sp15 : ESpec := fun al css => match al, css with
  | [.slice (some ⟨1, 0, none⟩) n c, .slice (some ⟨2, 0, none⟩) m c2, .int .i64 most], [bs, ss] => some (okP bs n c ∧ okI ss m c2 ∧ 1 ≤ most ∧ most ≤ 1024, i (firstF (e8 bs ss n most) m 0 - 1))
  | _, _ => none
theorem c8 : ∀ al css os p v, sp8 al css = some (p, v) → p → Blks css os → (∀ cs ∈ css, cs.all Ex.flat = true) ∧ clean 6 v = true ∧ ∃ H', Sound Tryz.prog (gl + css.length) (.call 8 ⟨al⟩ (heapL (deads ++ os))) (.val v H') := by
  intro al css os p v hs hp hb
  unfold sp8 at hs
  split at hs
  case h_2 => cases hs
  rename_i n c m c2 most bs ss
  cases hs
  obtain ⟨t, s, ex, t2, s2, e2, rfl⟩ := blks2 hb
  obtain ⟨p1, p2⟩ := hp
  refine ⟨fun x hx => ?_, rfl, ?_⟩
  · simp only [List.mem_cons, List.not_mem_nil, or_false] at hx
    rcases hx with rfl | rfl
    · exact p1.1
    · exact p2.1
  obtain ⟨r, hr, hv⟩ := run8 p1 p2 most
  have hL := (L8 (t := t) (s := s) (t2 := t2) (s2 := s2) (ex := ex) (e2 := e2) (n := n) (c := c) (m := m) (c2 := c2) (most := most) p1.1 p2.1).table (id := 6) .none (by decide) trivial hr (by kernel_rfl) [0, 1]
  obtain ⟨H', h'⟩ := Out.vals_sel (x8 bs ss t s t2 s2 n c m c2 ex e2 most r) (v := tp [i (cr8v bs ss n m most), i (cr8e bs ss n m most)]) (by
    rw [v8]
    unfold vt8 cr8v
    simp only [VT.sel]
    rw [tru_iff.2 p1, tru_iff.2 p2, tru_iff.2 (okI4 _ _ _ _), eqF_d]
    by_cases he : cr8e bs ss n m most = 0
    · rw [he]
      rcases hv with ⟨h1, h2⟩ | ⟨h1, h2, h3⟩
      · rw [h1, h2]; rfl
      · rw [h2, h3]; rfl
    · rw [decide_eq_false he, if_pos he]; rfl)
  exact ⟨H', execO_sound (C := K8 bs ss t s t2 s2 n c m c2 ex e2 most r) ts3 hL 80 _ _ h'⟩
theorem c15 : ∀ al css os p v, sp15 al css = some (p, v) → p → Blks css os → (∀ cs ∈ css, cs.all Ex.flat = true) ∧ clean 6 v = true ∧ ∃ H', Sound Tryz.prog (gl + css.length) (.call 15 ⟨al⟩ (heapL (deads ++ os))) (.val v H') := by
  intro al css os p v hs hp hb
  unfold sp15 at hs
  split at hs
  case h_2 => cases hs
  rename_i n c m c2 most bs ss
  cases hs
  obtain ⟨t, s, ex, t2, s2, e2, rfl⟩ := blks2 hb
  obtain ⟨p1, p2, p3, p4⟩ := hp
  obtain ⟨M, rfl⟩ : ∃ M : Nat, most = M := ⟨most.toNat, by omega⟩
  refine ⟨fun x hx => ?_, rfl, ?_⟩
  · simp only [List.mem_cons, List.not_mem_nil, or_false] at hx
    rcases hx with rfl | rfl
    · exact p1.1
    · exact p2.1
  have hI : ∀ ii q, LSound Tryz.prog 3 (KM bs ss t s t2 s2 n c m c2 ex e2 (M : Int) ii q).L := fun ii q =>
    (LI (t := t) (s := s) (t2 := t2) (s2 := s2) (ex := ex) (e2 := e2) (n := n) (c := c) (m := m) (c2 := c2) (most := (M : Int)) ii q.1 q.2 p1.1 p2.1).tableIf (id := 10) .none (by decide) trivial (fun hk => ⟨_, runI p1 p2 hk⟩) (by kernel_rfl) [0]
  have hM : ∀ q, LSound Tryz.prog 3 (KO bs ss t s t2 s2 n c m c2 ex e2 (M : Int) q).L := fun q =>
    (LM (t := t) (s := s) (t2 := t2) (s2 := s2) (ex := ex) (e2 := e2) (n := n) (c := c) (m := m) (c2 := c2) (most := (M : Int)) q p1.1 p2.1 (hI q)).tableIf (id := 6) .none (by decide) trivial (fun hk => runM p2 hk) (by kernel_rfl) [0]
  obtain ⟨r, hr, hv⟩ := runO (bs := bs) (n := n) p2 (M := M) (by omega)
  have hL := (LO (t := t) (s := s) (t2 := t2) (s2 := s2) (ex := ex) (e2 := e2) (n := n) (c := c) (m := m) (c2 := c2) (most := (M : Int)) p1.1 p2.1 hM).table (id := 2) .none (by decide) trivial hr (by kernel_rfl) [0, 1]
  obtain ⟨H', h'⟩ := Out.vals_sel (x15 bs ss t s t2 s2 n c m c2 ex e2 M r) (v := i (firstF (e8 bs ss n M) m 0 - 1)) (by
    rw [v15, e8_eO]
    rcases hv with ⟨h1, h2⟩ | ⟨h1, h2, h3⟩
    · rw [h1, h2]; rfl
    · rw [h2, h3]; rfl)
  exact ⟨H', execO_sound (C := K15 bs ss t s t2 s2 n c m c2 ex e2 M r) ts3 hL 80 _ _ h'⟩
end Go.Proofs.YtdnogbdfiahcaaaGreat.Ways
namespace Go.Proofs.YtdnogbdfiahcaaaGreat.Ways
open Go Go.Ex Go.RowKit
/-! ### the law -/
theorem p7 : Pure Tryz.prog Hd 7 [] (b_ true) := by
  obtain ⟨H', h'⟩ := Out.vals_sel (o := oA) aw_fix (v := b_ true) (by rw [aw_vals]; rfl)
  exact Pure.of_sound (by decide) hd_len rfl (execO_sound (C := Ca) tsk .none 200 _ _ h')
def s7 : List Value → Option Value
  | [] => some (b_ true)
  | _ => none
noncomputable def T4 : Tb := ext (ext (ext T3 8 (autoE sp8 [] (heapL deads))) 15 (autoE sp15 [] (heapL deads))) 7 (pureE s7 [] Hd)
theorem ts4 {G : Nat} : TSound Tryz.prog G T4 := by
  refine TSound.pure hd_vars ((ts3.auto c8).auto c15) fun args v h => ?_
  unfold s7 at h
  split at h
  · cases h; exact p7
  · cases h
noncomputable def sp6 : Nat → Nat → Split := at_ [(3, 13), (3, 17), (3, 24), (3, 44), (3, 51), (3, 55)] .bool no_
def sy6 : Nat → Nat → Bool := on_ [(9, 5), (10, 5)]
noncomputable def C6 : Cfg := ⟨T4, sp6, sy6, noL⟩
section
variable (bs ss : List Value) (t s t2 s2 n c m c2 : Nat) (ex e2 : Bool) (most : Int)
noncomputable def o3 : Out QRes := execO Tryz.prog 3 C6 80 (.call 3 ⟨[sl 1 0 n c, sl 2 0 m c2, i most]⟩ (heapL [.dead, .cells bs t s ex, .cells ss t2 s2 e2]))
end
end Go.Proofs.YtdnogbdfiahcaaaGreat.Ways
namespace Go.Proofs.YtdnogbdfiahcaaaGreat.Ways
open Go Go.Ex Go.RowKit
def badE (bs ss : List Value) (n m : Nat) (most : Int) : Int := fst3 (cBd bs n) (cSp ss m) (rgE most 1 1024)
def tl2 (v w e b : Int) : VT := .br (eqF v w) (.br (eqF e b) (.leaf (b_ true)) (.leaf (b_ false))) (.leaf (b_ false))
noncomputable def tl (bs' ss' : List Value) (n' m' : Nat) (bs ss : List Value) (n c m c2 : Nat) (most : Int) : VT :=
  .br (tru (okP bs' n' n' ∧ okI ss' m' m')) (.br (tru (okP bs n c)) (.br (tru (okI ss m c2)) (.br (tru (okI [i (cBd bs n), i (cSp ss m), i (rgE most 1 1024)] 3 3)) (.br (eqF (badE bs ss n m most) 0)
    (.br (tru (okP bs n c ∧ okI ss m c2 ∧ 1 ≤ most ∧ most ≤ 1024)) (tl2 (cr8v bs' ss' n' m' most) (firstF (e8 bs ss n most) m 0 - 1) (cr8e bs' ss' n' m' most) (badE bs ss n m most)) .fail)
    (tl2 (cr8v bs' ss' n' m' most) 0 (cr8e bs' ss' n' m' most) (badE bs ss n m most))) .fail) .fail) .fail) .fail
noncomputable def cpS (bs' : List Value) (n' : Nat) (bs ss : List Value) (n c m c2 : Nat) (most : Int) : VT :=
  .br (decide (m ≤ c2)) (.br (decide (m = 0)) (tl bs' [] n' 0 bs ss n c m c2 most) (.br (decide (m ≤ 1048576) && decide (0 + m * 1 ≤ ss.length)) (tl bs' ((ss.drop 0).take (m * 1)) n' m bs ss n c m c2 most) .fail)) .fail
noncomputable def cpB (bs ss : List Value) (n c m c2 : Nat) (most : Int) : VT :=
  .br (decide (n ≤ c)) (.br (decide (n = 0)) (cpS [] 0 bs ss n c m c2 most) (.br (decide (n ≤ 1048576) && decide (0 + n * 2 ≤ bs.length)) (cpS ((bs.drop 0).take (n * 2)) n bs ss n c m c2 most) .fail)) .fail
noncomputable def vt3 (bs ss : List Value) (n c m c2 : Nat) (most : Int) : VT :=
  .br (ltF 12 n) (.br (!eqF n 101) (.br true (.leaf (b_ true)) (cpB bs ss n c m c2 most)) (.br (!fewB m) (.leaf (b_ true)) (cpB bs ss n c m c2 most))) (.br (!fewB m) (.leaf (b_ true)) (cpB bs ss n c m c2 most))
section
variable (bs ss : List Value) (t s t2 s2 n c m c2 : Nat) (ex e2 : Bool) (most : Int)
theorem v3 : (o3 bs ss t s t2 s2 n c m c2 ex e2 most).vals = vt3 bs ss n c m c2 most := by kernel_rfl
theorem x3 : o3 bs ss t s t2 s2 n c m c2 ex e2 most = (o3 bs ss t s t2 s2 n c m c2 ex e2 most).fix := by kernel_rfl
end
end Go.Proofs.YtdnogbdfiahcaaaGreat.Ways
namespace Go.Proofs.YtdnogbdfiahcaaaGreat.Ways
open Go Go.Ex Go.RowKit
theorem anyB_zero (bs : List Value) (sp : Int) : anyB bs 0 sp = anyB [] 0 sp := rfl
theorem stay_zero (bs ss : List Value) : ∀ j, stay bs ss 0 j = stay [] ss 0 j
  | 0 => rfl
  | j + 1 => by
    unfold stay
    rw [anyB_zero, stay_zero bs ss j]
theorem e8_zero (bs ss : List Value) (most : Int) : e8 bs ss 0 most = e8 [] ss 0 most := by
  funext j
  unfold e8
  rw [stay_zero]
theorem mnE_nat (x k : Nat) : mnE x k = if k < x then 5 else 0 := by
  unfold mnE
  by_cases h : k < x
  · rw [if_pos h, if_neg (by omega)]
  · rw [if_neg h, if_pos (by omega)]
theorem cr8e_eq {bs ss : List Value} {n m : Nat} {most : Int} (_ : True) : cr8e bs ss n m most = badE bs ss n m most := by
  unfold cr8e badE cB4 cBd cSp
  have e1 : mnE n 100 = if 100 < n then 5 else 0 := mnE_nat n 100
  have e2 : mnE m 1024 = if 1024 < m then 5 else 0 := mnE_nat m 1024
  rw [bE_rE, fst4_eq, fst3_eq, fst2_eq, e1, e2]
  generalize firstF (rE bs) n 0 = A
  generalize firstF (rgL ss 0 100) m 0 = B
  generalize rgE most 1 1024 = R
  by_cases h1 : 100 < n
  · simp [h1]
  · by_cases h3 : A = 0
    · by_cases h2 : 1024 < m
      · simp [h1, h2, h3]
      · simp [h1, h2, h3]
    · simp [h1, h3]
theorem badE_rg {bs ss : List Value} {n m : Nat} {most : Int} (h : badE bs ss n m most = 0) : 1 ≤ most ∧ most ≤ 1024 := by
  unfold badE at h
  rw [fst3_eq] at h
  apply Classical.byContradiction
  intro hc
  have hr : rgE most 1 1024 ≠ 0 := by
    unfold rgE
    rw [if_neg hc]; decide
  rw [if_pos hr] at h
  by_cases h1 : cBd bs n ≠ 0
  · rw [if_pos h1] at h; exact h1 h
  · rw [if_neg h1] at h
    by_cases h2 : cSp ss m ≠ 0
    · rw [if_pos h2] at h; exact h2 h
    · rw [if_neg h2] at h; exact hr h
theorem tl2_sel (v e : Int) : (tl2 v v e e).sel = some (b_ true) := by
  unfold tl2
  simp only [VT.sel]
  rw [eqF_d, eqF_d]
  simp
theorem tl_sel {bs' ss' bs ss : List Value} {n' m' n c m c2 : Nat} {most : Int} (h1 : okP bs' n' n') (h2 : okI ss' m' m') (h3 : okP bs n c) (h4 : okI ss m c2)
    (he : cr8e bs' ss' n' m' most = cr8e bs ss n m most) (hv : cr8v bs' ss' n' m' most = cr8v bs ss n m most) : (tl bs' ss' n' m' bs ss n c m c2 most).sel = some (b_ true) := by
  unfold tl
  rw [he, hv, cr8e_eq trivial]
  unfold cr8v
  rw [cr8e_eq trivial]
  have p1 : tru (okP bs' n' n' ∧ okI ss' m' m') = true := tru_iff.2 ⟨h1, h2⟩
  have p2 : tru (okP bs n c) = true := tru_iff.2 h3
  have p3 : tru (okI ss m c2) = true := tru_iff.2 h4
  have p4 : tru (okI [i (cBd bs n), i (cSp ss m), i (rgE most 1 1024)] 3 3) = true := tru_iff.2 (okI3 _ _ _)
  simp only [VT.sel]
  rw [p1, p2, p3, p4]
  show cond (eqF (badE bs ss n m most) 0) _ _ = _
  by_cases hb : badE bs ss n m most = 0
  · have p5 : tru (okP bs n c ∧ okI ss m c2 ∧ 1 ≤ most ∧ most ≤ 1024) = true := tru_iff.2 ⟨h3, h4, badE_rg hb⟩
    rw [p5, eqF_d, decide_eq_true hb, if_neg (by simpa using hb)]
    exact tl2_sel _ _
  · rw [eqF_d, decide_eq_false hb, if_pos hb]
    exact tl2_sel 0 (badE bs ss n m most)
theorem okP_self {bs : List Value} {n c : Nat} (h : okP bs n c) : okP bs n n := ⟨h.1, Nat.le_refl n, h.2.2.1, h.2.2.2⟩
theorem okI_self {bs : List Value} {n c : Nat} (h : okI bs n c) : okI bs n n := ⟨h.1, Nat.le_refl n, h.2.2.1, h.2.2.2⟩
theorem cpS_sel {bs' bs ss : List Value} {n' n c m c2 : Nat} {most : Int} (h1 : okP bs' n' n') (h3 : okP bs n c) (h4 : okI ss m c2) (hlen : ss.length = m) (hm : m ≤ 1048576)
    (he : cr8e bs' ss n' m most = cr8e bs ss n m most) (hv : cr8v bs' ss n' m most = cr8v bs ss n m most) : (cpS bs' n' bs ss n c m c2 most).sel = some (b_ true) := by
  unfold cpS
  simp only [VT.sel]
  rw [decide_eq_true h4.2.1]
  show cond (decide (m = 0)) _ _ = _
  by_cases h0 : m = 0
  · rw [decide_eq_true h0]
    have hs : ss = [] := List.length_eq_zero_iff.1 (by omega)
    subst h0
    subst hs
    exact tl_sel h1 ⟨rfl, Nat.le_refl 0, by decide, fun j hj => by omega⟩ h3 h4 he hv
  · rw [decide_eq_false h0, decide_eq_true hm, decide_eq_true (by omega)]
    have ht : (ss.drop 0).take (m * 1) = ss := by
      rw [List.drop_zero, Nat.mul_one, List.take_of_length_le (by omega)]
    rw [ht]
    exact tl_sel h1 (okI_self h4) h3 h4 he hv
theorem cpB_sel {bs ss : List Value} {n c m c2 : Nat} {most : Int} (h3 : okP bs n c) (h4 : okI ss m c2) (hb : bs.length = n * 2) (hlen : ss.length = m) (hn : n ≤ 1048576) (hm : m ≤ 1048576) : (cpB bs ss n c m c2 most).sel = some (b_ true) := by
  unfold cpB
  simp only [VT.sel]
  rw [decide_eq_true h3.2.1]
  show cond (decide (n = 0)) _ _ = _
  by_cases h0 : n = 0
  · rw [decide_eq_true h0]
    have hs : bs = [] := List.length_eq_zero_iff.1 (by omega)
    subst h0
    subst hs
    exact cpS_sel ⟨rfl, Nat.le_refl 0, by decide, fun j hj => by omega⟩ h3 h4 hlen hm rfl rfl
  · rw [decide_eq_false h0, decide_eq_true hn, decide_eq_true (by omega)]
    have ht : (bs.drop 0).take (n * 2) = bs := by
      rw [List.drop_zero, List.take_of_length_le (by omega)]
    rw [ht]
    exact cpS_sel (okP_self h3) h3 h4 hlen hm rfl rfl
theorem vt3_sel {bs ss : List Value} {n c m c2 : Nat} {most : Int} (h3 : n ≤ 101 → okP bs n c) (h4 : m ≤ 1025 → okI ss m c2) (hb : bs.length = n * 2) (hlen : ss.length = m) : (vt3 bs ss n c m c2 most).sel = some (b_ true) := by
  unfold vt3
  simp only [VT.sel]
  have hF : ∀ (h : n ≤ 101), cond (!fewB m) (some (b_ true)) (cpB bs ss n c m c2 most).sel = some (b_ true) := by
    intro h
    cases hf : fewB m with
    | false => rfl
    | true =>
      unfold fewB at hf
      rw [decide_eq_true_eq] at hf
      exact cpB_sel (h3 h) (h4 (by omega)) hb hlen (by omega) (by omega)
  rw [ltF_eq, eqF_d]
  by_cases h1 : (12 : Int) < n
  · rw [decide_eq_true h1]
    by_cases h2 : (n : Int) = 101
    · rw [decide_eq_true h2]
      exact hF (by omega)
    · rw [decide_eq_false h2]; rfl
  · rw [decide_eq_false h1]
    exact hF (by omega)
/-- the law, over two lists -/
theorem law3 {bs ss : List Value} {t s t2 s2 n c m c2 : Nat} {ex e2 : Bool} {most : Int} (h3 : n ≤ 101 → okP bs n c) (h4 : m ≤ 1025 → okI ss m c2) (hb : bs.length = n * 2) (hlen : ss.length = m) :
    ∃ H', Sound Tryz.prog 3 (.call 3 ⟨[sl 1 0 n c, sl 2 0 m c2, i most]⟩ (heapL [.dead, .cells bs t s ex, .cells ss t2 s2 e2])) (.val (b_ true) H') := by
  obtain ⟨H', h'⟩ := Out.vals_sel (x3 bs ss t s t2 s2 n c m c2 ex e2 most) (v := b_ true) (by rw [v3]; exact vt3_sel h3 h4 hb hlen)
  exact ⟨H', execO_sound (C := C6) ts4 .none 80 _ _ h'⟩
end Go.Proofs.YtdnogbdfiahcaaaGreat.Ways
