/- Part of the proof. -/
import Derived.Test.YteemponkignnhaaGreatLr1
namespace Go.Turn
abbrev Pt := Int × Int
def turns (a b c : Int) : Bool := (decide (a < b) && decide (c < b)) || (decide (b < a) && decide (b < c))
def ps : List Pt → Pt → List Pt
  | [], p => [p]
  | [q], p => if q.2 = p.2 then [q] else [p, q]
  | q :: r :: o, p => if q.2 = p.2 then q :: r :: o else if turns r.2 q.2 p.2 = true then p :: q :: r :: o else p :: r :: o
def ds : List Pt → Pt → List Pt
  | [], p => [p]
  | q :: o, p => if p.2 = q.2 then q :: o else p :: q :: o
def tl (q : Pt) : List Pt → List Pt
  | [] => []
  | [d] => [d]
  | d :: e :: o => if turns e.2 d.2 q.2 = true then d :: tl d (e :: o) else tl d (e :: o)
def tr : List Pt → List Pt
  | [] => []
  | q :: o => q :: tl q o
def Inv : List Pt → Prop
  | q :: d :: o => d.2 ≠ q.2 ∧ ∃ r s, tl q (d :: o) = r :: s ∧ ((r.2 < q.2 ↔ d.2 < q.2) ∧ (q.2 < r.2 ↔ q.2 < d.2))
  | _ => True
theorem turns_same {r d q p : Int} (h1 : r < q ↔ d < q) (h2 : q < r ↔ q < d) : turns r q p = turns d q p := by
  unfold turns
  rw [decide_eq_decide.2 h1, decide_eq_decide.2 h2]
theorem step {D : List Pt} (hI : Inv D) (p : Pt) : ps (tr D) p = tr (ds D p) ∧ Inv (ds D p) := by
  match D, hI with
  | [], _ => exact ⟨rfl, trivial⟩
  | [q], _ =>
    by_cases h : q.2 = p.2
    · have e1 : ds [q] p = [q] := by show (if p.2 = q.2 then _ else _) = _; rw [if_pos h.symm]
      rw [e1]
      refine ⟨?_, trivial⟩
      show (if q.2 = p.2 then [q] else [p, q]) = [q]
      rw [if_pos h]
    · have e1 : ds [q] p = [p, q] := by show (if p.2 = q.2 then _ else _) = _; rw [if_neg (fun hh => h hh.symm)]
      rw [e1]
      refine ⟨?_, h, q, [], rfl, Iff.rfl, Iff.rfl⟩
      show (if q.2 = p.2 then [q] else [p, q]) = [p, q]
      rw [if_neg h]
  | q :: d :: o, hI =>
    obtain ⟨hne, r, s, hr, h1, h2⟩ := hI
    have et : tr (q :: d :: o) = q :: r :: s := by show q :: tl q (d :: o) = _; rw [hr]
    rw [et]
    by_cases h : q.2 = p.2
    · have e1 : ds (q :: d :: o) p = q :: d :: o := by show (if p.2 = q.2 then _ else _) = _; rw [if_pos h.symm]
      rw [e1]
      refine ⟨?_, hne, r, s, hr, h1, h2⟩
      show (if q.2 = p.2 then q :: r :: s else _) = _
      rw [if_pos h, et]
    · have e1 : ds (q :: d :: o) p = p :: q :: d :: o := by show (if p.2 = q.2 then _ else _) = _; rw [if_neg (fun hh => h hh.symm)]
      rw [e1]
      have e2 : tl p (q :: d :: o) = if turns d.2 q.2 p.2 = true then q :: r :: s else r :: s := by
        show (if turns d.2 q.2 p.2 = true then q :: tl q (d :: o) else tl q (d :: o)) = _
        rw [hr]
      have e3 : ps (q :: r :: s) p = if turns d.2 q.2 p.2 = true then p :: q :: r :: s else p :: r :: s := by
        show (if q.2 = p.2 then q :: r :: s else if turns r.2 q.2 p.2 = true then p :: q :: r :: s else p :: r :: s) = _
        rw [if_neg h, turns_same h1 h2]
      have e4 : tr (p :: q :: d :: o) = p :: tl p (q :: d :: o) := rfl
      by_cases ht : turns d.2 q.2 p.2 = true
      · rw [if_pos ht] at e2 e3
        refine ⟨by rw [e3, e4, e2], h, q, r :: s, e2, Iff.rfl, Iff.rfl⟩
      · rw [if_neg ht] at e2 e3
        refine ⟨by rw [e3, e4, e2], h, r, s, e2, ?_⟩
        unfold turns at ht
        simp only [Bool.or_eq_true, Bool.and_eq_true, decide_eq_true_eq] at ht
        constructor <;> omega
theorem both (l : List Pt) : ∀ D, Inv D → l.foldl ps (tr D) = tr (l.foldl ds D) := by
  induction l with
  | nil => intro D _; rfl
  | cons p l ih =>
    intro D hI
    obtain ⟨h1, h2⟩ := step hI p
    rw [List.foldl_cons, List.foldl_cons, h1]
    exact ih _ h2
theorem same (l : List Pt) : l.foldl ps [] = tr (l.foldl ds []) := both l [] trivial
end Go.Turn
namespace Go.Turn
def at_ (D : List Pt) (i : Nat) : Pt := D.getD i (0, 0)
def keep (D : List Pt) (i : Nat) : Bool := decide (i = 0) || turns (at_ D (i - 1)).2 (at_ D i).2 (at_ D (i + 1)).2
def kf (D : List Pt) : Nat → List Pt
  | 0 => []
  | i + 1 => if keep D i = true then kf D i ++ [at_ D i] else kf D i
theorem at_app {D E : List Pt} {i : Nat} (h : i < D.length) : at_ (D ++ E) i = at_ D i := by
  unfold at_
  rw [List.getD_eq_getElem?_getD, List.getD_eq_getElem?_getD, List.getElem?_append_left h]
theorem at_last (D : List Pt) (q : Pt) : at_ (D ++ [q]) D.length = q := by
  unfold at_
  rw [List.getD_eq_getElem?_getD, List.getElem?_append_right (Nat.le_refl _), Nat.sub_self]; rfl
theorem keep_app {D E : List Pt} {i : Nat} (h : i + 1 < D.length) : keep (D ++ E) i = keep D i := by
  unfold keep
  rw [at_app (by omega), at_app (by omega), at_app h]
theorem kf_app {D E : List Pt} : ∀ {i : Nat}, i + 1 ≤ D.length → kf (D ++ E) i = kf D i
  | 0, _ => rfl
  | i + 1, h => by
    unfold kf
    rw [keep_app (by omega), kf_app (i := i) (by omega), at_app (by omega)]
theorem kf_tl : ∀ (R : List Pt) (q : Pt), kf (R.reverse ++ [q]) R.length = (tl q R).reverse
  | [], q => rfl
  | [d], q => rfl
  | d :: e :: o, q => by
    have ih := kf_tl (e :: o) d
    have hrev : (d :: e :: o).reverse = (e :: o).reverse ++ [d] := by simp
    have hl : ((e :: o).reverse).length = o.length + 1 := by simp
    have hE : (o.reverse ++ [e]).length = o.length + 1 := by simp
    rw [hrev, List.append_assoc]
    show (if keep ((e :: o).reverse ++ ([d] ++ [q])) (e :: o).length = true then kf ((e :: o).reverse ++ ([d] ++ [q])) (e :: o).length ++ [at_ ((e :: o).reverse ++ ([d] ++ [q])) (e :: o).length] else kf ((e :: o).reverse ++ ([d] ++ [q])) (e :: o).length) = _
    rw [← List.append_assoc, kf_app (by simp), ih]
    have hd : at_ ((e :: o).reverse ++ [d] ++ [q]) (e :: o).length = d := by
      rw [at_app (by simp)]
      have := at_last (e :: o).reverse d
      rwa [List.length_reverse] at this
    have hq : at_ ((e :: o).reverse ++ [d] ++ [q]) ((e :: o).length + 1) = q := by
      have := at_last ((e :: o).reverse ++ [d]) q
      rwa [List.length_append, List.length_reverse] at this
    have he : at_ ((e :: o).reverse ++ [d] ++ [q]) ((e :: o).length - 1) = e := by
      rw [at_app (by simp), at_app (by simp)]
      have := at_last o.reverse e
      rw [List.length_reverse] at this
      rw [List.reverse_cons]
      exact this
    have hk : keep ((e :: o).reverse ++ [d] ++ [q]) (e :: o).length = turns e.2 d.2 q.2 := by
      unfold keep
      rw [hd, hq, he, decide_eq_false (by simp), Bool.false_or]
    rw [hk, hd]
    show _ = (if turns e.2 d.2 q.2 = true then d :: tl d (e :: o) else tl d (e :: o)).reverse
    by_cases ht : turns e.2 d.2 q.2 = true
    · rw [if_pos ht, if_pos ht, List.reverse_cons]
    · rw [if_neg ht, if_neg ht]
theorem kf_tr (R : List Pt) (q : Pt) : kf (R.reverse ++ [q]) R.length ++ [q] = (tr (q :: R)).reverse := by
  rw [kf_tl]
  show _ = (q :: tl q R).reverse
  rw [List.reverse_cons]
end Go.Turn
noncomputable section
namespace Go.Proofs.YteemponkignnhaaGreat.Ways
open Go Go.Ex Go.RowKit
theorem p58 (a b c : Int) : Pure Tryz.prog Hd 70 [i a, i b, i c] (b_ (Turn.turns a b c)) := by
  refine pure_run (C := ⟨T5, at_ [(70, 9), (70, 13), (70, 18), (70, 22)] .bool no_, off_, noL⟩) (G := 1) 30 (.br (ltF a b) (.br (ltF c b) (.leaf (b_ true)) (.br (ltF b a) (.br (ltF b c) (.leaf (b_ true)) (.leaf (b_ false))) (.leaf (b_ false)))) (.br (ltF b a) (.br (ltF b c) (.leaf (b_ true)) (.leaf (b_ false))) (.leaf (b_ false)))) ts5 .none (by decide) hd_len rfl (by kernel_rfl) (by kernel_rfl) ?_
  simp only [VT.sel]
  unfold Turn.turns
  rw [ltF_eq, ltF_eq, ltF_eq, ltF_eq]
  cases decide (a < b) <;> cases decide (c < b) <;> cases decide (b < a) <;> cases decide (b < c) <;> rfl
def s58 : List Value → Option Value
  | [.int .i64 a, .int .i64 b, .int .i64 c] => some (b_ (Turn.turns a b c))
  | _ => none
noncomputable def T6 : Tb := ext T5 70 (pureE s58 [] Hd)
theorem ts6 {G : Nat} : TSound Tryz.prog G T6 := by
  refine TSound.pure hd_vars ts5 fun args v h => ?_
  unfold s58 at h
  split at h
  · cases h; exact p58 _ _ _
  · cases h
noncomputable def B14 : Code := bodyL Tryz.f85 3
noncomputable def B51 : Code := bodyL Tryz.f113 3
noncomputable def B51b : Code := bodyL Tryz.f113 9
noncomputable def sp6 : Nat → Nat → Split := at_ [(85, 8), (113, 10), (113, 14), (113, 28), (113, 40), (113, 44), (113, 50), (113, 70)] .bool no_
noncomputable def sp6z : Nat → Nat → Split := at_ [(85, 8), (113, 10), (113, 40)] .bool no_
def sy6z : Nat → Nat → Bool := on_ [(85, 15), (85, 16), (113, 33), (113, 34), (113, 75), (113, 76)]
def sy6 : Nat → Nat → Bool := on_ [(85, 15), (85, 16), (85, 19), (85, 300019), (113, 18), (113, 20), (113, 25), (113, 27), (113, 33), (113, 34), (113, 36), (113, 300036), (113, 56), (113, 58), (113, 61), (113, 63), (113, 67), (113, 69), (113, 75), (113, 76), (113, 78), (113, 300078)]
inductive PS where
  | z
  | m (j : Int) (l : Nat) (out : List Value)
noncomputable def C6 : PS → Cfg
  | .z => ⟨T6, sp6z, sy6z, noL⟩
  | .m _ _ _ => ⟨T6, sp6, sy6, noL⟩
def full2 (l : Nat) (out : List Value) : Bool := decide (l = l) && (decide (out.length = l * 2) && decide (l + 1 ≤ 1048576))
def cB2 (cs : List Value) (j : Int) : Bool := isCellB (.i .i64) cs[0 + j.toNat * 2 + 1]?
def cP (cs : List Value) (j : Int) : Bool := areCells k2 cs (0 + j.toNat * 2)
def el (cs : List Value) (j : Int) : List Value := [i (pA cs j.toNat), i (pB cs j.toNat)]
section
variable (cs : List Value) (t s n c : Nat) (ex : Bool)
def hpz : List (CO × Bool) := [(.dead, false), (.cells cs t s ex, true)]
def hpm (out : List Value) : List (CO × Bool) := [(.dead, false), (.cells cs t s ex, true), (.cells out 93 2 false, true)]
def S14 : Shape PS := ⟨22, fun q => match q with
  | .z => ⟨[(0, sl 1 0 n c), (3, .slice none 0 0), (4, i 0)], hpz cs t s ex⟩
  | .m j l out => ⟨[(0, sl 1 0 n c), (3, sl 2 0 l l), (4, i j)], hpm cs t s ex out⟩,
  fun _ q => match q with
  | .z => (.exit 0, ⟨[(3, .slice none 0 0)], hpz cs t s ex⟩)
  | .m _ l out => (.exit 0, ⟨[(3, sl 2 0 l l)], hpm cs t s ex out⟩)⟩
def st14 : PS → SS PS
  | .z => .br (ltF 0 n) (askS (bnd_ 0 n c) <| askS (cB cs (.i .i64) 0) <| .next 4 [0, 1, 3] (.m 1 1 [i 0, i (eI cs 0)])) (.done 2 [0, 1] 0)
  | .m j l out => .br (ltF j n) (askS (bnd_ j n c) <| askS (cB cs (.i .i64) j) <| askS (full2 l out) <| .next 5 [0, 1, 4] (.m (wrapF .i64 (j + 1)) (l + 1) (out ++ [i j, i (eI cs j.toNat)]))) (.done 3 [0, 1, 2] 0)
def S51 : Shape PS := ⟨80, fun q => match q with
  | .z => ⟨[(0, sl 1 0 n c), (3, .slice none 0 0), (4, i 0)], hpz cs t s ex⟩
  | .m j l out => ⟨[(0, sl 1 0 n c), (3, sl 2 0 l l), (4, i j)], hpm cs t s ex out⟩,
  fun _ q => match q with
  | .z => (.exit 0, ⟨[(3, .slice none 0 0)], hpz cs t s ex⟩)
  | .m _ l out => (.exit 0, ⟨[(3, sl 2 0 l l)], hpm cs t s ex out⟩)⟩
def ap51 (j : Int) (l : Nat) (out : List Value) : SS PS := askS (bnd_ j n c) <| askS (cP cs j) <| askS (full2 l out) <| .next 5 [0, 1, 4] (.m (wrapF .i64 (j + 1)) (l + 1) (out ++ el cs j))
def st51 : PS → SS PS
  | .z => .br (ltF 0 n) (askS (bnd_ 0 n c) <| askS (cP cs 0) <| .next 4 [0, 1, 3] (.m 1 1 (el cs 0))) (.done 2 [0, 1] 0)
  | .m j l out => .br (ltF j n) (.br (eqF j 0) (ap51 cs n c j l out) (askS (bnd_ j n c) <| askS (cB2 cs j) <| askS (bnd_ (wrapF .i64 (l - 1)) l l) <| askS (cB2 out (wrapF .i64 (l - 1))) <|
      .br (!eqF (pB cs j.toNat) (pB out (wrapF .i64 (l - 1)).toNat)) (ap51 cs n c j l out) (.next 3 [0, 1, 2] (.m (wrapF .i64 (j + 1)) l out)))) (.done 3 [0, 1, 2] 0)
def hqz (ps : List Value) : List (CO × Bool) := [(.dead, false), (.dead, false), (.cells ps 93 2 false, true)]
def hqm (ps out : List Value) : List (CO × Bool) := [(.dead, false), (.dead, false), (.cells ps 93 2 false, true), (.cells out 93 2 false, true)]
def S51b : Shape PS := ⟨80, fun q => match q with
  | .z => ⟨[(3, sl 2 0 n n), (5, .slice none 0 0), (6, i 0)], hqz cs⟩
  | .m j l out => ⟨[(3, sl 2 0 n n), (5, sl 3 0 l l), (6, i j)], hqm cs out⟩,
  fun _ q => match q with
  | .z => (.exit 2, ⟨[(5, .slice none 0 0)], hqz cs⟩)
  | .m _ l out => (.exit 2, ⟨[(5, sl 3 0 l l)], hqm cs out⟩)⟩
def ap51b (j : Int) (l : Nat) (out : List Value) : SS PS := askS (bnd_ j n n) <| askS (cP cs j) <| askS (full2 l out) <| .next 6 [0, 1, 2, 5] (.m (wrapF .i64 (j + 1)) (l + 1) (out ++ el cs j))
def st51b : PS → SS PS
  | .z => .br (ltF 0 n) (askS (bnd_ 0 n n) <| askS (cP cs 0) <| .next 5 [0, 1, 2, 4] (.m 1 1 (el cs 0))) (.done 3 [0, 1, 2] 0)
  | .m j l out => .br (ltF j n) (.br (eqF j 0) (ap51b cs n j l out) (.br (eqF j (wrapF .i64 (n - 1))) (ap51b cs n j l out) (askS (bnd_ (wrapF .i64 (j - 1)) n n) <| askS (cB2 cs (wrapF .i64 (j - 1))) <| askS (bnd_ j n n) <| askS (cB2 cs j) <|
      askS (bnd_ (wrapF .i64 (j + 1)) n n) <| askS (cB2 cs (wrapF .i64 (j + 1))) <| .br (Turn.turns (pB cs (wrapF .i64 (j - 1)).toNat) (pB cs j.toNat) (pB cs (wrapF .i64 (j + 1)).toNat)) (ap51b cs n j l out) (.next 4 [0, 1, 2, 3] (.m (wrapF .i64 (j + 1)) l out))))) (.done 4 [0, 1, 2, 3] 0)
end
def GdP : PS → Prop
  | .z => True
  | .m _ _ out => out.all Ex.flat = true
section
variable {cs : List Value} {t s n c : Nat} {ex : Bool}
theorem hpm_flat {out : List Value} (h : cs.all Ex.flat = true) (h2 : out.all Ex.flat = true) : ∀ o, (o, true) ∈ hpm cs t s ex out → FlatO o := by
  intro o ho
  simp [hpm] at ho
  rcases ho with rfl | rfl
  · exact fun x hx => List.all_eq_true.1 h x hx
  · exact fun x hx => List.all_eq_true.1 h2 x hx
theorem hqz_flat (h : cs.all Ex.flat = true) : ∀ o, (o, true) ∈ hqz cs → FlatO o := by
  intro o ho
  simp [hqz] at ho
  subst ho
  exact fun x hx => List.all_eq_true.1 h x hx
theorem hqm_flat {out : List Value} (h : cs.all Ex.flat = true) (h2 : out.all Ex.flat = true) : ∀ o, (o, true) ∈ hqm cs out → FlatO o := by
  intro o ho
  simp [hqm] at ho
  rcases ho with rfl | rfl
  · exact fun x hx => List.all_eq_true.1 h x hx
  · exact fun x hx => List.all_eq_true.1 h2 x hx
theorem br_or' {σ : Type} {b : Bool} {t e : SS σ} {r : σ ⊕ Nat} (h : (SS.br b t e).sel = some r) : t.sel = some r ∨ e.sel = some r := by
  have h' : cond b t.sel e.sel = some r := h
  cases b with
  | true => exact .inl h'
  | false => exact .inr h'
theorem ask_or' {σ : Type} {b : Bool} {t : SS σ} {r : σ ⊕ Nat} (h : (askS b t).sel = some r) : t.sel = some r := by
  rcases br_or' h with h | h
  · exact h
  · cases h
theorem app_flat {out l : List Value} (h : out.all Ex.flat = true) (h2 : l.all Ex.flat = true) : (out ++ l).all Ex.flat = true := by rw [List.all_append, h, h2]; rfl
theorem good14 : ∀ q q', GdP q → (st14 cs n c q).sel = some (.inl q') → GdP q' := by
  intro q q' hg h
  cases q with
  | z =>
    rcases br_or' h with h | h
    · have h := ask_or' (ask_or' h); cases h; rfl
    · cases h
  | m j l out =>
    rcases br_or' h with h | h
    · have h := ask_or' (ask_or' (ask_or' h)); cases h; exact app_flat hg rfl
    · cases h
theorem good51 : ∀ q q', GdP q → (st51 cs n c q).sel = some (.inl q') → GdP q' := by
  intro q q' hg h
  cases q with
  | z =>
    rcases br_or' h with h | h
    · have h := ask_or' (ask_or' h); cases h; rfl
    · cases h
  | m j l out =>
    have ha : (ap51 cs n c j l out).sel = some (.inl q') → GdP q' := fun h => by
      have h := ask_or' (ask_or' (ask_or' h)); cases h; exact app_flat hg rfl
    rcases br_or' h with h | h
    · rcases br_or' h with h | h
      · exact ha h
      · rcases br_or' (ask_or' (ask_or' (ask_or' (ask_or' h)))) with h | h
        · exact ha h
        · cases h; exact hg
    · cases h
theorem good51b : ∀ q q', GdP q → (st51b cs n q).sel = some (.inl q') → GdP q' := by
  intro q q' hg h
  cases q with
  | z =>
    rcases br_or' h with h | h
    · have h := ask_or' (ask_or' h); cases h; rfl
    · cases h
  | m j l out =>
    have ha : (ap51b cs n j l out).sel = some (.inl q') → GdP q' := fun h => by
      have h := ask_or' (ask_or' (ask_or' h)); cases h; exact app_flat hg rfl
    rcases br_or' h with h | h
    · rcases br_or' h with h | h
      · exact ha h
      · rcases br_or' h with h | h
        · exact ha h
        · rcases br_or' (ask_or' (ask_or' (ask_or' (ask_or' (ask_or' (ask_or' h)))))) with h | h
          · exact ha h
          · cases h; exact hg
    · cases h
theorem L14 (h : cs.all Ex.flat = true) : Loop1 Tryz.prog 2 85 B14 (S14 cs t s n c ex) 2 (st14 cs n c) GdP :=
  .mk' (C := C6) (n := 60) (fun q _ => by cases q <;> exact ts6) (fun q _ => by cases q <;> exact .none) (fun q ro _ => by cases q <;> kernel_rfl) (fun q ro _ => by cases q <;> kernel_rfl) (fun q => by cases q <;> kernel_rfl) good14
    (fun q hq => by cases q with
      | z => exact hpI_flat h
      | m _ _ _ => exact hpm_flat h hq)
    (fun q j hq _ => by cases q with
      | z => exact ⟨hpI_flat h, fun h => by cases h⟩
      | m _ _ _ => exact ⟨hpm_flat h hq, fun h => by cases h⟩)
theorem L51 (h : cs.all Ex.flat = true) : Loop1 Tryz.prog 2 113 B51 (S51 cs t s n c ex) 2 (st51 cs n c) GdP :=
  .mk' (C := C6) (n := 60) (fun q _ => by cases q <;> exact ts6) (fun q _ => by cases q <;> exact .none) (fun q ro _ => by cases q <;> kernel_rfl) (fun q ro _ => by cases q <;> kernel_rfl) (fun q => by cases q <;> kernel_rfl) good51
    (fun q hq => by cases q with
      | z => exact hpI_flat h
      | m _ _ _ => exact hpm_flat h hq)
    (fun q j hq _ => by cases q with
      | z => exact ⟨hpI_flat h, fun h => by cases h⟩
      | m _ _ _ => exact ⟨hpm_flat h hq, fun h => by cases h⟩)
theorem L51b (h : cs.all Ex.flat = true) : Loop1 Tryz.prog 2 113 B51b (S51b cs n) 3 (st51b cs n) GdP :=
  .mk' (C := C6) (n := 60) (fun q _ => by cases q <;> exact ts6) (fun q _ => by cases q <;> exact .none) (fun q ro _ => by cases q <;> kernel_rfl) (fun q ro _ => by cases q <;> kernel_rfl) (fun q => by cases q <;> kernel_rfl) good51b
    (fun q hq => by cases q with
      | z => exact hqz_flat h
      | m _ _ _ => exact hqm_flat h hq)
    (fun q j hq _ => by cases q with
      | z => exact ⟨hqz_flat h, fun h => by cases h⟩
      | m _ _ _ => exact ⟨hqm_flat h hq, fun h => by cases h⟩)
end
end Go.Proofs.YteemponkignnhaaGreat.Ways
noncomputable section
namespace Go.Proofs.YteemponkignnhaaGreat.Ways
open Go Go.Ex Go.RowKit Go.Turn
def flatP : List Pt → List Value
  | [] => []
  | p :: r => i p.1 :: i p.2 :: flatP r
theorem flatP_app : ∀ a b : List Pt, flatP (a ++ b) = flatP a ++ flatP b
  | [], _ => rfl
  | p :: r, b => by
    show i p.1 :: i p.2 :: flatP (r ++ b) = i p.1 :: i p.2 :: (flatP r ++ flatP b)
    rw [flatP_app r b]
theorem flatP_len : ∀ a : List Pt, (flatP a).length = a.length * 2
  | [] => rfl
  | p :: r => by
    show (flatP r).length + 1 + 1 = (r.length + 1) * 2
    rw [flatP_len r]; omega
theorem flatP_flat : ∀ a : List Pt, (flatP a).all Ex.flat = true
  | [] => rfl
  | _ :: r => flatP_flat r
theorem flatP_get : ∀ (a : List Pt) (j : Nat), j < a.length → (flatP a)[j * 2]? = some (i (Turn.at_ a j).1) ∧ (flatP a)[j * 2 + 1]? = some (i (Turn.at_ a j).2)
  | [], j, h => by simp at h
  | p :: r, 0, _ => ⟨rfl, rfl⟩
  | p :: r, j + 1, h => by
    obtain ⟨h1, h2⟩ := flatP_get r j (by simpa using h)
    rw [show (j + 1) * 2 = j * 2 + 1 + 1 from by omega]
    exact ⟨h1, h2⟩
theorem pA_flat {a : List Pt} {j : Nat} (h : j < a.length) : pA (flatP a) j = (Turn.at_ a j).1 := by
  unfold pA
  rw [show 0 + j * 2 = j * 2 from by omega, (flatP_get a j h).1]; rfl
theorem pB_flat {a : List Pt} {j : Nat} (h : j < a.length) : pB (flatP a) j = (Turn.at_ a j).2 := by
  unfold pB
  rw [show 0 + j * 2 + 1 = j * 2 + 1 from by omega, (flatP_get a j h).2]; rfl
theorem areCells_k2 {cs : List Value} {o : Nat} (h1 : isCellB (.i .i64) cs[o]? = true) (h2 : isCellB (.i .i64) cs[o + 1]? = true) : areCells k2 cs o = true := by
  unfold k2 areCells areCells areCells
  rw [h1, h2]; rfl
theorem okP_flat {a : List Pt} (h : a.length < 1000000) : okP (flatP a) a.length a.length := by
  refine ⟨flatP_flat a, Nat.le_refl _, by omega, fun j hj => ?_⟩
  obtain ⟨h1, h2⟩ := flatP_get a j hj
  rw [show 0 + j * 2 = j * 2 from by omega]
  exact areCells_k2 (by rw [h1]; rfl) (by rw [h2]; rfl)
theorem el_flat {a : List Pt} {j : Nat} (h : j < a.length) : el (flatP a) (j : Int) = flatP [Turn.at_ a j] := by
  show [i (pA (flatP a) ((j : Nat) : Int).toNat), i (pB (flatP a) ((j : Nat) : Int).toNat)] = _
  rw [show ((j : Nat) : Int).toNat = j from rfl, pA_flat h, pB_flat h]; rfl
theorem cP_t {cs : List Value} {n c j : Nat} (h : okP cs n c) (hj : j < n) : cP cs (j : Int) = true := h.2.2.2 j hj
theorem cB2_t {cs : List Value} {n c j : Nat} (h : okP cs n c) (hj : j < n) : cB2 cs (j : Int) = true := (okP_a h hj).2
theorem full2_t {l : Nat} {out : List Value} (h : out.length = l * 2) (hl : l < 1000000) : full2 l out = true := by
  unfold full2
  rw [decide_eq_true rfl, decide_eq_true h, decide_eq_true (by omega)]; rfl
def ipts (cs : List Value) : Nat → List Pt
  | 0 => []
  | j + 1 => ipts cs j ++ [((j : Int), eI cs j)]
theorem ipts_len (cs : List Value) : ∀ j, (ipts cs j).length = j
  | 0 => rfl
  | j + 1 => by
    unfold ipts
    rw [List.length_append, ipts_len cs j]; rfl
def psT (F : Nat → List Pt) : Nat → PS
  | 0 => .z
  | j + 1 => .m ((j + 1 : Nat) : Int) (F (j + 1)).length (flatP (F (j + 1)))
theorem run14 {cs : List Value} {n c : Nat} (h : okI cs n c) (hn : n < 1000000) : runS (st14 cs n c) (n + 1) .z = some (0, psT (ipts cs) n) := by
  have hc := h.2.1
  refine run_all (st := psT (ipts cs)) n (fun j hj => ?_) ?_
  · have hcell : cB cs (.i .i64) (j : Int) = true := h.2.2.2 j hj
    have hT : psT (ipts cs) (j + 1) = .m ((j + 1 : Nat) : Int) (ipts cs (j + 1)).length (flatP (ipts cs (j + 1))) := rfl
    have hf : flatP (ipts cs (j + 1)) = flatP (ipts cs j) ++ [i (j : Int), i (eI cs j)] := flatP_app _ _
    rw [hT, hf, ipts_len]
    cases j with
    | zero =>
      show (st14 cs n c .z).sel = _
      unfold st14
      rw [br_t (by rw [ltF_eq]; simpa using hj), askS_sel (show bnd_ 0 n c = true from bnd_t (j := 0) hj hc), askS_sel (show cB cs (.i .i64) 0 = true from hcell)]; rfl
    | succ j =>
      show (st14 cs n c (.m ((j + 1 : Nat) : Int) (ipts cs (j + 1)).length (flatP (ipts cs (j + 1))))).sel = _
      unfold st14
      dsimp only
      rw [br_t (by rw [ltF_eq]; exact decide_eq_true (by omega)), askS_sel (bnd_t hj hc), askS_sel hcell, askS_sel (full2_t (flatP_len _) (by rw [ipts_len]; omega)), wsucc (by omega), ipts_len]; rfl
  · cases n with
    | zero => rfl
    | succ n =>
      show (st14 cs (n + 1) c (.m ((n + 1 : Nat) : Int) _ _)).sel = _
      unfold st14
      dsimp only
      rw [br_f (by rw [ltF_eq]; simp)]; rfl
def pts (cs : List Value) : Nat → List Pt
  | 0 => []
  | j + 1 => pts cs j ++ [(pA cs j, pB cs j)]
theorem pts_len (cs : List Value) : ∀ j, (pts cs j).length = j
  | 0 => rfl
  | j + 1 => by
    unfold pts
    rw [List.length_append, pts_len cs j]; rfl
def fd (cs : List Value) (j : Nat) : List Pt := (pts cs j).foldl ds []
theorem fd_succ (cs : List Value) (j : Nat) : fd cs (j + 1) = ds (fd cs j) (pA cs j, pB cs j) := by
  show (pts cs j ++ [(pA cs j, pB cs j)]).foldl ds [] = ds ((pts cs j).foldl ds []) _
  rw [List.foldl_append]; rfl
theorem ds_cons (D : List Pt) (p : Pt) : ∃ q o, ds D p = q :: o := by
  cases D with
  | nil => exact ⟨p, [], rfl⟩
  | cons q o =>
    show ∃ q' o', (if p.2 = q.2 then q :: o else p :: q :: o) = q' :: o'
    split
    · exact ⟨q, o, rfl⟩
    · exact ⟨p, q :: o, rfl⟩
theorem ds_len (D : List Pt) (p : Pt) : (ds D p).length ≤ D.length + 1 := by
  cases D with
  | nil => exact Nat.le_refl _
  | cons q o =>
    show (if p.2 = q.2 then q :: o else p :: q :: o).length ≤ _
    split <;> simp
theorem fd_len (cs : List Value) : ∀ j, (fd cs j).length ≤ j
  | 0 => Nat.le_refl 0
  | j + 1 => by
    rw [fd_succ]
    have := ds_len (fd cs j) (pA cs j, pB cs j)
    have := fd_len cs j
    omega
theorem run51 {cs : List Value} {n c : Nat} (h : okP cs n c) (hn : n < 1000000) : runS (st51 cs n c) (n + 1) .z = some (0, psT (fun j => (fd cs j).reverse) n) := by
  have hc := h.2.1
  refine run_all (st := psT fun j => (fd cs j).reverse) n (fun j hj => ?_) ?_
  · have hT : psT (fun j => (fd cs j).reverse) (j + 1) = .m ((j + 1 : Nat) : Int) (fd cs (j + 1)).reverse.length (flatP (fd cs (j + 1)).reverse) := rfl
    rw [hT]
    cases j with
    | zero =>
      show (st51 cs n c .z).sel = _
      unfold st51
      rw [br_t (by rw [ltF_eq]; simpa using hj), askS_sel (show bnd_ 0 n c = true from bnd_t (j := 0) hj hc), askS_sel (show cP cs 0 = true from cP_t (j := 0) h hj)]; rfl
    | succ j =>
      show (st51 cs n c (.m ((j + 1 : Nat) : Int) (fd cs (j + 1)).reverse.length (flatP (fd cs (j + 1)).reverse))).sel = _
      obtain ⟨q, o, hq⟩ := ds_cons (fd cs j) (pA cs j, pB cs j)
      have hF : fd cs (j + 1) = q :: o := (fd_succ cs j).trans hq
      have hlen := fd_len cs (j + 1)
      have hN : fd cs (j + 1 + 1) = if pB cs (j + 1) = q.2 then q :: o else (pA cs (j + 1), pB cs (j + 1)) :: q :: o := by rw [fd_succ, hF]; rfl
      rw [hF] at hlen ⊢
      have hrl : (q :: o).reverse.length = o.length + 1 := by simp
      have hlast : Turn.at_ (q :: o).reverse o.length = q := by
        rw [List.reverse_cons]
        have := Turn.at_last o.reverse q
        rwa [List.length_reverse] at this
      have hw : wrapF .i64 (((q :: o).reverse.length : Int) - 1) = (o.length : Int) := by
        rw [hrl, wrapF_in (by omega) (by simp at hlen; omega)]
        omega
      have hA : ∀ {P : List Pt}, P = (q :: o).reverse ++ [(pA cs (j + 1), pB cs (j + 1))] → (ap51 cs n c ((j + 1 : Nat) : Int) (q :: o).reverse.length (flatP (q :: o).reverse)).sel = some (.inl (.m ((j + 1 + 1 : Nat) : Int) P.length (flatP P))) := by
        intro P hP
        subst hP
        unfold ap51
        rw [askS_sel (bnd_t hj hc), askS_sel (cP_t h hj), askS_sel (full2_t (flatP_len _) (by rw [hrl]; simp at hlen; omega)), wsucc (by omega), flatP_app, List.length_append]; rfl
      have hok : okP (flatP (q :: o).reverse) (q :: o).reverse.length (q :: o).reverse.length := okP_flat (by rw [hrl]; simp at hlen; omega)
      unfold st51
      dsimp only
      rw [br_t (by rw [ltF_eq]; exact decide_eq_true (by omega)), br_f (by rw [eqF_d]; exact decide_eq_false (by omega)), askS_sel (bnd_t hj hc), askS_sel (cB2_t h hj), hw, askS_sel (bnd_t (by rw [hrl]; omega) (Nat.le_refl _)), askS_sel (cB2_t hok (by rw [hrl]; omega)),
        show ((o.length : Nat) : Int).toNat = o.length from rfl, show ((j + 1 : Nat) : Int).toNat = j + 1 from rfl, pB_flat (by rw [hrl]; omega), hlast, hN]
      by_cases he : pB cs (j + 1) = q.2
      · rw [if_pos he, br_f (by rw [eqF_d, decide_eq_true he]; rfl), wsucc (by omega)]; rfl
      · rw [if_neg he, br_t (by rw [eqF_d, decide_eq_false he]; rfl)]
        exact hA (by rw [List.reverse_cons])
  · cases n with
    | zero => rfl
    | succ n =>
      show (st51 cs (n + 1) c (.m ((n + 1 : Nat) : Int) _ _)).sel = _
      unfold st51
      dsimp only
      rw [br_f (by rw [ltF_eq]; simp)]; rfl
def gk (D : List Pt) (j : Nat) : List Pt := if j < D.length then Turn.kf D j else Turn.kf D (D.length - 1) ++ [Turn.at_ D (D.length - 1)]
theorem kf_len (D : List Pt) : ∀ j, (Turn.kf D j).length ≤ j
  | 0 => Nat.le_refl 0
  | j + 1 => by
    have := kf_len D j
    unfold Turn.kf
    split
    · rw [List.length_append, List.length_singleton]; omega
    · omega
theorem run51b {D : List Pt} (h1 : 1 ≤ D.length) (hn : D.length < 1000000) : runS (st51b (flatP D) D.length) (D.length + 1) .z = some (0, psT (gk D) D.length) := by
  have h := okP_flat hn
  refine run_all (st := psT (gk D)) D.length (fun j hj => ?_) ?_
  · have hT : psT (gk D) (j + 1) = .m ((j + 1 : Nat) : Int) (gk D (j + 1)).length (flatP (gk D (j + 1))) := rfl
    rw [hT]
    cases j with
    | zero =>
      show (st51b (flatP D) D.length .z).sel = _
      have hg : gk D 1 = [Turn.at_ D 0] := by
        unfold gk
        by_cases h2 : 1 < D.length
        · rw [if_pos h2]; rfl
        · rw [if_neg h2, show D.length - 1 = 0 from by omega]; rfl
      unfold st51b
      rw [br_t (by rw [ltF_eq]; simpa using hj), askS_sel (show bnd_ 0 D.length D.length = true from bnd_t (j := 0) hj (Nat.le_refl _)), askS_sel (show cP (flatP D) 0 = true from cP_t (j := 0) h hj), hg, show el (flatP D) 0 = flatP [Turn.at_ D 0] from el_flat (j := 0) hj]; rfl
    | succ j =>
      show (st51b (flatP D) D.length (.m ((j + 1 : Nat) : Int) (gk D (j + 1)).length (flatP (gk D (j + 1))))).sel = _
      have hg : gk D (j + 1) = Turn.kf D (j + 1) := by unfold gk; rw [if_pos hj]
      have hkl := kf_len D (j + 1)
      rw [hg]
      have hA : (ap51b (flatP D) D.length ((j + 1 : Nat) : Int) (Turn.kf D (j + 1)).length (flatP (Turn.kf D (j + 1)))).sel = some (.inl (.m ((j + 1 + 1 : Nat) : Int) (Turn.kf D (j + 1) ++ [Turn.at_ D (j + 1)]).length (flatP (Turn.kf D (j + 1) ++ [Turn.at_ D (j + 1)])))) := by
        unfold ap51b
        rw [askS_sel (bnd_t hj (Nat.le_refl _)), askS_sel (cP_t h hj), askS_sel (full2_t (flatP_len _) (by omega)), wsucc (by omega), flatP_app, List.length_append, el_flat hj]; rfl
      have hw1 : wrapF .i64 ((D.length : Int) - 1) = ((D.length - 1 : Nat) : Int) := by rw [wrapF_in (by omega) (by omega)]; omega
      unfold st51b
      dsimp only
      rw [br_t (by rw [ltF_eq]; exact decide_eq_true (by omega)), br_f (by rw [eqF_d]; exact decide_eq_false (by omega)), hw1]
      by_cases hl : j + 1 = D.length - 1
      · have hg2 : gk D (j + 1 + 1) = Turn.kf D (j + 1) ++ [Turn.at_ D (j + 1)] := by unfold gk; rw [if_neg (by omega), ← hl]
        rw [br_t (by rw [eqF_d]; exact decide_eq_true (by omega)), hA, hg2]
      · have hg2 : gk D (j + 1 + 1) = Turn.kf D (j + 1 + 1) := by unfold gk; rw [if_pos (by omega)]
        have hw2 : wrapF .i64 (((j + 1 : Nat) : Int) - 1) = ((j : Nat) : Int) := by rw [wrapF_in (by omega) (by omega)]; omega
        have hk : Turn.keep D (j + 1) = Turn.turns (Turn.at_ D j).2 (Turn.at_ D (j + 1)).2 (Turn.at_ D (j + 1 + 1)).2 := by
          unfold Turn.keep
          rw [decide_eq_false (by omega), Bool.false_or]; rfl
        have hk2 : Turn.kf D (j + 1 + 1) = if Turn.keep D (j + 1) = true then Turn.kf D (j + 1) ++ [Turn.at_ D (j + 1)] else Turn.kf D (j + 1) := rfl
        rw [br_f (by rw [eqF_d]; exact decide_eq_false (by omega)), hw2, askS_sel (bnd_t (by omega) (Nat.le_refl _)), askS_sel (cB2_t h (by omega)), askS_sel (bnd_t hj (Nat.le_refl _)), askS_sel (cB2_t h hj), wsucc (by omega), askS_sel (bnd_t (by omega) (Nat.le_refl _)), askS_sel (cB2_t h (by omega)),
          show ((j : Nat) : Int).toNat = j from rfl, show ((j + 1 : Nat) : Int).toNat = j + 1 from rfl, show ((j + 1 + 1 : Nat) : Int).toNat = j + 1 + 1 from rfl, pB_flat (by omega), pB_flat hj, pB_flat (by omega), ← hk, hg2, hk2]
        cases hkk : Turn.keep D (j + 1) with
        | true => rw [br_t rfl, hA, if_pos rfl]
        | false => rw [br_f rfl, if_neg (by decide)]; rfl
  · cases hD : D.length with
    | zero => omega
    | succ n =>
      show (st51b (flatP D) (n + 1) (.m ((n + 1 : Nat) : Int) _ _)).sel = _
      unfold st51b
      dsimp only
      rw [br_f (by rw [ltF_eq]; simp)]; rfl
end Go.Proofs.YteemponkignnhaaGreat.Ways
noncomputable section
namespace Go.Proofs.YteemponkignnhaaGreat.Ways
open Go Go.Ex Go.RowKit Go.Turn
section
variable (cs : List Value) (t s n c : Nat) (ex : Bool)
noncomputable def K51 (r : Nat × PS) (pl : Nat) (po : List Value) (r2 : Nat × PS) : Cfg := ⟨T6, no_, off_, loopE (loopE noL 113 3 80 2 B51 ((S51 cs t s n c ex).st .z).live ((S51 cs t s n c ex).st .z).hp (finO (S51 cs t s n c ex) r [0])) 113 9 80 3 B51b ((S51b po pl).st .z).live ((S51b po pl).st .z).hp (finO (S51b po pl) r2 [0])⟩
noncomputable def o51 (j : Int) (l : Nat) (out : List Value) (j2 : Int) (l2 : Nat) (out2 : List Value) : Out QRes := execO Tryz.prog 2 (K51 cs t s n c ex (0, .m j l out) l out (0, .m j2 l2 out2)) 60 (.call 113 ⟨[sl 1 0 n c]⟩ (heapL (deads ++ [.cells cs t s ex])))
theorem v51 (j : Int) (l : Nat) (out : List Value) (j2 : Int) (l2 : Nat) (out2 : List Value) : (o51 cs t s n c ex j l out j2 l2 out2).news = .br true (.br true (.leaf 3 (.sl l2 l2 out2 93 2 false)) .fail) .fail := by kernel_rfl
theorem x51 (j : Int) (l : Nat) (out : List Value) (j2 : Int) (l2 : Nat) (out2 : List Value) : o51 cs t s n c ex j l out j2 l2 out2 = (o51 cs t s n c ex j l out j2 l2 out2).fix := by kernel_rfl
end
def RV (cs : List Value) (n : Nat) : List Pt := (Turn.tr (fd cs n)).reverse
def TokE (cs : List Value) (n c : Nat) : Prop := okP cs n c ∧ 1 ≤ n ∧ n < 1000000
def sp51 : NSpec := fun al css => match al, css with
  | [.slice (some ⟨1, 0, none⟩) n c], [cs] => some (TokE cs n c, .sl (RV cs n).length (RV cs n).length (flatP (RV cs n)) 93 2 false)
  | _, _ => none
theorem fd_cons {cs : List Value} {n : Nat} (h : 1 ≤ n) : ∃ q o, fd cs n = q :: o := by
  cases n with
  | zero => omega
  | succ _ => rw [fd_succ]; exact ds_cons _ _
theorem gk_RV {cs : List Value} {n : Nat} (h : 1 ≤ n) : gk (fd cs n).reverse (fd cs n).reverse.length = RV cs n := by
  obtain ⟨q, o, hq⟩ := fd_cons (cs := cs) h
  unfold gk RV
  rw [if_neg (Nat.lt_irrefl _), hq, ← Turn.kf_tr, List.reverse_cons]
  have hl : (o.reverse ++ [q]).length - 1 = o.length := by simp
  rw [hl]
  have := Turn.at_last o.reverse q
  rw [List.length_reverse] at this
  rw [this]
theorem c51 : ∀ al css os p v, sp51 al css = some (p, v) → p → Blks css os → (∀ cs ∈ css, cs.all Ex.flat = true) ∧ v.Ok Tryz.prog 113 al deads os (gl + css.length) := by
  intro al css os p v hs hp hb
  unfold sp51 at hs
  split at hs
  case h_2 => cases hs
  rename_i n c cs
  cases hs
  obtain ⟨t, s, ex, rfl⟩ := blks1 hb
  obtain ⟨p1, p2, p3⟩ := hp
  refine ⟨by simpa using p1.1, ?_⟩
  obtain ⟨k, rfl⟩ : ∃ k, n = k + 1 := ⟨n - 1, by omega⟩
  obtain ⟨q, o, hq⟩ := fd_cons (cs := cs) p2
  have hl := fd_len cs (k + 1)
  have hD : 1 ≤ (fd cs (k + 1)).reverse.length := by rw [hq]; simp
  have hD2 : (fd cs (k + 1)).reverse.length < 1000000 := by rw [List.length_reverse]; omega
  have hL1 := (L51 (t := t) (s := s) (ex := ex) (n := k + 1) (c := c) p1.1).table (id := 3) (s0 := .z) .none (by decide) trivial (run51 p1 p3) (by kernel_rfl) [0]
  have hL2 := (L51b (n := (fd cs (k + 1)).reverse.length) (flatP_flat (fd cs (k + 1)).reverse)).table (id := 9) (s0 := .z) hL1 (by decide) trivial (run51b hD hD2) (by kernel_rfl) [0]
  have hps : psT (gk (fd cs (k + 1)).reverse) (fd cs (k + 1)).reverse.length = .m (((fd cs (k + 1)).reverse.length : Nat) : Int) (RV cs (k + 1)).length (flatP (RV cs (k + 1))) := by
    obtain ⟨d, hd⟩ : ∃ d, (fd cs (k + 1)).reverse.length = d + 1 := ⟨(fd cs (k + 1)).reverse.length - 1, by omega⟩
    have hg := gk_RV (cs := cs) p2
    rw [← hg]
    rw [hd]; rfl
  rw [hps] at hL2
  exact news_ok (C := K51 cs t s (k + 1) c ex (0, .m ((k + 1 : Nat) : Int) (fd cs (k + 1)).reverse.length (flatP (fd cs (k + 1)).reverse)) (fd cs (k + 1)).reverse.length (flatP (fd cs (k + 1)).reverse) (0, .m (((fd cs (k + 1)).reverse.length : Nat) : Int) (RV cs (k + 1)).length (flatP (RV cs (k + 1))))) (n := 60) ts6 hL2 (x51 cs t s (k + 1) c ex _ _ _ _ _ _)
    (b := 3) ((congrArg NT.sel (v51 cs t s (k + 1) c ex _ _ _ _ _ _)).trans rfl) (show 2 ≤ 3 by decide) (flatP_flat _)
noncomputable def T7 : Tb := ext T6 113 (newE sp51 [] (heapL deads))
theorem ts7 {G : Nat} : TSound Tryz.prog G T7 := ts6.new c51
section
variable (cs : List Value) (t s n c : Nat) (ex : Bool)
noncomputable def K14 (r : Nat × PS) : Cfg := ⟨T7, no_, off_, loopE noL 85 3 22 2 B14 ((S14 cs t s n c ex).st .z).live ((S14 cs t s n c ex).st .z).hp (finO (S14 cs t s n c ex) r [0])⟩
noncomputable def o14 (r : Nat × PS) : Out QRes := execO Tryz.prog 2 (K14 cs t s n c ex r) 60 (.call 85 ⟨[sl 1 0 n c]⟩ (heapL (deads ++ [.cells cs t s ex])))
theorem v14z : (o14 cs t s n c ex (0, .z)).news = .br true (.leaf 1000000 (.old (.slice none 0 0))) .fail := by kernel_rfl
theorem x14z : o14 cs t s n c ex (0, .z) = (o14 cs t s n c ex (0, .z)).fix := by kernel_rfl
theorem v14m (j : Int) (l : Nat) (out : List Value) : (o14 cs t s n c ex (0, .m j l out)).news = .br true (.br (tru (TokE out l l)) (.leaf 3 (.sl (RV out l).length (RV out l).length (flatP (RV out l)) 93 2 false)) .fail) .fail := by kernel_rfl
theorem x14m (j : Int) (l : Nat) (out : List Value) : o14 cs t s n c ex (0, .m j l out) = (o14 cs t s n c ex (0, .m j l out)).fix := by kernel_rfl
end
def rvI (cs : List Value) (n : Nat) : List Pt := (Turn.tr ((ipts cs n).foldl ds [])).reverse
theorem pts_flat (P : List Pt) : ∀ j, j ≤ P.length → pts (flatP P) j = P.take j
  | 0, _ => rfl
  | j + 1, h => by
    show pts (flatP P) j ++ [(pA (flatP P) j, pB (flatP P) j)] = _
    rw [pts_flat P j (by omega), pA_flat (by omega), pB_flat (by omega)]
    have hj : P[j]? = some (Turn.at_ P j) := by
      unfold Turn.at_
      rw [List.getD_eq_getElem?_getD, List.getElem?_eq_getElem (by omega)]; rfl
    rw [List.take_add_one, hj]; rfl
theorem RV_flat (P : List Pt) : RV (flatP P) P.length = (Turn.tr (P.foldl ds [])).reverse := by
  unfold RV fd
  rw [pts_flat P P.length (Nat.le_refl _), List.take_length]
def sp14z : NSpec := fun al css => match al, css with
  | [.slice (some ⟨1, 0, none⟩) n c], [cs] => some (okI cs n c ∧ n = 0, .old (.slice none 0 0))
  | _, _ => none
def sp14m : NSpec := fun al css => match al, css with
  | [.slice (some ⟨1, 0, none⟩) n c], [cs] => some (okI cs n c ∧ n ≠ 0 ∧ n < 1000000, .sl (rvI cs n).length (rvI cs n).length (flatP (rvI cs n)) 93 2 false)
  | _, _ => none
theorem c14z : ∀ al css os p v, sp14z al css = some (p, v) → p → Blks css os → (∀ cs ∈ css, cs.all Ex.flat = true) ∧ v.Ok Tryz.prog 85 al deads os (gl + css.length) := by
  intro al css os p v hs hp hb
  unfold sp14z at hs
  split at hs
  case h_2 => cases hs
  rename_i n c cs
  cases hs
  obtain ⟨t, s, ex, rfl⟩ := blks1 hb
  obtain ⟨p1, rfl⟩ := hp
  refine ⟨by simpa using p1.1, ?_⟩
  have hL := (L14 (t := t) (s := s) (ex := ex) (n := 0) (c := c) p1.1).table (id := 3) (s0 := .z) .none (by decide) trivial (run14 p1 (by decide)) (by kernel_rfl) [0]
  exact news_ok (C := K14 cs t s 0 c ex (0, .z)) (n := 60) ts7 hL (x14z cs t s 0 c ex) (b := 1000000) ((congrArg NT.sel (v14z cs t s 0 c ex)).trans rfl) (show 2 ≤ 1000000 by decide) (show NRes.Fl (.old (.slice none 0 0)) from rfl)
theorem c14m : ∀ al css os p v, sp14m al css = some (p, v) → p → Blks css os → (∀ cs ∈ css, cs.all Ex.flat = true) ∧ v.Ok Tryz.prog 85 al deads os (gl + css.length) := by
  intro al css os p v hs hp hb
  unfold sp14m at hs
  split at hs
  case h_2 => cases hs
  rename_i n c cs
  cases hs
  obtain ⟨t, s, ex, rfl⟩ := blks1 hb
  obtain ⟨p1, p2, p3⟩ := hp
  refine ⟨by simpa using p1.1, ?_⟩
  obtain ⟨k, rfl⟩ : ∃ k, n = k + 1 := ⟨n - 1, by omega⟩
  have hL := (L14 (t := t) (s := s) (ex := ex) (n := k + 1) (c := c) p1.1).table (id := 3) (s0 := .z) .none (by decide) trivial (run14 p1 p3) (by kernel_rfl) [0]
  have hlen := ipts_len cs (k + 1)
  have hrv : RV (flatP (ipts cs (k + 1))) (ipts cs (k + 1)).length = rvI cs (k + 1) := RV_flat _
  refine news_ok (C := K14 cs t s (k + 1) c ex (0, .m ((k + 1 : Nat) : Int) (ipts cs (k + 1)).length (flatP (ipts cs (k + 1))))) (n := 60) ts7 hL (x14m cs t s (k + 1) c ex _ _ _) (b := 3) ((congrArg NT.sel (v14m cs t s (k + 1) c ex _ _ _)).trans ?_) (show 2 ≤ 3 by decide) (flatP_flat _)
  simp only [NT.sel]
  rw [tru_iff.2 (show TokE (flatP (ipts cs (k + 1))) (ipts cs (k + 1)).length (ipts cs (k + 1)).length from ⟨okP_flat (by omega), by omega, by omega⟩), hrv]; rfl
noncomputable def T8 : Tb := ext (ext T7 85 (newE sp14z [] (heapL deads))) 1000085 (newE sp14m [] (heapL deads))
theorem ts8 {G : Nat} : TSound Tryz.prog G T8 := (ts7.new c14z).new c14m
end Go.Proofs.YteemponkignnhaaGreat.Ways
