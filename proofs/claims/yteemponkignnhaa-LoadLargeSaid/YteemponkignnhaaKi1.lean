import Derived.Test.YteemponkignnhaaKd1
import Derived.Test.YteemponkignnhaaKa1
set_option maxRecDepth 10000
noncomputable section
namespace Go.Proofs.Yteemponkignnhaa.Ways
open Go Go.Ex Go.RowKit Go.Turn Go.Ex.Ins
theorem stK_go {P r B : List Pt} {x : Pt} {lo hi : Int} (e : P = (x :: r).reverse ++ B) (hP : P.length < 1000000) (h : gtB x (lo, hi) = true) : (stK (flatP P) P.length lo hi ((r.length + 1 : Nat) : Int)).sel = some (.inl (r.length : Int)) := by
  have hlen : P.length = r.length + 1 + B.length := by rw [e]; simp; omega
  have hk : r.length < P.length := by omega
  have hx : P[r.length] = x := by
    subst e
    rw [List.getElem_append_left (by simp), List.getElem_reverse]
    simp
  unfold stK
  rw [show wrapF .i64 (((r.length + 1 : Nat) : Int) - 1) = (r.length : Int) from by rw [wrapF_in (by omega) (by omega)]; omega]
  have ho := okP_flat (a := P) hP
  have g := gt_iff.1 h
  unfold stK'
  rw [br_t (by rw [ltF_eq]; exact decide_eq_true (by omega)), askS_sel (bnd_t hk (Nat.le_refl _)), askS_sel (cA_t ho hk), show ((r.length : Nat) : Int).toNat = r.length from rfl, pA_fl hk, pB_fl hk, hx]
  by_cases h1 : lo < x.1
  · rw [br_t (by rw [ltF_eq]; exact decide_eq_true h1)]; rfl
  · rw [br_f (by rw [ltF_eq]; exact decide_eq_false h1), askS_sel (bnd_t hk (Nat.le_refl _)), askS_sel (cA_t ho hk), br_t (by rw [eqF_d]; exact decide_eq_true (by omega)), askS_sel (bnd_t hk (Nat.le_refl _)), askS_sel (cB2_t ho hk), br_t (by rw [ltF_eq]; exact decide_eq_true (by omega))]; rfl
theorem stK_end {P r B : List Pt} {x : Pt} {lo hi : Int} (e : P = (x :: r).reverse ++ B) (hP : P.length < 1000000) (h : gtB x (lo, hi) = false) : (stK (flatP P) P.length lo hi ((r.length + 1 : Nat) : Int)).sel = some (.inr 0) := by
  have hlen : P.length = r.length + 1 + B.length := by rw [e]; simp; omega
  have hk : r.length < P.length := by omega
  have hx : P[r.length] = x := by
    subst e
    rw [List.getElem_append_left (by simp), List.getElem_reverse]
    simp
  unfold stK
  rw [show wrapF .i64 (((r.length + 1 : Nat) : Int) - 1) = (r.length : Int) from by rw [wrapF_in (by omega) (by omega)]; omega]
  have ho := okP_flat (a := P) hP
  have g := gt_not.1 h
  unfold stK'
  rw [br_t (by rw [ltF_eq]; exact decide_eq_true (by omega)), askS_sel (bnd_t hk (Nat.le_refl _)), askS_sel (cA_t ho hk), show ((r.length : Nat) : Int).toNat = r.length from rfl, pA_fl hk, pB_fl hk, hx, br_f (by rw [ltF_eq]; exact decide_eq_false (by omega)), askS_sel (bnd_t hk (Nat.le_refl _)), askS_sel (cA_t ho hk)]
  by_cases h1 : x.1 = lo
  · rw [br_t (by rw [eqF_d]; exact decide_eq_true h1), askS_sel (bnd_t hk (Nat.le_refl _)), askS_sel (cB2_t ho hk), br_f (by rw [ltF_eq]; exact decide_eq_false (by omega))]; rfl
  · rw [br_f (by rw [eqF_d]; exact decide_eq_false h1)]; rfl
theorem runK {P : List Pt} {lo hi : Int} (hP : P.length < 1000000) : ∀ (r B : List Pt), P = r.reverse ++ B → ∃ m, runS (stK (flatP P) P.length lo hi) m (r.length : Int) = some (0, (plc (lo, hi) r : Int))
  | [], B, e => ⟨1, runD (by
    show (stK (flatP P) P.length lo hi 0).sel = _
    unfold stK stK'
    rw [br_f (by rw [ltF_eq]; rfl)]; rfl)⟩
  | x :: r, B, e => by
    cases h : gtB x (lo, hi) with
    | true =>
      obtain ⟨m, hm⟩ := runK hP r (x :: B) (by rw [e]; simp)
      refine ⟨m + 1, ?_⟩
      have : plc (lo, hi) (x :: r) = plc (lo, hi) r := by show cond (gtB x (lo, hi)) _ _ = _; rw [h]; rfl
      rw [this]
      exact runN (stK_go e hP h) hm
    | false =>
      refine ⟨1, ?_⟩
      have : plc (lo, hi) (x :: r) = r.length + 1 := by show cond (gtB x (lo, hi)) _ _ = _; rw [h]; rfl
      rw [this]
      exact runD (stK_end e hP h)
end Go.Proofs.Yteemponkignnhaa.Ways
set_option maxRecDepth 10000
noncomputable section
namespace Go.Proofs.Yteemponkignnhaa.Ways
open Go Go.Ex Go.RowKit Go.Turn Go.Ex.Ins
inductive PLc where
  | f
  | m (u : Nat)
  | e
inductive KV where
  | z
  | m (j : Int) (l : Nat) (st : List Value) (p : PLc)
def atP (l : Nat) : PLc → Int
  | .f => 0
  | .m u => u
  | .e => l
def plN (u l : Nat) : PLc := if u = 0 then .f else if u = l then .e else .m u
def spKo : Nat → Nat → Split := at_ [(42, 10)] .bool no_
def lo_ (cs : List Value) (j : Int) : Int := f_ cs j.toNat 2
def hi_ (cs : List Value) (j : Int) : Int := f_ cs j.toNat 3
def plVv (cs : List Value) (j : Int) (l : Nat) (st : List Value) : PLc := plN (plc (lo_ cs j, hi_ cs j) (pts st l).reverse) l
def endVv (cs st : List Value) (j : Int) (l : Nat) (p : PLc) : Prop := ∃ m, runS (stK st l (lo_ cs j) (hi_ cs j)) m (l : Int) = some (0, atP l p)
def nwVv (st : List Value) (l : Nat) (lo hi : Int) : PLc → List Value
  | .f => [i lo, i hi] ++ X7 st 0 l
  | .m u => X6 st u ++ [i lo, i hi] ++ X7 st u l
  | .e => X6 st l ++ [i lo, i hi]
def lnVv (l : Nat) : PLc → Nat
  | .f => 1 + (l - 0)
  | .m u => u + 1 + (l - u)
  | .e => l + 1
def okVv (st : List Value) (l : Nat) (lo hi : Int) : PLc → Bool
  | .f => oka9f st l lo hi
  | .m u => oka9m st l u lo hi
  | .e => oka9e st l
section
variable (cs : List Value) (n c : Nat) (t s : Nat) (ex : Bool)
noncomputable def LIn (j : Int) (l : Nat) (st : List Value) (p : PLc) : LTab := loopE (La5m cs st n c l j t s ex noL) 42 7 76 4 BkI ((ShK cs st n c l t s ex j (lo_ cs j) (hi_ cs j)).st l).live ((ShK cs st n c l t s ex j (lo_ cs j) (hi_ cs j)).st l).hp (.br (tru (endVv cs st j l p)) (finO (ShK cs st n c l t s ex j (lo_ cs j) (hi_ cs j)) (0, atP l p) [0]) .fail)
noncomputable def CcK : KV → Cfg
  | .z => ⟨noT, spKo, off_, La9z cs n c 0 (lo_ cs 0) (hi_ cs 0) t s ex (La5z cs n c t s ex noL)⟩
  | .m j l st .f => ⟨noT, spKo, off_, La9f cs st n c l j (lo_ cs j) (hi_ cs j) t s ex (LIn cs n c t s ex j l st .f)⟩
  | .m j l st (.m u) => ⟨noT, spKo, off_, La9m cs st n c l u j (lo_ cs j) (hi_ cs j) t s ex (LIn cs n c t s ex j l st (.m u))⟩
  | .m j l st .e => ⟨noT, spKo, off_, La9e cs st n c l j (lo_ cs j) (hi_ cs j) t s ex (LIn cs n c t s ex j l st .e)⟩
def tdVv : KV → Go.Ex.Told
  | .z => ⟨[(0, sl 1 0 n c), (3, .slice none 0 0), (4, i 0)], [ddQ, (.cells cs t s ex, true)]⟩
  | .m j l st _ => ⟨[(0, sl 1 0 n c), (3, sl 2 0 l l), (4, i j)], [ddQ, (.cells cs t s ex, true), (.cells st 126 2 false, true)]⟩
def fdVv : KV → Go.Ex.Told
  | .z => ⟨[(3, .slice none 0 0)], [ddQ, (.cells cs t s ex, true)]⟩
  | .m _ l st _ => ⟨[(3, sl 2 0 l l)], [ddQ, (.cells cs t s ex, true), (.cells st 126 2 false, true)]⟩
def ShKO : Shape KV := ⟨76, tdVv cs n c t s ex, fun _ q => (.exit 0, fdVv cs t s ex q)⟩
def nxVv (cs : List Value) (j : Int) (l : Nat) (st : List Value) : KV := .m j l st (plVv cs j l st)
def kkVv : PLc → Nat × Nat
  | .f => (8, 7)
  | .m _ => (9, 8)
  | .e => (8, 7)
noncomputable def stKO (cs : List Value) (n c : Nat) : KV → SS KV
  | .z => .br (ltF 0 n) (askS (oka5z cs n c) <| askS true <| .next 6 [0, 1, 5] (nxVv cs 1 1 [i (lo_ cs 0), i (hi_ cs 0)])) (.done 2 [0, 1] 0)
  | .m j l st p => .br (ltF j n) (askS (oka5m cs n c j) <| askS (tru (endVv cs st j l p)) <| askS true <| askS (okVv st l (lo_ cs j) (hi_ cs j) p) <| .next (kkVv p).1 [0, 1, (kkVv p).2] (nxVv cs (wrapF .i64 (j + 1)) (lnVv l p) (nwVv st l (lo_ cs j) (hi_ cs j) p))) (.done 3 [0, 1, 2] 0)
def GdVv : KV → Prop
  | .z => True
  | .m _ _ st _ => st.all Ex.flat = true
end
section
variable {cs : List Value} {n c : Nat} {t s : Nat} {ex : Bool}
theorem tdVv_flat (h : cs.all Ex.flat = true) {q : KV} (hq : GdVv q) : (tdVv cs n c t s ex q).flat := by
  intro o ho
  cases q
  all_goals (simp [tdVv, ddQ] at ho)
  · subst ho; exact fun y hy => List.all_eq_true.1 h y hy
  · rcases ho with rfl | rfl
    · exact fun y hy => List.all_eq_true.1 h y hy
    · exact fun y hy => List.all_eq_true.1 hq y hy
theorem fdVv_flat (h : cs.all Ex.flat = true) {q : KV} (hq : GdVv q) : (fdVv cs t s ex q).flat := by
  intro o ho
  cases q
  all_goals (simp [fdVv, ddQ] at ho)
  · subst ho; exact fun y hy => List.all_eq_true.1 h y hy
  · rcases ho with rfl | rfl
    · exact fun y hy => List.all_eq_true.1 h y hy
    · exact fun y hy => List.all_eq_true.1 hq y hy
theorem nwVv_flat {st : List Value} {l : Nat} {lo hi : Int} (h : st.all Ex.flat = true) (p : PLc) : (nwVv st l lo hi p).all Ex.flat = true := by
  cases p with
  | f => exact app_flat rfl (x7_flat h)
  | m _ => exact app_flat (app_flat (x6_flat h) rfl) (x7_flat h)
  | e => exact app_flat (x6_flat h) rfl
theorem goodVv : ∀ q q', GdVv q → (stKO cs n c q).sel = some (.inl q') → GdVv q' := by
  intro q q' hg h
  cases q with
  | z =>
    rcases br_or' h with h | h
    · have h := ask_or' (ask_or' h)
      cases h; rfl
    · cases h
  | m j l st p =>
    rcases br_or' h with h | h
    · have h := ask_or' (ask_or' (ask_or' (ask_or' h)))
      cases h; exact nwVv_flat hg p
    · cases h
theorem lsIn (h : cs.all Ex.flat = true) {j : Int} {l : Nat} {st : List Value} (h2 : st.all Ex.flat = true) (p : PLc) : LSound Try.prog 2 (LIn cs n c t s ex j l st p) :=
  (LkI (n := n) (c := c) (t := t) (s := s) (ex := ex) (j := j) h h2).tableIf (id := 7) (lsa5m .none h h2) (by decide) trivial (fun hp => tru_iff.1 hp) (by kernel_rfl) [0]
theorem LkO (h : cs.all Ex.flat = true) : Loop1 Try.prog 2 42 BkO (ShKO cs n c t s ex) 2 (stKO cs n c) GdVv :=
  .mk' (C := CcK cs n c t s ex) (n := 60) (fun q _ => by
    cases q with
    | z => exact .none
    | m _ _ _ p => cases p <;> exact .none) (fun q hq => by
    cases q with
    | z => exact lsa9z (lsa5z .none h) h
    | m j l st p =>
      cases p with
      | f => exact lsa9f (lsIn h hq .f) h hq
      | m u => exact lsa9m (lsIn h hq (.m u)) h hq
      | e => exact lsa9e (lsIn h hq .e) h hq)
    (fun q ro _ => by
      cases q with
      | z => kernel_rfl
      | m _ _ _ p => cases p <;> kernel_rfl) (fun q ro _ => by
      cases q with
      | z => kernel_rfl
      | m _ _ _ p => cases p <;> kernel_rfl) (fun q => by
      cases q with
      | z => kernel_rfl
      | m _ _ _ p => cases p <;> kernel_rfl)
    goodVv (fun _ hq => tdVv_flat h hq) (fun _ _ hq _ => ⟨fdVv_flat h hq, fun h => by cases h⟩)
end
end Go.Proofs.Yteemponkignnhaa.Ways
set_option maxRecDepth 10000
noncomputable section
namespace Go.Proofs.Yteemponkignnhaa.Ways
open Go Go.Ex Go.RowKit Go.Turn Go.Ex.Ins
def prV (cs : List Value) (j : Nat) : Pt := (lo_ cs (j : Int), hi_ cs (j : Int))
def prsV (cs : List Value) : Nat → List Pt
  | 0 => []
  | j + 1 => prsV cs j ++ [prV cs j]
def soV (cs : List Value) (j : Nat) : List Pt := Ins.sort (prsV cs j)
theorem so_succ (cs : List Value) (j : Nat) : soV cs (j + 1) = ins (prV cs j) (soV cs j) := by
  show (prsV cs j ++ [prV cs j]).foldl _ [] = _
  rw [List.foldl_append]; rfl
theorem so_len (cs : List Value) : ∀ j, (soV cs j).length = j
  | 0 => rfl
  | j + 1 => by rw [so_succ, ins_len, so_len cs j]
theorem X6_take {P : List Pt} {u : Nat} (h : u ≤ P.length) : X6 (flatP P) u = flatP (P.take u) := by
  have := X6_app (P.take u) (P.drop u)
  rwa [List.take_append_drop, List.length_take, Nat.min_eq_left h] at this
theorem X7_drop {P : List Pt} {u : Nat} (h : u ≤ P.length) : X7 (flatP P) u P.length = flatP (P.drop u) := by
  unfold X7
  have e : flatP P = flatP (P.take u) ++ flatP (P.drop u) := by rw [← flatP_app, List.take_append_drop]
  have e2 : (flatP (P.take u)).length = 0 + u * 2 := by rw [flatP_len, List.length_take, Nat.min_eq_left h]; omega
  rw [e, ← e2, List.drop_left, List.take_of_length_le (by rw [flatP_len, List.length_drop]; omega)]
theorem slN_t {u l : Nat} (h : u ≤ l) : slN (u : Int) l = true := by
  unfold slN
  rw [leF_eq, leF_eq, leF_eq, decide_eq_true (by omega), decide_eq_true (by omega), decide_eq_true (by omega)]; rfl
theorem slE_t {u l : Nat} (h : u ≤ l) : slE (u : Int) l = true := by
  unfold slE
  rw [leF_eq, leF_eq, leF_eq, decide_eq_true (by omega), decide_eq_true (by omega), decide_eq_true (by omega)]; rfl
theorem ap3_t {P : List Pt} {u : Nat} {w : List Value} (h : u < P.length) (hP : P.length < 1000000) (hw : w.length = (u + 1) * 2) : ap3 u P.length (flatP P) w = true := by
  have e : (flatP P).drop (0 + u * 2) = flatP (P.drop u) := by
    have e : flatP P = flatP (P.take u) ++ flatP (P.drop u) := by rw [← flatP_app, List.take_append_drop]
    have e2 : (flatP (P.take u)).length = 0 + u * 2 := by rw [flatP_len, List.length_take, Nat.min_eq_left (by omega)]; omega
    rw [e, ← e2, List.drop_left]
  unfold ap3 fullB
  rw [e, List.take_of_length_le (by rw [flatP_len, List.length_drop]; omega), flatP_one, flatP_len, decide_eq_true rfl, decide_eq_true hw, decide_eq_false (by omega), decide_eq_true (Nat.le_refl _), decide_eq_true (by omega), decide_eq_true (by omega)]; rfl
section
variable {P : List Pt} {lo hi : Int}
theorem pl_at (S : List Pt) (p : Pr) : atP S.length (plN (plc p S) S.length) = (plc p S : Int) := by
  unfold plN
  split
  · rename_i h; rw [h]; rfl
  · split
    · rename_i h; rw [h]; rfl
    · rfl
theorem nw_eq (S : List Pt) : nwVv (flatP S.reverse) S.length lo hi (plN (plc (lo, hi) S) S.length) = flatP (ins (lo, hi) S).reverse ∧ lnVv S.length (plN (plc (lo, hi) S) S.length) = S.length + 1 := by
  have hl : S.reverse.length = S.length := List.length_reverse
  have hle := plc_le (lo, hi) S
  rw [ins_fw]
  have e1 : flatP (S.reverse.take (plc (lo, hi) S) ++ (lo, hi) :: S.reverse.drop (plc (lo, hi) S)) = flatP (S.reverse.take (plc (lo, hi) S)) ++ [i lo, i hi] ++ flatP (S.reverse.drop (plc (lo, hi) S)) := by
    rw [flatP_app, List.append_assoc]; rfl
  rw [e1]
  unfold plN
  split
  · rename_i h
    rw [h]
    refine ⟨?_, by show 1 + (S.length - 0) = _; omega⟩
    show [i lo, i hi] ++ X7 (flatP S.reverse) 0 S.length = _
    rw [← hl, X7_drop (by omega)]; rfl
  · split
    · rename_i h h2
      rw [h2]
      refine ⟨?_, rfl⟩
      show X6 (flatP S.reverse) S.length ++ [i lo, i hi] = _
      rw [X6_take (by omega), List.drop_of_length_le (by omega)]
      show _ = _ ++ []
      rw [List.append_nil]
    · refine ⟨?_, by show plc (lo, hi) S + 1 + (S.length - plc (lo, hi) S) = _; omega⟩
      show X6 (flatP S.reverse) (plc (lo, hi) S) ++ [i lo, i hi] ++ X7 (flatP S.reverse) (plc (lo, hi) S) S.length = _
      rw [X6_take (by omega)]
      rw [← hl, X7_drop (by omega)]
theorem ok_eq (S : List Pt) (hS : S.length ≠ 0) (hS2 : S.length < 1000000) : okVv (flatP S.reverse) S.length lo hi (plN (plc (lo, hi) S) S.length) = true := by
  have hl : S.reverse.length = S.length := List.length_reverse
  have hle := plc_le (lo, hi) S
  unfold plN
  split
  · rename_i h
    show oka9f (flatP S.reverse) S.length lo hi = true
    unfold oka9f
    have := ap3_t (P := S.reverse) (u := 0) (w := [i lo, i hi]) (by omega) (by omega) rfl
    rw [hl] at this
    rw [this, show slN 0 S.length = true from slN_t (u := 0) (by omega), show slE 0 S.length = true from slE_t (u := 0) (by omega)]; rfl
  · split
    · rename_i h h2
      show oka9e (flatP S.reverse) S.length = true
      unfold oka9e
      have := apN_t (P := S.reverse) (k := S.length) hS (by omega) (by omega)
      rw [hl] at this
      rw [slN_t (Nat.le_refl _), slE_t (Nat.le_refl _), this, full2_t (by rw [X6_take (by omega), flatP_len, List.length_take]; omega) hS2]
      unfold nopE
      rw [decide_eq_true (by omega), decide_eq_true (Nat.le_refl _), decide_eq_true (Nat.le_refl _)]; rfl
    · rename_i h h2
      show oka9m (flatP S.reverse) S.length (plc (lo, hi) S) lo hi = true
      unfold oka9m
      have h1 := apN_t (P := S.reverse) (k := plc (lo, hi) S) h (by omega) (by omega)
      have h3 := ap3_t (P := S.reverse) (u := plc (lo, hi) S) (w := X6 (flatP S.reverse) (plc (lo, hi) S) ++ [i lo, i hi]) (by omega) (by omega) (by
        rw [X6_take (by omega), List.length_append, flatP_len, List.length_take, hl, Nat.min_eq_left hle]
        show _ + 2 = _
        omega)
      rw [hl] at h1 h3
      rw [slN_t hle, slE_t hle, h1, h3, full2_t (by rw [X6_take (by omega), flatP_len, List.length_take, hl, Nat.min_eq_left hle]) (by omega)]; rfl
end
theorem cI_of {cs : List Value} {n c j : Nat} (h : okF cs n c) (hj : j < n) : cI cs 2 (j : Int) = true ∧ cI cs 3 (j : Int) = true := by
  have h1 := h.2.2.2 j hj
  simp only [k4, areCells, Bool.and_eq_true] at h1
  obtain ⟨_, _, h2, h3, _⟩ := h1
  exact ⟨h2, h3⟩
end Go.Proofs.Yteemponkignnhaa.Ways
set_option maxRecDepth 10000
noncomputable section
namespace Go.Proofs.Yteemponkignnhaa.Ways
open Go Go.Ex Go.RowKit Go.Turn Go.Ex.Ins
section
variable {cs : List Value} {n c : Nat}
theorem a5m_t (h : okF cs n c) {j : Nat} (hj : j < n) : oka5m cs n c (j : Int) = true := by
  obtain ⟨h1, h2⟩ := cI_of h hj
  unfold oka5m
  rw [bnd_t hj h.2.1, h1, h2]; rfl
theorem stepS (h : okF cs n c) (hn : n < 999990) (S : List Pt) (hS : S.length ≠ 0) (hj : S.length < n) :
    (stKO cs n c (nxVv cs (S.length : Int) S.length (flatP S.reverse))).sel = some (.inl (nxVv cs ((S.length + 1 : Nat) : Int) (S.length + 1) (flatP (ins (prV cs S.length) S).reverse))) := by
  have hl : S.reverse.length = S.length := List.length_reverse
  have hp : plVv cs (S.length : Int) S.length (flatP S.reverse) = plN (plc (prV cs S.length) S) S.length := by
    unfold plVv
    rw [pts_flat _ _ (by omega), List.take_of_length_le (by omega), List.reverse_reverse]; rfl
  obtain ⟨m, hm⟩ := runK (P := S.reverse) (lo := lo_ cs (S.length : Int)) (hi := hi_ cs (S.length : Int)) (by omega) S [] (by rw [List.append_nil])
  rw [hl] at hm
  have hend : endVv cs (flatP S.reverse) (S.length : Int) S.length (plN (plc (prV cs S.length) S) S.length) := ⟨m, by rw [pl_at]; exact hm⟩
  have hnw := nw_eq (lo := lo_ cs (S.length : Int)) (hi := hi_ cs (S.length : Int)) S
  have hok : okVv (flatP S.reverse) S.length (lo_ cs (S.length : Int)) (hi_ cs (S.length : Int)) (plN (plc (prV cs S.length) S) S.length) = true := ok_eq (lo := lo_ cs (S.length : Int)) (hi := hi_ cs (S.length : Int)) S hS (by omega)
  show (stKO cs n c (.m (S.length : Int) S.length (flatP S.reverse) (plVv cs (S.length : Int) S.length (flatP S.reverse)))).sel = _
  rw [hp]
  unfold stKO
  dsimp only
  rw [br_t (by rw [ltF_eq]; exact decide_eq_true (by omega)), askS_sel (a5m_t h hj), askS_sel (tru_iff.2 hend), askS_sel rfl, askS_sel hok, wsucc (by omega)]
  show some (Sum.inl (nxVv cs ((S.length + 1 : Nat) : Int) (lnVv S.length (plN (plc (lo_ cs (S.length : Int), hi_ cs (S.length : Int)) S) S.length)) (nwVv (flatP S.reverse) S.length (lo_ cs (S.length : Int)) (hi_ cs (S.length : Int)) (plN (plc (lo_ cs (S.length : Int), hi_ cs (S.length : Int)) S) S.length)))) = _
  rw [hnw.1, hnw.2]; rfl
def stV (cs : List Value) : Nat → KV
  | 0 => .z
  | j + 1 => nxVv cs ((j + 1 : Nat) : Int) (j + 1) (flatP (soV cs (j + 1)).reverse)
theorem runV (h : okF cs n c) (hn : n < 999990) : runS (stKO cs n c) (n + 1) .z = some (0, stV cs n) := by
  refine run_all (step := stKO cs n c) (st := stV cs) (a := 0) n (fun j hj => ?_) ?_
  · cases j with
    | zero =>
      obtain ⟨h1, h2⟩ := cI_of h hj
      show (stKO cs n c .z).sel = _
      unfold stKO
      rw [br_t (by rw [ltF_eq]; exact decide_eq_true (by omega)), askS_sel (by unfold oka5z; rw [show bnd_ 0 n c = true from bnd_t (j := 0) hj h.2.1, show cI cs 2 0 = true from h1, show cI cs 3 0 = true from h2]; rfl), askS_sel rfl]; rfl
    | succ j =>
      have := stepS h hn (soV cs (j + 1)) (by rw [so_len]; omega) (by rw [so_len]; exact hj)
      rw [so_len] at this
      rw [← so_succ] at this
      exact this
  · cases n with
    | zero => rfl
    | succ n =>
      show (stKO cs (n + 1) c (.m ((n + 1 : Nat) : Int) _ _ _)).sel = _
      unfold stKO
      dsimp only
      rw [br_f (by rw [ltF_eq]; simp)]; rfl
end
section
variable (cs : List Value) (t s n c : Nat) (ex : Bool)
noncomputable def K40 (q : KV) : Cfg := ⟨noT, no_, off_, loopE noL 42 3 76 2 BkO ((ShKO cs n c t s ex).st .z).live ((ShKO cs n c t s ex).st .z).hp (finO (ShKO cs n c t s ex) (0, q) [0])⟩
noncomputable def o40 (q : KV) : Out QRes := execO Try.prog 2 (K40 cs t s n c ex q) 60 (.call 42 ⟨[sl 1 0 n c]⟩ (heapL (deads ++ [.cells cs t s ex])))
theorem v40 (j : Int) (l : Nat) (st : List Value) (p : PLc) : (o40 cs t s n c ex (.m j l st p)).news = .br true (.leaf 2 (.sl l l st 126 2 false)) .fail := by kernel_rfl
theorem x40 (j : Int) (l : Nat) (st : List Value) (p : PLc) : o40 cs t s n c ex (.m j l st p) = (o40 cs t s n c ex (.m j l st p)).fix := by kernel_rfl
end
def V40 (cs : List Value) (n c : Nat) : Prop := okF cs n c ∧ 1 ≤ n ∧ n < 999990
def sp40 : NSpec := fun al css => match al, css with
  | [.slice (some ⟨1, 0, none⟩) n c], [cs] => some (V40 cs n c, .sl n n (flatP (soV cs n).reverse) 126 2 false)
  | _, _ => none
theorem c40 : ∀ al css os p v, sp40 al css = some (p, v) → p → Blks css os → (∀ cs ∈ css, cs.all Ex.flat = true) ∧ v.Ok Try.prog 42 al deads os (gl + css.length) := by
  intro al css os p v hs hp hb
  unfold sp40 at hs
  split at hs
  case h_2 => cases hs
  rename_i n c cs
  cases hs
  obtain ⟨t, s, ex, rfl⟩ := blks1 hb
  obtain ⟨p1, p2, p3⟩ := hp
  refine ⟨by simpa using p1.1, ?_⟩
  obtain ⟨k, rfl⟩ : ∃ k, n = k + 1 := ⟨n - 1, by omega⟩
  have hL := (LkO (t := t) (s := s) (ex := ex) (n := k + 1) (c := c) p1.1).table (id := 3) (s0 := .z) .none (by decide) trivial (runV p1 p3) (by kernel_rfl) [0]
  exact news_ok (C := K40 cs t s (k + 1) c ex (stV cs (k + 1))) (n := 60) .none hL (x40 cs t s (k + 1) c ex _ _ _ _) (b := 2) ((congrArg NT.sel (v40 cs t s (k + 1) c ex _ _ _ _)).trans rfl) (show 2 ≤ 2 by decide) (flatP_flat _)
end Go.Proofs.Yteemponkignnhaa.Ways
