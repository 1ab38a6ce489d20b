import Derived.Test.YteemponkignnhaaGreatLr2
noncomputable section
namespace Go.Proofs.YteemponkignnhaaGreat.Ways
open Go Go.Ex Go.RowKit Go.Turn
theorem p87 (a a2 b b2 c c2 : Int) : Pure Tryz.prog Hd 126 [ag [i a2, i a], ag [i b2, i b], ag [i c2, i c]] (b_ (Turn.turns b a c)) := by
  refine pure_run (C := ⟨T8, at_ [(126, 14), (126, 23)] .bool no_, off_, noL⟩) (G := 1) 30 (.br (ltF (if b < c then c else b) a) (.leaf (b_ true)) (.br (ltF a (if c < b then c else b)) (.leaf (b_ true)) (.leaf (b_ false)))) ts8 .none (by decide) hd_len rfl (by kernel_rfl) (by kernel_rfl) ?_
  simp only [VT.sel]
  unfold Turn.turns
  rw [ltF_eq, ltF_eq]
  by_cases h1 : b < c
  · rw [if_pos h1, if_neg (show ¬ c < b by omega)]
    by_cases h2 : c < a
    · rw [decide_eq_true h2, decide_eq_true (show b < a by omega)]; rfl
    · rw [decide_eq_false h2, Bool.and_false, Bool.false_or]
      by_cases h3 : a < b
      · rw [decide_eq_true h3, decide_eq_true (show a < c by omega)]; rfl
      · rw [decide_eq_false h3]; rfl
  · rw [if_neg h1]
    by_cases h2 : b < a
    · rw [decide_eq_true h2, decide_eq_true (show c < a by omega)]; rfl
    · rw [decide_eq_false h2, Bool.false_and, Bool.false_or]
      by_cases h4 : c < b
      · rw [if_pos h4]
        by_cases h3 : a < c
        · rw [decide_eq_true h3, decide_eq_true (show a < b by omega)]; rfl
        · rw [decide_eq_false h3, Bool.and_false]; rfl
      · rw [if_neg h4]
        have hbc : b = c := by omega
        subst hbc
        by_cases h3 : a < b
        · rw [decide_eq_true h3]; rfl
        · rw [decide_eq_false h3]; rfl
def s87 : List Value → Option Value
  | [.agg ⟨[.int .i64 _, .int .i64 a]⟩, .agg ⟨[.int .i64 _, .int .i64 b]⟩, .agg ⟨[.int .i64 _, .int .i64 c]⟩] => some (b_ (Turn.turns b a c))
  | _ => none
noncomputable def T9 : Tb := ext T8 126 (pureE s87 [] Hd)
theorem ts9 {G : Nat} : TSound Tryz.prog G T9 := by
  refine TSound.pure hd_vars ts8 fun args v h => ?_
  unfold s87 at h
  split at h
  · cases h; exact p87 _ _ _ _ _ _
  · cases h
end Go.Proofs.YteemponkignnhaaGreat.Ways
noncomputable section
namespace Go.Proofs.YteemponkignnhaaGreat.Ways
open Go Go.Ex Go.RowKit Go.Turn
noncomputable def B85 : Code := bodyL Tryz.f114 3
noncomputable def B49 : Code := bodyL Tryz.f90 3
noncomputable def sp9 : Nat → Nat → Split := at_ [(114, 10), (114, 22), (114, 31), (114, 35), (114, 47), (90, 12)] .bool no_
noncomputable def sp9z : Nat → Nat → Split := at_ [(114, 10)] .bool no_
def sy9z : Nat → Nat → Bool := on_ [(114, 11), (114, 12), (90, 8), (90, 14), (90, 15), (90, 21), (90, 100021)]
def sy9 : Nat → Nat → Bool := on_ [(114, 11), (114, 12), (114, 26), (114, 28), (114, 39), (114, 40), (114, 44), (114, 45), (114, 53), (114, 100053), (114, 19), (114, 300019)]
noncomputable def C9 : PS → Cfg
  | .z => ⟨T9, sp9z, sy9z, noL⟩
  | .m _ _ _ => ⟨T9, sp9, sy9, noL⟩
def set2 (out : List Value) (k : Nat) (l : List Value) : List Value := (out.set k (l.getD 0 (i 0))).set (k + 1) (l.getD 1 (i 0))
def in2 (out : List Value) (k : Nat) (v : Value) : Bool := decide (k < out.length) && (decide (k + 1 < (out.set k v).length) && true)
section
variable (cs : List Value) (t s n c : Nat) (ex : Bool)
def hpm9 (out : List Value) (e2 : Bool) : List (CO × Bool) := [(.dead, false), (.cells cs t s ex, true), (.cells out 114 2 e2, true)]
def S85 : Shape PS := ⟨56, fun q => match q with
  | .z => ⟨[(7, sl 1 0 n c), (8, i n), (3, .slice none 0 0), (9, i 0)], hpz cs t s ex⟩
  | .m j l out => ⟨[(7, sl 1 0 n c), (8, i n), (3, sl 2 0 l l), (9, i j)], hpm9 cs t s ex out false⟩,
  fun _ q => match q with
  | .z => (.exit 0, ⟨[(3, .slice none 0 0)], hpz cs t s ex⟩)
  | .m _ l out => (.exit 0, ⟨[(3, sl 2 0 l l)], hpm9 cs t s ex out false⟩)⟩
def ap85 (j : Int) (l : Nat) (out : List Value) : SS PS := askS (full2 l out) <| .next 6 [0, 1, 5] (.m (wrapF .i64 (j + 1)) (l + 1) (out ++ el cs j))
def sk85 (j : Int) (l : Nat) (out : List Value) : SS PS := .next 4 [0, 1, 2] (.m (wrapF .i64 (j + 1)) l out)
def w85 (l : Nat) : Int := wrapF .i64 (l - 1)
def sub85 (j : Int) (l : Nat) (out : List Value) : SS PS := .br (leF 1 (w85 l)) (askS (bnd_ (w85 l) l l) <| askS (cP out (w85 l)) <| askS (bnd_ (wrapF .i64 (w85 l - 1)) l l) <| askS (cP out (wrapF .i64 (w85 l - 1))) <|
  .br (Turn.turns (pB out (wrapF .i64 (w85 l - 1)).toNat) (pB out (w85 l).toNat) (pB cs j.toNat)) (ap85 cs j l out) (askS (bnd_ (w85 l) l l) <| askS (in2 out (0 + (w85 l).toNat * 2) (i (pA cs j.toNat))) <| sk85 j l (set2 out (0 + (w85 l).toNat * 2) (el cs j)))) (ap85 cs j l out)
def st85 : PS → SS PS
  | .z => .br (ltF 0 n) (askS (bnd_ 0 n c) <| askS (cP cs 0) <| .next 5 [0, 1, 4] (.m 1 1 (el cs 0))) (.done 2 [0, 1] 0)
  | .m j l out => .br (ltF j n) (askS (bnd_ j n c) <| askS (cP cs j) <| .br (leF 0 (w85 l)) (askS (bnd_ (w85 l) l l) <| askS (cB2 out (w85 l)) <| .br (eqF (pB out (w85 l).toNat) (pB cs j.toNat)) (sk85 j l out) (sub85 cs j l out)) (sub85 cs j l out)) (.done 3 [0, 1, 2] 0)
def S49 : Shape (Int × List Value) := ⟨25, fun q => ⟨[(9, sl 1 0 n c), (10, i n), (3, sl 2 0 n n), (11, i q.1)], hpm9 cs t s ex q.2 true⟩, fun _ q => (.exit 0, ⟨[(3, sl 2 0 n n)], hpm9 cs t s ex q.2 true⟩)⟩
def st49 (q : Int × List Value) : SS (Int × List Value) := .br (ltF q.1 n) (askS (bnd_ q.1 n c) <| askS (cB cs (.i .i64) q.1) <| askS (bnd_ q.1 n n) <| askS (in2 q.2 (0 + q.1.toNat * 2) (i q.1)) <|
  .next 3 [0, 1, 2] (wrapF .i64 (q.1 + 1), set2 q.2 (0 + q.1.toNat * 2) [i q.1, i (eI cs q.1.toNat)])) (.done 3 [0, 1, 2] 0)
end
def GdQ (q : Int × List Value) : Prop := q.2.all Ex.flat = true
section
variable {cs : List Value} {t s n c : Nat} {ex : Bool}
theorem hpm9_flat {out : List Value} {e2 : Bool} (h : cs.all Ex.flat = true) (h2 : out.all Ex.flat = true) : ∀ o, (o, true) ∈ hpm9 cs t s ex out e2 → FlatO o := by
  intro o ho
  simp [hpm9] at ho
  rcases ho with rfl | rfl
  · exact fun x hx => List.all_eq_true.1 h x hx
  · exact fun x hx => List.all_eq_true.1 h2 x hx
theorem set_flat {l : List Value} {j : Nat} {x : Value} (h : l.all Ex.flat = true) (hx : Ex.flat x = true) : (l.set j x).all Ex.flat = true :=
  List.all_eq_true.2 fun y hy => by
    rcases List.mem_or_eq_of_mem_set hy with hy | rfl
    · exact List.all_eq_true.1 h y hy
    · exact hx
theorem set2_flat {out : List Value} {k : Nat} {a b : Int} (h : out.all Ex.flat = true) : (set2 out k [i a, i b]).all Ex.flat = true := set_flat (set_flat h rfl) rfl
theorem good85 : ∀ q q', GdP q → (st85 cs n c q).sel = some (.inl q') → GdP q' := by
  intro q q' hg h
  cases q with
  | z =>
    rcases br_or' h with h | h
    · have h := ask_or' (ask_or' h); cases h; rfl
    · cases h
  | m j l out =>
    have ha : (ap85 cs j l out).sel = some (.inl q') → GdP q' := fun h => by
      have h := ask_or' h; cases h; exact app_flat hg rfl
    have hs : (sub85 cs j l out).sel = some (.inl q') → GdP q' := fun h => by
      rcases br_or' h with h | h
      · rcases br_or' (ask_or' (ask_or' (ask_or' (ask_or' h)))) with h | h
        · exact ha h
        · have h := ask_or' (ask_or' h); cases h; exact set2_flat hg
      · exact ha h
    rcases br_or' h with h | h
    · rcases br_or' (ask_or' (ask_or' h)) with h | h
      · rcases br_or' (ask_or' (ask_or' h)) with h | h
        · cases h; exact hg
        · exact hs h
      · exact hs h
    · cases h
theorem good49 : ∀ q q', GdQ q → (st49 cs n c q).sel = some (.inl q') → GdQ q' := by
  intro q q' hg h
  rcases br_or' h with h | h
  · have h := ask_or' (ask_or' (ask_or' (ask_or' h))); cases h; exact set2_flat hg
  · cases h
theorem L85 (h : cs.all Ex.flat = true) : Loop1 Tryz.prog 2 114 B85 (S85 cs t s n c ex) 2 (st85 cs n c) GdP :=
  .mk' (C := C9) (n := 60) (fun q _ => by cases q <;> exact ts9) (fun q _ => by cases q <;> exact .none) (fun q ro _ => by cases q <;> kernel_rfl) (fun q ro _ => by cases q <;> kernel_rfl) (fun q => by cases q <;> kernel_rfl) good85
    (fun q hq => by cases q with
      | z => exact hpI_flat h
      | m _ _ _ => exact hpm9_flat h hq)
    (fun q j hq _ => by cases q with
      | z => exact ⟨hpI_flat h, fun h => by cases h⟩
      | m _ _ _ => exact ⟨hpm9_flat h hq, fun h => by cases h⟩)
theorem L49 (h : cs.all Ex.flat = true) : Loop1 Tryz.prog 2 90 B49 (S49 cs t s n c ex) 3 (st49 cs n c) GdQ :=
  .mk' (C := fun _ => ⟨T9, sp9, sy9z, noL⟩) (n := 60) (fun _ _ => ts9) (fun _ _ => .none) (fun q ro _ => by kernel_rfl) (fun q ro _ => by kernel_rfl) (fun q => by kernel_rfl) good49
    (fun _ hq => hpm9_flat h hq) (fun _ _ hq _ => ⟨hpm9_flat h hq, fun h => by cases h⟩)
end
end Go.Proofs.YteemponkignnhaaGreat.Ways
noncomputable section
namespace Go.Proofs.YteemponkignnhaaGreat.Ways
open Go Go.Ex Go.RowKit Go.Turn
theorem set_app {A B : List Value} {k : Nat} {x : Value} (h : A.length ≤ k) : (A ++ B).set k x = A ++ B.set (k - A.length) x := List.set_append_right _ _ h
theorem set2_app {A B : List Value} {k : Nat} {a b x y : Value} (h : A.length = k) : set2 (A ++ x :: y :: B) k [a, b] = A ++ a :: b :: B := by
  unfold set2
  rw [set_app (by omega), h, Nat.sub_self]
  show (A ++ a :: y :: B).set (k + 1) b = _
  rw [set_app (by omega), h, show k + 1 - k = 1 from by omega]; rfl
theorem in2_t {out : List Value} {k : Nat} {v : Value} (h : k + 1 < out.length) : in2 out k v = true := by
  unfold in2
  rw [decide_eq_true (by omega), List.length_set, decide_eq_true h]; rfl
def fp (cs : List Value) (j : Nat) : List Pt := (pts cs j).foldl ps []
theorem fp_succ (cs : List Value) (j : Nat) : fp cs (j + 1) = ps (fp cs j) (pA cs j, pB cs j) := by
  show (pts cs j ++ [(pA cs j, pB cs j)]).foldl ps [] = ps ((pts cs j).foldl ps []) _
  rw [List.foldl_append]; rfl
theorem ps_cons (D : List Pt) (p : Pt) : ∃ q o, ps D p = q :: o := by
  match D with
  | [] => exact ⟨p, [], rfl⟩
  | [q] =>
    show ∃ q' o', (if q.2 = p.2 then [q] else [p, q]) = q' :: o'
    split
    · exact ⟨q, [], rfl⟩
    · exact ⟨p, [q], rfl⟩
  | q :: r :: o =>
    show ∃ q' o', (if q.2 = p.2 then q :: r :: o else if turns r.2 q.2 p.2 = true then p :: q :: r :: o else p :: r :: o) = q' :: o'
    split
    · exact ⟨q, _, rfl⟩
    · split
      · exact ⟨p, _, rfl⟩
      · exact ⟨p, _, rfl⟩
theorem ps_len (D : List Pt) (p : Pt) : (ps D p).length ≤ D.length + 1 := by
  match D with
  | [] => exact Nat.le_refl _
  | [q] =>
    show (if q.2 = p.2 then [q] else [p, q]).length ≤ _
    split <;> simp
  | q :: r :: o =>
    show (if q.2 = p.2 then q :: r :: o else if turns r.2 q.2 p.2 = true then p :: q :: r :: o else p :: r :: o).length ≤ _
    split
    · simp
    · split <;> simp
theorem fp_len (cs : List Value) : ∀ j, (fp cs j).length ≤ j
  | 0 => Nat.le_refl 0
  | j + 1 => by
    rw [fp_succ]
    have := ps_len (fp cs j) (pA cs j, pB cs j)
    have := fp_len cs j
    omega
theorem run85 {cs : List Value} {n c : Nat} (h : okP cs n c) (hn : n < 1000000) : runS (st85 cs n c) (n + 1) .z = some (0, psT (fun j => (fp cs j).reverse) n) := by
  have hc := h.2.1
  refine run_all (st := psT fun j => (fp cs j).reverse) n (fun j hj => ?_) ?_
  · have hT : psT (fun j => (fp cs j).reverse) (j + 1) = .m ((j + 1 : Nat) : Int) (fp cs (j + 1)).reverse.length (flatP (fp cs (j + 1)).reverse) := rfl
    rw [hT]
    cases j with
    | zero =>
      show (st85 cs n c .z).sel = _
      unfold st85
      rw [br_t (by rw [ltF_eq]; simpa using hj), askS_sel (show bnd_ 0 n c = true from bnd_t (j := 0) hj hc), askS_sel (show cP cs 0 = true from cP_t (j := 0) h hj)]; rfl
    | succ j =>
      show (st85 cs n c (.m ((j + 1 : Nat) : Int) (fp cs (j + 1)).reverse.length (flatP (fp cs (j + 1)).reverse))).sel = _
      obtain ⟨q, o, hq⟩ := ps_cons (fp cs j) (pA cs j, pB cs j)
      have hF : fp cs (j + 1) = q :: o := (fp_succ cs j).trans hq
      have hlen := fp_len cs (j + 1)
      have hN : fp cs (j + 1 + 1) = ps (q :: o) (pA cs (j + 1), pB cs (j + 1)) := by rw [fp_succ, hF]
      rw [hF] at hlen ⊢
      rw [List.length_cons] at hlen
      have hrl : (q :: o).reverse.length = o.length + 1 := by simp
      have hlast : Turn.at_ (q :: o).reverse o.length = q := by
        rw [List.reverse_cons]
        have := Turn.at_last o.reverse q
        rwa [List.length_reverse] at this
      have hw : w85 (q :: o).reverse.length = (o.length : Int) := by
        unfold w85
        rw [hrl, wrapF_in (by omega) (by omega)]
        omega
      have hA : ∀ {P : List Pt}, P = (q :: o).reverse ++ [(pA cs (j + 1), pB cs (j + 1))] → (ap85 cs ((j + 1 : Nat) : Int) (q :: o).reverse.length (flatP (q :: o).reverse)).sel = some (.inl (.m ((j + 1 + 1 : Nat) : Int) P.length (flatP P))) := by
        intro P hP
        subst hP
        unfold ap85
        rw [askS_sel (full2_t (flatP_len _) (by rw [hrl]; omega)), wsucc (by omega), flatP_app, List.length_append]; rfl
      have hok : okP (flatP (q :: o).reverse) (q :: o).reverse.length (q :: o).reverse.length := okP_flat (by rw [hrl]; omega)
      have hsub : ¬ q.2 = pB cs (j + 1) → (sub85 cs ((j + 1 : Nat) : Int) (q :: o).reverse.length (flatP (q :: o).reverse)).sel = some (.inl (.m ((j + 1 + 1 : Nat) : Int) (ps (q :: o) (pA cs (j + 1), pB cs (j + 1))).reverse.length (flatP (ps (q :: o) (pA cs (j + 1), pB cs (j + 1))).reverse))) := by
        intro hne
        unfold sub85
        cases o with
        | nil =>
          have e1 : ps [q] (pA cs (j + 1), pB cs (j + 1)) = [(pA cs (j + 1), pB cs (j + 1)), q] := by
            show (if q.2 = pB cs (j + 1) then _ else _) = _
            rw [if_neg hne]
          rw [hw, br_f (by rw [leF_eq]; rfl), e1]
          exact hA rfl
        | cons r o =>
          have hw2 : wrapF .i64 (((r :: o).length : Int) - 1) = (o.length : Int) := by
            rw [List.length_cons, wrapF_in (by omega) (by rw [List.length_cons] at hlen; omega)]
            omega
          have hlast2 : Turn.at_ (q :: r :: o).reverse o.length = r := by
            rw [List.reverse_cons, Turn.at_app (by simp), List.reverse_cons]
            have := Turn.at_last o.reverse r
            rwa [List.length_reverse] at this
          have e1 : ps (q :: r :: o) (pA cs (j + 1), pB cs (j + 1)) = if turns r.2 q.2 (pB cs (j + 1)) = true then (pA cs (j + 1), pB cs (j + 1)) :: q :: r :: o else (pA cs (j + 1), pB cs (j + 1)) :: r :: o := by
            show (if q.2 = pB cs (j + 1) then _ else _) = _
            rw [if_neg hne]
          rw [hw, hw2, br_t (by rw [leF_eq]; exact decide_eq_true (by rw [List.length_cons]; omega)), askS_sel (bnd_t (by rw [hrl]; omega) (Nat.le_refl _)), askS_sel (cP_t hok (by rw [hrl]; omega)), askS_sel (bnd_t (by rw [hrl, List.length_cons]; omega) (Nat.le_refl _)), askS_sel (cP_t hok (by rw [hrl, List.length_cons]; omega)),
            show ((o.length : Nat) : Int).toNat = o.length from rfl, show (((r :: o).length : Nat) : Int).toNat = (r :: o).length from rfl, show ((j + 1 : Nat) : Int).toNat = j + 1 from rfl, pB_flat (by rw [hrl, List.length_cons]; omega), pB_flat (by rw [hrl]; omega), hlast, hlast2, e1]
          by_cases ht : turns r.2 q.2 (pB cs (j + 1)) = true
          · rw [if_pos ht, br_t ht]
            exact hA (by rw [List.reverse_cons])
          · rw [if_neg ht, br_f (by simpa using ht), askS_sel (bnd_t (by rw [hrl]; omega) (Nat.le_refl _)), askS_sel (in2_t (by rw [flatP_len, hrl]; omega))]
            have hset : set2 (flatP (q :: r :: o).reverse) (0 + (r :: o).length * 2) (el cs ((j + 1 : Nat) : Int)) = flatP ((pA cs (j + 1), pB cs (j + 1)) :: r :: o).reverse := by
              rw [show (q :: r :: o).reverse = (r :: o).reverse ++ [q] from List.reverse_cons, show ((pA cs (j + 1), pB cs (j + 1)) :: r :: o).reverse = (r :: o).reverse ++ [(pA cs (j + 1), pB cs (j + 1))] from List.reverse_cons, flatP_app, flatP_app]
              show set2 (flatP (r :: o).reverse ++ [i q.1, i q.2]) (0 + (r :: o).length * 2) [i (pA cs (j + 1)), i (pB cs (j + 1))] = _
              rw [set2_app (by rw [flatP_len, List.length_reverse]; omega)]; rfl
            unfold sk85
            rw [hset, wsucc (by omega)]
            rw [show (q :: r :: o).reverse.length = ((pA cs (j + 1), pB cs (j + 1)) :: r :: o).reverse.length from by simp]; rfl
      unfold st85
      dsimp only
      rw [br_t (by rw [ltF_eq]; exact decide_eq_true (by omega)), askS_sel (bnd_t hj hc), askS_sel (cP_t h hj), hw, br_t (by rw [leF_eq]; exact decide_eq_true (by omega)), askS_sel (bnd_t (by rw [hrl]; omega) (Nat.le_refl _)), askS_sel (cB2_t hok (by rw [hrl]; omega)),
        show ((o.length : Nat) : Int).toNat = o.length from rfl, show ((j + 1 : Nat) : Int).toNat = j + 1 from rfl, pB_flat (by rw [hrl]; omega), hlast, hN]
      by_cases he : q.2 = pB cs (j + 1)
      · have e1 : ps (q :: o) (pA cs (j + 1), pB cs (j + 1)) = q :: o := by
          cases o with
          | nil => show (if q.2 = pB cs (j + 1) then _ else _) = _; rw [if_pos he]
          | cons _ _ => show (if q.2 = pB cs (j + 1) then _ else _) = _; rw [if_pos he]
        rw [br_t (by rw [eqF_d]; exact decide_eq_true he), e1]
        unfold sk85
        rw [wsucc (by omega)]; rfl
      · rw [br_f (by rw [eqF_d]; exact decide_eq_false he)]
        exact hsub he
  · cases n with
    | zero => rfl
    | succ n =>
      show (st85 cs (n + 1) c (.m ((n + 1 : Nat) : Int) _ _)).sel = _
      unfold st85
      dsimp only
      rw [br_f (by rw [ltF_eq]; simp)]; rfl
def z0 (n : Nat) : List Value := (zeroRow #[i 0, i 0] ((n : Int).toNat * 2)).toList
theorem z0_len (n : Nat) : (z0 n).length = n * 2 := by
  unfold z0 zeroRow
  simp
theorem z0_flat (n : Nat) : (z0 n).all Ex.flat = true := by
  refine List.all_eq_true.2 fun v hv => ?_
  unfold z0 zeroRow at hv
  simp only [Array.toList_map, List.mem_map, Array.mem_toList_iff, Array.mem_range] at hv
  obtain ⟨k, _, rfl⟩ := hv
  have hk : k % (#[i 0, i 0] : Array Value).size < 2 := Nat.mod_lt _ (by decide)
  generalize k % (#[i 0, i 0] : Array Value).size = m at hk
  match m, hk with
  | 0, _ => rfl
  | 1, _ => rfl
theorem run49 {cs : List Value} {n c : Nat} (h : okI cs n c) (hn : n < 1000000) : runS (st49 cs n c) (n + 1) (0, z0 n) = some (0, ((n : Int), flatP (ipts cs n))) := by
  have hc := h.2.1
  have key := run_all (step := st49 cs n c) (st := fun j => (((j : Nat) : Int), flatP (ipts cs j) ++ (z0 n).drop (j * 2))) (a := 0) n (fun j hj => ?_) ?_
  · have e1 : flatP (ipts cs n) ++ (z0 n).drop (n * 2) = flatP (ipts cs n) := by rw [List.drop_of_length_le (by rw [z0_len]; exact Nat.le_refl _), List.append_nil]
    rw [e1] at key
    exact key
  · have hfl : (flatP (ipts cs j)).length = j * 2 := by rw [flatP_len, ipts_len]
    have hdl : ((z0 n).drop (j * 2)).length = n * 2 - j * 2 := by rw [List.length_drop, z0_len]
    have hcell : cB cs (.i .i64) (j : Int) = true := h.2.2.2 j hj
    obtain ⟨x, y, B, hB⟩ : ∃ x y B, (z0 n).drop (j * 2) = x :: y :: B := by
      match hd : (z0 n).drop (j * 2), hdl with
      | [], hdl => simp at hdl; omega
      | [x], hdl => simp at hdl; omega
      | x :: y :: B, _ => exact ⟨x, y, B, rfl⟩
    have hB2 : (z0 n).drop ((j + 1) * 2) = B := by
      rw [show (j + 1) * 2 = j * 2 + 2 from by omega, ← List.drop_drop, hB]; rfl
    have hset : set2 (flatP (ipts cs j) ++ (z0 n).drop (j * 2)) (0 + j * 2) [i (j : Int), i (eI cs j)] = flatP (ipts cs (j + 1)) ++ (z0 n).drop ((j + 1) * 2) := by
      rw [hB, set2_app (by omega), hB2]
      show _ = flatP (ipts cs j ++ [((j : Int), eI cs j)]) ++ B
      rw [flatP_app, List.append_assoc]; rfl
    unfold st49
    dsimp only
    rw [br_t (by rw [ltF_eq]; simpa using hj), askS_sel (bnd_t hj hc), askS_sel hcell, askS_sel (bnd_t hj (Nat.le_refl n)), show ((j : Nat) : Int).toNat = j from rfl, askS_sel (in2_t (by rw [List.length_append, hfl, hdl]; omega)), wsucc (by omega), hset]; rfl
  · unfold st49
    dsimp only
    rw [br_f (by rw [ltF_eq]; simp)]; rfl
end Go.Proofs.YteemponkignnhaaGreat.Ways
noncomputable section
namespace Go.Proofs.YteemponkignnhaaGreat.Ways
open Go Go.Ex Go.RowKit Go.Turn
section
variable (cs : List Value) (t s n c : Nat) (ex : Bool)
noncomputable def K85 (r : Nat × PS) : Cfg := ⟨T9, no_, off_, loopE noL 114 3 56 2 B85 ((S85 cs t s n c ex).st .z).live ((S85 cs t s n c ex).st .z).hp (finO (S85 cs t s n c ex) r [0])⟩
noncomputable def o85 (r : Nat × PS) : Out QRes := execO Tryz.prog 2 (K85 cs t s n c ex r) 60 (.call 114 ⟨[sl 1 0 n c]⟩ (heapL (deads ++ [.cells cs t s ex])))
theorem v85z : (o85 cs t s n c ex (0, .z)).news = .br true (.leaf 1000000 (.old (.slice none 0 0))) .fail := by kernel_rfl
theorem x85z : o85 cs t s n c ex (0, .z) = (o85 cs t s n c ex (0, .z)).fix := by kernel_rfl
theorem v85m (j : Int) (l : Nat) (out : List Value) : (o85 cs t s n c ex (0, .m j l out)).news = .br true (.leaf 2 (.sl l l out 114 2 false)) .fail := by kernel_rfl
theorem x85m (j : Int) (l : Nat) (out : List Value) : o85 cs t s n c ex (0, .m j l out) = (o85 cs t s n c ex (0, .m j l out)).fix := by kernel_rfl
end
theorem fp_RV (cs : List Value) (n : Nat) : (fp cs n).reverse = RV cs n := by
  show ((pts cs n).foldl ps []).reverse = (Turn.tr ((pts cs n).foldl ds [])).reverse
  rw [Turn.same]
def sp85z : NSpec := fun al css => match al, css with
  | [.slice (some ⟨1, 0, none⟩) n c], [cs] => some (okP cs n c ∧ n = 0, .old (.slice none 0 0))
  | _, _ => none
def sp85m : NSpec := fun al css => match al, css with
  | [.slice (some ⟨1, 0, none⟩) n c], [cs] => some (TokE cs n c, .sl (RV cs n).length (RV cs n).length (flatP (RV cs n)) 114 2 false)
  | _, _ => none
theorem c85z : ∀ al css os p v, sp85z al css = some (p, v) → p → Blks css os → (∀ cs ∈ css, cs.all Ex.flat = true) ∧ v.Ok Tryz.prog 114 al deads os (gl + css.length) := by
  intro al css os p v hs hp hb
  unfold sp85z at hs
  split at hs
  case h_2 => cases hs
  rename_i n c cs
  cases hs
  obtain ⟨t, s, ex, rfl⟩ := blks1 hb
  obtain ⟨p1, rfl⟩ := hp
  refine ⟨by simpa using p1.1, ?_⟩
  have hL := (L85 (t := t) (s := s) (ex := ex) (n := 0) (c := c) p1.1).table (id := 3) (s0 := .z) .none (by decide) trivial (run85 p1 (by decide)) (by kernel_rfl) [0]
  exact news_ok (C := K85 cs t s 0 c ex (0, .z)) (n := 60) ts9 hL (x85z cs t s 0 c ex) (b := 1000000) ((congrArg NT.sel (v85z cs t s 0 c ex)).trans rfl) (show 2 ≤ 1000000 by decide) (show NRes.Fl (.old (.slice none 0 0)) from rfl)
theorem c85m : ∀ al css os p v, sp85m al css = some (p, v) → p → Blks css os → (∀ cs ∈ css, cs.all Ex.flat = true) ∧ v.Ok Tryz.prog 114 al deads os (gl + css.length) := by
  intro al css os p v hs hp hb
  unfold sp85m at hs
  split at hs
  case h_2 => cases hs
  rename_i n c cs
  cases hs
  obtain ⟨t, s, ex, rfl⟩ := blks1 hb
  obtain ⟨p1, p2, p3⟩ := hp
  refine ⟨by simpa using p1.1, ?_⟩
  obtain ⟨k, rfl⟩ : ∃ k, n = k + 1 := ⟨n - 1, by omega⟩
  have hL := (L85 (t := t) (s := s) (ex := ex) (n := k + 1) (c := c) p1.1).table (id := 3) (s0 := .z) .none (by decide) trivial (run85 p1 p3) (by kernel_rfl) [0]
  rw [← fp_RV]
  exact news_ok (C := K85 cs t s (k + 1) c ex (0, .m ((k + 1 : Nat) : Int) (fp cs (k + 1)).reverse.length (flatP (fp cs (k + 1)).reverse))) (n := 60) ts9 hL (x85m cs t s (k + 1) c ex _ _ _) (b := 2) ((congrArg NT.sel (v85m cs t s (k + 1) c ex _ _ _)).trans rfl) (show 2 ≤ 2 by decide) (flatP_flat _)
def sp85 (z : Bool) : NSpec := fun al css => cond z (sp85z al css) (sp85m al css)
noncomputable def T10 (z : Bool) : Tb := ext T9 114 (newE (sp85 z) [] (heapL deads))
theorem ts10 {G : Nat} (z : Bool) : TSound Tryz.prog G (T10 z) := ts9.new (f' := 114) (by cases z <;> first | exact c85z | exact c85m)
section
variable (cs : List Value) (t s n c : Nat) (ex : Bool)
noncomputable def K49 (z : Bool) (r : Nat × Int × List Value) : Cfg := ⟨T10 z, no_, on_ [(90, 8)], loopE noL 90 3 25 3 B49 ((S49 cs t s n c ex).st (0, z0 n)).live ((S49 cs t s n c ex).st (0, z0 n)).hp (finO (S49 cs t s n c ex) r [0])⟩
noncomputable def o49 (z : Bool) (r : Nat × Int × List Value) : Out QRes := execO Tryz.prog 2 (K49 cs t s n c ex z r) 60 (.call 90 ⟨[sl 1 0 n c]⟩ (heapL (deads ++ [.cells cs t s ex])))
def mkB (n : Nat) : Bool := leF 0 n && (leF n n && leF n 1048576)
theorem v49z (j : Int) (out : List Value) : (o49 cs t s n c ex true (0, (j, out))).news = .br (mkB n) (.br true (.br (tru (okP out n n ∧ n = 0)) (.leaf 1000000 (.old (.slice none 0 0))) .fail) .fail) .fail := by kernel_rfl
theorem v49m (j : Int) (out : List Value) : (o49 cs t s n c ex false (0, (j, out))).news = .br (mkB n) (.br true (.br (tru (TokE out n n)) (.leaf 3 (.sl (RV out n).length (RV out n).length (flatP (RV out n)) 114 2 false)) .fail) .fail) .fail := by kernel_rfl
theorem x49 (j : Int) (out : List Value) : ∀ z, o49 cs t s n c ex z (0, (j, out)) = (o49 cs t s n c ex z (0, (j, out))).fix
  | true => by kernel_rfl
  | false => by kernel_rfl
end
theorem mkB_t {n : Nat} (h : n < 1000000) : mkB n = true := by
  unfold mkB
  rw [leF_eq, leF_eq, leF_eq, decide_eq_true (by omega), decide_eq_true (by omega), decide_eq_true (by omega)]; rfl
def LzE (cs : List Value) (n c : Nat) : Prop := okI cs n c ∧ n = 0
def LmE (cs : List Value) (n c : Nat) : Prop := okI cs n c ∧ n ≠ 0 ∧ n < 1000000
def sp49 (z : Bool) : NSpec := fun al css => match al, css with
  | [.slice (some ⟨1, 0, none⟩) n c], [cs] => cond z (some (LzE cs n c, .old (.slice none 0 0))) (some (LmE cs n c, .sl (rvI cs n).length (rvI cs n).length (flatP (rvI cs n)) 114 2 false))
  | _, _ => none
theorem c49 (z : Bool) : ∀ al css os p v, sp49 z al css = some (p, v) → p → Blks css os → (∀ cs ∈ css, cs.all Ex.flat = true) ∧ v.Ok Tryz.prog 90 al deads os (gl + css.length) := by
  intro al css os p v hs hp hb
  unfold sp49 at hs
  split at hs
  case h_2 => cases hs
  rename_i n c cs
  obtain ⟨t, s, ex, rfl⟩ := blks1 hb
  have key : okI cs n c → n < 1000000 → ∀ r b, 2 ≤ b → r.Fl → ((o49 cs t s n c ex z (0, ((n : Int), flatP (ipts cs n)))).news.sel = some (b, r)) → r.Ok Tryz.prog 90 [.slice (some ⟨1, 0, none⟩) n c] deads [.cells cs t s ex] 2 := by
    intro p1 p2 r b hb hf h
    have hL := (L49 (t := t) (s := s) (ex := ex) (n := n) (c := c) p1.1).table (id := 3) (s0 := (0, z0 n)) .none (by decide) (z0_flat n) (run49 p1 p2) (by kernel_rfl) [0]
    exact news_ok (C := K49 cs t s n c ex z (0, ((n : Int), flatP (ipts cs n)))) (n := 60) (ts10 z) hL (x49 cs t s n c ex _ _ z) h hb hf
  have hok : n < 1000000 → okP (flatP (ipts cs n)) n n := fun h => by
    have h2 := okP_flat (a := ipts cs n) (by rw [ipts_len]; exact h)
    rwa [ipts_len] at h2
  have hrv : RV (flatP (ipts cs n)) n = rvI cs n := by
    have := RV_flat (ipts cs n)
    rwa [ipts_len] at this
  cases z with
  | true =>
    cases hs
    obtain ⟨p1, p2⟩ := hp
    refine ⟨by simpa using p1.1, key p1 (by omega) _ 1000000 (by decide) rfl ?_⟩
    rw [v49z]
    simp only [NT.sel]
    rw [mkB_t (by omega), tru_iff.2 ⟨hok (by omega), p2⟩]; rfl
  | false =>
    cases hs
    obtain ⟨p1, p2, p3⟩ := hp
    refine ⟨by simpa using p1.1, key p1 p3 _ 3 (by decide) (flatP_flat _) ?_⟩
    rw [v49m]
    simp only [NT.sel]
    rw [mkB_t p3, tru_iff.2 (show TokE (flatP (ipts cs n)) n n from ⟨hok p3, by omega, p3⟩), hrv]; rfl
noncomputable def T11 (z : Bool) : Tb := ext (T10 z) 90 (newE (sp49 z) [] (heapL deads))
section
variable (cs : List Value) (t s n c : Nat) (ex : Bool)
noncomputable def C11 (g z : Bool) : Cfg := ⟨T11 z, at_ [(42, 8)] .bool (at_ (cond g [] [(42, 10)]) (.ints []) no_), off_, noL⟩
noncomputable def o11 (g z : Bool) : Out QRes := execO Tryz.prog 2 (C11 g z) 60 (.call 42 ⟨[sl 1 0 n c]⟩ (heapL (deads ++ [.cells cs t s ex])))
theorem x11 : ∀ g z, o11 cs t s n c ex g z = (o11 cs t s n c ex g z).fix
  | true, true => by kernel_rfl
  | true, false => by kernel_rfl
  | false, true => by kernel_rfl
  | false, false => by kernel_rfl
end
def RnoE (cs : List Value) (n c : Nat) : Prop := okI cs n c ∧ clE cs n ≠ 0
def RmE (cs : List Value) (n c : Nat) : Prop := LmE cs n c ∧ clE cs n = 0
end Go.Proofs.YteemponkignnhaaGreat.Ways
noncomputable section
namespace Go.Proofs.YteemponkignnhaaGreat.Ways
open Go Go.Ex Go.RowKit Go.Turn
noncomputable def B19 : Code := bodyL Tryz.f11 3
noncomputable def B16 : Code := bodyL Tryz.f47 4
noncomputable def spC : Nat → Nat → Split := at_ [(48, 9), (11, 9), (47, 10), (47, 14), (47, 25)] .bool no_
def syCz : Nat → Nat → Bool := on_ [(48, 10), (48, 11), (11, 10), (11, 11), (47, 19), (47, 20), (47, 23), (47, 24)]
def syC : Nat → Nat → Bool := on_ [(48, 10), (48, 11), (48, 15), (48, 300015), (11, 10), (11, 11), (11, 15), (11, 300015)]
noncomputable def CC : PS → Cfg
  | .z => ⟨T9, spC, syCz, noL⟩
  | .m _ _ _ => ⟨T9, spC, syC, noL⟩
section
variable (e : Nat) (cs : List Value) (t s n c : Nat) (ex : Bool)
def hpC (out : List Value) : List (CO × Bool) := [(.dead, false), (.cells cs t s ex, true), (.cells out e 2 false, true)]
def SC : Shape PS := ⟨18, fun q => match q with
  | .z => ⟨[(6, sl 1 0 n c), (7, i n), (3, .slice none 0 0), (8, i 0)], hpz cs t s ex⟩
  | .m j l out => ⟨[(6, sl 1 0 n c), (7, i n), (3, sl 2 0 l l), (8, i j)], hpC e cs t s ex out⟩,
  fun _ q => match q with
  | .z => (.exit 0, ⟨[(3, .slice none 0 0)], hpz cs t s ex⟩)
  | .m _ l out => (.exit 0, ⟨[(3, sl 2 0 l l)], hpC e cs t s ex out⟩)⟩
def stC : PS → SS PS
  | .z => .br (ltF 0 n) (askS (bnd_ 0 n c) <| askS (cP cs 0) <| .next 5 [0, 1, 4] (.m 1 1 (el cs 0))) (.done 2 [0, 1] 0)
  | .m j l out => .br (ltF j n) (askS (bnd_ j n c) <| askS (cP cs j) <| askS (full2 l out) <| .next 6 [0, 1, 5] (.m (wrapF .i64 (j + 1)) (l + 1) (out ++ el cs j))) (.done 3 [0, 1, 2] 0)
end
section
variable (cs ds : List Value) (t s n c t2 s2 m c2 : Nat) (ex e2 : Bool)
def hpR (cs ds : List Value) (t s t2 s2 : Nat) (ex e2 : Bool) : List (CO × Bool) := [(.dead, false), (.cells cs t s ex, true), (.cells ds t2 s2 e2, true)]
def S16 : Shape Int := ⟨26, fun j => ⟨[(0, sl 1 0 n c), (1, sl 2 0 m c2), (5, i j)], hpR cs ds t s t2 s2 ex e2⟩, fun k _ => match k with
  | 0 => (.exit 0, ⟨[], hpR cs ds t s t2 s2 ex e2⟩)
  | _ => (.ret, ⟨[(4, b_ false)], hpR cs ds t s t2 s2 ex e2⟩)⟩
def eqP (cs ds : List Value) (j : Nat) : Bool := pA cs j == pA ds j && (pB cs j == pB ds j && true)
end
section
variable {e : Nat} {cs ds : List Value} {t s n c t2 s2 m c2 : Nat} {ex e2 : Bool}
theorem hpC_flat {out : List Value} (h : cs.all Ex.flat = true) (h2 : out.all Ex.flat = true) : ∀ o, (o, true) ∈ hpC e cs t s ex out → FlatO o := by
  intro o ho
  simp [hpC] at ho
  rcases ho with rfl | rfl
  · exact fun x hx => List.all_eq_true.1 h x hx
  · exact fun x hx => List.all_eq_true.1 h2 x hx
theorem goodC : ∀ q q', GdP q → (stC cs n c q).sel = some (.inl q') → GdP q' := by
  intro q q' hg h
  cases q with
  | z =>
    rcases br_or' h with h | h
    · have h := ask_or' (ask_or' h); cases h; rfl
    · cases h
  | m j l out =>
    rcases br_or' h with h | h
    · have h := ask_or' (ask_or' (ask_or' h)); cases h; exact app_flat hg rfl
    · cases h
theorem L19 (h : cs.all Ex.flat = true) : Loop1 Tryz.prog 2 11 B19 (SC 114 cs t s n c ex) 2 (stC cs n c) GdP :=
  .mk' (C := CC) (n := 60) (fun q _ => by cases q <;> exact ts9) (fun q _ => by cases q <;> exact .none) (fun q ro _ => by cases q <;> kernel_rfl) (fun q ro _ => by cases q <;> kernel_rfl) (fun q => by cases q <;> kernel_rfl) goodC
    (fun q hq => by cases q with
      | z => exact hpI_flat h
      | m _ _ _ => exact hpC_flat h hq)
    (fun q j hq _ => by cases q with
      | z => exact ⟨hpI_flat h, fun h => by cases h⟩
      | m _ _ _ => exact ⟨hpC_flat h hq, fun h => by cases h⟩)
theorem runC (h : okP cs n c) (hn : n < 1000000) : runS (stC cs n c) (n + 1) .z = some (0, psT (pts cs) n) := by
  have hc := h.2.1
  refine run_all (st := psT (pts cs)) n (fun j hj => ?_) ?_
  · have hT : psT (pts cs) (j + 1) = .m ((j + 1 : Nat) : Int) (pts cs (j + 1)).length (flatP (pts cs (j + 1))) := rfl
    have hf : flatP (pts cs (j + 1)) = flatP (pts cs j) ++ [i (pA cs j), i (pB cs j)] := flatP_app _ _
    rw [hT, hf, pts_len]
    cases j with
    | zero =>
      show (stC cs n c .z).sel = _
      unfold stC
      rw [br_t (by rw [ltF_eq]; simpa using hj), askS_sel (show bnd_ 0 n c = true from bnd_t (j := 0) hj hc), askS_sel (show cP cs 0 = true from cP_t (j := 0) h hj)]; rfl
    | succ j =>
      show (stC cs n c (.m ((j + 1 : Nat) : Int) (pts cs (j + 1)).length (flatP (pts cs (j + 1))))).sel = _
      unfold stC
      dsimp only
      rw [br_t (by rw [ltF_eq]; exact decide_eq_true (by omega)), askS_sel (bnd_t hj hc), askS_sel (cP_t h hj), askS_sel (full2_t (flatP_len _) (by rw [pts_len]; omega)), wsucc (by omega), pts_len]; rfl
  · cases n with
    | zero => rfl
    | succ n =>
      show (stC cs (n + 1) c (.m ((n + 1 : Nat) : Int) _ _)).sel = _
      unfold stC
      dsimp only
      rw [br_f (by rw [ltF_eq]; simp)]; rfl
end
theorem cells_pts {cs : List Value} {n c : Nat} (h : okP cs n c) (hl : cs.length = n * 2) : flatP (pts cs n) = cs := by
  refine List.ext_getElem? fun k => ?_
  by_cases hk : k < n * 2
  · have hp : k / 2 < (pts cs n).length := by rw [pts_len]; omega
    obtain ⟨g1, g2⟩ := flatP_get (pts cs n) (k / 2) hp
    obtain ⟨c1, c2⟩ := okP_a h (show k / 2 < n by omega)
    have hat : Turn.at_ (pts cs n) (k / 2) = (pA cs (k / 2), pB cs (k / 2)) := by
      have : ∀ n j, j < n → (pts cs n)[j]? = some (pA cs j, pB cs j) := by
        intro n
        induction n with
        | zero => intro j hj; omega
        | succ n ih =>
          intro j hj
          show (pts cs n ++ [(pA cs n, pB cs n)])[j]? = _
          by_cases hjn : j < n
          · rw [List.getElem?_append_left (by rw [pts_len]; exact hjn)]; exact ih j hjn
          · have : j = n := by omega
            subst this
            rw [List.getElem?_append_right (by rw [pts_len]; exact Nat.le_refl _), pts_len, Nat.sub_self]; rfl
      unfold Turn.at_
      rw [List.getD_eq_getElem?_getD, this n _ (by omega)]; rfl
    rw [hat] at g1 g2
    rcases Nat.mod_two_eq_zero_or_one k with hm | hm
    · have e : k = k / 2 * 2 := by omega
      have q := cellAt_eq c1
      rw [show 0 + k / 2 * 2 = k / 2 * 2 from by omega] at q
      rw [← e] at g1 q
      have hp2 : pA cs (k / 2) = intO cs[k]? := by unfold pA; rw [show 0 + k / 2 * 2 = k from by omega]
      rw [g1, q]
      show some (i (pA cs (k / 2))) = some (i (intO cs[k]?))
      rw [hp2]
    · have e : k = k / 2 * 2 + 1 := by omega
      have q := cellAt_eq c2
      rw [show 0 + k / 2 * 2 + 1 = k / 2 * 2 + 1 from by omega] at q
      rw [← e] at g2 q
      have hp2 : pB cs (k / 2) = intO cs[k]? := by unfold pB; rw [show 0 + k / 2 * 2 + 1 = k from by omega]
      rw [g2, q]
      show some (i (pB cs (k / 2))) = some (i (intO cs[k]?))
      rw [hp2]
  · rw [List.getElem?_eq_none (by rw [flatP_len, pts_len]; omega), List.getElem?_eq_none (by omega)]
section
variable (cs : List Value) (t s n c : Nat) (ex : Bool)
noncomputable def K19 (r : Nat × PS) : Cfg := ⟨T9, no_, off_, loopE noL 11 3 18 2 B19 ((SC 114 cs t s n c ex).st .z).live ((SC 114 cs t s n c ex).st .z).hp (finO (SC 114 cs t s n c ex) r [0])⟩
noncomputable def o19 (r : Nat × PS) : Out QRes := execO Tryz.prog 2 (K19 cs t s n c ex r) 60 (.call 11 ⟨[sl 1 0 n c]⟩ (heapL (deads ++ [.cells cs t s ex])))
theorem v19z : (o19 cs t s n c ex (0, .z)).news = .br true (.leaf 1000000 (.old (.slice none 0 0))) .fail := by kernel_rfl
theorem x19z : o19 cs t s n c ex (0, .z) = (o19 cs t s n c ex (0, .z)).fix := by kernel_rfl
theorem v19m (j : Int) (l : Nat) (out : List Value) : (o19 cs t s n c ex (0, .m j l out)).news = .br true (.leaf 2 (.sl l l out 114 2 false)) .fail := by kernel_rfl
theorem x19m (j : Int) (l : Nat) (out : List Value) : o19 cs t s n c ex (0, .m j l out) = (o19 cs t s n c ex (0, .m j l out)).fix := by kernel_rfl
end
def CmE (cs : List Value) (n c : Nat) : Prop := TokE cs n c ∧ cs.length = n * 2
def CzE (cs : List Value) (n c : Nat) : Prop := okP cs n c ∧ n = 0
def sp19 (z : Bool) : NSpec := fun al css => match al, css with
  | [.slice (some ⟨1, 0, none⟩) n c], [cs] => cond z (some (CzE cs n c, .old (.slice none 0 0))) (some (CmE cs n c, .sl n n cs 114 2 false))
  | _, _ => none
theorem c19 (z : Bool) : ∀ al css os p v, sp19 z al css = some (p, v) → p → Blks css os → (∀ cs ∈ css, cs.all Ex.flat = true) ∧ v.Ok Tryz.prog 11 al deads os (gl + css.length) := by
  intro al css os p v hs hp hb
  unfold sp19 at hs
  split at hs
  case h_2 => cases hs
  rename_i n c cs
  obtain ⟨t, s, ex, rfl⟩ := blks1 hb
  cases z with
  | true =>
    cases hs
    obtain ⟨p1, rfl⟩ := hp
    refine ⟨by simpa using p1.1, ?_⟩
    have hL := (L19 (t := t) (s := s) (ex := ex) (n := 0) (c := c) p1.1).table (id := 3) (s0 := .z) .none (by decide) trivial (runC p1 (by decide)) (by kernel_rfl) [0]
    exact news_ok (C := K19 cs t s 0 c ex (0, .z)) (n := 60) ts9 hL (x19z cs t s 0 c ex) (b := 1000000) ((congrArg NT.sel (v19z cs t s 0 c ex)).trans rfl) (show 2 ≤ 1000000 by decide) (show NRes.Fl (.old (.slice none 0 0)) from rfl)
  | false =>
    cases hs
    obtain ⟨⟨p1, p2, p3⟩, p4⟩ := hp
    refine ⟨by simpa using p1.1, ?_⟩
    obtain ⟨k, rfl⟩ : ∃ k, n = k + 1 := ⟨n - 1, by omega⟩
    have hL := (L19 (t := t) (s := s) (ex := ex) (n := k + 1) (c := c) p1.1).table (id := 3) (s0 := .z) .none (by decide) trivial (runC p1 p3) (by kernel_rfl) [0]
    have hps : psT (pts cs) (k + 1) = .m ((k + 1 : Nat) : Int) (k + 1) cs := by
      show PS.m ((k + 1 : Nat) : Int) (pts cs (k + 1)).length (flatP (pts cs (k + 1))) = _
      rw [cells_pts p1 p4, pts_len]
    rw [hps] at hL
    exact news_ok (C := K19 cs t s (k + 1) c ex (0, .m ((k + 1 : Nat) : Int) (k + 1) cs)) (n := 60) ts9 hL (x19m cs t s (k + 1) c ex _ _ _) (b := 2) ((congrArg NT.sel (v19m cs t s (k + 1) c ex _ _ _)).trans rfl) (show 2 ≤ 2 by decide) p1.1
end Go.Proofs.YteemponkignnhaaGreat.Ways
noncomputable section
namespace Go.Proofs.YteemponkignnhaaGreat.Ways
open Go Go.Ex Go.RowKit Go.Turn
def ixE (x : Int) : Int := rgE x 0 39999
theorem p86 (x : Int) : Pure Tryz.prog Hd 102 [i x] (i (ixE x)) :=
  pure_run (C := ⟨T9, no_, off_, noL⟩) (G := 1) 30 (.leaf (i (ixE x))) ts9 .none (by decide) hd_len rfl (by kernel_rfl) (by kernel_rfl) rfl
def s86 : List Value → Option Value
  | [.int .i64 x] => some (i (ixE x))
  | _ => none
noncomputable def T12 : Tb := ext T9 102 (pureE s86 [] Hd)
theorem ts12 {G : Nat} : TSound Tryz.prog G T12 := by
  refine TSound.pure hd_vars ts9 fun args v h => ?_
  unfold s86 at h
  split at h
  · cases h; exact p86 _
  · cases h
def rvE (a b : Int) : Int := fst2 (ixE a) (ldE b)
theorem p56 (a b : Int) : Pure Tryz.prog Hd 99 [ag [i a, i b]] (i (rvE a b)) := by
  refine pure_run (C := ⟨T12, no_, off_, noL⟩) (G := 1) 30 (.br (tru (okI [i (ixE a), i (ldE b)] 2 2)) (.leaf (i (rvE a b))) .fail) ts12 .none (by decide) hd_len rfl (by kernel_rfl) (by kernel_rfl) ?_
  simp only [VT.sel]
  rw [tru_iff.2 (okI2 _ _)]; rfl
def s56 : List Value → Option Value
  | [.agg ⟨[.int .i64 a, .int .i64 b]⟩] => some (i (rvE a b))
  | _ => none
noncomputable def T13 : Tb := ext T12 99 (pureE s56 [] Hd)
theorem ts13 {G : Nat} : TSound Tryz.prog G T13 := by
  refine TSound.pure hd_vars ts12 fun args v h => ?_
  unfold s56 at h
  split at h
  · cases h; exact p56 _ _
  · cases h
end Go.Proofs.YteemponkignnhaaGreat.Ways
noncomputable section
namespace Go.Proofs.YteemponkignnhaaGreat.Ways
open Go Go.Ex Go.RowKit Go.Turn
noncomputable def spM : Nat → Nat → Split := at_ [(100, 11), (100, 20), (100, 29), (100, 31), (100, 43), (61, 11), (61, 16), (61, 30), (14, 7), (14, 11), (14, 29), (14, 32), (14, 45), (14, 48), (14, 61), (14, 65), (14, 84)] .bool no_
def syM : Nat → Nat → Bool := on_ [(100, 15), (100, 17), (100, 24), (100, 26), (100, 35), (100, 36), (100, 40), (100, 41), (61, 18), (61, 19), (61, 25), (14, 16), (14, 18), (14, 22), (14, 24), (14, 36), (14, 38), (14, 42), (14, 44), (14, 52), (14, 54), (14, 58), (14, 60), (14, 70), (14, 72), (14, 76), (14, 78), (14, 81), (14, 83)]
noncomputable def CM : Cfg := ⟨T13, spM, syM, noL⟩
def aV (b : Bool) (t : VT) : VT := .br b t .fail
def lv (e : Int) : VT := .leaf (i e)
def cA (cs : List Value) (j : Int) : Bool := isCellB (.i .i64) cs[0 + j.toNat * 2]?
section
variable (cs : List Value) (t s k c : Nat) (ex : Bool) (a b : Int)
noncomputable def o57 : Out QRes := execO Tryz.prog 2 CM 30 (.call 100 ⟨[ag [i a, i b], sl 1 0 k c]⟩ (heapL [.dead, .cells cs t s ex]))
def t57 (w w2 : Int) : VT := .br (ltF w 0) (lv 0) (aV (bnd_ w k c) <| aV (cA cs w) <| .br (leF a (pA cs w.toNat)) (lv 11) (aV (bnd_ w k c) <| aV (cB2 cs w) <| .br (eqF (pB cs w.toNat) b) (lv 2) (.br (ltF 0 w) (aV (bnd_ w k c) <| aV (cP cs w) <|
  aV (bnd_ w2 k c) <| aV (cP cs w2) <| .br (Turn.turns (pB cs w2.toNat) (pB cs w.toNat) b) (lv 0) (lv 2)) (lv 0))))
theorem v57 : (o57 cs t s k c ex a b).vals = t57 cs k c a b (wrapF .i64 (k - 1)) (wrapF .i64 (wrapF .i64 (k - 1) - 1)) := by kernel_rfl
theorem x57 : o57 cs t s k c ex a b = (o57 cs t s k c ex a b).fix := by kernel_rfl
end
def cbE (cs : List Value) (k : Nat) (a b : Int) : Int :=
  if k = 0 then 0 else if a ≤ pA cs (k - 1) then 11 else if pB cs (k - 1) = b then 2 else if 1 < k then (if Turn.turns (pB cs (k - 2)) (pB cs (k - 1)) b = true then 0 else 2) else 0
theorem aV_sel {b : Bool} {t : VT} (h : b = true) : (aV b t).sel = t.sel := by rw [h]; rfl
theorem vb_t {b : Bool} {t e : VT} (h : b = true) : (VT.br b t e).sel = t.sel := by rw [h]; rfl
theorem vb_f {b : Bool} {t e : VT} (h : b = false) : (VT.br b t e).sel = e.sel := by rw [h]; rfl
theorem cA_t {cs : List Value} {n c j : Nat} (h : okP cs n c) (hj : j < n) : cA cs (j : Int) = true := (okP_a h hj).1
theorem t57_sel {cs : List Value} {k c : Nat} (h : okP cs k c) (hk : k < 1000000) (a b : Int) : (t57 cs k c a b (wrapF .i64 (k - 1)) (wrapF .i64 (wrapF .i64 (k - 1) - 1))).sel = some (i (cbE cs k a b)) := by
  unfold cbE t57
  cases k with
  | zero => rfl
  | succ k =>
    have hw : wrapF .i64 (((k + 1 : Nat) : Int) - 1) = (k : Int) := by rw [wrapF_in (by omega) (by omega)]; omega
    have hc := h.2.1
    rw [hw, vb_f (by rw [ltF_eq]; exact decide_eq_false (by omega)), aV_sel (bnd_t (by omega) hc), aV_sel (cA_t h (by omega)), show ((k : Nat) : Int).toNat = k from rfl, if_neg (by omega), Nat.add_sub_cancel]
    by_cases h1 : a ≤ pA cs k
    · rw [vb_t (by rw [leF_eq]; exact decide_eq_true h1), if_pos h1]; rfl
    · rw [vb_f (by rw [leF_eq]; exact decide_eq_false h1), if_neg h1, aV_sel (bnd_t (by omega) hc), aV_sel (cB2_t h (by omega))]
      by_cases h2 : pB cs k = b
      · rw [vb_t (by rw [eqF_d]; exact decide_eq_true h2), if_pos h2]; rfl
      · rw [vb_f (by rw [eqF_d]; exact decide_eq_false h2), if_neg h2]
        cases k with
        | zero => rfl
        | succ k =>
          have hw2 : wrapF .i64 (((k + 1 : Nat) : Int) - 1) = (k : Int) := by rw [wrapF_in (by omega) (by omega)]; omega
          rw [vb_t (by rw [ltF_eq]; exact decide_eq_true (by omega)), aV_sel (bnd_t (by omega) hc), aV_sel (cP_t h (by omega)), hw2, aV_sel (bnd_t (by omega) hc), aV_sel (cP_t h (by omega)), show ((k : Nat) : Int).toNat = k from rfl, if_pos (show 1 < k + 1 + 1 by omega), show k + 1 + 1 - 2 = k from rfl]
          by_cases h3 : Turn.turns (pB cs k) (pB cs (k + 1)) b = true
          · rw [vb_t h3, if_pos h3]; rfl
          · rw [vb_f (by simpa using h3), if_neg h3]; rfl
def BokE (cs : List Value) (k c : Nat) : Prop := okP cs k c ∧ k < 1000000
def sp57 : ESpec := fun al css => match al, css with
  | [.agg ⟨[.int .i64 a, .int .i64 b]⟩, .slice (some ⟨1, 0, none⟩) k c], [cs] => some (BokE cs k c, i (cbE cs k a b))
  | _, _ => none
theorem c57 : ∀ al css os p v, sp57 al css = some (p, v) → p → Blks css os → (∀ cs ∈ css, cs.all Ex.flat = true) ∧ clean 6 v = true ∧ ∃ H', Sound Tryz.prog (gl + css.length) (.call 100 ⟨al⟩ (heapL (deads ++ os))) (.val v H') := by
  intro al css os p v hs hp hb
  unfold sp57 at hs
  split at hs
  case h_2 => cases hs
  rename_i a b k c cs
  cases hs
  obtain ⟨t, s, ex, rfl⟩ := blks1 hb
  refine ⟨by simpa using hp.1.1, rfl, ?_⟩
  obtain ⟨H', h'⟩ := Out.vals_sel (x57 cs t s k c ex a b) (v := i (cbE cs k a b)) (by rw [v57]; exact t57_sel hp.1 hp.2 a b)
  exact ⟨H', execO_sound (C := CM) ts13 .none 30 _ _ h'⟩
noncomputable def T14 : Tb := ext T13 100 (autoE sp57 [] (heapL deads))
theorem ts14 {G : Nat} : TSound Tryz.prog G T14 := ts13.auto c57
noncomputable def C14 : Cfg := ⟨T14, spM, syM, noL⟩
noncomputable def B18 : Code := bodyL Tryz.f61 5
noncomputable def B20 : Code := bodyL Tryz.f14 4
def e18 (cs : List Value) (j : Nat) : Int := fst2 (rvE (pA cs j) (pB cs j)) (cbE cs j (pA cs j) (pB cs j))
section
variable (cs : List Value) (t s n c : Nat) (ex : Bool)
def S18 : Shape Int := ⟨33, fun j => ⟨[(0, sl 1 0 n c), (13, sl 1 0 n c), (14, i n), (15, i j)], hpI cs t s ex⟩, fun k j => match k with
  | 0 => (.exit 0, ⟨[], hpI cs t s ex⟩)
  | _ => (.ret, ⟨[(2, i (e18 cs j.toNat))], hpI cs t s ex⟩)⟩
noncomputable def st18 (j : Int) : SS Int := .br (ltF j n) (askS (bnd_ j n c) <| askS (cP cs j) <| askS (leF 0 0 && (leF 0 j && leF j c)) <| askS (tru (BokE cs j.toNat c)) <| askS (tru (okI [i (rvE (pA cs j.toNat) (pB cs j.toNat)), i (cbE cs j.toNat (pA cs j.toNat) (pB cs j.toNat))] 2 2)) <|
  .br (!eqF (e18 cs j.toNat) 0) (.done 4 [0, 1] 1) (.next 4 [0, 1] (wrapF .i64 (j + 1)))) (.done 2 [0, 1] 0)
def S20 : Shape Int := ⟨88, fun j => ⟨[(0, sl 1 0 n c), (3, i j)], hpI cs t s ex⟩, fun k j => match k with
  | 0 => (.exit 0, ⟨[], hpI cs t s ex⟩)
  | 1 => (.ret, ⟨[(2, i (rvE (pA cs j.toNat) (pB cs j.toNat)))], hpI cs t s ex⟩)
  | 2 => (.ret, ⟨[(2, i 11)], hpI cs t s ex⟩)
  | _ => (.ret, ⟨[(2, i 2)], hpI cs t s ex⟩)⟩
def P3 (j j1 j2 : Int) : SS Int := .br (ltF 1 j) (askS (bnd_ j2 n c) <| askS (cB2 cs j2) <| askS (bnd_ j1 n c) <| askS (cB2 cs j1) <| askS (bnd_ j n c) <| askS (cB2 cs j) <| .br (Turn.turns (pB cs j2.toNat) (pB cs j1.toNat) (pB cs j.toNat)) (.next 3 [0, 1] (wrapF .i64 (j + 1))) (.done 3 [0, 1] 3)) (.next 3 [0, 1] (wrapF .i64 (j + 1)))
def P2 (j j1 j2 : Int) : SS Int := .br (ltF 0 j) (askS (bnd_ j n c) <| askS (cB2 cs j) <| askS (bnd_ j1 n c) <| askS (cB2 cs j1) <| .br (eqF (pB cs j.toNat) (pB cs j1.toNat)) (.done 3 [0, 1] 3) (P3 cs n c j j1 j2)) (P3 cs n c j j1 j2)
def P1 (j j1 j2 : Int) : SS Int := .br (ltF 0 j) (askS (bnd_ j n c) <| askS (cA cs j) <| askS (bnd_ j1 n c) <| askS (cA cs j1) <| .br (leF (pA cs j.toNat) (pA cs j1.toNat)) (.done 3 [0, 1] 2) (P2 cs n c j j1 j2)) (P2 cs n c j j1 j2)
noncomputable def st20 (j : Int) : SS Int := .br (ltF j n) (askS (bnd_ j n c) <| askS (cA cs j) <| askS (bnd_ j n c) <| askS (cB2 cs j) <| askS (tru (okI [i (ixE (pA cs j.toNat)), i (ldE (pB cs j.toNat))] 2 2)) <|
  .br (!eqF (rvE (pA cs j.toNat) (pB cs j.toNat)) 0) (.done 3 [0, 1] 1) (P1 cs n c j (wrapF .i64 (j - 1)) (wrapF .i64 (j - 2)))) (.done 2 [0, 1] 0)
end
section
variable {cs : List Value} {t s n c : Nat} {ex : Bool}
theorem L18 (h : cs.all Ex.flat = true) : Loop1 Tryz.prog 2 61 B18 (S18 cs t s n c ex) 2 (st18 cs n c) (fun _ => True) :=
  .mk' (C := fun _ => C14) (n := 60) (fun _ _ => ts14) (fun _ _ => .none) (fun s ro _ => by kernel_rfl) (fun s ro _ => by kernel_rfl) (fun s => by kernel_rfl) (fun _ _ _ _ => trivial) (fun _ _ => hpI_flat h)
    (fun s j _ _ => by cases j <;> exact ⟨hpI_flat h, fun h => by cases h⟩)
theorem L20 (h : cs.all Ex.flat = true) : Loop1 Tryz.prog 2 14 B20 (S20 cs t s n c ex) 2 (st20 cs n c) (fun _ => True) :=
  .mk' (C := fun _ => C14) (n := 60) (fun _ _ => ts14) (fun _ _ => .none) (fun s ro _ => by kernel_rfl) (fun s ro _ => by kernel_rfl) (fun s => by kernel_rfl) (fun _ _ _ _ => trivial) (fun _ _ => hpI_flat h)
    (fun s j _ _ => by
      match j with
      | 0 => exact ⟨hpI_flat h, fun h => by cases h⟩
      | 1 => exact ⟨hpI_flat h, fun h => by cases h⟩
      | 2 => exact ⟨hpI_flat h, fun h => by cases h⟩
      | j + 3 => exact ⟨hpI_flat h, fun h => by cases h⟩)
end
end Go.Proofs.YteemponkignnhaaGreat.Ways
noncomputable section
namespace Go.Proofs.YteemponkignnhaaGreat.Ways
open Go Go.Ex Go.RowKit Go.Turn
theorem e18_eq (cs : List Value) (j : Nat) : e18 cs j = if rvE (pA cs j) (pB cs j) ≠ 0 then rvE (pA cs j) (pB cs j) else cbE cs j (pA cs j) (pB cs j) := fst2' _ _
theorem okP_le {cs : List Value} {n c j : Nat} (h : okP cs n c) (hj : j ≤ n) : okP cs j c := ⟨h.1, by have := h.2.1; omega, by have := h.2.2.1; omega, fun k hk => h.2.2.2 k (by omega)⟩
def cd (cs : List Value) (j : Nat) : Nat := if rvE (pA cs j) (pB cs j) ≠ 0 then 1 else if 0 < j ∧ pA cs j ≤ pA cs (j - 1) then 2 else 3
section
variable {cs : List Value} {t s n c : Nat} {ex : Bool}
theorem run18 (h : okP cs n c) (hn : n < 1000000) : ∃ r, runS (st18 cs n c) (n + 1) 0 = some r ∧ ((firstF (e18 cs) n 0 = 0 ∧ r = (0, (n : Int))) ∨ (firstF (e18 cs) n 0 ≠ 0 ∧ ∃ j : Nat, j < n ∧ r = (1, (j : Int)) ∧ e18 cs j = firstF (e18 cs) n 0 ∧ ∀ k, k < j → e18 cs k = 0)) := by
  have hc := h.2.1
  have hb : ∀ j, j < n → ∀ t e : SS Int, (SS.br (ltF ((j : Nat) : Int) n) (askS (bnd_ ((j : Nat) : Int) n c) <| askS (cP cs ((j : Nat) : Int)) <| askS (leF 0 0 && (leF 0 ((j : Nat) : Int) && leF ((j : Nat) : Int) c)) <| askS (tru (BokE cs j c)) <| askS (tru (okI [i (rvE (pA cs j) (pB cs j)), i (cbE cs j (pA cs j) (pB cs j))] 2 2)) t) e).sel = t.sel := fun j hj t e => by
    rw [br_t (by rw [ltF_eq]; simpa using hj), askS_sel (bnd_t hj hc), askS_sel (cP_t h hj), askS_sel (by rw [leF_eq, leF_eq, leF_eq, decide_eq_true (show (0 : Int) ≤ 0 by decide), decide_eq_true (by omega), decide_eq_true (by omega)]; rfl), askS_sel (tru_iff.2 ⟨okP_le h (by omega), by omega⟩), askS_sel (tru_iff.2 (okI2 _ _))]
  refine run_first (st := fun j => ((j : Nat) : Int)) (e := e18 cs) (a := 0) (b := fun _ => 1) n (fun j hj he => ?_) (fun j hj he => ?_) ?_
  · refine (hb j hj _ _).trans ?_
    rw [show ((j : Nat) : Int).toNat = j from rfl, br_f (by rw [eqF_d]; simp [he]), wsucc (by omega)]; rfl
  · refine (hb j hj _ _).trans ?_
    rw [show ((j : Nat) : Int).toNat = j from rfl, br_t (by rw [eqF_d]; simp [he])]; rfl
  · unfold st18
    rw [br_f (by rw [ltF_eq]; simp)]; rfl
theorem P1_sel (h : okP cs n c) (hn : n < 1000000) {j : Nat} (hj : j < n) (h0 : rvE (pA cs j) (pB cs j) = 0) : (P1 cs n c (j : Int) (wrapF .i64 ((j : Int) - 1)) (wrapF .i64 ((j : Int) - 2))).sel =
    if e18 cs j = 0 then some (.inl ((j + 1 : Nat) : Int)) else some (.inr (cd cs j)) := by
  have hc := h.2.1
  have he : e18 cs j = cbE cs j (pA cs j) (pB cs j) := by rw [e18_eq, if_neg (by simpa using h0)]
  have hcd : cd cs j = if 0 < j ∧ pA cs j ≤ pA cs (j - 1) then 2 else 3 := by unfold cd; rw [if_neg (by simpa using h0)]
  rw [he, hcd]
  cases j with
  | zero => rfl
  | succ j =>
    have hw1 : wrapF .i64 (((j + 1 : Nat) : Int) - 1) = (j : Int) := by rw [wrapF_in (by omega) (by omega)]; omega
    have hcb : cbE cs (j + 1) (pA cs (j + 1)) (pB cs (j + 1)) = if pA cs (j + 1) ≤ pA cs j then 11 else if pB cs j = pB cs (j + 1) then 2 else if 1 < j + 1 then (if Turn.turns (pB cs (j - 1)) (pB cs j) (pB cs (j + 1)) = true then 0 else 2) else 0 := by
      show (if j + 1 = 0 then 0 else _) = _
      rw [if_neg (by omega)]; rfl
    rw [hw1, Nat.add_sub_cancel]
    unfold P1
    rw [br_t (by rw [ltF_eq]; exact decide_eq_true (by omega)), askS_sel (bnd_t hj hc), askS_sel (cA_t h hj), askS_sel (bnd_t (by omega) hc), askS_sel (cA_t h (by omega)), show ((j + 1 : Nat) : Int).toNat = j + 1 from rfl, show ((j : Nat) : Int).toNat = j from rfl]
    by_cases h1 : pA cs (j + 1) ≤ pA cs j
    · have hd : (if 0 < j + 1 ∧ pA cs (j + 1) ≤ pA cs j then 2 else 3) = 2 := if_pos ⟨by omega, h1⟩
      rw [if_pos h1] at hcb
      rw [br_t (by rw [leF_eq]; exact decide_eq_true h1), hcb, hd]; rfl
    · have hd : (if 0 < j + 1 ∧ pA cs (j + 1) ≤ pA cs j then 2 else 3) = 3 := if_neg (fun hh => h1 hh.2)
      rw [if_neg h1] at hcb
      rw [br_f (by rw [leF_eq]; exact decide_eq_false h1), hd]
      unfold P2
      rw [br_t (by rw [ltF_eq]; exact decide_eq_true (by omega)), askS_sel (bnd_t hj hc), askS_sel (cB2_t h hj), askS_sel (bnd_t (by omega) hc), askS_sel (cB2_t h (by omega)), show ((j + 1 : Nat) : Int).toNat = j + 1 from rfl, show ((j : Nat) : Int).toNat = j from rfl]
      by_cases h2 : pB cs j = pB cs (j + 1)
      · rw [if_pos h2] at hcb
        rw [br_t (by rw [eqF_d]; exact decide_eq_true h2.symm), hcb]; rfl
      · rw [if_neg h2] at hcb
        rw [br_f (by rw [eqF_d]; exact decide_eq_false (fun hh => h2 hh.symm))]
        unfold P3
        cases j with
        | zero =>
          rw [hcb, wsucc (by omega)]; rfl
        | succ j =>
          have hw2 : wrapF .i64 (((j + 1 + 1 : Nat) : Int) - 2) = (j : Int) := by rw [wrapF_in (by omega) (by omega)]; omega
          rw [if_pos (show 1 < j + 1 + 1 by omega), Nat.add_sub_cancel] at hcb
          rw [br_t (by rw [ltF_eq]; exact decide_eq_true (by omega)), hw2, askS_sel (bnd_t (by omega) hc), askS_sel (cB2_t h (by omega)), askS_sel (bnd_t (by omega) hc), askS_sel (cB2_t h (by omega)), askS_sel (bnd_t hj hc), askS_sel (cB2_t h hj), show ((j : Nat) : Int).toNat = j from rfl, show ((j + 1 : Nat) : Int).toNat = j + 1 from rfl, show ((j + 1 + 1 : Nat) : Int).toNat = j + 1 + 1 from rfl]
          by_cases h3 : Turn.turns (pB cs j) (pB cs (j + 1)) (pB cs (j + 1 + 1)) = true
          · rw [if_pos h3] at hcb
            rw [br_t h3, wsucc (by omega), hcb]; rfl
          · rw [if_neg h3] at hcb
            rw [br_f (by simpa using h3), hcb]; rfl
theorem st20_sel (h : okP cs n c) (hn : n < 1000000) {j : Nat} (hj : j < n) : (st20 cs n c (j : Int)).sel = if e18 cs j = 0 then some (.inl ((j + 1 : Nat) : Int)) else some (.inr (cd cs j)) := by
  have hc := h.2.1
  unfold st20
  rw [br_t (by rw [ltF_eq]; simpa using hj), askS_sel (bnd_t hj hc), askS_sel (cA_t h hj), askS_sel (bnd_t hj hc), askS_sel (cB2_t h hj), askS_sel (tru_iff.2 (okI2 _ _)), show ((j : Nat) : Int).toNat = j from rfl]
  by_cases h0 : rvE (pA cs j) (pB cs j) = 0
  · rw [br_f (by rw [eqF_d]; simp [h0])]
    exact P1_sel h hn hj h0
  · rw [br_t (by rw [eqF_d]; simp [h0]), if_neg (by rw [e18_eq, if_pos h0]; exact h0)]
    unfold cd
    rw [if_pos h0]; rfl
theorem run20 (h : okP cs n c) (hn : n < 1000000) : ∃ r, runS (st20 cs n c) (n + 1) 0 = some r ∧ ((firstF (e18 cs) n 0 = 0 ∧ r = (0, (n : Int))) ∨ (firstF (e18 cs) n 0 ≠ 0 ∧ ∃ j : Nat, j < n ∧ r = (cd cs j, (j : Int)) ∧ e18 cs j = firstF (e18 cs) n 0 ∧ ∀ k, k < j → e18 cs k = 0)) := by
  refine run_first (st := fun j => ((j : Nat) : Int)) (e := e18 cs) (a := 0) (b := cd cs) n (fun j hj he => ?_) (fun j hj he => ?_) ?_
  · rw [st20_sel h hn hj, if_pos he]
  · rw [st20_sel h hn hj, if_neg he]
  · unfold st20
    rw [br_f (by rw [ltF_eq]; simp)]; rfl
end
def crE (cs : List Value) (n : Nat) : Int := if 40000 < n then 5 else firstF (e18 cs) n 0
section
variable (cs : List Value) (t s n c : Nat) (ex : Bool)
noncomputable def K18 (r : Nat × Int) : Cfg := ⟨T14, spM, syM, loopE noL 61 5 33 2 B18 ((S18 cs t s n c ex).st 0).live ((S18 cs t s n c ex).st 0).hp (finO (S18 cs t s n c ex) r [0, 1])⟩
noncomputable def K20 (r : Nat × Int) : Cfg := ⟨T14, spM, syM, loopE noL 14 4 88 2 B20 ((S20 cs t s n c ex).st 0).live ((S20 cs t s n c ex).st 0).hp (finO (S20 cs t s n c ex) r [0, 1, 2, 3])⟩
noncomputable def o18 (r : Nat × Int) : Out QRes := execO Tryz.prog 2 (K18 cs t s n c ex r) 60 (.call 61 ⟨[sl 1 0 n c]⟩ (heapL [.dead, .cells cs t s ex]))
noncomputable def o20 (r : Nat × Int) : Out QRes := execO Tryz.prog 2 (K20 cs t s n c ex r) 60 (.call 14 ⟨[sl 1 0 n c]⟩ (heapL [.dead, .cells cs t s ex]))
theorem v18 (r : Nat × Int) : (o18 cs t s n c ex r).vals = .br (!eqF (mnE n 40000) 0) (lv (mnE n 40000)) (.br (Nat.beq r.1 0) (lv 0) (.br (Nat.beq r.1 1) (lv (e18 cs r.2.toNat)) .fail)) := by kernel_rfl
theorem x18 (r : Nat × Int) : o18 cs t s n c ex r = (o18 cs t s n c ex r).fix := by kernel_rfl
theorem v20 (r : Nat × Int) : (o20 cs t s n c ex r).vals = .br (ltF 40000 n) (lv 5) (.br (Nat.beq r.1 0) (lv 0) (.br (Nat.beq r.1 1) (lv (rvE (pA cs r.2.toNat) (pB cs r.2.toNat))) (.br (Nat.beq r.1 2) (lv 11) (.br (Nat.beq r.1 3) (lv 2) .fail)))) := by kernel_rfl
theorem x20 (r : Nat × Int) : o20 cs t s n c ex r = (o20 cs t s n c ex r).fix := by kernel_rfl
end
def sp18 : ESpec := fun al css => match al, css with
  | [.slice (some ⟨1, 0, none⟩) n c], [cs] => some (BokE cs n c, i (crE cs n))
  | _, _ => none
theorem c18 : ∀ al css os p v, sp18 al css = some (p, v) → p → Blks css os → (∀ cs ∈ css, cs.all Ex.flat = true) ∧ clean 6 v = true ∧ ∃ H', Sound Tryz.prog (gl + css.length) (.call 61 ⟨al⟩ (heapL (deads ++ os))) (.val v H') := by
  intro al css os p v hs hp hb
  unfold sp18 at hs
  split at hs
  case h_2 => cases hs
  rename_i n c cs
  cases hs
  obtain ⟨t, s, ex, rfl⟩ := blks1 hb
  obtain ⟨p1, p2⟩ := hp
  refine ⟨by simpa using p1.1, rfl, ?_⟩
  obtain ⟨r, hr, hv⟩ := run18 p1 p2
  have hL := (L18 (t := t) (s := s) (ex := ex) (n := n) (c := c) p1.1).table (id := 5) .none (by decide) trivial hr (by kernel_rfl) [0, 1]
  obtain ⟨H', h'⟩ := Out.vals_sel (x18 cs t s n c ex r) (v := i (crE cs n)) (by
    have hm : mnE n 40000 = if 40000 < n then 5 else 0 := mnE_nat n 40000
    rw [v18, hm]
    unfold crE
    by_cases h : 40000 < n
    · rw [if_pos h, if_pos h]; rfl
    · rw [if_neg h, if_neg h, vb_f (by rfl)]
      rcases hv with ⟨h1, rfl⟩ | ⟨_, j, _, rfl, h2, _⟩
      · rw [h1]; rfl
      · rw [← h2]; rfl)
  exact ⟨H', execO_sound (C := K18 cs t s n c ex r) ts14 hL 60 _ _ h'⟩
theorem c20 : ∀ al css os p v, sp18 al css = some (p, v) → p → Blks css os → (∀ cs ∈ css, cs.all Ex.flat = true) ∧ clean 6 v = true ∧ ∃ H', Sound Tryz.prog (gl + css.length) (.call 14 ⟨al⟩ (heapL (deads ++ os))) (.val v H') := by
  intro al css os p v hs hp hb
  unfold sp18 at hs
  split at hs
  case h_2 => cases hs
  rename_i n c cs
  cases hs
  obtain ⟨t, s, ex, rfl⟩ := blks1 hb
  obtain ⟨p1, p2⟩ := hp
  refine ⟨by simpa using p1.1, rfl, ?_⟩
  obtain ⟨r, hr, hv⟩ := run20 p1 p2
  have hL := (L20 (t := t) (s := s) (ex := ex) (n := n) (c := c) p1.1).table (id := 4) .none (by decide) trivial hr (by kernel_rfl) [0, 1, 2, 3]
  obtain ⟨H', h'⟩ := Out.vals_sel (x20 cs t s n c ex r) (v := i (crE cs n)) (by
    rw [v20]
    unfold crE
    by_cases h : 40000 < n
    · rw [if_pos h, vb_t (by rw [ltF_eq]; exact decide_eq_true (by omega))]; rfl
    · rw [if_neg h, vb_f (by rw [ltF_eq]; exact decide_eq_false (by omega))]
      rcases hv with ⟨h1, rfl⟩ | ⟨h0, j, _, rfl, h2, _⟩
      · rw [h1]; rfl
      · rw [← h2] at h0 ⊢
        rw [e18_eq] at h0 ⊢
        by_cases hr0 : rvE (pA cs j) (pB cs j) ≠ 0
        · have hcd : cd cs j = 1 := by unfold cd; rw [if_pos hr0]
          rw [if_pos hr0, hcd]; rfl
        · rw [if_neg hr0] at h0 ⊢
          by_cases h3 : 0 < j ∧ pA cs j ≤ pA cs (j - 1)
          · have hcd : cd cs j = 2 := by unfold cd; rw [if_neg hr0, if_pos h3]
            have hcb : cbE cs j (pA cs j) (pB cs j) = 11 := by unfold cbE; rw [if_neg (by omega), if_pos h3.2]
            rw [hcd, hcb]; rfl
          · have hcd : cd cs j = 3 := by unfold cd; rw [if_neg hr0, if_neg h3]
            have hcb : cbE cs j (pA cs j) (pB cs j) = 2 := by
              unfold cbE at h0 ⊢
              by_cases hj : j = 0
              · rw [if_pos hj] at h0; exact absurd rfl h0
              · rw [if_neg hj] at h0 ⊢
                have h4 : ¬ pA cs j ≤ pA cs (j - 1) := fun hh => h3 ⟨by omega, hh⟩
                rw [if_neg h4] at h0 ⊢
                by_cases h5 : pB cs (j - 1) = pB cs j
                · rw [if_pos h5]
                · rw [if_neg h5] at h0 ⊢
                  by_cases h6 : 1 < j
                  · rw [if_pos h6] at h0 ⊢
                    by_cases h7 : Turn.turns (pB cs (j - 2)) (pB cs (j - 1)) (pB cs j) = true
                    · rw [if_pos h7] at h0; exact absurd rfl h0
                    · rw [if_neg h7]
                  · rw [if_neg h6] at h0; exact absurd rfl h0
            rw [hcd, hcb]; rfl)
  exact ⟨H', execO_sound (C := K20 cs t s n c ex r) ts14 hL 60 _ _ h'⟩
end Go.Proofs.YteemponkignnhaaGreat.Ways
noncomputable section
namespace Go.Proofs.YteemponkignnhaaGreat.Ways
open Go Go.Ex Go.RowKit Go.Turn
section
variable (cs ds : List Value) (t s n c t2 s2 m c2 : Nat) (ex e2 : Bool)
noncomputable def K16 (r : Nat × Int) : Cfg := ⟨T9, spC, syCz, loopE noL 47 4 26 3 B16 ((S16 cs ds t s n c t2 s2 m c2 ex e2).st 0).live ((S16 cs ds t s n c t2 s2 m c2 ex e2).st 0).hp (finO (S16 cs ds t s n c t2 s2 m c2 ex e2) r [0, 1])⟩
noncomputable def o16 (r : Nat × Int) : Out QRes := execO Tryz.prog 3 (K16 cs ds t s n c t2 s2 m c2 ex e2 r) 60 (.call 47 ⟨[sl 1 0 n c, sl 2 0 m c2]⟩ (heapL [.dead, .cells cs t s ex, .cells ds t2 s2 e2]))
theorem x16 (r : Nat × Int) : o16 cs ds t s n c t2 s2 m c2 ex e2 r = (o16 cs ds t s n c t2 s2 m c2 ex e2 r).fix := by kernel_rfl
end
def LokE (cs : List Value) (n c : Nat) : Prop := okI cs n c ∧ clE cs n = 0
def sp13g (g : Bool) : ESpec := fun al css => match al, css with
  | [.slice (some ⟨1, 0, none⟩) n c], [cs] => cond g (some (LokE cs n c, i 0)) (some (RnoE cs n c, i (clE cs n)))
  | _, _ => none
theorem c13g (f : Nat) (hf : f = 29 ∨ f = 79) (g : Bool) : ∀ al css os p v, sp13g g al css = some (p, v) → p → Blks css os → (∀ cs ∈ css, cs.all Ex.flat = true) ∧ clean 6 v = true ∧ ∃ H', Sound Tryz.prog (gl + css.length) (.call f ⟨al⟩ (heapL (deads ++ os))) (.val v H') := by
  intro al css os p v hs hp hb
  unfold sp13g at hs
  split at hs
  case h_2 => cases hs
  rename_i n c cs
  have key : okI cs n c → (∀ x ∈ [cs], x.all Ex.flat = true) ∧ clean 6 (i (clE cs n)) = true ∧ ∃ H', Sound Tryz.prog (gl + [cs].length) (.call f ⟨[sl 1 0 n c]⟩ (heapL (deads ++ os))) (.val (i (clE cs n)) H') := fun h => by
    rcases hf with rfl | rfl
    · exact c13 [sl 1 0 n c] [cs] os (okI cs n c) (i (clE cs n)) rfl h hb
    · exact c15 [sl 1 0 n c] [cs] os (okI cs n c) (i (clE cs n)) rfl h hb
  cases g with
  | true => cases hs; have h := key hp.1; rwa [hp.2] at h
  | false => cases hs; exact key hp.1
def sp14 (z : Bool) : NSpec := fun al css => cond z (sp14z al css) (sp14m al css)
noncomputable def noE : Ent := fun _ _ => none
theorem TSound.no {P : Program} {G : Nat} {T : Tb} {f : FuncId} (hT : TSound P G T) : TSound P G (Ex.ext T f noE) := hT.alt (g := f % 1000000) (fun _ _ _ _ _ _ h => by cases h) rfl
def s9 : List Value → Option Value
  | [] => some (b_ true)
  | _ => none
end Go.Proofs.YteemponkignnhaaGreat.Ways
