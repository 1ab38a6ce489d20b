import Derived.Test.YtbbkjmoomflecaaLr2
noncomputable section
namespace Go.Proofs.Ytbbkjmoomflecaa.Ways
open Go Go.Ex Go.RowKit Go.Turn
theorem p87 (a a2 b b2 c c2 : Int) : Pure Try.prog Hd 87 [ag [i a2, i a], ag [i b2, i b], ag [i c2, i c]] (b_ (Turn.turns b a c)) := by
  refine pure_run (C := ⟨T8, at_ [(87, 14), (87, 23)] .bool no_, off_, noL⟩) (G := 1) 30 (.br (ltF (if b < c then c else b) a) (.leaf (b_ true)) (.br (ltF a (if c < b then c else b)) (.leaf (b_ true)) (.leaf (b_ false)))) ts8 .none (by decide) hd_len rfl (by kernel_rfl) (by kernel_rfl) ?_
  simp only [VT.sel]
  unfold Turn.turns
  rw [ltF_eq, ltF_eq]
  by_cases h1 : b < c
  · rw [if_pos h1, if_neg (show ¬ c < b by omega)]
    by_cases h2 : c < a
    · rw [decide_eq_true h2, decide_eq_true (show b < a by omega)]; rfl
    · rw [decide_eq_false h2, Bool.and_false, Bool.false_or]
      by_cases h3 : a < b
      · rw [decide_eq_true h3, decide_eq_true (show a < c by omega)]; rfl
      · rw [decide_eq_false h3]; rfl
  · rw [if_neg h1]
    by_cases h2 : b < a
    · rw [decide_eq_true h2, decide_eq_true (show c < a by omega)]; rfl
    · rw [decide_eq_false h2, Bool.false_and, Bool.false_or]
      by_cases h4 : c < b
      · rw [if_pos h4]
        by_cases h3 : a < c
        · rw [decide_eq_true h3, decide_eq_true (show a < b by omega)]; rfl
        · rw [decide_eq_false h3, Bool.and_false]; rfl
      · rw [if_neg h4]
        have hbc : b = c := by omega
        subst hbc
        by_cases h3 : a < b
        · rw [decide_eq_true h3]; rfl
        · rw [decide_eq_false h3]; rfl
def s87 : List Value → Option Value
  | [.agg ⟨[.int .i64 _, .int .i64 a]⟩, .agg ⟨[.int .i64 _, .int .i64 b]⟩, .agg ⟨[.int .i64 _, .int .i64 c]⟩] => some (b_ (Turn.turns b a c))
  | _ => none
noncomputable def T9 : Tb := ext T8 87 (pureE s87 [] Hd)
theorem ts9 {G : Nat} : TSound Try.prog G T9 := by
  refine TSound.pure hd_vars ts8 fun args v h => ?_
  unfold s87 at h
  split at h
  · cases h; exact p87 _ _ _ _ _ _
  · cases h
end Go.Proofs.Ytbbkjmoomflecaa.Ways
noncomputable section
namespace Go.Proofs.Ytbbkjmoomflecaa.Ways
open Go Go.Ex Go.RowKit Go.Turn
/-! ### the program's turning and reversalsOf: the loops -/
noncomputable def B85 : Code := bodyL Try.f85 3
noncomputable def B49 : Code := bodyL Try.f49 3
noncomputable def sp9 : Nat → Nat → Split := at_ [(85, 10), (85, 22), (85, 31), (85, 35), (85, 47), (49, 12)] .bool no_
noncomputable def sp9z : Nat → Nat → Split := at_ [(85, 10)] .bool no_
def sy9z : Nat → Nat → Bool := on_ [(85, 11), (85, 12), (49, 8), (49, 14), (49, 15), (49, 21), (49, 100021)]
def sy9 : Nat → Nat → Bool := on_ [(85, 11), (85, 12), (85, 26), (85, 28), (85, 39), (85, 40), (85, 44), (85, 45), (85, 53), (85, 100053), (85, 19), (85, 300019)]
noncomputable def C9 : PS → Cfg
  | .z => ⟨T9, sp9z, sy9z, noL⟩
  | .m _ _ _ => ⟨T9, sp9, sy9, noL⟩
def set2 (out : List Value) (k : Nat) (l : List Value) : List Value := (out.set k (l.getD 0 (i 0))).set (k + 1) (l.getD 1 (i 0))
def in2 (out : List Value) (k : Nat) (v : Value) : Bool := decide (k < out.length) && (decide (k + 1 < (out.set k v).length) && true)
section
variable (cs : List Value) (t s n c : Nat) (ex : Bool)
def hpm9 (out : List Value) (e2 : Bool) : List (CO × Bool) := [(.dead, false), (.cells cs t s ex, true), (.cells out 67 2 e2, true)]
def S85 : Shape PS := ⟨56, fun q => match q with
  | .z => ⟨[(7, sl 1 0 n c), (8, i n), (3, .slice none 0 0), (9, i 0)], hpz cs t s ex⟩
  | .m j l out => ⟨[(7, sl 1 0 n c), (8, i n), (3, sl 2 0 l l), (9, i j)], hpm9 cs t s ex out false⟩,
  fun _ q => match q with
  | .z => (.exit 0, ⟨[(3, .slice none 0 0)], hpz cs t s ex⟩)
  | .m _ l out => (.exit 0, ⟨[(3, sl 2 0 l l)], hpm9 cs t s ex out false⟩)⟩
def ap85 (j : Int) (l : Nat) (out : List Value) : SS PS := askS (full2 l out) <| .next 6 [0, 1, 5] (.m (wrapF .i64 (j + 1)) (l + 1) (out ++ el cs j))
def sk85 (j : Int) (l : Nat) (out : List Value) : SS PS := .next 4 [0, 1, 2] (.m (wrapF .i64 (j + 1)) l out)
def w85 (l : Nat) : Int := wrapF .i64 (l - 1)
def sub85 (j : Int) (l : Nat) (out : List Value) : SS PS := .br (leF 1 (w85 l)) (askS (bnd_ (w85 l) l l) <| askS (cP out (w85 l)) <| askS (bnd_ (wrapF .i64 (w85 l - 1)) l l) <| askS (cP out (wrapF .i64 (w85 l - 1))) <|
  .br (Turn.turns (pB out (wrapF .i64 (w85 l - 1)).toNat) (pB out (w85 l).toNat) (pB cs j.toNat)) (ap85 cs j l out) (askS (bnd_ (w85 l) l l) <| askS (in2 out (0 + (w85 l).toNat * 2) (i (pA cs j.toNat))) <| sk85 j l (set2 out (0 + (w85 l).toNat * 2) (el cs j)))) (ap85 cs j l out)
def st85 : PS → SS PS
  | .z => .br (ltF 0 n) (askS (bnd_ 0 n c) <| askS (cP cs 0) <| .next 5 [0, 1, 4] (.m 1 1 (el cs 0))) (.done 2 [0, 1] 0)
  | .m j l out => .br (ltF j n) (askS (bnd_ j n c) <| askS (cP cs j) <| .br (leF 0 (w85 l)) (askS (bnd_ (w85 l) l l) <| askS (cB2 out (w85 l)) <| .br (eqF (pB out (w85 l).toNat) (pB cs j.toNat)) (sk85 j l out) (sub85 cs j l out)) (sub85 cs j l out)) (.done 3 [0, 1, 2] 0)
def S49 : Shape (Int × List Value) := ⟨25, fun q => ⟨[(9, sl 1 0 n c), (10, i n), (3, sl 2 0 n n), (11, i q.1)], hpm9 cs t s ex q.2 true⟩, fun _ q => (.exit 0, ⟨[(3, sl 2 0 n n)], hpm9 cs t s ex q.2 true⟩)⟩
def st49 (q : Int × List Value) : SS (Int × List Value) := .br (ltF q.1 n) (askS (bnd_ q.1 n c) <| askS (cB cs (.i .i64) q.1) <| askS (bnd_ q.1 n n) <| askS (in2 q.2 (0 + q.1.toNat * 2) (i q.1)) <|
  .next 3 [0, 1, 2] (wrapF .i64 (q.1 + 1), set2 q.2 (0 + q.1.toNat * 2) [i q.1, i (eI cs q.1.toNat)])) (.done 3 [0, 1, 2] 0)
end
def GdQ (q : Int × List Value) : Prop := q.2.all Ex.flat = true
section
variable {cs : List Value} {t s n c : Nat} {ex : Bool}
theorem hpm9_flat {out : List Value} {e2 : Bool} (h : cs.all Ex.flat = true) (h2 : out.all Ex.flat = true) : ∀ o, (o, true) ∈ hpm9 cs t s ex out e2 → FlatO o := by
  intro o ho
  simp [hpm9] at ho
  rcases ho with rfl | rfl
  · exact fun x hx => List.all_eq_true.1 h x hx
  · exact fun x hx => List.all_eq_true.1 h2 x hx
theorem set_flat {l : List Value} {j : Nat} {x : Value} (h : l.all Ex.flat = true) (hx : Ex.flat x = true) : (l.set j x).all Ex.flat = true :=
  List.all_eq_true.2 fun y hy => by
    rcases List.mem_or_eq_of_mem_set hy with hy | rfl
    · exact List.all_eq_true.1 h y hy
    · exact hx
theorem set2_flat {out : List Value} {k : Nat} {a b : Int} (h : out.all Ex.flat = true) : (set2 out k [i a, i b]).all Ex.flat = true := set_flat (set_flat h rfl) rfl
theorem good85 : ∀ q q', GdP q → (st85 cs n c q).sel = some (.inl q') → GdP q' := by
  intro q q' hg h
  cases q with
  | z =>
    rcases br_or' h with h | h
    · have h := ask_or' (ask_or' h); cases h; rfl
    · cases h
  | m j l out =>
    have ha : (ap85 cs j l out).sel = some (.inl q') → GdP q' := fun h => by
      have h := ask_or' h; cases h; exact app_flat hg rfl
    have hs : (sub85 cs j l out).sel = some (.inl q') → GdP q' := fun h => by
      rcases br_or' h with h | h
      · rcases br_or' (ask_or' (ask_or' (ask_or' (ask_or' h)))) with h | h
        · exact ha h
        · have h := ask_or' (ask_or' h); cases h; exact set2_flat hg
      · exact ha h
    rcases br_or' h with h | h
    · rcases br_or' (ask_or' (ask_or' h)) with h | h
      · rcases br_or' (ask_or' (ask_or' h)) with h | h
        · cases h; exact hg
        · exact hs h
      · exact hs h
    · cases h
theorem good49 : ∀ q q', GdQ q → (st49 cs n c q).sel = some (.inl q') → GdQ q' := by
  intro q q' hg h
  rcases br_or' h with h | h
  · have h := ask_or' (ask_or' (ask_or' (ask_or' h))); cases h; exact set2_flat hg
  · cases h
theorem L85 (h : cs.all Ex.flat = true) : Loop1 Try.prog 2 85 B85 (S85 cs t s n c ex) 2 (st85 cs n c) GdP :=
  .mk' (C := C9) (n := 60) (fun q _ => by cases q <;> exact ts9) (fun q _ => by cases q <;> exact .none) (fun q ro _ => by cases q <;> kernel_rfl) (fun q ro _ => by cases q <;> kernel_rfl) (fun q => by cases q <;> kernel_rfl) good85
    (fun q hq => by cases q with
      | z => exact hpI_flat h
      | m j l out => exact hpm9_flat h hq)
    (fun q j hq _ => by cases q with
      | z => exact ⟨hpI_flat h, fun h => by cases h⟩
      | m j l out => exact ⟨hpm9_flat h hq, fun h => by cases h⟩)
theorem L49 (h : cs.all Ex.flat = true) : Loop1 Try.prog 2 49 B49 (S49 cs t s n c ex) 3 (st49 cs n c) GdQ :=
  .mk' (C := fun _ => ⟨T9, sp9, sy9z, noL⟩) (n := 60) (fun _ _ => ts9) (fun _ _ => .none) (fun q ro _ => by kernel_rfl) (fun q ro _ => by kernel_rfl) (fun q => by kernel_rfl) good49
    (fun q hq => hpm9_flat h hq) (fun q j hq _ => ⟨hpm9_flat h hq, fun h => by cases h⟩)
end
end Go.Proofs.Ytbbkjmoomflecaa.Ways
noncomputable section
namespace Go.Proofs.Ytbbkjmoomflecaa.Ways
open Go Go.Ex Go.RowKit Go.Turn
/-! ### what the program's loops come to -/
theorem set_app {A B : List Value} {k : Nat} {x : Value} (h : A.length ≤ k) : (A ++ B).set k x = A ++ B.set (k - A.length) x := List.set_append_right _ _ h
theorem set2_app {A B : List Value} {k : Nat} {a b x y : Value} (h : A.length = k) : set2 (A ++ x :: y :: B) k [a, b] = A ++ a :: b :: B := by
  unfold set2
  rw [set_app (by omega), h, Nat.sub_self]
  show (A ++ a :: y :: B).set (k + 1) b = _
  rw [set_app (by omega), h, show k + 1 - k = 1 from by omega]; rfl
theorem in2_t {out : List Value} {k : Nat} {v : Value} (h : k + 1 < out.length) : in2 out k v = true := by
  unfold in2
  rw [decide_eq_true (by omega), List.length_set, decide_eq_true h]; rfl
/-- one pass, backwards -/
def fp (cs : List Value) (j : Nat) : List Pt := (pts cs j).foldl ps []
theorem fp_succ (cs : List Value) (j : Nat) : fp cs (j + 1) = ps (fp cs j) (pA cs j, pB cs j) := by
  show (pts cs j ++ [(pA cs j, pB cs j)]).foldl ps [] = ps ((pts cs j).foldl ps []) _
  rw [List.foldl_append]; rfl
theorem ps_cons (D : List Pt) (p : Pt) : ∃ q o, ps D p = q :: o := by
  match D with
  | [] => exact ⟨p, [], rfl⟩
  | [q] =>
    show ∃ q' o', (if q.2 = p.2 then [q] else [p, q]) = q' :: o'
    split
    · exact ⟨q, [], rfl⟩
    · exact ⟨p, [q], rfl⟩
  | q :: r :: o =>
    show ∃ q' o', (if q.2 = p.2 then q :: r :: o else if turns r.2 q.2 p.2 = true then p :: q :: r :: o else p :: r :: o) = q' :: o'
    split
    · exact ⟨q, _, rfl⟩
    · split
      · exact ⟨p, _, rfl⟩
      · exact ⟨p, _, rfl⟩
theorem ps_len (D : List Pt) (p : Pt) : (ps D p).length ≤ D.length + 1 := by
  match D with
  | [] => exact Nat.le_refl _
  | [q] =>
    show (if q.2 = p.2 then [q] else [p, q]).length ≤ _
    split <;> simp
  | q :: r :: o =>
    show (if q.2 = p.2 then q :: r :: o else if turns r.2 q.2 p.2 = true then p :: q :: r :: o else p :: r :: o).length ≤ _
    split
    · simp
    · split <;> simp
theorem fp_len (cs : List Value) : ∀ j, (fp cs j).length ≤ j
  | 0 => Nat.le_refl 0
  | j + 1 => by
    rw [fp_succ]
    have := ps_len (fp cs j) (pA cs j, pB cs j)
    have := fp_len cs j
    omega
theorem run85 {cs : List Value} {n c : Nat} (h : okP cs n c) (hn : n < 1000000) : runS (st85 cs n c) (n + 1) .z = some (0, psT (fun j => (fp cs j).reverse) n) := by
  have hc := h.2.1
  refine run_all (st := psT fun j => (fp cs j).reverse) n (fun j hj => ?_) ?_
  · have hT : psT (fun j => (fp cs j).reverse) (j + 1) = .m ((j + 1 : Nat) : Int) (fp cs (j + 1)).reverse.length (flatP (fp cs (j + 1)).reverse) := rfl
    rw [hT]
    cases j with
    | zero =>
      show (st85 cs n c .z).sel = _
      unfold st85
      rw [br_t (by rw [ltF_eq]; simpa using hj), askS_sel (show bnd_ 0 n c = true from bnd_t (j := 0) hj hc), askS_sel (show cP cs 0 = true from cP_t (j := 0) h hj)]; rfl
    | succ j =>
      show (st85 cs n c (.m ((j + 1 : Nat) : Int) (fp cs (j + 1)).reverse.length (flatP (fp cs (j + 1)).reverse))).sel = _
      obtain ⟨q, o, hq⟩ := ps_cons (fp cs j) (pA cs j, pB cs j)
      have hF : fp cs (j + 1) = q :: o := (fp_succ cs j).trans hq
      have hlen := fp_len cs (j + 1)
      have hN : fp cs (j + 1 + 1) = ps (q :: o) (pA cs (j + 1), pB cs (j + 1)) := by rw [fp_succ, hF]
      rw [hF] at hlen ⊢
      rw [List.length_cons] at hlen
      have hrl : (q :: o).reverse.length = o.length + 1 := by simp
      have hlast : Turn.at_ (q :: o).reverse o.length = q := by
        rw [List.reverse_cons]
        have := Turn.at_last o.reverse q
        rwa [List.length_reverse] at this
      have hw : w85 (q :: o).reverse.length = (o.length : Int) := by
        unfold w85
        rw [hrl, wrapF_in (by omega) (by omega)]
        omega
      have hA : ∀ {P : List Pt}, P = (q :: o).reverse ++ [(pA cs (j + 1), pB cs (j + 1))] → (ap85 cs ((j + 1 : Nat) : Int) (q :: o).reverse.length (flatP (q :: o).reverse)).sel = some (.inl (.m ((j + 1 + 1 : Nat) : Int) P.length (flatP P))) := by
        intro P hP
        subst hP
        unfold ap85
        rw [askS_sel (full2_t (flatP_len _) (by rw [hrl]; omega)), wsucc (by omega), flatP_app, List.length_append]; rfl
      have hok : okP (flatP (q :: o).reverse) (q :: o).reverse.length (q :: o).reverse.length := okP_flat (by rw [hrl]; omega)
      have hsub : ¬ q.2 = pB cs (j + 1) → (sub85 cs ((j + 1 : Nat) : Int) (q :: o).reverse.length (flatP (q :: o).reverse)).sel = some (.inl (.m ((j + 1 + 1 : Nat) : Int) (ps (q :: o) (pA cs (j + 1), pB cs (j + 1))).reverse.length (flatP (ps (q :: o) (pA cs (j + 1), pB cs (j + 1))).reverse))) := by
        intro hne
        unfold sub85
        cases o with
        | nil =>
          have e1 : ps [q] (pA cs (j + 1), pB cs (j + 1)) = [(pA cs (j + 1), pB cs (j + 1)), q] := by
            show (if q.2 = pB cs (j + 1) then _ else _) = _
            rw [if_neg hne]
          rw [hw, br_f (by rw [leF_eq]; rfl), e1]
          exact hA rfl
        | cons r o =>
          have hw2 : wrapF .i64 (((r :: o).length : Int) - 1) = (o.length : Int) := by
            rw [List.length_cons, wrapF_in (by omega) (by rw [List.length_cons] at hlen; omega)]
            omega
          have hlast2 : Turn.at_ (q :: r :: o).reverse o.length = r := by
            rw [List.reverse_cons, Turn.at_app (by simp), List.reverse_cons]
            have := Turn.at_last o.reverse r
            rwa [List.length_reverse] at this
          have e1 : ps (q :: r :: o) (pA cs (j + 1), pB cs (j + 1)) = if turns r.2 q.2 (pB cs (j + 1)) = true then (pA cs (j + 1), pB cs (j + 1)) :: q :: r :: o else (pA cs (j + 1), pB cs (j + 1)) :: r :: o := by
            show (if q.2 = pB cs (j + 1) then _ else _) = _
            rw [if_neg hne]
          rw [hw, hw2, br_t (by rw [leF_eq]; exact decide_eq_true (by rw [List.length_cons]; omega)), askS_sel (bnd_t (by rw [hrl]; omega) (Nat.le_refl _)), askS_sel (cP_t hok (by rw [hrl]; omega)), askS_sel (bnd_t (by rw [hrl, List.length_cons]; omega) (Nat.le_refl _)), askS_sel (cP_t hok (by rw [hrl, List.length_cons]; omega)),
            show ((o.length : Nat) : Int).toNat = o.length from rfl, show (((r :: o).length : Nat) : Int).toNat = (r :: o).length from rfl, show ((j + 1 : Nat) : Int).toNat = j + 1 from rfl, pB_flat (by rw [hrl, List.length_cons]; omega), pB_flat (by rw [hrl]; omega), hlast, hlast2, e1]
          by_cases ht : turns r.2 q.2 (pB cs (j + 1)) = true
          · rw [if_pos ht, br_t ht]
            exact hA (by rw [List.reverse_cons])
          · rw [if_neg ht, br_f (by simpa using ht), askS_sel (bnd_t (by rw [hrl]; omega) (Nat.le_refl _)), askS_sel (in2_t (by rw [flatP_len, hrl]; omega))]
            have hset : set2 (flatP (q :: r :: o).reverse) (0 + (r :: o).length * 2) (el cs ((j + 1 : Nat) : Int)) = flatP ((pA cs (j + 1), pB cs (j + 1)) :: r :: o).reverse := by
              rw [show (q :: r :: o).reverse = (r :: o).reverse ++ [q] from List.reverse_cons, show ((pA cs (j + 1), pB cs (j + 1)) :: r :: o).reverse = (r :: o).reverse ++ [(pA cs (j + 1), pB cs (j + 1))] from List.reverse_cons, flatP_app, flatP_app]
              show set2 (flatP (r :: o).reverse ++ [i q.1, i q.2]) (0 + (r :: o).length * 2) [i (pA cs (j + 1)), i (pB cs (j + 1))] = _
              rw [set2_app (by rw [flatP_len, List.length_reverse]; omega)]; rfl
            unfold sk85
            rw [hset, wsucc (by omega)]
            rw [show (q :: r :: o).reverse.length = ((pA cs (j + 1), pB cs (j + 1)) :: r :: o).reverse.length from by simp]; rfl
      unfold st85
      dsimp only
      rw [br_t (by rw [ltF_eq]; exact decide_eq_true (by omega)), askS_sel (bnd_t hj hc), askS_sel (cP_t h hj), hw, br_t (by rw [leF_eq]; exact decide_eq_true (by omega)), askS_sel (bnd_t (by rw [hrl]; omega) (Nat.le_refl _)), askS_sel (cB2_t hok (by rw [hrl]; omega)),
        show ((o.length : Nat) : Int).toNat = o.length from rfl, show ((j + 1 : Nat) : Int).toNat = j + 1 from rfl, pB_flat (by rw [hrl]; omega), hlast, hN]
      by_cases he : q.2 = pB cs (j + 1)
      · have e1 : ps (q :: o) (pA cs (j + 1), pB cs (j + 1)) = q :: o := by
          cases o with
          | nil => show (if q.2 = pB cs (j + 1) then _ else _) = _; rw [if_pos he]
          | cons r o => show (if q.2 = pB cs (j + 1) then _ else _) = _; rw [if_pos he]
        rw [br_t (by rw [eqF_d]; exact decide_eq_true he), e1]
        unfold sk85
        rw [wsucc (by omega)]; rfl
      · rw [br_f (by rw [eqF_d]; exact decide_eq_false he)]
        exact hsub he
  · cases n with
    | zero => rfl
    | succ n =>
      show (st85 cs (n + 1) c (.m ((n + 1 : Nat) : Int) _ _)).sel = _
      unfold st85
      dsimp only
      rw [br_f (by rw [ltF_eq]; simp)]; rfl
/-- a new list of points -/
def z0 (n : Nat) : List Value := (zeroRow #[i 0, i 0] ((n : Int).toNat * 2)).toList
theorem z0_len (n : Nat) : (z0 n).length = n * 2 := by
  unfold z0 zeroRow
  simp
theorem z0_flat (n : Nat) : (z0 n).all Ex.flat = true := by
  refine List.all_eq_true.2 fun v hv => ?_
  unfold z0 zeroRow at hv
  simp only [Array.toList_map, List.mem_map, Array.mem_toList_iff, Array.mem_range] at hv
  obtain ⟨k, _, rfl⟩ := hv
  have hk : k % (#[i 0, i 0] : Array Value).size < 2 := Nat.mod_lt _ (by decide)
  generalize k % (#[i 0, i 0] : Array Value).size = m at hk
  match m, hk with
  | 0, _ => rfl
  | 1, _ => rfl
theorem run49 {cs : List Value} {n c : Nat} (h : okI cs n c) (hn : n < 1000000) : runS (st49 cs n c) (n + 1) (0, z0 n) = some (0, ((n : Int), flatP (ipts cs n))) := by
  have hc := h.2.1
  have key := run_all (step := st49 cs n c) (st := fun j => (((j : Nat) : Int), flatP (ipts cs j) ++ (z0 n).drop (j * 2))) (a := 0) n (fun j hj => ?_) ?_
  · have e1 : flatP (ipts cs n) ++ (z0 n).drop (n * 2) = flatP (ipts cs n) := by rw [List.drop_of_length_le (by rw [z0_len]; exact Nat.le_refl _), List.append_nil]
    rw [e1] at key
    exact key
  · have hfl : (flatP (ipts cs j)).length = j * 2 := by rw [flatP_len, ipts_len]
    have hdl : ((z0 n).drop (j * 2)).length = n * 2 - j * 2 := by rw [List.length_drop, z0_len]
    have hcell : cB cs (.i .i64) (j : Int) = true := h.2.2.2 j hj
    obtain ⟨x, y, B, hB⟩ : ∃ x y B, (z0 n).drop (j * 2) = x :: y :: B := by
      match hd : (z0 n).drop (j * 2), hdl with
      | [], hdl => simp at hdl; omega
      | [x], hdl => simp at hdl; omega
      | x :: y :: B, _ => exact ⟨x, y, B, rfl⟩
    have hB2 : (z0 n).drop ((j + 1) * 2) = B := by
      rw [show (j + 1) * 2 = j * 2 + 2 from by omega, ← List.drop_drop, hB]; rfl
    have hset : set2 (flatP (ipts cs j) ++ (z0 n).drop (j * 2)) (0 + j * 2) [i (j : Int), i (eI cs j)] = flatP (ipts cs (j + 1)) ++ (z0 n).drop ((j + 1) * 2) := by
      rw [hB, set2_app (by omega), hB2]
      show _ = flatP (ipts cs j ++ [((j : Int), eI cs j)]) ++ B
      rw [flatP_app, List.append_assoc]; rfl
    unfold st49
    dsimp only
    rw [br_t (by rw [ltF_eq]; simpa using hj), askS_sel (bnd_t hj hc), askS_sel hcell, askS_sel (bnd_t hj (Nat.le_refl n)), show ((j : Nat) : Int).toNat = j from rfl, askS_sel (in2_t (by rw [List.length_append, hfl, hdl]; omega)), wsucc (by omega), hset]; rfl
  · unfold st49
    dsimp only
    rw [br_f (by rw [ltF_eq]; simp)]; rfl
end Go.Proofs.Ytbbkjmoomflecaa.Ways
noncomputable section
namespace Go.Proofs.Ytbbkjmoomflecaa.Ways
open Go Go.Ex Go.RowKit Go.Turn
/-! ### the program's turning, reversalsOf and Reversals as contracts; z: there is no load; g: there is no error -/
section
variable (cs : List Value) (t s n c : Nat) (ex : Bool)
noncomputable def K85 (r : Nat × PS) : Cfg := ⟨T9, no_, off_, loopE noL 85 3 56 2 B85 ((S85 cs t s n c ex).st .z).live ((S85 cs t s n c ex).st .z).hp (finO (S85 cs t s n c ex) r [0])⟩
noncomputable def o85 (r : Nat × PS) : Out QRes := execO Try.prog 2 (K85 cs t s n c ex r) 60 (.call 85 ⟨[sl 1 0 n c]⟩ (heapL (deads ++ [.cells cs t s ex])))
theorem v85z : (o85 cs t s n c ex (0, .z)).news = .br true (.leaf 1000000 (.old (.slice none 0 0))) .fail := by kernel_rfl
theorem x85z : o85 cs t s n c ex (0, .z) = (o85 cs t s n c ex (0, .z)).fix := by kernel_rfl
theorem v85m (j : Int) (l : Nat) (out : List Value) : (o85 cs t s n c ex (0, .m j l out)).news = .br true (.leaf 2 (.sl l l out 67 2 false)) .fail := by kernel_rfl
theorem x85m (j : Int) (l : Nat) (out : List Value) : o85 cs t s n c ex (0, .m j l out) = (o85 cs t s n c ex (0, .m j l out)).fix := by kernel_rfl
end
theorem fp_RV (cs : List Value) (n : Nat) : (fp cs n).reverse = RV cs n := by
  show ((pts cs n).foldl ps []).reverse = (Turn.tr ((pts cs n).foldl ds [])).reverse
  rw [Turn.same]
def sp85z : NSpec := fun al css => match al, css with
  | [.slice (some ⟨1, 0, none⟩) n c], [cs] => some (okP cs n c ∧ n = 0, .old (.slice none 0 0))
  | _, _ => none
def sp85m : NSpec := fun al css => match al, css with
  | [.slice (some ⟨1, 0, none⟩) n c], [cs] => some (TokE cs n c, .sl (RV cs n).length (RV cs n).length (flatP (RV cs n)) 67 2 false)
  | _, _ => none
theorem c85z : ∀ al css os p v, sp85z al css = some (p, v) → p → Blks css os → (∀ cs ∈ css, cs.all Ex.flat = true) ∧ v.Ok Try.prog 85 al deads os (gl + css.length) := by
  intro al css os p v hs hp hb
  unfold sp85z at hs
  split at hs
  case h_2 => cases hs
  rename_i n c cs
  cases hs
  obtain ⟨t, s, ex, rfl⟩ := blks1 hb
  obtain ⟨p1, rfl⟩ := hp
  refine ⟨by simpa using p1.1, ?_⟩
  have hL := (L85 (t := t) (s := s) (ex := ex) (n := 0) (c := c) p1.1).table (id := 3) (s0 := .z) .none (by decide) trivial (run85 p1 (by decide)) (by kernel_rfl) [0]
  exact news_ok (C := K85 cs t s 0 c ex (0, .z)) (n := 60) ts9 hL (x85z cs t s 0 c ex) (b := 1000000) ((congrArg NT.sel (v85z cs t s 0 c ex)).trans rfl) (show 2 ≤ 1000000 by decide) (show NRes.Fl (.old (.slice none 0 0)) from rfl)
theorem c85m : ∀ al css os p v, sp85m al css = some (p, v) → p → Blks css os → (∀ cs ∈ css, cs.all Ex.flat = true) ∧ v.Ok Try.prog 85 al deads os (gl + css.length) := by
  intro al css os p v hs hp hb
  unfold sp85m at hs
  split at hs
  case h_2 => cases hs
  rename_i n c cs
  cases hs
  obtain ⟨t, s, ex, rfl⟩ := blks1 hb
  obtain ⟨p1, p2, p3⟩ := hp
  refine ⟨by simpa using p1.1, ?_⟩
  obtain ⟨k, rfl⟩ : ∃ k, n = k + 1 := ⟨n - 1, by omega⟩
  have hL := (L85 (t := t) (s := s) (ex := ex) (n := k + 1) (c := c) p1.1).table (id := 3) (s0 := .z) .none (by decide) trivial (run85 p1 p3) (by kernel_rfl) [0]
  rw [← fp_RV]
  exact news_ok (C := K85 cs t s (k + 1) c ex (0, .m ((k + 1 : Nat) : Int) (fp cs (k + 1)).reverse.length (flatP (fp cs (k + 1)).reverse))) (n := 60) ts9 hL (x85m cs t s (k + 1) c ex _ _ _) (b := 2) ((congrArg NT.sel (v85m cs t s (k + 1) c ex _ _ _)).trans rfl) (show 2 ≤ 2 by decide) (flatP_flat _)
def sp85 (z : Bool) : NSpec := fun al css => cond z (sp85z al css) (sp85m al css)
noncomputable def T10 (z : Bool) : Tb := ext T9 85 (newE (sp85 z) [] (heapL deads))
theorem ts10 {G : Nat} (z : Bool) : TSound Try.prog G (T10 z) := ts9.new (f' := 85) (by cases z <;> first | exact c85z | exact c85m)
section
variable (cs : List Value) (t s n c : Nat) (ex : Bool)
noncomputable def K49 (z : Bool) (r : Nat × Int × List Value) : Cfg := ⟨T10 z, no_, on_ [(49, 8)], loopE noL 49 3 25 3 B49 ((S49 cs t s n c ex).st (0, z0 n)).live ((S49 cs t s n c ex).st (0, z0 n)).hp (finO (S49 cs t s n c ex) r [0])⟩
noncomputable def o49 (z : Bool) (r : Nat × Int × List Value) : Out QRes := execO Try.prog 2 (K49 cs t s n c ex z r) 60 (.call 49 ⟨[sl 1 0 n c]⟩ (heapL (deads ++ [.cells cs t s ex])))
def mkB (n : Nat) : Bool := leF 0 n && (leF n n && leF n 1048576)
theorem v49z (j : Int) (out : List Value) : (o49 cs t s n c ex true (0, (j, out))).news = .br (mkB n) (.br true (.br (tru (okP out n n ∧ n = 0)) (.leaf 1000000 (.old (.slice none 0 0))) .fail) .fail) .fail := by kernel_rfl
theorem v49m (j : Int) (out : List Value) : (o49 cs t s n c ex false (0, (j, out))).news = .br (mkB n) (.br true (.br (tru (TokE out n n)) (.leaf 3 (.sl (RV out n).length (RV out n).length (flatP (RV out n)) 67 2 false)) .fail) .fail) .fail := by kernel_rfl
theorem x49 (j : Int) (out : List Value) : ∀ z, o49 cs t s n c ex z (0, (j, out)) = (o49 cs t s n c ex z (0, (j, out))).fix
  | true => by kernel_rfl
  | false => by kernel_rfl
end
theorem mkB_t {n : Nat} (h : n < 1000000) : mkB n = true := by
  unfold mkB
  rw [leF_eq, leF_eq, leF_eq, decide_eq_true (by omega), decide_eq_true (by omega), decide_eq_true (by omega)]; rfl
def LzE (cs : List Value) (n c : Nat) : Prop := okI cs n c ∧ n = 0
def LmE (cs : List Value) (n c : Nat) : Prop := okI cs n c ∧ n ≠ 0 ∧ n < 1000000
def sp49 (z : Bool) : NSpec := fun al css => match al, css with
  | [.slice (some ⟨1, 0, none⟩) n c], [cs] => cond z (some (LzE cs n c, .old (.slice none 0 0))) (some (LmE cs n c, .sl (rvI cs n).length (rvI cs n).length (flatP (rvI cs n)) 67 2 false))
  | _, _ => none
theorem c49 (z : Bool) : ∀ al css os p v, sp49 z al css = some (p, v) → p → Blks css os → (∀ cs ∈ css, cs.all Ex.flat = true) ∧ v.Ok Try.prog 49 al deads os (gl + css.length) := by
  intro al css os p v hs hp hb
  unfold sp49 at hs
  split at hs
  case h_2 => cases hs
  rename_i n c cs
  obtain ⟨t, s, ex, rfl⟩ := blks1 hb
  have key : okI cs n c → n < 1000000 → ∀ r b, 2 ≤ b → r.Fl → ((o49 cs t s n c ex z (0, ((n : Int), flatP (ipts cs n)))).news.sel = some (b, r)) → r.Ok Try.prog 49 [.slice (some ⟨1, 0, none⟩) n c] deads [.cells cs t s ex] 2 := by
    intro p1 p2 r b hb hf h
    have hL := (L49 (t := t) (s := s) (ex := ex) (n := n) (c := c) p1.1).table (id := 3) (s0 := (0, z0 n)) .none (by decide) (z0_flat n) (run49 p1 p2) (by kernel_rfl) [0]
    exact news_ok (C := K49 cs t s n c ex z (0, ((n : Int), flatP (ipts cs n)))) (n := 60) (ts10 z) hL (x49 cs t s n c ex _ _ z) h hb hf
  have hok : n < 1000000 → okP (flatP (ipts cs n)) n n := fun h => by
    have h2 := okP_flat (a := ipts cs n) (by rw [ipts_len]; exact h)
    rwa [ipts_len] at h2
  have hrv : RV (flatP (ipts cs n)) n = rvI cs n := by
    have := RV_flat (ipts cs n)
    rwa [ipts_len] at this
  cases z with
  | true =>
    cases hs
    obtain ⟨p1, p2⟩ := hp
    refine ⟨by simpa using p1.1, key p1 (by omega) _ 1000000 (by decide) rfl ?_⟩
    rw [v49z]
    simp only [NT.sel]
    rw [mkB_t (by omega), tru_iff.2 ⟨hok (by omega), p2⟩]; rfl
  | false =>
    cases hs
    obtain ⟨p1, p2, p3⟩ := hp
    refine ⟨by simpa using p1.1, key p1 p3 _ 3 (by decide) (flatP_flat _) ?_⟩
    rw [v49m]
    simp only [NT.sel]
    rw [mkB_t p3, tru_iff.2 (show TokE (flatP (ipts cs n)) n n from ⟨hok p3, by omega, p3⟩), hrv]; rfl
noncomputable def T11 (z : Bool) : Tb := ext (T10 z) 49 (newE (sp49 z) [] (heapL deads))
theorem ts11 {G : Nat} (z : Bool) : TSound Try.prog G (T11 z) := (ts10 z).new (c49 z)
/-! Reversals -/
section
variable (cs : List Value) (t s n c : Nat) (ex : Bool)
noncomputable def C11 (g z : Bool) : Cfg := ⟨T11 z, at_ [(11, 8)] .bool (at_ (cond g [] [(11, 10)]) (.ints []) no_), off_, noL⟩
noncomputable def o11 (g z : Bool) : Out QRes := execO Try.prog 2 (C11 g z) 60 (.call 11 ⟨[sl 1 0 n c]⟩ (heapL (deads ++ [.cells cs t s ex])))
noncomputable def er11 (t : NT) : NT := .br (tru (okI cs n c)) (.br (!eqF (clE cs n) 0) (.leaf 1000000 (.old (tp [.slice none 0 0, i (clE cs n)]))) t) .fail
theorem v11e : ∀ z, (o11 cs t s n c ex false z).news = er11 cs n c .fail
  | true => by kernel_rfl
  | false => by kernel_rfl
theorem v11z : (o11 cs t s n c ex true true).news = er11 cs n c (.br (tru (LzE cs n c)) (.leaf 1000000 (.old (tp [.slice none 0 0, i 0]))) .fail) := by kernel_rfl
theorem v11m : (o11 cs t s n c ex true false).news = er11 cs n c (.br (tru (LmE cs n c)) (.leaf 2 (.tup (rvI cs n).length (rvI cs n).length (flatP (rvI cs n)) 67 2 false (i 0))) .fail) := by kernel_rfl
theorem x11 : ∀ g z, o11 cs t s n c ex g z = (o11 cs t s n c ex g z).fix
  | true, true => by kernel_rfl
  | true, false => by kernel_rfl
  | false, true => by kernel_rfl
  | false, false => by kernel_rfl
end
def RnoE (cs : List Value) (n c : Nat) : Prop := okI cs n c ∧ clE cs n ≠ 0
def RzE (cs : List Value) (n c : Nat) : Prop := LzE cs n c ∧ clE cs n = 0
def RmE (cs : List Value) (n c : Nat) : Prop := LmE cs n c ∧ clE cs n = 0
def sp11 (g z : Bool) : NSpec := fun al css => match al, css with
  | [.slice (some ⟨1, 0, none⟩) n c], [cs] => cond g (cond z (some (RzE cs n c, .old (tp [.slice none 0 0, i 0]))) (some (RmE cs n c, .tup (rvI cs n).length (rvI cs n).length (flatP (rvI cs n)) 67 2 false (i 0)))) (some (RnoE cs n c, .old (tp [.slice none 0 0, i (clE cs n)])))
  | _, _ => none
theorem c11 (g z : Bool) : ∀ al css os p v, sp11 g z al css = some (p, v) → p → Blks css os → (∀ cs ∈ css, cs.all Ex.flat = true) ∧ v.Ok Try.prog 11 al deads os (gl + css.length) := by
  intro al css os p v hs hp hb
  unfold sp11 at hs
  split at hs
  case h_2 => cases hs
  rename_i n c cs
  obtain ⟨t, s, ex, rfl⟩ := blks1 hb
  have key : ∀ r b, 2 ≤ b → r.Fl → ((o11 cs t s n c ex g z).news.sel = some (b, r)) → r.Ok Try.prog 11 [.slice (some ⟨1, 0, none⟩) n c] deads [.cells cs t s ex] 2 := fun r b hb hf h =>
    news_ok (C := C11 g z) (n := 60) (ts11 z) .none (x11 cs t s n c ex g z) h hb hf
  cases g with
  | false =>
    cases hs
    obtain ⟨p1, p2⟩ := hp
    refine ⟨by simpa using p1.1, key _ 1000000 (by decide) rfl ?_⟩
    rw [v11e]
    unfold er11
    simp only [NT.sel]
    rw [tru_iff.2 p1, eqF_d, decide_eq_false p2]; rfl
  | true =>
    cases z with
    | true =>
      cases hs
      obtain ⟨p1, p2⟩ := hp
      refine ⟨by simpa using p1.1.1, key _ 1000000 (by decide) rfl ?_⟩
      rw [v11z]
      unfold er11
      simp only [NT.sel]
      rw [tru_iff.2 p1.1, eqF_d, decide_eq_true p2, tru_iff.2 p1]; rfl
    | false =>
      cases hs
      obtain ⟨p1, p2⟩ := hp
      refine ⟨by simpa using p1.1.1, key _ 2 (by decide) ⟨flatP_flat _, rfl⟩ ?_⟩
      rw [v11m]
      unfold er11
      simp only [NT.sel]
      rw [tru_iff.2 p1.1, eqF_d, decide_eq_true p2, tru_iff.2 p1]; rfl
end Go.Proofs.Ytbbkjmoomflecaa.Ways
