/- Part of the proof. -/

namespace Go.Ex.Dia
abbrev Lb := List (Int × Int)
inductive St : List Int → Lb → List Int → Prop
  | eq (a : Int) (T : List Int) : St (a :: a :: T) [] (a :: T)
  | up (a b c : Int) (T : List Int) : (a < b ∧ b < c) ∨ (c < b ∧ b < a) → St (a :: b :: c :: T) [] (a :: c :: T)
  | cy (a b c d : Int) (T : List Int) : (a ≤ c ∧ c < b ∧ b ≤ d) ∨ (d ≤ b ∧ b < c ∧ c ≤ a) → St (a :: b :: c :: d :: T) [(min b c, max b c)] (a :: d :: T)
  | cons (x : Int) {l : List Int} {q : Lb} {l' : List Int} : St l q l' → St (x :: l) q (x :: l')
theorem St.hd {x : Int} {l : List Int} {q : Lb} {m : List Int} (h : St (x :: l) q m) : ∃ T, m = x :: T := by
  cases h <;> exact ⟨_, rfl⟩
theorem St.len {l : List Int} {q : Lb} {m : List Int} (h : St l q m) : m.length < l.length := by
  induction h with
  | eq a T => simp
  | up a b c T h => simp
  | cy a b c d T h => simp
  | cons x h ih => simpa using ih
def Dm (l1 : List Int) (p : Lb) (l2 : List Int) (q : Lb) : Prop := (p = q ∧ l1 = l2) ∨ ∃ l3, St l1 q l3 ∧ St l2 p l3
theorem Dm.symm {l1 l2 : List Int} {p q : Lb} (h : Dm l1 p l2 q) : Dm l2 q l1 p := by
  rcases h with ⟨h1, h2⟩ | ⟨l3, h1, h2⟩
  · exact .inl ⟨h1.symm, h2.symm⟩
  · exact .inr ⟨l3, h2, h1⟩
theorem dEq {a : Int} {T : List Int} {q : Lb} {m : List Int} (h : St (a :: a :: T) q m) : Dm (a :: T) [] m q := by
  cases h with
  | eq => exact .inl ⟨rfl, rfl⟩
  | up _ _ c T h => exfalso; omega
  | cy _ _ c d T h => exfalso; omega
  | cons _ h =>
    obtain ⟨T', rfl⟩ := h.hd
    exact .inr ⟨a :: T', h, .eq a T'⟩
theorem dUp {a b c : Int} {T : List Int} {q : Lb} {m : List Int} (g : (a < b ∧ b < c) ∨ (c < b ∧ b < a)) (h : St (a :: b :: c :: T) q m) : Dm (a :: c :: T) [] m q := by
  cases h with
  | eq => exfalso; omega
  | up => exact .inl ⟨rfl, rfl⟩
  | cy _ _ _ d T h => exfalso; omega
  | cons _ h =>
    cases h with
    | eq => exfalso; omega
    | up _ _ d T h => exact .inr ⟨a :: d :: T, .up a c d T (by omega), .up a b d T (by omega)⟩
    | cy _ _ d e T h => exact .inr ⟨a :: e :: T, .cy a c d e T (by omega), .up a b e T (by omega)⟩
    | cons _ h =>
      obtain ⟨T', rfl⟩ := h.hd
      exact .inr ⟨a :: c :: T', h.cons a, .up a b c T' g⟩
theorem dCy {a b c d : Int} {T : List Int} {q : Lb} {m : List Int} (g : (a ≤ c ∧ c < b ∧ b ≤ d) ∨ (d ≤ b ∧ b < c ∧ c ≤ a)) (h : St (a :: b :: c :: d :: T) q m) : Dm (a :: d :: T) [(min b c, max b c)] m q := by
  cases h with
  | eq => exfalso; omega
  | up _ _ _ T h => exfalso; omega
  | cy => exact .inl ⟨rfl, rfl⟩
  | cons _ h =>
    cases h with
    | eq => exfalso; omega
    | up _ _ _ T h => exfalso; omega
    | cy _ _ _ e T h =>
      have hbd : b = d := by omega
      subst hbd
      exact .inl ⟨by rw [Int.min_comm, Int.max_comm], rfl⟩
    | cons _ h =>
      cases h with
      | eq => exfalso; omega
      | up _ _ e T h => exact .inr ⟨a :: e :: T, .up a d e T (by omega), .cy a b c e T (by omega)⟩
      | cy _ _ e f T h => exact .inr ⟨a :: f :: T, .cy a d e f T (by omega), .cy a b c f T (by omega)⟩
      | cons _ h =>
        obtain ⟨T', rfl⟩ := h.hd
        exact .inr ⟨a :: d :: T', h.cons a, .cy a b c d T' g⟩
theorem dia {l : List Int} {p : Lb} {l1 : List Int} (h1 : St l p l1) : ∀ {q : Lb} {l2 : List Int}, St l q l2 → Dm l1 p l2 q := by
  induction h1 with
  | eq a T => exact fun h => dEq h
  | up a b c T g => exact fun h => dUp g h
  | cy a b c d T g => exact fun h => dCy g h
  | cons x h ih =>
    intro q l2 h2
    cases h2 with
    | eq _ T => exact (dEq (h.cons x)).symm
    | up _ b c T g => exact (dUp g (h.cons x)).symm
    | cy _ b c d T g => exact (dCy g (h.cons x)).symm
    | cons _ h2 =>
      rcases ih h2 with ⟨e1, e2⟩ | ⟨l3, e1, e2⟩
      · exact .inl ⟨e1, by rw [e2]⟩
      · exact .inr ⟨x :: l3, e1.cons x, e2.cons x⟩
inductive Red : List Int → Lb → List Int → Prop
  | nil (l : List Int) : Red l [] l
  | step {l : List Int} {p : Lb} {m : List Int} {C : Lb} {n : List Int} : St l p m → Red m C n → Red l (p ++ C) n
def NF (l : List Int) : Prop := ∀ p m, ¬ St l p m
theorem ends : ∀ (k : Nat) (l : List Int), l.length ≤ k → ∃ C n, Red l C n ∧ NF n
  | 0, l, h => ⟨[], l, .nil l, fun p m hs => by have := hs.len; omega⟩
  | k + 1, l, h => by
    by_cases hn : NF l
    · exact ⟨[], l, .nil l, hn⟩
    · have : ∃ p m, St l p m := by
        refine Classical.byContradiction fun h1 => hn fun p m hs => h1 ⟨p, m, hs⟩
      obtain ⟨p, m, hs⟩ := this
      have hl := hs.len
      obtain ⟨C, n, h1, h2⟩ := ends k m (by omega)
      exact ⟨p ++ C, n, .step hs h1, h2⟩
theorem uniq : ∀ (k : Nat) (l : List Int), l.length ≤ k → ∀ {C1 C2 : Lb} {n1 n2 : List Int}, Red l C1 n1 → NF n1 → Red l C2 n2 → NF n2 → n1 = n2 ∧ C1.Perm C2
  | k, l, hk, C1, C2, n1, n2, h1, f1, h2, f2 => by
    cases h1 with
    | nil =>
      cases h2 with
      | nil => exact ⟨rfl, .refl _⟩
      | step s2 _ => exact absurd s2 (f1 _ _)
    | @step _ p1 m1 D1 _ s1 r1 =>
      cases h2 with
      | nil => exact absurd s1 (f2 _ _)
      | @step _ p2 m2 D2 _ s2 r2 =>
        have hl1 := s1.len
        have hl2 := s2.len
        match k, hk with
        | 0, hk => omega
        | k + 1, hk =>
          rcases dia s1 s2 with ⟨rfl, rfl⟩ | ⟨l3, t1, t2⟩
          · obtain ⟨e1, e2⟩ := uniq k m1 (by omega) r1 f1 r2 f2
            exact ⟨e1, e2.append_left _⟩
          · obtain ⟨C3, n3, r3, f3⟩ := ends l3.length l3 (Nat.le_refl _)
            obtain ⟨a1, a2⟩ := uniq k m1 (by omega) r1 f1 (.step t1 r3) f3
            obtain ⟨b1, b2⟩ := uniq k m2 (by omega) r2 f2 (.step t2 r3) f3
            refine ⟨a1.trans b1.symm, ((a2.append_left p1).trans ?_).trans (b2.append_left p2).symm⟩
            rw [← List.append_assoc, ← List.append_assoc]
            exact List.perm_append_comm.append_right C3
theorem Red.uniq {l : List Int} {C1 C2 : Lb} {n1 n2 : List Int} (h1 : Red l C1 n1) (f1 : NF n1) (h2 : Red l C2 n2) (f2 : NF n2) : n1 = n2 ∧ C1.Perm C2 := Dia.uniq _ l (Nat.le_refl _) h1 f1 h2 f2
theorem Red.trans {l m n : List Int} {C D : Lb} (h1 : Red l C m) (h2 : Red m D n) : Red l (C ++ D) n := by
  induction h1 with
  | nil l => exact h2
  | step s _ ih => rw [List.append_assoc]; exact .step s (ih h2)
theorem Red.one {l m : List Int} {p : Lb} (h : St l p m) : Red l p m := by
  have := Red.step h (.nil m)
  rwa [List.append_nil] at this
theorem Red.cons (x : Int) {l m : List Int} {C : Lb} (h : Red l C m) : Red (x :: l) C (x :: m) := by
  induction h with
  | nil l => exact .nil _
  | step s _ ih => exact .step (s.cons x) ih
theorem St.pre (a : List Int) {l m : List Int} {p : Lb} (h : St l p m) : St (a ++ l) p (a ++ m) := by
  induction a with
  | nil => exact h
  | cons x a ih => exact ih.cons x
theorem St.app (r : List Int) {l m : List Int} {p : Lb} (h : St l p m) : St (l ++ r) p (m ++ r) := by
  induction h with
  | eq a T => exact .eq a (T ++ r)
  | up a b c T h => exact .up a b c (T ++ r) h
  | cy a b c d T h => exact .cy a b c d (T ++ r) h
  | cons x _ ih => exact ih.cons x
theorem Red.pre (a : List Int) {l m : List Int} {C : Lb} (h : Red l C m) : Red (a ++ l) C (a ++ m) := by
  induction h with
  | nil l => exact .nil _
  | step s _ ih => exact .step (s.pre a) ih
theorem Red.app (r : List Int) {l m : List Int} {C : Lb} (h : Red l C m) : Red (l ++ r) C (m ++ r) := by
  induction h with
  | nil l => exact .nil _
  | step s _ ih => exact .step (s.app r) ih
theorem St.rev {l m : List Int} {p : Lb} (h : St l p m) : St l.reverse p m.reverse := by
  induction h with
  | eq a T =>
    have := (St.eq a []).pre T.reverse
    simpa [List.reverse_cons, List.append_assoc] using this
  | up a b c T h =>
    have := (St.up c b a [] (by omega)).pre T.reverse
    simpa [List.reverse_cons, List.append_assoc] using this
  | cy a b c d T h =>
    have := (St.cy d c b a [] (by omega)).pre T.reverse
    rw [Int.min_comm, Int.max_comm] at this
    simpa [List.reverse_cons, List.append_assoc] using this
  | cons x _ ih =>
    have := ih.app [x]
    simpa [List.reverse_cons] using this
theorem Red.rev {l m : List Int} {C : Lb} (h : Red l C m) : Red l.reverse C m.reverse := by
  induction h with
  | nil l => exact .nil _
  | step s _ ih => exact .step s.rev ih
theorem NF.rev {l : List Int} (h : NF l) : NF l.reverse := fun p m hs => by
  have := hs.rev
  rw [List.reverse_reverse] at this
  exact h _ _ this
end Go.Ex.Dia
/- Pairs put in order one after another, each behind those that are not above it: the order in which they come does not matter. Lists are told backwards. -/
namespace Go.Ex.Ins
abbrev Pr := Int × Int
def gtB (x p : Pr) : Bool := decide (p.1 < x.1) || (decide (x.1 = p.1) && decide (p.2 < x.2))
theorem gt_iff {x p : Pr} : gtB x p = true ↔ p.1 < x.1 ∨ (x.1 = p.1 ∧ p.2 < x.2) := by
  unfold gtB
  rw [Bool.or_eq_true, Bool.and_eq_true, decide_eq_true_eq, decide_eq_true_eq, decide_eq_true_eq]
theorem gt_not {x p : Pr} : gtB x p = false ↔ ¬ (p.1 < x.1 ∨ (x.1 = p.1 ∧ p.2 < x.2)) := by
  rw [← gt_iff]
  cases gtB x p <;> simp
def ins (p : Pr) : List Pr → List Pr
  | [] => [p]
  | x :: r => cond (gtB x p) (x :: ins p r) (p :: x :: r)
theorem eq_of {p q : Pr} (h1 : gtB q p = false) (h2 : gtB p q = false) : p = q := by
  have h1 := gt_not.1 h1
  have h2 := gt_not.1 h2
  have e1 : p.1 = q.1 := by omega
  have e2 : p.2 = q.2 := by omega
  exact Prod.ext e1 e2
theorem two (p q : Pr) (l : List Pr) : cond (gtB q p) (q :: p :: l) (p :: q :: l) = cond (gtB p q) (p :: q :: l) (q :: p :: l) := by
  cases h1 : gtB q p with
  | true =>
    cases h2 : gtB p q with
    | true =>
      have h1 := gt_iff.1 h1
      have h2 := gt_iff.1 h2
      omega
    | false => rfl
  | false =>
    cases h2 : gtB p q with
    | true => rfl
    | false => rw [eq_of h1 h2]
theorem comm (p q : Pr) : ∀ l : List Pr, ins p (ins q l) = ins q (ins p l)
  | [] => two p q []
  | x :: r => by
    have e (u : Pr) : ins u (x :: r) = cond (gtB x u) (x :: ins u r) (u :: x :: r) := rfl
    cases h1 : gtB x p with
    | true =>
      cases h2 : gtB x q with
      | true =>
        rw [e, e, h1, h2]
        show cond (gtB x p) (x :: ins p (ins q r)) _ = cond (gtB x q) (x :: ins q (ins p r)) _
        rw [h1, h2, comm p q r]; rfl
      | false =>
        have g : gtB q p = true := gt_iff.2 (by have := gt_iff.1 h1; have := gt_not.1 h2; omega)
        rw [e, e, h1, h2]
        show cond (gtB q p) (q :: ins p (x :: r)) _ = cond (gtB x q) _ (q :: x :: ins p r)
        rw [g, h2, e, h1]; rfl
    | false =>
      cases h2 : gtB x q with
      | true =>
        have g : gtB p q = true := gt_iff.2 (by have := gt_iff.1 h2; have := gt_not.1 h1; omega)
        rw [e, e, h1, h2]
        show cond (gtB x p) _ (p :: x :: ins q r) = cond (gtB p q) (p :: ins q (x :: r)) _
        rw [g, h1, e, h2]; rfl
      | false =>
        rw [e, e, h1, h2]
        show cond (gtB q p) (q :: ins p (x :: r)) (p :: q :: x :: r) = cond (gtB p q) (p :: ins q (x :: r)) (q :: p :: x :: r)
        rw [e, e, h1, h2]
        exact two p q (x :: r)
def sort (l : List Pr) : List Pr := l.foldl (fun o p => ins p o) []
theorem perm_fold {a b : List Pr} (h : a.Perm b) : ∀ o : List Pr, a.foldl (fun o p => ins p o) o = b.foldl (fun o p => ins p o) o := by
  induction h with
  | nil => intro o; rfl
  | cons x _ ih => intro o; exact ih _
  | swap x y l =>
    intro o
    show l.foldl _ (ins x (ins y o)) = l.foldl _ (ins y (ins x o))
    rw [comm]
  | trans _ _ ih1 ih2 => intro o; rw [ih1, ih2]
theorem perm_sort {a b : List Pr} (h : a.Perm b) : sort a = sort b := perm_fold h []
theorem ins_len (p : Pr) : ∀ l : List Pr, (ins p l).length = l.length + 1
  | [] => rfl
  | x :: r => by
    show (cond (gtB x p) (x :: ins p r) (p :: x :: r)).length = r.length + 1 + 1
    cases gtB x p with
    | true => show (ins p r).length + 1 = _; rw [ins_len p r]
    | false => rfl
end Go.Ex.Ins
/- The least and the greatest number of a list: a list that is written twice after itself cannot be shortened to its end without taking both out as a pair. -/
namespace Go.Ex.Dia
variable {m M : Int}
def Wn (m M : Int) (l : List Int) : Prop := ∀ x ∈ l, m ≤ x ∧ x ≤ M
theorem St.sub {l n : List Int} {p : Lb} (h : St l p n) : n.Sublist l := by
  induction h with
  | eq a T => exact List.sublist_cons_self a _
  | up a b c T h => exact List.Sublist.cons_cons a (List.sublist_cons_self b _)
  | cy a b c d T h => exact List.Sublist.cons_cons a ((List.sublist_cons_self c _).trans (List.sublist_cons_self b _))
  | cons x h ih => exact ih.cons_cons x
theorem Wn.sub {l n : List Int} (h : Wn m M l) (hs : n.Sublist l) : Wn m M n := fun x hx => h x (hs.subset hx)
theorem St.keep {l n : List Int} {p : Lb} (h : St l p n) : ∀ {x : Int}, (∀ y ∈ l, x ≤ y) ∨ (∀ y ∈ l, y ≤ x) → x ∈ l → x ∈ n := by
  induction h with
  | eq a T =>
    intro x _ hx
    simp only [List.mem_cons] at hx ⊢
    rcases hx with h | h | h
    · exact .inl h
    · exact .inl h
    · exact .inr h
  | up a b c T h =>
    intro x hw hx
    simp only [List.mem_cons] at hx ⊢
    rcases hx with rfl | rfl | rfl | hx
    · exact .inl rfl
    · exfalso
      rcases hw with hw | hw
      · have h1 := hw a (by simp); have h2 := hw c (by simp); omega
      · have h1 := hw a (by simp); have h2 := hw c (by simp); omega
    · exact .inr (.inl rfl)
    · exact .inr (.inr hx)
  | cy a b c d T h =>
    intro x hw hx
    simp only [List.mem_cons] at hx ⊢
    rcases hx with rfl | rfl | rfl | rfl | hx
    · exact .inl rfl
    · rcases hw with hw | hw
      · have h1 := hw a (by simp); have h2 := hw c (by simp); have h3 := hw d (by simp); omega
      · have h1 := hw a (by simp); have h2 := hw c (by simp); have h3 := hw d (by simp); omega
    · rcases hw with hw | hw
      · have h1 := hw a (by simp); have h2 := hw b (by simp); have h3 := hw d (by simp); omega
      · have h1 := hw a (by simp); have h2 := hw b (by simp); have h3 := hw d (by simp); omega
    · exact .inr (.inl rfl)
    · exact .inr (.inr hx)
  | cons y h ih =>
    intro x hw hx
    rcases List.mem_cons.1 hx with rfl | hx
    · exact List.mem_cons_self ..
    · refine List.mem_cons_of_mem _ (ih ?_ hx)
      rcases hw with hw | hw
      · exact .inl fun z hz => hw z (List.mem_cons_of_mem _ hz)
      · exact .inr fun z hz => hw z (List.mem_cons_of_mem _ hz)
theorem Red.sub {l n : List Int} {C : Lb} (h : Red l C n) : n.Sublist l := by
  induction h with
  | nil l => exact .refl _
  | step s _ ih => exact ih.trans s.sub
theorem Red.keep {l n : List Int} {C : Lb} (h : Red l C n) {x : Int} : (∀ y ∈ l, x ≤ y) ∨ (∀ y ∈ l, y ≤ x) → x ∈ l → x ∈ n := by
  induction h with
  | nil l => exact fun _ h => h
  | step s r ih =>
    intro hw hx
    refine ih ?_ (s.keep hw hx)
    rcases hw with hw | hw
    · exact .inl fun z hz => hw z (s.sub.subset hz)
    · exact .inr fun z hz => hw z (s.sub.subset hz)
def Tn (m M : Int) : List Int → Prop
  | [] => True
  | [x] => x = m ∨ x = M
  | x :: y :: r => (x = m ∨ x = M) ∧ x ≠ y ∧ Tn m M (y :: r)
theorem Tn.tail {x : Int} : ∀ {P : List Int}, Tn m M (x :: P) → Tn m M P
  | [], _ => trivial
  | _ :: _, h => h.2.2
theorem Tn.hd {x : Int} : ∀ {P : List Int}, Tn m M (x :: P) → x = m ∨ x = M
  | [], h => h
  | _ :: _, h => h.1
theorem skip {P T : List Int} {a x : Int} (hx : ¬ (x = m ∨ x = M)) (hP : Tn m M P) (h : P.Sublist (a :: x :: T)) : P.Sublist (a :: T) := by
  have key : ∀ {Q : List Int}, Tn m M Q → Q.Sublist (x :: T) → Q.Sublist T := by
    intro Q hQ hs
    cases hs with
    | cons _ h => exact h
    | cons_cons _ h => exact absurd hQ.hd hx
  cases h with
  | cons _ h => exact (key hP h).cons a
  | cons_cons _ h => exact (key hP.tail h).cons_cons a
theorem dup {P T : List Int} {a : Int} (hP : Tn m M P) (h : P.Sublist (a :: a :: T)) : P.Sublist (a :: T) := by
  cases h with
  | cons _ h => exact h
  | cons_cons _ h =>
    rename_i Q
    cases h with
    | cons _ h => exact h.cons_cons a
    | cons_cons _ h => exact absurd rfl hP.2.1
theorem St.turn {l n : List Int} {p : Lb} (h : St l p n) : ∀ {P : List Int}, Wn m M l → Tn m M P → (m, M) ∉ p → P.Sublist l → P.Sublist n := by
  induction h with
  | eq a T => exact fun _ hP _ hs => dup hP hs
  | up a b c T h =>
    intro P hw hP _ hs
    have h1 := hw a (by simp)
    have h2 := hw c (by simp)
    exact skip (x := b) (by omega) hP hs
  | cy a b c d T h =>
    intro P hw hP hn hs
    have h1 := hw a (by simp)
    have h2 := hw b (by simp)
    have h3 := hw c (by simp)
    have h4 := hw d (by simp)
    have hn' : ¬ (m = min b c ∧ M = max b c) := fun hh => hn (by rw [← hh.1, ← hh.2]; exact List.mem_singleton.2 rfl)
    have swap : ∀ {Q : List Int}, Tn m M Q → ∀ {x : Int}, ¬ (x = m ∨ x = M) → ∀ {U : List Int}, Q.Sublist (x :: U) → Q.Sublist U := by
      intro Q hQ x hx U hs
      cases hs with
      | cons _ h => exact h
      | cons_cons _ h => exact absurd hQ.hd hx
    by_cases hb : b = m ∨ b = M
    · have hc : ¬ (c = m ∨ c = M) := by omega
      have hbd : b = d := by omega
      subst hbd
      have hs2 : P.Sublist (a :: b :: b :: T) := by
        cases hs with
        | cons _ h => exact (skip hc hP h).cons a
        | cons_cons _ h => exact (skip hc hP.tail h).cons_cons a
      cases hs2 with
      | cons _ h => exact (dup hP h).cons a
      | cons_cons _ h => exact (dup hP.tail h).cons_cons a
    · have hs2 : P.Sublist (a :: c :: d :: T) := skip hb hP hs
      by_cases hc : c = m ∨ c = M
      · have hac : a = c := by omega
        subst hac
        exact dup hP hs2
      · exact skip hc hP hs2
  | cons x h ih =>
    intro P hw hP hn hs
    have hw' : Wn m M _ := fun z hz => hw z (List.mem_cons_of_mem _ hz)
    cases hs with
    | cons _ h => exact (ih hw' hP hn h).cons x
    | cons_cons _ h => exact (ih hw' hP.tail hn h).cons_cons x
theorem Red.turn {l n : List Int} {C : Lb} (h : Red l C n) : ∀ {P : List Int}, Wn m M l → Tn m M P → (m, M) ∉ C → P.Sublist l → P.Sublist n := by
  induction h with
  | nil l => exact fun _ _ _ h => h
  | step s r ih =>
    intro P hw hP hn hs
    exact ih (hw.sub s.sub) hP (fun h => hn (List.mem_append_right _ h)) (s.turn hw hP (fun h => hn (List.mem_append_left _ h)) hs)
theorem NF.tail {x : Int} {l : List Int} (h : NF (x :: l)) : NF l := fun _ _ hs => h _ _ (hs.cons x)
theorem dec : ∀ (T : List Int) (a b c : Int), NF (a :: b :: c :: T) → (a ≤ c ∧ c < b) ∨ (b < c ∧ c ≤ a) → ∀ e ∈ T, (b < e ∧ e < c) ∨ (c < e ∧ e < b)
  | [], _, _, _, _, _ => fun e he => by cases he
  | d :: T, a, b, c, hn, h => by
    have h1 : c ≠ d := fun hh => hn.tail.tail [] _ (by subst hh; exact .eq c T)
    have h2 : ¬ ((b < c ∧ c < d) ∨ (d < c ∧ c < b)) := fun hh => hn.tail [] _ (.up b c d T (by omega))
    have h3 : ¬ ((a ≤ c ∧ c < b ∧ b ≤ d) ∨ (d ≤ b ∧ b < c ∧ c ≤ a)) := fun hh => hn _ _ (.cy a b c d T hh)
    have key := dec T b c d hn.tail (by omega)
    intro e he
    rcases List.mem_cons.1 he with rfl | he
    · omega
    · have := key e he
      omega
theorem three {x : Int} {l : List Int} (hn : NF (x :: l)) (hx : x = m ∨ x = M) (hw : Wn m M (x :: l)) {P : List Int} (hP : Tn m M P) (hs : P.Sublist l) : P.length ≤ 2 := by
  match l, hn, hw, hs with
  | [], _, _, hs => have := hs.length_le; simp at this; rw [this]; simp
  | [b], _, _, hs => have := hs.length_le; simp at this; omega
  | b :: c :: T, hn, hw, hs =>
    have w1 := hw x (by simp)
    have w2 := hw b (by simp)
    have w3 := hw c (by simp)
    have h1 : x ≠ b := fun hh => hn [] _ (by subst hh; exact .eq x (c :: T))
    have h2 : b ≠ c := fun hh => hn.tail [] _ (by subst hh; exact .eq b T)
    have h3 : ¬ ((x < b ∧ b < c) ∨ (c < b ∧ b < x)) := fun hh => hn [] _ (.up x b c T hh)
    have key := dec T x b c hn (by omega)
    have hT : ∀ {Q : List Int}, Tn m M Q → Q.Sublist T → Q.length = 0 := by
      intro Q hQ hs
      cases Q with
      | nil => rfl
      | cons q Q =>
        have g1 := key q (hs.subset (List.mem_cons_self ..))
        have g2 := hQ.hd
        omega
    cases hs with
    | cons _ hs =>
      cases hs with
      | cons _ hs => have := hT hP hs; omega
      | cons_cons _ hs => have := hT hP.tail hs; simp only [List.length_cons]; omega
    | cons_cons _ hs =>
      cases hs with
      | cons _ hs => have := hT hP.tail hs; simp only [List.length_cons]; omega
      | cons_cons _ hs => have := hT hP.tail.tail hs; simp only [List.length_cons]; omega
theorem four : ∀ {l : List Int}, NF l → Wn m M l → ∀ {P : List Int}, Tn m M P → P.Sublist l → P.length ≤ 3
  | [], _, _, P, _, hs => by have := hs.length_le; simp at this; rw [this]; simp
  | x :: l, hn, hw, P, hP, hs => by
    cases hs with
    | cons _ hs => exact four hn.tail (fun z hz => hw z (List.mem_cons_of_mem _ hz)) hP hs
    | cons_cons _ hs =>
      have := three hn hP.hd hw hP.tail hs
      simp only [List.length_cons]; omega
theorem mem_sub {x y : Int} (hxy : x ≠ y) : ∀ {l : List Int}, x ∈ l → y ∈ l → [x, y].Sublist l ∨ [y, x].Sublist l
  | z :: l, hx, hy => by
    rcases List.mem_cons.1 hx with rfl | hx'
    · rcases List.mem_cons.1 hy with rfl | hy'
      · exact absurd rfl hxy
      · exact .inl ((List.singleton_sublist.2 hy').cons_cons x)
    · rcases List.mem_cons.1 hy with rfl | hy'
      · exact .inr ((List.singleton_sublist.2 hx').cons_cons y)
      · rcases mem_sub hxy hx' hy' with h | h
        · exact .inl (h.cons z)
        · exact .inr (h.cons z)
theorem closed {S n : List Int} {C : Lb} (h : Red (S ++ S) C n) (hn : NF n) (hw : Wn m M S) (hm : m ∈ S) (hM : M ∈ S) (hne : m ≠ M) : (m, M) ∈ C := by
  refine Classical.byContradiction fun hc => ?_
  have hw2 : Wn m M (S ++ S) := fun x hx => by
    rcases List.mem_append.1 hx with hx | hx
    · exact hw x hx
    · exact hw x hx
  have fin : ∀ P : List Int, P.length = 4 → Tn m M P → P.Sublist (S ++ S) → False := fun P h4 hP hs => by
    have := four hn (hw2.sub h.sub) hP (h.turn hw2 hP hc hs)
    omega
  rcases mem_sub hne hm hM with hs | hs
  · exact fin ([m, M] ++ [m, M]) rfl ⟨.inl rfl, hne, .inr rfl, hne.symm, .inl rfl, hne, .inr rfl⟩ (hs.append hs)
  · exact fin ([M, m] ++ [M, m]) rfl ⟨.inr rfl, hne.symm, .inl rfl, hne, .inr rfl, hne.symm, .inl rfl⟩ (hs.append hs)
end Go.Ex.Dia
