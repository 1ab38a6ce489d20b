import Derived.Test.YteemponkignnhaaGreatZe2
import Derived.Test.YteemponkignnhaaGreatKa1
set_option maxRecDepth 10000
noncomputable section
namespace Go.Proofs.YteemponkignnhaaGreat.Ways
open Go Go.Ex Go.RowKit Go.Turn Go.Ex.Dia
def vls (D : List Pt) : List Int := D.map (·.2)
def cvs (C : List Cy) : Lb := C.map fun q => (min q.1.2 q.2.2, max q.1.2 q.2.2)
theorem red_ps {D : List Pt} {p : Pt} (h : Alt D) : Red (vls (p :: D)) [] (vls (ps D p)) := by
  match D, h with
  | [], _ => exact .nil _
  | [q], _ =>
    show Red [p.2, q.2] [] (vls (if q.2 = p.2 then [q] else [p, q]))
    split
    · rename_i e
      rw [← e]; exact .one (.eq q.2 [])
    · exact .nil _
  | q :: r :: o, h =>
    show Red (p.2 :: q.2 :: r.2 :: vls o) [] (vls (if q.2 = p.2 then q :: r :: o else if turns r.2 q.2 p.2 = true then p :: q :: r :: o else p :: r :: o))
    split
    · rename_i e
      rw [← e]; exact .one (.eq q.2 (r.2 :: vls o))
    · rename_i hne
      split
      · exact .nil _
      · rename_i h2
        have hmid : ¬ ((r.2 < q.2 ∧ p.2 < q.2) ∨ (q.2 < r.2 ∧ q.2 < p.2)) := fun hh => h2 (turns_iff.2 hh)
        have := h.ne
        exact .one (.up p.2 q.2 r.2 (vls o) (by omega))
theorem alt_ps {D : List Pt} {p : Pt} (h : Alt D) : Alt (ps D p) := by
  match D, h with
  | [], _ => exact trivial
  | [q], _ =>
    show Alt (if q.2 = p.2 then [q] else [p, q])
    split
    · trivial
    · rename_i e
      exact fun h => e h.symm
  | q :: r :: o, h =>
    show Alt (if q.2 = p.2 then q :: r :: o else if turns r.2 q.2 p.2 = true then p :: q :: r :: o else p :: r :: o)
    split
    · exact h
    · rename_i hne
      split
      · rename_i h2
        exact ⟨h2, h⟩
      · rename_i h2
        have hmid : ¬ ((r.2 < q.2 ∧ p.2 < q.2) ∨ (q.2 < r.2 ∧ q.2 < p.2)) := fun hh => h2 (turns_iff.2 hh)
        have hqr := h.ne
        cases o with
        | nil => show p.2 ≠ r.2; omega
        | cons s o =>
          have := turns_iff.1 h.1
          exact ⟨turns_iff.2 (by omega), h.2⟩
theorem red_fold : ∀ (l D : List Pt), Alt D → Red (vls (l.reverse ++ D)) [] (vls (l.foldl ps D)) ∧ Alt (l.foldl ps D)
  | [], D, h => ⟨.nil _, h⟩
  | p :: l, D, h => by
    obtain ⟨h1, h2⟩ := red_fold l (ps D p) (alt_ps h)
    refine ⟨?_, h2⟩
    have e : vls ((p :: l).reverse ++ D) = vls l.reverse ++ vls (p :: D) := by
      unfold vls
      rw [← List.map_append, List.reverse_cons, List.append_assoc]; rfl
    have e2 : vls (l.reverse ++ ps D p) = vls l.reverse ++ vls (ps D p) := List.map_append
    rw [e]
    rw [e2] at h1
    exact ((red_ps h).pre _).trans h1
theorem red_turn (l : List Pt) : Red (vls l).reverse [] (vls (l.foldl ps [])) ∧ Alt (l.foldl ps []) := by
  have := red_fold l [] trivial
  rw [List.append_nil] at this
  unfold vls at this ⊢
  rw [← List.map_reverse]
  exact this
theorem nf_alt : ∀ {S : List Pt}, Alt S → NoC S → (∀ p ∈ S, Bd p) → NF (vls S)
  | S, h, hn, hb => by
    intro p m hs
    generalize e : vls S = l at hs
    cases hs with
    | eq a T =>
      match S, e with
      | p :: q :: S, e =>
        have e1 : p.2 = a := (List.cons.inj e).1
        have e2 : q.2 = a := (List.cons.inj (List.cons.inj e).2).1
        exact h.ne (e1.trans e2.symm)
    | up a b c T g =>
      match S, e with
      | p :: q :: r :: S, e =>
        have e1 : p.2 = a := (List.cons.inj e).1
        have e2 : q.2 = b := (List.cons.inj (List.cons.inj e).2).1
        have e3 : r.2 = c := (List.cons.inj (List.cons.inj (List.cons.inj e).2).2).1
        have := turns_iff.1 h.1
        omega
    | cy a b c d T g =>
      match S, e with
      | p :: q :: r :: s :: S, e =>
        have e1 : p.2 = a := (List.cons.inj e).1
        have e2 : q.2 = b := (List.cons.inj (List.cons.inj e).2).1
        have e3 : r.2 = c := (List.cons.inj (List.cons.inj (List.cons.inj e).2).2).1
        have e4 : s.2 = d := (List.cons.inj (List.cons.inj (List.cons.inj (List.cons.inj e).2).2).2).1
        have hp := hb p (by simp)
        have hq := hb q (by simp)
        have hr := hb r (by simp)
        have hs := hb s (by simp)
        have h1 : nst s r q p = false := hn.1
        have h2 : nst s r q p = true := by
          refine (nst_iff hs hr hq hp).2 ?_
          rw [difQ_abs hr.2.2 hq.2.2, difQ_abs hs.2.2 hr.2.2, difQ_abs hq.2.2 hp.2.2]
          clear h hn hb h1 e
          repeat' split
          all_goals omega
        rw [h1] at h2
        cases h2
    | cons x hs =>
      match S, e with
      | p :: S, e => exact nf_alt (S := S) h.tail hn.tail (fun q hq => hb q (List.mem_cons_of_mem _ hq)) _ _ ((List.cons.inj e).2 ▸ hs)
theorem cvs_app (a b : List Cy) : cvs (a ++ b) = cvs a ++ cvs b := List.map_append
theorem red_pop {a b c p : Pt} {T : List Pt} (ha : Bd a) (hb : Bd b) (hc : Bd c) (hp : Bd p) (t1 : turns b.2 c.2 p.2 = true) (t2 : turns a.2 b.2 c.2 = true) (hn : nst a b c p = true) :
    St (vls (p :: c :: b :: a :: T)) (cvs [(b, c)]) (vls (p :: a :: T)) := by
  obtain ⟨n1, n2⟩ := (nst_iff ha hb hc hp).1 hn
  rw [difQ_abs hb.2.2 hc.2.2, difQ_abs ha.2.2 hb.2.2] at n1
  rw [difQ_abs hb.2.2 hc.2.2, difQ_abs hc.2.2 hp.2.2] at n2
  have t1 := turns_iff.1 t1
  have t2 := turns_iff.1 t2
  have key := St.cy p.2 c.2 b.2 a.2 (vls T) (by
    clear hn hp hc hb ha
    by_cases g1 : b.2 < c.2
    · rw [if_pos g1] at n1 n2
      rw [if_neg (by omega)] at n1 n2
      omega
    · rw [if_neg g1] at n1 n2
      rw [if_pos (by omega)] at n1 n2
      omega)
  rw [Int.min_comm, Int.max_comm] at key
  exact key
theorem red_cnt : ∀ {R : List Pt}, Rev R → Red (vls R) (cvs (cntR R).2) (vls (cntR R).1) ∧ NF (vls (cntR R).1)
  | [], _ => ⟨.nil _, nf_alt trivial trivial (fun p h => by cases h)⟩
  | p :: R, hr => by
    obtain ⟨h1, h2⟩ := cntR_inv hr.tail
    obtain ⟨h3, _⟩ := red_cnt hr.tail
    have key := rd_ind (p := p) (Q := fun S C => CI (p :: R) (p :: S) C ∧ Red (vls (p :: R)) (cvs C) (vls (p :: S))) (fun a b c T C hn hq => by
      refine ⟨hq.1.pop hr hn, ?_⟩
      have mem : ∀ x ∈ (p :: c :: b :: a :: T), Bd x := fun x hx => hr.bd x (hq.1.sub.subset hx)
      have := hq.2.trans (.one (red_pop (T := T) (mem a (by simp)) (mem b (by simp)) (mem c (by simp)) (mem p (by simp)) hq.1.alt.1 hq.1.alt.2.1 hn))
      rwa [← cvs_app] at this) _ (cntR R).1 (cntR R).2 (Nat.le_refl _) ⟨h1.push hr, h3.cons p.2⟩
    obtain ⟨c1, c2⟩ := cntR_inv hr
    exact ⟨key.1.2, nf_alt c1.alt c2 (fun q hq => hr.bd q (c1.sub.subset hq))⟩
theorem full {l : List Pt} (hr : Rev (l.foldl ps [])) : Red (vls l).reverse (cvs (cntR (l.foldl ps [])).2) (vls (cntR (l.foldl ps [])).1) ∧ NF (vls (cntR (l.foldl ps [])).1) := by
  have h1 := red_cnt hr
  exact ⟨(red_turn l).1.trans h1.1, h1.2⟩
end Go.Proofs.YteemponkignnhaaGreat.Ways
set_option maxRecDepth 10000
noncomputable section
namespace Go.Proofs.YteemponkignnhaaGreat.Ways
open Go Go.Ex Go.RowKit Go.Turn Go.Ex.Dia
def gp (f : Int → Int) (p : Pt) : Pt := (p.1, f p.2)
def gc (f : Int → Int) (q : Cy) : Cy := (gp f q.1, gp f q.2)
def dA (x y : Int) : Int := if x < y then y - x else x - y
structure MpF (f : Int → Int) : Prop where
  eq : ∀ {x y : Int}, f x = f y ↔ x = y
  tn : ∀ {a b c : Int}, turns (f a) (f b) (f c) = turns a b c
  le : ∀ {a b c d : Int}, dA (f a) (f b) ≤ dA (f c) (f d) ↔ dA a b ≤ dA c d
section
variable {f : Int → Int} (hf : MpF f)
include hf
end
end Go.Proofs.YteemponkignnhaaGreat.Ways
