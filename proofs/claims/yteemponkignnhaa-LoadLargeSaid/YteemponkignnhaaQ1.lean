/- Part of the proof. -/
import Derived.Test.YteemponkignnhaaKb1
import Derived.Test.YteemponkignnhaaLf4
import Derived.Test.YteemponkignnhaaZz1
import Derived.Test.YteemponkignnhaaKm1
import Derived.Test.YteemponkignnhaaJd1
import Derived.Test.YteemponkignnhaaYa1
import Derived.Test.YteemponkignnhaaKm6
namespace Go.Ex.Pop
abbrev Pt2 := Int × Int
abbrev Cy2 := Pt2 × Pt2
def rgP (q : Cy2) : Int := if q.1.2 < q.2.2 then q.2.2 - q.1.2 else q.1.2 - q.2.2
inductive Po : List Pt2 → Cy2 → List Pt2 → Prop
  | cy (d c b a : Pt2) (T : List Pt2) : (a.2 ≤ c.2 ∧ c.2 < b.2 ∧ b.2 ≤ d.2) ∨ (d.2 ≤ b.2 ∧ b.2 < c.2 ∧ c.2 ≤ a.2) → Po (d :: c :: b :: a :: T) (b, c) (d :: a :: T)
  | cons (x : Pt2) {l : List Pt2} {q : Cy2} {l' : List Pt2} : Po l q l' → Po (x :: l) q (x :: l')
theorem Po.hd {x : Pt2} {l : List Pt2} {q : Cy2} {m : List Pt2} (h : Po (x :: l) q m) : ∃ T, m = x :: T := by
  cases h <;> exact ⟨_, rfl⟩
theorem Po.tl {x : Pt2} {l : List Pt2} {q : Cy2} {m : List Pt2} (h : Po l q (x :: m)) : ∃ T, l = x :: T := by
  cases h <;> exact ⟨_, rfl⟩
inductive Rd : List Pt2 → List Cy2 → List Pt2 → Prop
  | nil (l : List Pt2) : Rd l [] l
  | step {l : List Pt2} {q : Cy2} {m : List Pt2} {C : List Cy2} {n : List Pt2} : Po l q m → Rd m C n → Rd l (q :: C) n
theorem Rd.cons (x : Pt2) {l m : List Pt2} {C : List Cy2} (h : Rd l C m) : Rd (x :: l) C (x :: m) := by
  induction h with
  | nil _ => exact .nil _
  | step s _ ih => exact .step (s.cons x) ih
theorem Rd.snoc {l m n : List Pt2} {C : List Cy2} {q : Cy2} (h : Rd l C m) (s : Po m q n) : Rd l (C ++ [q]) n := by
  induction h with
  | nil _ => exact .step s (.nil _)
  | step s1 _ ih => exact .step s1 (ih s)
theorem swap {w : Int} {l m n : List Pt2} {q s : Cy2} (h1 : Po l q m) : Po m s n → w ≤ rgP q → rgP s < w → ∃ m', Po l s m' ∧ Po m' q n := by
  intro h2 hq hs
  induction h1 generalizing s n with
  | cy d c b a T g =>
    unfold rgP at hq
    cases h2 with
    | cy _ _ e f T h =>
      unfold rgP at hs
      refine ⟨d :: c :: b :: f :: T, ((Po.cy b a e f T ?_).cons c).cons d, .cy d c b f T ?_⟩
      all_goals (dsimp only at *; split at hq <;> split at hs <;> omega)
    | cons _ h =>
      cases h with
      | cy _ e f g' T h => exact ⟨d :: c :: b :: a :: g' :: T, (((Po.cy a e f g' T h).cons b).cons c).cons d, .cy d c b a (g' :: T) g⟩
      | cons _ h =>
        rename_i T'
        exact ⟨d :: c :: b :: a :: T', (((h.cons a).cons b).cons c).cons d, .cy d c b a T' g⟩
  | cons x h ih =>
    rename_i l0 q0 m0
    cases h2 with
    | cons _ h2 =>
      obtain ⟨m', a1, a2⟩ := ih h2 hq hs
      exact ⟨x :: m', a1.cons x, a2.cons x⟩
    | cy _ d e f T g =>
      unfold rgP at hs
      cases h with
      | cy _ c b _ T' g' =>
        exfalso
        unfold rgP at hq
        dsimp only at *
        split at hq <;> split at hs <;> omega
      | cons _ h =>
        cases h with
        | cy _ c b _ T' g' =>
          unfold rgP at hq
          refine ⟨x :: c :: b :: f :: T, .cy x d e c (b :: f :: T) ?_, .cy x c b f T ?_⟩
          all_goals (dsimp only at *; split at hq <;> split at hs <;> omega)
        | cons _ h =>
          obtain ⟨T0, rfl⟩ := h.tl
          exact ⟨x :: f :: T0, .cy x d e f T0 g, h.cons x⟩
theorem push {w : Int} {l m n : List Pt2} {q : Cy2} {C : List Cy2} (h1 : Po l q m) (h2 : Rd m C n) (hq : w ≤ rgP q) (hC : ∀ s ∈ C, rgP s < w) : ∃ m', Rd l C m' ∧ Po m' q n := by
  induction h2 generalizing l with
  | nil _ => exact ⟨l, .nil _, h1⟩
  | step s _ ih =>
    obtain ⟨m', a1, a2⟩ := swap h1 s hq (hC _ (List.mem_cons_self ..))
    obtain ⟨m'', b1, b2⟩ := ih a2 (fun s hs => hC s (List.mem_cons_of_mem _ hs))
    exact ⟨m'', .step a1 b1, b2⟩
theorem part {w : Int} {l n : List Pt2} {C : List Cy2} (h : Rd l C n) : ∃ m, Rd l (C.filter fun q => decide (rgP q < w)) m ∧ Rd m (C.filter fun q => decide (w ≤ rgP q)) n := by
  induction h with
  | nil l => exact ⟨l, .nil _, .nil _⟩
  | @step l q m C n s _ ih =>
    obtain ⟨k, a1, a2⟩ := ih
    by_cases hq : rgP q < w
    · refine ⟨k, ?_, ?_⟩
      · rw [List.filter_cons, if_pos (decide_eq_true hq)]; exact .step s a1
      · rw [List.filter_cons, if_neg (by rw [decide_eq_true_eq]; omega)]; exact a2
    · obtain ⟨k', b1, b2⟩ := push s a1 (w := w) (by omega) (fun s hs => by simpa using (List.mem_filter.1 hs).2)
      refine ⟨k', ?_, ?_⟩
      · rw [List.filter_cons, if_neg (by rw [decide_eq_true_eq]; omega)]; exact b1
      · rw [List.filter_cons, if_pos (by rw [decide_eq_true_eq]; omega)]; exact .step b2 a2
end Go.Ex.Pop
set_option maxRecDepth 10000
noncomputable section
namespace Go.Proofs.Yteemponkignnhaa.Ways
open Go Go.Ex Go.RowKit Go.Turn Go.Ex.Dia Go.Ex.Pop
theorem po_of {a b c p : Pt} {T : List Pt} (ha : Bd a) (hb : Bd b) (hc : Bd c) (hp : Bd p) (t1 : turns b.2 c.2 p.2 = true) (t2 : turns a.2 b.2 c.2 = true) (hn : nst a b c p = true) : Po (p :: c :: b :: a :: T) (b, c) (p :: a :: T) := by
  obtain ⟨n1, n2⟩ := (nst_iff ha hb hc hp).1 hn
  rw [difQ_abs hb.2.2 hc.2.2, difQ_abs ha.2.2 hb.2.2] at n1
  rw [difQ_abs hb.2.2 hc.2.2, difQ_abs hc.2.2 hp.2.2] at n2
  have t1 := turns_iff.1 t1
  have t2 := turns_iff.1 t2
  refine .cy p c b a T ?_
  clear hn hp hc hb ha
  by_cases g1 : b.2 < c.2
  · rw [if_pos g1] at n1 n2
    rw [if_neg (by omega)] at n1 n2
    omega
  · rw [if_neg g1] at n1 n2
    rw [if_pos (by omega)] at n1 n2
    omega
theorem rd_cnt : ∀ {R : List Pt}, Rev R → Rd R (cntR R).2 (cntR R).1
  | [], _ => .nil _
  | p :: R, hr => by
    obtain ⟨h1, _⟩ := cntR_inv hr.tail
    have h3 := rd_cnt hr.tail
    have key := rd_ind (p := p) (Q := fun S C => CI (p :: R) (p :: S) C ∧ Rd (p :: R) C (p :: S)) (fun a b c T C hn hq => by
      refine ⟨hq.1.pop hr hn, ?_⟩
      have mem : ∀ x ∈ (p :: c :: b :: a :: T), Bd x := fun x hx => hr.bd x (hq.1.sub.subset hx)
      exact hq.2.snoc (po_of (T := T) (mem a (by simp)) (mem b (by simp)) (mem c (by simp)) (mem p (by simp)) hq.1.alt.1 hq.1.alt.2.1 hn)) _ (cntR R).1 (cntR R).2 (Nat.le_refl _) ⟨h1.push hr, h3.cons p⟩
    exact key.1.2
theorem po_sub {l m : List Pt} {q : Cy2} (h : Po l q m) : m.Sublist l := by
  induction h with
  | cy d c b a T h => exact List.Sublist.cons_cons d ((List.sublist_cons_self b _).trans (List.sublist_cons_self c _))
  | cons x _ ih => exact ih.cons_cons x
theorem po_perm {l m : List Pt} {q : Cy2} (h : Po l q m) : (q.1 :: q.2 :: m).Perm l := by
  induction h with
  | cy d c b a T h =>
    rw [List.perm_iff_count]
    intro x
    simp only [List.count_cons]
    omega
  | @cons x l q m h ih =>
    refine List.Perm.trans ?_ (ih.cons x)
    rw [List.perm_iff_count]
    intro y
    simp only [List.count_cons]
    omega
theorem po_alt {l m : List Pt} {q : Cy2} (h : Po l q m) : Alt l → Alt m := by
  induction h with
  | cy d c b a T g =>
    intro h
    have h3 : Alt (b :: a :: T) := h.2.2
    cases T with
    | nil => show d.2 ≠ a.2; omega
    | cons t T =>
      have t3 := turns_iff.1 h3.1
      exact ⟨turns_iff.2 (by omega), h3.2⟩
  | @cons x l q m h ih =>
    intro ha
    have h1 := ih ha.tail
    cases h with
    | cy d c b a T g =>
      have t1 := turns_iff.1 ha.1
      exact ⟨turns_iff.2 (by omega), h1⟩
    | @cons y l q m h =>
      cases m with
      | nil =>
        have := (po_perm h).length_eq
        cases l with
        | nil => simp at this
        | cons _ _ => exact ha.ne
      | cons z m =>
        obtain ⟨T, rfl⟩ := h.tl
        exact ⟨ha.1, h1⟩
theorem po_rev {l m : List Pt} {q : Cy2} (h : Po l q m) (hr : Rev l) : Rev m := ⟨fun p hp => hr.bd p ((po_sub h).subset hp), hr.dn.sublist (po_sub h), po_alt h hr.alt⟩
theorem rd_rev {l m : List Pt} {C : List Cy2} (h : Rd l C m) : Rev l → Rev m := by
  induction h with
  | nil _ => exact id
  | step s _ ih => exact fun hr => ih (po_rev s hr)
theorem rd_sub {l m : List Pt} {C : List Cy2} (h : Rd l C m) : m.Sublist l := by
  induction h with
  | nil _ => exact .refl _
  | step s _ ih => exact ih.trans (po_sub s)
def hit (C : List Cy2) (a : Int) : Bool := C.any fun q => decide (a = q.1.1) || decide (a = q.2.1)
theorem dn_ne {l : List Pt} (h : l.Pairwise fun x y => y.1 < x.1) : (l.map (·.1)).Nodup := by
  rw [List.nodup_iff_pairwise_ne, List.pairwise_map]
  exact h.imp fun h => by omega
theorem po_filt {l m : List Pt} {q : Cy2} (h : Po l q m) (hr : (l.map (·.1)).Nodup) : m = l.filter fun p => !(decide (p.1 = q.1.1) || decide (p.1 = q.2.1)) := by
  have hp := po_perm h
  have hnd : ((q.1 :: q.2 :: m).map (·.1)).Nodup := ((hp.map _).nodup_iff).2 hr
  rw [List.map_cons, List.map_cons, List.nodup_cons, List.nodup_cons] at hnd
  obtain ⟨d1, d2, _⟩ := hnd
  have hm : ∀ p ∈ m, (!(decide (p.1 = q.1.1) || decide (p.1 = q.2.1))) = true := fun p hpm => by
    have e1 : p.1 ≠ q.1.1 := fun e => d1 (by rw [← e]; exact List.mem_cons_of_mem _ (List.mem_map.2 ⟨p, hpm, rfl⟩))
    have e2 : p.1 ≠ q.2.1 := fun e => d2 (by rw [← e]; exact List.mem_map.2 ⟨p, hpm, rfl⟩)
    rw [decide_eq_false e1, decide_eq_false e2]; rfl
  have hs : m.Sublist (l.filter fun p => !(decide (p.1 = q.1.1) || decide (p.1 = q.2.1))) := by
    have := (po_sub h).filter fun p => !(decide (p.1 = q.1.1) || decide (p.1 = q.2.1))
    rwa [List.filter_eq_self.2 hm] at this
  refine hs.eq_of_length ?_
  have hl := (hp.filter fun p => !(decide (p.1 = q.1.1) || decide (p.1 = q.2.1))).length_eq
  rw [List.filter_cons, if_neg (by simp), List.filter_cons, if_neg (by simp), List.filter_eq_self.2 hm] at hl
  exact hl
theorem rd_filt {l m : List Pt} {C : List Cy2} (h : Rd l C m) : (l.map (·.1)).Nodup → m = l.filter fun p => !hit C p.1 := by
  induction h with
  | nil _ => intro _; exact (List.filter_eq_self.2 fun _ _ => rfl).symm
  | @step l q m C n s _ ih =>
    intro hr
    have h1 := po_filt s hr
    have h2 := ih (((po_sub s).map _).nodup hr)
    rw [h2, h1, List.filter_filter]
    congr 1
    funext p
    unfold hit
    rw [List.any_cons, Bool.and_comm]
    simp only [Bool.not_or]
theorem szY_rg {q : Cy2} (h1 : Bd q.1) (h2 : Bd q.2) : szY q = rgP q := by
  have b1 := h1.2.2
  have b2 := h2.2.2
  unfold szY szC minQ maxQ rgP
  split <;> split <;> (try split) <;> rw [wrapF_in (by omega) (by omega)] <;> omega
section
variable {cs : List Value} {n : Nat} {x : Int}
def FP (cs : List Value) (n : Nat) (w : Int) : List Pt := FL w (rvI cs n)
def big (cs : List Value) (n : Nat) (w : Int) : List Cy := (CC_ cs n).filter fun q => decide (w ≤ szY q)
theorem flC (cs : List Value) (n : Nat) : (cnt (flatP (rvI cs n)) (rvI cs n).length).2 = CC_ cs n := rfl
theorem Fx.cyB (h : Fx cs n x) : ∀ q ∈ CC_ cs n, Bd q.1 ∧ Bd q.2 := fun q hq => by
  have hp := h.ci.1.perm
  have m : ∀ {C : List Cy}, q ∈ C → q.1 ∈ both C ∧ q.2 ∈ both C := by
    intro C
    induction C with
    | nil => intro h; cases h
    | cons r C ih =>
      intro h
      rcases List.mem_cons.1 h with rfl | h
      · exact ⟨List.mem_cons_self .., List.mem_cons_of_mem _ (List.mem_cons_self ..)⟩
      · exact ⟨List.mem_cons_of_mem _ (List.mem_cons_of_mem _ (ih h).1), List.mem_cons_of_mem _ (List.mem_cons_of_mem _ (ih h).2)⟩
  exact ⟨h.rev.bd _ (hp.subset (List.mem_append_right _ (m hq).1)), h.rev.bd _ (hp.subset (List.mem_append_right _ (m hq).2))⟩
theorem Fx.fp (h : Fx cs n x) (w : Int) : Rd (FP cs n w).reverse (big cs n w) (SS_ cs n) ∧ Rev (FP cs n w).reverse := by
  have hr := h.rev
  have h0 := rd_cnt hr
  have e1 : cntR (rvI cs n).reverse = (SS_ cs n, CC_ cs n) := by
    unfold SS_ CC_
    rw [cnt_rv]
  rw [e1] at h0
  obtain ⟨m, h1, h2⟩ := Pop.part (w := w) h0
  have e2 : ((CC_ cs n).filter fun q => decide (w ≤ rgP q)) = big cs n w := List.filter_congr fun q hq => by rw [szY_rg (h.cyB q hq).1 (h.cyB q hq).2]
  have e3 : m = (FP cs n w).reverse := by
    rw [rd_filt h1 (dn_ne hr.dn)]
    unfold FP FL
    rw [← List.filter_reverse, flC]
    refine List.filter_congr fun p _ => ?_
    congr 1
    unfold hit inC
    have key : ∀ C : List Cy, (∀ q ∈ C, Bd q.1 ∧ Bd q.2) → ((C.filter fun q => decide (rgP q < w)).any fun q => decide (p.1 = q.1.1) || decide (p.1 = q.2.1)) = C.any fun q => decide (szY q < w) && (decide (p.1 = q.1.1) || decide (p.1 = q.2.1)) := by
      intro C
      induction C with
      | nil => intro _; rfl
      | cons q C ih =>
        intro hb
        have i1 := ih fun s hs => hb s (List.mem_cons_of_mem _ hs)
        have i2 := hb q (List.mem_cons_self ..)
        rw [List.any_cons, ← i1, szY_rg i2.1 i2.2, List.filter_cons]
        by_cases hq : rgP q < w
        · rw [if_pos (decide_eq_true hq), List.any_cons, decide_eq_true hq]; rfl
        · rw [if_neg (by rw [decide_eq_true_eq]; exact hq), decide_eq_false hq]; rfl
    exact key _ h.cyB
  subst e3
  rw [e2] at h2
  exact ⟨h2, rd_rev h1 hr⟩
theorem rd_red {l m : List Pt} {C : List Cy2} (h : Rd l C m) : Red (vls l) (cvs C) (vls m) := by
  induction h with
  | nil _ => exact .nil _
  | @step l q m C n s _ ih =>
    have key : ∀ {l m : List Pt} {q : Cy2}, Po l q m → St (vls l) (cvs [q]) (vls m) := by
      intro l m q s
      induction s with
      | cy d c b a T g =>
        have := St.cy d.2 c.2 b.2 a.2 (vls T) (by omega)
        rw [Int.min_comm, Int.max_comm] at this
        exact this
      | cons x _ ih => exact ih.cons x.2
    exact .step (key s) ih
theorem Fx.fcnt (h : Fx cs n x) (w : Int) : vls (cntR (FP cs n w).reverse).1 = vls (SS_ cs n) ∧ (cvs (cntR (FP cs n w).reverse).2).Perm (cvs (big cs n w)) := by
  obtain ⟨h1, h2⟩ := h.fp w
  have h3 := red_cnt h2
  have h4 : NF (vls (SS_ cs n)) := nf_alt h.ci.1.alt h.ci.2 h.srev.bd
  exact h3.1.uniq h3.2 (rd_red h1) h4
end
end Go.Proofs.Yteemponkignnhaa.Ways
set_option maxRecDepth 10000
noncomputable section
namespace Go.Proofs.Yteemponkignnhaa.Ways
open Go Go.Ex Go.RowKit Go.Turn
def P27 (cs : List Value) (n c : Nat) (x : Int) : Prop := c = n ∧ 1 ≤ n ∧ RowE cs n ∧ n - 1 < 900000 ∧ e27 cs (n - 1) x = 0 ∧ FL x (pts cs n) ≠ []
def sp27w : NSpec := fun al css => match al, css with
  | [.slice (some ⟨1, 0, none⟩) n c, .int .i64 x], [cs] => some (P27 cs n c x, .tup (FL x (pts cs n)).length (FL x (pts cs n)).length (flatP (FL x (pts cs n))) 67 2 false (i 0))
  | _, _ => none
theorem c27w : ∀ al css os p v, sp27w al css = some (p, v) → p → Blks css os → (∀ cs ∈ css, cs.all Ex.flat = true) ∧ v.Ok Try.prog 29 al deads os (gl + css.length) := by
  intro al css os p v hs hp hb
  unfold sp27w at hs
  split at hs
  case h_2 => cases hs
  rename_i n c x cs
  cases hs
  obtain ⟨rfl, h1, h2, h3, h4, h5⟩ := hp
  obtain ⟨m, rfl⟩ : ∃ m, c = m + 1 := ⟨c - 1, by omega⟩
  exact c27h true true false [sl 1 0 (m + 1) (m + 1), i x] [cs] os _ _ rfl ⟨rfl, h2, h3, h4, fun _ => by unfold zq; rw [if_neg (by simp)]; exact h5⟩ hb
noncomputable def TQ7 (f fb : Bool) : Tb := ext (ext (ext (ext (ext (ext (ext (ext (ext (ext (ext (ext (ext (ext TM9 13 (newE (sp11 true false) [] (heapL deads))) 14 (xE 0 rd0 sp12 [] (heapL deads))) 15 (autoE (sp13g true) [] (heapL deads))) 19 (newE sp17t [] (heapL deads)))
  20 (autoE (sp18g true) [] (heapL deads))) 28 (newE (sp23 69) [] (heapL deads))) 29 (newE sp27w [] (heapL deads))) 38 (twoE (sp36 f) [] (heapL deads))) 63 (twoE (sp59 fb) [] (heapL deads))) 18 (autoE (spSame eqP cP) [] (heapL deads))) 41 (autoE (spSame eqP cP) [] (heapL deads))) 42 (newE sp40 [] (heapL deads))) 43 (autoE sp41 [] (heapL deads))) 44 (newE sp42 [] (heapL deads))
theorem tsQ7 {G : Nat} (haw : Pure Try.prog Hd 11 [] (b_ true)) (f fb : Bool) : TSound Try.prog G (TQ7 f fb) :=
  ((((((((((((((tsm9 haw).new (f' := 13) (c11 true false)).x c12).auto (c13g 15 (.inl rfl) true)).new c17t).auto (c18g 20 (.inl rfl) true)).new c26).new c27w).two (c36 f)).two (c59 fb)).auto c16b).auto c39).new c40).auto c41).new c42
noncomputable def B7 (id : Nat) : Code := bodyL Try.f7 id
end Go.Proofs.Yteemponkignnhaa.Ways
set_option maxRecDepth 10000
noncomputable section
namespace Go.Proofs.Yteemponkignnhaa.Ways
open Go Go.Ex Go.RowKit Go.Turn
inductive KWq where
  | z (j : Int)
  | m (j : Int) (l : Nat) (out : List Value)
structure QD where
  cs : List Value
  n : Nat
  lo : Int
  cy : List Value
  kc : Nat
  d : List Value
  ld : Nat
  ff : List Value
  lf : Nat
  gg : List Value
  lg : Nat
  x : List Value
  kx : Nat
  y : List Value
  ly : Nat
  cyp : Nat
structure QD.Flat (m : QD) : Prop where
  cy : m.cy.all Ex.flat = true
  d : m.d.all Ex.flat = true
  ff : m.ff.all Ex.flat = true
  gg : m.gg.all Ex.flat = true
  x : m.x.all Ex.flat = true
  y : m.y.all Ex.flat = true
def QD.bl (m : QD) (fb : Bool) : List (Nat × CO) := cond fb
  [(3, .cells m.cy 69 4 false), (4, .cells m.d 70 2 false), (9, .cells m.ff 67 2 false), (12, .cells m.gg 67 2 false), (15, .cells m.x 86 4 false), (16, .cells m.y 67 2 false)]
  [(3, .cells m.cy 69 4 false), (4, .cells m.d 70 2 false), (9, .cells m.ff 67 2 false), (12, .cells m.gg 67 2 false), (15, .cells m.y 67 2 false)]
def KQ (fb : Bool) : Nat := cond fb 22 21
def QD.hp (m : QD) (fb : Bool) : List (CO × Bool) := hpG (KQ fb) (m.bl fb)
def QD.live (m : QD) (fb : Bool) : List (Nat × Value) := [(5, i m.lo), (8, sl 4 0 m.ld m.ld), (12, sl 9 0 m.lf m.lf), (14, sl 12 0 m.lg m.lg), (16, cond fb (sl 15 0 m.kx m.kx) (.slice none 0 0)), (17, cond fb (sl 16 0 m.ly m.cyp) (sl 15 0 m.ly m.cyp))]
def szWq (cs : List Value) (j : Int) : Int := wrapF .i64 (f_ cs j.toNat 3 - f_ cs j.toNat 2)
def rwWq (cs : List Value) (j : Int) : List Value := [i (f_ cs j.toNat 0), i (f_ cs j.toNat 1), i (f_ cs j.toNat 2), i (f_ cs j.toNat 3)]
def flWq (l : Nat) (b : List Value) : Bool := decide (l = l) && (decide (b.length = l * 4) && decide (l + 1 ≤ 1048576))
section
variable (m : QD) (fb : Bool)
def tdWq : KWq → Go.Ex.Told
  | .z j => ⟨m.live fb ++ [(21, .slice none 0 0), (145, sl 3 0 m.kc m.kc), (146, i m.kc), (147, i j)], m.hp fb⟩
  | .m j l out => ⟨m.live fb ++ [(21, sl (KQ fb) 0 l l), (145, sl 3 0 m.kc m.kc), (146, i m.kc), (147, i j)], m.hp fb ++ [(.cells out 69 4 false, true)]⟩
def fdWq : KWq → Go.Ex.Told
  | .z _ => ⟨m.live fb ++ [(21, .slice none 0 0)], m.hp fb⟩
  | .m _ l out => ⟨m.live fb ++ [(21, sl (KQ fb) 0 l l)], m.hp fb ++ [(.cells out 69 4 false, true)]⟩
def ShWq : Shape KWq := ⟨206, tdWq m fb, fun _ q => (.exit 0, fdWq m fb q)⟩
def stWq : KWq → SS KWq
  | .z j => .br (ltF j m.kc) (askS (bnd_ j m.kc m.kc) <| askS (cF m.cy j) <| .br (leF m.lo (szWq m.cy j)) (.next (KQ fb + 3) (List.range (KQ fb) ++ [KQ fb + 2]) (.m (wrapF .i64 (j + 1)) 1 (rwWq m.cy j))) (.next (KQ fb + 1) (List.range (KQ fb)) (.z (wrapF .i64 (j + 1))))) (.done (KQ fb) (List.range (KQ fb)) 0)
  | .m j l out => .br (ltF j m.kc) (askS (bnd_ j m.kc m.kc) <| askS (cF m.cy j) <| .br (leF m.lo (szWq m.cy j)) (askS (flWq l out) <| .next (KQ fb + 4) (List.range (KQ fb) ++ [KQ fb + 3]) (.m (wrapF .i64 (j + 1)) (l + 1) (out ++ rwWq m.cy j))) (.next (KQ fb + 2) (List.range (KQ fb + 1)) (.m (wrapF .i64 (j + 1)) l out))) (.done (KQ fb + 1) (List.range (KQ fb + 1)) 0)
end
noncomputable def C71 : Cfg := ⟨TM9, at_ [(7, 148), (7, 157)] .bool no_, on_ [(7, 149), (7, 150), (7, 161), (7, 300161)], noL⟩
noncomputable def C71z : Cfg := ⟨TM9, at_ [(7, 148), (7, 157)] .bool no_, on_ [(7, 149), (7, 150)], noL⟩
def GdWq : KWq → Prop
  | .z _ => True
  | .m _ _ out => out.all Ex.flat = true
section
variable {m : QD} {fb : Bool}
theorem QD.hp_flat (h : m.Flat) : ∀ o, (o, true) ∈ m.hp fb → FlatO o := by
  have key : ∀ {cs : List Value} {t s : Nat} {ex : Bool}, cs.all Ex.flat = true → FlatO (.cells cs t s ex) := fun h => fun y hy => List.all_eq_true.1 h y hy
  refine hpG_flat fun p hp => ?_
  cases fb with
  | true =>
    simp only [QD.bl, cond, List.mem_cons, List.not_mem_nil, or_false] at hp
    rcases hp with rfl | rfl | rfl | rfl | rfl | rfl
    · exact key h.cy
    · exact key h.d
    · exact key h.ff
    · exact key h.gg
    · exact key h.x
    · exact key h.y
  | false =>
    simp only [QD.bl, cond, List.mem_cons, List.not_mem_nil, or_false] at hp
    rcases hp with rfl | rfl | rfl | rfl | rfl
    · exact key h.cy
    · exact key h.d
    · exact key h.ff
    · exact key h.gg
    · exact key h.y
theorem hpo_flat (h : m.Flat) {out : List Value} (h2 : out.all Ex.flat = true) : ∀ o, (o, true) ∈ m.hp fb ++ [(.cells out 69 4 false, true)] → FlatO o := fun o ho => by
  rcases List.mem_append.1 ho with ho | ho
  · exact QD.hp_flat h o ho
  · rw [List.mem_singleton] at ho
    cases ho
    exact fun y hy => List.all_eq_true.1 h2 y hy
theorem tdWq_flat (h : m.Flat) {q : KWq} (hq : GdWq q) : (tdWq m fb q).flat := by
  cases q with
  | z _ => exact QD.hp_flat h
  | m _ _ _ => exact hpo_flat h hq
theorem fdWq_flat (h : m.Flat) {q : KWq} (hq : GdWq q) : (fdWq m fb q).flat := by
  cases q with
  | z _ => exact QD.hp_flat h
  | m _ _ _ => exact hpo_flat h hq
theorem goodWq : ∀ q q', GdWq q → (stWq m fb q).sel = some (.inl q') → GdWq q' := by
  intro q q' hg h
  cases q with
  | z j =>
    rcases br_or' h with h | h
    · rcases br_or' (ask_or' (ask_or' h)) with h | h
      · cases h; rfl
      · cases h; exact trivial
    · cases h
  | m j l out =>
    rcases br_or' h with h | h
    · rcases br_or' (ask_or' (ask_or' h)) with h | h
      · have h := ask_or' h
        cases h; exact app_flat hg rfl
      · cases h; exact hg
    · cases h
theorem LQ1 (haw : Pure Try.prog Hd 11 [] (b_ true)) (h : m.Flat) (fb : Bool) : Loop1 Try.prog 2 7 (B7 16) (ShWq m fb) (KQ fb) (stWq m fb) GdWq :=
  .mk' (C := fun q => match q with
    | .z _ => C71z
    | .m _ _ _ => C71) (n := 60) (fun q _ => by cases q <;> exact tsm9 haw) (fun q _ => by cases q <;> exact .none)
    (fun q ro _ => by cases fb <;> cases q <;> kernel_rfl) (fun q ro _ => by cases fb <;> cases q <;> kernel_rfl) (fun q => by cases fb <;> cases q <;> kernel_rfl)
    goodWq (fun _ hq => tdWq_flat h hq) (fun _ _ hq _ => ⟨fdWq_flat h hq, fun h => by cases h⟩)
end
end Go.Proofs.Yteemponkignnhaa.Ways
set_option maxRecDepth 10000
noncomputable section
namespace Go.Proofs.Yteemponkignnhaa.Ways
open Go Go.Ex Go.RowKit Go.Turn
def lowQ (x y : Int) : Int := IntKind.i64.wrap (if y < x then y else x)
def higQ (x y : Int) : Int := IntKind.i64.wrap (if y > x then y else x)
section
variable (cs : List Value) (n : Nat) (w : Int)
def FQ : List Pt := FL w (pts (RT_ cs n) (RN_ cs n))
def FF_ : List Value := flatP (FQ cs n w)
def FN_ : Nat := (FQ cs n w).length
def FT_ : List Value := ((FF_ cs n w).drop 0).take (FN_ cs n w * 2)
def XC_ : List Cy := (cnt (FT_ cs n w) (FN_ cs n w)).2
def XN_ : Nat := (cnt (FT_ cs n w) (FN_ cs n w)).1.length
noncomputable def XS_ : List Value := cellO (eO (FT_ cs n w) (FN_ cs n w) (FN_ cs n w))
noncomputable def XP_ : Nat := capO (eO (FT_ cs n w) (FN_ cs n w) (FN_ cs n w))
noncomputable def qdQ (v : Int) : QD := { cs := cs, n := n, lo := w, cy := flatC (CC_ cs n), kc := (CC_ cs n).length, d := DS_ cs n, ld := LD_ cs n, ff := FF_ cs n w, lf := FN_ cs n w, gg := FF_ cs n v, lg := FN_ cs n v, x := flatC (XC_ cs n w), kx := (XC_ cs n w).length, y := XS_ cs n w, ly := XN_ cs n w, cyp := XP_ cs n w }
end
section
variable (cs : List Value) (n : Nat) (x y : Int)
noncomputable def m7 : QD := qdQ cs n (lowQ x y) (higQ x y)
noncomputable def L71 (fb : Bool) (r : Nat × KWq) : LTab := loopE noL 7 16 206 (KQ fb) (B7 16) ((ShWq (m7 cs n x y) fb).st (.z 0)).live ((ShWq (m7 cs n x y) fb).st (.z 0)).hp (finO (ShWq (m7 cs n x y) fb) r [0])
def sp7 : Nat → Nat → Split := at_ [(7, 32), (7, 99), (7, 106), (7, 135), (7, 142), (7, 168), (7, 176)] .bool no_
def sy7 : Nat → Nat → Bool := on_ [(7, 67), (7, 200067), (7, 75), (7, 200075), (7, 111), (7, 200111), (7, 119), (7, 200119)]
end
end Go.Proofs.Yteemponkignnhaa.Ways
set_option maxRecDepth 10000
noncomputable section
namespace Go.Proofs.Yteemponkignnhaa.Ways
open Go Go.Ex Go.RowKit Go.Turn
def K7q (f fb : Bool) : Nat := cond f (cond fb 29 24) 23
def pFq (f : Bool) : Nat := cond f 9 8
def pGq (f : Bool) : Nat := cond f 12 11
section
variable (ff gg : List Value) (lf lg : Nat) (f fb : Bool)
def hp7q : List (CO × Bool) := hpG (K7q f fb) [(pFq f, .cells ff 67 2 false), (pGq f, .cells gg 67 2 false)]
def lv7q (j : Int) : List (Nat × Value) := [(12, sl (pFq f) 0 lf lf), (179, sl (pGq f) 0 lg lg), (180, i lg), (181, i j)]
def hpIq (a b : Int) : List (CO × Bool) := hp7q ff gg f fb ++ [(.cells [i a, i b] 67 1 true, true)]
def ShIq (j a b : Int) : Shape Int := ⟨206, fun w => ⟨lv7q lf lg f j ++ [(24, i w), (26, pt (K7q f fb) 0)], hpIq ff gg f fb a b⟩, fun _ w => (.exit 4, ⟨lv7q lf lg f j ++ [(24, i w), (26, pt (K7q f fb) 0)], hpIq ff gg f fb a b⟩)⟩
def neQ (a b w : Int) : Bool := !(pA ff w.toNat == a && (pB ff w.toNat == b && true))
def stIq (a b w : Int) : SS Int := .br (ltF w lf) (askS (bnd_ w lf lf) <| askS (cP ff w) <| .br (neQ ff a b w) (.next (K7q f fb + 1) (List.range (K7q f fb + 1)) (wrapF .i64 (w + 1))) (.done (K7q f fb + 1) (List.range (K7q f fb + 1)) 0)) (.done (K7q f fb + 1) (List.range (K7q f fb + 1)) 0)
noncomputable def C7i : Cfg := ⟨TM9, at_ [(7, 188), (7, 195)] .bool no_, on_ [(7, 192), (7, 193)], noL⟩
end
section
variable {ff gg : List Value} {lf lg : Nat}
theorem hp7q_flat {f fb : Bool} (h1 : ff.all Ex.flat = true) (h2 : gg.all Ex.flat = true) : ∀ o, (o, true) ∈ hp7q ff gg f fb → FlatO o := by
  refine hpG_flat fun p hp => ?_
  simp only [List.mem_cons, List.not_mem_nil, or_false] at hp
  rcases hp with rfl | rfl
  · exact fun y hy => List.all_eq_true.1 h1 y hy
  · exact fun y hy => List.all_eq_true.1 h2 y hy
theorem hpIq_flat {f fb : Bool} {a b : Int} (h1 : ff.all Ex.flat = true) (h2 : gg.all Ex.flat = true) : ∀ o, (o, true) ∈ hpIq ff gg f fb a b → FlatO o := fun o ho => by
  rcases List.mem_append.1 ho with ho | ho
  · exact hp7q_flat h1 h2 o ho
  · rw [List.mem_singleton] at ho
    cases ho
    exact fun y hy => List.all_eq_true.1 (show [i a, i b].all Ex.flat = true from rfl) y hy
theorem LQi (haw : Pure Try.prog Hd 11 [] (b_ true)) (h1 : ff.all Ex.flat = true) (h2 : gg.all Ex.flat = true) (f fb : Bool) (j a b : Int) : Loop1 Try.prog 2 7 (B7 27) (ShIq ff gg lf lg f fb j a b) (K7q f fb + 1) (stIq ff lf f fb a b) (fun _ => True) :=
  .mk' (C := fun _ => C7i) (n := 60) (fun _ _ => tsm9 haw) (fun _ _ => .none)
    (fun q ro _ => by cases f <;> cases fb <;> kernel_rfl) (fun q ro _ => by cases f <;> cases fb <;> kernel_rfl) (fun q => by cases f <;> cases fb <;> kernel_rfl)
    (fun _ _ _ _ => trivial) (fun _ _ => hpIq_flat h1 h2) (fun _ _ _ _ => ⟨hpIq_flat h1 h2, fun h => by cases h⟩)
end
section
variable (ff gg : List Value) (lf lg : Nat) (f fb : Bool) (nx : Int → Int → Int)
def endIq (j w e : Int) : Prop := ∃ m, runS (stIq ff lf f fb (pA gg j.toNat) (pB gg j.toNat)) m w = some (0, e)
structure OQ7 where
  j : Int
  w : Int
  e : Int
noncomputable def LInQ (q : OQ7) : LTab := loopE noL 7 27 206 (K7q f fb + 1) (B7 27) ((ShIq ff gg lf lg f fb q.j (pA gg q.j.toNat) (pB gg q.j.toNat)).st q.w).live ((ShIq ff gg lf lg f fb q.j (pA gg q.j.toNat) (pB gg q.j.toNat)).st q.w).hp (.br (tru (endIq ff gg lf f fb q.j q.w q.e)) (finO (ShIq ff gg lf lg f fb q.j (pA gg q.j.toNat) (pB gg q.j.toNat)) (0, q.e) [0]) .fail)
noncomputable def C7o (q : OQ7) : Cfg := ⟨TM9, at_ [(7, 182), (7, 202)] .bool no_, on_ [(7, 183), (7, 184)], LInQ ff gg lf lg f fb q⟩
def ShOq : Shape OQ7 := ⟨206, fun q => ⟨lv7q lf lg f q.j ++ [(24, i q.w)], hp7q ff gg f fb⟩, fun k _ => match k with
  | 0 => (.exit 2, ⟨[], hp7q ff gg f fb⟩)
  | _ => (.ret, ⟨[(4, b_ false)], hp7q ff gg f fb⟩)⟩
noncomputable def stOq (q : OQ7) : SS OQ7 := .br (ltF q.j lg) (askS (bnd_ q.j lg lg) <| askS (cP gg q.j) <| askS (tru (endIq ff gg lf f fb q.j q.w q.e)) <| askS true <| .br (eqF q.e lf) (.done (K7q f fb + 1) (List.range (K7q f fb)) 1)
  (.next (K7q f fb + 1) (List.range (K7q f fb)) ⟨wrapF .i64 (q.j + 1), wrapF .i64 (q.e + 1), nx (wrapF .i64 (q.j + 1)) (wrapF .i64 (q.e + 1))⟩)) (.done (K7q f fb) (List.range (K7q f fb)) 0)
end
section
variable {ff gg : List Value} {lf lg : Nat} {f fb : Bool} {nx : Int → Int → Int}
theorem LQo (haw : Pure Try.prog Hd 11 [] (b_ true)) (h1 : ff.all Ex.flat = true) (h2 : gg.all Ex.flat = true) (f fb : Bool) : Loop1 Try.prog 2 7 (B7 25) (ShOq ff gg lf lg f fb) (K7q f fb) (stOq ff gg lf lg f fb nx) (fun _ => True) :=
  .mk' (C := C7o ff gg lf lg f fb) (n := 60) (fun _ _ => tsm9 haw) (fun q _ => (LQi haw h1 h2 f fb q.j (pA gg q.j.toNat) (pB gg q.j.toNat)).tableIf (id := 27) .none (by cases f <;> cases fb <;> decide) trivial (fun hp => tru_iff.1 hp) (by cases f <;> cases fb <;> kernel_rfl) [0])
    (fun q ro _ => by cases f <;> cases fb <;> kernel_rfl) (fun q ro _ => by cases f <;> cases fb <;> kernel_rfl) (fun q => by cases f <;> cases fb <;> kernel_rfl)
    (fun _ _ _ _ => trivial) (fun _ _ => hp7q_flat h1 h2) (fun q k _ _ => by
      match k with
      | 0 => exact ⟨hp7q_flat h1 h2, fun h => by cases h⟩
      | k + 1 => exact ⟨hp7q_flat h1 h2, fun h => by cases h⟩)
end
end Go.Proofs.Yteemponkignnhaa.Ways
set_option maxRecDepth 10000
noncomputable section
namespace Go.Proofs.Yteemponkignnhaa.Ways
open Go Go.Ex Go.RowKit Go.Turn
section
variable (cs : List Value) (n t s : Nat) (ex : Bool) (x y : Int)
def AGq (lo : Int) : List Pt := FL lo (pts (FT_ cs n lo) (FN_ cs n lo))
noncomputable def L7bq (f fb : Bool) (nx : Int → Int → Int) (r : Nat × OQ7) (L : LTab) : LTab := loopE L 7 25 206 (K7q f fb) (B7 25) ((ShOq (FF_ cs n (lowQ x y)) (FF_ cs n (higQ x y)) (FN_ cs n (lowQ x y)) (FN_ cs n (higQ x y)) f fb).st ⟨0, 0, nx 0 0⟩).live ((ShOq (FF_ cs n (lowQ x y)) (FF_ cs n (higQ x y)) (FN_ cs n (lowQ x y)) (FN_ cs n (higQ x y)) f fb).st ⟨0, 0, nx 0 0⟩).hp (finO (ShOq (FF_ cs n (lowQ x y)) (FF_ cs n (higQ x y)) (FN_ cs n (lowQ x y)) (FN_ cs n (higQ x y)) f fb) r [0])
noncomputable def o7T (nx : Int → Int → Int) (j1 : Int) (l : Nat) (out : List Value) (q : OQ7) : Out QRes := execO Try.prog 2 ⟨TQ7 true true, sp7, sy7, L7bq cs n x y true true nx (0, q) (L71 cs n x y true (0, .m j1 l out))⟩ 120 (.call 7 ⟨[sl 1 0 n n, ag [.int .u16 x, .int .u16 y]]⟩ (heapL (deads ++ [.cells cs t s ex])))
noncomputable def o7M (nx : Int → Int → Int) (j1 : Int) (q : OQ7) : Out QRes := execO Try.prog 2 ⟨TQ7 true false, sp7, sy7, L7bq cs n x y true false nx (0, q) (L71 cs n x y false (0, .z j1))⟩ 120 (.call 7 ⟨[sl 1 0 n n, ag [.int .u16 x, .int .u16 y]]⟩ (heapL (deads ++ [.cells cs t s ex])))
noncomputable def o7F (nx : Int → Int → Int) (q : OQ7) : Out QRes := execO Try.prog 2 ⟨TQ7 false false, sp7, sy7, L7bq cs n x y false false nx (0, q) noL⟩ 120 (.call 7 ⟨[sl 1 0 n n, ag [.int .u16 x, .int .u16 y]]⟩ (heapL (deads ++ [.cells cs t s ex])))
noncomputable def e7q (lo : Int) : VT := vP (TokE (XS_ cs n lo) (XN_ cs n lo) (XP_ cs n lo)) <| vP (TokE (flatP (pts (XS_ cs n lo) (XN_ cs n lo))) (XN_ cs n lo) (XN_ cs n lo)) <| vP (TokE (DS_ cs n) (LD_ cs n) (LD_ cs n)) <|
  vP (okI (lstI (pB (flatP (pts (XS_ cs n lo) (XN_ cs n lo)))) (XN_ cs n lo)) (XN_ cs n lo) (XN_ cs n lo) ∧ okI (lstI (pB (DS_ cs n)) (LD_ cs n)) (LD_ cs n) (LD_ cs n) ∧ XN_ cs n lo = LD_ cs n ∧ XN_ cs n lo < 1000000 ∧ ∀ j : Nat, j < XN_ cs n lo → eI (lstI (pB (flatP (pts (XS_ cs n lo) (XN_ cs n lo)))) (XN_ cs n lo)) j = eI (lstI (pB (DS_ cs n)) (LD_ cs n)) j) <| .br true (.br true lfT .fail) lfF
noncomputable def w7q (lo : Int) (f fb : Bool) (l : Nat) (out : List Value) : VT :=
  cond f (fun t => .br true t .fail) (fun t => t) <| cond fb (fun t => vP (CfE (flatC (XC_ cs n lo)) (XC_ cs n lo).length (XC_ cs n lo).length) <| vP (V40 (flatC (XC_ cs n lo)) (XC_ cs n lo).length (XC_ cs n lo).length) <| vP (V40 out l l) <|
    vP (okX cP (flatP (soV (flatC (XC_ cs n lo)) (XC_ cs n lo).length).reverse) (XC_ cs n lo).length (XC_ cs n lo).length ∧ okX cP (flatP (soV out l).reverse) l l) <| .br (sameE eqP (flatP (soV (flatC (XC_ cs n lo)) (XC_ cs n lo).length).reverse) (flatP (soV out l).reverse) (XC_ cs n lo).length l) t lfF) (fun t => .br true t lfF) <| e7q cs n lo
noncomputable def h7q (lo : Int) (fb : Bool) (T : VT) : VT := aV (apE (FF_ cs n lo) (FN_ cs n lo)) <| vP (BokE (FT_ cs n lo) (FN_ cs n lo) (FN_ cs n lo) ∧ crE (FT_ cs n lo) (FN_ cs n lo) = 0) <| vP (P59 fb (FT_ cs n lo) (FN_ cs n lo) (FN_ cs n lo)) <| aV (apE (FF_ cs n lo) (FN_ cs n lo)) <| vP (P27 (FT_ cs n lo) (FN_ cs n lo) (FN_ cs n lo) lo) <|
  .br (ltF n (cond fb (XC_ cs n lo).length 0 : Nat)) lfF <| vP (TokE (flatP (AGq cs n lo)) (AGq cs n lo).length (AGq cs n lo).length) <| vP (TokE (FF_ cs n lo) (FN_ cs n lo) (FN_ cs n lo)) <| vP (okX cP (flatP (pts (flatP (AGq cs n lo)) (AGq cs n lo).length)) (AGq cs n lo).length (AGq cs n lo).length ∧ okX cP (flatP (pts (FF_ cs n lo) (FN_ cs n lo))) (FN_ cs n lo) (FN_ cs n lo)) <|
  .br (sameE eqP (flatP (pts (flatP (AGq cs n lo)) (AGq cs n lo).length)) (flatP (pts (FF_ cs n lo) (FN_ cs n lo))) (AGq cs n lo).length (FN_ cs n lo)) T lfF
noncomputable def t7q (f fb : Bool) (l : Nat) (out : List Value) : VT := .br (ltF 24 n) lfT <| vP (LokE cs n n) <| vP (n = n ∧ P36 f cs n) <| vP (okC cs n n) <| vP (RmE cs n n) <| aV (apE (RS_ cs n) (RN_ cs n)) <| vP (P27 (RT_ cs n) (RN_ cs n) (RN_ cs n) (lowQ x y)) <| aV (apE (RS_ cs n) (RN_ cs n)) <| vP (P27 (RT_ cs n) (RN_ cs n) (RN_ cs n) (higQ x y)) <|
  .br (ltF (RN_ cs n) (FN_ cs n (lowQ x y))) lfF <| .br (ltF (FN_ cs n (lowQ x y)) (FN_ cs n (higQ x y))) lfF <| h7q cs n (lowQ x y) fb (w7q cs n (lowQ x y) f fb l out)
theorem v7T (nx : Int → Int → Int) (j1 : Int) (l : Nat) (out : List Value) (q : OQ7) : (o7T cs n t s ex x y nx j1 l out q).vals = t7q cs n x y true true l out := by kernel_rfl
theorem v7M (nx : Int → Int → Int) (j1 : Int) (q : OQ7) : (o7M cs n t s ex x y nx j1 q).vals = t7q cs n x y true false 0 [] := by kernel_rfl
theorem v7F (nx : Int → Int → Int) (q : OQ7) : (o7F cs n t s ex x y nx q).vals = t7q cs n x y false false 0 [] := by kernel_rfl
theorem x7T (nx : Int → Int → Int) (j1 : Int) (l : Nat) (out : List Value) (q : OQ7) : o7T cs n t s ex x y nx j1 l out q = (o7T cs n t s ex x y nx j1 l out q).fix := by kernel_rfl
theorem x7M (nx : Int → Int → Int) (j1 : Int) (q : OQ7) : o7M cs n t s ex x y nx j1 q = (o7M cs n t s ex x y nx j1 q).fix := by kernel_rfl
theorem x7F (nx : Int → Int → Int) (q : OQ7) : o7F cs n t s ex x y nx q = (o7F cs n t s ex x y nx q).fix := by kernel_rfl
end
end Go.Proofs.Yteemponkignnhaa.Ways
set_option maxRecDepth 10000
noncomputable section
namespace Go.Proofs.Yteemponkignnhaa.Ways
open Go Go.Ex Go.RowKit Go.Turn Go.Ex.Dia Go.Ex.Pop
section
variable {cs : List Value} {n : Nat} {w : Int}
theorem Fx.ptR (h : Fx cs n 0) : pts (RT_ cs n) (RN_ cs n) = rvI cs n := by
  rw [h.rt]
  unfold RS_ RN_
  rw [pts_flat _ _ (Nat.le_refl _), List.take_length]
theorem Fx.fq (h : Fx cs n 0) : FQ cs n w = FP cs n w := by
  unfold FQ FP
  rw [h.ptR]
theorem Fx.ff (h : Fx cs n 0) : FF_ cs n w = flatP (FP cs n w) := by unfold FF_; rw [h.fq]
theorem Fx.fnl (h : Fx cs n 0) : FN_ cs n w = (FP cs n w).length := by unfold FN_; rw [h.fq]
theorem Fx.ft (h : Fx cs n 0) : FT_ cs n w = flatP (FP cs n w) := by
  unfold FT_
  rw [h.ff, h.fnl, List.drop_zero, List.take_of_length_le (by rw [flatP_len]; exact Nat.le_refl _)]
theorem Fx.fsub (_h : Fx cs n 0) : (FP cs n w).Sublist (rvI cs n) := by
  unfold FP FL
  exact List.filter_sublist
theorem Fx.fle (h : Fx cs n 0) : 1 ≤ (FP cs n w).length ∧ (FP cs n w).length ≤ RN_ cs n ∧ (FP cs n w).length ≤ 24 := by
  have h1 := (rd_sub (h.fp w).1).length_le
  have h2 := h.fsub (w := w)
  have h3 := h2.length_le
  have h4 := h.rn
  have h5 := h.n24
  have h6 : 1 ≤ (SS_ cs n).length := h.ld
  have h7 : (rvI cs n).length = RN_ cs n := rfl
  rw [List.length_reverse] at h1
  omega
theorem Fx.fok (h : Fx cs n 0) : okP (flatP (FP cs n w)) (FP cs n w).length (FP cs n w).length := okP_flat (by have := h.fle (w := w); omega)
theorem Fx.fcr (h : Fx cs n 0) : crE (flatP (FP cs n w)) (FP cs n w).length = 0 := (cr_flat (by have := h.fle (w := w); omega)).2 (h.fp w).2
theorem Fx.fct (_h : Fx cs n 0) : cnt (flatP (FP cs n w)) (FP cs n w).length = cntR (FP cs n w).reverse := by
  rw [cnt_R, pts_flat _ _ (Nat.le_refl _), List.take_length]
theorem Fx.xc (h : Fx cs n 0) : XC_ cs n w = (cntR (FP cs n w).reverse).2 := by
  unfold XC_
  rw [h.ft, h.fnl, h.fct]
theorem Fx.xn (h : Fx cs n 0) : XN_ cs n w = (cntR (FP cs n w).reverse).1.length := by
  unfold XN_
  rw [h.ft, h.fnl, h.fct]
theorem Fx.xlen (h : Fx cs n 0) : XN_ cs n w + 2 * (XC_ cs n w).length = (FP cs n w).length := by
  have := cnt_len (flatP (FP cs n w)) (FP cs n w).length
  rw [h.fct] at this
  rw [h.xc, h.xn]; exact this
theorem Fx.xv (h : Fx cs n 0) : vls (cntR (FP cs n w).reverse).1 = vls (SS_ cs n) := (h.fcnt w).1
theorem Fx.xld (h : Fx cs n 0) : XN_ cs n w = LD_ cs n := by
  rw [h.xn]
  have := congrArg List.length (h.xv (w := w))
  unfold vls at this
  rw [List.length_map, List.length_map] at this
  exact this
theorem Fx.xst (h : Fx cs n 0) : okP (XS_ cs n w) (XN_ cs n w) (XP_ cs n w) ∧ flatP (pts (XS_ cs n w) (XN_ cs n w)) = flatP (cntR (FP cs n w).reverse).1.reverse := by
  have h1 := h.fle (w := w)
  have := st_ok (h.fok (w := w)) h1.1 (by omega)
  unfold XS_ XN_ XP_
  rw [h.ft, h.fnl]
  refine ⟨this.1, this.2.1.trans ?_⟩
  unfold RR
  rw [h.fct]
theorem Fx.cvb (h : Fx cs n 0) : (cvs (XC_ cs n w)).Perm (cvs (big cs n w)) := by
  rw [h.xc]
  exact (h.fcnt w).2
theorem Fx.xbig (h : Fx cs n 0) : (XC_ cs n w).length = (big cs n w).length := by
  have := (h.cvb (w := w)).length_eq
  unfold cvs at this
  simpa using this
theorem Fx.xbd (h : Fx cs n 0) : ∀ q ∈ XC_ cs n w, Bd q.1 ∧ Bd q.2 := fun q hq => by
  have hp := (cntR_inv (h.fp w).2).1.perm
  rw [h.xc] at hq
  have m := both_mem hq
  exact ⟨(h.fp w).2.bd _ (hp.subset (List.mem_append_right _ m.1)), (h.fp w).2.bd _ (hp.subset (List.mem_append_right _ m.2))⟩
theorem Fx.xsz (h : Fx cs n 0) : ∀ q ∈ XC_ cs n w, w ≤ szY q := fun q hq => by
  have h1 : (min q.1.2 q.2.2, max q.1.2 q.2.2) ∈ cvs (XC_ cs n w) := List.mem_map.2 ⟨q, hq, rfl⟩
  have h2 := (h.cvb (w := w)).subset h1
  obtain ⟨r, hr, e⟩ := List.mem_map.1 h2
  obtain ⟨hr1, hr2⟩ := List.mem_filter.1 hr
  have hr2 : w ≤ szY r := of_decide_eq_true hr2
  obtain ⟨e1, e2⟩ := Prod.mk.inj e
  have b1 := h.cyB r hr1
  have b2 := h.xbd q hq
  rw [szY_rg b1.1 b1.2] at hr2
  rw [szY_rg b2.1 b2.2]
  unfold Go.Ex.Pop.rgP at hr2 ⊢
  split at hr2 <;> split <;> omega
theorem Fx.again (h : Fx cs n 0) : AGq cs n w = FP cs n w := by
  unfold AGq
  rw [h.ft, h.fnl, pts_flat _ _ (Nat.le_refl _), List.take_length]
  unfold FL
  rw [h.fct, ← h.xc]
  refine List.filter_eq_self.2 fun p _ => ?_
  rw [Bool.not_eq_true']
  unfold inC
  refine Bool.eq_false_iff.2 fun ht => ?_
  obtain ⟨q, hq, hq2⟩ := List.any_eq_true.1 ht
  have := h.xsz q hq
  rw [decide_eq_false (show ¬ szY q < w by omega)] at hq2
  cases hq2
theorem Fx.p27 (h : Fx cs n 0) (hw : 0 ≤ w ∧ w ≤ 65535) : P27 (RT_ cs n) (RN_ cs n) (RN_ cs n) w := by
  have h1 := h.rn
  have h2 := h.n24
  have h3 := h.fle (w := w)
  refine ⟨rfl, h1.1, ⟨rvI cs n, h.rt, rfl, by show RN_ cs n < _; omega⟩, by omega, ?_, ?_⟩
  · unfold e27
    rw [show RN_ cs n - 1 + 1 = RN_ cs n from by omega, h.rt, h.crR, show ckE w = 0 from if_pos ⟨by omega, by omega⟩]; rfl
  · rw [h.ptR]
    show FP cs n w ≠ []
    intro e
    rw [e] at h3
    simp at h3
theorem Fx.p27f (h : Fx cs n 0) (hw : 0 ≤ w ∧ w ≤ 65535) : P27 (FT_ cs n w) (FN_ cs n w) (FN_ cs n w) w := by
  have h3 := h.fle (w := w)
  rw [h.ft, h.fnl]
  refine ⟨rfl, h3.1, ⟨FP cs n w, rfl, rfl, by omega⟩, by omega, ?_, ?_⟩
  · unfold e27
    rw [show (FP cs n w).length - 1 + 1 = (FP cs n w).length from by omega, h.fcr, show ckE w = 0 from if_pos ⟨by omega, by omega⟩]; rfl
  · have := h.again (w := w)
    unfold AGq at this
    rw [h.ft, h.fnl] at this
    rw [this]
    intro e
    rw [e] at h3
    simp at h3
end
end Go.Proofs.Yteemponkignnhaa.Ways
set_option maxRecDepth 10000
noncomputable section
namespace Go.Proofs.Yteemponkignnhaa.Ways
open Go Go.Ex Go.RowKit Go.Turn Go.Ex.Dia Go.Ex.Pop
theorem ap_t {P : List Pt} {k : Nat} (hk : P.length = k) (h1 : 1 ≤ k) (h2 : k ≤ 24) : apE (flatP P) k = true := by
  unfold apE
  rw [flatP_len, hk]
  simp only [Bool.and_eq_true, decide_eq_true_eq, Bool.not_eq_true', decide_eq_false_iff_not]
  omega
theorem u16_wrap {a : Int} (h : 0 ≤ a ∧ a ≤ 65535) : IntKind.i64.wrap a = a := by
  have := wrapF_in (n := a) (by omega) (by omega)
  rwa [wrapF_eq] at this
section
variable {cs : List Value} {n : Nat} {w v x y : Int}
theorem low_bd (hx : 0 ≤ x ∧ x ≤ 65535) (hy : 0 ≤ y ∧ y ≤ 65535) : (0 ≤ lowQ x y ∧ lowQ x y ≤ 65535) ∧ (0 ≤ higQ x y ∧ higQ x y ≤ 65535) ∧ lowQ x y ≤ higQ x y := by
  unfold lowQ higQ
  rw [u16_wrap (by split <;> omega), u16_wrap (by split <;> omega)]
  split <;> split <;> omega
theorem Fx.fsub2 (_h : Fx cs n 0) (hw : w ≤ v) : (FP cs n v).Sublist (FP cs n w) := by
  have : FP cs n v = (FP cs n w).filter fun p => !inC v (cnt (flatP (rvI cs n)) (rvI cs n).length).2 p.1 := by
    unfold FP FL
    rw [List.filter_filter]
    refine List.filter_congr fun p _ => ?_
    rw [Bool.eq_iff_iff, Bool.and_eq_true]
    refine ⟨fun h1 => ⟨h1, ?_⟩, fun h1 => h1.1⟩
    rw [Bool.not_eq_true'] at h1 ⊢
    refine Bool.eq_false_iff.2 fun ht => ?_
    unfold inC at h1 ht
    obtain ⟨q, hq, hq2⟩ := List.any_eq_true.1 ht
    rw [Bool.and_eq_true, decide_eq_true_eq] at hq2
    have := List.any_eq_false.1 h1 q hq
    rw [decide_eq_true (show szY q < v by omega), Bool.true_and] at this
    exact this hq2.2
  rw [this]
  exact List.filter_sublist
theorem e7q_sel (h : Fx cs n 0) : (e7q cs n w).sel = some (b_ true) := by
  obtain ⟨s1, s2⟩ := h.xst (w := w)
  have hx := h.xld (w := w)
  have hl := h.xlen (w := w)
  have h1 := h.fle (w := w)
  have hd := h.ld
  have hlen : (cntR (FP cs n w).reverse).1.reverse.length = XN_ cs n w := by rw [List.length_reverse, h.xn]
  have hrow : okP (flatP (cntR (FP cs n w).reverse).1.reverse) (XN_ cs n w) (XN_ cs n w) := by
    have := okP_flat (a := (cntR (FP cs n w).reverse).1.reverse) (by omega)
    rwa [hlen] at this
  have hds : DS_ cs n = flatP (SS_ cs n).reverse := h.st.2
  have hdl : (SS_ cs n).reverse.length = LD_ cs n := by rw [List.length_reverse]; rfl
  unfold e7q
  rw [vP_sel ⟨s1, by omega, by omega⟩, s2, vP_sel ⟨hrow, by omega, by omega⟩, vP_sel ⟨h.okD, hd, by omega⟩, vP_sel ⟨lst_okI (by omega), lst_okI (by omega), hx, by omega, fun j hj => by
    rw [eI_lst hj, eI_lst (by omega)]
    have hv := congrArg List.reverse (h.xv (w := w))
    unfold vls at hv
    rw [← List.map_reverse, ← List.map_reverse] at hv
    have h2 : j < (cntR (FP cs n w).reverse).1.reverse.length := by omega
    have h3 : j < (SS_ cs n).reverse.length := by omega
    have e1 := congrArg (fun l : List Int => l[j]?) hv
    rw [List.getElem?_map, List.getElem?_map, List.getElem?_eq_getElem h2, List.getElem?_eq_getElem h3] at e1
    have e2 := Option.some.inj e1
    unfold pB
    rw [hds, show 0 + j * 2 + 1 = j * 2 + 1 from by omega, (flatP_get _ j h2).2, (flatP_get _ j h3).2]
    have g : ∀ {D : List Pt} (hj : j < D.length), Turn.at_ D j = D[j] := fun hj => by
      unfold Turn.at_
      rw [List.getD_eq_getElem?_getD, List.getElem?_eq_getElem hj]; rfl
    rw [g h2, g h3]
    exact e2⟩]; rfl
theorem w7q_sel (h : Fx cs n 0) {f fb : Bool} (hb : if fb = true then XC_ cs n w ≠ [] else XC_ cs n w = []) {l : Nat} {out : List Value} (hl : fb = true → l = (big cs n w).length ∧ out = flatC (big cs n w)) : (w7q cs n w f fb l out).sel = some (b_ true) := by
  have hxl := h.xlen (w := w)
  have hfl := h.fle (w := w)
  have hlt : (XC_ cs n w).length < 1000 := by omega
  have key : (cond fb (fun t => vP (CfE (flatC (XC_ cs n w)) (XC_ cs n w).length (XC_ cs n w).length) <| vP (V40 (flatC (XC_ cs n w)) (XC_ cs n w).length (XC_ cs n w).length) <| vP (V40 out l l) <|
      vP (okX cP (flatP (soV (flatC (XC_ cs n w)) (XC_ cs n w).length).reverse) (XC_ cs n w).length (XC_ cs n w).length ∧ okX cP (flatP (soV out l).reverse) l l) <| .br (sameE eqP (flatP (soV (flatC (XC_ cs n w)) (XC_ cs n w).length).reverse) (flatP (soV out l).reverse) (XC_ cs n w).length l) t lfF) (fun t => VT.br true t lfF) (e7q cs n w)).sel = some (b_ true) := by
    cases fb with
    | false => exact (vb_t rfl).trans (e7q_sel h)
    | true =>
      obtain ⟨rfl, rfl⟩ := hl rfl
      obtain ⟨e1, e2⟩ := vals_same (h.cvb (w := w))
      have hne : XC_ cs n w ≠ [] := hb
      have h1 : 1 ≤ (XC_ cs n w).length := by
        cases hq : XC_ cs n w with
        | nil => exact absurd hq hne
        | cons _ _ => simp
      refine (vP_sel ⟨okF_flat _ (by omega), h1, by omega, flatC_len _⟩).trans ((vP_sel ⟨okF_flat _ (by omega), h1, by omega⟩).trans ((vP_sel ⟨okF_flat _ (by omega), by omega, by omega⟩).trans
        ((vP_sel ⟨okX_fl (by rw [List.length_reverse, so_len]) (by omega), okX_fl (by rw [List.length_reverse, so_len]) (by omega)⟩).trans ((vb_t e2).trans (e7q_sel h)))))
  unfold w7q
  cases f with
  | true => exact (vb_t rfl).trans key
  | false => exact key
theorem t7q_sel (h : Fx cs n 0) (hx : 0 ≤ x ∧ x ≤ 65535) (hy : 0 ≤ y ∧ y ≤ 65535) {f fb : Bool} (hf : if f = true then CC_ cs n ≠ [] else CC_ cs n = []) (hb : if fb = true then XC_ cs n (lowQ x y) ≠ [] else XC_ cs n (lowQ x y) = []) {l : Nat} {out : List Value}
    (hl : fb = true → l = (big cs n (lowQ x y)).length ∧ out = flatC (big cs n (lowQ x y))) : (t7q cs n x y f fb l out).sel = some (b_ true) := by
  obtain ⟨b1, b2, b3⟩ := low_bd hx hy
  obtain ⟨k1, k2, k3⟩ := h.lok
  have hr := h.rn
  have h24 := h.n24
  have hap : apE (RS_ cs n) (RN_ cs n) = true := ap_t rfl hr.1 (by omega)
  have f1 := h.fle (w := lowQ x y)
  have f2 := h.fle (w := higQ x y)
  have f3 := (h.fsub2 b3).length_le
  have n1 := h.fnl (w := lowQ x y)
  have n2 := h.fnl (w := higQ x y)
  have hxl := h.xlen (w := lowQ x y)
  have hok := h.fok (w := lowQ x y)
  have hap2 : apE (FF_ cs n (lowQ x y)) (FN_ cs n (lowQ x y)) = true := by rw [h.ff]; exact ap_t n1.symm (by omega) (by omega)
  have hc0 : cond fb (XC_ cs n (lowQ x y)).length 0 ≤ n := by cases fb <;> simp <;> omega
  unfold t7q h7q
  rw [vb_f (by rw [ltF_eq]; exact decide_eq_false (by omega)), vP_sel k1, vP_sel ⟨rfl, h, hf⟩, vP_sel k2, vP_sel k3, aV_sel hap, vP_sel (h.p27 b1), aV_sel hap, vP_sel (h.p27 b2), vb_f (by rw [ltF_eq]; exact decide_eq_false (by omega)), vb_f (by rw [ltF_eq]; exact decide_eq_false (by omega)),
    aV_sel hap2, vP_sel (by rw [h.ft, h.fnl]; exact ⟨⟨hok, by omega⟩, h.fcr⟩), vP_sel (by
      refine ⟨by rw [h.ft, h.fnl]; exact hok, by omega, by omega, ?_⟩
      exact hb), aV_sel hap2, vP_sel (h.p27f b1), vb_f (by rw [ltF_eq]; exact decide_eq_false (by omega)), h.again, vP_sel ⟨hok, by omega, by omega⟩, h.ff, n1, vP_sel ⟨hok, by omega, by omega⟩, pts_flat _ _ (Nat.le_refl _), List.take_length,
    vP_sel ⟨okX_fl rfl (by omega), okX_fl rfl (by omega)⟩, vb_t (same_refl fun j _ => eqP_refl _ j)]
  exact w7q_sel h hb hl
end
end Go.Proofs.Yteemponkignnhaa.Ways
set_option maxRecDepth 10000
noncomputable section
namespace Go.Proofs.Yteemponkignnhaa.Ways
open Go Go.Ex Go.RowKit Go.Turn Go.Ex.Dia Go.Ex.Pop
theorem flWq_t {l : Nat} {b : List Value} (h : b.length = l * 4) (hl : l < 1000000) : flWq l b = true := by
  unfold flWq
  rw [decide_eq_true rfl, decide_eq_true h, decide_eq_true (by omega)]; rfl
section
variable {cs : List Value} {n : Nat} {x y : Int}
def sWq (C : List Cy) (lo : Int) (j : Nat) : KWq := match (C.take j).filter fun q => decide (lo ≤ szY q) with
  | [] => .z j
  | q :: B => .m j (B.length + 1) (flatC (q :: B))
theorem sWq_nil {C : List Cy} {lo : Int} {j : Nat} (h : ((C.take j).filter fun q => decide (lo ≤ szY q)) = []) : sWq C lo j = .z j := by unfold sWq; rw [h]
theorem sWq_ne {C : List Cy} {lo : Int} {j : Nat} {B : List Cy} (h : ((C.take j).filter fun q => decide (lo ≤ szY q)) = B) (hB : B ≠ []) : sWq C lo j = .m j B.length (flatC B) := by
  unfold sWq
  rw [h]
  cases B with
  | nil => exact absurd rfl hB
  | cons q B => rfl
theorem takeF {C : List Cy} {lo : Int} {j : Nat} (h : j < C.length) : ((C.take (j + 1)).filter fun q => decide (lo ≤ szY q)) = ((C.take j).filter fun q => decide (lo ≤ szY q)) ++ (if lo ≤ szY C[j] then [C[j]] else []) := by
  rw [List.take_add_one, List.getElem?_eq_getElem h, List.filter_append]
  congr 1
  show List.filter _ [C[j]] = _
  rw [List.filter_cons]
  by_cases hq : lo ≤ szY C[j]
  · rw [if_pos (decide_eq_true hq), if_pos hq]; rfl
  · rw [if_neg (by rw [decide_eq_true_eq]; exact hq), if_neg hq]; rfl
theorem sWq_go {C : List Cy} {m : QD} {fb : Bool} (hc : m.cy = flatC C) (hk : m.kc = C.length) (hC : C.length < 1000000) {j : Nat} (hj : j < C.length) : (stWq m fb (sWq C m.lo j)).sel = some (.inl (sWq C m.lo (j + 1))) := by
  obtain ⟨f0, f1, f2, f3⟩ := f_fl hj
  have hsz : szWq m.cy (j : Int) = szY C[j] := by
    unfold szWq szY szC
    rw [hc, show ((j : Nat) : Int).toNat = j from rfl, f2, f3]
  have hrw : rwWq m.cy (j : Int) = flatC [C[j]] := by
    unfold rwWq
    rw [hc, show ((j : Nat) : Int).toNat = j from rfl, f0, f1, f2, f3]; rfl
  have hcf : cF m.cy (j : Int) = true := by rw [hc]; exact (okF_flat C hC).2.2.2 j hj
  have hb : bnd_ (j : Int) m.kc m.kc = true := by rw [hk]; exact bnd_t hj (Nat.le_refl _)
  have hlt : ltF (j : Int) (m.kc : Int) = true := by rw [hk, ltF_eq]; exact decide_eq_true (by omega)
  have hw := wsucc (j := j) (by omega)
  have ht := takeF (lo := m.lo) hj
  by_cases hn : ((C.take j).filter fun q => decide (m.lo ≤ szY q)) = []
  · rw [sWq_nil hn]
    rw [hn, List.nil_append] at ht
    show (SS.br _ _ _).sel = _
    rw [br_t hlt, askS_sel hb, askS_sel hcf, hsz, hrw, hw]
    by_cases hq : m.lo ≤ szY C[j]
    · rw [br_t (by rw [leF_eq]; exact decide_eq_true hq), sWq_ne (ht.trans (if_pos hq)) (by simp)]; rfl
    · rw [br_f (by rw [leF_eq]; exact decide_eq_false hq), sWq_nil (ht.trans (if_neg hq))]; rfl
  · obtain ⟨B, hB⟩ : ∃ B, B = ((C.take j).filter fun q => decide (m.lo ≤ szY q)) := ⟨_, rfl⟩
    rw [sWq_ne hB.symm (by rw [hB]; exact hn)]
    rw [← hB] at ht hn
    have hBl : B.length < 1000000 := by
      have h1 := List.length_filter_le (fun q => decide (m.lo ≤ szY q)) (C.take j)
      rw [← hB, List.length_take] at h1
      omega
    show (SS.br _ _ _).sel = _
    rw [br_t hlt, askS_sel hb, askS_sel hcf, hsz, hrw, hw]
    by_cases hq : m.lo ≤ szY C[j]
    · rw [br_t (by rw [leF_eq]; exact decide_eq_true hq), askS_sel (flWq_t (flatC_len B) hBl), sWq_ne (ht.trans (by rw [if_pos hq])) (by simp), flatC_app, List.length_append]; rfl
    · rw [br_f (by rw [leF_eq]; exact decide_eq_false hq), sWq_ne (ht.trans (by rw [if_neg hq, List.append_nil])) hn]; rfl
theorem sWq_end {C : List Cy} {m : QD} {fb : Bool} (hk : m.kc = C.length) : (stWq m fb (sWq C m.lo C.length)).sel = some (.inr 0) := by
  have hlt : ltF (C.length : Int) (m.kc : Int) = false := by rw [hk, ltF_eq]; exact decide_eq_false (by omega)
  unfold sWq
  split
  · show (SS.br _ _ _).sel = _
    rw [br_f hlt]; rfl
  · show (SS.br _ _ _).sel = _
    rw [br_f hlt]; rfl
theorem runWq {C : List Cy} {m : QD} {fb : Bool} (hc : m.cy = flatC C) (hk : m.kc = C.length) (hC : C.length < 1000000) : runS (stWq m fb) (C.length + 1) (.z 0) = some (0, sWq C m.lo C.length) :=
  run_all (step := stWq m fb) (st := sWq C m.lo) (a := 0) C.length (fun _ hj => sWq_go hc hk hC hj) (sWq_end hk)
end
section
variable {F G : List Pt} {f fb : Bool}
theorem greedy {g : Pt} {G' : List Pt} : ∀ {L : List Pt}, (g :: G').Sublist L → (L.findIdx fun p => decide (p = g)) < L.length ∧ Turn.at_ L (L.findIdx fun p => decide (p = g)) = g ∧ G'.Sublist (L.drop ((L.findIdx fun p => decide (p = g)) + 1)) ∧ ∀ k, k < (L.findIdx fun p => decide (p = g)) → Turn.at_ L k ≠ g
  | [], h => by cases h
  | x :: L, h => by
    rw [List.findIdx_cons]
    by_cases hx : x = g
    · rw [decide_eq_true hx]
      refine ⟨Nat.succ_pos _, hx, ?_, fun k hk => absurd hk (Nat.not_lt_zero _)⟩
      show G'.Sublist L
      cases h with
      | cons _ h => exact (List.sublist_cons_self g G').trans h
      | cons_cons _ h => exact h
    · rw [decide_eq_false hx]
      have h' : (g :: G').Sublist L := by
        cases h with
        | cons _ h => exact h
        | cons_cons _ _ => exact absurd rfl hx
      obtain ⟨a1, a2, a3, a4⟩ := greedy h'
      refine ⟨Nat.succ_lt_succ a1, a2, a3, fun k hk => ?_⟩
      cases k with
      | zero => exact hx
      | succ k => exact a4 k (Nat.lt_of_succ_lt_succ hk)
theorem at_drop (L : List Pt) (w k : Nat) : Turn.at_ (L.drop w) k = Turn.at_ L (w + k) := by
  unfold Turn.at_
  rw [List.getD_eq_getElem?_getD, List.getD_eq_getElem?_getD, List.getElem?_drop]
theorem pAB {L : List Pt} {j : Nat} (h : j < L.length) : pA (flatP L) j = (Turn.at_ L j).1 ∧ pB (flatP L) j = (Turn.at_ L j).2 := by
  unfold pA pB
  rw [show 0 + j * 2 = j * 2 from by omega, (flatP_get L j h).1, (flatP_get L j h).2]
  exact ⟨rfl, rfl⟩
theorem neQ_iff {j : Nat} (h : j < F.length) (g : Pt) : neQ (flatP F) g.1 g.2 (j : Int) = decide (Turn.at_ F j ≠ g) := by
  unfold neQ
  rw [show ((j : Nat) : Int).toNat = j from rfl, (pAB h).1, (pAB h).2]
  by_cases e : Turn.at_ F j = g
  · rw [e, decide_eq_false (fun h => h rfl)]
    simp
  · rw [decide_eq_true e, Bool.not_eq_true', Bool.and_true, Bool.and_eq_false_iff]
    by_cases e1 : (Turn.at_ F j).1 = g.1
    · refine .inr (beq_false_of_ne fun e2 => e (Prod.ext e1 e2))
    · exact .inl (beq_false_of_ne e1)
theorem run_in (hF : F.length < 1000000) (g : Pt) : ∀ (d w : Nat), w + d ≤ F.length → (∀ k, w ≤ k → k < w + d → Turn.at_ F k ≠ g) → (w + d < F.length → Turn.at_ F (w + d) = g) → ∃ m, runS (stIq (flatP F) F.length f fb g.1 g.2) m (w : Int) = some (0, ((w + d : Nat) : Int))
  | 0, w, hl, _, he => by
    refine ⟨1, runS_done ?_⟩
    show (SS.br _ _ _).sel = _
    by_cases hw : w < F.length
    · rw [br_t (by rw [ltF_eq]; exact decide_eq_true (by omega)), askS_sel (bnd_t hw (Nat.le_refl _)), askS_sel (cP_t (okP_flat hF) hw), br_f (by rw [neQ_iff hw]; exact decide_eq_false (fun h => h (he hw)))]; rfl
    · rw [br_f (by rw [ltF_eq]; exact decide_eq_false (by omega))]; rfl
  | d + 1, w, hl, hn, he => by
    obtain ⟨m, hm⟩ := run_in hF g d (w + 1) (by omega) (fun k _ _ => hn k (by omega) (by omega)) (fun h => by rw [show w + 1 + d = w + (d + 1) from by omega] at h ⊢; exact he h)
    refine ⟨m + 1, ?_⟩
    have hw : w < F.length := by omega
    rw [runS_next (s' := ((w + 1 : Nat) : Int)) (by
      show (SS.br _ _ _).sel = _
      rw [br_t (by rw [ltF_eq]; exact decide_eq_true (by omega)), askS_sel (bnd_t hw (Nat.le_refl _)), askS_sel (cP_t (okP_flat hF) hw), br_t (by rw [neQ_iff hw]; exact decide_eq_true (hn w (Nat.le_refl _) (by omega))), wsucc (by omega)]; rfl), hm, show w + 1 + d = w + (d + 1) from by omega]
def nxF (F G : List Pt) (a b : Int) : Int := ((b.toNat + (F.drop b.toNat).findIdx fun p => decide (p = Turn.at_ G a.toNat) : Nat) : Int)
def wqF (F G : List Pt) : Nat → Nat
  | 0 => 0
  | j + 1 => (wqF F G j + (F.drop (wqF F G j)).findIdx fun p => decide (p = Turn.at_ G j)) + 1
def sOq (F G : List Pt) (j : Nat) : OQ7 := ⟨j, (wqF F G j : Nat), nxF F G j (wqF F G j : Nat)⟩
theorem at_get {L : List Pt} {j : Nat} (h : j < L.length) : Turn.at_ L j = L[j] := by
  unfold Turn.at_
  rw [List.getD_eq_getElem?_getD, List.getElem?_eq_getElem h]; rfl
theorem wq_inv (h : G.Sublist F) : ∀ j, j ≤ G.length → (G.drop j).Sublist (F.drop (wqF F G j)) ∧ wqF F G j ≤ F.length
  | 0, _ => ⟨h, Nat.zero_le _⟩
  | j + 1, hj => by
    obtain ⟨h1, h2⟩ := wq_inv h j (by omega)
    have hj' : j < G.length := hj
    rw [List.drop_eq_getElem_cons hj', ← at_get hj'] at h1
    obtain ⟨a1, a2, a3, _⟩ := greedy h1
    rw [List.length_drop] at a1
    rw [List.drop_drop] at a3
    refine ⟨a3, ?_⟩
    show _ + 1 ≤ _
    omega
theorem sOq_go (hF : F.length < 1000000) (hG : G.length < 1000000) (h : G.Sublist F) {j : Nat} (hj : j < G.length) : (stOq (flatP F) (flatP G) F.length G.length f fb (nxF F G) (sOq F G j)).sel = some (.inl (sOq F G (j + 1))) := by
  obtain ⟨h1, h2⟩ := wq_inv h j (by omega)
  rw [List.drop_eq_getElem_cons hj, ← at_get hj] at h1
  obtain ⟨a1, a2, a3, a4⟩ := greedy h1
  obtain ⟨d, hd⟩ : ∃ d, d = (F.drop (wqF F G j)).findIdx fun p => decide (p = Turn.at_ G j) := ⟨_, rfl⟩
  rw [← hd] at a1 a2 a3 a4
  rw [List.length_drop] at a1
  rw [at_drop] at a2
  have e1 : nxF F G (j : Int) (wqF F G j : Nat) = ((wqF F G j + d : Nat) : Int) := by
    unfold nxF
    rw [show ((j : Nat) : Int).toNat = j from rfl, show ((wqF F G j : Nat) : Int).toNat = wqF F G j from rfl, ← hd]
  have e2 : wqF F G (j + 1) = wqF F G j + d + 1 := by
    show (wqF F G j + (F.drop (wqF F G j)).findIdx fun p => decide (p = Turn.at_ G j)) + 1 = _
    rw [← hd]
  have hend : endIq (flatP F) (flatP G) F.length f fb (j : Int) (wqF F G j : Nat) (nxF F G (j : Int) (wqF F G j : Nat)) := by
    unfold endIq
    rw [e1, show ((j : Nat) : Int).toNat = j from rfl, (pAB hj).1, (pAB hj).2]
    exact run_in hF (Turn.at_ G j) d (wqF F G j) (by omega) (fun k k1 k2 => by
      have := a4 (k - wqF F G j) (by omega)
      rwa [at_drop, show wqF F G j + (k - wqF F G j) = k from by omega] at this) (fun _ => a2)
  unfold sOq stOq
  dsimp only
  rw [br_t (by rw [ltF_eq]; exact decide_eq_true (by omega)), askS_sel (bnd_t hj (Nat.le_refl _)), askS_sel (cP_t (okP_flat hG) hj), askS_sel (tru_iff.2 hend), askS_sel rfl, br_f (by rw [eqF_d, e1]; exact decide_eq_false (by omega)), wsucc (by omega), e1, wsucc (by omega), ← e2]; rfl
theorem runOq (hF : F.length < 1000000) (hG : G.length < 1000000) (h : G.Sublist F) : runS (stOq (flatP F) (flatP G) F.length G.length f fb (nxF F G)) (G.length + 1) ⟨0, 0, nxF F G 0 0⟩ = some (0, sOq F G G.length) :=
  run_all (step := stOq (flatP F) (flatP G) F.length G.length f fb (nxF F G)) (st := sOq F G) (a := 0) G.length (fun _ hj => sOq_go hF hG h hj) (by
    unfold sOq stOq
    dsimp only
    rw [br_f (by rw [ltF_eq]; exact decide_eq_false (by omega))]; rfl)
end
end Go.Proofs.Yteemponkignnhaa.Ways
set_option maxRecDepth 10000
noncomputable section
namespace Go.Proofs.Yteemponkignnhaa.Ways
open Go Go.Ex Go.RowKit Go.Turn Go.Ex.Dia Go.Ex.Pop
theorem okI0q : okI [] 0 0 := ⟨rfl, by decide, by decide, fun j hj => absurd hj (by omega)⟩
noncomputable def C7b_ : Cfg := ⟨ext TM9 15 (autoE sp13 [] (heapL deads)), at_ [(7, 32), (7, 37)] .bool (at_ [(7, 53)] (.ints []) no_), off_, noL⟩
noncomputable def T7z_ : Tb := ext (ext (ext TM9 13 (newE (sp11 true true) [] (heapL deads))) 14 (xE 0 rd0 sp12 [] (heapL deads))) 15 (autoE (sp13g true) [] (heapL deads))
theorem ts7z {G : Nat} (haw : Pure Try.prog Hd 11 [] (b_ true)) : TSound Try.prog G T7z_ := (((tsm9 haw).new (f' := 13) (c11 true true)).x c12).auto (c13g 15 (.inl rfl) true)
section
variable (cs : List Value) (n t s : Nat) (ex : Bool) (x y : Int)
noncomputable def o7b_ : Out QRes := execO Try.prog 2 C7b_ 60 (.call 7 ⟨[sl 1 0 n n, ag [.int .u16 x, .int .u16 y]]⟩ (heapL (deads ++ [.cells cs t s ex])))
theorem v7b_ : (o7b_ cs n t s ex x y).vals = (.br (ltF 24 n) lfT <| vP (okI cs n n) <| .br (!eqF (clE cs n) 0) lfT .fail) := by kernel_rfl
theorem x7b_ : o7b_ cs n t s ex x y = (o7b_ cs n t s ex x y).fix := by kernel_rfl
noncomputable def o7z_ : Out QRes := execO Try.prog 2 ⟨T7z_, at_ [(29, 19)] .bool (at_ [(29, 20)] (.ints []) no_), off_, noL⟩ 300 (.call 7 ⟨[sl 1 0 0 0, ag [.int .u16 x, .int .u16 y]]⟩ (heapL (deads ++ [.cells [] t s ex])))
noncomputable def flz (w : Int) (T : VT) : VT := vP (BokE [] 0 0) <| vP (okI [i 0, i (ckE w)] 2 2) <| .br (!eqF (fst2 0 (ckE w)) 0) .fail T
noncomputable def t7z_ : VT := vP (LokE [] 0 0) <| vP (okC [] 0 0) <| vP (RzE [] 0 0) <| vP (okC [] 0 0) <| vP (RzE [] 0 0) <| flz (lowQ x y) <| flz (higQ x y) <| vP (BokE [] 0 0) <| flz (lowQ x y) lfT
theorem v7z_ : (o7z_ t s ex x y).vals = t7z_ x y := by kernel_rfl
theorem x7z_ : o7z_ t s ex x y = (o7z_ t s ex x y).fix := by kernel_rfl
end
section
variable {cs : List Value} {n t s : Nat} {ex : Bool} {w x y : Int}
theorem flz_sel (hw : 0 ≤ w ∧ w ≤ 65535) {T : VT} : (flz w T).sel = T.sel := by
  unfold flz
  rw [vP_sel ⟨okP_flat (a := []) (by decide), by decide⟩, vP_sel (okI2 _ _), show ckE w = 0 from if_pos ⟨by omega, by omega⟩, vb_f (by rfl)]
theorem qd_flat (h : Fx cs n 0) : (m7 cs n x y).Flat where
  cy := flatC_flat _
  d := by show (DS_ cs n).all Ex.flat = true; rw [h.st.2]; exact flatP_flat _
  ff := flatP_flat _
  gg := flatP_flat _
  x := flatC_flat _
  y := (h.xst (w := lowQ x y)).1.1
theorem ls7o (haw : Pure Try.prog Hd 11 [] (b_ true)) (h : Fx cs n 0) (hx : 0 ≤ x ∧ x ≤ 65535) (hy : 0 ≤ y ∧ y ≤ 65535) (f fb : Bool) {L : LTab} (hL : LSound Try.prog 2 L) :
    LSound Try.prog 2 (L7bq cs n x y f fb (nxF (FP cs n (lowQ x y)) (FP cs n (higQ x y))) (0, sOq (FP cs n (lowQ x y)) (FP cs n (higQ x y)) (FP cs n (higQ x y)).length) L) := by
  obtain ⟨b1, b2, b3⟩ := low_bd hx hy
  have l1 := h.fle (w := lowQ x y)
  have l2 := h.fle (w := higQ x y)
  have hr := runOq (F := FP cs n (lowQ x y)) (G := FP cs n (higQ x y)) (f := f) (fb := fb) (by omega) (by omega) (h.fsub2 b3)
  unfold L7bq
  rw [h.ff, h.ff, h.fnl, h.fnl]
  exact (LQo haw (flatP_flat _) (flatP_flat _) f fb).table (id := 25) hL (by cases f <;> cases fb <;> decide) trivial hr (by cases f <;> cases fb <;> kernel_rfl) [0]
theorem law7_pos (haw : Pure Try.prog Hd 11 [] (b_ true)) (hc : rawI cs n) (hx : 0 ≤ x ∧ x ≤ 65535) (hy : 0 ≤ y ∧ y ≤ 65535) (h1 : 1 ≤ n) :
    ∃ H', Sound Try.prog 2 (.call 7 ⟨[sl 1 0 n n, ag [.int .u16 x, .int .u16 y]]⟩ (heapL (deads ++ [.cells cs t s ex]))) (.val (b_ true) H') := by
  have fin : (o7b_ cs n t s ex x y).vals.sel = some (b_ true) → ∃ H', Sound Try.prog 2 (.call 7 ⟨[sl 1 0 n n, ag [.int .u16 x, .int .u16 y]]⟩ (heapL (deads ++ [.cells cs t s ex]))) (.val (b_ true) H') := fun hs => by
    obtain ⟨H', h'⟩ := Out.vals_sel (x7b_ cs n t s ex x y) hs
    exact ⟨H', execO_sound (C := C7b_) ((tsm9 haw).auto c13) .none 60 _ _ h'⟩
  by_cases n24 : 24 < n
  · exact fin (by rw [v7b_, vb_t (by rw [ltF_eq]; exact decide_eq_true (by omega))]; rfl)
  have hok : okI cs n n := ⟨hc.1, Nat.le_refl _, by omega, hc.2.2⟩
  by_cases hcl : clE cs n = 0
  case neg => exact fin (by rw [v7b_, vb_f (by rw [ltF_eq]; exact decide_eq_false (by omega)), vP_sel hok, vb_t (by rw [eqF_d, decide_eq_false hcl]; rfl)]; rfl)
  have F : Fx cs n 0 := ⟨hok, hc.2.1, h1, by omega, hcl, by omega⟩
  have hlt : (CC_ cs n).length < 1000000 := F.lt.2.1
  have hrun : ∀ fb, runS (stWq (m7 cs n x y) fb) ((CC_ cs n).length + 1) (.z 0) = some (0, sWq (CC_ cs n) (lowQ x y) (CC_ cs n).length) := fun fb => runWq (m := m7 cs n x y) rfl rfl hlt
  have hbig : (((CC_ cs n).take (CC_ cs n).length).filter fun q => decide (lowQ x y ≤ szY q)) = big cs n (lowQ x y) := by rw [List.take_length]; rfl
  have hL : ∀ (fb : Bool) (r : KWq), sWq (CC_ cs n) (lowQ x y) (CC_ cs n).length = r → LSound Try.prog 2 (L71 cs n x y fb (0, r)) := fun fb r hr => by
    have hq := hrun fb
    rw [hr] at hq
    exact (LQ1 haw (qd_flat F) fb).table (id := 16) (s0 := .z 0) .none (by cases fb <;> decide) trivial hq (by cases fb <;> kernel_rfl) [0]
  have hlen := F.xbig (w := lowQ x y)
  by_cases hC : CC_ cs n = []
  · have hb0 : big cs n (lowQ x y) = [] := by unfold big; rw [hC]; rfl
    have hX : XC_ cs n (lowQ x y) = [] := List.eq_nil_of_length_eq_zero (by rw [hlen, hb0]; rfl)
    obtain ⟨H', h'⟩ := Out.vals_sel (x7F cs n t s ex x y (nxF (FP cs n (lowQ x y)) (FP cs n (higQ x y))) (sOq (FP cs n (lowQ x y)) (FP cs n (higQ x y)) (FP cs n (higQ x y)).length)) (v := b_ true) (by
      rw [v7F]; exact t7q_sel F hx hy (f := false) (fb := false) hC hX (fun h => by cases h))
    exact ⟨H', execO_sound (tsQ7 haw false false) (ls7o haw F hx hy false false .none) 120 _ _ h'⟩
  · by_cases hB : big cs n (lowQ x y) = []
    · have hX : XC_ cs n (lowQ x y) = [] := List.eq_nil_of_length_eq_zero (by rw [hlen, hB]; rfl)
      obtain ⟨H', h'⟩ := Out.vals_sel (x7M cs n t s ex x y (nxF (FP cs n (lowQ x y)) (FP cs n (higQ x y))) ((CC_ cs n).length : Int) (sOq (FP cs n (lowQ x y)) (FP cs n (higQ x y)) (FP cs n (higQ x y)).length)) (v := b_ true) (by
        rw [v7M]; exact t7q_sel F hx hy (f := true) (fb := false) hC hX (fun h => by cases h))
      exact ⟨H', execO_sound (tsQ7 haw true false) (ls7o haw F hx hy true false (hL false _ (sWq_nil (hbig.trans hB)))) 120 _ _ h'⟩
    · have hX : XC_ cs n (lowQ x y) ≠ [] := fun e => hB (List.eq_nil_of_length_eq_zero (by rw [← hlen, e]; rfl))
      obtain ⟨H', h'⟩ := Out.vals_sel (x7T cs n t s ex x y (nxF (FP cs n (lowQ x y)) (FP cs n (higQ x y))) ((CC_ cs n).length : Int) (big cs n (lowQ x y)).length (flatC (big cs n (lowQ x y))) (sOq (FP cs n (lowQ x y)) (FP cs n (higQ x y)) (FP cs n (higQ x y)).length)) (v := b_ true) (by
        rw [v7T]; exact t7q_sel F hx hy (f := true) (fb := true) hC hX (fun _ => ⟨rfl, rfl⟩))
      exact ⟨H', execO_sound (tsQ7 haw true true) (ls7o haw F hx hy true true (hL true _ (sWq_ne hbig hB))) 120 _ _ h'⟩
theorem law7_zero (haw : Pure Try.prog Hd 11 [] (b_ true)) (hc : rawI cs 0) (hx : 0 ≤ x ∧ x ≤ 65535) (hy : 0 ≤ y ∧ y ≤ 65535) :
    ∃ H', Sound Try.prog 2 (.call 7 ⟨[sl 1 0 0 0, ag [.int .u16 x, .int .u16 y]]⟩ (heapL (deads ++ [.cells cs t s ex]))) (.val (b_ true) H') := by
  have hcs : cs = [] := List.eq_nil_of_length_eq_zero (by have := hc.2.1; omega)
  subst hcs
  obtain ⟨b1, b2, _⟩ := low_bd hx hy
  obtain ⟨H', h'⟩ := Out.vals_sel (x7z_ t s ex x y) (v := b_ true) (by
    rw [v7z_]
    have hlk : LokE [] 0 0 := ⟨okI0q, by decide⟩
    have hoc : okC [] 0 0 := ⟨okI0q, rfl, by omega⟩
    have hrz : RzE [] 0 0 := ⟨⟨okI0q, by decide⟩, by decide⟩
    unfold t7z_
    rw [vP_sel hlk, vP_sel hoc, vP_sel hrz, vP_sel hoc, vP_sel hrz, flz_sel b1, flz_sel b2, vP_sel ⟨okP_flat (a := []) (by decide), by decide⟩, flz_sel b1]; rfl)
  exact ⟨H', execO_sound (C := ⟨T7z_, at_ [(29, 19)] .bool (at_ [(29, 20)] (.ints []) no_), off_, noL⟩) (ts7z haw) .none 300 _ _ h'⟩
theorem law_true7L (haw : Pure Try.prog Hd 11 [] (b_ true)) (hc : rawI cs n) (hx : 0 ≤ x ∧ x ≤ 65535) (hy : 0 ≤ y ∧ y ≤ 65535) :
    ∃ H', Sound Try.prog 2 (.call 7 ⟨[sl 1 0 n n, ag [.int .u16 x, .int .u16 y]]⟩ (heapL (deads ++ [.cells cs t s ex]))) (.val (b_ true) H') := by
  by_cases h1 : 1 ≤ n
  · exact law7_pos haw hc hx hy h1
  · obtain rfl : n = 0 := by omega
    exact law7_zero haw hc hx hy
end
end Go.Proofs.Yteemponkignnhaa.Ways
