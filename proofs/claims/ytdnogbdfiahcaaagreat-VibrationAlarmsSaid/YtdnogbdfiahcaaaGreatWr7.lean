import Derived.Test.YtdnogbdfiahcaaaGreatWr6
noncomputable section
namespace Go.Proofs.YtdnogbdfiahcaaaGreat.Ways
open Go Go.Ex Go.RowKit
/-! ### the law's table: which way each call goes is a parameter -/
def optP (b : Bool) (x y : Option (Prop × Value)) : Option (Prop × Value) := cond b x y
def CPok (cs : List Value) (n : Nat) (x y : Int) : Prop := cs.all Ex.flat = true ∧ cPe n x y = 0
def CPno (cs : List Value) (n : Nat) (x y : Int) : Prop := cs.all Ex.flat = true ∧ cPe n x y ≠ 0
def sp20g (g : Bool) : ESpec := fun al css => match al, css with
  | [.slice (some ⟨1, 0, none⟩) n _, .int .i64 x, .int .i64 y], [cs] => optP g (some (CPok cs n x y, i 0)) (some (CPno cs n x y, i (cPe n x y)))
  | _, _ => none
theorem c20g (g : Bool) : ∀ al css os p v, sp20g g al css = some (p, v) → p → Blks css os → (∀ cs ∈ css, cs.all Ex.flat = true) ∧ clean 6 v = true ∧ ∃ H', Sound Tryz.prog (gl + css.length) (.call 20 ⟨al⟩ (heapL (deads ++ os))) (.val v H') := by
  intro al css os p v hs hp hb
  unfold sp20g at hs
  split at hs
  case h_2 => cases hs
  rename_i n c x y cs
  have key := fun h => c20 [sl 1 0 n c, i x, i y] [cs] os (cs.all Ex.flat = true) (i (cPe n x y)) rfl h hb
  cases g with
  | true => cases hs; have h := key hp.1; rwa [hp.2] at h
  | false => cases hs; exact key hp.1
def CLok (bs ss : List Value) (n m : Nat) : Prop := (bs.all Ex.flat = true ∧ ss.all Ex.flat = true) ∧ cLa n m = 0
def CLno (bs ss : List Value) (n m : Nat) : Prop := (bs.all Ex.flat = true ∧ ss.all Ex.flat = true) ∧ cLa n m ≠ 0
def sp22g (g : Bool) : ESpec := fun al css => match al, css with
  | [.slice (some ⟨1, 0, none⟩) n _, .slice (some ⟨2, 0, none⟩) m _], [bs, ss] => optP g (some (CLok bs ss n m, i 0)) (some (CLno bs ss n m, i (cLa n m)))
  | _, _ => none
theorem c22g (g : Bool) : ∀ al css os p v, sp22g g al css = some (p, v) → p → Blks css os → (∀ cs ∈ css, cs.all Ex.flat = true) ∧ clean 6 v = true ∧ ∃ H', Sound Tryz.prog (gl + css.length) (.call 22 ⟨al⟩ (heapL (deads ++ os))) (.val v H') := by
  intro al css os p v hs hp hb
  unfold sp22g at hs
  split at hs
  case h_2 => cases hs
  rename_i n c m c2 bs ss
  have key := fun h => c22 [sl 1 0 n c, sl 2 0 m c2] [bs, ss] os (bs.all Ex.flat = true ∧ ss.all Ex.flat = true) (i (cLa n m)) rfl h hb
  cases g with
  | true => cases hs; have h := key hp.1; rwa [hp.2] at h
  | false => cases hs; exact key hp.1
def CVok (L : List Lx) (m : Int) : Prop := okL L ∧ cvE m L = 0
def CVno (L : List Lx) (m : Int) : Prop := okL L ∧ cvE m L ≠ 0
def optX (b : Bool) (x y : Option (Prop × NRes)) : Option (Prop × NRes) := cond b x y
def sp21g (g : Bool) : XSpec := fun al os => match al, os with
  | [.slice (some ⟨1, 0, none⟩) k c, .int .i64 m], .cells vs _ _ _ :: q => match mkL 2 vs q with
    | some L => optX g (ifB (lenB k c L) (CVok L m, .old (i 0))) (ifB (lenB k c L) (CVno L m, .old (i (cvE m L))))
    | none => none
  | _, _ => none
theorem c21g (g : Bool) : ∀ al os p v, sp21g g al os = some (p, v) → p → (∀ o ∈ os.drop 1, FlatO o) ∧ v.OkX Tryz.prog 21 al deads os (gl + os.length) := by
  intro al os p v hs hp
  unfold sp21g at hs
  split at hs
  case h_2 => cases hs
  rename_i k c m vs t s ex q
  split at hs
  case h_2 => cases hs
  rename_i L hm
  have key : lenB k c L = true → okL L → (∀ o ∈ (CO.cells vs t s ex :: q).drop 1, FlatO o) ∧ (NRes.old (i (cvE m L))).OkX Tryz.prog 21 [.slice (some ⟨1, 0, none⟩) k c, .int .i64 m] deads (CO.cells vs t s ex :: q) (gl + (CO.cells vs t s ex :: q).length) := by
    intro hb h
    refine c21 _ _ (okL L) (.old (i (cvE m L))) ?_ h
    show (match mkL 2 vs q with
      | some L => ifB (lenB k c L) (okL L, NRes.old (i (cvE m L)))
      | none => none) = _
    rw [hm]
    show ifB (lenB k c L) _ = _
    rw [hb]; rfl
  cases g with
  | true =>
    obtain ⟨hb, hr⟩ := ifB_some hs
    cases hr
    have h := key hb hp.1
    rwa [hp.2] at h
  | false =>
    obtain ⟨hb, hr⟩ := ifB_some hs
    cases hr
    exact key hb hp.1
def SBok (bs ss : List Value) (n c m c2 : Nat) : Prop := (okB bs n c ∧ okB ss m c2) ∧ same bs ss n m = true
def SBnil (bs : List Value) (n : Nat) : Prop := bs.all Ex.flat = true ∧ n = 0
def sp26g : ESpec := fun al css => match al, css with
  | [.slice (some ⟨1, 0, none⟩) n c, .slice (some ⟨2, 0, none⟩) m c2], [bs, ss] => some (SBok bs ss n c m c2, b_ true)
  | [.slice (some ⟨1, 0, none⟩) n _, .slice none 0 0], [bs] => some (SBnil bs n, b_ true)
  | _, _ => none
section
variable (bs : List Value) (t s c : Nat) (ex : Bool)
theorem v26n : (execO Tryz.prog 2 ⟨T5, no_, off_, noL⟩ 60 (.call 26 ⟨[sl 1 0 0 c, .slice none 0 0]⟩ (heapL [.dead, .cells bs t s ex]))).vals = .leaf (b_ true) := by kernel_rfl
theorem x26n : execO Tryz.prog 2 ⟨T5, no_, off_, noL⟩ 60 (.call 26 ⟨[sl 1 0 0 c, .slice none 0 0]⟩ (heapL [.dead, .cells bs t s ex])) = (execO Tryz.prog 2 ⟨T5, no_, off_, noL⟩ 60 (.call 26 ⟨[sl 1 0 0 c, .slice none 0 0]⟩ (heapL [.dead, .cells bs t s ex]))).fix := by kernel_rfl
end
theorem c26g : ∀ al css os p v, sp26g al css = some (p, v) → p → Blks css os → (∀ cs ∈ css, cs.all Ex.flat = true) ∧ clean 6 v = true ∧ ∃ H', Sound Tryz.prog (gl + css.length) (.call 26 ⟨al⟩ (heapL (deads ++ os))) (.val v H') := by
  intro al css os p v hs hp hb
  unfold sp26g at hs
  split at hs
  · rename_i n c m c2 bs ss
    cases hs
    have h := c26 [sl 1 0 n c, sl 2 0 m c2] [bs, ss] os (okB bs n c ∧ okB ss m c2) (b_ (same bs ss n m)) rfl hp.1 hb
    rwa [hp.2] at h
  · rename_i n c bs
    cases hs
    obtain ⟨t, s, ex, rfl⟩ := blks1 hb
    obtain ⟨p1, rfl⟩ := hp
    refine ⟨by simpa using p1, rfl, ?_⟩
    obtain ⟨H', h'⟩ := Out.vals_sel (x26n bs t s c ex) (v := b_ true) (by rw [v26n]; rfl)
    exact ⟨H', execO_sound (C := ⟨T5, no_, off_, noL⟩) ts5 .none 60 _ _ h'⟩
  · cases hs
noncomputable def noE : Ent := fun _ _ => none
theorem TSound.no {P : Program} {G : Nat} {T : Tb} {f : FuncId} (hT : TSound P G T) : TSound P G (Ex.ext T f noE) := hT.alt (g := f % 1000000) (fun _ _ _ _ _ _ h => by cases h) rfl
def sp17g (g : Bool) : NSpec := fun al css => cond g (sp17 al css) (sp17e al css)
def sp23g (z : Bool) : NSpec := fun al css => cond z (sp23z al css) (sp23m al css)
def sp25g (z : Bool) : NSpec := fun al css => cond z (sp25z al css) (sp25m al css)
def sp18g (g : Bool) : XSpec := fun al os => cond g (sp18 al os) (sp18e al os)
def sp19g (g : Bool) : XSpec := fun al os => cond g (sp19 al os) (sp19e al os)
def sp24g (z : Bool) : XSpec := fun al os => cond z (sp24z al os) (sp24m al os)
noncomputable def TA (gp gv gc z : Bool) : Tb := ext (ext (ext (ext (ext (ext (ext (ext (ext (ext (ext (ext (ext (ext T12 16 (xE 0 rd0 sp16 [] (heapL deads))) 17 (newE (sp17g gp) [] (heapL deads))) 1000017 noE) 18 (xE 1 rd1 (sp18g gv) [] (heapL deads)))
  19 (xE 0 rd0 (sp19g gc) [] (heapL deads))) 20 (autoE (sp20g gp) [] (heapL deads))) 21 (xE 1 rd1 (sp21g gv) [] (heapL deads))) 22 (autoE (sp22g gc) [] (heapL deads)))
  23 (newE (sp23g z) [] (heapL deads))) 1000023 noE) 24 (xE 1 rd1 (sp24g z) [] (heapL deads))) 25 (newE (sp25g z) [] (heapL deads))) 1000025 noE) 26 (autoE sp26g [] (heapL deads))
theorem tsA {G : Nat} (gp gv gc z : Bool) : TSound Tryz.prog G (TA gp gv gc z) :=
  (TSound.no ((TSound.no (((((((TSound.no ((ts12.x c16).new (f' := 17) (by cases gp <;> first | exact c17 | exact c17e))).x (f' := 18) (by cases gv <;> first | exact c18 | exact c18e)).x (f' := 19) (by cases gc <;> first | exact c19 | exact c19e)).auto (c20g gp)).x (c21g gv)).auto (c22g gc)).new (f' := 23) (by cases z <;> first | exact c23z | exact c23m))).x (f' := 24) (by cases z <;> first | exact c24z | exact c24m) |>.new (f' := 25) (by cases z <;> first | exact c25z | exact c25m))).auto c26g
end Go.Proofs.YtdnogbdfiahcaaaGreat.Ways
noncomputable section
namespace Go.Proofs.YtdnogbdfiahcaaaGreat.Ways
open Go Go.Ex Go.RowKit
/-! ### the law: its tree -/
def mk (g : Bool) (l : List (Nat × Nat)) : List (Nat × Nat) := cond g [] l
noncomputable def spT (gp gv gc : Bool) : Nat → Nat → Split := at_ ([(4, 31), (4, 42)] ++ mk gp [(4, 95), (4, 119)] ++ mk gv [(4, 103), (4, 129)] ++ mk gc [(4, 109), (4, 139)]) .bool (at_ (mk gp [(4, 98)] ++ mk gv [(4, 106)] ++ mk gc [(4, 110)]) (.ints []) no_)
noncomputable def CT (gp gv gc z : Bool) : Cfg := ⟨TA gp gv gc z, spT gp gv gc, off_, noL⟩
def cpL (x : Lx) : Lx := ⟨x.cs, x.n, x.n, 4, 1, Nat.beq x.n 0⟩
def hp4 (L : List Lx) (t s : Nat) (ex : Bool) (ss : List Value) (t2 s2 : Nat) (e2 : Bool) : List CO := hpL2 L t s ex ++ [.cells ss t2 s2 e2]
noncomputable def o4 (gp gv gc z : Bool) (L : List Lx) (t s : Nat) (ex : Bool) (ss : List Value) (m t2 s2 : Nat) (e2 : Bool) (x y : Int) : Out QRes :=
  execO Tryz.prog (L.length + 3) (CT gp gv gc z) 120 (.call 4 ⟨[sl 1 0 L.length L.length, sl (L.length + 2) 0 m m, ag [i x, i y]]⟩ (heapL (deads ++ hp4 L t s ex ss t2 s2 e2)))
def aV (b : Bool) (t : VT) : VT := .br b t .fail
def lt : VT := .leaf (b_ true)
def lf : VT := .leaf (b_ false)
noncomputable def pre (K : VT) : List Lx → VT
  | [] => K
  | x :: r => .br (!fewB x.n) lt (aV (tru (okA x.cs x.n x.c)) (pre K r))
section
variable (a : Lx) (r : List Lx) (ss : List Value) (m : Nat) (x y : Int)
def P17 (g : Bool) : Prop := cond g (okB a.cs a.n a.n ∧ pE a.n x y = 0) (a.cs.all Ex.flat = true ∧ pE a.n x y ≠ 0)
def P18 (g : Bool) : Prop := cond g (VotOK ((a :: r).map cpL) x) (VotNo ((a :: r).map cpL) x)
def P19 (g : Bool) : Prop := cond g (LatOK a.cs ss a.n a.n m m (Nat.beq a.n 0)) (a.cs.all Ex.flat = true ∧ ss.all Ex.flat = true ∧ lE a.n m ≠ 0)
def P20 (g : Bool) : Prop := cond g (CPok a.cs a.n x y) (CPno a.cs a.n x y)
def P21 (g : Bool) : Prop := cond g (CVok (a :: r) x) (CVno (a :: r) x)
def P22 (g : Bool) : Prop := cond g (CLok a.cs ss a.n m) (CLno a.cs ss a.n m)
def P23 (z : Bool) : Prop := cond z (okB a.cs a.n a.c ∧ 1 ≤ y ∧ y ≤ 1024 ∧ a.n = 0) (okB a.cs a.n a.c ∧ 1 ≤ y ∧ y ≤ 1024 ∧ a.n ≠ 0)
def P24 (z : Bool) : Prop := cond z (VotZ (a :: r) x) (VotM (a :: r) x)
def P25 (z : Bool) : Prop := cond z (okB a.cs a.n a.c ∧ okB ss m m ∧ a.n = m ∧ a.n = 0) (okB a.cs a.n a.c ∧ okB ss m m ∧ a.n = m ∧ a.n ≠ 0)
def P26p (z : Bool) : Prop := cond z (SBnil (perO a.cs x y a.n) a.n) (SBok (perO a.cs x y a.n) (perO a.cs x y a.n) a.n a.n a.n a.n)
def P26v (z : Bool) : Prop := cond z (SBnil (votO ((a :: r).map cpL) x a.n) a.n) (SBok (votO ((a :: r).map cpL) x a.n) (votO (a :: r) x a.n) a.n a.n a.n a.n)
def P26l (z : Bool) : Prop := cond z (SBnil (latO a.cs ss a.n) a.n) (SBok (latO a.cs ss a.n) (latO a.cs ss a.n) a.n a.n a.n a.n)
noncomputable def midT (gp gv gc z : Bool) : VT :=
  aV (tru (okA a.cs a.n a.c)) <| aV (tru (P17 a x y gp)) <| aV (tru (P18 a r x gv)) <| aV (tru (okA a.cs a.n a.c)) <| aV (tru (okA ss m m)) <| aV (tru (P19 a ss m gc)) <|
  aV (tru (P20 a x y gp)) <| aV (tru (P21 a r x gv)) <| aV (tru (P22 a ss m gc)) <|
  cond gp (aV (tru (P23 a y z))) (VT.br (eqF (cPe a.n x y) 0) .fail) <| cond gv (aV (tru (P24 a r x z))) (VT.br (eqF (cvE x (a :: r)) 0) .fail) <| cond gc (aV (tru (P25 a ss m z))) (VT.br (eqF (cLa a.n m) 0) .fail) <|
  cond gp (aV (tru (P26p a x y z))) (fun t => .br (eqF (pE a.n x y) (cPe a.n x y)) t lf) <| cond gv (aV (tru (P26v a r x z))) (fun t => .br (eqF (vE ((a :: r).map cpL) x) (cvE x (a :: r))) t lf) <|
  cond gc (aV (tru (P26l a ss z))) (fun t => .br (eqF (lE a.n m) (cLa a.n m)) t lf) lt
noncomputable def lawT (gp gv gc z : Bool) : VT := .br (!fewB m) lt (pre (midT a r ss m x y gp gv gc z) (a :: r))
end
end Go.Proofs.YtdnogbdfiahcaaaGreat.Ways
noncomputable section
namespace Go.Proofs.YtdnogbdfiahcaaaGreat.Ways
open Go Go.Ex Go.RowKit
/-! ### the law: more than nine lists; none -/
noncomputable def CTa : Cfg := ⟨TA true true true true, at_ [(4, 26)] .bool (at_ [(4, 28)] (.ints []) no_), off_, noL⟩
section
variable (ss : List Value) (t s t2 s2 m k c : Nat) (ex e2 : Bool) (x y : Int)
noncomputable def o4a : Out QRes := execO Tryz.prog 3 CTa 120 (.call 4 ⟨[sl 1 0 k c, sl 2 0 m m, ag [i x, i y]]⟩ (heapL (deads ++ [.dead, .dead])))
theorem w4a : (o4a m k c x y).vals = .br (ltF 9 k) lt .fail := by kernel_rfl
theorem y4a : o4a m k c x y = (o4a m k c x y).fix := by kernel_rfl
/-! the checks of no list -/
noncomputable def o20n : Out QRes := execO Tryz.prog 1 ⟨T5, no_, off_, noL⟩ 60 (.call 20 ⟨[.slice none 0 0, i x, i y]⟩ (heapL [.dead]))
theorem v20n : (o20n x y).vals = .br (tru (okI [i (rgE y 1 1024), i (rgE x 1 y)] 2 2)) (.leaf (i (fst2 (rgE y 1 1024) (rgE x 1 y)))) .fail := by kernel_rfl
theorem x20n : o20n x y = (o20n x y).fix := by kernel_rfl
noncomputable def o22n : Out QRes := execO Tryz.prog 2 ⟨T5, at_ [(22, 11), (22, 17)] .bool no_, off_, noL⟩ 60 (.call 22 ⟨[.slice none 0 0, sl 1 0 m c]⟩ (heapL [.dead, .cells ss t2 s2 e2]))
theorem v22n : (o22n ss t2 s2 m c e2).vals = .br (ltF 1024 m) (.leaf (i 5)) (.br (!eqF ((0 : Nat) : Int) m) (.leaf (i 2)) (.leaf (i 0))) := by kernel_rfl
theorem x22n : o22n ss t2 s2 m c e2 = (o22n ss t2 s2 m c e2).fix := by kernel_rfl
end
def sp20n (g : Bool) : ESpec := fun al css => match al, css with
  | [.slice none 0 0, .int .i64 x, .int .i64 y], [] => optP g (some (cPe 0 x y = 0, i 0)) (some (cPe 0 x y ≠ 0, i (cPe 0 x y)))
  | _, _ => none
theorem c20n (g : Bool) : ∀ al css os p v, sp20n g al css = some (p, v) → p → Blks css os → (∀ cs ∈ css, cs.all Ex.flat = true) ∧ clean 6 v = true ∧ ∃ H', Sound Tryz.prog (gl + css.length) (.call 20 ⟨al⟩ (heapL (deads ++ os))) (.val v H') := by
  intro al css os p v hs hp hb
  unfold sp20n at hs
  split at hs
  case h_2 => cases hs
  rename_i x y
  cases hb
  have key : ∃ H', Sound Tryz.prog 1 (.call 20 ⟨[.slice none 0 0, i x, i y]⟩ (heapL (deads ++ []))) (.val (i (cPe 0 x y)) H') := by
    obtain ⟨H', h'⟩ := Out.vals_sel (x20n x y) (v := i (cPe 0 x y)) (by
      rw [v20n]
      simp only [VT.sel]
      rw [tru_iff.2 (okI2 _ _)]; rfl)
    exact ⟨H', execO_sound (C := ⟨T5, no_, off_, noL⟩) ts5 .none 60 _ _ h'⟩
  cases g with
  | true => cases hs; rw [hp] at key; exact ⟨fun cs h => (by cases h), rfl, key⟩
  | false => cases hs; exact ⟨fun cs h => (by cases h), rfl, key⟩
def CLn (ss : List Value) (m : Nat) (g : Bool) : Prop := cond g (ss.all Ex.flat = true ∧ cLa 0 m = 0) (ss.all Ex.flat = true ∧ cLa 0 m ≠ 0)
def sp22n (g : Bool) : ESpec := fun al css => match al, css with
  | [.slice none 0 0, .slice (some ⟨1, 0, none⟩) m _], [ss] => some (CLn ss m g, i (cond g 0 (cLa 0 m)))
  | _, _ => none
theorem c22n (g : Bool) : ∀ al css os p v, sp22n g al css = some (p, v) → p → Blks css os → (∀ cs ∈ css, cs.all Ex.flat = true) ∧ clean 6 v = true ∧ ∃ H', Sound Tryz.prog (gl + css.length) (.call 22 ⟨al⟩ (heapL (deads ++ os))) (.val v H') := by
  intro al css os p v hs hp hb
  unfold sp22n at hs
  split at hs
  case h_2 => cases hs
  rename_i m c ss
  cases hs
  obtain ⟨t, s, ex, rfl⟩ := blks1 hb
  have key : ∃ H', Sound Tryz.prog 2 (.call 22 ⟨[.slice none 0 0, sl 1 0 m c]⟩ (heapL (deads ++ [.cells ss t s ex]))) (.val (i (cLa 0 m)) H') := by
    obtain ⟨H', h'⟩ := Out.vals_sel (x22n ss t s m c ex) (v := i (cLa 0 m)) (by
      rw [v22n]
      unfold cLa
      simp only [VT.sel, ltF_eq, eqF_d]
      by_cases h' : 1024 < m
      · rw [decide_eq_true (show (1024 : Int) < m by omega), if_pos (.inr h')]; rfl
      · rw [decide_eq_false (show ¬ (1024 : Int) < m by omega), if_neg (by omega)]
        by_cases he : 0 = m
        · rw [decide_eq_true (by omega), if_pos he]; rfl
        · rw [decide_eq_false (by omega), if_neg he]; rfl)
    exact ⟨H', execO_sound (C := ⟨T5, at_ [(22, 11), (22, 17)] .bool no_, off_, noL⟩) ts5 .none 60 _ _ h'⟩
  cases g with
  | true =>
    obtain ⟨p1, p2⟩ := hp
    rw [p2] at key
    exact ⟨by simpa using p1, rfl, key⟩
  | false =>
    obtain ⟨p1, p2⟩ := hp
    exact ⟨by simpa using p1, rfl, key⟩
noncomputable def TN (gp gc : Bool) : Tb := ext (ext (TA gp false gc true) 20 (autoE (sp20n gp) [] (heapL deads))) 22 (autoE (sp22n gc) [] (heapL deads))
theorem tsN {G : Nat} (gp gc : Bool) : TSound Tryz.prog G (TN gp gc) := ((tsA gp false gc true).auto (c20n gp)).auto (c22n gc)
noncomputable def spN (gp gc : Bool) : Nat → Nat → Split := at_ ([(4, 31)] ++ mk gp [(4, 95), (4, 119)] ++ mk gc [(4, 109), (4, 139)]) .bool (at_ (mk gp [(4, 98)] ++ mk gc [(4, 110)]) (.ints []) no_)
noncomputable def o4n (gp gc : Bool) (t s : Nat) (ex : Bool) (ss : List Value) (m t2 s2 : Nat) (e2 : Bool) (x y : Int) : Out QRes :=
  execO Tryz.prog 3 ⟨TN gp gc, spN gp gc, off_, noL⟩ 120 (.call 4 ⟨[sl 1 0 0 0, sl 2 0 m m, ag [i x, i y]]⟩ (heapL (deads ++ [.cells [] t s ex, .cells ss t2 s2 e2])))
end Go.Proofs.YtdnogbdfiahcaaaGreat.Ways
noncomputable section
namespace Go.Proofs.YtdnogbdfiahcaaaGreat.Ways
open Go Go.Ex Go.RowKit
/-! ### the law over no list: its tree -/
section
variable (t s : Nat) (ex : Bool) (ss : List Value) (m t2 s2 : Nat) (e2 : Bool) (x y : Int)
def Q17 (g : Bool) : Prop := cond g (okB [] 0 0 ∧ pE 0 x y = 0) (([] : List Value).all Ex.flat = true ∧ pE 0 x y ≠ 0)
def Q19 (g : Bool) : Prop := cond g (LatOK [] ss 0 0 m m true) (([] : List Value).all Ex.flat = true ∧ ss.all Ex.flat = true ∧ lE 0 m ≠ 0)
def Q20 (g : Bool) : Prop := cond g (cPe 0 x y = 0) (cPe 0 x y ≠ 0)
noncomputable def nilT (gp gc : Bool) : VT := .br (!fewB m) lt <| aV (tru (Q17 x y gp)) <| aV (tru (okI [i (em 0), i (mnE (0 : Nat) 8)] 2 2)) <| aV (tru (okI [i (flE 0), i 0] 2 2)) <| aV (tru (okI [i (fst2 (flE 0) 0), i (rgE x 1 (0 : Nat))] 2 2)) <|
  aV (tru (okA ss m m)) <| aV (tru (Q19 ss m gc)) <| aV (tru (Q20 x y gp)) <| aV (tru (CVno [] x)) <| aV (tru (CLn ss m gc)) <|
  cond gp id (VT.br (eqF (cPe 0 x y) 0) .fail) <| cond gc id (VT.br (eqF (cLa 0 m) 0) .fail) <|
  cond gp (aV (tru (SBnil (perO [] x y 0) 0))) (fun t => .br (eqF (pE 0 x y) (cPe 0 x y)) t lf) <| cond gc (aV (tru (SBnil (latO [] ss 0) 0))) (fun t => .br (eqF (lE 0 m) (cLa 0 m)) t lf) lt
theorem w4n : ∀ gp gc, (o4n gp gc t s ex ss m t2 s2 e2 x y).vals = nilT ss m x y gp gc
  | true, true => by kernel_rfl
  | true, false => by kernel_rfl
  | false, true => by kernel_rfl
  | false, false => by kernel_rfl
theorem y4n : ∀ gp gc, o4n gp gc t s ex ss m t2 s2 e2 x y = (o4n gp gc t s ex ss m t2 s2 e2 x y).fix
  | true, true => by kernel_rfl
  | true, false => by kernel_rfl
  | false, true => by kernel_rfl
  | false, false => by kernel_rfl
end
end Go.Proofs.YtdnogbdfiahcaaaGreat.Ways
noncomputable section
namespace Go.Proofs.YtdnogbdfiahcaaaGreat.Ways
open Go Go.Ex Go.RowKit
/-! ### the law's trees come to true -/
theorem aV_sel {b : Bool} {t : VT} (h : b = true) : (aV b t).sel = t.sel := by rw [h]; rfl
theorem aP {P : Prop} {t : VT} (h : P) : (aV (tru P) t).sel = t.sel := aV_sel (tru_iff.2 h)
theorem qA {g : Bool} {P : Prop} {e : Int} {t : VT} (h1 : g = true → P) (h2 : g = false → e ≠ 0) : (cond g (aV (tru P)) (VT.br (eqF e 0) .fail) t).sel = t.sel := by
  cases g with
  | true => exact aP (h1 rfl)
  | false =>
    show cond (eqF e 0) none t.sel = _
    rw [eqF_d, decide_eq_false (h2 rfl)]; rfl
theorem qB {g : Bool} {P : Prop} {e e' : Int} {t : VT} (h1 : g = true → P) (h2 : e = e') : (cond g (aV (tru P)) (fun t => .br (eqF e e') t lf) t).sel = t.sel := by
  cases g with
  | true => exact aP (h1 rfl)
  | false =>
    show cond (eqF e e') t.sel _ = _
    rw [eqF_d, decide_eq_true h2]; rfl
theorem qC {g : Bool} {e : Int} {t : VT} (h2 : g = false → e ≠ 0) : (cond g id (VT.br (eqF e 0) .fail) t).sel = t.sel := by
  cases g with
  | true => rfl
  | false =>
    show cond (eqF e 0) none t.sel = _
    rw [eqF_d, decide_eq_false (h2 rfl)]; rfl
theorem pE_cPe (n : Nat) (x y : Int) : pE n x y = cPe n x y := by
  unfold pE cPe
  rw [fst3_eq, fst2', show mnE n 1024 = if 1024 < n then 5 else 0 from mnE_nat n 1024]
  by_cases h : 1024 < n
  · rw [if_pos h, if_pos h]; rfl
  · rw [if_neg h, if_neg h]
    by_cases h2 : rgE x 1 y = 0
    · rw [h2]; rfl
    · rw [if_pos h2]; rfl
theorem lE_cLa (n m : Nat) : lE n m = cLa n m := by
  have hE : lE n m = fst3 (mnE n 1024) (mnE m 1024) (shB n m) := rfl
  have hC : cLa n m = if 1024 < n ∨ 1024 < m then 5 else if n = m then 0 else 2 := rfl
  rw [hE, hC, fst3_eq, show mnE n 1024 = if 1024 < n then 5 else 0 from mnE_nat n 1024, show mnE m 1024 = if 1024 < m then 5 else 0 from mnE_nat m 1024]
  unfold shB
  by_cases h : 1024 < n
  · simp [h]
  · by_cases h' : 1024 < m
    · simp [h, h']
    · by_cases h2 : n = m
      · simp [h', h2]
      · have h3 : ¬ (n : Int) = m := by omega
        simp [h, h', h2, h3]
def boolsL (l : List Value) : Prop := ∀ v ∈ l, ∃ b, v = b_ b
theorem boolsL_okB {l : List Value} {n : Nat} (h : boolsL l) (hl : l.length = n) (hn : n ≤ 1000000) : okB l n n := by
  refine ⟨List.all_eq_true.2 fun v hv => ?_, Nat.le_refl n, hn, fun j hj => ?_⟩
  · obtain ⟨b, rfl⟩ := h v hv; rfl
  · rw [show 0 + j * 1 = j from by omega, List.getElem?_eq_getElem (by omega)]
    obtain ⟨b, hb⟩ := h l[j] (List.getElem_mem _)
    rw [hb]; rfl
theorem boolsL_snoc {l : List Value} {b : Bool} (h : boolsL l) : boolsL (l ++ [b_ b]) := by
  intro v hv
  rcases List.mem_append.1 hv with hv | hv
  · exact h v hv
  · rw [List.mem_singleton] at hv
    exact ⟨b, hv⟩
theorem perO_b (bs : List Value) (x y : Int) : ∀ j, boolsL (perO bs x y j)
  | 0 => fun v hv => by cases hv
  | j + 1 => boolsL_snoc (perO_b bs x y j)
theorem votO_b (L : List Lx) (m : Int) : ∀ j, boolsL (votO L m j)
  | 0 => fun v hv => by cases hv
  | j + 1 => boolsL_snoc (votO_b L m j)
theorem latO_b (bs ss : List Value) : ∀ j, boolsL (latO bs ss j)
  | 0 => fun v hv => by cases hv
  | j + 1 => boolsL_snoc (latO_b bs ss j)
theorem same_self (l : List Value) (n : Nat) : same l l n n = true := by
  unfold same
  rw [decide_eq_true rfl, Bool.true_and]
  refine decide_eq_true ?_
  have : ∀ k j, firstF (dB l l) k j = 0 := by
    intro k
    induction k with
    | zero => intro j; rfl
    | succ k ih =>
      intro j
      show (if dB l l j ≠ 0 then dB l l j else firstF (dB l l) k (j + 1)) = 0
      have : dB l l j = 0 := by unfold dB; rw [if_pos rfl]
      rw [this]
      exact ih (j + 1)
  exact this n 0
theorem SBok_self {l : List Value} {n : Nat} (h : boolsL l) (hl : l.length = n) (hn : n ≤ 1000000) : SBok l l n n n n := ⟨⟨boolsL_okB h hl hn, boolsL_okB h hl hn⟩, same_self l n⟩
theorem cntl_cp (j : Nat) : ∀ L : List Lx, cntl j (L.map cpL) = cntl j L
  | [] => rfl
  | x :: r => by
    show one_ (bO x.cs j) + cntl j (r.map cpL) = one_ (bO x.cs j) + cntl j r
    rw [cntl_cp j r]
theorem votO_cp (L : List Lx) (m : Int) : ∀ j, votO (L.map cpL) m j = votO L m j
  | 0 => rfl
  | j + 1 => by
    show votO (L.map cpL) m j ++ [b_ (leF m ((cntl j (L.map cpL) : Nat) : Int))] = votO L m j ++ [b_ (leF m ((cntl j L : Nat) : Int))]
    rw [votO_cp L m j, cntl_cp]
theorem evl_cp (n : Nat) : ∀ L : List Lx, evl n (L.map cpL) = evl n L
  | [] => rfl
  | x :: r => by
    show (if eL x.n n ≠ 0 then eL x.n n else evl n (r.map cpL)) = (if eL x.n n ≠ 0 then eL x.n n else evl n r)
    rw [evl_cp n r]
theorem vE_cp (L : List Lx) (m : Int) : vE (L.map cpL) m = vE L m := by
  unfold vE clE
  have h1 : evE (L.map cpL) = evE L := by
    cases L with
    | nil => rfl
    | cons x r => exact evl_cp x.n (x :: r)
  rw [h1, List.length_map]
/-- what is known of a list at the law's entry -/
def raw (bs : List Value) (n c : Nat) : Prop := bs.all Ex.flat = true ∧ n ≤ c ∧ (∀ j, j < n → isCellB .b bs[0 + j * 1]? = true) ∧ bs.length = n
theorem few_le {n : Nat} (h : fewB n = true) : n ≤ 1025 := by
  have := of_decide_eq_true h
  omega
theorem raw_okA {bs : List Value} {n c : Nat} (h : raw bs n c) (hf : fewB n = true) : okA bs n c := ⟨⟨h.1, h.2.1, by have := few_le hf; omega, h.2.2.1⟩, h.2.2.2⟩
theorem pre_sel {K : VT} : ∀ {L : List Lx}, (∀ x ∈ L, raw x.cs x.n x.c) → (pre K L).sel = some (b_ true) ∨ ((∀ x ∈ L, okA x.cs x.n x.c) ∧ (pre K L).sel = K.sel)
  | [], _ => .inr ⟨fun x hx => (by cases hx), rfl⟩
  | x :: r, h => by
    cases hf : fewB x.n with
    | false =>
      refine .inl ?_
      show cond (!fewB x.n) lt.sel _ = _
      rw [hf]; rfl
    | true =>
      have hx := raw_okA (h x (by simp)) hf
      have e1 : (pre K (x :: r)).sel = (pre K r).sel := by
        show cond (!fewB x.n) lt.sel (aV (tru (okA x.cs x.n x.c)) (pre K r)).sel = _
        rw [hf, aP hx]; rfl
      rw [e1]
      rcases pre_sel (K := K) (L := r) fun y hy => h y (by simp [hy]) with h2 | ⟨h2, h3⟩
      · exact .inl h2
      · refine .inr ⟨fun y hy => ?_, h3⟩
        rcases List.mem_cons.1 hy with rfl | hy
        · exact hx
        · exact h2 y hy
theorem okB_n {bs : List Value} {n c : Nat} (h : okB bs n c) : okB bs n n := ⟨h.1, Nat.le_refl n, h.2.2.1, h.2.2.2⟩
theorem mid_sel {a : Lx} {r : List Lx} {ss : List Value} {m : Nat} {x y : Int} (hL : ∀ z ∈ a :: r, okA z.cs z.n z.c) (hs : okA ss m m) {gp gv gc z : Bool}
    (hp : gp = true ↔ pE a.n x y = 0) (hv : gv = true ↔ vE (a :: r) x = 0) (hc : gc = true ↔ lE a.n m = 0) (hz : z = true ↔ a.n = 0) : (midT a r ss m x y gp gv gc z).sel = some (b_ true) := by
  have ha := hL a (by simp)
  have hl : okL (a :: r) := fun w hw => (hL w hw).1
  have hl2 : okL ((a :: r).map cpL) := fun w hw => by
    obtain ⟨u, hu, rfl⟩ := List.mem_map.1 hw
    exact okB_n (hL u hu).1
  have hn : a.n ≤ 1000000 := ha.1.2.2.1
  have np : gp = false → pE a.n x y ≠ 0 := fun h h0 => by rw [hp.2 h0] at h; cases h
  have nv : gv = false → vE (a :: r) x ≠ 0 := fun h h0 => by rw [hv.2 h0] at h; cases h
  have nc : gc = false → lE a.n m ≠ 0 := fun h h0 => by rw [hc.2 h0] at h; cases h
  have nz : z = false → a.n ≠ 0 := fun h h0 => by rw [hz.2 h0] at h; cases h
  have b0 : Nat.beq a.n 0 = true ↔ a.n = 0 := ⟨Nat.eq_of_beq_eq_true, fun h => by rw [h]; rfl⟩
  have n0a : n0 (a :: r) = a.n := rfl
  have w1 : P17 a x y gp := by
    cases gp with
    | true => exact ⟨okB_n ha.1, hp.1 rfl⟩
    | false => exact ⟨ha.1.1, np rfl⟩
  have w2 : P18 a r x gv := by
    cases gv with
    | true => exact ⟨hl2, (vE_cp _ _).trans (hv.1 rfl)⟩
    | false => exact ⟨hl2, by rw [vE_cp]; exact nv rfl⟩
  have w3 : P19 a ss m gc := by
    cases gc with
    | true => exact ⟨⟨okB_n ha.1, ha.2⟩, hs.1, hc.1 rfl, fun h => ⟨h, b0.2 h⟩⟩
    | false => exact ⟨ha.1.1, hs.1.1, nc rfl⟩
  have w4 : P20 a x y gp := by
    cases gp with
    | true => exact ⟨ha.1.1, by rw [← pE_cPe]; exact hp.1 rfl⟩
    | false => exact ⟨ha.1.1, by rw [← pE_cPe]; exact np rfl⟩
  have w5 : P21 a r x gv := by
    cases gv with
    | true => exact ⟨hl, by rw [cv_v]; exact hv.1 rfl⟩
    | false => exact ⟨hl, by rw [cv_v]; exact nv rfl⟩
  have w6 : P22 a ss m gc := by
    cases gc with
    | true => exact ⟨⟨ha.1.1, hs.1.1⟩, by rw [← lE_cLa]; exact hc.1 rfl⟩
    | false => exact ⟨⟨ha.1.1, hs.1.1⟩, by rw [← lE_cLa]; exact nc rfl⟩
  have w7 : gp = true → P23 a y z := fun h => by
    have hy := pE_y (hp.1 h)
    cases z with
    | true => exact ⟨ha.1, hy.1, hy.2, hz.1 rfl⟩
    | false => exact ⟨ha.1, hy.1, hy.2, nz rfl⟩
  have w8 : gv = true → P24 a r x z := fun h => by
    cases z with
    | true => exact ⟨⟨hl, hv.1 h⟩, n0a.trans (hz.1 rfl)⟩
    | false => exact ⟨⟨hl, hv.1 h⟩, fun h0 => nz rfl (n0a.symm.trans h0)⟩
  have w9 : gc = true → P25 a ss m z := fun h => by
    have hm := lE_eq (hc.1 h)
    cases z with
    | true => exact ⟨ha.1, hs.1, hm, hz.1 rfl⟩
    | false => exact ⟨ha.1, hs.1, hm, nz rfl⟩
  have u1 : P26p a x y z := by
    cases z with
    | true => exact ⟨perO_flat _ _ _ _, hz.1 rfl⟩
    | false => exact SBok_self (perO_b _ _ _ _) (perO_len _ _ _ _) hn
  have u2 : P26v a r x z := by
    cases z with
    | true => exact ⟨votO_flat _ _ _, hz.1 rfl⟩
    | false =>
      show SBok (votO ((a :: r).map cpL) x a.n) (votO (a :: r) x a.n) a.n a.n a.n a.n
      rw [votO_cp]
      exact SBok_self (votO_b _ _ _) (votO_len _ _ _) hn
  have u3 : P26l a ss z := by
    cases z with
    | true => exact ⟨latO_flat _ _ _, hz.1 rfl⟩
    | false => exact SBok_self (latO_b _ _ _) (latO_len _ _ _) hn
  unfold midT
  rw [aP ha, aP w1, aP w2, aP ha, aP hs, aP w3, aP w4, aP w5, aP w6, qA w7 (fun h => by rw [← pE_cPe]; exact np h), qA w8 (fun h => by rw [cv_v]; exact nv h), qA w9 (fun h => by rw [← lE_cLa]; exact nc h),
    qB (fun _ => u1) (pE_cPe _ _ _), qB (fun _ => u2) (by rw [vE_cp, cv_v]), qB (fun _ => u3) (lE_cLa _ _)]
  rfl
theorem law_sel {a : Lx} {r : List Lx} {ss : List Value} {m : Nat} {x y : Int} (hL : ∀ z ∈ a :: r, raw z.cs z.n z.c) (hs : raw ss m m) {gp gv gc z : Bool}
    (hp : gp = true ↔ pE a.n x y = 0) (hv : gv = true ↔ vE (a :: r) x = 0) (hc : gc = true ↔ lE a.n m = 0) (hz : z = true ↔ a.n = 0) : (lawT a r ss m x y gp gv gc z).sel = some (b_ true) := by
  show cond (!fewB m) lt.sel (pre (midT a r ss m x y gp gv gc z) (a :: r)).sel = _
  cases hf : fewB m with
  | false => rfl
  | true =>
    show (pre (midT a r ss m x y gp gv gc z) (a :: r)).sel = _
    rcases pre_sel (K := midT a r ss m x y gp gv gc z) hL with h | ⟨h1, h2⟩
    · exact h
    · rw [h2]
      exact mid_sel h1 (raw_okA hs hf) hp hv hc hz
theorem nil_sel {ss : List Value} {m : Nat} {x y : Int} (hs : raw ss m m) {gp gc : Bool} (hp : gp = true ↔ pE 0 x y = 0) (hc : gc = true ↔ lE 0 m = 0) : (nilT ss m x y gp gc).sel = some (b_ true) := by
  unfold nilT
  show cond (!fewB m) lt.sel _ = _
  cases hf : fewB m with
  | false => rfl
  | true =>
    have ho := raw_okA hs hf
    have np : gp = false → pE 0 x y ≠ 0 := fun h h0 => by rw [hp.2 h0] at h; cases h
    have nc : gc = false → lE 0 m ≠ 0 := fun h h0 => by rw [hc.2 h0] at h; cases h
    have e0 : okB [] 0 0 := ⟨rfl, Nat.le_refl 0, by decide, fun j hj => absurd hj (by omega)⟩
    have w1 : Q17 x y gp := by
      cases gp with
      | true => exact ⟨e0, hp.1 rfl⟩
      | false => exact ⟨rfl, np rfl⟩
    have w3 : Q19 ss m gc := by
      cases gc with
      | true => exact ⟨⟨e0, rfl⟩, ho.1, hc.1 rfl, fun h => ⟨h, rfl⟩⟩
      | false => exact ⟨rfl, ho.1.1, nc rfl⟩
    have w4 : Q20 x y gp := by
      cases gp with
      | true => exact (pE_cPe 0 x y).symm.trans (hp.1 rfl)
      | false => exact fun h => np rfl ((pE_cPe 0 x y).trans h)
    have w6 : CLn ss m gc := by
      cases gc with
      | true => exact ⟨ho.1.1, (lE_cLa 0 m).symm.trans (hc.1 rfl)⟩
      | false => exact ⟨ho.1.1, fun h => nc rfl ((lE_cLa 0 m).trans h)⟩
    have w5 : CVno [] x := ⟨fun z hz => (by cases hz), (by show (12 : Int) ≠ 0; decide)⟩
    show VT.sel _ = _
    rw [aP w1, aP (okI2 _ _), aP (okI2 _ _), aP (okI2 _ _), aP ho, aP w3, aP w4, aP w5, aP w6, qC (fun h h0 => np h ((pE_cPe 0 x y).trans h0)), qC (fun h h0 => nc h ((lE_cLa 0 m).trans h0)),
      qB (fun _ => ⟨rfl, rfl⟩) (pE_cPe _ _ _), qB (fun _ => ⟨rfl, rfl⟩) (lE_cLa _ _)]
    rfl
end Go.Proofs.YtdnogbdfiahcaaaGreat.Ways
