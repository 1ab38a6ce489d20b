import Derived.Test.YtafpmehhdcmllaaGreatDoorMr3
import Derived.Test.YtafpmehhdcmllaaGreatDoorMr5
noncomputable section
namespace Go.Proofs.YtafpmehhdcmllaaGreatDoor.Ways
open Go Go.Ex Go.RowKit
/-! ### the law's table: g: quarters and prices have no error; zl, zp: there is no quarter, no price -/
noncomputable def hA : List CO := [.dead, .cells pow10 287 1 true, .cells tab32 289 1 true, .cells tab64 290 1 true]
theorem ha_heapL : heapL hA = Ha := by kernel_rfl
theorem ha_get {b : Nat} {o : CO} (h : Ha[b]? = some o) : (b = 0 ∧ o = .dead) ∨ (b = 1 ∧ o = .cells pow10 287 1 true) ∨ (b = 2 ∧ o = .cells tab32 289 1 true) ∨ (b = 3 ∧ o = .cells tab64 290 1 true) := by
  have hb : b < 4 := Hp.lt h
  match b, hb with
  | 0, _ => exact .inl ⟨rfl, Option.some.inj (h.symm.trans (rfl : Ha[0]? = some .dead))⟩
  | 1, _ => exact .inr (.inl ⟨rfl, Option.some.inj (h.symm.trans (rfl : Ha[1]? = some (.cells pow10 287 1 true)))⟩)
  | 2, _ => exact .inr (.inr (.inl ⟨rfl, Option.some.inj (h.symm.trans (rfl : Ha[2]? = some (.cells tab32 289 1 true)))⟩))
  | 3, _ => exact .inr (.inr (.inr ⟨rfl, Option.some.inj (h.symm.trans (rfl : Ha[3]? = some (.cells tab64 290 1 true)))⟩))
theorem clean1 : pow10.all (clean 6) = true := by kernel_rfl
theorem clean2 : tab32.all (clean 6) = true := by kernel_rfl
theorem clean3 : tab64.all (clean 6) = true := by kernel_rfl
theorem ha_vars : Vars Ha [1, 2, 3] := by
  refine ⟨ha_len, fun b o h ha => ?_, fun b o h ha => ?_⟩
  · rcases ha_get h with ⟨rfl, rfl⟩ | ⟨rfl, _⟩ | ⟨rfl, _⟩ | ⟨rfl, _⟩
    · cases ha
    · simp
    · simp
    · simp
  · rcases ha_get h with ⟨rfl, rfl⟩ | ⟨_, rfl⟩ | ⟨_, rfl⟩ | ⟨_, rfl⟩
    · cases ha
    · exact ⟨pow10, 287, 1, rfl, clean1⟩
    · exact ⟨tab32, 289, 1, rfl, clean2⟩
    · exact ⟨tab64, 290, 1, rfl, clean3⟩
theorem p16 : Pure Tryz.prog Ha 16 [] (b_ true) := by
  obtain ⟨H', h'⟩ := Out.vals_sel (o := oAw) aw_fix (v := b_ true) (by rw [aw_vals]; rfl)
  exact Pure.of_sound (by decide) ha_len rfl (execO_sound (C := ⟨Tk, no_, off_, noL⟩) tsk .none 300 _ _ h')
def s16 : List Value → Option Value
  | [] => some (b_ true)
  | _ => none
def sp51g (g : Bool) : ESpec := fun al css => match al, css with
  | [.slice (some ⟨4, 0, none⟩) n c, .slice (some ⟨5, 0, none⟩) m c2], [cs, ps] => cond g (some (ok2 cs ps n c m c2 ∧ csE cs ps n m = 0, i 0)) (some (NoE cs ps n c m c2, i (csE cs ps n m)))
  | _, _ => none
theorem c51g (g : Bool) : ∀ al css os p v, sp51g g al css = some (p, v) → p → Blks css os → (∀ cs ∈ css, cs.all Ex.flat = true) ∧ clean 6 v = true ∧ ∃ H', Sound Tryz.prog (gl + css.length) (.call 51 ⟨al⟩ (heapL (deads ++ os))) (.val v H') := by
  intro al css os p v hs hp hb
  unfold sp51g at hs
  split at hs
  case h_2 => cases hs
  rename_i n c m c2 cs ps
  have key : ok2 cs ps n c m c2 → (∀ x ∈ [cs, ps], x.all Ex.flat = true) ∧ clean 6 (i (csE cs ps n m)) = true ∧ ∃ H', Sound Tryz.prog (gl + [cs, ps].length) (.call 51 ⟨[sl 4 0 n c, sl 5 0 m c2]⟩ (heapL (deads ++ os))) (.val (i (csE cs ps n m)) H') := fun h =>
    c51 [sl 4 0 n c, sl 5 0 m c2] [cs, ps] os (ok2 cs ps n c m c2) (i (csE cs ps n m)) rfl h hb
  cases g with
  | true => cases hs; have h := key hp.1; rwa [hp.2] at h
  | false => cases hs; exact key hp.1
noncomputable def TB (g zl zp : Bool) : Tb := ext (ext (ext (ext (ext (ext (ext (ext (ext (ext (T9 g) 45 (pureE s45 [] Hd)) 47 (newE (spC k5 5 77 zl) [] (heapL deads))) 48 (newE (spC k3 3 31 zp) [] (heapL deads))) 57 (newE (spC k2 2 177 zl) [] (heapL deads))) 53 (newE (sp53 zl) [] (heapL deads)))
  54 (autoE sp54 [] (heapL deads))) 56 (autoE sp56 [] (heapL deads))) 49 (autoE (sp49 g) [] (heapL deads))) 51 (autoE (sp51g g) [] (heapL deads))) 16 (pureE s16 [1, 2, 3] Ha)
theorem tsB {G : Nat} (g zl zp : Bool) : TSound Tryz.prog G (TB g zl zp) := by
  have h45 : TSound Tryz.prog G (ext (T9 g) 45 (pureE s45 [] Hd)) := (ts9 g).pure hd_vars fun args v h => by
    unfold s45 at h
    split at h
    · cases h; exact p45 _ _ _ _ _ _ _ _
    · cases h
  refine TSound.pure ha_vars (((((((((h45.new (f' := 47) (c47 zl)).new (f' := 48) (c48 zp)).new (f' := 57) (c57 zl)).new (f' := 53) (c53 zl)).auto c54).auto c56).auto (c49 g)).auto (c51g g))) fun args v h => ?_
  unfold s16 at h
  split at h
  · cases h; exact p16
  · cases h
end Go.Proofs.YtafpmehhdcmllaaGreatDoor.Ways
noncomputable section
namespace Go.Proofs.YtafpmehhdcmllaaGreatDoor.Ways
open Go Go.Ex Go.RowKit
/-! ### MarketSettles: the law's tree, for lists that are not empty -/
def mk_ (g : Bool) (l : List (Nat × Nat)) : List (Nat × Nat) := cond g [] l
noncomputable def spT (g : Bool) : Nat → Nat → Split := at_ ([(7, 21), (7, 25), (7, 30), (7, 34), (7, 40), (7, 76), (7, 92), (7, 96), (7, 101), (7, 112), (7, 117), (7, 122), (46, 19)] ++ mk_ g [(7, 81)]) .bool (at_ (mk_ g [(7, 82), (46, 21)]) (.ints []) no_)
def syT : Nat → Nat → Bool := on_ [(7, 42), (7, 43)]
noncomputable def CT (g zl zp : Bool) : Cfg := ⟨TB g zl zp, spT g, syT, noL⟩
noncomputable def o7 (g zl zp : Bool) (cs ps : List Value) (t s n t2 s2 m : Nat) (ex e2 : Bool) (a b c d e : Int) : Out QRes := execO Tryz.prog 6 (CT g zl zp) 80 (.call 7 ⟨[ag [i a, i b, i c, i d, i e], sl 4 0 n n, sl 5 0 m m]⟩ (heapL (hA ++ [.cells cs t s ex, .cells ps t2 s2 e2])))
def lt : VT := .leaf (b_ true)
def lf : VT := .leaf (b_ false)
section
variable (cs ps : List Value) (n m : Nat) (a b c d e : Int)
def P46 (g : Bool) : Prop := cond g (GoE cs ps n n m m) (NoE cs ps n n m m)
def P51 (g : Bool) : Prop := cond g (ok2 cs ps n n m m ∧ csE cs ps n m = 0) (NoE cs ps n n m m)
def P47 (zl : Bool) : Prop := cond zl (CzE k5 5 cs n n) (CmE k5 5 cs n n)
def P48 (zp : Bool) : Prop := cond zp (CzE k3 3 ps m m) (CmE k3 3 ps m m)
def eqT (p q : Q6) : Bool := p.2.1 == q.2.1 && (p.2.2.1 == q.2.2.1 && (p.2.2.2.1 == q.2.2.2.1 && (p.2.2.2.2.1 == q.2.2.2.2.1 && (p.2.2.2.2.2 == q.2.2.2.2.2 && true))))
def zQ : Q6 := (0, 0, 0, 0, 0, 0)
def rsP : List Value := rwL (fP cs ps) n
def rsR : List Value := rwL (fR cs ps) n
/-- the last part: what is compared; r: what the reference has as the amount -/
noncomputable def endT (g : Bool) (x y z r : Int) : VT :=
  .br (eqF (qcE a b c d e) (qcE a b c d e)) (.br (eqF (amP (qcE a b c d e) (pcE x y z) (rvP x y z a (enE c e))) r) (.br (eqF (fst2 (qcE a b c d e) (pcE x y z)) (fst2 (qcE a b c d e) (pcE x y z)))
    (cond g (fun t => aV (tru (CmE k2 2 (rsP cs ps n) n n)) (aV (tru (SwE (rsP cs ps n) (rsR cs ps n) n n n n)) t)) (fun t => t) <|
      .br (eqF (cond g 0 (csE cs ps n m)) (cond g 0 (csE cs ps n m))) (.br (cond g (eqT (bkS cs (ce 2 1 (rsP cs ps n)) n) (bkS cs (qR cs ps) n)) (eqT zQ zQ)) (.br (eqF (cond g 0 (csE cs ps n m)) (cond g 0 (csE cs ps n m))) lt lf) lf) lf) lf) lf) lf
noncomputable def refT (g : Bool) (x y z r : Int) : VT := cond g (aV (tru (PdE cs ps n n m m ∧ 1 ≤ n)) (aV (tru (PdE cs ps n n m m)) (endT cs ps n m a b c d e g x y z r))) (.br (eqF (csE cs ps n m) 0) .fail (endT cs ps n m a b c d e g x y z r))
noncomputable def mainT (g : Bool) (x y z : Int) : VT :=
  aV (tru (P47 cs n false)) <| aV (tru (P48 ps m false)) <| aV (tru (P46 cs ps n m g)) <| aV (tru (P47 cs n false)) <| aV (tru (P48 ps m false)) <| aV (tru (P46 cs ps n m g)) <|
  aV (tru (okI [i (qcE a b c d e), i (pcE x y z)] 2 2)) <| aV (tru (P51 cs ps n m g)) <|
  .br (eqF (fst2 (qcE a b c d e) (pcE x y z)) 0) (refT cs ps n m a b c d e g x y z (rvR x y z a (enE c e))) (refT cs ps n m a b c d e g x y z 0)
noncomputable def oneT (g : Bool) : VT := .br (ltF 0 m) (aV (bnd_ 0 m m) (aV (cR k3 3 ps 0) (mainT cs ps n m a b c d e g (ce 3 0 ps 0) (ce 3 1 ps 0) (ce 3 2 ps 0)))) (mainT cs ps n m a b c d e g 0 0 0)
noncomputable def preT (M : VT) : VT := .br (ltF 8 m) (.br (!eqF m 97) lt M) M
noncomputable def lawT (M : VT) : VT := .br (ltF 8 n) (.br (!eqF n 97) lt (preT m M)) (preT m M)
variable (t s t2 s2 : Nat) (ex e2 : Bool)
theorem w7t : (o7 true false false cs ps t s n t2 s2 m ex e2 a b c d e).vals = lawT n m (oneT cs ps n m a b c d e true) := by kernel_rfl
theorem w7f : (o7 false false false cs ps t s n t2 s2 m ex e2 a b c d e).vals = lawT n m (oneT cs ps n m a b c d e false) := by kernel_rfl
end
end Go.Proofs.YtafpmehhdcmllaaGreatDoor.Ways
