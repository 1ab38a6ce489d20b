import Derived.Test.YtphadgdlknhbnaaLc3
set_option maxRecDepth 10000
noncomputable section
namespace Go.Proofs.Ytphadgdlknhbnaa.Ways
open Go Go.Ex Go.RowKit Go.Turn
def nl : Value := .slice none 0 0
noncomputable def CN : Cfg := ⟨noT, spN, off_, noL⟩
noncomputable def oNN (f : Nat) : Out QRes := execO Try.prog 1 ⟨noT, no_, off_, noL⟩ 60 (.call f ⟨[nl, nl]⟩ (heapL deads))
section
variable (b : List Value) (t s n m c : Nat) (ex : Bool)
noncomputable def oNB (f : Nat) : Out QRes := execO Try.prog 2 CN 60 (.call f ⟨[nl, sl 1 0 m c]⟩ (heapL (deads ++ [.cells b t s ex])))
noncomputable def oBN (f : Nat) : Out QRes := execO Try.prog 2 CN 60 (.call f ⟨[sl 1 0 (n + 1) c, nl]⟩ (heapL (deads ++ [.cells b t s ex])))
noncomputable def oB0 (f : Nat) : Out QRes := execO Try.prog 2 ⟨noT, no_, off_, noL⟩ 60 (.call f ⟨[sl 1 0 0 c, nl]⟩ (heapL (deads ++ [.cells b t s ex])))
end
structure Emp (f : Nat) : Prop where
  nn : (oNN f).vals = .leaf (b_ true) ∧ oNN f = (oNN f).fix
  nb : ∀ b t s m c ex, (oNB b t s m c ex f).vals = .br (!eqF ((0 : Nat) : Int) m) (.leaf (b_ false)) .fail ∧ oNB b t s m c ex f = (oNB b t s m c ex f).fix
  bn : ∀ b t s n c ex, (oBN b t s n c ex f).vals = .br (!eqF ((n + 1 : Nat) : Int) ((0 : Nat) : Int)) (.leaf (b_ false)) .fail ∧ oBN b t s n c ex f = (oBN b t s n c ex f).fix
  b0 : ∀ b t s c ex, (oB0 b t s c ex f).vals = .leaf (b_ true) ∧ oB0 b t s c ex f = (oB0 b t s c ex f).fix
theorem e61 : Emp 61 := ⟨⟨by kernel_rfl, by kernel_rfl⟩, fun b t s m c ex => ⟨by kernel_rfl, by kernel_rfl⟩, fun b t s n c ex => ⟨by kernel_rfl, by kernel_rfl⟩, fun b t s c ex => ⟨by kernel_rfl, by kernel_rfl⟩⟩
theorem e62 : Emp 62 := ⟨⟨by kernel_rfl, by kernel_rfl⟩, fun b t s m c ex => ⟨by kernel_rfl, by kernel_rfl⟩, fun b t s n c ex => ⟨by kernel_rfl, by kernel_rfl⟩, fun b t s c ex => ⟨by kernel_rfl, by kernel_rfl⟩⟩
theorem e25 : Emp 25 := ⟨⟨by kernel_rfl, by kernel_rfl⟩, fun b t s m c ex => ⟨by kernel_rfl, by kernel_rfl⟩, fun b t s n c ex => ⟨by kernel_rfl, by kernel_rfl⟩, fun b t s c ex => ⟨by kernel_rfl, by kernel_rfl⟩⟩
theorem e16 : Emp 16 := ⟨⟨by kernel_rfl, by kernel_rfl⟩, fun b t s m c ex => ⟨by kernel_rfl, by kernel_rfl⟩, fun b t s n c ex => ⟨by kernel_rfl, by kernel_rfl⟩, fun b t s c ex => ⟨by kernel_rfl, by kernel_rfl⟩⟩
def spS1 (a : List Value) (al : List Value) : Option (Prop × Value) := match al with
  | [.slice (some ⟨1, 0, none⟩) n _, .slice none 0 0] => some (a.all Ex.flat = true, b_ (Nat.beq n 0))
  | [.slice none 0 0, .slice (some ⟨1, 0, none⟩) n _] => some (a.all Ex.flat = true ∧ 1 ≤ n, b_ false)
  | _ => none
def spS0 (al : List Value) : Option (Prop × Value) := match al with
  | [.slice none 0 0, .slice none 0 0] => some (True, b_ true)
  | _ => none
noncomputable def spS (eq : List Value → List Value → Nat → Bool) (ck : List Value → Int → Bool) : ESpec := fun al css => match css with
  | [a, b] => spSame eq ck al [a, b]
  | [a] => spS1 a al
  | [] => spS0 al
  | _ => none
theorem cS {f : Nat} {eq : List Value → List Value → Nat → Bool} {ck : List Value → Int → Bool} (he : Emp f)
    (h2 : ∀ al css os p v, spSame eq ck al css = some (p, v) → p → Blks css os → (∀ cs ∈ css, cs.all Ex.flat = true) ∧ clean 6 v = true ∧ ∃ H', Sound Try.prog (gl + css.length) (.call f ⟨al⟩ (heapL (deads ++ os))) (.val v H')) :
    ∀ al css os p v, spS eq ck al css = some (p, v) → p → Blks css os → (∀ cs ∈ css, cs.all Ex.flat = true) ∧ clean 6 v = true ∧ ∃ H', Sound Try.prog (gl + css.length) (.call f ⟨al⟩ (heapL (deads ++ os))) (.val v H') := by
  intro al css os p v hs hp hb
  match css, hs, hb with
  | [a, b], hs, hb => exact h2 al [a, b] os p v hs hp hb
  | [a], hs, hb =>
    obtain ⟨t, s, ex, rfl⟩ := blks1 hb
    have hs' : spS1 a al = some (p, v) := hs
    clear hs
    unfold spS1 at hs'
    split at hs'
    · rename_i n c
      cases hs'
      refine ⟨by simpa using hp, rfl, ?_⟩
      cases n with
      | zero =>
        obtain ⟨H', h'⟩ := Out.vals_sel (he.b0 a t s c ex).2 (v := b_ true) (by rw [(he.b0 a t s c ex).1]; rfl)
        exact ⟨H', execO_sound (C := ⟨noT, no_, off_, noL⟩) .none .none 60 _ _ h'⟩
      | succ n =>
        obtain ⟨H', h'⟩ := Out.vals_sel (he.bn a t s n c ex).2 (v := b_ false) (by
          rw [(he.bn a t s n c ex).1, vb_t (by rw [eqF_d, decide_eq_false (by omega)]; rfl)]; rfl)
        exact ⟨H', execO_sound (C := CN) .none .none 60 _ _ h'⟩
    · rename_i n c
      cases hs'
      refine ⟨by simpa using hp.1, rfl, ?_⟩
      obtain ⟨H', h'⟩ := Out.vals_sel (he.nb a t s n c ex).2 (v := b_ false) (by
        rw [(he.nb a t s n c ex).1, vb_t (by rw [eqF_d, decide_eq_false (by omega)]; rfl)]; rfl)
      exact ⟨H', execO_sound (C := CN) .none .none 60 _ _ h'⟩
    · cases hs'
  | [], hs, hb =>
    have hs' : spS0 al = some (p, v) := hs
    clear hs
    unfold spS0 at hs'
    split at hs'
    · cases hs'
      cases hb
      refine ⟨fun x hx => absurd hx List.not_mem_nil, rfl, ?_⟩
      obtain ⟨H', h'⟩ := Out.vals_sel he.nn.2 (v := b_ true) (by rw [he.nn.1]; rfl)
      exact ⟨H', execO_sound (C := ⟨noT, no_, off_, noL⟩) .none .none 60 _ _ h'⟩
    · cases hs'
  | _ :: _ :: _ :: _, hs, _ => cases hs
end Go.Proofs.Ytphadgdlknhbnaa.Ways
set_option maxRecDepth 10000
noncomputable section
namespace Go.Proofs.Ytphadgdlknhbnaa.Ways
open Go Go.Ex Go.RowKit Go.Turn
def sp18g (g : Bool) : ESpec := fun al css => match al, css with
  | [.slice (some ⟨1, 0, none⟩) n c], [cs] => cond g (some (BokE cs n c ∧ crE cs n = 0, i 0)) (some (BokE cs n c ∧ crE cs n ≠ 0, i (crE cs n)))
  | _, _ => none
theorem c18g (fn : Nat) (hf : fn = 18 ∨ fn = 20) (g : Bool) : ∀ al css os p v, sp18g g al css = some (p, v) → p → Blks css os → (∀ cs ∈ css, cs.all Ex.flat = true) ∧ clean 6 v = true ∧ ∃ H', Sound Try.prog (gl + css.length) (.call fn ⟨al⟩ (heapL (deads ++ os))) (.val v H') := by
  intro al css os p v hs hp hb
  unfold sp18g at hs
  split at hs
  case h_2 => cases hs
  rename_i n c cs
  have key : BokE cs n c → (∀ x ∈ [cs], x.all Ex.flat = true) ∧ clean 6 (i (crE cs n)) = true ∧ ∃ H', Sound Try.prog (gl + [cs].length) (.call fn ⟨[sl 1 0 n c]⟩ (heapL (deads ++ os))) (.val (i (crE cs n)) H') := fun h => by
    rcases hf with rfl | rfl
    · exact c18 [sl 1 0 n c] [cs] os (BokE cs n c) (i (crE cs n)) rfl h hb
    · exact c20 [sl 1 0 n c] [cs] os (BokE cs n c) (i (crE cs n)) rfl h hb
  cases g with
  | true => cases hs; have h := key hp.1; rwa [hp.2] at h
  | false => cases hs; exact key hp.1
def sp19s : NSpec := fun al css => match al, css with
  | [.slice (some ⟨1, 0, none⟩) (n + 1) c], [cs] => some (CmE cs (n + 1) c, .sl (n + 1) (n + 1) cs 67 2 false)
  | _, _ => none
theorem c19s : ∀ al css os p v, sp19s al css = some (p, v) → p → Blks css os → (∀ cs ∈ css, cs.all Ex.flat = true) ∧ v.Ok Try.prog 19 al deads os (gl + css.length) := by
  intro al css os p v hs hp hb
  unfold sp19s at hs
  split at hs
  case h_2 => cases hs
  rename_i n c cs
  cases hs
  exact c19 false [sl 1 0 (n + 1) c] [cs] os _ _ rfl hp hb
def sp23s : NSpec := fun al css => match al, css with
  | [.slice (some ⟨1, 0, none⟩) (n + 1) c], [cs] => some (CfE cs (n + 1) c, .sl (n + 1) (n + 1) cs 83 4 false)
  | _, _ => none
theorem c23s : ∀ al css os p v, sp23s al css = some (p, v) → p → Blks css os → (∀ cs ∈ css, cs.all Ex.flat = true) ∧ v.Ok Try.prog 23 al deads os (gl + css.length) := by
  intro al css os p v hs hp hb
  unfold sp23s at hs
  split at hs
  case h_2 => cases hs
  rename_i n c cs
  cases hs
  exact c23 [sl 1 0 (n + 1) c] [cs] os _ _ rfl hp hb
def sp24s (f : Bool) : TSpec := fun al css => match al, css with
  | [.slice (some ⟨1, 0, none⟩) (n + 1) c], [cs] => some (P59 f cs (n + 1) c, R24 f cs (n + 1))
  | _, _ => none
theorem c24s (f : Bool) : ∀ al css os p v, sp24s f al css = some (p, v) → p → Blks css os → (∀ cs ∈ css, cs.all Ex.flat = true) ∧ NC.Ok Try.prog 24 al deads os (gl + css.length) v := by
  intro al css os p v hs hp hb
  unfold sp24s at hs
  split at hs
  case h_2 => cases hs
  rename_i n c cs
  cases hs
  exact c24 f [sl 1 0 (n + 1) c] [cs] os _ _ rfl hp hb
noncomputable def TL (g f : Bool) : Tb := ext (ext (ext (ext (ext (ext (ext (ext (ext (ext (ext (ext (ext T14 9 (pureE s9 [] Hd)) 16 (autoE (spS eqP cP) [] (heapL deads))) 17 (newE sp17t [] (heapL deads))) 18 (autoE (sp18g g) [] (heapL deads))) 19 (newE sp19s [] (heapL deads))) 20 (autoE (sp18g g) [] (heapL deads)))
  23 (newE sp23s [] (heapL deads))) 24 (twoE (sp24s f) [] (heapL deads))) 25 (autoE (spS eqF4 cF) [] (heapL deads))) 26 (newE (sp23 69) [] (heapL deads))) 59 (twoE (sp59 f) [] (heapL deads))) 61 (autoE (spS eqF4 cF) [] (heapL deads))) 62 (autoE (spS eqP cP) [] (heapL deads))
theorem tsL {G : Nat} (haw : Pure Try.prog Hd 9 [] (b_ true)) (g f : Bool) : TSound Try.prog G (TL g f) := by
  have h9 : TSound Try.prog G (ext T14 9 (pureE s9 [] Hd)) := TSound.pure hd_vars ts14 fun args v h => by
    unfold s9 at h
    split at h
    · cases h; exact haw
    · cases h
  exact (((((((((((h9.auto (cS e16 c16b)).new c17t).auto (c18g 18 (.inl rfl) g)).new c19s).auto (c18g 20 (.inr rfl) g)).new c23s).two (c24s f)).auto (cS e25 c25)).new c26).two (c59 f)).auto (cS e61 c61)).auto (cS e62 c62)
def mkT (b : Bool) (l : List (Nat × Nat)) : List (Nat × Nat) := cond b l []
def spL (g f z zc zr : Bool) : Nat → Nat → Split := at_ ([(4, 20), (4, 25), (4, 30)] ++ (mkT (g && (f && !zc)) [(22, 19)] ++ (mkT (g && (!z && !zr)) [(22, 23)] ++ (mkT (g && f) [(4, 60), (4, 74)] ++ (mkT (g && !z) [(4, 65), (4, 80)] ++ mkT (!g) [(21, 11), (4, 51), (4, 69), (4, 85)]))))) .bool (at_ (mkT (!g) [(21, 14), (4, 53)]) (.ints []) no_)
noncomputable def CL (g f z zc zr : Bool) : Cfg := ⟨TL g f, spL g f z zc zr, off_, noL⟩
noncomputable def o4 (g f z zc zr : Bool) (cs ds rs : List Value) (n m k : Nat) (t s t2 s2 t3 s3 : Nat) (ex e2 e3 : Bool) : Out QRes := execO Try.prog 4 (CL g f z zc zr) 80 (.call 4 ⟨[sl 1 0 n n, sl 2 0 m m, sl 3 0 k k]⟩ (heapL (deads ++ [.cells cs t s ex, .cells ds t2 s2 e2, .cells rs t3 s3 e3])))
end Go.Proofs.Ytphadgdlknhbnaa.Ways
set_option maxRecDepth 10000
noncomputable section
namespace Go.Proofs.Ytphadgdlknhbnaa.Ways
open Go Go.Ex Go.RowKit Go.Turn
def nz (b : Bool) (n : Nat) : Nat := cond b 0 (n + 1)
section
variable (f z zc zr : Bool) (cs ds rs : List Value) (n m k : Nat)
noncomputable def cmp1 (A B : Bool) (ok oa ob : Prop) (same : Bool) (Kt Kf : VT) : VT :=
  cond A (cond B (aV (tru True) Kt) (aV (tru ob) Kf)) (cond B (aV (tru oa) Kf) (aV (tru ok) (.br same Kt Kf)))
noncomputable def cmp2 (A B : Bool) (ok oa : Prop) (same : Bool) (Kt Kf : VT) : VT :=
  cond B (aV (tru oa) (cond A Kt Kf)) (aV (tru ok) (.br (!same) Kf Kt))
noncomputable def nnT (K : VT) : VT := aV (tru True) K
noncomputable def ownT (b : Bool) (cs : List Value) (n : Nat) (K : VT) : VT := cond b K (aV (tru (CmE cs n n)) K)
noncomputable def cycT (b : Bool) (ds : List Value) (m : Nat) (K : VT) : VT := cond b K (aV (tru (CfE ds m m)) K)
noncomputable def cntT (K : VT) : VT := cond z K (aV (tru (BokE cs n n ∧ crE cs n = 0)) (aV (tru (P59 f cs n n)) K))
noncomputable def lcN : Nat := (cnt cs n).2.length
noncomputable def lN : Nat := (cnt cs n).1.length
noncomputable def FC : List Value := flatC (cnt cs n).2
noncomputable def RR : List Value := flatP (cnt cs n).1.reverse
noncomputable def stN : List Value := cellO (eO cs n n)
noncomputable def cpN : Nat := capO (eO cs n n)
noncomputable def l2T (e2 two : Int) : VT := cond z (nnT (.leaf (b_ (eqF e2 two))))
  (aV (tru (TokE (stN cs n) (lN cs n) (cpN cs n))) (aV (tru (okX cP (flatP (pts (stN cs n) (lN cs n))) (lN cs n) (lN cs n) ∧ okX cP (RR cs n) (lN cs n) (lN cs n))) (.br (sameE eqP (flatP (pts (stN cs n) (lN cs n))) (RR cs n) (lN cs n) (lN cs n)) (.leaf (b_ (eqF e2 two))) lfU)))
noncomputable def lastT (e2 two : Int) : VT := cond f (aV (tru (CfE (FC cs n) (lcN cs n) (lcN cs n))) (aV (tru (okX cF (FC cs n) (lcN cs n) (lcN cs n) ∧ okX cF (FC cs n) (lcN cs n) (lcN cs n))) (.br (sameE eqF4 (FC cs n) (FC cs n) (lcN cs n) (lcN cs n)) (l2T z cs n e2 two) lfU)))
  (nnT (l2T z cs n e2 two))
noncomputable def refT (e2 : Int) : VT := aV (tru (BokE cs n n ∧ crE cs n = 0)) <| cond z (fun t => t) (aV (tru (P59 f cs n n))) <|
  cmp2 zc (!f) (okX cF ds m m ∧ okX cF (FC cs n) (lcN cs n) (lcN cs n)) (ds.all Ex.flat = true) (sameE eqF4 ds (FC cs n) m (lcN cs n))
    (cmp2 zr z (okX cP rs k k ∧ okX cP (RR cs n) (lN cs n) (lN cs n)) (rs.all Ex.flat = true) (sameE eqP rs (RR cs n) k (lN cs n)) (lastT f z cs n e2 0) (lastT f z cs n e2 22)) (lastT f z cs n e2 22)
noncomputable def finT (e x : Int) (K : Int → VT) : VT := aV (tru (okI [i e, i x] 2 2)) (K (fst2 e x))
noncomputable def goodT : VT := ownT z cs n <| cntT f z cs n <| ownT z cs n <| cycT zc ds m <| ownT zr rs k <| cntT f z cs n <|
  cmp1 zc (!f) (okX cF ds m m ∧ okX cF (FC cs n) (lcN cs n) (lcN cs n)) (ds.all Ex.flat = true) ((FC cs n).all Ex.flat = true ∧ 1 ≤ lcN cs n) (sameE eqF4 ds (FC cs n) m (lcN cs n))
    (cmp1 zr z (okX cP rs k k ∧ okX cP (stN cs n) (lN cs n) (cpN cs n)) (rs.all Ex.flat = true) ((stN cs n).all Ex.flat = true ∧ 1 ≤ lN cs n) (sameE eqP rs (stN cs n) k (lN cs n)) (finT 0 0 (refT f z zc zr cs ds rs n m k)) (finT 0 22 (refT f z zc zr cs ds rs n m k))) (finT 0 22 (refT f z zc zr cs ds rs n m k))
noncomputable def ckT (K : VT) : VT := aV (tru (BokE cs n n ∧ crE cs n ≠ 0)) (.br (!eqF (crE cs n) 0) K .fail)
noncomputable def refB (e2 : Int) : VT := aV (tru (BokE cs n n ∧ crE cs n ≠ 0)) <| .br (eqF (crE cs n) 0) .fail <| .br (eqF (crE cs n) (crE cs n)) (nnT (nnT (.br (eqF e2 (crE cs n)) ltU lfU))) lfU
noncomputable def badT : VT := ownT false cs n <| ckT cs n <| ownT false cs n <| cycT zc ds m <| ownT zr rs k <| ckT cs n <|
  cmp1 zc true True (ds.all Ex.flat = true) True true (cmp1 zr true True (rs.all Ex.flat = true) True true (finT (crE cs n) 0 (refB cs n)) (finT (crE cs n) 22 (refB cs n))) (finT (crE cs n) 22 (refB cs n))
noncomputable def lawT4 (g : Bool) : VT := .br (!leF n 20) ltU (.br (!leF k 20) ltU (.br (ltF 20 m) ltU (cond g (goodT f z zc zr cs ds rs n m k) (badT zc zr cs ds rs n m k))))
variable (t s t2 s2 t3 s3 : Nat) (ex e2 e3 : Bool)
def nok (g f z : Bool) : Bool := cond g (cond z (!f) true) (!f && !z)
theorem w4 : ∀ g f z zc zr, nok g f z = true → (o4 g f z zc zr cs ds rs (nz z n) (nz zc m) (nz zr k) t s t2 s2 t3 s3 ex e2 e3).vals = lawT4 f z zc zr cs ds rs (nz z n) (nz zc m) (nz zr k) g
  | true, true, true, _, _, h => by cases h
  | true, true, false, true, true, _ => by kernel_rfl
  | true, true, false, true, false, _ => by kernel_rfl
  | true, true, false, false, true, _ => by kernel_rfl
  | true, true, false, false, false, _ => by kernel_rfl
  | true, false, true, true, true, _ => by kernel_rfl
  | true, false, true, true, false, _ => by kernel_rfl
  | true, false, true, false, true, _ => by kernel_rfl
  | true, false, true, false, false, _ => by kernel_rfl
  | true, false, false, true, true, _ => by kernel_rfl
  | true, false, false, true, false, _ => by kernel_rfl
  | true, false, false, false, true, _ => by kernel_rfl
  | true, false, false, false, false, _ => by kernel_rfl
  | false, true, true, _, _, h => by cases h
  | false, true, false, _, _, h => by cases h
  | false, false, true, _, _, h => by cases h
  | false, false, false, true, true, _ => by kernel_rfl
  | false, false, false, true, false, _ => by kernel_rfl
  | false, false, false, false, true, _ => by kernel_rfl
  | false, false, false, false, false, _ => by kernel_rfl
theorem y4 : ∀ g f z zc zr, nok g f z = true → o4 g f z zc zr cs ds rs (nz z n) (nz zc m) (nz zr k) t s t2 s2 t3 s3 ex e2 e3 = (o4 g f z zc zr cs ds rs (nz z n) (nz zc m) (nz zr k) t s t2 s2 t3 s3 ex e2 e3).fix
  | true, true, true, _, _, h => by cases h
  | true, true, false, true, true, _ => by kernel_rfl
  | true, true, false, true, false, _ => by kernel_rfl
  | true, true, false, false, true, _ => by kernel_rfl
  | true, true, false, false, false, _ => by kernel_rfl
  | true, false, true, true, true, _ => by kernel_rfl
  | true, false, true, true, false, _ => by kernel_rfl
  | true, false, true, false, true, _ => by kernel_rfl
  | true, false, true, false, false, _ => by kernel_rfl
  | true, false, false, true, true, _ => by kernel_rfl
  | true, false, false, true, false, _ => by kernel_rfl
  | true, false, false, false, true, _ => by kernel_rfl
  | true, false, false, false, false, _ => by kernel_rfl
  | false, true, true, _, _, h => by cases h
  | false, true, false, _, _, h => by cases h
  | false, false, true, _, _, h => by cases h
  | false, false, false, true, true, _ => by kernel_rfl
  | false, false, false, true, false, _ => by kernel_rfl
  | false, false, false, false, true, _ => by kernel_rfl
  | false, false, false, false, false, _ => by kernel_rfl
end
end Go.Proofs.Ytphadgdlknhbnaa.Ways
set_option maxRecDepth 10000
noncomputable section
namespace Go.Proofs.Ytphadgdlknhbnaa.Ways
open Go Go.Ex Go.RowKit Go.Turn
theorem aP {P : Prop} {t : VT} (h : P) : (aV (tru P) t).sel = t.sel := aV_sel (tru_iff.2 h)
def rawP (rs : List Value) (m : Nat) : Prop := rs.all Ex.flat = true ∧ rs.length = m * 2 ∧ ∀ j, j < m → areCells k2 rs (0 + j * 2) = true
theorem eqP_self (a : List Value) (j : Nat) : eqP a a j = true := by
  unfold eqP
  rw [beq_self_eq_true, beq_self_eq_true]; rfl
theorem okF_flat (C : List Cy) (h : C.length < 1000000) : okF (flatC C) C.length C.length := by
  refine ⟨flatC_flat C, Nat.le_refl _, by omega, fun j hj => ?_⟩
  have e : C = C.take j ++ C[j] :: C.drop (j + 1) := by rw [List.getElem_cons_drop, List.take_append_drop]
  have e2 : flatC C = flatC (C.take j) ++ (cyL C[j] ++ flatC (C.drop (j + 1))) := by
    have h1 := congrArg flatC e
    rw [flatC_app] at h1
    exact h1
  have hl : 0 + j * 4 = (flatC (C.take j)).length + 0 := by rw [flatC_len, List.length_take]; omega
  rw [hl, e2, areCells_app]; rfl
theorem okP_app {P : List Pt} {J : List Value} {c : Nat} (hf : (flatP P ++ J).all Ex.flat = true) (h : P.length < 1000000) (hc : P.length ≤ c) : okP (flatP P ++ J) P.length c := by
  refine ⟨hf, hc, by omega, fun j hj => ?_⟩
  obtain ⟨h1, h2⟩ := flatP_get P j hj
  rw [show 0 + j * 2 = j * 2 from by omega]
  refine areCells_k2 ?_ ?_
  · rw [List.getElem?_append_left (by rw [flatP_len]; omega), h1]; rfl
  · rw [List.getElem?_append_left (by rw [flatP_len]; omega), h2]; rfl
theorem firstF_congr {e e' : Nat → Int} : ∀ (m j : Nat), (∀ q, j ≤ q → q < j + m → e q = e' q) → firstF e m j = firstF e' m j
  | 0, _, _ => rfl
  | m + 1, j, h => by
    have h0 := h j (Nat.le_refl _) (by omega)
    have ih := firstF_congr m (j + 1) (fun q _ _ => h q (by omega) (by omega))
    show (if e j ≠ 0 then e j else firstF e m (j + 1)) = (if e' j ≠ 0 then e' j else firstF e' m (j + 1))
    rw [h0, ih]
theorem sameE_congr {eq : List Value → List Value → Nat → Bool} {a b b' : List Value} {n m : Nat} (h : n = m → ∀ j, j < n → eq a b j = eq a b' j) : sameE eq a b n m = sameE eq a b' n m := by
  unfold sameE
  by_cases hn : n = m
  · rw [firstF_congr (e := fun j => cond (eq a b j) 0 1) (e' := fun j => cond (eq a b' j) 0 1) n 0 (fun q _ hq => by rw [h hn q (by omega)])]
  · rw [decide_eq_false hn]; rfl
theorem firstF_zero {e : Nat → Int} : ∀ (m j : Nat), (∀ q, e q = 0) → firstF e m j = 0
  | 0, _, _ => rfl
  | m + 1, j, h => by
    show (if e j ≠ 0 then e j else firstF e m (j + 1)) = 0
    rw [h j, firstF_zero m (j + 1) h]; rfl
theorem sameE_self {eq : List Value → List Value → Nat → Bool} {a : List Value} {n : Nat} (h : ∀ j, eq a a j = true) : sameE eq a a n n = true := by
  unfold sameE
  rw [firstF_zero n 0 (fun q => by rw [h q]; rfl), decide_eq_true rfl]; rfl
theorem eqF4_self (a : List Value) (j : Nat) : eqF4 a a j = true := by
  unfold eqF4
  simp
section
variable {cs : List Value} {n : Nat}
theorem st_all (h : okP cs n n) (hn : n < 999990) : (stN cs n).all Ex.flat = true := by
  obtain ⟨⟨m, hr⟩, _⟩ := eO_rep h hn
  have hgd : GdO (eO cs n n) := runS_good (Good := GdO) goodO (s := TO.z) (by trivial) hr
  unfold stN
  generalize eO cs n n = q at hgd
  cases q with
  | z => rfl
  | s _ _ _ _ => exact hgd
  | b _ _ _ _ _ _ => exact hgd.1
theorem st_ok (h : okP cs n n) (h1 : 1 ≤ n) (hn : n < 999990) : okP (stN cs n) (lN cs n) (cpN cs n) ∧ flatP (pts (stN cs n) (lN cs n)) = RR cs n ∧ ∀ a k, sameE eqP a (stN cs n) k (lN cs n) = sameE eqP a (RR cs n) k (lN cs n) := by
  have hf := st_all h hn
  have hl := cnt_len cs n
  obtain ⟨_, h2, _, J, hJ⟩ := cell_rep h h1 hn
  have hJ' : stN cs n = flatP (cnt cs n).1.reverse ++ J := hJ
  have hlen : (cnt cs n).1.reverse.length = lN cs n := by rw [List.length_reverse]; rfl
  refine ⟨?_, ?_, fun a k => sameE_congr fun hk j hj => ?_⟩
  · rw [hJ', ← hlen]
    exact okP_app (by rw [← hJ']; exact hf) (by rw [List.length_reverse]; omega) (by rw [List.length_reverse]; exact h2)
  · rw [hJ', ← hlen, pts_app _ _ _ (Nat.le_refl _), List.take_length]; rfl
  · have hj' : j < (cnt cs n).1.reverse.length := by rw [hlen]; omega
    have e1 : pA (stN cs n) j = pA (RR cs n) j := by
      unfold pA RR
      rw [hJ', List.getElem?_append_left (by rw [flatP_len]; omega)]
    have e2 : pB (stN cs n) j = pB (RR cs n) j := by
      unfold pB RR
      rw [hJ', List.getElem?_append_left (by rw [flatP_len]; omega)]
    unfold eqP
    rw [e1, e2]
theorem lN_pos (h1 : 1 ≤ n) : 1 ≤ lN cs n := by
  have := cnt_ne cs h1
  exact List.length_pos_iff.2 this
end
theorem aPT {t : VT} : (aV (tru True) t).sel = t.sel := aP trivial
theorem cmp1_sel {A B : Bool} {ok oa ob : Prop} {same : Bool} {Kt Kf : VT} (h1 : A = false → B = false → ok) (h2 : A = false → B = true → oa) (h3 : A = true → B = false → ob) : (cmp1 A B ok oa ob same Kt Kf).sel = (cond (cond A B (!B && same)) Kt Kf).sel := by
  unfold cmp1
  cases A <;> cases B
  · show (aV (tru ok) (.br same Kt Kf)).sel = _
    rw [aP (h1 rfl rfl)]
    cases same <;> rfl
  · show (aV (tru oa) Kf).sel = _
    rw [aP (h2 rfl rfl)]; rfl
  · show (aV (tru ob) Kf).sel = _
    rw [aP (h3 rfl rfl)]; rfl
  · show (aV (tru True) Kt).sel = _
    rw [aPT]; rfl
theorem cmp2_sel {A B : Bool} {ok oa : Prop} {same : Bool} {Kt Kf : VT} (h1 : B = false → ok) (h2 : B = true → oa) (h3 : A = true → B = false → same = false) : (cmp2 A B ok oa same Kt Kf).sel = (cond (cond A B (!B && same)) Kt Kf).sel := by
  unfold cmp2
  cases B
  · show (aV (tru ok) (.br (!same) Kf Kt)).sel = _
    rw [aP (h1 rfl)]
    cases A
    · cases same <;> rfl
    · rw [h3 rfl rfl]; rfl
  · show (aV (tru oa) (cond A Kt Kf)).sel = _
    rw [aP (h2 rfl)]
    cases A <;> rfl
def rawF (ds : List Value) (m : Nat) : Prop := ds.all Ex.flat = true ∧ ds.length = m * 4 ∧ ∀ j, j < m → areCells k4 ds (0 + j * 4) = true
section
variable {f z zc zr : Bool} {cs ds rs : List Value} {n m k : Nat}
theorem last_sel (h : okP cs n n) (hn : n < 999990) (hz : z = true ↔ n = 0) (hf : f = true ↔ (cnt cs n).2 ≠ []) (e2 two : Int) : (lastT f z cs n e2 two).sel = some (b_ (eqF e2 two)) := by
  have hl := cnt_len cs n
  have hL2 : (l2T z cs n e2 two).sel = some (b_ (eqF e2 two)) := by
    unfold l2T
    cases z with
    | true =>
      show (nnT _).sel = _
      unfold nnT
      rw [aPT]; rfl
    | false =>
      have h1 : 1 ≤ n := by
        rcases Nat.eq_zero_or_pos n with h0 | h0
        · exact absurd (hz.2 h0) (by decide)
        · exact h0
      obtain ⟨g1, g2, _⟩ := st_ok h h1 hn
      have g3 : okX cP (RR cs n) (lN cs n) (lN cs n) := okX_P (okP_rev (R := (cnt cs n).1) (by omega))
      have gl : lN cs n < 1000000 := by show (cnt cs n).1.length < _; omega
      show (aV (tru (TokE (stN cs n) (lN cs n) (cpN cs n))) _).sel = _
      rw [aP ⟨g1, lN_pos h1, gl⟩, g2, aP ⟨g3, g3⟩, sameE_self (eqP_self _)]; rfl
  unfold lastT
  cases f with
  | true =>
    have hne := hf.1 rfl
    have gF : okF (FC cs n) (lcN cs n) (lcN cs n) := okF_flat _ (by omega)
    have g1 : 1 ≤ lcN cs n := List.length_pos_iff.2 hne
    have g2 : lcN cs n < 1000000 := by show (cnt cs n).2.length < _; omega
    show (aV (tru (CfE (FC cs n) (lcN cs n) (lcN cs n))) _).sel = _
    rw [aP ⟨gF, g1, g2, flatC_len _⟩, aP ⟨okX_F gF, okX_F gF⟩, sameE_self (eqF4_self _)]
    exact hL2
  | false =>
    show (nnT _).sel = _
    unfold nnT
    rw [aPT]
    exact hL2
structure Way (f z zc zr : Bool) (cs ds rs : List Value) (n m k : Nat) : Prop where
  c : rawP cs n
  d : rawF ds m
  r : rawP rs k
  hn : n ≤ 20
  hm : m ≤ 20
  hk : k ≤ 20
  hz : z = true ↔ n = 0
  hzc : zc = true ↔ m = 0
  hzr : zr = true ↔ k = 0
theorem pos_of {z : Bool} {n : Nat} (h : z = true ↔ n = 0) (h2 : z = false) : 1 ≤ n := by
  rcases Nat.eq_zero_or_pos n with h0 | h0
  · rw [h.2 h0] at h2; cases h2
  · exact h0
theorem okP_raw {cs : List Value} {n : Nat} (h : rawP cs n) (hn : n ≤ 20) : okP cs n n := ⟨h.1, Nat.le_refl n, by omega, h.2.2⟩
theorem own_sel {b : Bool} {rs : List Value} {k : Nat} {K : VT} (h : rawP rs k) (hk : k ≤ 20) (hb : b = true ↔ k = 0) : (ownT b rs k K).sel = K.sel := by
  unfold ownT
  cases b with
  | true => rfl
  | false => exact aP ⟨⟨okP_raw h hk, pos_of hb rfl, by omega⟩, h.2.1⟩
theorem cyc_sel {b : Bool} {ds : List Value} {m : Nat} {K : VT} (h : rawF ds m) (hm : m ≤ 20) (hb : b = true ↔ m = 0) : (cycT b ds m K).sel = K.sel := by
  unfold cycT
  cases b with
  | true => rfl
  | false => exact aP ⟨⟨h.1, Nat.le_refl m, by omega, h.2.2⟩, pos_of hb rfl, by omega, h.2.1⟩
theorem nf {f : Bool} (h : (!f) = false) : f = true := by
  cases f with
  | true => rfl
  | false => cases h
theorem good_sel (w : Way f z zc zr cs ds rs n m k) (hg : crE cs n = 0) (hf : f = true ↔ (cnt cs n).2 ≠ []) : (goodT f z zc zr cs ds rs n m k).sel = some (b_ true) := by
  have hcs := okP_raw w.c w.hn
  have hb : BokE cs n n := ⟨hcs, by have := w.hn; omega⟩
  have hn : n < 999990 := by have := w.hn; omega
  have hl := cnt_len cs n
  have h59 : z = false → P59 f cs n n := fun h => ⟨hcs, pos_of w.hz h, hn, by
    cases f with
    | true => rw [if_pos rfl]; exact hf.1 rfl
    | false =>
      rw [if_neg (by decide)]
      cases hh : (cnt cs n).2 with
      | nil => rfl
      | cons _ _ => exact absurd (hf.2 (by rw [hh]; exact List.cons_ne_nil _ _)) (by decide)⟩
  have hcnt : ∀ K, (cntT f z cs n K).sel = K.sel := fun K => by
    unfold cntT
    cases z with
    | true => rfl
    | false => exact (aP ⟨hb, hg⟩).trans (aP (h59 rfl))
  have hd : okX cF ds m m := ⟨w.d.1, Nat.le_refl m, by have := w.hm; omega, w.d.2.2⟩
  have hrs : okX cP rs k k := okP_raw w.r w.hk
  have hF : okX cF (FC cs n) (lcN cs n) (lcN cs n) := okX_F (okF_flat _ (by omega))
  have hR : okX cP (RR cs n) (lN cs n) (lN cs n) := okX_P (okP_rev (R := (cnt cs n).1) (by omega))
  have hlc : f = true → 1 ≤ lcN cs n := fun h => List.length_pos_iff.2 (hf.1 h)
  have href : ∀ e2, (refT f z zc zr cs ds rs n m k e2).sel = some (b_ (eqF e2 (cond (cond zc (!f) (f && sameE eqF4 ds (FC cs n) m (lcN cs n)) && cond zr z (!z && sameE eqP rs (RR cs n) k (lN cs n))) 0 22))) := fun e2 => by
    unfold refT
    rw [aP ⟨hb, hg⟩]
    have hz2 : ∀ K, ((cond z (fun t => t) (aV (tru (P59 f cs n n)))) K).sel = K.sel := fun K => by
      cases z with
      | true => rfl
      | false => exact aP (h59 rfl)
    rw [hz2, cmp2_sel (fun _ => ⟨hd, hF⟩) (fun _ => w.d.1) (fun h h2 => sameE_ne (by rw [w.hzc.1 h]; have := hlc (nf h2); omega)), Bool.not_not]
    cases hC : cond zc (!f) (f && sameE eqF4 ds (FC cs n) m (lcN cs n)) with
    | false => exact last_sel hcs hn w.hz hf e2 22
    | true =>
      show (cmp2 zr z _ _ _ _ _).sel = _
      rw [cmp2_sel (fun _ => ⟨hrs, hR⟩) (fun _ => w.r.1) (fun h h2 => sameE_ne (by rw [w.hzr.1 h]; have := lN_pos (cs := cs) (pos_of w.hz h2); omega))]
      cases hD : cond zr z (!z && sameE eqP rs (RR cs n) k (lN cs n)) with
      | false => exact last_sel hcs hn w.hz hf e2 22
      | true => exact last_sel hcs hn w.hz hf e2 0
  have hfin : ∀ x, (finT 0 x (refT f z zc zr cs ds rs n m k)).sel = some (b_ (eqF (fst2 0 x) (cond (cond zc (!f) (f && sameE eqF4 ds (FC cs n) m (lcN cs n)) && cond zr z (!z && sameE eqP rs (RR cs n) k (lN cs n))) 0 22))) := fun x => by
    unfold finT
    rw [aP (okI2 _ _), href]
  unfold goodT
  rw [own_sel w.c w.hn w.hz, hcnt, own_sel w.c w.hn w.hz, cyc_sel w.d w.hm w.hzc, own_sel w.r w.hk w.hzr, hcnt,
    cmp1_sel (fun _ _ => ⟨hd, hF⟩) (fun _ _ => w.d.1) (fun _ h2 => ⟨flatC_flat _, hlc (nf h2)⟩), Bool.not_not]
  cases hC : cond zc (!f) (f && sameE eqF4 ds (FC cs n) m (lcN cs n)) with
  | false =>
    show (finT 0 22 _).sel = _
    rw [hfin, hC]; rfl
  | true =>
    show (cmp1 zr z _ _ _ _ _ _).sel = _
    rw [cmp1_sel (fun _ h2 => ⟨hrs, okX_P (st_ok hcs (pos_of w.hz h2) hn).1⟩) (fun _ _ => w.r.1) (fun _ h2 => ⟨st_all hcs hn, lN_pos (pos_of w.hz h2)⟩)]
    have hs : cond zr z (!z && sameE eqP rs (stN cs n) k (lN cs n)) = cond zr z (!z && sameE eqP rs (RR cs n) k (lN cs n)) := by
      cases z with
      | true => rfl
      | false => rw [(st_ok hcs (pos_of w.hz rfl) hn).2.2]
    rw [hs]
    cases hD : cond zr z (!z && sameE eqP rs (RR cs n) k (lN cs n)) with
    | false =>
      show (finT 0 22 _).sel = _
      rw [hfin, hC, hD]; rfl
    | true =>
      show (finT 0 0 _).sel = _
      rw [hfin, hC, hD]; rfl
theorem bad_sel (w : Way f false zc zr cs ds rs n m k) (hg : crE cs n ≠ 0) : (badT zc zr cs ds rs n m k).sel = some (b_ true) := by
  have hcs := okP_raw w.c w.hn
  have hb : BokE cs n n := ⟨hcs, by have := w.hn; omega⟩
  have hck : ∀ K, (ckT cs n K).sel = K.sel := fun K => by
    unfold ckT
    rw [aP ⟨hb, hg⟩]
    exact vb_t (by rw [eqF_d, decide_eq_false hg]; rfl)
  have hfin : ∀ x, (finT (crE cs n) x (refB cs n)).sel = some (b_ true) := fun x => by
    have hfx : fst2 (crE cs n) x = crE cs n := by rw [fst2', if_pos hg]
    unfold finT
    rw [aP (okI2 _ _), hfx]
    unfold refB
    rw [aP ⟨hb, hg⟩, vb_f (by rw [eqF_d, decide_eq_false hg]), vb_t (by rw [eqF_d, decide_eq_true rfl])]
    unfold nnT
    rw [aPT, aPT, vb_t (by rw [eqF_d, decide_eq_true rfl])]; rfl
  unfold badT
  rw [own_sel w.c w.hn w.hz, hck, own_sel w.c w.hn w.hz, cyc_sel w.d w.hm w.hzc, own_sel w.r w.hk w.hzr, hck, cmp1_sel (fun _ _ => trivial) (fun _ _ => w.d.1) (fun _ _ => trivial)]
  cases zc with
  | false => exact hfin 22
  | true =>
    show (cmp1 zr true _ _ _ _ _ _).sel = _
    rw [cmp1_sel (fun _ _ => trivial) (fun _ _ => w.r.1) (fun _ _ => trivial)]
    cases zr with
    | false => exact hfin 22
    | true => exact hfin 0
end
theorem crE0 (cs : List Value) : crE cs 0 = 0 := rfl
theorem nz_eq (n : Nat) : nz (decide (n = 0)) (n - 1) = n := by
  unfold nz
  by_cases h : n = 0
  · rw [decide_eq_true h, h]; rfl
  · rw [decide_eq_false h]
    show n - 1 + 1 = n
    omega
theorem law_true4 (haw : Pure Try.prog Hd 9 [] (b_ true)) {cs ds rs : List Value} {n m k t s t2 s2 t3 s3 : Nat} {ex e2 e3 : Bool} (hc : rawP cs n) (hd : rawF ds m) (hr : rawP rs k) :
    ∃ H', Sound Try.prog 4 (.call 4 ⟨[sl 1 0 n n, sl 2 0 m m, sl 3 0 k k]⟩ (heapL (deads ++ [.cells cs t s ex, .cells ds t2 s2 e2, .cells rs t3 s3 e3]))) (.val (b_ true) H') := by
  obtain ⟨g, hgd⟩ : ∃ g : Bool, g = decide (crE cs n = 0) := ⟨_, rfl⟩
  obtain ⟨z, hzd⟩ : ∃ z : Bool, z = decide (n = 0) := ⟨_, rfl⟩
  obtain ⟨zc, hzcd⟩ : ∃ z : Bool, z = decide (m = 0) := ⟨_, rfl⟩
  obtain ⟨zr, hzrd⟩ : ∃ z : Bool, z = decide (k = 0) := ⟨_, rfl⟩
  obtain ⟨f, hfd⟩ : ∃ f : Bool, f = (g && !((cnt cs n).2.isEmpty)) := ⟨_, rfl⟩
  have hz : z = true ↔ n = 0 := by rw [hzd]; simp
  have hzc : zc = true ↔ m = 0 := by rw [hzcd]; simp
  have hzr : zr = true ↔ k = 0 := by rw [hzrd]; simp
  have hg : g = true ↔ crE cs n = 0 := by rw [hgd]; simp
  have hok : nok g f z = true := by
    unfold nok
    cases hgb : g with
    | true =>
      cases hzb : z with
      | false => rfl
      | true =>
        have h0 := hz.1 hzb
        rw [hfd, hgb, h0]; rfl
    | false =>
      cases hzb : z with
      | true =>
        have h0 := hz.1 hzb
        have h1 : g = true := hg.2 (by rw [h0]; exact crE0 cs)
        rw [hgb] at h1; cases h1
      | false => rw [hfd, hgb]; rfl
  have hn1 : nz z (n - 1) = n := by rw [hzd]; exact nz_eq n
  have hm1 : nz zc (m - 1) = m := by rw [hzcd]; exact nz_eq m
  have hk1 : nz zr (k - 1) = k := by rw [hzrd]; exact nz_eq k
  have hv := w4 cs ds rs (n - 1) (m - 1) (k - 1) t s t2 s2 t3 s3 ex e2 e3 g f z zc zr hok
  have hy := y4 cs ds rs (n - 1) (m - 1) (k - 1) t s t2 s2 t3 s3 ex e2 e3 g f z zc zr hok
  rw [hn1, hm1, hk1] at hv hy
  have hsel : (lawT4 f z zc zr cs ds rs n m k g).sel = some (b_ true) := by
    unfold lawT4
    by_cases h1 : n ≤ 20
    · rw [vb_f (by rw [leF_eq, decide_eq_true (by omega)]; rfl)]
      by_cases h2 : k ≤ 20
      · rw [vb_f (by rw [leF_eq, decide_eq_true (by omega)]; rfl)]
        by_cases h3 : m ≤ 20
        · rw [vb_f (by rw [ltF_eq]; exact decide_eq_false (by omega))]
          have w : Way f z zc zr cs ds rs n m k := ⟨hc, hd, hr, h1, h3, h2, hz, hzc, hzr⟩
          cases hgb : g with
          | true =>
            refine good_sel w (hg.1 hgb) ?_
            rw [hfd, hgb, Bool.true_and]
            simp
          | false =>
            have hne : crE cs n ≠ 0 := fun h => by rw [hg.2 h] at hgb; cases hgb
            have hzf : z = false := by
              cases hzb : z with
              | false => rfl
              | true => exact absurd (by rw [hz.1 hzb]; exact crE0 cs) hne
            subst hzf
            exact bad_sel w hne
        · rw [vb_t (by rw [ltF_eq]; exact decide_eq_true (by omega))]; rfl
      · rw [vb_t (by rw [leF_eq, decide_eq_false (by omega)]; rfl)]; rfl
    · rw [vb_t (by rw [leF_eq, decide_eq_false (by omega)]; rfl)]; rfl
  obtain ⟨H', h'⟩ := Out.vals_sel hy (v := b_ true) (by rw [hv]; exact hsel)
  exact ⟨H', execO_sound (C := CL g f z zc zr) (tsL haw g f) .none 80 _ _ h'⟩
end Go.Proofs.Ytphadgdlknhbnaa.Ways
