import Derived.Test.YtphadgdlknhbnaaJf1
import Derived.Test.YtphadgdlknhbnaaKm1
set_option maxRecDepth 10000
noncomputable section
namespace Go.Proofs.Ytphadgdlknhbnaa.Ways
open Go Go.Ex Go.RowKit Go.Turn
noncomputable def T36z : Tb := ext (ext TZ3 11 (newE (sp11 true true) [] (heapL deads))) 12 (xE 0 rd0 sp12 [] (heapL deads))
theorem ts36z {G : Nat} : TSound Try.prog G T36z := (tsZ3.new (f' := 11) (c11 true true)).x c12
section
variable (cs : List Value) (t s : Nat) (ex : Bool)
noncomputable def o36z : Out QRes := execO Try.prog 2 ⟨T36z, no_, off_, noL⟩ 80 (.call 36 ⟨[sl 1 0 0 0]⟩ (heapL (deads ++ [.cells cs t s ex])))
theorem v36z : (o36z cs t s ex).twos [] = (aT (tru (okC cs 0 0)) <| aT (tru (RzE cs 0 0)) <| .leaf (tp [.slice none 0 0, .slice none 0 0, b_ true]) []) := by kernel_rfl
theorem x36z : o36z cs t s ex = (o36z cs t s ex).fix := by kernel_rfl
end
noncomputable def sp36s (f : Bool) : TSpec := fun al css => match al, css with
  | [.slice (some ⟨1, 0, none⟩) (n + 1) c], [cs] => some (c = n + 1 ∧ P36 f cs (n + 1), R36 f cs (n + 1))
  | [.slice (some ⟨1, 0, none⟩) 0 0], [cs] => some (cs = [], [.v (.slice none 0 0), .v (.slice none 0 0), .v (b_ true)])
  | _, _ => none
theorem c36s (f : Bool) : ∀ al css os p v, sp36s f al css = some (p, v) → p → Blks css os → (∀ cs ∈ css, cs.all Ex.flat = true) ∧ NC.Ok Try.prog 36 al deads os (gl + css.length) v := by
  intro al css os p v hs hp hb
  unfold sp36s at hs
  split at hs
  · rename_i n c cs
    cases hs
    exact c36 f [sl 1 0 (n + 1) c] [cs] os _ _ rfl hp hb
  · cases hs
    subst hp
    obtain ⟨t, s, ex, rfl⟩ := blks1 hb
    refine ⟨by simp, ?_⟩
    have hok : okI [] 0 0 := ⟨rfl, Nat.le_refl _, by omega, fun j hj => absurd hj (by omega)⟩
    refine twos_ok (C := ⟨T36z, no_, off_, noL⟩) (n := 80) (κ := []) ts36z .none (x36z [] t s ex) ?_ rfl (by decide) (fun c hc => by cases hc) rfl
    refine (congrArg TT.sel (v36z [] t s ex)).trans ?_
    rw [tP ⟨hok, rfl, by omega⟩, tP ⟨⟨hok, rfl⟩, rfl⟩]; rfl
  · cases hs
noncomputable def pickE (k : Nat) (e1 e2 : Ent) : Ent := fun args H => cond (Nat.beq H.length k) (e1 args H) (e2 args H)
theorem tsPick {P : Program} {G : Nat} {T : Tb} {f k1 k2 : Nat} {s1 s2 s3 : TSpec} (hT : TSound P G T)
    (h1 : ∀ al css os p v, s1 al css = some (p, v) → p → Blks css os → (∀ cs ∈ css, cs.all Ex.flat = true) ∧ NC.Ok P f al deads os (gl + css.length) v)
    (h2 : ∀ al css os p v, s2 al css = some (p, v) → p → Blks css os → (∀ cs ∈ css, cs.all Ex.flat = true) ∧ NC.Ok P f al deads os (gl + css.length) v)
    (h3 : ∀ al css os p v, s3 al css = some (p, v) → p → Blks css os → (∀ cs ∈ css, cs.all Ex.flat = true) ∧ NC.Ok P f al deads os (gl + css.length) v) (hf : f % 1000000 = f := by rfl) :
    TSound P G (Ex.ext T f (pickE k1 (twoE s1 [] (heapL deads)) (pickE k2 (twoE s2 [] (heapL deads)) (twoE s3 [] (heapL deads))))) := by
  refine hT.alt (g := f) (fun args H c v H' l he hc hs => ?_) hf
  unfold pickE at he
  cases b1 : Nat.beq H.length k1 with
  | true => rw [b1] at he; exact two_ok deads_len deads_flat deads_mem h1 args H c v H' l he hc hs
  | false =>
    rw [b1] at he
    cases b2 : Nat.beq H.length k2 with
    | true => rw [b2] at he; exact two_ok deads_len deads_flat deads_mem h2 args H c v H' l he hc hs
    | false => rw [b2] at he; exact two_ok deads_len deads_flat deads_mem h3 args H c v H' l he hc hs
def X28 (cs ds : List Value) (n k : Nat) (d : Int) : List Pt := JE cs ds (n - 1) (k - 1) d
def R28w (X : List Pt) : NRes := .tup (RV (flatP X) X.length).length (RV (flatP X) X.length).length (flatP (RV (flatP X) X.length)) 67 2 false (i 0)
def sp28w : NSpec := fun al css => match al, css with
  | [.slice (some ⟨1, 0, none⟩) n c, .slice (some ⟨2, 0, none⟩) k c2, .int .i64 d], [cs, ds] => some (c = n ∧ c2 = k ∧ 1 ≤ n ∧ 1 ≤ k ∧ RowE cs n ∧ RowE ds k ∧ n + k < 900000 ∧ e28 (crE cs n) (crE ds k) d (X28 cs ds n k d) = 0, R28w (X28 cs ds n k d))
  | [.slice none 0 0, .slice (some ⟨1, 0, none⟩) k c2, .int .i64 d], [ds] => some (c2 = k ∧ 1 ≤ k ∧ RowE ds k ∧ k < 900000 ∧ e28 0 (crE ds k) d ((pts ds k).map (shP d)) = 0, R28w ((pts ds k).map (shP d)))
  | [.slice (some ⟨1, 0, none⟩) k c2, .slice none 0 0, .int .i64 d], [ds] => some (c2 = k ∧ 1 ≤ k ∧ RowE ds k ∧ k < 900000 ∧ e28 (crE ds k) 0 d (pts ds k) = 0, R28w (pts ds k))
  | _, _ => none
theorem c28w : ∀ al css os p v, sp28w al css = some (p, v) → p → Blks css os → (∀ cs ∈ css, cs.all Ex.flat = true) ∧ v.Ok Try.prog 28 al deads os (gl + css.length) := by
  intro al css os p v hs hp hb
  unfold sp28w at hs
  split at hs
  · rename_i n c k c2 d cs ds
    cases hs
    obtain ⟨rfl, rfl, h1, h2, h3, h4, h5, h6⟩ := hp
    obtain ⟨m, rfl⟩ : ∃ m, c = m + 1 := ⟨c - 1, by omega⟩
    obtain ⟨q, rfl⟩ : ∃ q, c2 = q + 1 := ⟨c2 - 1, by omega⟩
    exact c28 true [sl 1 0 (m + 1) (m + 1), sl 2 0 (q + 1) (q + 1), i d] [cs, ds] os _ _ rfl ⟨⟨rfl, rfl⟩, h3, h4, by omega, h6⟩ hb
  · rename_i k c2 d ds
    cases hs
    obtain ⟨rfl, h2, h4, h5, h6⟩ := hp
    obtain ⟨q, rfl⟩ : ∃ q, c2 = q + 1 := ⟨c2 - 1, by omega⟩
    exact c28 true [.slice none 0 0, sl 1 0 (q + 1) (q + 1), i d] [ds] os _ _ rfl ⟨rfl, h4, by omega, h6⟩ hb
  · rename_i k c2 d ds
    cases hs
    obtain ⟨rfl, h2, h4, h5, h6⟩ := hp
    obtain ⟨q, rfl⟩ : ∃ q, c2 = q + 1 := ⟨c2 - 1, by omega⟩
    exact c28 true [sl 1 0 (q + 1) (q + 1), .slice none 0 0, i d] [ds] os _ _ rfl ⟨rfl, h4, by omega, h6⟩ hb
  · cases hs
def k1J (zb : Bool) : Nat := cond zb 4 5
def k2J (zb fc : Bool) : Nat := k1J zb + cond fc 2 1
noncomputable def TJ (_za _zb _fa _fb fx : Bool) : Tb := ext (ext (ext (ext (ext (ext (ext (ext (ext (ext (ext (ext (ext (ext (ext TM9 12 (xE 0 rd0 sp12 [] (heapL deads))) 13 (autoE (sp13g true) [] (heapL deads))) 17 (newE sp17t [] (heapL deads))) 18 (autoE (sp18g true) [] (heapL deads))) 19 (newE (sp19 false) [] (heapL deads)))
  23 (newE (sp23 83) [] (heapL deads))) 26 (newE (sp23 69) [] (heapL deads))) 28 (newE sp28w [] (heapL deads))) 39 (autoE (spSame eqP cP) [] (heapL deads))) 41 (autoE sp41 [] (heapL deads))) 42 (newE sp42 [] (heapL deads))) 43 (autoE sp43 [] (heapL deads))) 44 (autoE sp44 [] (heapL deads))) 45 (autoE sp45 [] (heapL deads))) 59 (twoE (sp59 fx) [] (heapL deads))
noncomputable def TJ2 (za zb fa fb fx : Bool) : Tb := ext (ext (TJ za zb fa fb fx) 36 (pickE (k1J zb) (twoE (sp36s (fa || (fb || fx))) [] (heapL deads)) (pickE (k2J zb (fa || (fb || fx))) (twoE (sp36s (cond za fb fa)) [] (heapL deads)) (twoE (sp36s fb) [] (heapL deads))))) 40 (cond (fa || (fb || fx)) (newE sp40 [] (heapL deads)) noE)
theorem tsJ {G : Nat} (haw : Pure Try.prog Hd 9 [] (b_ true)) (za zb fa fb fx : Bool) : TSound Try.prog G (TJ za zb fa fb fx) :=
  (((((((((((((((tsm9 haw).x c12).auto (c13g 13 (.inl rfl) true)).new c17t).auto (c18g 18 (.inl rfl) true)).new (f' := 19) (c19 false)).new c23).new c26).new c28w).auto c39).auto c41).new c42).auto c43).auto c44).auto c45).two (c59 fx)
theorem tsJ2 {G : Nat} (haw : Pure Try.prog Hd 9 [] (b_ true)) (za zb fa fb fx : Bool) : TSound Try.prog G (TJ2 za zb fa fb fx) := by
  have h : ∀ fc : Bool, TSound Try.prog G (ext (ext (TJ za zb fa fb fx) 36 (pickE (k1J zb) (twoE (sp36s fc) [] (heapL deads)) (pickE (k2J zb fc) (twoE (sp36s (cond za fb fa)) [] (heapL deads)) (twoE (sp36s fb) [] (heapL deads))))) 40 (cond fc (newE sp40 [] (heapL deads)) noE)) := fun fc => by
    have h1 := tsPick (tsJ (G := G) haw za zb fa fb fx) (f := 36) (k1 := k1J zb) (k2 := k2J zb fc) (c36s fc) (c36s (cond za fb fa)) (c36s fb)
    cases fc with
    | true => exact h1.new (f' := 40) c40
    | false => exact TSound.no (f := 40) h1
  exact h _
end Go.Proofs.Ytphadgdlknhbnaa.Ways
set_option maxRecDepth 10000
noncomputable section
namespace Go.Proofs.Ytphadgdlknhbnaa.Ways
open Go Go.Ex Go.RowKit Go.Turn
def lnJ (z : Bool) (m : Nat) : Nat := cond z 0 (m + 1)
def mkJ (zb fa fb fx : Bool) : List (Nat × Nat) :=
  cond zb [(7, 300064), (7, 500064), (7, 300147), (7, 500147), (7, 64), (7, 147)] [(7, 64), (7, 200064), (7, 500064), (7, 147), (7, 200147), (7, 500147)] ++ ([(7, 104), (7, 200104), (7, 177), (7, 200177)] ++ (cond fa [(7, 122), (7, 200122)] [] ++
  (cond fa (cond fb [(7, 124), (7, 200124), (7, 500124)] [(7, 124), (7, 500124)]) (cond fb [(7, 124), (7, 200124)] []) ++ (cond (fa || fb) (cond fx [(7, 127), (7, 200127), (7, 500127)] [(7, 127), (7, 500127)]) (cond fx [(7, 127), (7, 200127)] []) ++ cond fx [(7, 169), (7, 200169)] []))))
def spJ7 : Nat → Nat → Split := at_ [(7, 38), (7, 43), (7, 118), (7, 133)] .bool no_
noncomputable def C7 (za zb fa fb fx : Bool) : Cfg := ⟨TJ2 za zb fa fb fx, spJ7, on_ (mkJ zb fa fb fx), noL⟩
section
variable (A B : List Value) (p m t s t2 s2 : Nat) (ex e2 : Bool) (x : Int)
noncomputable def o7 (za zb fa fb fx : Bool) : Out QRes := execO Try.prog 3 (C7 za zb fa fb fx) 150 (.call 7 ⟨[sl 1 0 (lnJ za p) (lnJ za p), sl 2 0 (lnJ zb m) (lnJ zb m), .int .u8 x]⟩ (heapL (deads ++ [.cells A t s ex, .cells B t2 s2 e2])))
end
end Go.Proofs.Ytphadgdlknhbnaa.Ways
set_option maxRecDepth 10000
noncomputable section
namespace Go.Proofs.Ytphadgdlknhbnaa.Ways
open Go Go.Ex Go.RowKit Go.Turn
def e7 (x : Int) : Int := wrapF .i64 (1 + (IntKind.i64.wrap x).tmod 3)
def apK (n cap size off : Nat) (ds : List Value) : Bool := !decide (n = 0) && (decide (n ≤ cap) && (decide (n ≤ 1048576) && decide (off + n * size ≤ ds.length)))
def vC (f : Bool) (g : VT → VT) (t : VT) : VT := cond f (g t) t
section
variable (za zb : Bool) (A B : List Value) (p m : Nat)
def NABJ : Nat := cond zb (lnJ za p) (lnJ za p + lnJ zb m)
def ABJ : List Value := cond zb A (A ++ ((B.drop 0).take (lnJ zb m * 1)))
def apJ (t : VT) : VT := cond zb (aV (decide (lnJ zb m = 0) && (decide (lnJ zb m ≤ lnJ zb m) && decide (lnJ za p ≤ lnJ za p))) t) (aV (fullB (lnJ zb m) (lnJ zb m) (lnJ za p) (lnJ za p) 1 0 B A) t)
noncomputable def q36 (z f : Bool) (cs : List Value) (n : Nat) (t : VT) : VT := cond z (vP (cs = []) t) (vP (n = n ∧ P36 f cs n) t)
noncomputable def XJ7 : List Pt := cond za ((pts (DS_ B (lnJ zb m)) (LD_ B (lnJ zb m))).map (shP (lnJ za p : Nat))) (cond zb (pts (DS_ A (lnJ za p)) (LD_ A (lnJ za p))) (X28 (DS_ A (lnJ za p)) (DS_ B (lnJ zb m)) (LD_ A (lnJ za p)) (LD_ B (lnJ zb m)) (lnJ za p : Nat)))
noncomputable def JV7 : List Pt := RV (flatP (XJ7 za zb A B p m)) (XJ7 za zb A B p m).length
noncomputable def LJ7 : Nat := (JV7 za zb A B p m).length
noncomputable def JC7 : List Value := ((flatP (JV7 za zb A B p m)).drop 0).take (LJ7 za zb A B p m * 2)
noncomputable def XC7 : List Cy := (cnt (JC7 za zb A B p m) (LJ7 za zb A B p m)).2
noncomputable def LY7 : Nat := (cnt (JC7 za zb A B p m) (LJ7 za zb A B p m)).1.length
noncomputable def YC7 : List Value := cellO (eO (JC7 za zb A B p m) (LJ7 za zb A B p m) (LJ7 za zb A B p m))
noncomputable def YK7 : Nat := capO (eO (JC7 za zb A B p m) (LJ7 za zb A B p m) (LJ7 za zb A B p m))
noncomputable def q28 (t : VT) : VT := cond za
  (vP (LD_ B (lnJ zb m) = LD_ B (lnJ zb m) ∧ 1 ≤ LD_ B (lnJ zb m) ∧ RowE (DS_ B (lnJ zb m)) (LD_ B (lnJ zb m)) ∧ LD_ B (lnJ zb m) < 900000 ∧ e28 0 (crE (DS_ B (lnJ zb m)) (LD_ B (lnJ zb m))) (lnJ za p : Nat) ((pts (DS_ B (lnJ zb m)) (LD_ B (lnJ zb m))).map (shP (lnJ za p : Nat))) = 0) t)
  (cond zb (vP (LD_ A (lnJ za p) = LD_ A (lnJ za p) ∧ 1 ≤ LD_ A (lnJ za p) ∧ RowE (DS_ A (lnJ za p)) (LD_ A (lnJ za p)) ∧ LD_ A (lnJ za p) < 900000 ∧ e28 (crE (DS_ A (lnJ za p)) (LD_ A (lnJ za p))) 0 (lnJ za p : Nat) (pts (DS_ A (lnJ za p)) (LD_ A (lnJ za p))) = 0) t)
    (vP (LD_ A (lnJ za p) = LD_ A (lnJ za p) ∧ LD_ B (lnJ zb m) = LD_ B (lnJ zb m) ∧ 1 ≤ LD_ A (lnJ za p) ∧ 1 ≤ LD_ B (lnJ zb m) ∧ RowE (DS_ A (lnJ za p)) (LD_ A (lnJ za p)) ∧ RowE (DS_ B (lnJ zb m)) (LD_ B (lnJ zb m)) ∧ LD_ A (lnJ za p) + LD_ B (lnJ zb m) < 900000 ∧
      e28 (crE (DS_ A (lnJ za p)) (LD_ A (lnJ za p))) (crE (DS_ B (lnJ zb m)) (LD_ B (lnJ zb m))) (lnJ za p : Nat) (X28 (DS_ A (lnJ za p)) (DS_ B (lnJ zb m)) (LD_ A (lnJ za p)) (LD_ B (lnJ zb m)) (lnJ za p : Nat)) = 0) t))
end
def e1J (fa : Bool) (ca : List Cy) : List Value := cond fa (((flatC ca).drop 0).take (ca.length * 4)) []
def e2J (fa fb : Bool) (ca cb : List Cy) : List Value := cond fb (e1J fa ca ++ ((flatC cb).drop 0).take (cb.length * 4)) (e1J fa ca)
def e3J (fa fb fx : Bool) (ca cb cx : List Cy) : List Value := cond fx (e2J fa fb ca cb ++ ((flatC cx).drop 0).take (cx.length * 4)) (e2J fa fb ca cb)
def l2J (fa fb : Bool) (ca cb : List Cy) : Nat := cond fb (cond fa (ca.length + cb.length) cb.length) (cond fa ca.length 0)
def l3J (fa fb fx : Bool) (ca cb cx : List Cy) : Nat := cond fx (cond (fa || fb) (l2J fa fb ca cb + cx.length) cx.length) (l2J fa fb ca cb)
noncomputable def qAll (fa fb fx : Bool) (ca cb cx : List Cy) (t : VT) : VT :=
  vC fa (aV (apK ca.length ca.length 4 0 (flatC ca))) <| (fun u => cond fa (cond fb (aV (fullB cb.length cb.length ca.length ca.length 4 0 (flatC cb) (e1J fa ca)) u) (aV (decide (ca.length ≤ ca.length)) u)) (vC fb (aV (apK cb.length cb.length 4 0 (flatC cb))) u)) <|
  vC fx (vP (CfE (flatC cx) cx.length cx.length)) <| (fun u => cond (fa || fb) (cond fx (aV (fullB cx.length cx.length (l2J fa fb ca cb) (l2J fa fb ca cb) 4 0 (flatC cx) (e2J fa fb ca cb)) u) (aV (decide (l2J fa fb ca cb ≤ l2J fa fb ca cb)) u)) (vC fx (aV (apK cx.length cx.length 4 0 (flatC cx))) u)) t
noncomputable def qVal (fc : Bool) (cc : List Cy) (e : List Value) (l : Nat) (t : VT) : VT := cond fc
  (vP (V40 (flatC cc) cc.length cc.length) <| vP (V40 e l l) <| vP (okX cP (flatP (soV (flatC cc) cc.length).reverse) cc.length cc.length ∧ okX cP (flatP (soV e l).reverse) l l) <| .br (!sameE eqP (flatP (soV (flatC cc) cc.length).reverse) (flatP (soV e l).reverse) cc.length l) lfF t)
  (.br (!true) lfF t)
noncomputable def qDm (f : Bool) (c : List Cy) (e : Int) (t : VT) : VT := vC f (vP (CfE (flatC c) c.length c.length)) <| cond f (vP (GcE (flatC c) c.length c.length ∧ c.length ≤ 100 ∧ ex3 e) t) (vP (ex3 e) t)
def xcJ (fx : Bool) (cx : List Cy) : List Value := cond fx (((flatC cx).drop 0).take (cx.length * 4)) []
def vDm (f : Bool) (c : List Cy) (e : Int) : Int := cond f (sL e (rgs (flatC c) c.length)) 0
section
variable (za zb fa fb fx : Bool) (A B : List Value) (p m : Nat) (x : Int)
noncomputable def YY7 : List Value := ((YC7 za zb A B p m).drop 0).take (LY7 za zb A B p m * 2)
noncomputable def tJ7 : VT := .br (ltF 12 (lnJ za p)) lfT <| .br (ltF 12 (lnJ zb m)) lfT <| vP (LokE A (lnJ za p) (lnJ za p)) <| vP (LokE B (lnJ zb m) (lnJ zb m)) <| vP (okC A (lnJ za p) (lnJ za p)) <| apJ za zb A B p m <|
  q36 (za && zb) (fa || (fb || fx)) (ABJ zb A B m) (NABJ za zb p m) <| q36 za fa A (lnJ za p) <| q36 zb fb B (lnJ zb m) <|
  vC (!za) (vP (CmE (DS_ A (lnJ za p)) (LD_ A (lnJ za p)) (LD_ A (lnJ za p)))) <| vC (!zb) (vP (CmE (DS_ B (lnJ zb m)) (LD_ B (lnJ zb m)) (LD_ B (lnJ zb m)))) <| q28 za zb A B p m <|
  aV (apK (LJ7 za zb A B p m) (LJ7 za zb A B p m) 2 0 (flatP (JV7 za zb A B p m))) <| vP (BokE (JC7 za zb A B p m) (LJ7 za zb A B p m) (LJ7 za zb A B p m) ∧ crE (JC7 za zb A B p m) (LJ7 za zb A B p m) = 0) <|
  vP (P59 fx (JC7 za zb A B p m) (LJ7 za zb A B p m) (LJ7 za zb A B p m)) <| .br (ltF 24 (cond fx (XC7 za zb A B p m).length 0 : Nat)) lfF <|
  qAll fa fb fx (CC_ A (lnJ za p)) (CC_ B (lnJ zb m)) (XC7 za zb A B p m) <| qVal (fa || (fb || fx)) (CC_ (ABJ zb A B m) (NABJ za zb p m)) (e3J fa fb fx (CC_ A (lnJ za p)) (CC_ B (lnJ zb m)) (XC7 za zb A B p m)) (l3J fa fb fx (CC_ A (lnJ za p)) (CC_ B (lnJ zb m)) (XC7 za zb A B p m)) <|
  vP (TokE (DS_ (ABJ zb A B m) (NABJ za zb p m)) (LD_ (ABJ zb A B m) (NABJ za zb p m)) (LD_ (ABJ zb A B m) (NABJ za zb p m))) <| vP (TokE (YC7 za zb A B p m) (LY7 za zb A B p m) (YK7 za zb A B p m)) <|
  vP (TokE (flatP (pts (YC7 za zb A B p m) (LY7 za zb A B p m))) (LY7 za zb A B p m) (LY7 za zb A B p m)) <|
  vP (okI (lstI (pB (DS_ (ABJ zb A B m) (NABJ za zb p m))) (LD_ (ABJ zb A B m) (NABJ za zb p m))) (LD_ (ABJ zb A B m) (NABJ za zb p m)) (LD_ (ABJ zb A B m) (NABJ za zb p m)) ∧ okI (lstI (pB (flatP (pts (YC7 za zb A B p m) (LY7 za zb A B p m)))) (LY7 za zb A B p m)) (LY7 za zb A B p m) (LY7 za zb A B p m) ∧
    LD_ (ABJ zb A B m) (NABJ za zb p m) = LY7 za zb A B p m ∧ LD_ (ABJ zb A B m) (NABJ za zb p m) < 1000000 ∧ ∀ j, j < LD_ (ABJ zb A B m) (NABJ za zb p m) → eI (lstI (pB (DS_ (ABJ zb A B m) (NABJ za zb p m))) (LD_ (ABJ zb A B m) (NABJ za zb p m))) j = eI (lstI (pB (flatP (pts (YC7 za zb A B p m) (LY7 za zb A B p m)))) (LY7 za zb A B p m)) j) <|
  vP (okC A (lnJ za p) (lnJ za p)) <| apJ za zb A B p m <| vP (NABJ za zb p m = NABJ za zb p m ∧ Fx (ABJ zb A B m) (NABJ za zb p m) 0 ∧ ex3 (e7 x)) <|
  qDm fa (CC_ A (lnJ za p)) (e7 x) <| qDm fb (CC_ B (lnJ zb m)) (e7 x) <| vC fx (aV (apK (XC7 za zb A B p m).length (XC7 za zb A B p m).length 4 0 (flatC (XC7 za zb A B p m)))) <|
  vP (GcE (xcJ fx (XC7 za zb A B p m)) (cond fx (XC7 za zb A B p m).length 0) (cond fx (XC7 za zb A B p m).length 0) ∧ cond fx (XC7 za zb A B p m).length 0 ≤ 100 ∧ ex3 (e7 x)) <|
  aV (apK (LY7 za zb A B p m) (YK7 za zb A B p m) 2 0 (YC7 za zb A B p m)) <| vP (BokE (YY7 za zb A B p m) (LY7 za zb A B p m) (LY7 za zb A B p m) ∧ crE (YY7 za zb A B p m) (LY7 za zb A B p m) = 0 ∧ ex3 (e7 x) ∧ 1 ≤ LY7 za zb A B p m ∧ LY7 za zb A B p m ≤ 100 ∧ ∀ j, j < LY7 za zb A B p m → -32768 ≤ pB (YY7 za zb A B p m) j ∧ pB (YY7 za zb A B p m) j ≤ 32768) <|
  .leaf (b_ (eqF (vT (ABJ zb A B m) (NABJ za zb p m) (e7 x)) (wrapF .i64 (wrapF .i64 (wrapF .i64 (wrapF .i64 (2 * vDm fa (CC_ A (lnJ za p)) (e7 x)) + wrapF .i64 (2 * vDm fb (CC_ B (lnJ zb m)) (e7 x))) + wrapF .i64 (2 * sL (e7 x) (rgs (xcJ fx (XC7 za zb A B p m)) (cond fx (XC7 za zb A B p m).length 0)))) + sL (e7 x) (dfs (YY7 za zb A B p m) (LY7 za zb A B p m - 1))))))
end
end Go.Proofs.Ytphadgdlknhbnaa.Ways
set_option maxRecDepth 10000
noncomputable section
namespace Go.Proofs.Ytphadgdlknhbnaa.Ways
open Go Go.Ex Go.RowKit Go.Turn
theorem p76 (x : Int) : Pure Try.prog Hd 76 [i x] (i (rgE x 1 3)) :=
  pure_run (C := ⟨TX9, no_, off_, noL⟩) (G := 1) 30 (.leaf (i (rgE x 1 3))) tsX9 .none (by decide) hd_len rfl (by kernel_rfl) (by kernel_rfl) rfl
def sp76 : ESpec := fun al css => match al, css with
  | [.int .i64 x], [] => some (ex3 x, i 0)
  | _, _ => none
theorem c76 : ∀ al css os p v, sp76 al css = some (p, v) → p → Blks css os → (∀ cs ∈ css, cs.all Ex.flat = true) ∧ clean 6 v = true ∧ ∃ H', Sound Try.prog (gl + css.length) (.call 76 ⟨al⟩ (heapL (deads ++ os))) (.val v H') := by
  intro al css os p v hs hp hb
  unfold sp76 at hs
  split at hs
  case h_2 => cases hs
  rename_i x
  cases hs
  cases hb
  have key : ∃ H', Sound Try.prog (gl + 0) (.call 76 ⟨[i x]⟩ (heapL (deads ++ []))) (.val (i (rgE x 1 3)) H') := ⟨_, (p76 x).sound hd_vars (fun _ h => absurd h List.not_mem_nil)⟩
  rw [ex3_rg hp] at key
  exact ⟨fun c hc => absurd hc List.not_mem_nil, rfl, key⟩
noncomputable def TJe : Tb := ext (ext (ext (ext (ext (ext TM9 12 (xE 0 rd0 sp12 [] (heapL deads))) 13 (autoE (sp13g true) [] (heapL deads))) 18 (autoE (sp18g true) [] (heapL deads))) 36 (twoE (sp36s false) [] (heapL deads))) 44 (autoE sp44 [] (heapL deads))) 76 (autoE sp76 [] (heapL deads))
theorem tsJe {G : Nat} (haw : Pure Try.prog Hd 9 [] (b_ true)) : TSound Try.prog G TJe := ((((((tsm9 haw).x c12).auto (c13g 13 (.inl rfl) true)).auto (c18g 18 (.inl rfl) true)).two (c36s false)).auto c44).auto c76
noncomputable def C7e : Cfg := ⟨TJe, no_, off_, noL⟩
section
variable (t s t2 s2 : Nat) (ex e2 : Bool) (x : Int)
noncomputable def o7e : Out QRes := execO Try.prog 3 C7e 300 (.call 7 ⟨[sl 1 0 0 0, sl 2 0 0 0, .int .u8 x]⟩ (heapL (deads ++ [.cells [] t s ex, .cells [] t2 s2 e2])))
theorem v7e : (o7e t s t2 s2 ex e2 x).vals = (vP (LokE [] 0 0) <| vP (LokE [] 0 0) <| vP (okC [] 0 0) <| vP (([] : List Value) = []) <| vP (([] : List Value) = []) <| vP (([] : List Value) = []) <| vP (okI [i 0, i 0, i 0] 3 3) <| vP (okI [i 0, i 0] 2 2) <|
  vP (BokE [] 0 0 ∧ crE [] 0 = 0) <| vP (okC [] 0 0) <| vP (okI [] 0 0) <| vP (ex3 (e7 x)) <| vP (okI [i 0, i 0] 2 2) <| vP (ex3 (e7 x)) <| vP (ex3 (e7 x)) <| vP (GcE [] 0 0 ∧ 0 ≤ 100 ∧ ex3 (e7 x)) <| vP (BokE [] 0 0 ∧ crE [] 0 = 0) <| vP (ex3 (e7 x)) <| vP (okI [i 0, i 0] 2 2) <| .leaf (b_ true)) := by kernel_rfl
theorem x7e : o7e t s t2 s2 ex e2 x = (o7e t s t2 s2 ex e2 x).fix := by kernel_rfl
end
end Go.Proofs.Ytphadgdlknhbnaa.Ways
set_option maxRecDepth 10000
noncomputable section
namespace Go.Proofs.Ytphadgdlknhbnaa.Ways
open Go Go.Ex Go.RowKit Go.Turn
section
variable (A B : List Value) (p m t s t2 s2 : Nat) (ex e2 : Bool) (x : Int)
theorem v7ff : ∀ fa fb fx, (o7 A B p m t s t2 s2 ex e2 x false false fa fb fx).vals = tJ7 false false fa fb fx A B p m x
  | true, true, true => by kernel_rfl
  | true, true, false => by kernel_rfl
  | true, false, true => by kernel_rfl
  | true, false, false => by kernel_rfl
  | false, true, true => by kernel_rfl
  | false, true, false => by kernel_rfl
  | false, false, true => by kernel_rfl
  | false, false, false => by kernel_rfl
theorem v7tf : ∀ fb fx, (o7 A B p m t s t2 s2 ex e2 x true false false fb fx).vals = tJ7 true false false fb fx A B p m x
  | true, true => by kernel_rfl
  | true, false => by kernel_rfl
  | false, true => by kernel_rfl
  | false, false => by kernel_rfl
theorem v7ft : ∀ fa fx, (o7 A B p m t s t2 s2 ex e2 x false true fa false fx).vals = tJ7 false true fa false fx A B p m x
  | true, true => by kernel_rfl
  | true, false => by kernel_rfl
  | false, true => by kernel_rfl
  | false, false => by kernel_rfl
theorem x7ff : ∀ fa fb fx, o7 A B p m t s t2 s2 ex e2 x false false fa fb fx = (o7 A B p m t s t2 s2 ex e2 x false false fa fb fx).fix
  | true, true, true => by kernel_rfl
  | true, true, false => by kernel_rfl
  | true, false, true => by kernel_rfl
  | true, false, false => by kernel_rfl
  | false, true, true => by kernel_rfl
  | false, true, false => by kernel_rfl
  | false, false, true => by kernel_rfl
  | false, false, false => by kernel_rfl
theorem x7tf : ∀ fb fx, o7 A B p m t s t2 s2 ex e2 x true false false fb fx = (o7 A B p m t s t2 s2 ex e2 x true false false fb fx).fix
  | true, true => by kernel_rfl
  | true, false => by kernel_rfl
  | false, true => by kernel_rfl
  | false, false => by kernel_rfl
theorem x7ft : ∀ fa fx, o7 A B p m t s t2 s2 ex e2 x false true fa false fx = (o7 A B p m t s t2 s2 ex e2 x false true fa false fx).fix
  | true, true => by kernel_rfl
  | true, false => by kernel_rfl
  | false, true => by kernel_rfl
  | false, false => by kernel_rfl
end
end Go.Proofs.Ytphadgdlknhbnaa.Ways
