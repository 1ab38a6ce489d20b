import Derived.Test.YtphadgdlknhbnaaJd1
set_option maxRecDepth 10000
noncomputable section
namespace Go.Proofs.Ytphadgdlknhbnaa.Ways
open Go Go.Ex Go.RowKit Go.Turn
noncomputable def TD (z : Bool) : Tb := ext (ext (ext (ext (ext T99 15 (autoE (sp13g true) [] (heapL deads))) 18 (autoE (sp18g true) [] (heapL deads))) 79 (autoE sp79 [] (heapL deads))) 81 (newE (sp81 z) [] (heapL deads))) 102 (newE sp102 [] (heapL deads))
theorem tsD_ {G : Nat} (z : Bool) : TSound Try.prog G (TD z) := ((((ts99.auto (c13g 15 (.inr rfl) true)).auto (c18g 18 (.inl rfl) true)).auto c79).new (f' := 81) (c81 z)).new c102
end Go.Proofs.Ytphadgdlknhbnaa.Ways
set_option maxRecDepth 10000
noncomputable section
namespace Go.Proofs.Ytphadgdlknhbnaa.Ways
open Go Go.Ex Go.RowKit Go.Turn
noncomputable def TW (f z : Bool) : Tb := ext (ext (TD z) 49 (newE (sp49 false) [] (heapL deads))) 59 (twoE (sp59 f) [] (heapL deads))
theorem tsW_ {G : Nat} (f z : Bool) : TSound Try.prog G (TW f z) := ((tsD_ z).new (f' := 49) (c49 false)).two (c59 f)
def spW : Nat → Nat → Split := at_ [(43, 14), (98, 20), (109, 6), (109, 16)] .bool no_
def syW (f : Bool) : Nat → Nat → Bool := cond f (on_ [(98, 33), (98, 500033), (109, 22), (109, 500022), (109, 25)]) (on_ [(98, 33), (98, 500033), (98, 200033), (98, 300033), (109, 22), (109, 500022), (109, 25)])
def zI (N : Nat) : List Value := (Builtin.zeroCells (i 0).cells N).toList
def vn (b : Bool) (t : VT) : VT := .br b .fail t
section
variable (cs : List Value) (n t s : Nat) (ex : Bool) (e : Int)
noncomputable def C43 (f z : Bool) : Cfg := cond (!f && z) ⟨TW f z, at_ [(43, 14)] .bool no_, off_, noL⟩ ⟨TW f z, spW, syW f, noL⟩
noncomputable def o43 (f z : Bool) : Out QRes := execO Try.prog 2 (C43 f z) 90 (.call 43 ⟨[sl 1 0 n n, i e]⟩ (heapL (deads ++ [.cells cs t s ex])))
def er43 : Int := fst2 0 (rgE e 1 3)
noncomputable def p43 (u : VT) : VT := vP (LokE cs n n) <| vP (okI [i 0, i (rgE e 1 3)] 2 2) <| .br (!eqF (er43 e) 0) (.leaf (tp [i 0, i (er43 e)])) <| vP (LmE cs n n) u
noncomputable def RI_ : List Value := lstI (szI (flatC (CC_ cs n))) (CC_ cs n).length
noncomputable def DI_ : List Value := lstI (dfI (ST_ cs n)) (LD_ cs n - 1)
def w1_ (a : Nat) : Int := wrapF .i64 (0 + (a : Int))
def w2_ (a : Nat) : Int := wrapF .i64 (w1_ a + (a : Int))
def w3_ (a k : Nat) : Int := wrapF .i64 (w2_ a + (k : Int))
def c1_ (R : List Value) (a : Nat) (z : Int) : List Value := putR 1 0 a 0 R (zI z.toNat)
def c2_ (R : List Value) (a : Nat) (z : Int) : List Value := putR 1 (0 + a) a 0 R (c1_ R a z)
def c3_ (R D : List Value) (a k : Nat) (z : Int) : List Value := putR 1 (0 + a + a) k 0 D (c2_ R a z)
def gr_ (a k : Nat) (u : VT) : VT := vn (ltF (w1_ a) 0) <| vn (ltF (w2_ a) 0) <| vn (ltF (w3_ a k) 0) <| vn (ltF (w3_ a k) 0) <| aV (ltF 0 (szQ (w3_ a k))) <| aV (ltF 0 (szQ (w3_ a k)) && leF (szQ (w3_ a k)) 1048576) <| aV (leF 0 0 && (leF 0 0 && leF 0 ((szQ (w3_ a k)).toNat : Nat))) u
def grZ (a k : Nat) (u : VT) : VT := vn (ltF (w1_ a) 0) <| vn (ltF (w2_ a) 0) <| vn (ltF (w3_ a k) 0) <| vn (ltF (w3_ a k) 0) <| .br (ltF 0 (szQ (w3_ a k))) (aV (ltF 0 (szQ (w3_ a k)) && leF (szQ (w3_ a k)) 1048576) <| aV (leF 0 0 && (leF 0 0 && leF 0 ((szQ (w3_ a k)).toNat : Nat))) u) (.br (decide (0 = 0)) .fail .fail)
noncomputable def en_ (c : List Value) (m N : Nat) : VT := vP (V79 c m N e) (.leaf (tp [i (smP c e m), i 0]))
theorem v43tf : (o43 cs n t s ex e true false).vals = p43 cs n e (vP (P59 true (RS_ cs n) (RN_ cs n) (RN_ cs n)) <| vP (okF (flatC (CC_ cs n)) (CC_ cs n).length (CC_ cs n).length ∧ (CC_ cs n).length < 1000000) <| vP (P81 false (ST_ cs n) (LD_ cs n) (CP_ cs n)) <|
  gr_ (CC_ cs n).length (LD_ cs n - 1) <| aV (roomB (CC_ cs n).length (CC_ cs n).length 0 ((szQ (w3_ (CC_ cs n).length (LD_ cs n - 1))).toNat - 0) 1 0 (RI_ cs n) (zI (szQ (w3_ (CC_ cs n).length (LD_ cs n - 1))).toNat)) <|
  aV (roomB (CC_ cs n).length (CC_ cs n).length (0 + (CC_ cs n).length) ((szQ (w3_ (CC_ cs n).length (LD_ cs n - 1))).toNat - 0) 1 0 (RI_ cs n) (c1_ (RI_ cs n) (CC_ cs n).length (szQ (w3_ (CC_ cs n).length (LD_ cs n - 1))))) <|
  aV (roomB (LD_ cs n - 1) (LD_ cs n - 1) (0 + (CC_ cs n).length + (CC_ cs n).length) ((szQ (w3_ (CC_ cs n).length (LD_ cs n - 1))).toNat - 0) 1 0 (DI_ cs n) (c2_ (RI_ cs n) (CC_ cs n).length (szQ (w3_ (CC_ cs n).length (LD_ cs n - 1))))) <|
  en_ e (c3_ (RI_ cs n) (DI_ cs n) (CC_ cs n).length (LD_ cs n - 1) (szQ (w3_ (CC_ cs n).length (LD_ cs n - 1)))) (0 + (CC_ cs n).length + (CC_ cs n).length + (LD_ cs n - 1)) ((szQ (w3_ (CC_ cs n).length (LD_ cs n - 1))).toNat - 0)) := by kernel_rfl
theorem v43tt : (o43 cs n t s ex e true true).vals = p43 cs n e (vP (P59 true (RS_ cs n) (RN_ cs n) (RN_ cs n)) <| vP (okF (flatC (CC_ cs n)) (CC_ cs n).length (CC_ cs n).length ∧ (CC_ cs n).length < 1000000) <| vP (P81 true (ST_ cs n) (LD_ cs n) (CP_ cs n)) <|
  gr_ (CC_ cs n).length 0 <| aV (roomB (CC_ cs n).length (CC_ cs n).length 0 ((szQ (w3_ (CC_ cs n).length 0)).toNat - 0) 1 0 (RI_ cs n) (zI (szQ (w3_ (CC_ cs n).length 0)).toNat)) <|
  aV (roomB (CC_ cs n).length (CC_ cs n).length (0 + (CC_ cs n).length) ((szQ (w3_ (CC_ cs n).length 0)).toNat - 0) 1 0 (RI_ cs n) (c1_ (RI_ cs n) (CC_ cs n).length (szQ (w3_ (CC_ cs n).length 0)))) <|
  aV (decide (0 + (CC_ cs n).length + (CC_ cs n).length ≤ (szQ (w3_ (CC_ cs n).length 0)).toNat - 0)) <|
  en_ e (c2_ (RI_ cs n) (CC_ cs n).length (szQ (w3_ (CC_ cs n).length 0))) (0 + (CC_ cs n).length + (CC_ cs n).length) ((szQ (w3_ (CC_ cs n).length 0)).toNat - 0)) := by kernel_rfl
def zz_ (n cap2 len cap size off2 : Nat) (ds cs : List Value) (K : Nat → List Value → VT) : VT := .br (decide (n = 0)) (.br (decide (n = 0) && (decide (n ≤ cap2) && decide (len ≤ cap))) (K len cs) .fail) (.br (roomB n cap2 len cap size off2 ds cs) (K (len + n) (putR size len n off2 ds cs)) .fail)
theorem v43ff : (o43 cs n t s ex e false false).vals = p43 cs n e (vP (P59 false (RS_ cs n) (RN_ cs n) (RN_ cs n)) <| vP (P81 false (ST_ cs n) (LD_ cs n) (CP_ cs n)) <|
  grZ 0 (LD_ cs n - 1) <| zz_ 0 0 0 ((szQ (w3_ 0 (LD_ cs n - 1))).toNat - 0) 1 0 [] (zI (szQ (w3_ 0 (LD_ cs n - 1))).toNat) fun l1 c1 => zz_ 0 0 l1 ((szQ (w3_ 0 (LD_ cs n - 1))).toNat - 0) 1 0 [] c1 fun l2 c2 =>
    zz_ (LD_ cs n - 1) (LD_ cs n - 1) l2 ((szQ (w3_ 0 (LD_ cs n - 1))).toNat - 0) 1 0 (DI_ cs n) c2 fun l3 c3 => en_ e c3 l3 ((szQ (w3_ 0 (LD_ cs n - 1))).toNat - 0)) := by kernel_rfl
theorem v43ft : (o43 cs n t s ex e false true).vals = p43 cs n e (vP (P59 false (RS_ cs n) (RN_ cs n) (RN_ cs n)) <| vP (P81 true (ST_ cs n) (LD_ cs n) (CP_ cs n)) <| .leaf (tp [i 0, i 0])) := by kernel_rfl
theorem x43 : ∀ f z, o43 cs n t s ex e f z = (o43 cs n t s ex e f z).fix
  | true, true => by kernel_rfl
  | true, false => by kernel_rfl
  | false, true => by kernel_rfl
  | false, false => by kernel_rfl
end
end Go.Proofs.Ytphadgdlknhbnaa.Ways
set_option maxRecDepth 10000
noncomputable section
namespace Go.Proofs.Ytphadgdlknhbnaa.Ways
open Go Go.Ex Go.RowKit Go.Turn
def lstV (l : List Int) : List Value := l.map fun x => i x
def sL (e : Int) : List Int → Int
  | [] => 0
  | x :: l => pwI x e + sL e l
theorem sL_app (e : Int) : ∀ a b : List Int, sL e (a ++ b) = sL e a + sL e b
  | [], b => (Int.zero_add _).symm
  | x :: a, b => by show pwI x e + sL e (a ++ b) = pwI x e + sL e a + sL e b; rw [sL_app e a b]; omega
theorem sL_perm {e : Int} {a b : List Int} (h : a.Perm b) : sL e a = sL e b := by
  induction h with
  | nil => rfl
  | cons x _ ih => show pwI x e + _ = pwI x e + _; rw [ih]
  | swap x y _ => show pwI y e + (pwI x e + _) = pwI x e + (pwI y e + _); omega
  | trans _ _ h1 h2 => exact h1.trans h2
theorem lst_V (g : Nat → Int) (n : Nat) : lstI g n = lstV ((List.range n).map g) := by unfold lstI lstV; rw [List.map_map]; rfl
theorem lstV_app (a b : List Int) : lstV (a ++ b) = lstV a ++ lstV b := List.map_append
theorem lstV_len (a : List Int) : (lstV a).length = a.length := List.length_map ..
theorem lstV_flat (a : List Int) : (lstV a).all Ex.flat = true := by
  refine List.all_eq_true.2 fun x hx => ?_
  obtain ⟨y, _, rfl⟩ := List.mem_map.1 hx
  rfl
theorem lstV_one (a : List Int) : (lstV a).all oneB = true := by
  refine List.all_eq_true.2 fun x hx => ?_
  obtain ⟨y, _, rfl⟩ := List.mem_map.1 hx
  rfl
theorem lstV_get {l : List Int} {j : Nat} (h : j < l.length) : (lstV l)[0 + j * 1]? = some (i l[j]) := by
  rw [show 0 + j * 1 = j from by omega]
  unfold lstV
  rw [List.getElem?_map, List.getElem?_eq_getElem h]; rfl
theorem eI_V {l : List Int} {j : Nat} (h : j < l.length) : eI (lstV l) j = l[j] := by unfold eI; rw [lstV_get h]; rfl
theorem okI_V {l : List Int} {N : Nat} (h : l.length < 1000000) (hN : l.length ≤ N) : okI (lstV l) l.length N := ⟨lstV_flat l, hN, by omega, fun j hj => by rw [lstV_get hj]; rfl⟩
theorem smP_V (e : Int) (l : List Int) : smP (lstV l) e l.length = sL e l := by
  have key : ∀ j, j ≤ l.length → smP (lstV l) e j = sL e (l.take j) := by
    intro j
    induction j with
    | zero => intro _; rfl
    | succ j ih =>
      intro hj
      show smP (lstV l) e j + pwI (eI (lstV l) j) e = _
      rw [ih (by omega), eI_V (by omega), List.take_add_one, List.getElem?_eq_getElem (by omega), sL_app]
      show _ = _ + (pwI _ e + 0)
      omega
  have := key l.length (Nat.le_refl _)
  rwa [List.take_length] at this
theorem V79_V {l : List Int} {N : Nat} {e : Int} (h : ∀ x ∈ l, 0 ≤ x ∧ x ≤ 65536) (hl : l.length ≤ 1000) (hN : l.length ≤ N) (he : ex3 e) : V79 (lstV l) l.length N e :=
  ⟨okI_V (by omega) hN, hl, he, fun j hj => by rw [eI_V hj]; exact h _ (List.getElem_mem hj)⟩
theorem ex3_rg {e : Int} (h : ex3 e) : rgE e 1 3 = 0 := if_pos (by rcases h with rfl | rfl | rfl <;> omega)
def rgs (cs : List Value) (n : Nat) : List Int := (List.range n).map (szI cs)
def dfs (cs : List Value) (n : Nat) : List Int := (List.range n).map (dfI cs)
theorem rgs_len (cs : List Value) (n : Nat) : (rgs cs n).length = n := by unfold rgs; simp
theorem dfs_len (cs : List Value) (n : Nat) : (dfs cs n).length = n := by unfold dfs; simp
theorem rgs_bd {cs : List Value} {n c : Nat} (h : GcE cs n c) : ∀ x ∈ rgs cs n, 0 ≤ x ∧ x ≤ 65536 := fun x hx => by
  unfold rgs at hx
  obtain ⟨j, hj, rfl⟩ := List.mem_map.1 hx
  have q := h.2.2 j (List.mem_range.1 hj)
  have b2 := q.b2
  have b3 := q.b3
  have l2 := q.lt2
  unfold szI szC
  rw [wrapF_in (by omega) (by omega)]; omega
theorem dfs_bd {cs : List Value} {n : Nat} (h : ∀ j, j < n + 1 → -32768 ≤ pB cs j ∧ pB cs j ≤ 32768) : ∀ x ∈ dfs cs n, 0 ≤ x ∧ x ≤ 65536 := fun x hx => by
  unfold dfs at hx
  obtain ⟨j, hj, rfl⟩ := List.mem_map.1 hx
  have hj := List.mem_range.1 hj
  have h1 := h j (by omega)
  have h2 := h (j + 1) (by omega)
  unfold dfI
  rw [difQ_abs h1 h2]
  split <;> omega
noncomputable def C44 : Cfg := ⟨TD false, at_ [(44, 14)] .bool no_, off_, noL⟩
section
variable (cs : List Value) (t s n c : Nat) (ex : Bool) (e : Int)
noncomputable def o44 : Out QRes := execO Try.prog 2 C44 60 (.call 44 ⟨[sl 1 0 n c, i e]⟩ (heapL (deads ++ [.cells cs t s ex])))
noncomputable def o44z : Out QRes := execO Try.prog 1 C44 60 (.call 44 ⟨[.slice none 0 0, i e]⟩ (heapL (deads ++ [])))
theorem v44 : (o44 cs t s n c ex e).vals = (vP (GcE cs n c) <| vP (okI [i (mnE n 40000), i 0] 2 2) <| vP (okI [i (fst2 (mnE n 40000) 0), i (rgE e 1 3)] 2 2) <| .br (!eqF (fst2 (fst2 (mnE n 40000) 0) (rgE e 1 3)) 0) (.leaf (tp [i 0, i (fst2 (fst2 (mnE n 40000) 0) (rgE e 1 3))])) <|
  vP (okF cs n c ∧ n < 1000000) <| vP (V79 (lstI (szI cs) n) n n e) <| .leaf (tp [i (smP (lstI (szI cs) n) e n), i 0])) := by kernel_rfl
theorem x44 : o44 cs t s n c ex e = (o44 cs t s n c ex e).fix := by kernel_rfl
theorem v44z : (o44z e).vals = (vP (okI [i 0, i 0] 2 2) <| vP (okI [i 0, i (rgE e 1 3)] 2 2) <| .br (!eqF (fst2 0 (rgE e 1 3)) 0) (.leaf (tp [i 0, i (fst2 0 (rgE e 1 3))])) <| vP (V79 [] 0 0 e) <| .leaf (tp [i 0, i 0])) := by kernel_rfl
theorem x44z : o44z e = (o44z e).fix := by kernel_rfl
end
def sp44 : ESpec := fun al css => match al, css with
  | [.slice (some ⟨1, 0, none⟩) n c, .int .i64 e], [cs] => some (GcE cs n c ∧ n ≤ 100 ∧ ex3 e, tp [i (sL e (rgs cs n)), i 0])
  | [.slice none 0 0, .int .i64 e], [] => some (ex3 e, tp [i 0, i 0])
  | _, _ => none
theorem c44 : ∀ al css os p v, sp44 al css = some (p, v) → p → Blks css os → (∀ cs ∈ css, cs.all Ex.flat = true) ∧ clean 6 v = true ∧ ∃ H', Sound Try.prog (gl + css.length) (.call 44 ⟨al⟩ (heapL (deads ++ os))) (.val v H') := by
  intro al css os p v hs hp hb
  unfold sp44 at hs
  split at hs
  · rename_i n c e cs
    cases hs
    obtain ⟨t, s, ex, rfl⟩ := blks1 hb
    obtain ⟨h1, h2, h3⟩ := hp
    refine ⟨by simpa using h1.1.1, rfl, ?_⟩
    have hm : mnE (n : Int) 40000 = 0 := if_pos (by omega)
    have hv := V79_V (l := rgs cs n) (N := n) (rgs_bd h1) (by rw [rgs_len]; omega) (by rw [rgs_len]; exact Nat.le_refl _) h3
    have hsm := smP_V e (rgs cs n)
    rw [rgs_len] at hv hsm
    obtain ⟨H', h'⟩ := Out.vals_sel (x44 cs t s n c ex e) (v := tp [i (sL e (rgs cs n)), i 0]) (by
      rw [v44, vP_sel h1, vP_sel (okI2 _ _), vP_sel (okI2 _ _), hm, ex3_rg h3, vb_f (by rfl), vP_sel ⟨h1.1, by omega⟩, lst_V, show (List.range n).map (szI cs) = rgs cs n from rfl, vP_sel hv]
      show some (tp [i (smP (lstV (rgs cs n)) e n), i 0]) = _
      rw [hsm])
    exact ⟨H', execO_sound (C := C44) (tsD_ false) .none 60 _ _ h'⟩
  · rename_i e
    cases hs
    cases hb
    refine ⟨fun c hc => absurd hc List.not_mem_nil, rfl, ?_⟩
    obtain ⟨H', h'⟩ := Out.vals_sel (x44z e) (v := tp [i 0, i 0]) (by
      rw [v44z, vP_sel (okI2 _ _), vP_sel (okI2 _ _), ex3_rg hp, vb_f (by rfl), vP_sel (show V79 [] 0 0 e from V79_V (l := []) (fun x hx => by cases hx) (by decide) (Nat.le_refl _) hp)]; rfl)
    exact ⟨H', execO_sound (C := C44) (tsD_ false) .none 60 _ _ h'⟩
  · cases hs
noncomputable def C45 (z : Bool) : Cfg := ⟨TD z, at_ [(45, 14)] .bool no_, off_, noL⟩
section
variable (cs : List Value) (t s n c : Nat) (ex : Bool) (e : Int)
noncomputable def o45 (z : Bool) : Out QRes := execO Try.prog 2 (C45 z) 60 (.call 45 ⟨[sl 1 0 n c, i e]⟩ (heapL (deads ++ [.cells cs t s ex])))
noncomputable def p45 (z : Bool) (u : VT) : VT := vP (BokE cs n c ∧ crE cs n = 0) <| vP (okI [i 0, i (rgE e 1 3)] 2 2) <| .br (!eqF (fst2 0 (rgE e 1 3)) 0) (.leaf (tp [i 0, i (fst2 0 (rgE e 1 3))])) <| vP (P81 z cs n c) u
theorem v45t : (o45 cs t s n c ex e true).vals = p45 cs n c e true (.leaf (tp [i 0, i 0])) := by kernel_rfl
theorem v45f : (o45 cs t s n c ex e false).vals = p45 cs n c e false (vP (V79 (lstI (dfI cs) (n - 1)) (n - 1) (n - 1) e) <| .leaf (tp [i (smP (lstI (dfI cs) (n - 1)) e (n - 1)), i 0])) := by kernel_rfl
theorem x45 : ∀ z, o45 cs t s n c ex e z = (o45 cs t s n c ex e z).fix
  | true => by kernel_rfl
  | false => by kernel_rfl
end
def sp45 : ESpec := fun al css => match al, css with
  | [.slice (some ⟨1, 0, none⟩) n c, .int .i64 e], [cs] => some (BokE cs n c ∧ crE cs n = 0 ∧ ex3 e ∧ 1 ≤ n ∧ n ≤ 100 ∧ (∀ j, j < n → -32768 ≤ pB cs j ∧ pB cs j ≤ 32768), tp [i (sL e (dfs cs (n - 1))), i 0])
  | _, _ => none
theorem c45 : ∀ al css os p v, sp45 al css = some (p, v) → p → Blks css os → (∀ cs ∈ css, cs.all Ex.flat = true) ∧ clean 6 v = true ∧ ∃ H', Sound Try.prog (gl + css.length) (.call 45 ⟨al⟩ (heapL (deads ++ os))) (.val v H') := by
  intro al css os p v hs hp hb
  unfold sp45 at hs
  split at hs
  case h_2 => cases hs
  rename_i n c e cs
  cases hs
  obtain ⟨t, s, ex, rfl⟩ := blks1 hb
  obtain ⟨h1, h2, h3, h4, h5, h6⟩ := hp
  refine ⟨by simpa using h1.1.1, rfl, ?_⟩
  by_cases hz : n = 1
  · subst hz
    obtain ⟨H', h'⟩ := Out.vals_sel (x45 cs t s 1 c ex e true) (v := tp [i (sL e (dfs cs (1 - 1))), i 0]) (by
      rw [v45t]
      unfold p45
      rw [vP_sel ⟨h1, h2⟩, vP_sel (okI2 _ _), ex3_rg h3, vb_f (by rfl), vP_sel ⟨h1.1, h1.2, rfl⟩]; rfl)
    exact ⟨H', execO_sound (C := C45 true) (tsD_ true) .none 60 _ _ h'⟩
  · obtain ⟨k, rfl⟩ : ∃ k, n = k + 1 := ⟨n - 1, by omega⟩
    have hv := V79_V (l := dfs cs k) (N := k) (dfs_bd h6) (by rw [dfs_len]; omega) (by rw [dfs_len]; exact Nat.le_refl _) h3
    have hsm := smP_V e (dfs cs k)
    rw [dfs_len] at hv hsm
    have hP : P81 false cs (k + 1) c := ⟨h1.1, h1.2, show 2 ≤ k + 1 by omega⟩
    obtain ⟨H', h'⟩ := Out.vals_sel (x45 cs t s (k + 1) c ex e false) (v := tp [i (sL e (dfs cs (k + 1 - 1))), i 0]) (by
      rw [v45f]
      unfold p45
      rw [vP_sel ⟨h1, h2⟩, vP_sel (okI2 _ _), ex3_rg h3, vb_f (by rfl), vP_sel hP, Nat.add_sub_cancel, lst_V, show (List.range k).map (dfI cs) = dfs cs k from rfl, vP_sel hv]
      show some (tp [i (smP (lstV (dfs cs k)) e k), i 0]) = _
      rw [hsm])
    exact ⟨H', execO_sound (C := C45 false) (tsD_ false) .none 60 _ _ h'⟩
end Go.Proofs.Ytphadgdlknhbnaa.Ways
set_option maxRecDepth 10000
noncomputable section
namespace Go.Proofs.Ytphadgdlknhbnaa.Ways
open Go Go.Ex Go.RowKit Go.Turn
theorem zI_len (N : Nat) : (zI N).length = N := by
  unfold zI
  rw [Array.length_toList, size_zeroCells]; exact Nat.mul_one _
theorem w_eq {a k : Nat} (h : a < 100000) (h2 : k < 100000) : w1_ a = (a : Int) ∧ w2_ a = ((a + a : Nat) : Int) ∧ w3_ a k = ((a + a + k : Nat) : Int) ∧ szQ (w3_ a k) = ((a + a + k : Nat) : Int) := by
  have e1 : w1_ a = (a : Int) := by unfold w1_; rw [wrapF_in (by omega) (by omega)]; omega
  have e2 : w2_ a = ((a + a : Nat) : Int) := by unfold w2_; rw [e1, wrapF_in (by omega) (by omega)]; omega
  have e3 : w3_ a k = ((a + a + k : Nat) : Int) := by unfold w3_; rw [e2, wrapF_in (by omega) (by omega)]; omega
  refine ⟨e1, e2, e3, ?_⟩
  unfold szQ
  rw [e3, show wrapF .i64 (((0 : Nat) : Int) - ((0 : Nat) : Int)) = 0 from rfl, wrapF_in (by omega) (by omega)]; omega
theorem put_V {A B : List Int} {Z : List Value} {x y : Nat} (hx : A.length = x) (hy : B.length = y) : putR 1 x y 0 (lstV B) (lstV A ++ Z) = lstV (A ++ B) ++ Z.drop y := by
  subst hx hy
  have ha : (lstV A).length = A.length := lstV_len A
  have hb : (lstV B).length = B.length := lstV_len B
  unfold putR
  rw [Nat.mul_one, Nat.mul_one, List.drop_zero, List.take_of_length_le (l := lstV B) (by omega), ← ha, List.take_left, List.drop_append, ha, List.drop_of_length_le (by omega), List.nil_append, show A.length + B.length - A.length = B.length from by omega, lstV_app, List.append_assoc]
theorem room_V {A B : List Int} {Z : List Value} {N x y : Nat} (hx : A.length = x) (hy : B.length = y) (hB : y ≠ 0) (hN : x + y ≤ N) (hZ : y ≤ Z.length) : roomB y y x N 1 0 (lstV B) (lstV A ++ Z) = true := by
  subst hx hy
  have ha : (lstV A).length = A.length := lstV_len A
  have hb : (lstV B).length = B.length := lstV_len B
  unfold roomB
  rw [List.drop_zero, List.take_of_length_le (l := lstV B) (by omega), lstV_one, List.length_append, ha, hb]
  simp only [Bool.and_eq_true, decide_eq_true_eq, and_true]
  omega
theorem gr_sel {a k : Nat} (h : a < 100000) (h2 : k < 100000) (h0 : a + a + k ≠ 0) (u : VT) : (gr_ a k u).sel = u.sel := by
  obtain ⟨e1, e2, e3, e4⟩ := w_eq h h2
  unfold gr_ vn
  rw [e4, e3, e2, e1, vb_f (by rw [ltF_eq]; exact decide_eq_false (by omega)), vb_f (by rw [ltF_eq]; exact decide_eq_false (by omega)), vb_f (by rw [ltF_eq]; exact decide_eq_false (by omega)), vb_f (by rw [ltF_eq]; exact decide_eq_false (by omega)),
    aV_sel (by rw [ltF_eq]; exact decide_eq_true (by omega)), aV_sel (by rw [ltF_eq, leF_eq, decide_eq_true (by omega), decide_eq_true (by omega)]; rfl), aV_sel (by rw [leF_eq, leF_eq, decide_eq_true (by omega), decide_eq_true (by omega)]; rfl)]
theorem grZ_sel {a k : Nat} (h : a < 100000) (h2 : k < 100000) (h0 : a + a + k ≠ 0) (u : VT) : (grZ a k u).sel = u.sel := by
  obtain ⟨e1, e2, e3, e4⟩ := w_eq h h2
  unfold grZ vn
  rw [e4, e3, e2, e1, vb_f (by rw [ltF_eq]; exact decide_eq_false (by omega)), vb_f (by rw [ltF_eq]; exact decide_eq_false (by omega)), vb_f (by rw [ltF_eq]; exact decide_eq_false (by omega)), vb_f (by rw [ltF_eq]; exact decide_eq_false (by omega)),
    vb_t (by rw [ltF_eq]; exact decide_eq_true (by omega)), aV_sel (by rw [ltF_eq, leF_eq, decide_eq_true (by omega), decide_eq_true (by omega)]; rfl), aV_sel (by rw [leF_eq, leF_eq, decide_eq_true (by omega), decide_eq_true (by omega)]; rfl)]
section
variable {cs : List Value} {n : Nat} {e : Int}
def rgC (cs : List Value) (n : Nat) : List Int := rgs (flatC (CC_ cs n)) (CC_ cs n).length
noncomputable def dfC (cs : List Value) (n : Nat) : List Int := dfs (ST_ cs n) (LD_ cs n - 1)
theorem rgC_len (cs : List Value) (n : Nat) : (rgC cs n).length = (CC_ cs n).length := rgs_len _ _
theorem dfC_len (cs : List Value) (n : Nat) : (dfC cs n).length = LD_ cs n - 1 := dfs_len _ _
theorem RI_eq (cs : List Value) (n : Nat) : RI_ cs n = lstV (rgC cs n) := lst_V _ _
theorem DI_eq (cs : List Value) (n : Nat) : DI_ cs n = lstV (dfC cs n) := lst_V _ _
theorem p43_sel (h : Fx cs n 0) (he : ex3 e) (u : VT) : (p43 cs n e u).sel = u.sel := by
  obtain ⟨k1, k2, k3⟩ := h.lok
  unfold p43 er43
  rw [vP_sel k1, vP_sel (okI2 _ _), ex3_rg he, vb_f (by rfl), vP_sel k3.1]
theorem pts_at (cs : List Value) : ∀ {k j : Nat} (h : j < (pts cs k).length), (pts cs k)[j] = (pA cs j, pB cs j)
  | 0, j, h => by exact absurd h (by rw [pts_len]; omega)
  | k + 1, j, h => by
    have e : pts cs (k + 1) = pts cs k ++ [(pA cs k, pB cs k)] := rfl
    by_cases hj : j < k
    · have h1 : j < (pts cs k).length := by rw [pts_len]; exact hj
      have : (pts cs (k + 1))[j]? = some (pA cs j, pB cs j) := by
        rw [e, List.getElem?_append_left h1, List.getElem?_eq_getElem h1, pts_at cs h1]
      rw [List.getElem?_eq_getElem h] at this
      exact Option.some.inj this
    · have hk : j = k := by rw [pts_len] at h; omega
      subst hk
      have : (pts cs (j + 1))[j]? = some (pA cs j, pB cs j) := by
        rw [e, List.getElem?_append_right (by rw [pts_len]; exact Nat.le_refl _), pts_len, Nat.sub_self]; rfl
      rw [List.getElem?_eq_getElem h] at this
      exact Option.some.inj this
theorem st_pB {j : Nat} (hj : j < LD_ cs n) : pB (DS_ cs n) j = pB (ST_ cs n) j := by
  unfold DS_
  rw [pB_fl (by rw [pts_len]; exact hj), pts_at]
theorem Fx.pB_bd (h : Fx cs n 0) {j : Nat} (hj : j < LD_ cs n) : -32768 ≤ pB (ST_ cs n) j ∧ pB (ST_ cs n) j ≤ 32768 := by
  have hl : (SS_ cs n).reverse.length = LD_ cs n := by rw [List.length_reverse]; rfl
  rw [← st_pB hj, h.st.2, pB_fl (by omega)]
  exact (h.at_lt (List.mem_reverse.1 (List.getElem_mem _))).2.2
theorem Fx.rg_bd (h : Fx cs n 0) : ∀ x ∈ rgC cs n, 0 ≤ x ∧ x ≤ 65536 := rgs_bd h.gc
theorem Fx.df_bd (h : Fx cs n 0) : ∀ x ∈ dfC cs n, 0 ≤ x ∧ x ≤ 65536 := dfs_bd fun j hj => h.pB_bd (by have := h.ld; omega)
theorem Fx.sz (h : Fx cs n 0) : 2 * (CC_ cs n).length + LD_ cs n ≤ 24 ∧ 1 ≤ LD_ cs n := by
  have := lens cs n
  have := h.rn
  have := h.n24
  have := h.ld
  omega
noncomputable def vT (cs : List Value) (n : Nat) (e : Int) : Int := sL e (rgC cs n) + sL e (rgC cs n) + sL e (dfs (ST_ cs n) (LD_ cs n - 1))
theorem Fx.p81 (h : Fx cs n 0) (z : Bool) (hz : if z = true then LD_ cs n = 1 else 2 ≤ LD_ cs n) : P81 z (ST_ cs n) (LD_ cs n) (CP_ cs n) := ⟨h.st.1, by have := h.sz; omega, hz⟩
theorem Fx.okC (h : Fx cs n 0) : okF (flatC (CC_ cs n)) (CC_ cs n).length (CC_ cs n).length ∧ (CC_ cs n).length < 1000000 := ⟨okF_flat _ h.lt.2.1, h.lt.2.1⟩
theorem en_sel {l : List Int} {N m : Nat} (hm : m = l.length) (h : ∀ x ∈ l, 0 ≤ x ∧ x ≤ 65536) (hl : l.length ≤ 1000) (hN : l.length ≤ N) (he : ex3 e) : (en_ e (lstV l) m N).sel = some (tp [i (sL e l), i 0]) := by
  subst hm
  unfold en_
  rw [vP_sel (V79_V h hl hN he), smP_V]; rfl
theorem three_bd {a b : List Int} (ha : ∀ x ∈ a, 0 ≤ x ∧ x ≤ 65536) (hb : ∀ x ∈ b, 0 ≤ x ∧ x ≤ 65536) : ∀ x ∈ a ++ b, 0 ≤ x ∧ x ≤ 65536 := fun x hx => by
  rcases List.mem_append.1 hx with hx | hx
  · exact ha x hx
  · exact hb x hx
end
end Go.Proofs.Ytphadgdlknhbnaa.Ways
set_option maxRecDepth 10000
noncomputable section
namespace Go.Proofs.Ytphadgdlknhbnaa.Ways
open Go Go.Ex Go.RowKit Go.Turn
section
variable {cs : List Value} {n t s : Nat} {ex : Bool} {e : Int}
theorem c1_V {R : List Int} {a N : Nat} (hR : R.length = a) : c1_ (lstV R) a ((N : Nat) : Int) = lstV R ++ (zI N).drop a := put_V (A := []) (B := R) (Z := zI N) rfl hR
theorem c2_V {R : List Int} {a N : Nat} (hR : R.length = a) : c2_ (lstV R) a ((N : Nat) : Int) = lstV (R ++ R) ++ ((zI N).drop a).drop a := by
  unfold c2_
  rw [c1_V hR]
  exact put_V (by omega) hR
theorem c3_V {R D : List Int} {a k N : Nat} (hR : R.length = a) (hD : D.length = k) (hN : N = a + a + k) : c3_ (lstV R) (lstV D) a k ((N : Nat) : Int) = lstV (R ++ R ++ D) := by
  unfold c3_
  rw [c2_V hR, put_V (A := R ++ R) (by rw [List.length_append, hR]; omega) hD, List.drop_drop, List.drop_drop, List.drop_of_length_le (by rw [zI_len]; omega), List.append_nil]
theorem room_0 {B : List Int} {Z : List Value} {N y : Nat} (hy : B.length = y) (hB : y ≠ 0) (hN : y ≤ N) (hZ : y ≤ Z.length) : roomB y y 0 N 1 0 (lstV B) Z = true := room_V (A := []) (B := B) (Z := Z) rfl hy hB (by omega) hZ
theorem put_0 {B : List Int} {Z : List Value} {y : Nat} (hy : B.length = y) : putR 1 0 y 0 (lstV B) Z = lstV B ++ Z.drop y := put_V (A := []) (B := B) (Z := Z) rfl hy
theorem vT_eq (cs : List Value) (n : Nat) (e : Int) : sL e (rgC cs n ++ rgC cs n ++ dfC cs n) = vT cs n e := by rw [sL_app, sL_app]; rfl
theorem sel_tf (h : Fx cs n 0) (he : ex3 e) (hC : CC_ cs n ≠ []) (hz : 2 ≤ LD_ cs n) : (o43 cs n t s ex e true false).vals.sel = some (tp [i (vT cs n e), i 0]) := by
  have hsz := h.sz
  have hCl : (CC_ cs n).length ≠ 0 := fun hh => hC (List.eq_nil_of_length_eq_zero hh)
  have hR := rgC_len cs n
  have hD := dfC_len cs n
  obtain ⟨_, _, _, e4⟩ := w_eq (a := (CC_ cs n).length) (k := LD_ cs n - 1) (by omega) (by omega)
  rw [v43tf, p43_sel h he, vP_sel (h.p59 true hC), vP_sel h.okC, vP_sel (h.p81 false hz), gr_sel (by omega) (by omega) (by omega), e4, RI_eq, DI_eq, c1_V hR, c2_V hR, c3_V hR hD rfl, Int.toNat_natCast, Nat.sub_zero,
    aV_sel (room_0 hR hCl (by omega) (by rw [zI_len]; omega)), aV_sel (room_V (A := rgC cs n) (B := rgC cs n) (by omega) hR hCl (by omega) (by rw [List.length_drop, zI_len]; omega)),
    aV_sel (room_V (A := rgC cs n ++ rgC cs n) (B := dfC cs n) (by rw [List.length_append, hR]; omega) hD (by omega) (by omega) (by rw [List.length_drop, List.length_drop, zI_len]; omega)),
    en_sel (by rw [List.length_append, List.length_append, hR, hD]; omega) (three_bd (three_bd h.rg_bd h.rg_bd) h.df_bd) (by rw [List.length_append, List.length_append, hR, hD]; omega) (by rw [List.length_append, List.length_append, hR, hD]; omega) he, vT_eq]
theorem sel_tt (h : Fx cs n 0) (he : ex3 e) (hC : CC_ cs n ≠ []) (hz : LD_ cs n = 1) : (o43 cs n t s ex e true true).vals.sel = some (tp [i (vT cs n e), i 0]) := by
  have hsz := h.sz
  have hCl : (CC_ cs n).length ≠ 0 := fun hh => hC (List.eq_nil_of_length_eq_zero hh)
  have hR := rgC_len cs n
  have hv : sL e (rgC cs n ++ rgC cs n) = vT cs n e := by
    unfold vT
    rw [sL_app, hz]
    show _ = _ + 0
    omega
  obtain ⟨_, _, _, e4⟩ := w_eq (a := (CC_ cs n).length) (k := 0) (by omega) (by omega)
  rw [v43tt, p43_sel h he, vP_sel (h.p59 true hC), vP_sel h.okC, vP_sel (h.p81 true hz), gr_sel (by omega) (by omega) (by omega), e4, RI_eq, c1_V hR, c2_V hR, Int.toNat_natCast, Nat.sub_zero,
    aV_sel (room_0 hR hCl (by omega) (by rw [zI_len]; omega)), aV_sel (room_V (A := rgC cs n) (B := rgC cs n) (by omega) hR hCl (by omega) (by rw [List.length_drop, zI_len]; omega)),
    aV_sel (decide_eq_true (by omega)), List.drop_drop, List.drop_of_length_le (by rw [zI_len]; omega), List.append_nil,
    en_sel (by rw [List.length_append, hR]; omega) (three_bd h.rg_bd h.rg_bd) (by rw [List.length_append, hR]; omega) (by rw [List.length_append, hR]; omega) he, hv]
theorem sel_ft (h : Fx cs n 0) (he : ex3 e) (hC : CC_ cs n = []) (hz : LD_ cs n = 1) : (o43 cs n t s ex e false true).vals.sel = some (tp [i (vT cs n e), i 0]) := by
  have hv : vT cs n e = 0 := by
    unfold vT rgC
    rw [hC, hz]; rfl
  rw [v43ft, p43_sel h he, vP_sel (h.p59 false hC), vP_sel (h.p81 true hz), hv]; rfl
theorem zz_nil {len cap size off2 cap2 : Nat} {ds cs : List Value} {K : Nat → List Value → VT} (h : len ≤ cap) : (zz_ 0 cap2 len cap size off2 ds cs K).sel = (K len cs).sel := by
  unfold zz_
  rw [vb_t (decide_eq_true rfl), vb_t (by rw [decide_eq_true rfl, decide_eq_true (Nat.zero_le _), decide_eq_true h]; rfl)]
theorem zz_some {n len cap size off2 cap2 : Nat} {ds cs : List Value} {K : Nat → List Value → VT} (h : n ≠ 0) (hr : roomB n cap2 len cap size off2 ds cs = true) : (zz_ n cap2 len cap size off2 ds cs K).sel = (K (len + n) (putR size len n off2 ds cs)).sel := by
  unfold zz_
  rw [vb_f (decide_eq_false h), vb_t hr]
theorem sel_ff (h : Fx cs n 0) (he : ex3 e) (hC : CC_ cs n = []) (hz : 2 ≤ LD_ cs n) : (o43 cs n t s ex e false false).vals.sel = some (tp [i (vT cs n e), i 0]) := by
  have hsz := h.sz
  have hD := dfC_len cs n
  have hv : sL e (dfC cs n) = vT cs n e := by
    unfold vT rgC
    rw [hC]
    show _ = 0 + 0 + _
    rw [Int.zero_add, Int.zero_add]; rfl
  obtain ⟨_, _, _, e4⟩ := w_eq (a := 0) (k := LD_ cs n - 1) (by omega) (by omega)
  rw [v43ff, p43_sel h he, vP_sel (h.p59 false hC), vP_sel (h.p81 false hz), grZ_sel (by omega) (by omega) (by omega), e4, DI_eq, Int.toNat_natCast, Nat.sub_zero, zz_nil (Nat.zero_le _), zz_nil (Nat.zero_le _),
    zz_some (by omega) (room_0 hD (by omega) (by omega) (by rw [zI_len]; omega)), put_0 hD, List.drop_of_length_le (by rw [zI_len]; omega), List.append_nil,
    en_sel (by rw [hD]; omega) h.df_bd (by rw [hD]; omega) (by rw [hD]; omega) he]
  show some (tp [i (sL e (dfC cs n)), i 0]) = _
  rw [hv]
end
noncomputable def sp43 : ESpec := fun al css => match al, css with
  | [.slice (some ⟨1, 0, none⟩) n c, .int .i64 e], [cs] => some (c = n ∧ Fx cs n 0 ∧ ex3 e, tp [i (vT cs n e), i 0])
  | _, _ => none
theorem c43 : ∀ al css os p v, sp43 al css = some (p, v) → p → Blks css os → (∀ cs ∈ css, cs.all Ex.flat = true) ∧ clean 6 v = true ∧ ∃ H', Sound Try.prog (gl + css.length) (.call 43 ⟨al⟩ (heapL (deads ++ os))) (.val v H') := by
  intro al css os p v hs hp hb
  unfold sp43 at hs
  split at hs
  case h_2 => cases hs
  rename_i n c e cs
  cases hs
  obtain ⟨t, s, ex, rfl⟩ := blks1 hb
  obtain ⟨rfl, h, he⟩ := hp
  refine ⟨by simpa using h.ok.1, rfl, ?_⟩
  have fin : ∀ f z, (o43 cs c t s ex e f z).vals.sel = some (tp [i (vT cs c e), i 0]) → ∃ H', Sound Try.prog (gl + [cs].length) (.call 43 ⟨[sl 1 0 c c, i e]⟩ (heapL (deads ++ [.cells cs t s ex]))) (.val (tp [i (vT cs c e), i 0]) H') := fun f z hs => by
    obtain ⟨H', h'⟩ := Out.vals_sel (x43 cs c t s ex e f z) hs
    refine ⟨H', execO_sound (C := C43 f z) ?_ ?_ 90 _ _ h'⟩
    · cases f <;> cases z <;> exact tsW_ _ _
    · cases f <;> cases z <;> exact .none
  have hsz := h.sz
  by_cases hC : CC_ cs c = []
  · by_cases hz : LD_ cs c = 1
    · exact fin false true (sel_ft h he hC hz)
    · exact fin false false (sel_ff h he hC (by omega))
  · by_cases hz : LD_ cs c = 1
    · exact fin true true (sel_tt h he hC hz)
    · exact fin true false (sel_tf h he hC (by omega))
end Go.Proofs.Ytphadgdlknhbnaa.Ways
set_option maxRecDepth 10000
noncomputable section
namespace Go.Proofs.Ytphadgdlknhbnaa.Ways
open Go Go.Ex Go.RowKit Go.Turn
noncomputable def B42 : Code := bodyL Try.f42 3
inductive KL where
  | z
  | m (j : Int) (l : Nat) (out : List Value)
section
variable (cs : List Value) (t s n c : Nat) (ex : Bool)
noncomputable def C42 : Cfg := ⟨noT, at_ [(42, 8)] .bool no_, on_ [(42, 14), (42, 16), (42, 18), (42, 300018)], noL⟩
noncomputable def C42z : Cfg := ⟨noT, at_ [(42, 8)] .bool no_, on_ [(42, 14), (42, 16)], noL⟩
def tdL : KL → Go.Ex.Told
  | .z => ⟨[(0, sl 1 0 n c), (3, .slice none 0 0), (4, i 0)], [ddQ, (.cells cs t s ex, true)]⟩
  | .m j l out => ⟨[(0, sl 1 0 n c), (3, sl 2 0 l l), (4, i j)], [ddQ, (.cells cs t s ex, true), rw1 out]⟩
def fdL : KL → Go.Ex.Told
  | .z => ⟨[(3, .slice none 0 0)], [ddQ, (.cells cs t s ex, true)]⟩
  | .m _ l out => ⟨[(3, sl 2 0 l l)], [ddQ, (.cells cs t s ex, true), rw1 out]⟩
def ShL : Shape KL := ⟨20, tdL cs t s n c ex, fun _ q => (.exit 0, fdL cs t s ex q)⟩
def stL : KL → SS KL
  | .z => .br (ltF 0 n) (askS (bnd_ 0 n c) <| askS (cB2 cs 0) <| .next 4 [0, 1, 3] (.m 1 1 [i (pB cs 0)])) (.done 2 [0, 1] 0)
  | .m j l out => .br (ltF j n) (askS (bnd_ j n c) <| askS (cB2 cs j) <| askS (fl1 l out) <| .next 5 [0, 1, 4] (.m (wrapF .i64 (j + 1)) (l + 1) (out ++ [i (pB cs j.toNat)]))) (.done 3 [0, 1, 2] 0)
def GdL : KL → Prop
  | .z => True
  | .m _ _ out => out.all Ex.flat = true
end
section
variable {cs : List Value} {t s n c : Nat} {ex : Bool}
theorem twoL_flat {out : List Value} (h : cs.all Ex.flat = true) (g : out.all Ex.flat = true) : ∀ o, (o, true) ∈ [ddQ, (.cells cs t s ex, true), rw1 out] → FlatO o := by
  intro o ho
  simp [ddQ, rw1] at ho
  rcases ho with rfl | rfl
  · exact fun y hy => List.all_eq_true.1 h y hy
  · exact fun y hy => List.all_eq_true.1 g y hy
theorem tdL_flat (h : cs.all Ex.flat = true) {q : KL} (hq : GdL q) : (tdL cs t s n c ex q).flat := by
  cases q with
  | z => exact one_flatM h
  | m _ _ _ => exact twoL_flat h hq
theorem fdL_flat (h : cs.all Ex.flat = true) {q : KL} (hq : GdL q) : (fdL cs t s ex q).flat := by
  cases q with
  | z => exact one_flatM h
  | m _ _ _ => exact twoL_flat h hq
theorem goodL : ∀ q q', GdL q → (stL cs n c q).sel = some (.inl q') → GdL q' := by
  intro q q' hg h
  cases q with
  | z =>
    rcases br_or' h with h | h
    · have h := ask_or' (ask_or' h); cases h; rfl
    · cases h
  | m j l out =>
    rcases br_or' h with h | h
    · have h := ask_or' (ask_or' (ask_or' h)); cases h; exact app_flat hg rfl
    · cases h
theorem LL42 (h : cs.all Ex.flat = true) : Loop1 Try.prog 2 42 B42 (ShL cs t s n c ex) 2 (stL cs n c) GdL :=
  .mk' (C := fun q => match q with
    | .z => C42z
    | .m _ _ _ => C42) (n := 60) (fun q _ => by cases q <;> exact .none) (fun q _ => by cases q <;> exact .none)
    (fun q ro _ => by cases q <;> kernel_rfl) (fun q ro _ => by cases q <;> kernel_rfl) (fun q => by cases q <;> kernel_rfl)
    goodL (fun _ hq => tdL_flat h hq) (fun _ _ hq _ => ⟨fdL_flat h hq, fun h => by cases h⟩)
def qL (cs : List Value) : Nat → KL
  | 0 => .z
  | j + 1 => .m ((j + 1 : Nat) : Int) (j + 1) (lstI (pB cs) (j + 1))
theorem runL (h : okP cs n c) (hn : n < 1000000) : runS (stL cs n c) (n + 1) .z = some (0, qL cs n) := by
  refine run_all (step := stL cs n c) (st := qL cs) (a := 0) n (fun j hj => ?_) ?_
  · cases j with
    | zero =>
      show (stL cs n c .z).sel = _
      unfold stL
      rw [br_t (by rw [ltF_eq]; exact decide_eq_true (by omega)), askS_sel (show bnd_ 0 n c = true from bnd_t (j := 0) hj h.2.1), askS_sel (show cB2 cs 0 = true from cB2_t h hj)]; rfl
    | succ j =>
      show (stL cs n c (.m ((j + 1 : Nat) : Int) (j + 1) _)).sel = _
      unfold stL
      dsimp only
      rw [br_t (by rw [ltF_eq]; exact decide_eq_true (by omega)), askS_sel (bnd_t hj h.2.1), askS_sel (cB2_t h hj), askS_sel (fl1_t (lst_len _ _) (by omega)), wsucc (by omega), show ((j + 1 : Nat) : Int).toNat = j + 1 from rfl, ← lst_succ]; rfl
  · cases n with
    | zero => rfl
    | succ n =>
      show (stL cs (n + 1) c (.m ((n + 1 : Nat) : Int) (n + 1) _)).sel = _
      unfold stL
      dsimp only
      rw [br_f (by rw [ltF_eq]; simp)]; rfl
end
section
variable (cs : List Value) (t s n c : Nat) (ex : Bool)
noncomputable def K42 (q : KL) : Cfg := ⟨noT, no_, off_, loopE noL 42 3 20 2 B42 ((ShL cs t s n c ex).st .z).live ((ShL cs t s n c ex).st .z).hp (finO (ShL cs t s n c ex) (0, q) [0])⟩
noncomputable def o42 (q : KL) : Out QRes := execO Try.prog 2 (K42 cs t s n c ex q) 60 (.call 42 ⟨[sl 1 0 n c]⟩ (heapL (deads ++ [.cells cs t s ex])))
theorem v42 (j : Int) (l : Nat) (out : List Value) : (o42 cs t s n c ex (.m j l out)).news = .br true (.leaf 2 (.sl l l out 3 1 false)) .fail := by kernel_rfl
theorem x42 (j : Int) (l : Nat) (out : List Value) : o42 cs t s n c ex (.m j l out) = (o42 cs t s n c ex (.m j l out)).fix := by kernel_rfl
end
def sp42 : NSpec := fun al css => match al, css with
  | [.slice (some ⟨1, 0, none⟩) n c], [cs] => some (TokE cs n c, .sl n n (lstI (pB cs) n) 3 1 false)
  | _, _ => none
theorem c42 : ∀ al css os p v, sp42 al css = some (p, v) → p → Blks css os → (∀ cs ∈ css, cs.all Ex.flat = true) ∧ v.Ok Try.prog 42 al deads os (gl + css.length) := by
  intro al css os p v hs hp hb
  unfold sp42 at hs
  split at hs
  case h_2 => cases hs
  rename_i n c cs
  cases hs
  obtain ⟨t, s, ex, rfl⟩ := blks1 hb
  obtain ⟨p1, p2, p3⟩ := hp
  refine ⟨by simpa using p1.1, ?_⟩
  obtain ⟨k, rfl⟩ : ∃ k, n = k + 1 := ⟨n - 1, by omega⟩
  have hL := (LL42 (t := t) (s := s) (ex := ex) (n := k + 1) (c := c) p1.1).table (id := 3) (s0 := .z) .none (by decide) trivial (runL p1 p3) (by kernel_rfl) [0]
  exact news_ok (C := K42 cs t s (k + 1) c ex (qL cs (k + 1))) (n := 60) .none hL (x42 cs t s (k + 1) c ex _ _ _) (b := 2) ((congrArg NT.sel (v42 cs t s (k + 1) c ex _ _ _)).trans rfl) (show 2 ≤ 2 by decide) (lst_flat _ _)
noncomputable def B41 : Code := bodyL Try.f41 4
def eqI1 (a b : List Value) (j : Nat) : Bool := eqF (eI a j) (eI b j)
def ckI (a : List Value) (j : Int) : Bool := cB a (.i .i64) j
def C41 : Cfg := ⟨noT, at_ [(41, 10), (41, 14), (41, 25)] .bool no_, on_ [(41, 19), (41, 20), (41, 23), (41, 24)], noL⟩
section
variable (cs ds : List Value) (t s n c t2 s2 m c2 : Nat) (ex e2 : Bool)
noncomputable def K41 (r : Nat × Int) : Cfg := ⟨noT, at_ [(41, 10)] .bool no_, off_, loopE noL 41 4 26 3 B41 ((S16 cs ds t s n c t2 s2 m c2 ex e2).st 0).live ((S16 cs ds t s n c t2 s2 m c2 ex e2).st 0).hp (finO (S16 cs ds t s n c t2 s2 m c2 ex e2) r [0])⟩
noncomputable def o41 (r : Nat × Int) : Out QRes := execO Try.prog 3 (K41 cs ds t s n c t2 s2 m c2 ex e2 r) 60 (.call 41 ⟨[sl 1 0 n c, sl 2 0 m c2]⟩ (heapL (deads ++ [.cells cs t s ex, .cells ds t2 s2 e2])))
theorem v41 (j : Int) : (o41 cs ds t s n c t2 s2 m c2 ex e2 (0, j)).vals = .br (!eqF n m) (.leaf (b_ false)) (.br true (.leaf (b_ true)) .fail) := by kernel_rfl
theorem x41 (j : Int) : o41 cs ds t s n c t2 s2 m c2 ex e2 (0, j) = (o41 cs ds t s n c t2 s2 m c2 ex e2 (0, j)).fix := by kernel_rfl
end
theorem L41 {cs ds : List Value} {t s n c t2 s2 m c2 : Nat} {ex e2 : Bool} (h : cs.all Ex.flat = true) (h2 : ds.all Ex.flat = true) : Loop1 Try.prog 3 41 B41 (S16 cs ds t s n c t2 s2 m c2 ex e2) 3 (stE eqI1 ckI cs ds n c m c2) (fun _ => True) :=
  .mk' (C := fun _ => C41) (n := 60) (fun _ _ => .none) (fun _ _ => .none) (fun s ro _ => by kernel_rfl) (fun s ro _ => by kernel_rfl) (fun s => by kernel_rfl) (fun _ _ _ _ => trivial) (fun _ _ => hpR_flat h h2)
    (fun s j _ _ => by cases j <;> exact ⟨hpR_flat h h2, fun h => by cases h⟩)
def sp41 : ESpec := fun al css => match al, css with
  | [.slice (some ⟨1, 0, none⟩) n c, .slice (some ⟨2, 0, none⟩) m c2], [a, b] => some (okI a n c ∧ okI b m c2 ∧ n = m ∧ n < 1000000 ∧ ∀ j, j < n → eI a j = eI b j, b_ true)
  | _, _ => none
theorem c41 : ∀ al css os p v, sp41 al css = some (p, v) → p → Blks css os → (∀ cs ∈ css, cs.all Ex.flat = true) ∧ clean 6 v = true ∧ ∃ H', Sound Try.prog (gl + css.length) (.call 41 ⟨al⟩ (heapL (deads ++ os))) (.val v H') := by
  intro al css os p v hs hp hb
  unfold sp41 at hs
  split at hs
  case h_2 => cases hs
  rename_i n c m c2 a d
  cases hs
  obtain ⟨t, s, ex, t2, s2, e2, rfl⟩ := blks2 hb
  obtain ⟨p1, p2, rfl, p3, p4⟩ := hp
  refine ⟨two_flat p1.1 p2.1, rfl, ?_⟩
  have hr : runS (stE eqI1 ckI a d n c n c2) (n + 1) 0 = some (0, (n : Int)) := by
    refine run_all (step := stE eqI1 ckI a d n c n c2) (st := fun j => ((j : Nat) : Int)) (a := 0) n (fun j hj => ?_) ?_
    · have e : eqI1 a d j = true := by unfold eqI1; rw [p4 j hj, eqF_d, decide_eq_true rfl]
      unfold stE
      rw [br_t (by rw [ltF_eq]; simpa using hj), askS_sel (bnd_t hj p1.2.1), askS_sel (show ckI a (j : Int) = true from cB_t p1 hj), askS_sel (bnd_t hj p2.2.1), askS_sel (show ckI d (j : Int) = true from cB_t p2 hj), show ((j : Nat) : Int).toNat = j from rfl, br_f (by rw [e]; rfl), wsucc (by omega)]; rfl
    · unfold stE
      rw [br_f (by rw [ltF_eq]; simp)]; rfl
  have hL := (L41 (t := t) (s := s) (t2 := t2) (s2 := s2) (ex := ex) (e2 := e2) (n := n) (c := c) (m := n) (c2 := c2) p1.1 p2.1).table (id := 4) .none (by decide) trivial hr (by kernel_rfl) [0]
  obtain ⟨H', h'⟩ := Out.vals_sel (x41 a d t s n c t2 s2 n c2 ex e2 n) (v := b_ true) (by rw [v41, vb_f (by rw [eqF_d, decide_eq_true rfl]; rfl)]; rfl)
  exact ⟨H', execO_sound (C := K41 a d t s n c t2 s2 n c2 ex e2 (0, n)) .none hL 60 _ _ h'⟩
end Go.Proofs.Ytphadgdlknhbnaa.Ways
