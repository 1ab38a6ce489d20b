import Derived.Test.YteemponkignnhaaGreatLf4
set_option maxRecDepth 10000
noncomputable section
namespace Go.Proofs.YteemponkignnhaaGreat.Ways
open Go Go.Ex Go.RowKit Go.Turn
noncomputable def B72 : Code := bodyL Tryz.f63 3
noncomputable def B74 : Code := bodyL Tryz.f65 5
noncomputable def B75 : Code := bodyL Tryz.f66 5
noncomputable def C72 : Cfg := ⟨TX9, at_ [(63, 14)] .bool no_, on_ [(63, 16), (63, 17), (63, 23), (63, 100023)], noL⟩
noncomputable def C74 : Cfg := ⟨TX9, at_ [(65, 15), (66, 15)] .bool no_, on_ [(65, 21), (65, 22), (66, 21), (66, 22)], noL⟩
def mxI (a b : Int) : Int := if a < b then b else a
def mnI (a b : Int) : Int := if b < a then b else a
def in1 (out : List Value) (k : Nat) : Bool := decide (k < out.length) && true
section
variable (cs : List Value) (t s n c : Nat) (ex : Bool)
def hp72 (out : List Value) : List (CO × Bool) := [(.dead, false), (.cells cs t s ex, true), (.cells out 3 1 true, true)]
def S72 : Shape (Int × List Value) := ⟨26, fun q => ⟨[(1, fn 64), (5, sl 2 0 n n), (11, sl 1 0 n c), (12, i n), (13, i q.1)], hp72 cs t s ex q.2⟩, fun _ q => (.exit 0, ⟨[(5, sl 2 0 n n)], hp72 cs t s ex q.2⟩)⟩
def st72 (q : Int × List Value) : SS (Int × List Value) := .br (ltF q.1 n) (askS (bnd_ q.1 n c) <| askS (cP cs q.1) <| askS (bnd_ q.1 n n) <| askS (in1 q.2 (0 + q.1.toNat * 1)) <|
  .next 5 [0, 1, 2] (wrapF .i64 (q.1 + 1), q.2.set (0 + q.1.toNat * 1) (i (pB cs q.1.toNat)))) (.done 3 [0, 1, 2] 0)
def S74 : Shape (Int × Int) := ⟨25, fun q => ⟨[(0, sl 1 0 n c), (3, i q.1), (4, i q.2)], hpI cs t s ex⟩, fun _ q => (.exit 0, ⟨[(3, i q.1)], hpI cs t s ex⟩)⟩
def st74 (f : Int → Int → Int) (q : Int × Int) : SS (Int × Int) := .br (ltF q.2 n) (askS (bnd_ q.2 n c) <| askS (cB cs (.i .i64) q.2) <| .next 2 [0, 1] (f q.1 (eI cs q.2.toNat), wrapF .i64 (q.2 + 1))) (.done 2 [0, 1] 0)
end
section
variable {cs : List Value} {t s n c : Nat} {ex : Bool}
theorem hp72_flat {out : List Value} (h : cs.all Ex.flat = true) (h2 : out.all Ex.flat = true) : ∀ o, (o, true) ∈ hp72 cs t s ex out → FlatO o := by
  intro o ho
  simp [hp72] at ho
  rcases ho with rfl | rfl
  · exact fun x hx => List.all_eq_true.1 h x hx
  · exact fun x hx => List.all_eq_true.1 h2 x hx
theorem good72 : ∀ q q', GdQ q → (st72 cs n c q).sel = some (.inl q') → GdQ q' := by
  intro q q' hg h
  rcases br_or' h with h | h
  · have h := ask_or' (ask_or' (ask_or' (ask_or' h))); cases h; exact set_flat hg rfl
  · cases h
theorem L72 (h : cs.all Ex.flat = true) : Loop1 Tryz.prog 2 63 B72 (S72 cs t s n c ex) 3 (st72 cs n c) GdQ :=
  .mk' (C := fun _ => C72) (n := 60) (fun _ _ => tsX9) (fun _ _ => .none) (fun q ro _ => by kernel_rfl) (fun q ro _ => by kernel_rfl) (fun q => by kernel_rfl) good72
    (fun _ hq => hp72_flat h hq) (fun _ _ hq _ => ⟨hp72_flat h hq, fun h => by cases h⟩)
theorem L74 (h : cs.all Ex.flat = true) : Loop1 Tryz.prog 2 65 B74 (S74 cs t s n c ex) 2 (st74 cs n c mxI) (fun _ => True) :=
  .mk' (C := fun _ => C74) (n := 60) (fun _ _ => tsX9) (fun _ _ => .none) (fun q ro _ => by kernel_rfl) (fun q ro _ => by kernel_rfl) (fun q => by kernel_rfl) (fun _ _ _ _ => trivial)
    (fun _ _ => hpI_flat h) (fun _ _ _ _ => ⟨hpI_flat h, fun h => by cases h⟩)
theorem L75 (h : cs.all Ex.flat = true) : Loop1 Tryz.prog 2 66 B75 (S74 cs t s n c ex) 2 (st74 cs n c mnI) (fun _ => True) :=
  .mk' (C := fun _ => C74) (n := 60) (fun _ _ => tsX9) (fun _ _ => .none) (fun q ro _ => by kernel_rfl) (fun q ro _ => by kernel_rfl) (fun q => by kernel_rfl) (fun _ _ _ _ => trivial)
    (fun _ _ => hpI_flat h) (fun _ _ _ _ => ⟨hpI_flat h, fun h => by cases h⟩)
end
end Go.Proofs.YteemponkignnhaaGreat.Ways
set_option maxRecDepth 10000
noncomputable section
namespace Go.Proofs.YteemponkignnhaaGreat.Ways
open Go Go.Ex Go.RowKit Go.Turn
def z1 (n : Nat) : List Value := (zeroRow #[i 0] ((n : Int).toNat * 1)).toList
theorem z1_len (n : Nat) : (z1 n).length = n := by
  unfold z1 zeroRow
  simp
theorem z1_flat (n : Nat) : (z1 n).all Ex.flat = true := by
  refine List.all_eq_true.2 fun v hv => ?_
  unfold z1 zeroRow at hv
  simp only [Array.toList_map, List.mem_map, Array.mem_toList_iff, Array.mem_range] at hv
  obtain ⟨k, _, rfl⟩ := hv
  have hk : k % (#[i 0] : Array Value).size < 1 := Nat.mod_lt _ (by decide)
  generalize k % (#[i 0] : Array Value).size = m at hk
  match m, hk with
  | 0, _ => rfl
def lds (cs : List Value) : Nat → List Value
  | 0 => []
  | j + 1 => lds cs j ++ [i (pB cs j)]
theorem lds_len (cs : List Value) : ∀ j, (lds cs j).length = j
  | 0 => rfl
  | j + 1 => by show (lds cs j ++ [i (pB cs j)]).length = _; rw [List.length_append, lds_len cs j]; rfl
theorem lds_flat (cs : List Value) : ∀ j, (lds cs j).all Ex.flat = true
  | 0 => rfl
  | j + 1 => by show (lds cs j ++ [i (pB cs j)]).all Ex.flat = true; rw [List.all_append, lds_flat cs j]; rfl
theorem lds_get (cs : List Value) {k : Nat} : ∀ {j : Nat}, k < j → (lds cs j)[k]? = some (i (pB cs k))
  | j + 1, h => by
    show (lds cs j ++ [i (pB cs j)])[k]? = _
    by_cases hk : k < j
    · rw [List.getElem?_append_left (by rw [lds_len]; exact hk)]; exact lds_get cs hk
    · have e : k = j := by omega
      subst e
      rw [List.getElem?_append_right (by rw [lds_len]; exact Nat.le_refl _), lds_len, Nat.sub_self]; rfl
theorem okI_lds {cs : List Value} {n : Nat} (hn : n < 1000000) : okI (lds cs n) n n :=
  ⟨lds_flat cs n, Nat.le_refl _, by omega, fun j hj => by rw [show 0 + j * 1 = j from by omega, lds_get cs hj]; rfl⟩
theorem eI_lds {cs : List Value} {n j : Nat} (hj : j < n) : eI (lds cs n) j = pB cs j := by
  unfold eI
  rw [show 0 + j * 1 = j from by omega, lds_get cs hj]; rfl
theorem run72 {cs : List Value} {n c : Nat} (h : okP cs n c) (hn : n < 1000000) : runS (st72 cs n c) (n + 1) (0, z1 n) = some (0, ((n : Int), lds cs n)) := by
  have hc := h.2.1
  have key := run_all (step := st72 cs n c) (st := fun j => (((j : Nat) : Int), lds cs j ++ (z1 n).drop j)) (a := 0) n (fun j hj => ?_) ?_
  · have e1 : lds cs n ++ (z1 n).drop n = lds cs n := by rw [List.drop_of_length_le (by rw [z1_len]; exact Nat.le_refl _), List.append_nil]
    rw [e1] at key
    exact key
  · have hdl : ((z1 n).drop j).length = n - j := by rw [List.length_drop, z1_len]
    obtain ⟨x, B, hB⟩ : ∃ x B, (z1 n).drop j = x :: B := by
      match hd : (z1 n).drop j, hdl with
      | [], hdl => simp at hdl; omega
      | x :: B, _ => exact ⟨x, B, rfl⟩
    have hB2 : (z1 n).drop (j + 1) = B := by rw [← List.drop_drop, hB]; rfl
    have hset : (lds cs j ++ (z1 n).drop j).set (0 + j * 1) (i (pB cs j)) = lds cs (j + 1) ++ (z1 n).drop (j + 1) := by
      rw [hB, set_app (by rw [lds_len]; omega), lds_len, show 0 + j * 1 - j = 0 from by omega, hB2]
      show lds cs j ++ (i (pB cs j) :: B) = (lds cs j ++ [i (pB cs j)]) ++ B
      rw [List.append_assoc]; rfl
    unfold st72
    dsimp only
    rw [br_t (by rw [ltF_eq]; simpa using hj), askS_sel (bnd_t hj hc), askS_sel (cP_t h hj), askS_sel (bnd_t hj (Nat.le_refl n)), show ((j : Nat) : Int).toNat = j from rfl,
      askS_sel (show in1 (lds cs j ++ (z1 n).drop j) (0 + j * 1) = true from by unfold in1; rw [List.length_append, lds_len, hdl, decide_eq_true (by omega)]; rfl), wsucc (by omega), hset]; rfl
  · unfold st72
    dsimp only
    rw [br_f (by rw [ltF_eq]; simp)]; rfl
def foN (f : Int → Int → Int) (cs : List Value) : Nat → Int
  | 0 => 0
  | 1 => eI cs 0
  | j + 2 => f (foN f cs (j + 1)) (eI cs (j + 1))
theorem run74 {cs : List Value} {n c : Nat} (f : Int → Int → Int) (h : okI cs (n + 1) c) : runS (st74 cs (n + 1) c f) (n + 1) (eI cs 0, 1) = some (0, (foN f cs (n + 1), ((n + 1 : Nat) : Int))) := by
  have hc := h.2.1
  have hl := h.2.2.1
  refine run_all (step := st74 cs (n + 1) c f) (st := fun j => (foN f cs (j + 1), ((j + 1 : Nat) : Int))) (a := 0) n (fun j hj => ?_) ?_
  · have hcell : cB cs (.i .i64) ((j + 1 : Nat) : Int) = true := h.2.2.2 (j + 1) (by omega)
    unfold st74
    dsimp only
    rw [br_t (by rw [ltF_eq]; exact decide_eq_true (by omega)), askS_sel (bnd_t (by omega) hc), askS_sel hcell, show ((j + 1 : Nat) : Int).toNat = j + 1 from rfl, wsucc (by omega)]; rfl
  · unfold st74
    dsimp only
    rw [br_f (by rw [ltF_eq]; simp)]; rfl
section
variable (cs : List Value) (t s n c : Nat) (ex : Bool)
noncomputable def K72 (r : Nat × Int × List Value) : Cfg := ⟨TX9, no_, on_ [(63, 10)], loopE noL 63 3 26 3 B72 ((S72 cs t s n c ex).st (0, z1 n)).live ((S72 cs t s n c ex).st (0, z1 n)).hp (finO (S72 cs t s n c ex) r [0])⟩
noncomputable def o72 (r : Nat × Int × List Value) : Out QRes := execO Tryz.prog 2 (K72 cs t s n c ex r) 60 (.call 63 ⟨[sl 1 0 n c, fn 64]⟩ (heapL (deads ++ [.cells cs t s ex])))
theorem v72 (j : Int) (out : List Value) : (o72 cs t s n c ex (0, j, out)).news = .br (mkB n) (.br true (.leaf 2 (.sl n n out 3 1 true)) .fail) .fail := by kernel_rfl
theorem x72 (r : Nat × Int × List Value) : o72 cs t s n c ex r = (o72 cs t s n c ex r).fix := by kernel_rfl
noncomputable def K74 (f : Nat) (r : Nat × Int × Int) : Cfg := ⟨TX9, at_ [(f, 7)] .bool no_, on_ [(f, 10), (f, 11)], loopE noL f 5 25 2 (cond (Nat.beq f 65) B74 B75) ((S74 cs t s n c ex).st (eI cs 0, 1)).live ((S74 cs t s n c ex).st (eI cs 0, 1)).hp (finO (S74 cs t s n c ex) r [0])⟩
noncomputable def o74 (r : Nat × Int × Int) : Out QRes := execO Tryz.prog 2 (K74 cs t s n c ex 65 r) 60 (.call 65 ⟨[sl 1 0 n c]⟩ (heapL (deads ++ [.cells cs t s ex])))
noncomputable def o75 (r : Nat × Int × Int) : Out QRes := execO Tryz.prog 2 (K74 cs t s n c ex 66 r) 60 (.call 66 ⟨[sl 1 0 n c]⟩ (heapL (deads ++ [.cells cs t s ex])))
def vt74 (r : Nat × Int × Int) : VT := .br (ltF n 1) .fail (aV (bnd_ 0 n c) <| aV (cB cs (.i .i64) 0) <| .br (Nat.beq r.1 0) (.leaf (i r.2.1)) .fail)
theorem v74 (r : Nat × Int × Int) : (o74 cs t s n c ex r).vals = vt74 cs n c r := by kernel_rfl
theorem x74 (r : Nat × Int × Int) : o74 cs t s n c ex r = (o74 cs t s n c ex r).fix := by kernel_rfl
theorem v75 (r : Nat × Int × Int) : (o75 cs t s n c ex r).vals = vt74 cs n c r := by kernel_rfl
theorem x75 (r : Nat × Int × Int) : o75 cs t s n c ex r = (o75 cs t s n c ex r).fix := by kernel_rfl
end
def sp72 : NSpec := fun al css => match al, css with
  | [.slice (some ⟨1, 0, none⟩) n c, .func (.func 64) ⟨[]⟩ ⟨[]⟩], [cs] => some (okP cs n c ∧ n < 1000000, .sl n n (lds cs n) 3 1 true)
  | _, _ => none
theorem c72 : ∀ al css os p v, sp72 al css = some (p, v) → p → Blks css os → (∀ cs ∈ css, cs.all Ex.flat = true) ∧ v.Ok Tryz.prog 63 al deads os (gl + css.length) := by
  intro al css os p v hs hp hb
  unfold sp72 at hs
  split at hs
  case h_2 => cases hs
  rename_i n c cs
  obtain ⟨t, s, ex, rfl⟩ := blks1 hb
  cases hs
  obtain ⟨p1, p2⟩ := hp
  refine ⟨by simpa using p1.1, ?_⟩
  have hL := (L72 (t := t) (s := s) (ex := ex) (n := n) (c := c) p1.1).table (id := 3) (s0 := (0, z1 n)) .none (by decide) (z1_flat n) (run72 p1 p2) (by kernel_rfl) [0]
  have hv : (o72 cs t s n c ex (0, ((n : Int), lds cs n))).news.sel = some (2, .sl n n (lds cs n) 3 1 true) := by
    rw [v72]
    simp only [NT.sel]
    rw [mkB_t p2]; rfl
  exact news_ok (C := K72 cs t s n c ex (0, ((n : Int), lds cs n))) (n := 60) tsX9 hL (x72 cs t s n c ex _) (b := 2) hv (show 2 ≤ 2 from Nat.le_refl 2) (lds_flat cs n)
def sp74 (f : Int → Int → Int) : ESpec := fun al css => match al, css with
  | [.slice (some ⟨1, 0, none⟩) n c], [cs] => some (okI cs n c ∧ 1 ≤ n, i (foN f cs n))
  | _, _ => none
theorem vt74_sel {cs : List Value} {n c : Nat} (h : okI cs (n + 1) c) (x y : Int) : (vt74 cs (n + 1) c (0, x, y)).sel = some (i x) := by
  unfold vt74
  rw [vb_f (by rw [ltF_eq]; exact decide_eq_false (by omega)), aV_sel (show bnd_ 0 (n + 1) c = true from bnd_t (j := 0) (by omega) h.2.1), aV_sel (show cB cs (.i .i64) 0 = true from h.2.2.2 0 (by omega))]; rfl
theorem c74 : ∀ al css os p v, sp74 mxI al css = some (p, v) → p → Blks css os → (∀ cs ∈ css, cs.all Ex.flat = true) ∧ clean 6 v = true ∧ ∃ H', Sound Tryz.prog (gl + css.length) (.call 65 ⟨al⟩ (heapL (deads ++ os))) (.val v H') := by
  intro al css os p v hs hp hb
  unfold sp74 at hs
  split at hs
  case h_2 => cases hs
  rename_i n c cs
  cases hs
  obtain ⟨t, s, ex, rfl⟩ := blks1 hb
  obtain ⟨h, h1⟩ := hp
  obtain ⟨n, rfl⟩ : ∃ m, n = m + 1 := ⟨n - 1, by omega⟩
  refine ⟨by simpa using h.1, rfl, ?_⟩
  have hL := (L74 (t := t) (s := s) (n := n + 1) (c := c) (ex := ex) h.1).table (id := 5) (s0 := (eI cs 0, 1)) .none (by decide) trivial (run74 mxI h) (by kernel_rfl) [0]
  obtain ⟨H', h'⟩ := Out.vals_sel (x74 cs t s (n + 1) c ex (0, foN mxI cs (n + 1), ((n + 1 : Nat) : Int))) (v := i (foN mxI cs (n + 1))) (by rw [v74, vt74_sel h])
  exact ⟨H', execO_sound (C := K74 cs t s (n + 1) c ex 65 _) tsX9 hL 60 _ _ h'⟩
theorem c75 : ∀ al css os p v, sp74 mnI al css = some (p, v) → p → Blks css os → (∀ cs ∈ css, cs.all Ex.flat = true) ∧ clean 6 v = true ∧ ∃ H', Sound Tryz.prog (gl + css.length) (.call 66 ⟨al⟩ (heapL (deads ++ os))) (.val v H') := by
  intro al css os p v hs hp hb
  unfold sp74 at hs
  split at hs
  case h_2 => cases hs
  rename_i n c cs
  cases hs
  obtain ⟨t, s, ex, rfl⟩ := blks1 hb
  obtain ⟨h, h1⟩ := hp
  obtain ⟨n, rfl⟩ : ∃ m, n = m + 1 := ⟨n - 1, by omega⟩
  refine ⟨by simpa using h.1, rfl, ?_⟩
  have hL := (L75 (t := t) (s := s) (n := n + 1) (c := c) (ex := ex) h.1).table (id := 5) (s0 := (eI cs 0, 1)) .none (by decide) trivial (run74 mnI h) (by kernel_rfl) [0]
  obtain ⟨H', h'⟩ := Out.vals_sel (x75 cs t s (n + 1) c ex (0, foN mnI cs (n + 1), ((n + 1 : Nat) : Int))) (v := i (foN mnI cs (n + 1))) (by rw [v75, vt74_sel h])
  exact ⟨H', execO_sound (C := K74 cs t s (n + 1) c ex 66 _) tsX9 hL 60 _ _ h'⟩
noncomputable def TZ1 : Tb := ext (ext (ext TX9 63 (newE sp72 [] (heapL deads))) 65 (autoE (sp74 mxI) [] (heapL deads))) 66 (autoE (sp74 mnI) [] (heapL deads))
theorem tsZ1 {G : Nat} : TSound Tryz.prog G TZ1 := ((tsX9.new c72).auto c74).auto c75
end Go.Proofs.YteemponkignnhaaGreat.Ways
set_option maxRecDepth 10000
noncomputable section
namespace Go.Proofs.YteemponkignnhaaGreat.Ways
open Go Go.Ex Go.RowKit Go.Turn
noncomputable def C38 : Cfg := ⟨TZ1, at_ [(10, 15), (62, 5)] .bool no_, off_, noL⟩
def grE (cs : List Value) (n : Nat) : Int := wrapF .i64 (foN mxI (lds cs n) n - foN mnI (lds cs n) n)
section
variable (cs : List Value) (t s n c : Nat) (ex : Bool)
noncomputable def o38 : Out QRes := execO Tryz.prog 2 C38 60 (.call 10 ⟨[sl 1 0 n c]⟩ (heapL (deads ++ [.cells cs t s ex])))
noncomputable def t38 (x : Int) : VT := aV (tru (okI [i (crE cs n), i x] 2 2)) (.br (!eqF (fst2 (crE cs n) x) 0) (.leaf (tp [i 0, i (fst2 (crE cs n) x)]))
  (aV (tru (okP cs n c ∧ n < 1000000)) <| aV (tru (okI (lds cs n) n n ∧ 1 ≤ n)) <| aV (tru (okI (lds cs n) n n ∧ 1 ≤ n)) <| .leaf (tp [i (grE cs n), i 0])))
theorem v38 : (o38 cs t s n c ex).vals = aV (tru (BokE cs n c)) (.br (leF 2 n) (t38 cs n c 0) (t38 cs n c 7)) := by kernel_rfl
theorem x38 : o38 cs t s n c ex = (o38 cs t s n c ex).fix := by kernel_rfl
end
def sp38 : ESpec := fun al css => match al, css with
  | [.slice (some ⟨1, 0, none⟩) n c], [cs] => some (BokE cs n c ∧ crE cs n = 0 ∧ 2 ≤ n, tp [i (grE cs n), i 0])
  | _, _ => none
theorem c38 : ∀ al css os p v, sp38 al css = some (p, v) → p → Blks css os → (∀ cs ∈ css, cs.all Ex.flat = true) ∧ clean 6 v = true ∧ ∃ H', Sound Tryz.prog (gl + css.length) (.call 10 ⟨al⟩ (heapL (deads ++ os))) (.val v H') := by
  intro al css os p v hs hp hb
  unfold sp38 at hs
  split at hs
  case h_2 => cases hs
  rename_i n c cs
  cases hs
  obtain ⟨t, s, ex, rfl⟩ := blks1 hb
  obtain ⟨h, h1, h2⟩ := hp
  refine ⟨by simpa using h.1.1, rfl, ?_⟩
  obtain ⟨H', h'⟩ := Out.vals_sel (x38 cs t s n c ex) (v := tp [i (grE cs n), i 0]) (by
    rw [v38, aV_sel (tru_iff.2 h), vb_t (by rw [leF_eq]; exact decide_eq_true (by omega))]
    unfold t38
    rw [aV_sel (tru_iff.2 (okI2 _ _)), h1, vb_f (by rfl), aV_sel (tru_iff.2 ⟨h.1, h.2⟩), aV_sel (tru_iff.2 ⟨okI_lds h.2, by omega⟩), aV_sel (tru_iff.2 ⟨okI_lds h.2, by omega⟩)]; rfl)
  exact ⟨H', execO_sound (C := C38) tsZ1 .none 60 _ _ h'⟩
noncomputable def TZ2 : Tb := ext TZ1 10 (autoE sp38 [] (heapL deads))
theorem tsZ2 {G : Nat} : TSound Tryz.prog G TZ2 := tsZ1.auto c38
end Go.Proofs.YteemponkignnhaaGreat.Ways
set_option maxRecDepth 10000
noncomputable section
namespace Go.Proofs.YteemponkignnhaaGreat.Ways
open Go Go.Ex Go.RowKit Go.Turn
noncomputable def B97 : Code := bodyL Tryz.f101 1
def findR : Code → Option (Array Tmp × Code × Code)
  | .seq a b => match findR a with
    | some r => some r
    | none => findR b
  | .cond _ a b => match findR a with
    | some r => some r
    | none => findR b
  | .block _ b => findR b
  | .scope b => findR b
  | .loop b => findR b
  | .rangeFunc _ ps a b => some (ps, a, b)
  | _ => none
noncomputable def R37 : Array Tmp × Code × Code := match Tryz.f12.body with
  | some c => (findR c).getD (#[], .skip, .skip)
  | none => (#[], .skip, .skip)
def un : Value := tp []
noncomputable def L37 (n c : Nat) (x e1 e2 e : Int) : Go.Loop := { state := .ready, pending := none, fn := 12, tmps := ⟨[sl 1 0 n c, i x, un, pt 2 0, i 0, i 0, i e, pt 4 0, un, un, sl 1 0 n c, i e1, i x, i e2, sl 3 0 2 2, i e, i e, .bool false, un, sl 1 0 n c, fnc 101 [pt 5 0], un, un, un, un, un, un, un, un, un, un, un, un, un, un, un]⟩, params := R37.1, assign := R37.2.1, body := R37.2.2, defers := 6 }
section
variable (cs : List Value) (t s n c : Nat) (ex : Bool) (x e1 e2 e : Int)
noncomputable def h37 (r : Int) : List (CO × Bool) := [(.dead, false), (.cells cs t s ex, true), (.cells [i x] 3 1 true, true), (.cells [i e1, i e2] 28 1 true, true), (.cells [i r] 3 1 true, true), (.cells [sl 1 0 n c] 35 1 true, false), (.dfr false, false), (.loop (L37 n c x e1 e2 e), false)]
noncomputable def C97 : Cfg := ⟨TZ2, at_ [(101, 7), (12, 26), (12, 31)] .bool no_, on_ [(101, 14), (101, 15), (101, 18), (101, 19)], noL⟩
noncomputable def S97 : Shape (Int × Int) := ⟨22, fun q => ⟨[(0, .func (.yield 7) ⟨[]⟩ ⟨[]⟩), (1, pt 5 0), (3, i q.1)], h37 cs t s n c ex x e1 e2 e q.2⟩, fun _ q => (.exit 0, ⟨[], h37 cs t s n c ex x e1 e2 e q.2⟩)⟩
def nx97 (j r : Int) : SS (Int × Int) := .next 10 (List.range 8) (wrapF .i64 (j + 1), r)
def st97 (q : Int × Int) : SS (Int × Int) := .br (ltF q.1 n) (askS (bnd_ (wrapF .i64 (q.1 - 1)) n c) <| askS (cP cs (wrapF .i64 (q.1 - 1))) <| askS (bnd_ q.1 n c) <| askS (cP cs q.1) <|
  .br (leF (pB cs (wrapF .i64 (q.1 - 1)).toNat) x) (.br (ltF x (pB cs q.1.toNat)) (nx97 q.1 (wrapF .i64 (q.2 + 1))) (nx97 q.1 q.2)) (nx97 q.1 q.2)) (.done 8 (List.range 8) 0)
end
section
variable {cs : List Value} {t s n c : Nat} {ex : Bool} {x e1 e2 e : Int}
theorem h37_flat (h : cs.all Ex.flat = true) (r : Int) : ∀ o, (o, true) ∈ h37 cs t s n c ex x e1 e2 e r → FlatO o := by
  intro o ho
  simp [h37] at ho
  rcases ho with rfl | rfl | rfl | rfl
  · exact fun y hy => List.all_eq_true.1 h y hy
  · exact fun y hy => List.all_eq_true.1 (show [i x].all Ex.flat = true from rfl) y hy
  · exact fun y hy => List.all_eq_true.1 (show [i e1, i e2].all Ex.flat = true from rfl) y hy
  · exact fun y hy => List.all_eq_true.1 (show [i r].all Ex.flat = true from rfl) y hy
theorem L97 (h : cs.all Ex.flat = true) : Loop1 Tryz.prog 2 101 B97 (S97 cs t s n c ex x e1 e2 e) 8 (st97 cs n c x) (fun _ => True) :=
  .mk' (C := fun _ => C97) (n := 60) (fun _ _ => tsZ2) (fun _ _ => .none) (fun q ro _ => by kernel_rfl) (fun q ro _ => by kernel_rfl) (fun q => by kernel_rfl) (fun _ _ _ _ => trivial)
    (fun q _ => h37_flat h q.2) (fun q _ _ _ => ⟨h37_flat h q.2, fun h => by cases h⟩)
end
def crs (cs : List Value) (x : Int) : Nat → Int
  | 0 => 0
  | 1 => 0
  | j + 2 => crs cs x (j + 1) + if pB cs j ≤ x ∧ x < pB cs (j + 1) then 1 else 0
theorem crs_b (cs : List Value) (x : Int) : ∀ j, 0 ≤ crs cs x j ∧ crs cs x j ≤ j
  | 0 => by show (0 : Int) ≤ 0 ∧ (0 : Int) ≤ _; omega
  | 1 => by show (0 : Int) ≤ 0 ∧ (0 : Int) ≤ _; omega
  | j + 2 => by
    have := crs_b cs x (j + 1)
    show 0 ≤ crs cs x (j + 1) + _ ∧ crs cs x (j + 1) + _ ≤ _
    split <;> omega
theorem run97 {cs : List Value} {n c : Nat} (x : Int) (h : okP cs (n + 1) c) (hn : n < 1000000) : runS (st97 cs (n + 1) c x) (n + 1) (1, 0) = some (0, (((n + 1 : Nat) : Int), crs cs x (n + 1))) := by
  have hc := h.2.1
  refine run_all (step := st97 cs (n + 1) c x) (st := fun j => (((j + 1 : Nat) : Int), crs cs x (j + 1))) (a := 0) n (fun j hj => ?_) ?_
  · have hw : wrapF .i64 (((j + 1 : Nat) : Int) - 1) = (j : Int) := by rw [wrapF_in (by omega) (by omega)]; omega
    have hb := crs_b cs x (j + 1)
    unfold st97
    dsimp only
    rw [br_t (by rw [ltF_eq]; exact decide_eq_true (by omega)), hw, askS_sel (bnd_t (by omega) hc), askS_sel (cP_t h (by omega)), askS_sel (bnd_t (by omega) hc), askS_sel (cP_t h (by omega)),
      show ((j : Nat) : Int).toNat = j from rfl, show ((j + 1 : Nat) : Int).toNat = j + 1 from rfl]
    have e : crs cs x (j + 1 + 1) = crs cs x (j + 1) + if pB cs j ≤ x ∧ x < pB cs (j + 1) then 1 else 0 := rfl
    rw [e]
    unfold nx97
    by_cases h1 : pB cs j ≤ x
    · rw [br_t (by rw [leF_eq]; exact decide_eq_true h1)]
      by_cases h2 : x < pB cs (j + 1)
      · rw [br_t (by rw [ltF_eq]; exact decide_eq_true h2), if_pos ⟨h1, h2⟩, wsucc (by omega), wrapF_in (by omega) (by omega)]; rfl
      · rw [br_f (by rw [ltF_eq]; exact decide_eq_false h2), if_neg (fun hh => h2 hh.2), wsucc (by omega), Int.add_zero]; rfl
    · rw [br_f (by rw [leF_eq]; exact decide_eq_false h1), if_neg (fun hh => h1 hh.1), wsucc (by omega), Int.add_zero]; rfl
  · unfold st97
    dsimp only
    rw [br_f (by rw [ltF_eq]; simp)]; rfl
section
variable (cs : List Value) (t s n c : Nat) (ex : Bool) (x : Int)
noncomputable def K37 (r : Nat × Int × Int) : Cfg := ⟨TZ2, at_ [(12, 17)] .bool no_, off_, loopE noL 101 1 22 8 B97 ((S97 cs t s n c ex x (crE cs n) (ckE x) (fst2 (crE cs n) (ckE x))).st (1, 0)).live ((S97 cs t s n c ex x (crE cs n) (ckE x) (fst2 (crE cs n) (ckE x))).st (1, 0)).hp (finO (S97 cs t s n c ex x (crE cs n) (ckE x) (fst2 (crE cs n) (ckE x))) r [0])⟩
noncomputable def o37 (r : Nat × Int × Int) : Out QRes := execO Tryz.prog 2 (K37 cs t s n c ex x r) 60 (.call 12 ⟨[sl 1 0 n c, i x]⟩ (heapL (deads ++ [.cells cs t s ex])))
noncomputable def vt37 (r : Nat × Int × Int) : VT := aV (tru (BokE cs n c)) (aV (tru (okI [i (crE cs n), i (ckE x)] 2 2)) (.br (!eqF (fst2 (crE cs n) (ckE x)) 0) (.leaf (tp [i 0, i (fst2 (crE cs n) (ckE x))])) (.br (Nat.beq r.1 0) (.leaf (tp [i r.2.2, i 0])) .fail)))
theorem v37 (r : Nat × Int × Int) : (o37 cs t s n c ex x r).vals = vt37 cs n c x r := by kernel_rfl
theorem x37 (r : Nat × Int × Int) : o37 cs t s n c ex x r = (o37 cs t s n c ex x r).fix := by kernel_rfl
end
def sp37 : ESpec := fun al css => match al, css with
  | [.slice (some ⟨1, 0, none⟩) n c, .int .i64 x], [cs] => some (1 ≤ n ∧ BokE cs n c ∧ crE cs n = 0 ∧ ckE x = 0, tp [i (crs cs x n), i 0])
  | _, _ => none
theorem c37 : ∀ al css os p v, sp37 al css = some (p, v) → p → Blks css os → (∀ cs ∈ css, cs.all Ex.flat = true) ∧ clean 6 v = true ∧ ∃ H', Sound Tryz.prog (gl + css.length) (.call 12 ⟨al⟩ (heapL (deads ++ os))) (.val v H') := by
  intro al css os p v hs hp hb
  unfold sp37 at hs
  split at hs
  case h_2 => cases hs
  rename_i n c x cs
  cases hs
  obtain ⟨t, s, ex, rfl⟩ := blks1 hb
  obtain ⟨h0, h, h1, h2⟩ := hp
  obtain ⟨m, rfl⟩ : ∃ m, n = m + 1 := ⟨n - 1, by omega⟩
  refine ⟨by simpa using h.1.1, rfl, ?_⟩
  have hL := (L97 (t := t) (s := s) (n := m + 1) (c := c) (ex := ex) (x := x) (e1 := crE cs (m + 1)) (e2 := ckE x) (e := fst2 (crE cs (m + 1)) (ckE x)) h.1.1).table (id := 1) (s0 := (1, 0)) .none (by decide) trivial (run97 x h.1 (by have := h.2; omega)) (by kernel_rfl) [0]
  obtain ⟨H', h'⟩ := Out.vals_sel (x37 cs t s (m + 1) c ex x (0, ((m + 1 : Nat) : Int), crs cs x (m + 1))) (v := tp [i (crs cs x (m + 1)), i 0]) (by
    rw [v37]
    unfold vt37
    rw [aV_sel (tru_iff.2 h), aV_sel (tru_iff.2 (okI2 _ _)), h1, h2, vb_f (by rfl)]; rfl)
  exact ⟨H', execO_sound (C := K37 cs t s (m + 1) c ex x _) tsZ2 hL 60 _ _ h'⟩
noncomputable def TZ3 : Tb := ext TZ2 12 (autoE sp37 [] (heapL deads))
theorem tsZ3 {G : Nat} : TSound Tryz.prog G TZ3 := tsZ2.auto c37
end Go.Proofs.YteemponkignnhaaGreat.Ways
