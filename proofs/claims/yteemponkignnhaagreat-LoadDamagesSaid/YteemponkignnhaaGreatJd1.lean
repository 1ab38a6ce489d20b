import Derived.Test.YteemponkignnhaaGreatKm6
import Derived.Test.YteemponkignnhaaGreatEngOrdA
set_option maxRecDepth 10000
noncomputable section
namespace Go.Proofs.YteemponkignnhaaGreat.Ways
open Go Go.Ex Go.RowKit Go.Turn
noncomputable def B102 : Code := bodyL Tryz.f106 3
noncomputable def C102 : Cfg := ⟨TX9, at_ [(106, 14)] .bool no_, on_ [(106, 16), (106, 17), (106, 23), (106, 100023)], noL⟩
def szI (cs : List Value) (j : Nat) : Int := szC (f_ cs j 2) (f_ cs j 3)
section
variable (cs : List Value) (t s n c : Nat) (ex : Bool)
def S102 : Shape (Int × List Value) := ⟨26, fun q => ⟨[(1, fn 58), (5, sl 2 0 n n), (11, sl 1 0 n c), (12, i n), (13, i q.1)], hp72 cs t s ex q.2⟩, fun _ q => (.exit 0, ⟨[(5, sl 2 0 n n)], hp72 cs t s ex q.2⟩)⟩
def st102 (q : Int × List Value) : SS (Int × List Value) := .br (ltF q.1 n) (askS (bnd_ q.1 n c) <| askS (cF cs q.1) <| askS (bnd_ q.1 n n) <| askS (in1 q.2 (0 + q.1.toNat * 1)) <|
  .next 4 [0, 1, 2] (wrapF .i64 (q.1 + 1), q.2.set (0 + q.1.toNat * 1) (i (szI cs q.1.toNat)))) (.done 3 [0, 1, 2] 0)
end
section
variable {cs : List Value} {t s n c : Nat} {ex : Bool}
theorem good102 : ∀ q q', GdQ q → (st102 cs n c q).sel = some (.inl q') → GdQ q' := by
  intro q q' hg h
  rcases br_or' h with h | h
  · have h := ask_or' (ask_or' (ask_or' (ask_or' h))); cases h; exact set_flat hg rfl
  · cases h
theorem L102 (h : cs.all Ex.flat = true) : Loop1 Tryz.prog 2 106 B102 (S102 cs t s n c ex) 3 (st102 cs n c) GdQ :=
  .mk' (C := fun _ => C102) (n := 60) (fun _ _ => tsX9) (fun _ _ => .none) (fun q ro _ => by kernel_rfl) (fun q ro _ => by kernel_rfl) (fun q => by kernel_rfl) good102
    (fun _ hq => hp72_flat h hq) (fun _ _ hq _ => ⟨hp72_flat h hq, fun h => by cases h⟩)
theorem run102 (h : okF cs n c) (hn : n < 1000000) : runS (st102 cs n c) (n + 1) (0, z1 n) = some (0, ((n : Int), lstI (szI cs) n)) := by
  have hc := h.2.1
  have key := run_all (step := st102 cs n c) (st := fun j => (((j : Nat) : Int), lstI (szI cs) j ++ (z1 n).drop j)) (a := 0) n (fun j hj => ?_) ?_
  · have e1 : lstI (szI cs) n ++ (z1 n).drop n = lstI (szI cs) n := by rw [List.drop_of_length_le (by rw [z1_len]; exact Nat.le_refl _), List.append_nil]
    rw [e1] at key
    exact key
  · have hdl : ((z1 n).drop j).length = n - j := by rw [List.length_drop, z1_len]
    obtain ⟨x, B, hB⟩ : ∃ x B, (z1 n).drop j = x :: B := by
      match hd : (z1 n).drop j, hdl with
      | [], hdl => simp at hdl; omega
      | x :: B, _ => exact ⟨x, B, rfl⟩
    have hB2 : (z1 n).drop (j + 1) = B := by rw [← List.drop_drop, hB]; rfl
    have hset : (lstI (szI cs) j ++ (z1 n).drop j).set (0 + j * 1) (i (szI cs j)) = lstI (szI cs) (j + 1) ++ (z1 n).drop (j + 1) := by
      rw [hB, set_app (by rw [lst_len]; omega), lst_len, show 0 + j * 1 - j = 0 from by omega, hB2, lst_succ]
      show lstI (szI cs) j ++ (i (szI cs j) :: B) = (lstI (szI cs) j ++ [i (szI cs j)]) ++ B
      rw [List.append_assoc]; rfl
    unfold st102
    dsimp only
    rw [br_t (by rw [ltF_eq]; simpa using hj), askS_sel (bnd_t hj hc), askS_sel (show cF cs (j : Int) = true from h.2.2.2 j hj), askS_sel (bnd_t hj (Nat.le_refl n)), show ((j : Nat) : Int).toNat = j from rfl,
      askS_sel (show in1 (lstI (szI cs) j ++ (z1 n).drop j) (0 + j * 1) = true from by unfold in1; rw [List.length_append, lst_len, hdl, decide_eq_true (by omega)]; rfl), wsucc (by omega), hset]; rfl
  · unfold st102
    dsimp only
    rw [br_f (by rw [ltF_eq]; simp)]; rfl
end
section
variable (cs : List Value) (t s n c : Nat) (ex : Bool)
noncomputable def K102 (r : Nat × Int × List Value) : Cfg := ⟨TX9, no_, on_ [(106, 10)], loopE noL 106 3 26 3 B102 ((S102 cs t s n c ex).st (0, z1 n)).live ((S102 cs t s n c ex).st (0, z1 n)).hp (finO (S102 cs t s n c ex) r [0])⟩
noncomputable def o102 (r : Nat × Int × List Value) : Out QRes := execO Tryz.prog 2 (K102 cs t s n c ex r) 60 (.call 106 ⟨[sl 1 0 n c, fn 58]⟩ (heapL (deads ++ [.cells cs t s ex])))
theorem v102 (j : Int) (out : List Value) : (o102 cs t s n c ex (0, j, out)).news = .br (mkB n) (.br true (.leaf 2 (.sl n n out 3 1 true)) .fail) .fail := by kernel_rfl
theorem x102 (r : Nat × Int × List Value) : o102 cs t s n c ex r = (o102 cs t s n c ex r).fix := by kernel_rfl
end
def sp102 : NSpec := fun al css => match al, css with
  | [.slice (some ⟨1, 0, none⟩) n c, .func (.func 58) ⟨[]⟩ ⟨[]⟩], [cs] => some (okF cs n c ∧ n < 1000000, .sl n n (lstI (szI cs) n) 3 1 true)
  | _, _ => none
theorem c102 : ∀ al css os p v, sp102 al css = some (p, v) → p → Blks css os → (∀ cs ∈ css, cs.all Ex.flat = true) ∧ v.Ok Tryz.prog 106 al deads os (gl + css.length) := by
  intro al css os p v hs hp hb
  unfold sp102 at hs
  split at hs
  case h_2 => cases hs
  rename_i n c cs
  obtain ⟨t, s, ex, rfl⟩ := blks1 hb
  cases hs
  obtain ⟨p1, p2⟩ := hp
  refine ⟨by simpa using p1.1, ?_⟩
  have hL := (L102 (t := t) (s := s) (ex := ex) (n := n) (c := c) p1.1).table (id := 3) (s0 := (0, z1 n)) .none (by decide) (z1_flat n) (run102 p1 p2) (by kernel_rfl) [0]
  have hv : (o102 cs t s n c ex (0, ((n : Int), lstI (szI cs) n))).news.sel = some (2, .sl n n (lstI (szI cs) n) 3 1 true) := by
    rw [v102]
    simp only [NT.sel]
    rw [mkB_t p2]; rfl
  exact news_ok (C := K102 cs t s n c ex (0, ((n : Int), lstI (szI cs) n))) (n := 60) tsX9 hL (x102 cs t s n c ex _) (b := 2) hv (show 2 ≤ 2 from Nat.le_refl 2) (lst_flat _ n)
end Go.Proofs.YteemponkignnhaaGreat.Ways
set_option maxRecDepth 10000
noncomputable section
namespace Go.Proofs.YteemponkignnhaaGreat.Ways
open Go Go.Ex Go.RowKit Go.Turn
def pwI (x e : Int) : Int := if e = 1 then x else if e = 2 then x * x else x * x * x
noncomputable def o101 (x e : Int) (os : List CO) : Out QRes := execO Tryz.prog 1 ⟨noT, no_, off_, noL⟩ 60 (.call 105 ⟨[i x, i e]⟩ (heapL (deads ++ os)))
theorem v101_1 (x : Int) : (o101 x 1 []).vals = .leaf (i (wrapF .i64 (1 * x))) := by kernel_rfl
theorem v101_2 (x : Int) : (o101 x 2 []).vals = .leaf (i (wrapF .i64 (wrapF .i64 (1 * x) * x))) := by kernel_rfl
theorem v101_3 (x : Int) : (o101 x 3 []).vals = .leaf (i (wrapF .i64 (wrapF .i64 (wrapF .i64 (1 * x) * x) * x))) := by kernel_rfl
theorem x101_1 (x : Int) : o101 x 1 [] = (o101 x 1 []).fix := by kernel_rfl
theorem x101_2 (x : Int) : o101 x 2 [] = (o101 x 2 []).fix := by kernel_rfl
theorem x101_3 (x : Int) : o101 x 3 [] = (o101 x 3 []).fix := by kernel_rfl
theorem pw_bd {x : Int} (h : 0 ≤ x ∧ x ≤ 65536) : 0 ≤ x * x ∧ x * x ≤ 4294967296 ∧ 0 ≤ x * x * x ∧ x * x * x ≤ 281474976710656 := by
  have h1 : 0 ≤ x * x := Int.mul_nonneg h.1 h.1
  have h2 : x * x ≤ 65536 * 65536 := Int.mul_le_mul h.2 h.2 h.1 (by omega)
  have h3 : 0 ≤ x * x * x := Int.mul_nonneg h1 h.1
  have h4 : x * x * x ≤ 65536 * 65536 * 65536 := Int.mul_le_mul h2 h.2 h.1 (by omega)
  omega
theorem pwI_bd {x e : Int} (h : 0 ≤ x ∧ x ≤ 65536) : 0 ≤ pwI x e ∧ pwI x e ≤ 281474976710656 := by
  have := pw_bd h
  unfold pwI
  split
  · omega
  · split <;> omega
def ex3 (e : Int) : Prop := e = 1 ∨ e = 2 ∨ e = 3
def sp101 : ESpec := fun al css => match al, css with
  | [.int .i64 x, .int .i64 e], [] => some (ex3 e ∧ 0 ≤ x ∧ x ≤ 65536, i (pwI x e))
  | _, _ => none
theorem c101 : ∀ al css os p v, sp101 al css = some (p, v) → p → Blks css os → (∀ cs ∈ css, cs.all Ex.flat = true) ∧ clean 6 v = true ∧ ∃ H', Sound Tryz.prog (gl + css.length) (.call 105 ⟨al⟩ (heapL (deads ++ os))) (.val v H') := by
  intro al css os p v hs hp hb
  unfold sp101 at hs
  split at hs
  case h_2 => cases hs
  rename_i x e
  cases hs
  cases hb
  obtain ⟨he, hx⟩ := hp
  have hb := pw_bd hx
  refine ⟨fun c hc => absurd hc List.not_mem_nil, rfl, ?_⟩
  have e1 : wrapF .i64 (1 * x) = x := by rw [Int.one_mul, wrapF_in (by omega) (by omega)]
  have e2 : wrapF .i64 (x * x) = x * x := wrapF_in (by omega) (by omega)
  have e3 : wrapF .i64 (x * x * x) = x * x * x := wrapF_in (by omega) (by omega)
  rcases he with rfl | rfl | rfl
  · obtain ⟨H', h'⟩ := Out.vals_sel (x101_1 x) (v := i (pwI x 1)) (by rw [v101_1, e1]; rfl)
    exact ⟨H', execO_sound (C := ⟨noT, no_, off_, noL⟩) .none .none 60 _ _ h'⟩
  · obtain ⟨H', h'⟩ := Out.vals_sel (x101_2 x) (v := i (pwI x 2)) (by rw [v101_2, e1, e2]; rfl)
    exact ⟨H', execO_sound (C := ⟨noT, no_, off_, noL⟩) .none .none 60 _ _ h'⟩
  · obtain ⟨H', h'⟩ := Out.vals_sel (x101_3 x) (v := i (pwI x 3)) (by rw [v101_3, e1, e2, e3]; rfl)
    exact ⟨H', execO_sound (C := ⟨noT, no_, off_, noL⟩) .none .none 60 _ _ h'⟩
noncomputable def T101 : Tb := ext noT 105 (autoE sp101 [] (heapL deads))
theorem ts101 {G : Nat} : TSound Tryz.prog G T101 := TSound.none.auto c101
noncomputable def B79 : Code := bodyL Tryz.f76 3
noncomputable def C79 : Cfg := ⟨T101, at_ [(76, 12), (76, 21)] .bool no_, on_ [(76, 13), (76, 14)], noL⟩
def mxD : Int := 1152921504606846976
section
variable (cs : List Value) (t s n c : Nat) (ex : Bool) (e : Int)
def S79 : Shape (Int × Int) := ⟨24, fun q => ⟨[(1, i e), (6, i q.2), (9, sl 1 0 n c), (10, i n), (11, i q.1)], hpI cs t s ex⟩, fun k q => match k with
  | 0 => (.exit 0, ⟨[(6, i q.2)], hpI cs t s ex⟩)
  | _ => (.ret, ⟨[(4, i 0), (5, i 4)], hpI cs t s ex⟩)⟩
noncomputable def st79 (q : Int × Int) : SS (Int × Int) := .br (ltF q.1 n) (askS (bnd_ q.1 n c) <| askS (cB cs (.i .i64) q.1) <| askS (tru (ex3 e ∧ 0 ≤ eI cs q.1.toNat ∧ eI cs q.1.toNat ≤ 65536)) <|
  .br (ltF mxD (wrapF .i64 (q.2 + pwI (eI cs q.1.toNat) e))) (.done 2 [0, 1] 1) (.next 2 [0, 1] (wrapF .i64 (q.1 + 1), wrapF .i64 (q.2 + pwI (eI cs q.1.toNat) e)))) (.done 2 [0, 1] 0)
noncomputable def K79 (r : Nat × Int × Int) : Cfg := ⟨T101, no_, off_, loopE noL 76 3 24 2 B79 ((S79 cs t s n c ex e).st (0, 0)).live ((S79 cs t s n c ex e).st (0, 0)).hp (finO (S79 cs t s n c ex e) r [0])⟩
noncomputable def o79 (r : Nat × Int × Int) : Out QRes := execO Tryz.prog 2 (K79 cs t s n c ex e r) 60 (.call 76 ⟨[sl 1 0 n c, i e]⟩ (heapL (deads ++ [.cells cs t s ex])))
theorem v79 (j u : Int) : (o79 cs t s n c ex e (0, j, u)).vals = .br true (.leaf (tp [i u, i 0])) .fail := by kernel_rfl
theorem x79 (r : Nat × Int × Int) : o79 cs t s n c ex e r = (o79 cs t s n c ex e r).fix := by kernel_rfl
end
theorem L79 {cs : List Value} {t s n c : Nat} {ex : Bool} {e : Int} (h : cs.all Ex.flat = true) : Loop1 Tryz.prog 2 76 B79 (S79 cs t s n c ex e) 2 (st79 cs n c e) (fun _ => True) :=
  .mk' (C := fun _ => C79) (n := 60) (fun _ _ => ts101) (fun _ _ => .none) (fun q ro _ => by kernel_rfl) (fun q ro _ => by kernel_rfl) (fun q => by kernel_rfl) (fun _ _ _ _ => trivial)
    (fun _ _ => hpI_flat h) (fun q k _ _ => by
      match k with
      | 0 => exact ⟨hpI_flat h, fun h => by cases h⟩
      | k + 1 => exact ⟨hpI_flat h, fun h => by cases h⟩)
def smP (cs : List Value) (e : Int) : Nat → Int
  | 0 => 0
  | j + 1 => smP cs e j + pwI (eI cs j) e
def V79 (cs : List Value) (n c : Nat) (e : Int) : Prop := okI cs n c ∧ n ≤ 1000 ∧ ex3 e ∧ ∀ j, j < n → 0 ≤ eI cs j ∧ eI cs j ≤ 65536
theorem smP_bd {cs : List Value} {e : Int} {n : Nat} (h : ∀ j, j < n → 0 ≤ eI cs j ∧ eI cs j ≤ 65536) : ∀ j, j ≤ n → 0 ≤ smP cs e j ∧ smP cs e j ≤ (j : Int) * 281474976710656
  | 0, _ => ⟨Int.le_refl _, by show (0 : Int) ≤ _; omega⟩
  | j + 1, hj => by
    have h1 := smP_bd (e := e) h j (by omega)
    have h2 := pwI_bd (e := e) (h j (by omega))
    show 0 ≤ smP cs e j + _ ∧ smP cs e j + _ ≤ ((j + 1 : Nat) : Int) * _
    have : ((j + 1 : Nat) : Int) * 281474976710656 = (j : Int) * 281474976710656 + 281474976710656 := by omega
    omega
theorem run79 {cs : List Value} {n c : Nat} {e : Int} (h : V79 cs n c e) : runS (st79 cs n c e) (n + 1) (0, 0) = some (0, ((n : Int), smP cs e n)) := by
  obtain ⟨h1, h2, h3, h4⟩ := h
  refine run_all (step := st79 cs n c e) (st := fun j => (((j : Nat) : Int), smP cs e j)) (a := 0) n (fun j hj => ?_) ?_
  · have b1 := smP_bd (e := e) h4 (j + 1) (by omega)
    have e2 : smP cs e (j + 1) = smP cs e j + pwI (eI cs j) e := rfl
    have hw : wrapF .i64 (smP cs e j + pwI (eI cs j) e) = smP cs e (j + 1) := by rw [← e2, wrapF_in (by omega) (by omega)]
    unfold st79
    dsimp only
    rw [br_t (by rw [ltF_eq]; simpa using hj), askS_sel (bnd_t hj h1.2.1), askS_sel (cB_t h1 hj), show ((j : Nat) : Int).toNat = j from rfl, askS_sel (tru_iff.2 ⟨h3, h4 j hj⟩), hw, br_f (by rw [ltF_eq]; exact decide_eq_false (by unfold mxD; omega)), wsucc (by omega)]; rfl
  · unfold st79
    dsimp only
    rw [br_f (by rw [ltF_eq]; simp)]; rfl
def sp79 : ESpec := fun al css => match al, css with
  | [.slice (some ⟨1, 0, none⟩) n c, .int .i64 e], [cs] => some (V79 cs n c e, tp [i (smP cs e n), i 0])
  | _, _ => none
theorem c79 : ∀ al css os p v, sp79 al css = some (p, v) → p → Blks css os → (∀ cs ∈ css, cs.all Ex.flat = true) ∧ clean 6 v = true ∧ ∃ H', Sound Tryz.prog (gl + css.length) (.call 76 ⟨al⟩ (heapL (deads ++ os))) (.val v H') := by
  intro al css os p v hs hp hb
  unfold sp79 at hs
  split at hs
  case h_2 => cases hs
  rename_i n c e cs
  cases hs
  obtain ⟨t, s, ex, rfl⟩ := blks1 hb
  refine ⟨by simpa using hp.1.1, rfl, ?_⟩
  have hL := (L79 (t := t) (s := s) (n := n) (c := c) (ex := ex) (e := e) hp.1.1).table (id := 3) (s0 := (0, 0)) .none (by decide) trivial (run79 hp) (by kernel_rfl) [0]
  obtain ⟨H', h'⟩ := Out.vals_sel (x79 cs t s n c ex e (0, ((n : Int), smP cs e n))) (v := tp [i (smP cs e n), i 0]) (by rw [v79]; rfl)
  exact ⟨H', execO_sound (C := K79 cs t s n c ex e _) ts101 hL 60 _ _ h'⟩
end Go.Proofs.YteemponkignnhaaGreat.Ways
set_option maxRecDepth 10000
noncomputable section
namespace Go.Proofs.YteemponkignnhaaGreat.Ways
open Go Go.Ex Go.RowKit Go.Turn
theorem p103 (a b c d : Int) : Pure Tryz.prog Hd 107 [ag [i a, i b], ag [i c, i d]] (i (difQ b d)) :=
  pure_run (C := ⟨noT, no_, off_, noL⟩) (G := 1) 30 (.leaf (i (difQ b d))) .none .none (by decide) hd_len rfl (by kernel_rfl) (by kernel_rfl) rfl
def s103 : List Value → Option Value
  | [.agg ⟨[.int .i64 _, .int .i64 b]⟩, .agg ⟨[.int .i64 _, .int .i64 d]⟩] => some (i (difQ b d))
  | _ => none
noncomputable def T103 : Tb := ext TZ3 107 (pureE s103 [] Hd)
theorem ts103 {G : Nat} : TSound Tryz.prog G T103 := TSound.pure hd_vars tsZ3 fun args v h => by
  unfold s103 at h
  split at h
  · cases h; exact p103 _ _ _ _
  · cases h
noncomputable def R81 : Array Tmp × Code × Code := match Tryz.f78.body with
  | some c => (findR c).getD (#[], .skip, .skip)
  | none => (#[], .skip, .skip)
noncomputable def OD5 : Array Oper := regC 5 60 R81.2.2
noncomputable def L81d (st : LoopState) (n c : Nat) : Go.Loop := { state := st, pending := none, fn := 78, tmps := ⟨[sl 1 0 n c, un, .slice none 0 0, pt 2 0, un, un, sl 1 0 n c, fnc 101 [pt 3 0], un, un, un, un, un, un, un, un, un]⟩, params := R81.1, assign := R81.2.1, body := R81.2.2, defers := 4 }
def CdD : Nat → Nat → Bool := on_ [(78, 15), (78, 300015)]
end Go.Proofs.YteemponkignnhaaGreat.Ways
set_option maxRecDepth 10000
noncomputable section
namespace Go.Proofs.YteemponkignnhaaGreat.Ways
open Go Go.Ex Go.RowKit Go.Turn
noncomputable def CDz : Cfg := ⟨T103, no_, off_, noL⟩
noncomputable def CDm : Cfg := ⟨T103, no_, CdD, noL⟩
def bD (m j : Nat) : Bool := Nat.testBit m j
def stsD : List Nat := [0, 2, 4, 6, 14, 30, 1, 3, 5, 7, 15, 31, 63, 127]
def ansD (i : Nat) : List Bool := cond (Nat.beq i 5) [true] []
def cdDm (out : List Value) (l : Nat) (i : Nat) : List Bool := cond (Nat.beq i 5) [fl1 l out] []
section
variable (cs out : List Value) (t s n c l : Nat) (ex : Bool) (p q u v : Int)
noncomputable def bsD (b : LoopState) (w : Value) (f : Bool) : List (CO × Bool) := [(.dead, false), (.cells cs t s ex, true), (.cells [w] 42 1 true, f), (.cells [sl 1 0 n c] 35 1 true, false), (.dfr false, false), (.loop (L81d b n c), false)]
def lvZ (m : Nat) : List (Nat × Value) := [(3, pt 2 0), (4, pt 6 0), (5, pt 7 0)] ++ (cond (bD m 0) [(10, (.slice none 0 0))] [] ++ (cond (bD m 1) [(11, (ag [i p, i q]))] [] ++ (cond (bD m 2) [(12, (ag [i u, i v]))] [] ++ (cond (bD m 3) [(13, (i (difQ q v)))] [] ++ (cond (bD m 4) [(14, (sl 8 0 1 1))] [] ++ (cond (bD m 5) [(15, (sl 9 0 1 1))] []))))))
noncomputable def hpZ (m : Nat) : List (CO × Bool) := bsD cs t s n c ex .busy (cond (bD m 6) (sl 9 0 1 1) (.slice none 0 0)) false ++ [(.cells [i p, i q] 114 1 true, true), (.cells [i u, i v] 114 1 true, true), (cond (bD m 4) (.cells [i (difQ q v)] 3 1 true) .dead, true), (cond (bD m 5) (.cells [i (difQ q v)] 3 1 false) .dead, true)]
def lvM (m : Nat) : List (Nat × Value) := [(3, pt 2 0), (4, pt 7 0), (5, pt 8 0)] ++ (cond (bD m 0) [(10, (sl 6 0 l l))] [] ++ (cond (bD m 1) [(11, (ag [i p, i q]))] [] ++ (cond (bD m 2) [(12, (ag [i u, i v]))] [] ++ (cond (bD m 3) [(13, (i (difQ q v)))] [] ++ (cond (bD m 4) [(14, (sl 9 0 1 1))] [] ++ (cond (bD m 5) [(15, (sl 10 0 (l + 1) (l + 1)))] []))))))
noncomputable def hpM (m : Nat) : List (CO × Bool) := bsD cs t s n c ex .busy (cond (bD m 6) (sl 10 0 (l + 1) (l + 1)) (sl 6 0 l l)) false ++ [(cond (bD m 5) .dead (.cells out 3 1 false), true), (.cells [i p, i q] 114 1 true, true), (.cells [i u, i v] 114 1 true, true), (cond (bD m 4) (.cells [i (difQ q v)] 3 1 true) .dead, true), (cond (bD m 5) (.cells (out ++ [i (difQ q v)]) 3 1 false) .dead, true)]
def rhoZ (i : Nat) : List Nat := cond (Nat.beq i 4) ((List.range 10).set 8 10) (cond (Nat.beq i 5) ((List.range 10).set 9 10) (List.range 10))
def lenZ (i : Nat) : Nat := cond (Nat.beq i 4 || Nat.beq i 5) 11 10
def rhoM (i : Nat) : List Nat := cond (Nat.beq i 4) ((List.range 11).set 9 11) (cond (Nat.beq i 5) ((List.range 11).set 10 11) (List.range 11))
def lenM (i : Nat) : Nat := cond (Nat.beq i 4 || Nat.beq i 5) 12 11
theorem h1Z : (trsN OD5 stsD).map (outW (tabW CDz) Tryz.prog 2 CDz 78 OD5 17 (lvZ p q u v) (hpZ cs t s n c ex p q u v)) = (trsN OD5 stsD).map fun w => (outW (tabW CDz) Tryz.prog 2 CDz 78 OD5 17 (lvZ p q u v) (hpZ cs t s n c ex p q u v) w).fix := by kernel_rfl
theorem h2Z : (trsN OD5 stsD).map (obsW (tabW CDz) Tryz.prog 2 CDz 78 OD5 17 (lvZ p q u v) (hpZ cs t s n c ex p q u v) rhoZ (fun _ => [])) = (trsN OD5 stsD).map (expN 17 (lvZ p q u v) (hpZ cs t s n c ex p q u v) rhoZ (fun _ => []) lenZ) := by kernel_rfl
theorem h1M : (trsN OD5 stsD).map (outW (tabW CDm) Tryz.prog 2 CDm 78 OD5 17 (lvM l p q u v) (hpM cs out t s n c l ex p q u v)) = (trsN OD5 stsD).map fun w => (outW (tabW CDm) Tryz.prog 2 CDm 78 OD5 17 (lvM l p q u v) (hpM cs out t s n c l ex p q u v) w).fix := by kernel_rfl
theorem h2M : (trsN OD5 stsD).map (obsW (tabW CDm) Tryz.prog 2 CDm 78 OD5 17 (lvM l p q u v) (hpM cs out t s n c l ex p q u v) rhoM ansD) = (trsN OD5 stsD).map (expN 17 (lvM l p q u v) (hpM cs out t s n c l ex p q u v) rhoM (cdDm out l) lenM) := by kernel_rfl
end
end Go.Proofs.YteemponkignnhaaGreat.Ways
set_option maxRecDepth 10000
noncomputable section
namespace Go.Proofs.YteemponkignnhaaGreat.Ways
open Go Go.Ex Go.RowKit Go.Turn
section
variable {cs out : List Value} {t s n c l : Nat} {ex : Bool} {p q u v : Int}
theorem bsD_flat {b : LoopState} {w : Value} (h : cs.all Ex.flat = true) : ∀ o, (o, true) ∈ bsD cs t s n c ex b w false → FlatO o := by
  intro o ho
  simp [bsD] at ho
  subst ho
  exact fun x hx => List.all_eq_true.1 h x hx
theorem cnd_flat {b : Bool} {a : CO} (h : FlatO a) : FlatO (cond b a .dead) := by
  cases b with
  | true => exact h
  | false => exact trivial
theorem hpZ_flat (h : cs.all Ex.flat = true) (m : Nat) : ∀ o, (o, true) ∈ hpZ cs t s n c ex p q u v m → FlatO o := by
  intro o ho
  rcases List.mem_append.1 ho with ho | ho
  · exact bsD_flat h o ho
  · simp only [List.mem_cons, Prod.mk.injEq, and_true, List.not_mem_nil, or_false] at ho
    rcases ho with rfl | rfl | rfl | rfl
    · exact fun x hx => List.all_eq_true.1 (show [i p, i q].all Ex.flat = true from rfl) x hx
    · exact fun x hx => List.all_eq_true.1 (show [i u, i v].all Ex.flat = true from rfl) x hx
    · exact cnd_flat fun x hx => List.all_eq_true.1 (show [i (difQ q v)].all Ex.flat = true from rfl) x hx
    · exact cnd_flat fun x hx => List.all_eq_true.1 (show [i (difQ q v)].all Ex.flat = true from rfl) x hx
theorem hpM_flat (h : cs.all Ex.flat = true) (h2 : out.all Ex.flat = true) (m : Nat) : ∀ o, (o, true) ∈ hpM cs out t s n c l ex p q u v m → FlatO o := by
  intro o ho
  rcases List.mem_append.1 ho with ho | ho
  · exact bsD_flat h o ho
  · simp only [List.mem_cons, Prod.mk.injEq, and_true, List.not_mem_nil, or_false] at ho
    rcases ho with rfl | rfl | rfl | rfl | rfl
    · cases bD m 5 with
      | true => exact trivial
      | false => exact fun x hx => List.all_eq_true.1 h2 x hx
    · exact fun x hx => List.all_eq_true.1 (show [i p, i q].all Ex.flat = true from rfl) x hx
    · exact fun x hx => List.all_eq_true.1 (show [i u, i v].all Ex.flat = true from rfl) x hx
    · exact cnd_flat fun x hx => List.all_eq_true.1 (show [i (difQ q v)].all Ex.flat = true from rfl) x hx
    · exact cnd_flat fun x hx => List.all_eq_true.1 (app_flat h2 (show [i (difQ q v)].all Ex.flat = true from rfl)) x hx
end
section
variable (cs out : List Value) (t s n c l : Nat) (ex : Bool) (p q u v : Int)
noncomputable def enZ : List (CO × Bool) := bsD cs t s n c ex .busy (.slice none 0 0) false ++ [(.cells [i p, i q] 114 1 true, true), (.cells [i u, i v] 114 1 true, true)]
noncomputable def enM : List (CO × Bool) := bsD cs t s n c ex .busy (sl 6 0 l l) false ++ [(.cells out 3 1 false, true), (.cells [i p, i q] 114 1 true, true), (.cells [i u, i v] 114 1 true, true)]
def liZ : List (Nat × Value) := [(3, pt 2 0), (4, pt 6 0), (5, pt 7 0)]
def liM : List (Nat × Value) := [(3, pt 2 0), (4, pt 7 0), (5, pt 8 0)]
theorem padZ : heapL ((hpZ cs t s n c ex p q u v 0).map (·.1)) = heapL ((enZ cs t s n c ex p q u v).map (·.1) ++ List.replicate 2 .dead) := by kernel_rfl
theorem padM : heapL ((hpM cs out t s n c l ex p q u v 0).map (·.1)) = heapL ((enM cs out t s n c l ex p q u v).map (·.1) ++ List.replicate 2 .dead) := by kernel_rfl
theorem zerZ : tmL 17 (lvZ p q u v 0) = tmL 17 liZ := by kernel_rfl
theorem zerM : tmL 17 (lvM l p q u v 0) = tmL 17 liM := by kernel_rfl
noncomputable def tmZ : TM := tmL 17 (lvZ p q u v 127)
noncomputable def heZ : CH := heapL ((hpZ cs t s n c ex p q u v 127).map (·.1))
noncomputable def tmM : TM := tmL 17 (lvM l p q u v 127)
noncomputable def heM : CH := heapL ((hpM cs out t s n c l ex p q u v 127).map (·.1))
noncomputable def LDz (L : LTab) : LTab := regE L 78 5 17 8 OD5 liZ (enZ cs t s n c ex p q u v) (.leaf (.ex .normal (tmZ p q u v) (heZ cs t s n c ex p q u v) []))
noncomputable def LDm (L : LTab) : LTab := regE L 78 5 17 9 OD5 liM (enM cs out t s n c l ex p q u v) (.br (fl1 l out) (.leaf (.ex .normal (tmM l p q u v) (heM cs out t s n c l ex p q u v) [])) .fail)
end
section
variable {cs out : List Value} {t s n c l : Nat} {ex : Bool} {p q u v : Int}
theorem ordZ (h : cs.all Ex.flat = true) : Orders (selfA (qS (tabW CDz))) Tryz.prog 2 OD5 8 (fun m => m ∈ stsD) (fun m => absT (tmL 17 (lvZ p q u v m))) (fun m => heapL ((hpZ cs t s n c ex p q u v m).map (·.1))) 127 :=
  orders_ofW stsD (h1Z cs t s n c ex p q u v) (h2Z cs t s n c ex p q u v) (fun _ => rfl) (by kernel_rfl) (by kernel_rfl) (hpZ_flat h)
theorem ordM (h : cs.all Ex.flat = true) (h2 : out.all Ex.flat = true) (hf : fl1 l out = true) : Orders (selfA (qS (tabW CDm))) Tryz.prog 2 OD5 9 (fun m => m ∈ stsD) (fun m => absT (tmL 17 (lvM l p q u v m))) (fun m => heapL ((hpM cs out t s n c l ex p q u v m).map (·.1))) 127 :=
  orders_ofW stsD (h1M cs out t s n c l ex p q u v) (h2M cs out t s n c l ex p q u v) (fun i => by
    unfold cdDm ansD
    cases Nat.beq i 5 with
    | true => rw [hf]; rfl
    | false => rfl) (by kernel_rfl) (by kernel_rfl) (hpM_flat h h2)
theorem lsDz {L : LTab} (hL : LSound Tryz.prog 2 L) (h : cs.all Ex.flat = true) : LSound Tryz.prog 2 (LDz cs t s n c ex p q u v L) := by
  refine LSound.region hL (by kernel_rfl) (by
    intro o ho
    rcases List.mem_append.1 ho with ho | ho
    · exact bsD_flat h o ho
    · simp only [List.mem_cons, Prod.mk.injEq, and_true, List.not_mem_nil, or_false] at ho
      rcases ho with rfl | rfl
      · exact fun x hx => List.all_eq_true.1 (show [i p, i q].all Ex.flat = true from rfl) x hx
      · exact fun x hx => List.all_eq_true.1 (show [i u, i v].all Ex.flat = true from rfl) x hx) fun r hr ro tm0 H0 hk hst => ?_
  cases hr
  have ho := ordZ (t := t) (s := s) (n := n) (c := c) (ex := ex) (p := p) (q := q) (u := u) (v := v) h
  rw [← zerZ p q u v] at hst
  rw [← hk] at hst ho
  exact orders_sound2 (qS_selfSound (tabW_sound (C := CDz) ts103)) mixU ho (by rw [hk]; decide) (by decide) (padZ cs t s n c ex p q u v) hst ro
theorem lsDm {L : LTab} (hL : LSound Tryz.prog 2 L) (h : cs.all Ex.flat = true) (h2 : out.all Ex.flat = true) : LSound Tryz.prog 2 (LDm cs out t s n c l ex p q u v L) := by
  refine LSound.region hL (by kernel_rfl) (by
    intro o ho
    rcases List.mem_append.1 ho with ho | ho
    · exact bsD_flat h o ho
    · simp only [List.mem_cons, Prod.mk.injEq, and_true, List.not_mem_nil, or_false] at ho
      rcases ho with rfl | rfl | rfl
      · exact fun x hx => List.all_eq_true.1 h2 x hx
      · exact fun x hx => List.all_eq_true.1 (show [i p, i q].all Ex.flat = true from rfl) x hx
      · exact fun x hx => List.all_eq_true.1 (show [i u, i v].all Ex.flat = true from rfl) x hx) fun r hr ro tm0 H0 hk hst => ?_
  cases hf : fl1 l out with
  | false => rw [hf] at hr; cases hr
  | true =>
    rw [hf] at hr
    cases hr
    have ho := ordM (t := t) (s := s) (n := n) (c := c) (ex := ex) (p := p) (q := q) (u := u) (v := v) h h2 hf
    rw [← zerM l p q u v] at hst
    rw [← hk] at hst ho
    exact orders_sound2 (qS_selfSound (tabW_sound (C := CDm) ts103)) mixU ho (by rw [hk]; decide) (by decide) (padM cs out t s n c l ex p q u v) hst ro
end
end Go.Proofs.YteemponkignnhaaGreat.Ways
set_option maxRecDepth 10000
noncomputable section
namespace Go.Proofs.YteemponkignnhaaGreat.Ways
open Go Go.Ex Go.RowKit Go.Turn
inductive KDd where
  | z (j : Int)
  | m (j : Int) (l : Nat) (out : List Value)
def p0D (cs : List Value) (j : Int) : Int := pA cs (wrapF .i64 (j - 1)).toNat
def q0D (cs : List Value) (j : Int) : Int := pB cs (wrapF .i64 (j - 1)).toNat
def p1D (cs : List Value) (j : Int) : Int := pA cs j.toNat
def q1D (cs : List Value) (j : Int) : Int := pB cs j.toNat
def dfD (cs : List Value) (j : Int) : Int := difQ (q0D cs j) (q1D cs j)
section
variable (cs : List Value) (t s n c : Nat) (ex : Bool)
def spDd : Nat → Nat → Split := at_ [(101, 7)] .bool no_
def syDd : Nat → Nat → Bool := on_ [(101, 14), (101, 15), (101, 18), (101, 19)]
noncomputable def CcD : KDd → Cfg
  | .z j => ⟨T103, spDd, syDd, LDz cs t s n c ex (p0D cs j) (q0D cs j) (p1D cs j) (q1D cs j) noL⟩
  | .m j l out => ⟨T103, spDd, syDd, LDm cs out t s n c l ex (p0D cs j) (q0D cs j) (p1D cs j) (q1D cs j) noL⟩
noncomputable def hpDd : KDd → List (CO × Bool)
  | .z _ => bsD cs t s n c ex .ready (.slice none 0 0) false
  | .m _ l out => bsD cs t s n c ex .ready (sl 6 0 l l) false ++ [(.cells out 3 1 false, true)]
def jDd : KDd → Int
  | .z j => j
  | .m j _ _ => j
noncomputable def ShD : Shape KDd := ⟨22, fun q => ⟨[(0, .func (.yield 5) ⟨[]⟩ ⟨[]⟩), (1, pt 3 0), (3, i (jDd q))], hpDd cs t s n c ex q⟩, fun _ q => (.exit 0, ⟨[], hpDd cs t s n c ex q⟩)⟩
def chD (cs : List Value) (n c : Nat) (j : Int) (u : SS KDd) : SS KDd := askS (bnd_ (wrapF .i64 (j - 1)) n c) <| askS (cP cs (wrapF .i64 (j - 1))) <| askS (bnd_ j n c) <| askS (cP cs j) u
def stDd (cs : List Value) (n c : Nat) : KDd → SS KDd
  | .z j => .br (ltF j n) (chD cs n c j <| .next 10 [0, 1, 2, 3, 4, 5, 9] (.m (wrapF .i64 (j + 1)) 1 [i (dfD cs j)])) (.done 6 (List.range 6) 0)
  | .m j l out => .br (ltF j n) (chD cs n c j <| askS (fl1 l out) <| .next 11 [0, 1, 2, 3, 4, 5, 10] (.m (wrapF .i64 (j + 1)) (l + 1) (out ++ [i (dfD cs j)]))) (.done 7 (List.range 7) 0)
def GdD : KDd → Prop
  | .z _ => True
  | .m _ _ out => out.all Ex.flat = true
end
section
variable {cs : List Value} {t s n c : Nat} {ex : Bool}
theorem hpDd_flat (h : cs.all Ex.flat = true) {q : KDd} (hq : GdD q) : ∀ o, (o, true) ∈ hpDd cs t s n c ex q → FlatO o := by
  intro o ho
  cases q with
  | z _ => exact bsD_flat h o ho
  | m j l out =>
    rcases List.mem_append.1 ho with ho | ho
    · exact bsD_flat h o ho
    · rw [List.mem_singleton] at ho
      cases ho
      exact fun x hx => List.all_eq_true.1 hq x hx
theorem chD_or {j : Int} {u : SS KDd} {q' : KDd} (h : (chD cs n c j u).sel = some (.inl q')) : u.sel = some (.inl q') := ask_or' (ask_or' (ask_or' (ask_or' h)))
theorem goodDd : ∀ q q', GdD q → (stDd cs n c q).sel = some (.inl q') → GdD q' := by
  intro q q' hg h
  cases q with
  | z j =>
    rcases br_or' h with h | h
    · have h := chD_or h; cases h; rfl
    · cases h
  | m j l out =>
    rcases br_or' h with h | h
    · have h := ask_or' (chD_or h); cases h; exact app_flat hg rfl
    · cases h
theorem LDd (h : cs.all Ex.flat = true) : Loop1 Tryz.prog 2 101 B97 (ShD cs t s n c ex) 6 (stDd cs n c) GdD :=
  .mk' (C := CcD cs t s n c ex) (n := 80) (fun q _ => by cases q <;> exact ts103) (fun q hq => by
    cases q with
    | z _ => exact lsDz .none h
    | m _ _ _ => exact lsDm .none h hq) (fun q ro _ => by cases q <;> kernel_rfl) (fun q ro _ => by cases q <;> kernel_rfl) (fun q => by cases q <;> kernel_rfl)
    goodDd (fun _ hq => hpDd_flat h hq) (fun _ _ hq _ => ⟨hpDd_flat h hq, fun h => by cases h⟩)
def dfI (cs : List Value) (j : Nat) : Int := difQ (pB cs j) (pB cs (j + 1))
def qD_ (cs : List Value) : Nat → KDd
  | 0 => .z 1
  | j + 1 => .m ((j + 2 : Nat) : Int) (j + 1) (lstI (dfI cs) (j + 1))
theorem chD_sel (h : okP cs n c) {j : Nat} (hj : j + 1 < n) (hn : n < 1000000) (u : SS KDd) : (chD cs n c ((j + 1 : Nat) : Int) u).sel = u.sel := by
  have hw : wrapF .i64 (((j + 1 : Nat) : Int) - 1) = (j : Int) := by rw [wrapF_in (by omega) (by omega)]; omega
  unfold chD
  rw [hw, askS_sel (bnd_t (by omega) h.2.1), askS_sel (cP_t h (by omega)), askS_sel (bnd_t hj h.2.1), askS_sel (cP_t h hj)]
theorem dfD_eq {j : Nat} (hj : j + 1 < 1000000) : dfD cs ((j + 1 : Nat) : Int) = dfI cs j := by
  have hw : wrapF .i64 (((j + 1 : Nat) : Int) - 1) = (j : Int) := by rw [wrapF_in (by omega) (by omega)]; omega
  unfold dfD q0D q1D
  rw [hw]; rfl
theorem runDd (h : okP cs (n + 1) c) (hn : n + 1 < 1000000) : runS (stDd cs (n + 1) c) (n + 1) (.z 1) = some (0, qD_ cs n) := by
  refine run_all (step := stDd cs (n + 1) c) (st := qD_ cs) (a := 0) n (fun j hj => ?_) ?_
  · cases j with
    | zero =>
      have e := dfD_eq (cs := cs) (j := 0) (by omega)
      show (stDd cs (n + 1) c (.z 1)).sel = _
      unfold stDd
      rw [br_t (by rw [ltF_eq]; exact decide_eq_true (by omega)), show (1 : Int) = ((0 + 1 : Nat) : Int) from rfl, chD_sel h (by omega) hn, e]; rfl
    | succ j =>
      have e := dfD_eq (cs := cs) (j := j + 1) (by omega)
      show (stDd cs (n + 1) c (.m ((j + 2 : Nat) : Int) (j + 1) _)).sel = _
      unfold stDd
      dsimp only
      rw [br_t (by rw [ltF_eq]; exact decide_eq_true (by omega)), show ((j + 2 : Nat) : Int) = ((j + 1 + 1 : Nat) : Int) from rfl, chD_sel h (j := j + 1) (by omega) hn, askS_sel (fl1_t (lst_len _ _) (by omega)), e, wsucc (by omega)]
      show some (Sum.inl (KDd.m ((j + 1 + 2 : Nat) : Int) (j + 1 + 1) (lstI (dfI cs) (j + 1) ++ [i (dfI cs (j + 1))]))) = _
      rw [← lst_succ]; rfl
  · cases n with
    | zero => rfl
    | succ n =>
      show (stDd cs (n + 1 + 1) c (.m ((n + 2 : Nat) : Int) (n + 1) _)).sel = _
      unfold stDd
      dsimp only
      rw [br_f (by rw [ltF_eq]; exact decide_eq_false (by omega))]; rfl
end
section
variable (cs : List Value) (t s n c : Nat) (ex : Bool)
noncomputable def K81 (q : KDd) : Cfg := ⟨T103, no_, off_, loopE noL 101 1 22 6 B97 ((ShD cs t s n c ex).st (.z 1)).live ((ShD cs t s n c ex).st (.z 1)).hp (finO (ShD cs t s n c ex) (0, q) [0])⟩
noncomputable def o81 (q : KDd) : Out QRes := execO Tryz.prog 2 (K81 cs t s n c ex q) 60 (.call 78 ⟨[sl 1 0 n c]⟩ (heapL (deads ++ [.cells cs t s ex])))
theorem v81z : (o81 cs t s n c ex (.z 1)).news = .br true (.leaf 1000000 (.old (.slice none 0 0))) .fail := by kernel_rfl
theorem x81z : o81 cs t s n c ex (.z 1) = (o81 cs t s n c ex (.z 1)).fix := by kernel_rfl
theorem v81m (j : Int) (l : Nat) (out : List Value) : (o81 cs t s n c ex (.m j l out)).news = .br true (.leaf 6 (.sl l l out 3 1 false)) .fail := by kernel_rfl
theorem x81m (j : Int) (l : Nat) (out : List Value) : o81 cs t s n c ex (.m j l out) = (o81 cs t s n c ex (.m j l out)).fix := by kernel_rfl
end
def P81 (z : Bool) (cs : List Value) (n c : Nat) : Prop := okP cs n c ∧ n < 1000000 ∧ (if z = true then n = 1 else 2 ≤ n)
def sp81 (z : Bool) : NSpec := fun al css => match al, css with
  | [.slice (some ⟨1, 0, none⟩) n c], [cs] => some (P81 z cs n c, cond z (.old (.slice none 0 0)) (.sl (n - 1) (n - 1) (lstI (dfI cs) (n - 1)) 3 1 false))
  | _, _ => none
theorem c81 (z : Bool) : ∀ al css os p v, sp81 z al css = some (p, v) → p → Blks css os → (∀ cs ∈ css, cs.all Ex.flat = true) ∧ v.Ok Tryz.prog 78 al deads os (gl + css.length) := by
  intro al css os p v hs hp hb
  unfold sp81 at hs
  split at hs
  case h_2 => cases hs
  rename_i n c cs
  cases hs
  obtain ⟨t, s, ex, rfl⟩ := blks1 hb
  obtain ⟨p1, p2, p3⟩ := hp
  refine ⟨by simpa using p1.1, ?_⟩
  cases z with
  | true =>
    have p3 : n = 1 := p3
    subst p3
    have hL := (LDd (t := t) (s := s) (ex := ex) (n := 1) (c := c) p1.1).table (id := 1) (s0 := .z 1) .none (by decide) trivial (runDd (n := 0) p1 p2) (by kernel_rfl) [0]
    exact news_ok (C := K81 cs t s 1 c ex (.z 1)) (n := 60) ts103 hL (x81z cs t s 1 c ex) (b := 1000000) ((congrArg NT.sel (v81z cs t s 1 c ex)).trans rfl) (show 2 ≤ 1000000 by decide) (show NRes.Fl (.old (.slice none 0 0)) from rfl)
  | false =>
    have p3 : 2 ≤ n := p3
    obtain ⟨k, rfl⟩ : ∃ k, n = k + 1 + 1 := ⟨n - 2, by omega⟩
    have hL := (LDd (t := t) (s := s) (ex := ex) (n := k + 1 + 1) (c := c) p1.1).table (id := 1) (s0 := .z 1) .none (by decide) trivial (runDd (n := k + 1) p1 p2) (by kernel_rfl) [0]
    exact news_ok (C := K81 cs t s (k + 1 + 1) c ex (qD_ cs (k + 1))) (n := 60) ts103 hL (x81m cs t s (k + 1 + 1) c ex _ _ _) (b := 6) ((congrArg NT.sel (v81m cs t s (k + 1 + 1) c ex _ _ _)).trans rfl) (show 2 ≤ 6 by decide) (lst_flat _ _)
end Go.Proofs.YteemponkignnhaaGreat.Ways
set_option maxRecDepth 10000
noncomputable section
namespace Go.Proofs.YteemponkignnhaaGreat.Ways
open Go Go.Ex Go.RowKit Go.Turn
structure Cyv (a b c d : Int) : Prop where
  b0 : 0 ≤ a ∧ a ≤ 39999
  b1 : 0 ≤ b ∧ b ≤ 39999
  b2 : -32768 ≤ c ∧ c ≤ 32768
  b3 : -32768 ≤ d ∧ d ≤ 32768
  lt0 : a < b
  lt2 : c < d
noncomputable def C100 : Cfg := ⟨TX9, at_ [(74, 19), (74, 25)] .bool no_, off_, noL⟩
noncomputable def o100 (a b c d : Int) : Out QRes := execO Tryz.prog 1 C100 60 (.call 74 ⟨[ag [i a, i b, i c, i d]]⟩ (heapL (deads ++ [])))
noncomputable def l100 (a b c d e : Int) : VT := aV (tru (okI [i (ixE a), i (ixE b), i (ldE c), i (ldE d), i e] 5 5)) (.leaf (i (firstF (eI [i (ixE a), i (ixE b), i (ldE c), i (ldE d), i e]) 5 0)))
theorem v100 (a b c d : Int) : (o100 a b c d).vals = .br (ltF a b) (.br (ltF c d) (l100 a b c d 0) (l100 a b c d 11)) (l100 a b c d 11) := by kernel_rfl
theorem x100 (a b c d : Int) : o100 a b c d = (o100 a b c d).fix := by kernel_rfl
def sp100 : ESpec := fun al css => match al, css with
  | [.agg ⟨[.int .i64 a, .int .i64 b, .int .i64 c, .int .i64 d]⟩], [] => some (Cyv a b c d, i 0)
  | _, _ => none
theorem okI5 (a b c d e : Int) : okI [i a, i b, i c, i d, i e] 5 5 := ⟨rfl, Nat.le_refl _, by omega, fun j hj => by
  match j, hj with
  | 0, _ => rfl
  | 1, _ => rfl
  | 2, _ => rfl
  | 3, _ => rfl
  | 4, _ => rfl⟩
theorem c100 : ∀ al css os p v, sp100 al css = some (p, v) → p → Blks css os → (∀ cs ∈ css, cs.all Ex.flat = true) ∧ clean 6 v = true ∧ ∃ H', Sound Tryz.prog (gl + css.length) (.call 74 ⟨al⟩ (heapL (deads ++ os))) (.val v H') := by
  intro al css os p v hs hp hb
  unfold sp100 at hs
  split at hs
  case h_2 => cases hs
  rename_i a b c d
  cases hs
  cases hb
  refine ⟨fun c hc => absurd hc List.not_mem_nil, rfl, ?_⟩
  have g0 : ixE a = 0 := if_pos hp.b0
  have g1 : ixE b = 0 := if_pos hp.b1
  have g2 : ldE c = 0 := if_pos hp.b2
  have g3 : ldE d = 0 := if_pos hp.b3
  obtain ⟨H', h'⟩ := Out.vals_sel (x100 a b c d) (v := i 0) (by
    rw [v100, vb_t (by rw [ltF_eq]; exact decide_eq_true hp.lt0), vb_t (by rw [ltF_eq]; exact decide_eq_true hp.lt2)]
    unfold l100
    rw [aV_sel (tru_iff.2 (okI5 _ _ _ _ _)), g0, g1, g2, g3]; rfl)
  exact ⟨H', execO_sound (C := C100) tsX9 .none 60 _ _ h'⟩
noncomputable def T100 : Tb := ext TX9 74 (autoE sp100 [] (heapL deads))
theorem ts100 {G : Nat} : TSound Tryz.prog G T100 := tsX9.auto c100
noncomputable def B99 : Code := bodyL Tryz.f73 2
noncomputable def C99 : Cfg := ⟨T100, at_ [(73, 11)] .bool no_, on_ [(73, 12), (73, 13)], noL⟩
section
variable (cs : List Value) (t s n c : Nat) (ex : Bool)
def S99 : Shape Int := ⟨21, fun j => ⟨[(1, fn 74), (8, sl 1 0 n c), (9, i n), (10, i j)], hpI cs t s ex⟩, fun _ _ => (.exit 0, ⟨[], hpI cs t s ex⟩)⟩
noncomputable def st99 (j : Int) : SS Int := .br (ltF j n) (askS (bnd_ j n c) <| askS (cF cs j) <| askS (tru (Cyv (f_ cs j.toNat 0) (f_ cs j.toNat 1) (f_ cs j.toNat 2) (f_ cs j.toNat 3))) <| .next 3 [0, 1] (wrapF .i64 (j + 1))) (.done 2 [0, 1] 0)
noncomputable def K99 (r : Nat × Int) : Cfg := ⟨T100, no_, off_, loopE noL 73 2 21 2 B99 ((S99 cs t s n c ex).st 0).live ((S99 cs t s n c ex).st 0).hp (finO (S99 cs t s n c ex) r [0])⟩
noncomputable def o99 (j : Int) : Out QRes := execO Tryz.prog 2 (K99 cs t s n c ex (0, j)) 60 (.call 73 ⟨[sl 1 0 n c, fn 74]⟩ (heapL (deads ++ [.cells cs t s ex])))
theorem v99 (j : Int) : (o99 cs t s n c ex j).vals = .br true (.leaf (i 0)) .fail := by kernel_rfl
theorem x99 (j : Int) : o99 cs t s n c ex j = (o99 cs t s n c ex j).fix := by kernel_rfl
end
section
variable {cs : List Value} {t s n c : Nat} {ex : Bool}
theorem L99 (h : cs.all Ex.flat = true) : Loop1 Tryz.prog 2 73 B99 (S99 cs t s n c ex) 2 (st99 cs n c) (fun _ => True) :=
  .mk' (C := fun _ => C99) (n := 60) (fun _ _ => ts100) (fun _ _ => .none) (fun q ro _ => by kernel_rfl) (fun q ro _ => by kernel_rfl) (fun q => by kernel_rfl) (fun _ _ _ _ => trivial)
    (fun _ _ => hpI_flat h) (fun _ _ _ _ => ⟨hpI_flat h, fun h => by cases h⟩)
theorem run99 (h : GcE cs n c) : runS (st99 cs n c) (n + 1) 0 = some (0, (n : Int)) := by
  obtain ⟨h1, h2, h3⟩ := h
  refine run_all (step := st99 cs n c) (st := fun j => ((j : Nat) : Int)) (a := 0) n (fun j hj => ?_) ?_
  · have q := h3 j hj
    unfold st99
    rw [br_t (by rw [ltF_eq]; simpa using hj), askS_sel (bnd_t hj h1.2.1), askS_sel (show cF cs (j : Int) = true from h1.2.2.2 j hj), show ((j : Nat) : Int).toNat = j from rfl, askS_sel (tru_iff.2 ⟨q.b0, q.b1, q.b2, q.b3, q.lt0, q.lt2⟩), wsucc (by omega)]; rfl
  · unfold st99
    rw [br_f (by rw [ltF_eq]; simp)]; rfl
end
def sp99 : ESpec := fun al css => match al, css with
  | [.slice (some ⟨1, 0, none⟩) n c, .func (.func 74) ⟨[]⟩ ⟨[]⟩], [cs] => some (GcE cs n c, i 0)
  | _, _ => none
theorem c99 : ∀ al css os p v, sp99 al css = some (p, v) → p → Blks css os → (∀ cs ∈ css, cs.all Ex.flat = true) ∧ clean 6 v = true ∧ ∃ H', Sound Tryz.prog (gl + css.length) (.call 73 ⟨al⟩ (heapL (deads ++ os))) (.val v H') := by
  intro al css os p v hs hp hb
  unfold sp99 at hs
  split at hs
  case h_2 => cases hs
  rename_i n c cs
  cases hs
  obtain ⟨t, s, ex, rfl⟩ := blks1 hb
  refine ⟨by simpa using hp.1.1, rfl, ?_⟩
  have hL := (L99 (t := t) (s := s) (n := n) (c := c) (ex := ex) hp.1.1).table (id := 2) (s0 := (0 : Int)) .none (by decide) trivial (run99 hp) (by kernel_rfl) [0]
  obtain ⟨H', h'⟩ := Out.vals_sel (x99 cs t s n c ex n) (v := i 0) (by rw [v99]; rfl)
  exact ⟨H', execO_sound (C := K99 cs t s n c ex (0, n)) ts100 hL 60 _ _ h'⟩
noncomputable def T99 : Tb := ext T100 73 (autoE sp99 [] (heapL deads))
theorem ts99 {G : Nat} : TSound Tryz.prog G T99 := ts100.auto c99
end Go.Proofs.YteemponkignnhaaGreat.Ways
set_option maxRecDepth 10000
noncomputable section
namespace Go.Proofs.YteemponkignnhaaGreat.Ways
open Go Go.Ex Go.RowKit Go.Turn
noncomputable def TD (z : Bool) : Tb := ext (ext (ext (ext (ext T99 79 (autoE (sp13g true) [] (heapL deads))) 61 (autoE (sp18g true) [] (heapL deads))) 76 (autoE sp79 [] (heapL deads))) 78 (newE (sp81 z) [] (heapL deads))) 106 (newE sp102 [] (heapL deads))
theorem tsD_ {G : Nat} (z : Bool) : TSound Tryz.prog G (TD z) := ((((ts99.auto (c13g 79 (.inr rfl) true)).auto (c18g 61 (.inl rfl) true)).auto c79).new (f' := 78) (c81 z)).new c102
end Go.Proofs.YteemponkignnhaaGreat.Ways
set_option maxRecDepth 10000
noncomputable section
namespace Go.Proofs.YteemponkignnhaaGreat.Ways
open Go Go.Ex Go.RowKit Go.Turn
noncomputable def TW (f z : Bool) : Tb := ext (ext (TD z) 90 (newE (sp49 false) [] (heapL deads))) 91 (twoE (sp59 f) [] (heapL deads))
theorem tsW_ {G : Nat} (f z : Bool) : TSound Tryz.prog G (TW f z) := ((tsD_ z).new (f' := 90) (c49 false)).two (c59 f)
def spW : Nat → Nat → Split := at_ [(25, 14), (109, 20), (127, 6), (127, 16)] .bool no_
def syW (f : Bool) : Nat → Nat → Bool := cond f (on_ [(109, 33), (109, 500033), (127, 22), (127, 500022), (127, 25)]) (on_ [(109, 33), (109, 500033), (109, 200033), (109, 300033), (127, 22), (127, 500022), (127, 25)])
def zI (N : Nat) : List Value := (Builtin.zeroCells (i 0).cells N).toList
def vn (b : Bool) (t : VT) : VT := .br b .fail t
section
variable (cs : List Value) (n t s : Nat) (ex : Bool) (e : Int)
noncomputable def C43 (f z : Bool) : Cfg := cond (!f && z) ⟨TW f z, at_ [(25, 14)] .bool no_, off_, noL⟩ ⟨TW f z, spW, syW f, noL⟩
noncomputable def o43 (f z : Bool) : Out QRes := execO Tryz.prog 2 (C43 f z) 90 (.call 25 ⟨[sl 1 0 n n, i e]⟩ (heapL (deads ++ [.cells cs t s ex])))
def er43 : Int := fst2 0 (rgE e 1 3)
noncomputable def p43 (u : VT) : VT := vP (LokE cs n n) <| vP (okI [i 0, i (rgE e 1 3)] 2 2) <| .br (!eqF (er43 e) 0) (.leaf (tp [i 0, i (er43 e)])) <| vP (LmE cs n n) u
noncomputable def RI_ : List Value := lstI (szI (flatC (CC_ cs n))) (CC_ cs n).length
noncomputable def DI_ : List Value := lstI (dfI (ST_ cs n)) (LD_ cs n - 1)
def w1_ (a : Nat) : Int := wrapF .i64 (0 + (a : Int))
def w2_ (a : Nat) : Int := wrapF .i64 (w1_ a + (a : Int))
def w3_ (a k : Nat) : Int := wrapF .i64 (w2_ a + (k : Int))
def c1_ (R : List Value) (a : Nat) (z : Int) : List Value := putR 1 0 a 0 R (zI z.toNat)
def c2_ (R : List Value) (a : Nat) (z : Int) : List Value := putR 1 (0 + a) a 0 R (c1_ R a z)
def c3_ (R D : List Value) (a k : Nat) (z : Int) : List Value := putR 1 (0 + a + a) k 0 D (c2_ R a z)
def gr_ (a k : Nat) (u : VT) : VT := vn (ltF (w1_ a) 0) <| vn (ltF (w2_ a) 0) <| vn (ltF (w3_ a k) 0) <| vn (ltF (w3_ a k) 0) <| aV (ltF 0 (szQ (w3_ a k))) <| aV (ltF 0 (szQ (w3_ a k)) && leF (szQ (w3_ a k)) 1048576) <| aV (leF 0 0 && (leF 0 0 && leF 0 ((szQ (w3_ a k)).toNat : Nat))) u
def grZ (a k : Nat) (u : VT) : VT := vn (ltF (w1_ a) 0) <| vn (ltF (w2_ a) 0) <| vn (ltF (w3_ a k) 0) <| vn (ltF (w3_ a k) 0) <| .br (ltF 0 (szQ (w3_ a k))) (aV (ltF 0 (szQ (w3_ a k)) && leF (szQ (w3_ a k)) 1048576) <| aV (leF 0 0 && (leF 0 0 && leF 0 ((szQ (w3_ a k)).toNat : Nat))) u) (.br (decide (0 = 0)) .fail .fail)
noncomputable def en_ (c : List Value) (m N : Nat) : VT := vP (V79 c m N e) (.leaf (tp [i (smP c e m), i 0]))
theorem v43tf : (o43 cs n t s ex e true false).vals = p43 cs n e (vP (P59 true (RS_ cs n) (RN_ cs n) (RN_ cs n)) <| vP (okF (flatC (CC_ cs n)) (CC_ cs n).length (CC_ cs n).length ∧ (CC_ cs n).length < 1000000) <| vP (P81 false (ST_ cs n) (LD_ cs n) (CP_ cs n)) <|
  gr_ (CC_ cs n).length (LD_ cs n - 1) <| aV (roomB (CC_ cs n).length (CC_ cs n).length 0 ((szQ (w3_ (CC_ cs n).length (LD_ cs n - 1))).toNat - 0) 1 0 (RI_ cs n) (zI (szQ (w3_ (CC_ cs n).length (LD_ cs n - 1))).toNat)) <|
  aV (roomB (CC_ cs n).length (CC_ cs n).length (0 + (CC_ cs n).length) ((szQ (w3_ (CC_ cs n).length (LD_ cs n - 1))).toNat - 0) 1 0 (RI_ cs n) (c1_ (RI_ cs n) (CC_ cs n).length (szQ (w3_ (CC_ cs n).length (LD_ cs n - 1))))) <|
  aV (roomB (LD_ cs n - 1) (LD_ cs n - 1) (0 + (CC_ cs n).length + (CC_ cs n).length) ((szQ (w3_ (CC_ cs n).length (LD_ cs n - 1))).toNat - 0) 1 0 (DI_ cs n) (c2_ (RI_ cs n) (CC_ cs n).length (szQ (w3_ (CC_ cs n).length (LD_ cs n - 1))))) <|
  en_ e (c3_ (RI_ cs n) (DI_ cs n) (CC_ cs n).length (LD_ cs n - 1) (szQ (w3_ (CC_ cs n).length (LD_ cs n - 1)))) (0 + (CC_ cs n).length + (CC_ cs n).length + (LD_ cs n - 1)) ((szQ (w3_ (CC_ cs n).length (LD_ cs n - 1))).toNat - 0)) := by kernel_rfl
theorem v43tt : (o43 cs n t s ex e true true).vals = p43 cs n e (vP (P59 true (RS_ cs n) (RN_ cs n) (RN_ cs n)) <| vP (okF (flatC (CC_ cs n)) (CC_ cs n).length (CC_ cs n).length ∧ (CC_ cs n).length < 1000000) <| vP (P81 true (ST_ cs n) (LD_ cs n) (CP_ cs n)) <|
  gr_ (CC_ cs n).length 0 <| aV (roomB (CC_ cs n).length (CC_ cs n).length 0 ((szQ (w3_ (CC_ cs n).length 0)).toNat - 0) 1 0 (RI_ cs n) (zI (szQ (w3_ (CC_ cs n).length 0)).toNat)) <|
  aV (roomB (CC_ cs n).length (CC_ cs n).length (0 + (CC_ cs n).length) ((szQ (w3_ (CC_ cs n).length 0)).toNat - 0) 1 0 (RI_ cs n) (c1_ (RI_ cs n) (CC_ cs n).length (szQ (w3_ (CC_ cs n).length 0)))) <|
  aV (decide (0 + (CC_ cs n).length + (CC_ cs n).length ≤ (szQ (w3_ (CC_ cs n).length 0)).toNat - 0)) <|
  en_ e (c2_ (RI_ cs n) (CC_ cs n).length (szQ (w3_ (CC_ cs n).length 0))) (0 + (CC_ cs n).length + (CC_ cs n).length) ((szQ (w3_ (CC_ cs n).length 0)).toNat - 0)) := by kernel_rfl
def zz_ (n cap2 len cap size off2 : Nat) (ds cs : List Value) (K : Nat → List Value → VT) : VT := .br (decide (n = 0)) (.br (decide (n = 0) && (decide (n ≤ cap2) && decide (len ≤ cap))) (K len cs) .fail) (.br (roomB n cap2 len cap size off2 ds cs) (K (len + n) (putR size len n off2 ds cs)) .fail)
theorem v43ff : (o43 cs n t s ex e false false).vals = p43 cs n e (vP (P59 false (RS_ cs n) (RN_ cs n) (RN_ cs n)) <| vP (P81 false (ST_ cs n) (LD_ cs n) (CP_ cs n)) <|
  grZ 0 (LD_ cs n - 1) <| zz_ 0 0 0 ((szQ (w3_ 0 (LD_ cs n - 1))).toNat - 0) 1 0 [] (zI (szQ (w3_ 0 (LD_ cs n - 1))).toNat) fun l1 c1 => zz_ 0 0 l1 ((szQ (w3_ 0 (LD_ cs n - 1))).toNat - 0) 1 0 [] c1 fun l2 c2 =>
    zz_ (LD_ cs n - 1) (LD_ cs n - 1) l2 ((szQ (w3_ 0 (LD_ cs n - 1))).toNat - 0) 1 0 (DI_ cs n) c2 fun l3 c3 => en_ e c3 l3 ((szQ (w3_ 0 (LD_ cs n - 1))).toNat - 0)) := by kernel_rfl
theorem v43ft : (o43 cs n t s ex e false true).vals = p43 cs n e (vP (P59 false (RS_ cs n) (RN_ cs n) (RN_ cs n)) <| vP (P81 true (ST_ cs n) (LD_ cs n) (CP_ cs n)) <| .leaf (tp [i 0, i 0])) := by kernel_rfl
theorem x43 : ∀ f z, o43 cs n t s ex e f z = (o43 cs n t s ex e f z).fix
  | true, true => by kernel_rfl
  | true, false => by kernel_rfl
  | false, true => by kernel_rfl
  | false, false => by kernel_rfl
end
end Go.Proofs.YteemponkignnhaaGreat.Ways
set_option maxRecDepth 10000
noncomputable section
namespace Go.Proofs.YteemponkignnhaaGreat.Ways
open Go Go.Ex Go.RowKit Go.Turn
def lstV (l : List Int) : List Value := l.map fun x => i x
def sL (e : Int) : List Int → Int
  | [] => 0
  | x :: l => pwI x e + sL e l
theorem sL_app (e : Int) : ∀ a b : List Int, sL e (a ++ b) = sL e a + sL e b
  | [], b => (Int.zero_add _).symm
  | x :: a, b => by show pwI x e + sL e (a ++ b) = pwI x e + sL e a + sL e b; rw [sL_app e a b]; omega
theorem lst_V (g : Nat → Int) (n : Nat) : lstI g n = lstV ((List.range n).map g) := by unfold lstI lstV; rw [List.map_map]; rfl
theorem lstV_app (a b : List Int) : lstV (a ++ b) = lstV a ++ lstV b := List.map_append
theorem lstV_len (a : List Int) : (lstV a).length = a.length := List.length_map ..
theorem lstV_flat (a : List Int) : (lstV a).all Ex.flat = true := by
  refine List.all_eq_true.2 fun x hx => ?_
  obtain ⟨y, _, rfl⟩ := List.mem_map.1 hx
  rfl
theorem lstV_one (a : List Int) : (lstV a).all oneB = true := by
  refine List.all_eq_true.2 fun x hx => ?_
  obtain ⟨y, _, rfl⟩ := List.mem_map.1 hx
  rfl
theorem lstV_get {l : List Int} {j : Nat} (h : j < l.length) : (lstV l)[0 + j * 1]? = some (i l[j]) := by
  rw [show 0 + j * 1 = j from by omega]
  unfold lstV
  rw [List.getElem?_map, List.getElem?_eq_getElem h]; rfl
theorem eI_V {l : List Int} {j : Nat} (h : j < l.length) : eI (lstV l) j = l[j] := by unfold eI; rw [lstV_get h]; rfl
theorem okI_V {l : List Int} {N : Nat} (h : l.length < 1000000) (hN : l.length ≤ N) : okI (lstV l) l.length N := ⟨lstV_flat l, hN, by omega, fun j hj => by rw [lstV_get hj]; rfl⟩
theorem smP_V (e : Int) (l : List Int) : smP (lstV l) e l.length = sL e l := by
  have key : ∀ j, j ≤ l.length → smP (lstV l) e j = sL e (l.take j) := by
    intro j
    induction j with
    | zero => intro _; rfl
    | succ j ih =>
      intro hj
      show smP (lstV l) e j + pwI (eI (lstV l) j) e = _
      rw [ih (by omega), eI_V (by omega), List.take_add_one, List.getElem?_eq_getElem (by omega), sL_app]
      show _ = _ + (pwI _ e + 0)
      omega
  have := key l.length (Nat.le_refl _)
  rwa [List.take_length] at this
theorem V79_V {l : List Int} {N : Nat} {e : Int} (h : ∀ x ∈ l, 0 ≤ x ∧ x ≤ 65536) (hl : l.length ≤ 1000) (hN : l.length ≤ N) (he : ex3 e) : V79 (lstV l) l.length N e :=
  ⟨okI_V (by omega) hN, hl, he, fun j hj => by rw [eI_V hj]; exact h _ (List.getElem_mem hj)⟩
theorem ex3_rg {e : Int} (h : ex3 e) : rgE e 1 3 = 0 := if_pos (by rcases h with rfl | rfl | rfl <;> omega)
def rgs (cs : List Value) (n : Nat) : List Int := (List.range n).map (szI cs)
def dfs (cs : List Value) (n : Nat) : List Int := (List.range n).map (dfI cs)
theorem rgs_len (cs : List Value) (n : Nat) : (rgs cs n).length = n := by unfold rgs; simp
theorem dfs_len (cs : List Value) (n : Nat) : (dfs cs n).length = n := by unfold dfs; simp
theorem rgs_bd {cs : List Value} {n c : Nat} (h : GcE cs n c) : ∀ x ∈ rgs cs n, 0 ≤ x ∧ x ≤ 65536 := fun x hx => by
  unfold rgs at hx
  obtain ⟨j, hj, rfl⟩ := List.mem_map.1 hx
  have q := h.2.2 j (List.mem_range.1 hj)
  have b2 := q.b2
  have b3 := q.b3
  have l2 := q.lt2
  unfold szI szC
  rw [wrapF_in (by omega) (by omega)]; omega
theorem dfs_bd {cs : List Value} {n : Nat} (h : ∀ j, j < n + 1 → -32768 ≤ pB cs j ∧ pB cs j ≤ 32768) : ∀ x ∈ dfs cs n, 0 ≤ x ∧ x ≤ 65536 := fun x hx => by
  unfold dfs at hx
  obtain ⟨j, hj, rfl⟩ := List.mem_map.1 hx
  have hj := List.mem_range.1 hj
  have h1 := h j (by omega)
  have h2 := h (j + 1) (by omega)
  unfold dfI
  rw [difQ_abs h1 h2]
  split <;> omega
noncomputable def C44 : Cfg := ⟨TD false, at_ [(23, 14)] .bool no_, off_, noL⟩
section
variable (cs : List Value) (t s n c : Nat) (ex : Bool) (e : Int)
noncomputable def o44 : Out QRes := execO Tryz.prog 2 C44 60 (.call 23 ⟨[sl 1 0 n c, i e]⟩ (heapL (deads ++ [.cells cs t s ex])))
noncomputable def o44z : Out QRes := execO Tryz.prog 1 C44 60 (.call 23 ⟨[.slice none 0 0, i e]⟩ (heapL (deads ++ [])))
theorem v44 : (o44 cs t s n c ex e).vals = (vP (GcE cs n c) <| vP (okI [i (mnE n 40000), i 0] 2 2) <| vP (okI [i (fst2 (mnE n 40000) 0), i (rgE e 1 3)] 2 2) <| .br (!eqF (fst2 (fst2 (mnE n 40000) 0) (rgE e 1 3)) 0) (.leaf (tp [i 0, i (fst2 (fst2 (mnE n 40000) 0) (rgE e 1 3))])) <|
  vP (okF cs n c ∧ n < 1000000) <| vP (V79 (lstI (szI cs) n) n n e) <| .leaf (tp [i (smP (lstI (szI cs) n) e n), i 0])) := by kernel_rfl
theorem x44 : o44 cs t s n c ex e = (o44 cs t s n c ex e).fix := by kernel_rfl
theorem v44z : (o44z e).vals = (vP (okI [i 0, i 0] 2 2) <| vP (okI [i 0, i (rgE e 1 3)] 2 2) <| .br (!eqF (fst2 0 (rgE e 1 3)) 0) (.leaf (tp [i 0, i (fst2 0 (rgE e 1 3))])) <| vP (V79 [] 0 0 e) <| .leaf (tp [i 0, i 0])) := by kernel_rfl
theorem x44z : o44z e = (o44z e).fix := by kernel_rfl
end
def sp44 : ESpec := fun al css => match al, css with
  | [.slice (some ⟨1, 0, none⟩) n c, .int .i64 e], [cs] => some (GcE cs n c ∧ n ≤ 100 ∧ ex3 e, tp [i (sL e (rgs cs n)), i 0])
  | [.slice none 0 0, .int .i64 e], [] => some (ex3 e, tp [i 0, i 0])
  | _, _ => none
theorem c44 : ∀ al css os p v, sp44 al css = some (p, v) → p → Blks css os → (∀ cs ∈ css, cs.all Ex.flat = true) ∧ clean 6 v = true ∧ ∃ H', Sound Tryz.prog (gl + css.length) (.call 23 ⟨al⟩ (heapL (deads ++ os))) (.val v H') := by
  intro al css os p v hs hp hb
  unfold sp44 at hs
  split at hs
  · rename_i n c e cs
    cases hs
    obtain ⟨t, s, ex, rfl⟩ := blks1 hb
    obtain ⟨h1, h2, h3⟩ := hp
    refine ⟨by simpa using h1.1.1, rfl, ?_⟩
    have hm : mnE (n : Int) 40000 = 0 := if_pos (by omega)
    have hv := V79_V (l := rgs cs n) (N := n) (rgs_bd h1) (by rw [rgs_len]; omega) (by rw [rgs_len]; exact Nat.le_refl _) h3
    have hsm := smP_V e (rgs cs n)
    rw [rgs_len] at hv hsm
    obtain ⟨H', h'⟩ := Out.vals_sel (x44 cs t s n c ex e) (v := tp [i (sL e (rgs cs n)), i 0]) (by
      rw [v44, vP_sel h1, vP_sel (okI2 _ _), vP_sel (okI2 _ _), hm, ex3_rg h3, vb_f (by rfl), vP_sel ⟨h1.1, by omega⟩, lst_V, show (List.range n).map (szI cs) = rgs cs n from rfl, vP_sel hv]
      show some (tp [i (smP (lstV (rgs cs n)) e n), i 0]) = _
      rw [hsm])
    exact ⟨H', execO_sound (C := C44) (tsD_ false) .none 60 _ _ h'⟩
  · rename_i e
    cases hs
    cases hb
    refine ⟨fun c hc => absurd hc List.not_mem_nil, rfl, ?_⟩
    obtain ⟨H', h'⟩ := Out.vals_sel (x44z e) (v := tp [i 0, i 0]) (by
      rw [v44z, vP_sel (okI2 _ _), vP_sel (okI2 _ _), ex3_rg hp, vb_f (by rfl), vP_sel (show V79 [] 0 0 e from V79_V (l := []) (fun x hx => by cases hx) (by decide) (Nat.le_refl _) hp)]; rfl)
    exact ⟨H', execO_sound (C := C44) (tsD_ false) .none 60 _ _ h'⟩
  · cases hs
noncomputable def C45 (z : Bool) : Cfg := ⟨TD z, at_ [(24, 14)] .bool no_, off_, noL⟩
section
variable (cs : List Value) (t s n c : Nat) (ex : Bool) (e : Int)
noncomputable def o45 (z : Bool) : Out QRes := execO Tryz.prog 2 (C45 z) 60 (.call 24 ⟨[sl 1 0 n c, i e]⟩ (heapL (deads ++ [.cells cs t s ex])))
noncomputable def p45 (z : Bool) (u : VT) : VT := vP (BokE cs n c ∧ crE cs n = 0) <| vP (okI [i 0, i (rgE e 1 3)] 2 2) <| .br (!eqF (fst2 0 (rgE e 1 3)) 0) (.leaf (tp [i 0, i (fst2 0 (rgE e 1 3))])) <| vP (P81 z cs n c) u
theorem v45t : (o45 cs t s n c ex e true).vals = p45 cs n c e true (.leaf (tp [i 0, i 0])) := by kernel_rfl
theorem v45f : (o45 cs t s n c ex e false).vals = p45 cs n c e false (vP (V79 (lstI (dfI cs) (n - 1)) (n - 1) (n - 1) e) <| .leaf (tp [i (smP (lstI (dfI cs) (n - 1)) e (n - 1)), i 0])) := by kernel_rfl
theorem x45 : ∀ z, o45 cs t s n c ex e z = (o45 cs t s n c ex e z).fix
  | true => by kernel_rfl
  | false => by kernel_rfl
end
def sp45 : ESpec := fun al css => match al, css with
  | [.slice (some ⟨1, 0, none⟩) n c, .int .i64 e], [cs] => some (BokE cs n c ∧ crE cs n = 0 ∧ ex3 e ∧ 1 ≤ n ∧ n ≤ 100 ∧ (∀ j, j < n → -32768 ≤ pB cs j ∧ pB cs j ≤ 32768), tp [i (sL e (dfs cs (n - 1))), i 0])
  | _, _ => none
theorem c45 : ∀ al css os p v, sp45 al css = some (p, v) → p → Blks css os → (∀ cs ∈ css, cs.all Ex.flat = true) ∧ clean 6 v = true ∧ ∃ H', Sound Tryz.prog (gl + css.length) (.call 24 ⟨al⟩ (heapL (deads ++ os))) (.val v H') := by
  intro al css os p v hs hp hb
  unfold sp45 at hs
  split at hs
  case h_2 => cases hs
  rename_i n c e cs
  cases hs
  obtain ⟨t, s, ex, rfl⟩ := blks1 hb
  obtain ⟨h1, h2, h3, h4, h5, h6⟩ := hp
  refine ⟨by simpa using h1.1.1, rfl, ?_⟩
  by_cases hz : n = 1
  · subst hz
    obtain ⟨H', h'⟩ := Out.vals_sel (x45 cs t s 1 c ex e true) (v := tp [i (sL e (dfs cs (1 - 1))), i 0]) (by
      rw [v45t]
      unfold p45
      rw [vP_sel ⟨h1, h2⟩, vP_sel (okI2 _ _), ex3_rg h3, vb_f (by rfl), vP_sel ⟨h1.1, h1.2, rfl⟩]; rfl)
    exact ⟨H', execO_sound (C := C45 true) (tsD_ true) .none 60 _ _ h'⟩
  · obtain ⟨k, rfl⟩ : ∃ k, n = k + 1 := ⟨n - 1, by omega⟩
    have hv := V79_V (l := dfs cs k) (N := k) (dfs_bd h6) (by rw [dfs_len]; omega) (by rw [dfs_len]; exact Nat.le_refl _) h3
    have hsm := smP_V e (dfs cs k)
    rw [dfs_len] at hv hsm
    have hP : P81 false cs (k + 1) c := ⟨h1.1, h1.2, show 2 ≤ k + 1 by omega⟩
    obtain ⟨H', h'⟩ := Out.vals_sel (x45 cs t s (k + 1) c ex e false) (v := tp [i (sL e (dfs cs (k + 1 - 1))), i 0]) (by
      rw [v45f]
      unfold p45
      rw [vP_sel ⟨h1, h2⟩, vP_sel (okI2 _ _), ex3_rg h3, vb_f (by rfl), vP_sel hP, Nat.add_sub_cancel, lst_V, show (List.range k).map (dfI cs) = dfs cs k from rfl, vP_sel hv]
      show some (tp [i (smP (lstV (dfs cs k)) e k), i 0]) = _
      rw [hsm])
    exact ⟨H', execO_sound (C := C45 false) (tsD_ false) .none 60 _ _ h'⟩
end Go.Proofs.YteemponkignnhaaGreat.Ways
set_option maxRecDepth 10000
noncomputable section
namespace Go.Proofs.YteemponkignnhaaGreat.Ways
open Go Go.Ex Go.RowKit Go.Turn
theorem zI_len (N : Nat) : (zI N).length = N := by
  unfold zI
  rw [Array.length_toList, size_zeroCells]; exact Nat.mul_one _
theorem w_eq {a k : Nat} (h : a < 100000) (h2 : k < 100000) : w1_ a = (a : Int) ∧ w2_ a = ((a + a : Nat) : Int) ∧ w3_ a k = ((a + a + k : Nat) : Int) ∧ szQ (w3_ a k) = ((a + a + k : Nat) : Int) := by
  have e1 : w1_ a = (a : Int) := by unfold w1_; rw [wrapF_in (by omega) (by omega)]; omega
  have e2 : w2_ a = ((a + a : Nat) : Int) := by unfold w2_; rw [e1, wrapF_in (by omega) (by omega)]; omega
  have e3 : w3_ a k = ((a + a + k : Nat) : Int) := by unfold w3_; rw [e2, wrapF_in (by omega) (by omega)]; omega
  refine ⟨e1, e2, e3, ?_⟩
  unfold szQ
  rw [e3, show wrapF .i64 (((0 : Nat) : Int) - ((0 : Nat) : Int)) = 0 from rfl, wrapF_in (by omega) (by omega)]; omega
theorem put_V {A B : List Int} {Z : List Value} {x y : Nat} (hx : A.length = x) (hy : B.length = y) : putR 1 x y 0 (lstV B) (lstV A ++ Z) = lstV (A ++ B) ++ Z.drop y := by
  subst hx hy
  have ha : (lstV A).length = A.length := lstV_len A
  have hb : (lstV B).length = B.length := lstV_len B
  unfold putR
  rw [Nat.mul_one, Nat.mul_one, List.drop_zero, List.take_of_length_le (l := lstV B) (by omega), ← ha, List.take_left, List.drop_append, ha, List.drop_of_length_le (by omega), List.nil_append, show A.length + B.length - A.length = B.length from by omega, lstV_app, List.append_assoc]
theorem room_V {A B : List Int} {Z : List Value} {N x y : Nat} (hx : A.length = x) (hy : B.length = y) (hB : y ≠ 0) (hN : x + y ≤ N) (hZ : y ≤ Z.length) : roomB y y x N 1 0 (lstV B) (lstV A ++ Z) = true := by
  subst hx hy
  have ha : (lstV A).length = A.length := lstV_len A
  have hb : (lstV B).length = B.length := lstV_len B
  unfold roomB
  rw [List.drop_zero, List.take_of_length_le (l := lstV B) (by omega), lstV_one, List.length_append, ha, hb]
  simp only [Bool.and_eq_true, decide_eq_true_eq, and_true]
  omega
theorem gr_sel {a k : Nat} (h : a < 100000) (h2 : k < 100000) (h0 : a + a + k ≠ 0) (u : VT) : (gr_ a k u).sel = u.sel := by
  obtain ⟨e1, e2, e3, e4⟩ := w_eq h h2
  unfold gr_ vn
  rw [e4, e3, e2, e1, vb_f (by rw [ltF_eq]; exact decide_eq_false (by omega)), vb_f (by rw [ltF_eq]; exact decide_eq_false (by omega)), vb_f (by rw [ltF_eq]; exact decide_eq_false (by omega)), vb_f (by rw [ltF_eq]; exact decide_eq_false (by omega)),
    aV_sel (by rw [ltF_eq]; exact decide_eq_true (by omega)), aV_sel (by rw [ltF_eq, leF_eq, decide_eq_true (by omega), decide_eq_true (by omega)]; rfl), aV_sel (by rw [leF_eq, leF_eq, decide_eq_true (by omega), decide_eq_true (by omega)]; rfl)]
theorem grZ_sel {a k : Nat} (h : a < 100000) (h2 : k < 100000) (h0 : a + a + k ≠ 0) (u : VT) : (grZ a k u).sel = u.sel := by
  obtain ⟨e1, e2, e3, e4⟩ := w_eq h h2
  unfold grZ vn
  rw [e4, e3, e2, e1, vb_f (by rw [ltF_eq]; exact decide_eq_false (by omega)), vb_f (by rw [ltF_eq]; exact decide_eq_false (by omega)), vb_f (by rw [ltF_eq]; exact decide_eq_false (by omega)), vb_f (by rw [ltF_eq]; exact decide_eq_false (by omega)),
    vb_t (by rw [ltF_eq]; exact decide_eq_true (by omega)), aV_sel (by rw [ltF_eq, leF_eq, decide_eq_true (by omega), decide_eq_true (by omega)]; rfl), aV_sel (by rw [leF_eq, leF_eq, decide_eq_true (by omega), decide_eq_true (by omega)]; rfl)]
section
variable {cs : List Value} {n : Nat} {e : Int}
def rgC (cs : List Value) (n : Nat) : List Int := rgs (flatC (CC_ cs n)) (CC_ cs n).length
noncomputable def dfC (cs : List Value) (n : Nat) : List Int := dfs (ST_ cs n) (LD_ cs n - 1)
theorem rgC_len (cs : List Value) (n : Nat) : (rgC cs n).length = (CC_ cs n).length := rgs_len _ _
theorem dfC_len (cs : List Value) (n : Nat) : (dfC cs n).length = LD_ cs n - 1 := dfs_len _ _
theorem RI_eq (cs : List Value) (n : Nat) : RI_ cs n = lstV (rgC cs n) := lst_V _ _
theorem DI_eq (cs : List Value) (n : Nat) : DI_ cs n = lstV (dfC cs n) := lst_V _ _
theorem p43_sel (h : Fx cs n 0) (he : ex3 e) (u : VT) : (p43 cs n e u).sel = u.sel := by
  obtain ⟨k1, k2, k3⟩ := h.lok
  unfold p43 er43
  rw [vP_sel k1, vP_sel (okI2 _ _), ex3_rg he, vb_f (by rfl), vP_sel k3.1]
theorem pts_at (cs : List Value) : ∀ {k j : Nat} (h : j < (pts cs k).length), (pts cs k)[j] = (pA cs j, pB cs j)
  | 0, j, h => by exact absurd h (by rw [pts_len]; omega)
  | k + 1, j, h => by
    have e : pts cs (k + 1) = pts cs k ++ [(pA cs k, pB cs k)] := rfl
    by_cases hj : j < k
    · have h1 : j < (pts cs k).length := by rw [pts_len]; exact hj
      have : (pts cs (k + 1))[j]? = some (pA cs j, pB cs j) := by
        rw [e, List.getElem?_append_left h1, List.getElem?_eq_getElem h1, pts_at cs h1]
      rw [List.getElem?_eq_getElem h] at this
      exact Option.some.inj this
    · have hk : j = k := by rw [pts_len] at h; omega
      subst hk
      have : (pts cs (j + 1))[j]? = some (pA cs j, pB cs j) := by
        rw [e, List.getElem?_append_right (by rw [pts_len]; exact Nat.le_refl _), pts_len, Nat.sub_self]; rfl
      rw [List.getElem?_eq_getElem h] at this
      exact Option.some.inj this
theorem st_pB {j : Nat} (hj : j < LD_ cs n) : pB (DS_ cs n) j = pB (ST_ cs n) j := by
  unfold DS_
  rw [pB_fl (by rw [pts_len]; exact hj), pts_at]
theorem Fx.pB_bd (h : Fx cs n 0) {j : Nat} (hj : j < LD_ cs n) : -32768 ≤ pB (ST_ cs n) j ∧ pB (ST_ cs n) j ≤ 32768 := by
  have hl : (SS_ cs n).reverse.length = LD_ cs n := by rw [List.length_reverse]; rfl
  rw [← st_pB hj, h.st.2, pB_fl (by omega)]
  exact (h.at_lt (List.mem_reverse.1 (List.getElem_mem _))).2.2
theorem Fx.rg_bd (h : Fx cs n 0) : ∀ x ∈ rgC cs n, 0 ≤ x ∧ x ≤ 65536 := rgs_bd h.gc
theorem Fx.df_bd (h : Fx cs n 0) : ∀ x ∈ dfC cs n, 0 ≤ x ∧ x ≤ 65536 := dfs_bd fun j hj => h.pB_bd (by have := h.ld; omega)
theorem Fx.sz (h : Fx cs n 0) : 2 * (CC_ cs n).length + LD_ cs n ≤ 24 ∧ 1 ≤ LD_ cs n := by
  have := lens cs n
  have := h.rn
  have := h.n24
  have := h.ld
  omega
noncomputable def vT (cs : List Value) (n : Nat) (e : Int) : Int := sL e (rgC cs n) + sL e (rgC cs n) + sL e (dfs (ST_ cs n) (LD_ cs n - 1))
theorem Fx.p81 (h : Fx cs n 0) (z : Bool) (hz : if z = true then LD_ cs n = 1 else 2 ≤ LD_ cs n) : P81 z (ST_ cs n) (LD_ cs n) (CP_ cs n) := ⟨h.st.1, by have := h.sz; omega, hz⟩
theorem Fx.okC (h : Fx cs n 0) : okF (flatC (CC_ cs n)) (CC_ cs n).length (CC_ cs n).length ∧ (CC_ cs n).length < 1000000 := ⟨okF_flat _ h.lt.2.1, h.lt.2.1⟩
theorem en_sel {l : List Int} {N m : Nat} (hm : m = l.length) (h : ∀ x ∈ l, 0 ≤ x ∧ x ≤ 65536) (hl : l.length ≤ 1000) (hN : l.length ≤ N) (he : ex3 e) : (en_ e (lstV l) m N).sel = some (tp [i (sL e l), i 0]) := by
  subst hm
  unfold en_
  rw [vP_sel (V79_V h hl hN he), smP_V]; rfl
theorem three_bd {a b : List Int} (ha : ∀ x ∈ a, 0 ≤ x ∧ x ≤ 65536) (hb : ∀ x ∈ b, 0 ≤ x ∧ x ≤ 65536) : ∀ x ∈ a ++ b, 0 ≤ x ∧ x ≤ 65536 := fun x hx => by
  rcases List.mem_append.1 hx with hx | hx
  · exact ha x hx
  · exact hb x hx
end
end Go.Proofs.YteemponkignnhaaGreat.Ways
set_option maxRecDepth 10000
noncomputable section
namespace Go.Proofs.YteemponkignnhaaGreat.Ways
open Go Go.Ex Go.RowKit Go.Turn
section
variable {cs : List Value} {n t s : Nat} {ex : Bool} {e : Int}
theorem c1_V {R : List Int} {a N : Nat} (hR : R.length = a) : c1_ (lstV R) a ((N : Nat) : Int) = lstV R ++ (zI N).drop a := put_V (A := []) (B := R) (Z := zI N) rfl hR
theorem c2_V {R : List Int} {a N : Nat} (hR : R.length = a) : c2_ (lstV R) a ((N : Nat) : Int) = lstV (R ++ R) ++ ((zI N).drop a).drop a := by
  unfold c2_
  rw [c1_V hR]
  exact put_V (by omega) hR
theorem c3_V {R D : List Int} {a k N : Nat} (hR : R.length = a) (hD : D.length = k) (hN : N = a + a + k) : c3_ (lstV R) (lstV D) a k ((N : Nat) : Int) = lstV (R ++ R ++ D) := by
  unfold c3_
  rw [c2_V hR, put_V (A := R ++ R) (by rw [List.length_append, hR]; omega) hD, List.drop_drop, List.drop_drop, List.drop_of_length_le (by rw [zI_len]; omega), List.append_nil]
theorem room_0 {B : List Int} {Z : List Value} {N y : Nat} (hy : B.length = y) (hB : y ≠ 0) (hN : y ≤ N) (hZ : y ≤ Z.length) : roomB y y 0 N 1 0 (lstV B) Z = true := room_V (A := []) (B := B) (Z := Z) rfl hy hB (by omega) hZ
theorem put_0 {B : List Int} {Z : List Value} {y : Nat} (hy : B.length = y) : putR 1 0 y 0 (lstV B) Z = lstV B ++ Z.drop y := put_V (A := []) (B := B) (Z := Z) rfl hy
theorem vT_eq (cs : List Value) (n : Nat) (e : Int) : sL e (rgC cs n ++ rgC cs n ++ dfC cs n) = vT cs n e := by rw [sL_app, sL_app]; rfl
theorem sel_tf (h : Fx cs n 0) (he : ex3 e) (hC : CC_ cs n ≠ []) (hz : 2 ≤ LD_ cs n) : (o43 cs n t s ex e true false).vals.sel = some (tp [i (vT cs n e), i 0]) := by
  have hsz := h.sz
  have hCl : (CC_ cs n).length ≠ 0 := fun hh => hC (List.eq_nil_of_length_eq_zero hh)
  have hR := rgC_len cs n
  have hD := dfC_len cs n
  obtain ⟨_, _, _, e4⟩ := w_eq (a := (CC_ cs n).length) (k := LD_ cs n - 1) (by omega) (by omega)
  rw [v43tf, p43_sel h he, vP_sel (h.p59 true hC), vP_sel h.okC, vP_sel (h.p81 false hz), gr_sel (by omega) (by omega) (by omega), e4, RI_eq, DI_eq, c1_V hR, c2_V hR, c3_V hR hD rfl, Int.toNat_natCast, Nat.sub_zero,
    aV_sel (room_0 hR hCl (by omega) (by rw [zI_len]; omega)), aV_sel (room_V (A := rgC cs n) (B := rgC cs n) (by omega) hR hCl (by omega) (by rw [List.length_drop, zI_len]; omega)),
    aV_sel (room_V (A := rgC cs n ++ rgC cs n) (B := dfC cs n) (by rw [List.length_append, hR]; omega) hD (by omega) (by omega) (by rw [List.length_drop, List.length_drop, zI_len]; omega)),
    en_sel (by rw [List.length_append, List.length_append, hR, hD]; omega) (three_bd (three_bd h.rg_bd h.rg_bd) h.df_bd) (by rw [List.length_append, List.length_append, hR, hD]; omega) (by rw [List.length_append, List.length_append, hR, hD]; omega) he, vT_eq]
theorem sel_tt (h : Fx cs n 0) (he : ex3 e) (hC : CC_ cs n ≠ []) (hz : LD_ cs n = 1) : (o43 cs n t s ex e true true).vals.sel = some (tp [i (vT cs n e), i 0]) := by
  have hsz := h.sz
  have hCl : (CC_ cs n).length ≠ 0 := fun hh => hC (List.eq_nil_of_length_eq_zero hh)
  have hR := rgC_len cs n
  have hv : sL e (rgC cs n ++ rgC cs n) = vT cs n e := by
    unfold vT
    rw [sL_app, hz]
    show _ = _ + 0
    omega
  obtain ⟨_, _, _, e4⟩ := w_eq (a := (CC_ cs n).length) (k := 0) (by omega) (by omega)
  rw [v43tt, p43_sel h he, vP_sel (h.p59 true hC), vP_sel h.okC, vP_sel (h.p81 true hz), gr_sel (by omega) (by omega) (by omega), e4, RI_eq, c1_V hR, c2_V hR, Int.toNat_natCast, Nat.sub_zero,
    aV_sel (room_0 hR hCl (by omega) (by rw [zI_len]; omega)), aV_sel (room_V (A := rgC cs n) (B := rgC cs n) (by omega) hR hCl (by omega) (by rw [List.length_drop, zI_len]; omega)),
    aV_sel (decide_eq_true (by omega)), List.drop_drop, List.drop_of_length_le (by rw [zI_len]; omega), List.append_nil,
    en_sel (by rw [List.length_append, hR]; omega) (three_bd h.rg_bd h.rg_bd) (by rw [List.length_append, hR]; omega) (by rw [List.length_append, hR]; omega) he, hv]
theorem sel_ft (h : Fx cs n 0) (he : ex3 e) (hC : CC_ cs n = []) (hz : LD_ cs n = 1) : (o43 cs n t s ex e false true).vals.sel = some (tp [i (vT cs n e), i 0]) := by
  have hv : vT cs n e = 0 := by
    unfold vT rgC
    rw [hC, hz]; rfl
  rw [v43ft, p43_sel h he, vP_sel (h.p59 false hC), vP_sel (h.p81 true hz), hv]; rfl
theorem zz_nil {len cap size off2 cap2 : Nat} {ds cs : List Value} {K : Nat → List Value → VT} (h : len ≤ cap) : (zz_ 0 cap2 len cap size off2 ds cs K).sel = (K len cs).sel := by
  unfold zz_
  rw [vb_t (decide_eq_true rfl), vb_t (by rw [decide_eq_true rfl, decide_eq_true (Nat.zero_le _), decide_eq_true h]; rfl)]
theorem zz_some {n len cap size off2 cap2 : Nat} {ds cs : List Value} {K : Nat → List Value → VT} (h : n ≠ 0) (hr : roomB n cap2 len cap size off2 ds cs = true) : (zz_ n cap2 len cap size off2 ds cs K).sel = (K (len + n) (putR size len n off2 ds cs)).sel := by
  unfold zz_
  rw [vb_f (decide_eq_false h), vb_t hr]
theorem sel_ff (h : Fx cs n 0) (he : ex3 e) (hC : CC_ cs n = []) (hz : 2 ≤ LD_ cs n) : (o43 cs n t s ex e false false).vals.sel = some (tp [i (vT cs n e), i 0]) := by
  have hsz := h.sz
  have hD := dfC_len cs n
  have hv : sL e (dfC cs n) = vT cs n e := by
    unfold vT rgC
    rw [hC]
    show _ = 0 + 0 + _
    rw [Int.zero_add, Int.zero_add]; rfl
  obtain ⟨_, _, _, e4⟩ := w_eq (a := 0) (k := LD_ cs n - 1) (by omega) (by omega)
  rw [v43ff, p43_sel h he, vP_sel (h.p59 false hC), vP_sel (h.p81 false hz), grZ_sel (by omega) (by omega) (by omega), e4, DI_eq, Int.toNat_natCast, Nat.sub_zero, zz_nil (Nat.zero_le _), zz_nil (Nat.zero_le _),
    zz_some (by omega) (room_0 hD (by omega) (by omega) (by rw [zI_len]; omega)), put_0 hD, List.drop_of_length_le (by rw [zI_len]; omega), List.append_nil,
    en_sel (by rw [hD]; omega) h.df_bd (by rw [hD]; omega) (by rw [hD]; omega) he]
  show some (tp [i (sL e (dfC cs n)), i 0]) = _
  rw [hv]
end
noncomputable def sp43 : ESpec := fun al css => match al, css with
  | [.slice (some ⟨1, 0, none⟩) n c, .int .i64 e], [cs] => some (c = n ∧ Fx cs n 0 ∧ ex3 e, tp [i (vT cs n e), i 0])
  | _, _ => none
theorem c43 : ∀ al css os p v, sp43 al css = some (p, v) → p → Blks css os → (∀ cs ∈ css, cs.all Ex.flat = true) ∧ clean 6 v = true ∧ ∃ H', Sound Tryz.prog (gl + css.length) (.call 25 ⟨al⟩ (heapL (deads ++ os))) (.val v H') := by
  intro al css os p v hs hp hb
  unfold sp43 at hs
  split at hs
  case h_2 => cases hs
  rename_i n c e cs
  cases hs
  obtain ⟨t, s, ex, rfl⟩ := blks1 hb
  obtain ⟨rfl, h, he⟩ := hp
  refine ⟨by simpa using h.ok.1, rfl, ?_⟩
  have fin : ∀ f z, (o43 cs c t s ex e f z).vals.sel = some (tp [i (vT cs c e), i 0]) → ∃ H', Sound Tryz.prog (gl + [cs].length) (.call 25 ⟨[sl 1 0 c c, i e]⟩ (heapL (deads ++ [.cells cs t s ex]))) (.val (tp [i (vT cs c e), i 0]) H') := fun f z hs => by
    obtain ⟨H', h'⟩ := Out.vals_sel (x43 cs c t s ex e f z) hs
    refine ⟨H', execO_sound (C := C43 f z) ?_ ?_ 90 _ _ h'⟩
    · cases f <;> cases z <;> exact tsW_ _ _
    · cases f <;> cases z <;> exact .none
  have hsz := h.sz
  by_cases hC : CC_ cs c = []
  · by_cases hz : LD_ cs c = 1
    · exact fin false true (sel_ft h he hC hz)
    · exact fin false false (sel_ff h he hC (by omega))
  · by_cases hz : LD_ cs c = 1
    · exact fin true true (sel_tt h he hC hz)
    · exact fin true false (sel_tf h he hC (by omega))
end Go.Proofs.YteemponkignnhaaGreat.Ways
