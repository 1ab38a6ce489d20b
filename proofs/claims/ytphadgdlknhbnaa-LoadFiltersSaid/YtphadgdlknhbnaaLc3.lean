import Derived.Test.YtphadgdlknhbnaaLc2
import Derived.Test.YtphadgdlknhbnaaEngOrd5
set_option maxRecDepth 10000
noncomputable section
namespace Go.Proofs.Ytphadgdlknhbnaa.Ways
open Go Go.Ex Go.RowKit Go.Turn
def abQ (x : Int) : Int := maxQ x (wrapF .i64 (0 - x))
theorem p89 (x : Int) : Pure Try.prog Hd 89 [i x] (i (abQ x)) :=
  pure_run (C := ⟨noT, no_, off_, noL⟩) (G := 1) 30 (.leaf (i (abQ x))) .none .none (by decide) hd_len rfl (by kernel_rfl) (by kernel_rfl) rfl
def s89 : List Value → Option Value
  | [.int .i64 x] => some (i (abQ x))
  | _ => none
noncomputable def TU0 : Tb := ext noT 89 (pureE s89 [] Hd)
theorem tsU0 {G : Nat} : TSound Try.prog G TU0 := TSound.pure hd_vars .none fun args v h => by
  unfold s89 at h
  split at h
  · cases h; exact p89 _
  · cases h
noncomputable def CU0 : Cfg := ⟨TU0, at_ [(63, 11), (63, 45)] .bool no_, on_ [(63, 15), (63, 17), (63, 21), (63, 23), (63, 27), (63, 29), (63, 33), (63, 35)], noL⟩
def ltU : VT := .leaf (b_ true)
def lfU : VT := .leaf (b_ false)
def ad (x y : Int) : Int := abQ (wrapF .i64 (x - y))
section
variable (st : List Value) (t s l c : Nat) (ex : Bool)
noncomputable def o63 : Out QRes := execO Try.prog 2 CU0 40 (.call 63 ⟨[sl 1 0 l c]⟩ (heapL [.dead, .cells st t s ex]))
def t63 (w4 w3 w2 w1 : Int) : VT := .br (ltF l 4) lfU (aV (bnd_ w4 l c) <| aV (cB2 st w4) <| aV (bnd_ w3 l c) <| aV (cB2 st w3) <| aV (bnd_ w2 l c) <| aV (cB2 st w2) <| aV (bnd_ w1 l c) <| aV (cB2 st w1) <|
  .br (leF (ad (pB st w3.toNat) (pB st w2.toNat)) (ad (pB st w4.toNat) (pB st w3.toNat))) (.leaf (b_ (leF (ad (pB st w3.toNat) (pB st w2.toNat)) (ad (pB st w2.toNat) (pB st w1.toNat))))) lfU)
theorem v63 : (o63 st t s l c ex).vals = t63 st l c (wrapF .i64 (l - 4)) (wrapF .i64 (l - 3)) (wrapF .i64 (l - 2)) (wrapF .i64 (l - 1)) := by kernel_rfl
theorem x63 : o63 st t s l c ex = (o63 st t s l c ex).fix := by kernel_rfl
end
def clQ (st : List Value) (m : Nat) : Bool := leF (ad (pB st (m + 1)) (pB st (m + 2))) (ad (pB st m) (pB st (m + 1))) && leF (ad (pB st (m + 1)) (pB st (m + 2))) (ad (pB st (m + 2)) (pB st (m + 3)))
def clB (st : List Value) (l : Nat) : Bool := decide (4 ≤ l) && clQ st (l - 4)
theorem t63_sel {st : List Value} {l c : Nat} (h : okP st l c) (hl : l < 1000000) : (t63 st l c (wrapF .i64 (l - 4)) (wrapF .i64 (l - 3)) (wrapF .i64 (l - 2)) (wrapF .i64 (l - 1))).sel = some (b_ (clB st l)) := by
  have hc := h.2.1
  unfold t63 clB
  by_cases h4 : 4 ≤ l
  · obtain ⟨m, rfl⟩ : ∃ m, l = m + 4 := ⟨l - 4, by omega⟩
    have e4 : wrapF .i64 (((m + 4 : Nat) : Int) - 4) = ((m : Nat) : Int) := by rw [wrapF_in (by omega) (by omega)]; omega
    have e3 : wrapF .i64 (((m + 4 : Nat) : Int) - 3) = ((m + 1 : Nat) : Int) := by rw [wrapF_in (by omega) (by omega)]; omega
    have e2 : wrapF .i64 (((m + 4 : Nat) : Int) - 2) = ((m + 2 : Nat) : Int) := by rw [wrapF_in (by omega) (by omega)]; omega
    have e1 : wrapF .i64 (((m + 4 : Nat) : Int) - 1) = ((m + 3 : Nat) : Int) := by rw [wrapF_in (by omega) (by omega)]; omega
    rw [e4, e3, e2, e1, vb_f (by rw [ltF_eq]; exact decide_eq_false (by omega)), aV_sel (bnd_t (by omega) hc), aV_sel (cB2_t h (by omega)), aV_sel (bnd_t (by omega) hc), aV_sel (cB2_t h (by omega)), aV_sel (bnd_t (by omega) hc), aV_sel (cB2_t h (by omega)), aV_sel (bnd_t (by omega) hc), aV_sel (cB2_t h (by omega)), decide_eq_true h4, Bool.true_and, Nat.add_sub_cancel]
    unfold clQ
    show (VT.br (leF (ad (pB st (m + 1)) (pB st (m + 2))) (ad (pB st m) (pB st (m + 1)))) (.leaf (b_ (leF (ad (pB st (m + 1)) (pB st (m + 2))) (ad (pB st (m + 2)) (pB st (m + 3)))))) lfU).sel = _
    cases leF (ad (pB st (m + 1)) (pB st (m + 2))) (ad (pB st m) (pB st (m + 1))) <;> rfl
  · rw [vb_t (by rw [ltF_eq]; exact decide_eq_true (by omega)), decide_eq_false h4]; rfl
def sp63 : ESpec := fun al css => match al, css with
  | [.slice (some ⟨1, 0, none⟩) l c], [st] => some (BokE st l c, b_ (clB st l))
  | _, _ => none
theorem c63 : ∀ al css os p v, sp63 al css = some (p, v) → p → Blks css os → (∀ cs ∈ css, cs.all Ex.flat = true) ∧ clean 6 v = true ∧ ∃ H', Sound Try.prog (gl + css.length) (.call 63 ⟨al⟩ (heapL (deads ++ os))) (.val v H') := by
  intro al css os p v hs hp hb
  unfold sp63 at hs
  split at hs
  case h_2 => cases hs
  rename_i l c st
  cases hs
  obtain ⟨t, s, ex, rfl⟩ := blks1 hb
  refine ⟨by simpa using hp.1.1, rfl, ?_⟩
  obtain ⟨H', h'⟩ := Out.vals_sel (x63 st t s l c ex) (v := b_ (clB st l)) (by rw [v63]; exact t63_sel hp.1 hp.2)
  exact ⟨H', execO_sound (C := CU0) tsU0 .none 40 _ _ h'⟩
noncomputable def TU : Tb := ext TU0 63 (autoE sp63 [] (heapL deads))
theorem tsU {G : Nat} : TSound Try.prog G TU := tsU0.auto c63
theorem ad_eq (x y : Int) : ad x y = difQ x y := by
  unfold ad abQ difQ
  have : wrapF .i64 (0 - wrapF .i64 (x - y)) = wrapF .i64 (y - x) := by
    rw [wrapF_eq, wrapF_eq, wrapF_eq, IntKind.wrap_i64, IntKind.wrap_i64, IntKind.wrap_i64]; omega
  rw [this]
theorem leF_min (a b c : Int) : leF a (minQ b c) = (leF a b && leF a c) := by
  unfold minQ
  rw [leF_eq, leF_eq, leF_eq]
  by_cases h : c < b
  · rw [if_pos h]
    by_cases h1 : a ≤ c
    · rw [decide_eq_true h1, decide_eq_true (by omega)]; rfl
    · rw [decide_eq_false h1, Bool.and_false]
  · rw [if_neg h]
    by_cases h1 : a ≤ b
    · rw [decide_eq_true h1, decide_eq_true (by omega)]; rfl
    · rw [decide_eq_false h1, Bool.false_and]
def regC (id : Nat) : Nat → Code → Array Oper
  | 0, _ => #[]
  | k + 1, c => match c with
    | .region j o _ => cond (Nat.beq j id) o #[]
    | .seq a b => cond (Nat.beq (regC id k a).size 0) (regC id k b) (regC id k a)
    | .cond _ a b => cond (Nat.beq (regC id k a).size 0) (regC id k b) (regC id k a)
    | .block _ a => regC id k a
    | .loop a => regC id k a
    | .scope a => regC id k a
    | _ => #[]
noncomputable def OU6 : Array Oper := regC 6 60 (Try.f24.body.getD .skip)
noncomputable def OU9 : Array Oper := regC 9 60 (Try.f24.body.getD .skip)
noncomputable def OU11 : Array Oper := regC 11 60 (Try.f24.body.getD .skip)
theorem mixU : Try.prog.follows .mixedOrders = true := by kernel_rfl
def syU : Nat → Nat → Bool := on_ [(24, 18), (24, 200018), (24, 21), (24, 22), (24, 24), (24, 300024), (24, 32), (24, 33), (24, 37), (24, 38), (24, 56), (24, 300056), (24, 61), (24, 62), (24, 200062), (24, 66), (24, 67), (24, 69), (24, 300069)]
def syUz : Nat → Nat → Bool := on_ [(24, 21), (24, 22)]
noncomputable def CUz : Cfg := ⟨TU, no_, syUz, noL⟩
def w3 (l : Nat) : Int := wrapF .i64 ((l : Int) - 3)
def w2 (l : Nat) : Int := wrapF .i64 ((l : Int) - 2)
def w1 (l : Nat) : Int := wrapF .i64 ((l : Int) - 1)
def X6 (st : List Value) (k : Nat) : List Value := (st.drop 0).take (k * 2)
theorem x6_flat {st : List Value} {k : Nat} (h : st.all Ex.flat = true) : (X6 st k).all Ex.flat = true :=
  List.all_eq_true.2 fun x hx => List.all_eq_true.1 h x (List.mem_of_mem_drop (List.mem_of_mem_take hx))
def apN (k l : Nat) (st : List Value) : Bool := !decide (k = 0) && (decide (k ≤ l) && (decide (k ≤ 1048576) && decide (0 + k * 2 ≤ st.length)))
def slN (w : Int) (l : Nat) : Bool := leF 0 0 && (leF 0 w && leF w l)
noncomputable def CU : Cfg := ⟨TU, no_, syU, noL⟩
end Go.Proofs.Ytphadgdlknhbnaa.Ways
set_option maxRecDepth 10000
noncomputable section
namespace Go.Proofs.Ytphadgdlknhbnaa.Ways
open Go Go.Ex Go.RowKit Go.Turn
section
def hp6s (cs st : List Value) (_n _c _l : Nat) (_j : Int) (t s : Nat) (ex : Bool) : List (CO × Bool) := [(.dead, false), (.cells cs t s ex, true), (.cells st 70 2 false, true), (.dead, false)]
def s6s (cs st : List Value) (n c l : Nat) (j : Int) (t s : Nat) (ex : Bool) : SymS where
  live0 := [(0, sl 1 0 n c), (5, .slice none 0 0), (6, i j)]
  S := [(16, 0, sl 4 0 0 0), (17, 1, sl 2 0 l l), (18, 2, sl 5 0 l l), (19, 3, sl 1 0 n c), (20, 4, i j), (21, 5, pt 1 (0 + j.toNat * 2)), (22, 6, ag (el cs j)), (23, 7, sl 6 0 1 1), (24, 8, sl 7 0 (l + 1) (l + 1))]
  S2 := [(4, 9, sl 2 0 l l, sl 7 0 (l + 1) (l + 1))]
  hp0 := hp6s cs st n c l j t s ex
  A := [(0, .cells [] 70 2 true, 0, .cells [] 70 2 true), (2, .cells (X6 st l) 70 2 false, 8, .dead), (7, .cells (el cs j) 70 2 true, 7, .cells (el cs j) 70 2 true), (8, .cells (X6 st l ++ el cs j) 70 2 false, 8, .cells (X6 st l ++ el cs j) 70 2 false)]
def cd6s (cs st : List Value) (n c l : Nat) (j : Int) (k : Nat) : List Bool := match k with
  | 2 => [apN l l st]
  | 5 => [bnd_ j n c]
  | 6 => [cP cs j]
  | 8 => [full2 l (X6 st l)]
  | _ => []
end
def rho6s (k : Nat) : List Nat := match k with
  | 0 => (List.range 8).set 4 8
  | 2 => (List.range 8).set 5 8
  | 7 => (List.range 8).set 6 8
  | 8 => (List.range 8).set 7 8
  | _ => List.range 8
def len6s (k : Nat) : Nat := cond (Nat.beq k 0 || (Nat.beq k 2 || (Nat.beq k 7 || (Nat.beq k 8)))) 9 8
def ans6s (k : Nat) : List Bool := match k with
  | 2 => [true]
  | 5 => [true]
  | 6 => [true]
  | 8 => [true]
  | _ => []
section
theorem fix6s (cs st : List Value) (n c l : Nat) (j : Int) (t s : Nat) (ex : Bool) : ∀ B : List Bool, B.length = OU6.size → (List.range OU6.size).map (fun k => outV noW Try.prog 2 CU 24 OU6 72 (s6s cs st n c l j t s ex) (forceN OU6.size (pre2 OU6) k B) k) = (List.range OU6.size).map fun k => (outV noW Try.prog 2 CU 24 OU6 72 (s6s cs st n c l j t s ex) (forceN OU6.size (pre2 OU6) k B) k).fix
  | [x0, x1, x2, x3, x4, x5, x6, x7, x8, x9], _ => by kernel_rfl
theorem obs6s (cs st : List Value) (n c l : Nat) (j : Int) (t s : Nat) (ex : Bool) : ∀ B : List Bool, B.length = OU6.size → (List.range OU6.size).map (fun k => obsV noW Try.prog 2 CU 24 OU6 72 (s6s cs st n c l j t s ex) rho6s ans6s (forceN OU6.size (pre2 OU6) k B) k) = (List.range OU6.size).map fun k => expY 72 (s6s cs st n c l j t s ex) rho6s (cd6s cs st n c l j) len6s (forceN OU6.size (pre2 OU6) k B) k
  | [x0, x1, x2, x3, x4, x5, x6, x7, x8, x9], _ => by kernel_rfl
def ok6s (cs st : List Value) (n c l : Nat) (j : Int) : Bool := apN l l st && (bnd_ j n c && (cP cs j && (full2 l (X6 st l))))
end
section
variable {cs st : List Value} {n c l : Nat} {j : Int} {t s : Nat} {ex : Bool}
theorem hp6s_flat (f1 : cs.all Ex.flat = true) (f2 : st.all Ex.flat = true) : ∀ o, (o, true) ∈ hp6s cs st n c l j t s ex → FlatO o := by
  intro o ho
  simp [hp6s] at ho
  rcases ho with rfl | rfl
  · exact fun x hx => List.all_eq_true.1 f1 x hx
  · exact fun x hx => List.all_eq_true.1 f2 x hx
theorem cd6s_ok (h : ok6s cs st n c l j = true) : ∀ k, cd6s cs st n c l j k = (ans6s k).take (cd6s cs st n c l j k).length := by
  unfold ok6s at h
  rw [Bool.and_eq_true, Bool.and_eq_true, Bool.and_eq_true] at h
  obtain ⟨g2, g5, g6, g8⟩ := h
  intro k
  unfold cd6s ans6s
  split
  · rw [g2]; rfl
  · rw [g5]; rfl
  · rw [g6]; rfl
  · rw [g8]; rfl
  · rfl
theorem ord6s {kk : Nat} (hkk : kk = 4) (f1 : cs.all Ex.flat = true) (f2 : st.all Ex.flat = true) (h : ok6s cs st n c l j = true) : Orders (selfA (qS noW)) Try.prog 2 OU6 kk (fun m => m < 2 ^ OU6.size ∧ GoodY OU6 (bitsL OU6.size m)) (fun m => absT (tmL 72 ((s6s cs st n c l j t s ex).live (bitsL OU6.size m)))) (fun m => heapL ((s6s cs st n c l j t s ex).hp (bitsL OU6.size m))) (2 ^ OU6.size - 1) := by
  subst hkk
  exact sym_of2 (fix6s cs st n c l j t s ex) (obs6s cs st n c l j t s ex) (cd6s_ok h) (by kernel_rfl) (by kernel_rfl) (by kernel_rfl) (by kernel_rfl) (by kernel_rfl) (hp6s_flat (n := n) (c := c) (l := l) (j := j) (t := t) (s := s) (ex := ex) f1 f2)
    (fun q hq => by
      simp only [s6s, List.mem_cons, List.not_mem_nil, or_false] at hq
      rcases hq with rfl | rfl | rfl | rfl
      · exact ⟨fun x hx => List.all_eq_true.1 (by rfl) x hx, fun x hx => List.all_eq_true.1 (by rfl) x hx⟩
      · exact ⟨fun x hx => List.all_eq_true.1 (x6_flat f2) x hx, trivial⟩
      · exact ⟨fun x hx => List.all_eq_true.1 (by rfl) x hx, fun x hx => List.all_eq_true.1 (by rfl) x hx⟩
      · exact ⟨fun x hx => List.all_eq_true.1 (app_flat (x6_flat f2) rfl) x hx, fun x hx => List.all_eq_true.1 (app_flat (x6_flat f2) rfl) x hx⟩)
    (fun _ hq => absurd hq List.not_mem_nil) (by kernel_rfl)
end
section
def tm6s (cs st : List Value) (n c l : Nat) (j : Int) (t s : Nat) (ex : Bool) : TM := tmL 72 ((s6s cs st n c l j t s ex).live (List.replicate 10 true))
def h6s (cs st : List Value) (n c l : Nat) (j : Int) (t s : Nat) (ex : Bool) : CH := heapL ((s6s cs st n c l j t s ex).hp (List.replicate 10 true))
theorem end6s : bitsL OU6.size (2 ^ OU6.size - 1) = List.replicate 10 true := by kernel_rfl
theorem pad6s (cs st : List Value) (n c l : Nat) (j : Int) (t s : Nat) (ex : Bool) : heapL ((s6s cs st n c l j t s ex).hp (bitsL OU6.size 0)) = heapL ((s6s cs st n c l j t s ex).hp0.map (·.1) ++ List.replicate 4 .dead) := by kernel_rfl
def in6s (_cs _st : List Value) (n c l : Nat) (j : Int) (_t _s : Nat) (_ex : Bool) : List (Nat × Value) := [(0, sl 1 0 n c), (5, .slice none 0 0), (6, i j), (4, sl 2 0 l l)]
theorem zero6s (cs st : List Value) (n c l : Nat) (j : Int) (t s : Nat) (ex : Bool) : tmL 72 ((s6s cs st n c l j t s ex).live (bitsL OU6.size 0)) = tmL 72 (in6s cs st n c l j t s ex) := by kernel_rfl
variable {cs st : List Value} {n c l : Nat} {j : Int} {t s : Nat} {ex : Bool}
theorem snd6s (f1 : cs.all Ex.flat = true) (f2 : st.all Ex.flat = true) (h : ok6s cs st n c l j = true) (ro : Option Nat) {tm0 : Array Value} {H0 : CH} (hk : H0.length = 4) (hst : Restate 4 tm0 H0 (absT (tmL 72 (in6s cs st n c l j t s ex))) (heapL ((s6s cs st n c l j t s ex).hp0.map (·.1)))) :
    Sound Try.prog 2 (.code (.region 6 OU6 true) ro tm0 H0 []) (.ex .normal (absT (tm6s cs st n c l j t s ex)) (h6s cs st n c l j t s ex) []) := by
  have ho := ord6s (t := t) (s := s) (ex := ex) hk f1 f2 h
  have hp := pad6s cs st n c l j t s ex
  have hz := zero6s cs st n c l j t s ex
  have h0 := goodY_zero OU6
  unfold tm6s h6s
  rw [← end6s]
  rw [← hz] at hst
  generalize s6s cs st n c l j t s ex = s at *
  rw [← hk] at hst
  exact orders_sound2 (tmS := fun m => absT (tmL 72 (s.live (bitsL OU6.size m)))) (HS := fun m => heapL (s.hp (bitsL OU6.size m))) (mF := 2 ^ OU6.size - 1) (qS_selfSound noW_sound) mixU ho (by rw [hk]; decide) h0 hp hst ro
end
section
noncomputable def L6s (cs st : List Value) (n c l : Nat) (j : Int) (t s : Nat) (ex : Bool) (L : LTab) : LTab := regE L 24 6 72 4 OU6 (in6s cs st n c l j t s ex) (s6s cs st n c l j t s ex).hp0 (.br (ok6s cs st n c l j) (.leaf (.ex .normal (tm6s cs st n c l j t s ex) (h6s cs st n c l j t s ex) [])) .fail)
variable {cs st : List Value} {n c l : Nat} {j : Int} {t s : Nat} {ex : Bool}
theorem ls6s {L : LTab} (hL : LSound Try.prog 2 L) (f1 : cs.all Ex.flat = true) (f2 : st.all Ex.flat = true) : LSound Try.prog 2 (L6s cs st n c l j t s ex L) := by
  refine LSound.region hL (by kernel_rfl) (hp6s_flat (n := n) (c := c) (l := l) (j := j) (t := t) (s := s) (ex := ex) f1 f2) fun r hr ro tm0 H0 hk hst => ?_
  cases h : ok6s cs st n c l j with
  | false => rw [h] at hr; cases hr
  | true =>
    rw [h] at hr
    cases hr
    exact snd6s (n := n) (c := c) (l := l) (j := j) (t := t) (s := s) (ex := ex) f1 f2 h ro hk hst
end
end Go.Proofs.Ytphadgdlknhbnaa.Ways
set_option maxRecDepth 10000
noncomputable section
namespace Go.Proofs.Ytphadgdlknhbnaa.Ways
open Go Go.Ex Go.RowKit Go.Turn
section
def hp6b (cs st cy : List Value) (_n _c _l _lc : Nat) (_j : Int) (t s : Nat) (ex : Bool) : List (CO × Bool) := [(.dead, false), (.cells cs t s ex, true), (.cells st 70 2 false, true), (.cells cy 69 4 false, true)]
def s6b (cs st cy : List Value) (n c l lc : Nat) (j : Int) (t s : Nat) (ex : Bool) : SymS where
  live0 := [(0, sl 1 0 n c), (5, sl 3 0 lc lc), (6, i j)]
  S := [(16, 0, sl 4 0 0 0), (17, 1, sl 2 0 l l), (18, 2, sl 5 0 l l), (19, 3, sl 1 0 n c), (20, 4, i j), (21, 5, pt 1 (0 + j.toNat * 2)), (22, 6, ag (el cs j)), (23, 7, sl 6 0 1 1), (24, 8, sl 7 0 (l + 1) (l + 1))]
  S2 := [(4, 9, sl 2 0 l l, sl 7 0 (l + 1) (l + 1))]
  hp0 := hp6b cs st cy n c l lc j t s ex
  A := [(0, .cells [] 70 2 true, 0, .cells [] 70 2 true), (2, .cells (X6 st l) 70 2 false, 8, .dead), (7, .cells (el cs j) 70 2 true, 7, .cells (el cs j) 70 2 true), (8, .cells (X6 st l ++ el cs j) 70 2 false, 8, .cells (X6 st l ++ el cs j) 70 2 false)]
def cd6b (cs st : List Value) (n c l : Nat) (j : Int) (k : Nat) : List Bool := match k with
  | 2 => [apN l l st]
  | 5 => [bnd_ j n c]
  | 6 => [cP cs j]
  | 8 => [full2 l (X6 st l)]
  | _ => []
end
def rho6b (k : Nat) : List Nat := match k with
  | 0 => (List.range 8).set 4 8
  | 2 => (List.range 8).set 5 8
  | 7 => (List.range 8).set 6 8
  | 8 => (List.range 8).set 7 8
  | _ => List.range 8
def len6b (k : Nat) : Nat := cond (Nat.beq k 0 || (Nat.beq k 2 || (Nat.beq k 7 || (Nat.beq k 8)))) 9 8
def ans6b (k : Nat) : List Bool := match k with
  | 2 => [true]
  | 5 => [true]
  | 6 => [true]
  | 8 => [true]
  | _ => []
section
theorem fix6b (cs st cy : List Value) (n c l lc : Nat) (j : Int) (t s : Nat) (ex : Bool) : ∀ B : List Bool, B.length = OU6.size → (List.range OU6.size).map (fun k => outV noW Try.prog 2 CU 24 OU6 72 (s6b cs st cy n c l lc j t s ex) (forceN OU6.size (pre2 OU6) k B) k) = (List.range OU6.size).map fun k => (outV noW Try.prog 2 CU 24 OU6 72 (s6b cs st cy n c l lc j t s ex) (forceN OU6.size (pre2 OU6) k B) k).fix
  | [x0, x1, x2, x3, x4, x5, x6, x7, x8, x9], _ => by kernel_rfl
theorem obs6b (cs st cy : List Value) (n c l lc : Nat) (j : Int) (t s : Nat) (ex : Bool) : ∀ B : List Bool, B.length = OU6.size → (List.range OU6.size).map (fun k => obsV noW Try.prog 2 CU 24 OU6 72 (s6b cs st cy n c l lc j t s ex) rho6b ans6b (forceN OU6.size (pre2 OU6) k B) k) = (List.range OU6.size).map fun k => expY 72 (s6b cs st cy n c l lc j t s ex) rho6b (cd6b cs st n c l j) len6b (forceN OU6.size (pre2 OU6) k B) k
  | [x0, x1, x2, x3, x4, x5, x6, x7, x8, x9], _ => by kernel_rfl
def ok6b (cs st : List Value) (n c l : Nat) (j : Int) : Bool := apN l l st && (bnd_ j n c && (cP cs j && (full2 l (X6 st l))))
end
section
variable {cs st cy : List Value} {n c l lc : Nat} {j : Int} {t s : Nat} {ex : Bool}
theorem hp6b_flat (f1 : cs.all Ex.flat = true) (f2 : st.all Ex.flat = true) (f3 : cy.all Ex.flat = true) : ∀ o, (o, true) ∈ hp6b cs st cy n c l lc j t s ex → FlatO o := by
  intro o ho
  simp [hp6b] at ho
  rcases ho with rfl | rfl | rfl
  · exact fun x hx => List.all_eq_true.1 f1 x hx
  · exact fun x hx => List.all_eq_true.1 f2 x hx
  · exact fun x hx => List.all_eq_true.1 f3 x hx
theorem cd6b_ok (h : ok6b cs st n c l j = true) : ∀ k, cd6b cs st n c l j k = (ans6b k).take (cd6b cs st n c l j k).length := by
  unfold ok6b at h
  rw [Bool.and_eq_true, Bool.and_eq_true, Bool.and_eq_true] at h
  obtain ⟨g2, g5, g6, g8⟩ := h
  intro k
  unfold cd6b ans6b
  split
  · rw [g2]; rfl
  · rw [g5]; rfl
  · rw [g6]; rfl
  · rw [g8]; rfl
  · rfl
theorem ord6b {kk : Nat} (hkk : kk = 4) (f1 : cs.all Ex.flat = true) (f2 : st.all Ex.flat = true) (f3 : cy.all Ex.flat = true) (h : ok6b cs st n c l j = true) : Orders (selfA (qS noW)) Try.prog 2 OU6 kk (fun m => m < 2 ^ OU6.size ∧ GoodY OU6 (bitsL OU6.size m)) (fun m => absT (tmL 72 ((s6b cs st cy n c l lc j t s ex).live (bitsL OU6.size m)))) (fun m => heapL ((s6b cs st cy n c l lc j t s ex).hp (bitsL OU6.size m))) (2 ^ OU6.size - 1) := by
  subst hkk
  exact sym_of2 (fix6b cs st cy n c l lc j t s ex) (obs6b cs st cy n c l lc j t s ex) (cd6b_ok h) (by kernel_rfl) (by kernel_rfl) (by kernel_rfl) (by kernel_rfl) (by kernel_rfl) (hp6b_flat (n := n) (c := c) (l := l) (lc := lc) (j := j) (t := t) (s := s) (ex := ex) f1 f2 f3)
    (fun q hq => by
      simp only [s6b, List.mem_cons, List.not_mem_nil, or_false] at hq
      rcases hq with rfl | rfl | rfl | rfl
      · exact ⟨fun x hx => List.all_eq_true.1 (by rfl) x hx, fun x hx => List.all_eq_true.1 (by rfl) x hx⟩
      · exact ⟨fun x hx => List.all_eq_true.1 (x6_flat f2) x hx, trivial⟩
      · exact ⟨fun x hx => List.all_eq_true.1 (by rfl) x hx, fun x hx => List.all_eq_true.1 (by rfl) x hx⟩
      · exact ⟨fun x hx => List.all_eq_true.1 (app_flat (x6_flat f2) rfl) x hx, fun x hx => List.all_eq_true.1 (app_flat (x6_flat f2) rfl) x hx⟩)
    (fun _ hq => absurd hq List.not_mem_nil) (by kernel_rfl)
end
section
def tm6b (cs st cy : List Value) (n c l lc : Nat) (j : Int) (t s : Nat) (ex : Bool) : TM := tmL 72 ((s6b cs st cy n c l lc j t s ex).live (List.replicate 10 true))
def h6b (cs st cy : List Value) (n c l lc : Nat) (j : Int) (t s : Nat) (ex : Bool) : CH := heapL ((s6b cs st cy n c l lc j t s ex).hp (List.replicate 10 true))
theorem end6b : bitsL OU6.size (2 ^ OU6.size - 1) = List.replicate 10 true := by kernel_rfl
theorem pad6b (cs st cy : List Value) (n c l lc : Nat) (j : Int) (t s : Nat) (ex : Bool) : heapL ((s6b cs st cy n c l lc j t s ex).hp (bitsL OU6.size 0)) = heapL ((s6b cs st cy n c l lc j t s ex).hp0.map (·.1) ++ List.replicate 4 .dead) := by kernel_rfl
def in6b (_cs _st _cy : List Value) (n c l lc : Nat) (j : Int) (_t _s : Nat) (_ex : Bool) : List (Nat × Value) := [(0, sl 1 0 n c), (5, sl 3 0 lc lc), (6, i j), (4, sl 2 0 l l)]
theorem zero6b (cs st cy : List Value) (n c l lc : Nat) (j : Int) (t s : Nat) (ex : Bool) : tmL 72 ((s6b cs st cy n c l lc j t s ex).live (bitsL OU6.size 0)) = tmL 72 (in6b cs st cy n c l lc j t s ex) := by kernel_rfl
variable {cs st cy : List Value} {n c l lc : Nat} {j : Int} {t s : Nat} {ex : Bool}
theorem snd6b (f1 : cs.all Ex.flat = true) (f2 : st.all Ex.flat = true) (f3 : cy.all Ex.flat = true) (h : ok6b cs st n c l j = true) (ro : Option Nat) {tm0 : Array Value} {H0 : CH} (hk : H0.length = 4) (hst : Restate 4 tm0 H0 (absT (tmL 72 (in6b cs st cy n c l lc j t s ex))) (heapL ((s6b cs st cy n c l lc j t s ex).hp0.map (·.1)))) :
    Sound Try.prog 2 (.code (.region 6 OU6 true) ro tm0 H0 []) (.ex .normal (absT (tm6b cs st cy n c l lc j t s ex)) (h6b cs st cy n c l lc j t s ex) []) := by
  have ho := ord6b (lc := lc) (t := t) (s := s) (ex := ex) hk f1 f2 f3 h
  have hp := pad6b cs st cy n c l lc j t s ex
  have hz := zero6b cs st cy n c l lc j t s ex
  have h0 := goodY_zero OU6
  unfold tm6b h6b
  rw [← end6b]
  rw [← hz] at hst
  generalize s6b cs st cy n c l lc j t s ex = s at *
  rw [← hk] at hst
  exact orders_sound2 (tmS := fun m => absT (tmL 72 (s.live (bitsL OU6.size m)))) (HS := fun m => heapL (s.hp (bitsL OU6.size m))) (mF := 2 ^ OU6.size - 1) (qS_selfSound noW_sound) mixU ho (by rw [hk]; decide) h0 hp hst ro
end
section
noncomputable def L6b (cs st cy : List Value) (n c l lc : Nat) (j : Int) (t s : Nat) (ex : Bool) (L : LTab) : LTab := regE L 24 6 72 4 OU6 (in6b cs st cy n c l lc j t s ex) (s6b cs st cy n c l lc j t s ex).hp0 (.br (ok6b cs st n c l j) (.leaf (.ex .normal (tm6b cs st cy n c l lc j t s ex) (h6b cs st cy n c l lc j t s ex) [])) .fail)
variable {cs st cy : List Value} {n c l lc : Nat} {j : Int} {t s : Nat} {ex : Bool}
theorem ls6b {L : LTab} (hL : LSound Try.prog 2 L) (f1 : cs.all Ex.flat = true) (f2 : st.all Ex.flat = true) (f3 : cy.all Ex.flat = true) : LSound Try.prog 2 (L6b cs st cy n c l lc j t s ex L) := by
  refine LSound.region hL (by kernel_rfl) (hp6b_flat (n := n) (c := c) (l := l) (lc := lc) (j := j) (t := t) (s := s) (ex := ex) f1 f2 f3) fun r hr ro tm0 H0 hk hst => ?_
  cases h : ok6b cs st n c l j with
  | false => rw [h] at hr; cases hr
  | true =>
    rw [h] at hr
    cases hr
    exact snd6b (n := n) (c := c) (l := l) (lc := lc) (j := j) (t := t) (s := s) (ex := ex) f1 f2 f3 h ro hk hst
end
end Go.Proofs.Ytphadgdlknhbnaa.Ways
set_option maxRecDepth 10000
noncomputable section
namespace Go.Proofs.Ytphadgdlknhbnaa.Ways
open Go Go.Ex Go.RowKit Go.Turn
section
def hp6z (cs : List Value) (_n _c : Nat) (t s : Nat) (ex : Bool) : List (CO × Bool) := [(.dead, false), (.cells cs t s ex, true)]
def s6z (cs : List Value) (n c : Nat) (t s : Nat) (ex : Bool) : SymS where
  live0 := [(0, sl 1 0 n c), (5, .slice none 0 0), (6, i 0)]
  S := [(16, 0, sl 2 0 0 0), (17, 1, .slice none 0 0), (18, 2, sl 2 0 0 0), (19, 3, sl 1 0 n c), (20, 4, i 0), (21, 5, pt 1 0), (22, 6, ag (el cs 0)), (23, 7, sl 3 0 1 1), (24, 8, sl 4 0 1 1)]
  S2 := [(4, 9, .slice none 0 0, sl 4 0 1 1)]
  hp0 := hp6z cs n c t s ex
  A := [(0, .cells [] 70 2 true, 0, .cells [] 70 2 true), (7, .cells (el cs 0) 70 2 true, 7, .cells (el cs 0) 70 2 true), (8, .cells (el cs 0) 70 2 false, 8, .cells (el cs 0) 70 2 false)]
def cd6z (cs : List Value) (n c : Nat) (k : Nat) : List Bool := match k with
  | 5 => [bnd_ 0 n c]
  | 6 => [cP cs 0]
  | _ => []
end
def rho6z (k : Nat) : List Nat := match k with
  | 0 => (List.range 5).set 2 5
  | 7 => (List.range 5).set 3 5
  | 8 => (List.range 5).set 4 5
  | _ => List.range 5
def len6z (k : Nat) : Nat := cond (Nat.beq k 0 || (Nat.beq k 7 || (Nat.beq k 8))) 6 5
def ans6z (k : Nat) : List Bool := match k with
  | 5 => [true]
  | 6 => [true]
  | _ => []
section
theorem fix6z (cs : List Value) (n c : Nat) (t s : Nat) (ex : Bool) : ∀ B : List Bool, B.length = OU6.size → (List.range OU6.size).map (fun k => outV noW Try.prog 2 CUz 24 OU6 72 (s6z cs n c t s ex) (forceN OU6.size (pre2 OU6) k B) k) = (List.range OU6.size).map fun k => (outV noW Try.prog 2 CUz 24 OU6 72 (s6z cs n c t s ex) (forceN OU6.size (pre2 OU6) k B) k).fix
  | [x0, x1, x2, x3, x4, x5, x6, x7, x8, x9], _ => by kernel_rfl
theorem obs6z (cs : List Value) (n c : Nat) (t s : Nat) (ex : Bool) : ∀ B : List Bool, B.length = OU6.size → (List.range OU6.size).map (fun k => obsV noW Try.prog 2 CUz 24 OU6 72 (s6z cs n c t s ex) rho6z ans6z (forceN OU6.size (pre2 OU6) k B) k) = (List.range OU6.size).map fun k => expY 72 (s6z cs n c t s ex) rho6z (cd6z cs n c) len6z (forceN OU6.size (pre2 OU6) k B) k
  | [x0, x1, x2, x3, x4, x5, x6, x7, x8, x9], _ => by kernel_rfl
def ok6z (cs : List Value) (n c : Nat) : Bool := bnd_ 0 n c && (cP cs 0)
end
section
variable {cs : List Value} {n c : Nat} {t s : Nat} {ex : Bool}
theorem hp6z_flat (f1 : cs.all Ex.flat = true) : ∀ o, (o, true) ∈ hp6z cs n c t s ex → FlatO o := by
  intro o ho
  simp [hp6z] at ho
  rcases ho with rfl
  · exact fun x hx => List.all_eq_true.1 f1 x hx
theorem cd6z_ok (h : ok6z cs n c = true) : ∀ k, cd6z cs n c k = (ans6z k).take (cd6z cs n c k).length := by
  unfold ok6z at h
  rw [Bool.and_eq_true] at h
  obtain ⟨g5, g6⟩ := h
  intro k
  unfold cd6z ans6z
  split
  · rw [g5]; rfl
  · rw [g6]; rfl
  · rfl
theorem ord6z {kk : Nat} (hkk : kk = 2) (f1 : cs.all Ex.flat = true) (h : ok6z cs n c = true) : Orders (selfA (qS noW)) Try.prog 2 OU6 kk (fun m => m < 2 ^ OU6.size ∧ GoodY OU6 (bitsL OU6.size m)) (fun m => absT (tmL 72 ((s6z cs n c t s ex).live (bitsL OU6.size m)))) (fun m => heapL ((s6z cs n c t s ex).hp (bitsL OU6.size m))) (2 ^ OU6.size - 1) := by
  subst hkk
  exact sym_of2 (fix6z cs n c t s ex) (obs6z cs n c t s ex) (cd6z_ok h) (by kernel_rfl) (by kernel_rfl) (by kernel_rfl) (by kernel_rfl) (by kernel_rfl) (hp6z_flat (n := n) (c := c) (t := t) (s := s) (ex := ex) f1)
    (fun q hq => by
      simp only [s6z, List.mem_cons, List.not_mem_nil, or_false] at hq
      rcases hq with rfl | rfl | rfl
      · exact ⟨fun x hx => List.all_eq_true.1 (by rfl) x hx, fun x hx => List.all_eq_true.1 (by rfl) x hx⟩
      · exact ⟨fun x hx => List.all_eq_true.1 (by rfl) x hx, fun x hx => List.all_eq_true.1 (by rfl) x hx⟩
      · exact ⟨fun x hx => List.all_eq_true.1 (by rfl) x hx, fun x hx => List.all_eq_true.1 (by rfl) x hx⟩)
    (fun _ hq => absurd hq List.not_mem_nil) (by kernel_rfl)
end
section
def tm6z (cs : List Value) (n c : Nat) (t s : Nat) (ex : Bool) : TM := tmL 72 ((s6z cs n c t s ex).live (List.replicate 10 true))
def h6z (cs : List Value) (n c : Nat) (t s : Nat) (ex : Bool) : CH := heapL ((s6z cs n c t s ex).hp (List.replicate 10 true))
theorem end6z : bitsL OU6.size (2 ^ OU6.size - 1) = List.replicate 10 true := by kernel_rfl
theorem pad6z (cs : List Value) (n c : Nat) (t s : Nat) (ex : Bool) : heapL ((s6z cs n c t s ex).hp (bitsL OU6.size 0)) = heapL ((s6z cs n c t s ex).hp0.map (·.1) ++ List.replicate 3 .dead) := by kernel_rfl
def in6z (_cs : List Value) (n c : Nat) (_t _s : Nat) (_ex : Bool) : List (Nat × Value) := [(0, sl 1 0 n c), (5, .slice none 0 0), (6, i 0), (4, .slice none 0 0)]
theorem zero6z (cs : List Value) (n c : Nat) (t s : Nat) (ex : Bool) : tmL 72 ((s6z cs n c t s ex).live (bitsL OU6.size 0)) = tmL 72 (in6z cs n c t s ex) := by kernel_rfl
variable {cs : List Value} {n c : Nat} {t s : Nat} {ex : Bool}
theorem snd6z (f1 : cs.all Ex.flat = true) (h : ok6z cs n c = true) (ro : Option Nat) {tm0 : Array Value} {H0 : CH} (hk : H0.length = 2) (hst : Restate 2 tm0 H0 (absT (tmL 72 (in6z cs n c t s ex))) (heapL ((s6z cs n c t s ex).hp0.map (·.1)))) :
    Sound Try.prog 2 (.code (.region 6 OU6 true) ro tm0 H0 []) (.ex .normal (absT (tm6z cs n c t s ex)) (h6z cs n c t s ex) []) := by
  have ho := ord6z (t := t) (s := s) (ex := ex) hk f1 h
  have hp := pad6z cs n c t s ex
  have hz := zero6z cs n c t s ex
  have h0 := goodY_zero OU6
  unfold tm6z h6z
  rw [← end6z]
  rw [← hz] at hst
  generalize s6z cs n c t s ex = s at *
  rw [← hk] at hst
  exact orders_sound2 (tmS := fun m => absT (tmL 72 (s.live (bitsL OU6.size m)))) (HS := fun m => heapL (s.hp (bitsL OU6.size m))) (mF := 2 ^ OU6.size - 1) (qS_selfSound noW_sound) mixU ho (by rw [hk]; decide) h0 hp hst ro
end
section
noncomputable def L6z (cs : List Value) (n c : Nat) (t s : Nat) (ex : Bool) (L : LTab) : LTab := regE L 24 6 72 2 OU6 (in6z cs n c t s ex) (s6z cs n c t s ex).hp0 (.br (ok6z cs n c) (.leaf (.ex .normal (tm6z cs n c t s ex) (h6z cs n c t s ex) [])) .fail)
variable {cs : List Value} {n c : Nat} {t s : Nat} {ex : Bool}
theorem ls6z {L : LTab} (hL : LSound Try.prog 2 L) (f1 : cs.all Ex.flat = true) : LSound Try.prog 2 (L6z cs n c t s ex L) := by
  refine LSound.region hL (by kernel_rfl) (hp6z_flat (n := n) (c := c) (t := t) (s := s) (ex := ex) f1) fun r hr ro tm0 H0 hk hst => ?_
  cases h : ok6z cs n c with
  | false => rw [h] at hr; cases hr
  | true =>
    rw [h] at hr
    cases hr
    exact snd6z (n := n) (c := c) (t := t) (s := s) (ex := ex) f1 h ro hk hst
end
end Go.Proofs.Ytphadgdlknhbnaa.Ways
set_option maxRecDepth 10000
noncomputable section
namespace Go.Proofs.Ytphadgdlknhbnaa.Ways
open Go Go.Ex Go.RowKit Go.Turn
section
def hp9e (cs st : List Value) (_n _c _l : Nat) (_j : Int) (t s : Nat) (ex : Bool) : List (CO × Bool) := [(.dead, false), (.cells cs t s ex, true), (.dead, false), (.dead, false), (.dead, false), (.dead, false), (.dead, false), (.cells st 70 2 false, true)]
def s9e (cs st : List Value) (n c l : Nat) (j : Int) (t s : Nat) (ex : Bool) : SymS where
  live0 := [(0, sl 1 0 n c), (4, sl 7 0 l l), (5, .slice none 0 0), (6, i j), (7, i l)]
  S := [(29, 0, sl 7 0 l l), (30, 1, i l), (31, 2, i (w3 l)), (32, 3, pt 7 (0 + (w3 l).toNat * 2)), (33, 4, ag (el st (w3 l))), (34, 5, sl 7 0 l l), (35, 6, i l), (36, 7, i (w2 l)), (37, 8, pt 7 (0 + (w2 l).toNat * 2)), (38, 9, ag (el st (w2 l))), (8, 10, pt 8 0), (9, 11, pt 9 0)]
  S2 := []
  hp0 := hp9e cs st n c l j t s ex
  A := [(10, .cells [i 0, i 0] 70 1 true, 12, .cells (el st (w3 l)) 70 1 true), (11, .cells [i 0, i 0] 70 1 true, 13, .cells (el st (w2 l)) 70 1 true)]
def cd9e (st : List Value) (l : Nat) (k : Nat) : List Bool := match k with
  | 3 => [bnd_ (w3 l) l l]
  | 4 => [cP st (w3 l)]
  | 8 => [bnd_ (w2 l) l l]
  | 9 => [cP st (w2 l)]
  | _ => []
end
def rho9e (k : Nat) : List Nat := match k with
  | 10 => (List.range 10).set 8 10
  | 11 => (List.range 10).set 9 10
  | _ => List.range 10
def len9e (k : Nat) : Nat := cond (Nat.beq k 10 || (Nat.beq k 11)) 11 10
def ans9e (k : Nat) : List Bool := match k with
  | 3 => [true]
  | 4 => [true]
  | 8 => [true]
  | 9 => [true]
  | _ => []
section
theorem fix9e (cs st : List Value) (n c l : Nat) (j : Int) (t s : Nat) (ex : Bool) : ∀ B : List Bool, B.length = OU9.size → (List.range OU9.size).map (fun k => outV noW Try.prog 2 CU 24 OU9 72 (s9e cs st n c l j t s ex) (forceN OU9.size (pre2 OU9) k B) k) = (List.range OU9.size).map fun k => (outV noW Try.prog 2 CU 24 OU9 72 (s9e cs st n c l j t s ex) (forceN OU9.size (pre2 OU9) k B) k).fix
  | [x0, x1, x2, x3, x4, x5, x6, x7, x8, x9, x10, x11, x12, x13], _ => by kernel_rfl
theorem obs9e (cs st : List Value) (n c l : Nat) (j : Int) (t s : Nat) (ex : Bool) : ∀ B : List Bool, B.length = OU9.size → (List.range OU9.size).map (fun k => obsV noW Try.prog 2 CU 24 OU9 72 (s9e cs st n c l j t s ex) rho9e ans9e (forceN OU9.size (pre2 OU9) k B) k) = (List.range OU9.size).map fun k => expY 72 (s9e cs st n c l j t s ex) rho9e (cd9e st l) len9e (forceN OU9.size (pre2 OU9) k B) k
  | [x0, x1, x2, x3, x4, x5, x6, x7, x8, x9, x10, x11, x12, x13], _ => by kernel_rfl
def ok9e (st : List Value) (l : Nat) : Bool := bnd_ (w3 l) l l && (cP st (w3 l) && (bnd_ (w2 l) l l && (cP st (w2 l))))
end
section
variable {cs st : List Value} {n c l : Nat} {j : Int} {t s : Nat} {ex : Bool}
theorem hp9e_flat (f1 : cs.all Ex.flat = true) (f2 : st.all Ex.flat = true) : ∀ o, (o, true) ∈ hp9e cs st n c l j t s ex → FlatO o := by
  intro o ho
  simp [hp9e] at ho
  rcases ho with rfl | rfl
  · exact fun x hx => List.all_eq_true.1 f1 x hx
  · exact fun x hx => List.all_eq_true.1 f2 x hx
theorem cd9e_ok (h : ok9e st l = true) : ∀ k, cd9e st l k = (ans9e k).take (cd9e st l k).length := by
  unfold ok9e at h
  rw [Bool.and_eq_true, Bool.and_eq_true, Bool.and_eq_true] at h
  obtain ⟨g3, g4, g8, g9⟩ := h
  intro k
  unfold cd9e ans9e
  split
  · rw [g3]; rfl
  · rw [g4]; rfl
  · rw [g8]; rfl
  · rw [g9]; rfl
  · rfl
theorem ord9e {kk : Nat} (hkk : kk = 8) (f1 : cs.all Ex.flat = true) (f2 : st.all Ex.flat = true) (h : ok9e st l = true) : Orders (selfA (qS noW)) Try.prog 2 OU9 kk (fun m => m < 2 ^ OU9.size ∧ GoodY OU9 (bitsL OU9.size m)) (fun m => absT (tmL 72 ((s9e cs st n c l j t s ex).live (bitsL OU9.size m)))) (fun m => heapL ((s9e cs st n c l j t s ex).hp (bitsL OU9.size m))) (2 ^ OU9.size - 1) := by
  subst hkk
  exact sym_of2 (fix9e cs st n c l j t s ex) (obs9e cs st n c l j t s ex) (cd9e_ok h) (by kernel_rfl) (by kernel_rfl) (by kernel_rfl) (by kernel_rfl) (by kernel_rfl) (hp9e_flat (n := n) (c := c) (l := l) (j := j) (t := t) (s := s) (ex := ex) f1 f2)
    (fun q hq => by
      simp only [s9e, List.mem_cons, List.not_mem_nil, or_false] at hq
      rcases hq with rfl | rfl
      · exact ⟨fun x hx => List.all_eq_true.1 (by rfl) x hx, fun x hx => List.all_eq_true.1 (by rfl) x hx⟩
      · exact ⟨fun x hx => List.all_eq_true.1 (by rfl) x hx, fun x hx => List.all_eq_true.1 (by rfl) x hx⟩)
    (fun _ hq => absurd hq List.not_mem_nil) (by kernel_rfl)
end
section
def tm9e (cs st : List Value) (n c l : Nat) (j : Int) (t s : Nat) (ex : Bool) : TM := tmL 72 ((s9e cs st n c l j t s ex).live (List.replicate 14 true))
def h9e (cs st : List Value) (n c l : Nat) (j : Int) (t s : Nat) (ex : Bool) : CH := heapL ((s9e cs st n c l j t s ex).hp (List.replicate 14 true))
theorem end9e : bitsL OU9.size (2 ^ OU9.size - 1) = List.replicate 14 true := by kernel_rfl
theorem pad9e (cs st : List Value) (n c l : Nat) (j : Int) (t s : Nat) (ex : Bool) : heapL ((s9e cs st n c l j t s ex).hp (bitsL OU9.size 0)) = heapL ((s9e cs st n c l j t s ex).hp0.map (·.1) ++ List.replicate 2 .dead) := by kernel_rfl
def in9e (_cs _st : List Value) (n c l : Nat) (j : Int) (_t _s : Nat) (_ex : Bool) : List (Nat × Value) := [(0, sl 1 0 n c), (4, sl 7 0 l l), (5, .slice none 0 0), (6, i j), (7, i l)]
theorem zero9e (cs st : List Value) (n c l : Nat) (j : Int) (t s : Nat) (ex : Bool) : tmL 72 ((s9e cs st n c l j t s ex).live (bitsL OU9.size 0)) = tmL 72 (in9e cs st n c l j t s ex) := by kernel_rfl
variable {cs st : List Value} {n c l : Nat} {j : Int} {t s : Nat} {ex : Bool}
theorem snd9e (f1 : cs.all Ex.flat = true) (f2 : st.all Ex.flat = true) (h : ok9e st l = true) (ro : Option Nat) {tm0 : Array Value} {H0 : CH} (hk : H0.length = 8) (hst : Restate 8 tm0 H0 (absT (tmL 72 (in9e cs st n c l j t s ex))) (heapL ((s9e cs st n c l j t s ex).hp0.map (·.1)))) :
    Sound Try.prog 2 (.code (.region 9 OU9 true) ro tm0 H0 []) (.ex .normal (absT (tm9e cs st n c l j t s ex)) (h9e cs st n c l j t s ex) []) := by
  have ho := ord9e (n := n) (c := c) (j := j) (t := t) (s := s) (ex := ex) hk f1 f2 h
  have hp := pad9e cs st n c l j t s ex
  have hz := zero9e cs st n c l j t s ex
  have h0 := goodY_zero OU9
  unfold tm9e h9e
  rw [← end9e]
  rw [← hz] at hst
  generalize s9e cs st n c l j t s ex = s at *
  rw [← hk] at hst
  exact orders_sound2 (tmS := fun m => absT (tmL 72 (s.live (bitsL OU9.size m)))) (HS := fun m => heapL (s.hp (bitsL OU9.size m))) (mF := 2 ^ OU9.size - 1) (qS_selfSound noW_sound) mixU ho (by rw [hk]; decide) h0 hp hst ro
end
section
noncomputable def L9e (cs st : List Value) (n c l : Nat) (j : Int) (t s : Nat) (ex : Bool) (L : LTab) : LTab := regE L 24 9 72 8 OU9 (in9e cs st n c l j t s ex) (s9e cs st n c l j t s ex).hp0 (.br (ok9e st l) (.leaf (.ex .normal (tm9e cs st n c l j t s ex) (h9e cs st n c l j t s ex) [])) .fail)
variable {cs st : List Value} {n c l : Nat} {j : Int} {t s : Nat} {ex : Bool}
theorem ls9e {L : LTab} (hL : LSound Try.prog 2 L) (f1 : cs.all Ex.flat = true) (f2 : st.all Ex.flat = true) : LSound Try.prog 2 (L9e cs st n c l j t s ex L) := by
  refine LSound.region hL (by kernel_rfl) (hp9e_flat (n := n) (c := c) (l := l) (j := j) (t := t) (s := s) (ex := ex) f1 f2) fun r hr ro tm0 H0 hk hst => ?_
  cases h : ok9e st l with
  | false => rw [h] at hr; cases hr
  | true =>
    rw [h] at hr
    cases hr
    exact snd9e (n := n) (c := c) (l := l) (j := j) (t := t) (s := s) (ex := ex) f1 f2 h ro hk hst
end
end Go.Proofs.Ytphadgdlknhbnaa.Ways
set_option maxRecDepth 10000
noncomputable section
namespace Go.Proofs.Ytphadgdlknhbnaa.Ways
open Go Go.Ex Go.RowKit Go.Turn
section
def hp9o (cs st cy : List Value) (_n _c _l _lc : Nat) (_j : Int) (t s : Nat) (ex : Bool) : List (CO × Bool) := [(.dead, false), (.cells cs t s ex, true), (.dead, false), (.cells cy 69 4 false, true), (.dead, false), (.dead, false), (.dead, false), (.cells st 70 2 false, true)]
def s9o (cs st cy : List Value) (n c l lc : Nat) (j : Int) (t s : Nat) (ex : Bool) : SymS where
  live0 := [(0, sl 1 0 n c), (4, sl 7 0 l l), (5, sl 3 0 lc lc), (6, i j), (7, i l)]
  S := [(29, 0, sl 7 0 l l), (30, 1, i l), (31, 2, i (w3 l)), (32, 3, pt 7 (0 + (w3 l).toNat * 2)), (33, 4, ag (el st (w3 l))), (34, 5, sl 7 0 l l), (35, 6, i l), (36, 7, i (w2 l)), (37, 8, pt 7 (0 + (w2 l).toNat * 2)), (38, 9, ag (el st (w2 l))), (8, 10, pt 8 0), (9, 11, pt 9 0)]
  S2 := []
  hp0 := hp9o cs st cy n c l lc j t s ex
  A := [(10, .cells [i 0, i 0] 70 1 true, 12, .cells (el st (w3 l)) 70 1 true), (11, .cells [i 0, i 0] 70 1 true, 13, .cells (el st (w2 l)) 70 1 true)]
def cd9o (st : List Value) (l : Nat) (k : Nat) : List Bool := match k with
  | 3 => [bnd_ (w3 l) l l]
  | 4 => [cP st (w3 l)]
  | 8 => [bnd_ (w2 l) l l]
  | 9 => [cP st (w2 l)]
  | _ => []
end
def rho9o (k : Nat) : List Nat := match k with
  | 10 => (List.range 10).set 8 10
  | 11 => (List.range 10).set 9 10
  | _ => List.range 10
def len9o (k : Nat) : Nat := cond (Nat.beq k 10 || (Nat.beq k 11)) 11 10
def ans9o (k : Nat) : List Bool := match k with
  | 3 => [true]
  | 4 => [true]
  | 8 => [true]
  | 9 => [true]
  | _ => []
section
theorem fix9o (cs st cy : List Value) (n c l lc : Nat) (j : Int) (t s : Nat) (ex : Bool) : ∀ B : List Bool, B.length = OU9.size → (List.range OU9.size).map (fun k => outV noW Try.prog 2 CU 24 OU9 72 (s9o cs st cy n c l lc j t s ex) (forceN OU9.size (pre2 OU9) k B) k) = (List.range OU9.size).map fun k => (outV noW Try.prog 2 CU 24 OU9 72 (s9o cs st cy n c l lc j t s ex) (forceN OU9.size (pre2 OU9) k B) k).fix
  | [x0, x1, x2, x3, x4, x5, x6, x7, x8, x9, x10, x11, x12, x13], _ => by kernel_rfl
theorem obs9o (cs st cy : List Value) (n c l lc : Nat) (j : Int) (t s : Nat) (ex : Bool) : ∀ B : List Bool, B.length = OU9.size → (List.range OU9.size).map (fun k => obsV noW Try.prog 2 CU 24 OU9 72 (s9o cs st cy n c l lc j t s ex) rho9o ans9o (forceN OU9.size (pre2 OU9) k B) k) = (List.range OU9.size).map fun k => expY 72 (s9o cs st cy n c l lc j t s ex) rho9o (cd9o st l) len9o (forceN OU9.size (pre2 OU9) k B) k
  | [x0, x1, x2, x3, x4, x5, x6, x7, x8, x9, x10, x11, x12, x13], _ => by kernel_rfl
def ok9o (st : List Value) (l : Nat) : Bool := bnd_ (w3 l) l l && (cP st (w3 l) && (bnd_ (w2 l) l l && (cP st (w2 l))))
end
section
variable {cs st cy : List Value} {n c l lc : Nat} {j : Int} {t s : Nat} {ex : Bool}
theorem hp9o_flat (f1 : cs.all Ex.flat = true) (f3 : cy.all Ex.flat = true) (f2 : st.all Ex.flat = true) : ∀ o, (o, true) ∈ hp9o cs st cy n c l lc j t s ex → FlatO o := by
  intro o ho
  simp [hp9o] at ho
  rcases ho with rfl | rfl | rfl
  · exact fun x hx => List.all_eq_true.1 f1 x hx
  · exact fun x hx => List.all_eq_true.1 f3 x hx
  · exact fun x hx => List.all_eq_true.1 f2 x hx
theorem cd9o_ok (h : ok9o st l = true) : ∀ k, cd9o st l k = (ans9o k).take (cd9o st l k).length := by
  unfold ok9o at h
  rw [Bool.and_eq_true, Bool.and_eq_true, Bool.and_eq_true] at h
  obtain ⟨g3, g4, g8, g9⟩ := h
  intro k
  unfold cd9o ans9o
  split
  · rw [g3]; rfl
  · rw [g4]; rfl
  · rw [g8]; rfl
  · rw [g9]; rfl
  · rfl
theorem ord9o {kk : Nat} (hkk : kk = 8) (f1 : cs.all Ex.flat = true) (f3 : cy.all Ex.flat = true) (f2 : st.all Ex.flat = true) (h : ok9o st l = true) : Orders (selfA (qS noW)) Try.prog 2 OU9 kk (fun m => m < 2 ^ OU9.size ∧ GoodY OU9 (bitsL OU9.size m)) (fun m => absT (tmL 72 ((s9o cs st cy n c l lc j t s ex).live (bitsL OU9.size m)))) (fun m => heapL ((s9o cs st cy n c l lc j t s ex).hp (bitsL OU9.size m))) (2 ^ OU9.size - 1) := by
  subst hkk
  exact sym_of2 (fix9o cs st cy n c l lc j t s ex) (obs9o cs st cy n c l lc j t s ex) (cd9o_ok h) (by kernel_rfl) (by kernel_rfl) (by kernel_rfl) (by kernel_rfl) (by kernel_rfl) (hp9o_flat (n := n) (c := c) (l := l) (lc := lc) (j := j) (t := t) (s := s) (ex := ex) f1 f3 f2)
    (fun q hq => by
      simp only [s9o, List.mem_cons, List.not_mem_nil, or_false] at hq
      rcases hq with rfl | rfl
      · exact ⟨fun x hx => List.all_eq_true.1 (by rfl) x hx, fun x hx => List.all_eq_true.1 (by rfl) x hx⟩
      · exact ⟨fun x hx => List.all_eq_true.1 (by rfl) x hx, fun x hx => List.all_eq_true.1 (by rfl) x hx⟩)
    (fun _ hq => absurd hq List.not_mem_nil) (by kernel_rfl)
end
section
def tm9o (cs st cy : List Value) (n c l lc : Nat) (j : Int) (t s : Nat) (ex : Bool) : TM := tmL 72 ((s9o cs st cy n c l lc j t s ex).live (List.replicate 14 true))
def h9o (cs st cy : List Value) (n c l lc : Nat) (j : Int) (t s : Nat) (ex : Bool) : CH := heapL ((s9o cs st cy n c l lc j t s ex).hp (List.replicate 14 true))
theorem end9o : bitsL OU9.size (2 ^ OU9.size - 1) = List.replicate 14 true := by kernel_rfl
theorem pad9o (cs st cy : List Value) (n c l lc : Nat) (j : Int) (t s : Nat) (ex : Bool) : heapL ((s9o cs st cy n c l lc j t s ex).hp (bitsL OU9.size 0)) = heapL ((s9o cs st cy n c l lc j t s ex).hp0.map (·.1) ++ List.replicate 2 .dead) := by kernel_rfl
def in9o (_cs _st _cy : List Value) (n c l lc : Nat) (j : Int) (_t _s : Nat) (_ex : Bool) : List (Nat × Value) := [(0, sl 1 0 n c), (4, sl 7 0 l l), (5, sl 3 0 lc lc), (6, i j), (7, i l)]
theorem zero9o (cs st cy : List Value) (n c l lc : Nat) (j : Int) (t s : Nat) (ex : Bool) : tmL 72 ((s9o cs st cy n c l lc j t s ex).live (bitsL OU9.size 0)) = tmL 72 (in9o cs st cy n c l lc j t s ex) := by kernel_rfl
variable {cs st cy : List Value} {n c l lc : Nat} {j : Int} {t s : Nat} {ex : Bool}
theorem snd9o (f1 : cs.all Ex.flat = true) (f3 : cy.all Ex.flat = true) (f2 : st.all Ex.flat = true) (h : ok9o st l = true) (ro : Option Nat) {tm0 : Array Value} {H0 : CH} (hk : H0.length = 8) (hst : Restate 8 tm0 H0 (absT (tmL 72 (in9o cs st cy n c l lc j t s ex))) (heapL ((s9o cs st cy n c l lc j t s ex).hp0.map (·.1)))) :
    Sound Try.prog 2 (.code (.region 9 OU9 true) ro tm0 H0 []) (.ex .normal (absT (tm9o cs st cy n c l lc j t s ex)) (h9o cs st cy n c l lc j t s ex) []) := by
  have ho := ord9o (n := n) (c := c) (lc := lc) (j := j) (t := t) (s := s) (ex := ex) hk f1 f3 f2 h
  have hp := pad9o cs st cy n c l lc j t s ex
  have hz := zero9o cs st cy n c l lc j t s ex
  have h0 := goodY_zero OU9
  unfold tm9o h9o
  rw [← end9o]
  rw [← hz] at hst
  generalize s9o cs st cy n c l lc j t s ex = s at *
  rw [← hk] at hst
  exact orders_sound2 (tmS := fun m => absT (tmL 72 (s.live (bitsL OU9.size m)))) (HS := fun m => heapL (s.hp (bitsL OU9.size m))) (mF := 2 ^ OU9.size - 1) (qS_selfSound noW_sound) mixU ho (by rw [hk]; decide) h0 hp hst ro
end
section
noncomputable def L9o (cs st cy : List Value) (n c l lc : Nat) (j : Int) (t s : Nat) (ex : Bool) (L : LTab) : LTab := regE L 24 9 72 8 OU9 (in9o cs st cy n c l lc j t s ex) (s9o cs st cy n c l lc j t s ex).hp0 (.br (ok9o st l) (.leaf (.ex .normal (tm9o cs st cy n c l lc j t s ex) (h9o cs st cy n c l lc j t s ex) [])) .fail)
variable {cs st cy : List Value} {n c l lc : Nat} {j : Int} {t s : Nat} {ex : Bool}
theorem ls9o {L : LTab} (hL : LSound Try.prog 2 L) (f1 : cs.all Ex.flat = true) (f3 : cy.all Ex.flat = true) (f2 : st.all Ex.flat = true) : LSound Try.prog 2 (L9o cs st cy n c l lc j t s ex L) := by
  refine LSound.region hL (by kernel_rfl) (hp9o_flat (n := n) (c := c) (l := l) (lc := lc) (j := j) (t := t) (s := s) (ex := ex) f1 f3 f2) fun r hr ro tm0 H0 hk hst => ?_
  cases h : ok9o st l with
  | false => rw [h] at hr; cases hr
  | true =>
    rw [h] at hr
    cases hr
    exact snd9o (n := n) (c := c) (l := l) (lc := lc) (j := j) (t := t) (s := s) (ex := ex) f1 f3 f2 h ro hk hst
end
end Go.Proofs.Ytphadgdlknhbnaa.Ways
set_option maxRecDepth 10000
noncomputable section
namespace Go.Proofs.Ytphadgdlknhbnaa.Ways
open Go Go.Ex Go.RowKit Go.Turn
section
def hp9f (cs st cy : List Value) (_n _c _l _lc : Nat) (_j : Int) (t s : Nat) (ex : Bool) : List (CO × Bool) := [(.dead, false), (.cells cs t s ex, true), (.dead, false), (.dead, false), (.dead, false), (.dead, false), (.dead, false), (.dead, false), (.cells st 70 2 false, true), (.cells cy 69 4 false, true)]
def s9f (cs st cy : List Value) (n c l lc : Nat) (j : Int) (t s : Nat) (ex : Bool) : SymS where
  live0 := [(0, sl 1 0 n c), (4, sl 8 0 l l), (5, sl 9 0 lc lc), (6, i j), (7, i l)]
  S := [(29, 0, sl 8 0 l l), (30, 1, i l), (31, 2, i (w3 l)), (32, 3, pt 8 (0 + (w3 l).toNat * 2)), (33, 4, ag (el st (w3 l))), (34, 5, sl 8 0 l l), (35, 6, i l), (36, 7, i (w2 l)), (37, 8, pt 8 (0 + (w2 l).toNat * 2)), (38, 9, ag (el st (w2 l))), (8, 10, pt 10 0), (9, 11, pt 11 0)]
  S2 := []
  hp0 := hp9f cs st cy n c l lc j t s ex
  A := [(10, .cells [i 0, i 0] 70 1 true, 12, .cells (el st (w3 l)) 70 1 true), (11, .cells [i 0, i 0] 70 1 true, 13, .cells (el st (w2 l)) 70 1 true)]
def cd9f (st : List Value) (l : Nat) (k : Nat) : List Bool := match k with
  | 3 => [bnd_ (w3 l) l l]
  | 4 => [cP st (w3 l)]
  | 8 => [bnd_ (w2 l) l l]
  | 9 => [cP st (w2 l)]
  | _ => []
end
def rho9f (k : Nat) : List Nat := match k with
  | 10 => (List.range 12).set 10 12
  | 11 => (List.range 12).set 11 12
  | _ => List.range 12
def len9f (k : Nat) : Nat := cond (Nat.beq k 10 || (Nat.beq k 11)) 13 12
def ans9f (k : Nat) : List Bool := match k with
  | 3 => [true]
  | 4 => [true]
  | 8 => [true]
  | 9 => [true]
  | _ => []
section
theorem fix9f (cs st cy : List Value) (n c l lc : Nat) (j : Int) (t s : Nat) (ex : Bool) : ∀ B : List Bool, B.length = OU9.size → (List.range OU9.size).map (fun k => outV noW Try.prog 2 CU 24 OU9 72 (s9f cs st cy n c l lc j t s ex) (forceN OU9.size (pre2 OU9) k B) k) = (List.range OU9.size).map fun k => (outV noW Try.prog 2 CU 24 OU9 72 (s9f cs st cy n c l lc j t s ex) (forceN OU9.size (pre2 OU9) k B) k).fix
  | [x0, x1, x2, x3, x4, x5, x6, x7, x8, x9, x10, x11, x12, x13], _ => by kernel_rfl
theorem obs9f (cs st cy : List Value) (n c l lc : Nat) (j : Int) (t s : Nat) (ex : Bool) : ∀ B : List Bool, B.length = OU9.size → (List.range OU9.size).map (fun k => obsV noW Try.prog 2 CU 24 OU9 72 (s9f cs st cy n c l lc j t s ex) rho9f ans9f (forceN OU9.size (pre2 OU9) k B) k) = (List.range OU9.size).map fun k => expY 72 (s9f cs st cy n c l lc j t s ex) rho9f (cd9f st l) len9f (forceN OU9.size (pre2 OU9) k B) k
  | [x0, x1, x2, x3, x4, x5, x6, x7, x8, x9, x10, x11, x12, x13], _ => by kernel_rfl
def ok9f (st : List Value) (l : Nat) : Bool := bnd_ (w3 l) l l && (cP st (w3 l) && (bnd_ (w2 l) l l && (cP st (w2 l))))
end
section
variable {cs st cy : List Value} {n c l lc : Nat} {j : Int} {t s : Nat} {ex : Bool}
theorem hp9f_flat (f1 : cs.all Ex.flat = true) (f2 : st.all Ex.flat = true) (f3 : cy.all Ex.flat = true) : ∀ o, (o, true) ∈ hp9f cs st cy n c l lc j t s ex → FlatO o := by
  intro o ho
  simp [hp9f] at ho
  rcases ho with rfl | rfl | rfl
  · exact fun x hx => List.all_eq_true.1 f1 x hx
  · exact fun x hx => List.all_eq_true.1 f2 x hx
  · exact fun x hx => List.all_eq_true.1 f3 x hx
theorem cd9f_ok (h : ok9f st l = true) : ∀ k, cd9f st l k = (ans9f k).take (cd9f st l k).length := by
  unfold ok9f at h
  rw [Bool.and_eq_true, Bool.and_eq_true, Bool.and_eq_true] at h
  obtain ⟨g3, g4, g8, g9⟩ := h
  intro k
  unfold cd9f ans9f
  split
  · rw [g3]; rfl
  · rw [g4]; rfl
  · rw [g8]; rfl
  · rw [g9]; rfl
  · rfl
theorem ord9f {kk : Nat} (hkk : kk = 10) (f1 : cs.all Ex.flat = true) (f2 : st.all Ex.flat = true) (f3 : cy.all Ex.flat = true) (h : ok9f st l = true) : Orders (selfA (qS noW)) Try.prog 2 OU9 kk (fun m => m < 2 ^ OU9.size ∧ GoodY OU9 (bitsL OU9.size m)) (fun m => absT (tmL 72 ((s9f cs st cy n c l lc j t s ex).live (bitsL OU9.size m)))) (fun m => heapL ((s9f cs st cy n c l lc j t s ex).hp (bitsL OU9.size m))) (2 ^ OU9.size - 1) := by
  subst hkk
  exact sym_of2 (fix9f cs st cy n c l lc j t s ex) (obs9f cs st cy n c l lc j t s ex) (cd9f_ok h) (by kernel_rfl) (by kernel_rfl) (by kernel_rfl) (by kernel_rfl) (by kernel_rfl) (hp9f_flat (n := n) (c := c) (l := l) (lc := lc) (j := j) (t := t) (s := s) (ex := ex) f1 f2 f3)
    (fun q hq => by
      simp only [s9f, List.mem_cons, List.not_mem_nil, or_false] at hq
      rcases hq with rfl | rfl
      · exact ⟨fun x hx => List.all_eq_true.1 (by rfl) x hx, fun x hx => List.all_eq_true.1 (by rfl) x hx⟩
      · exact ⟨fun x hx => List.all_eq_true.1 (by rfl) x hx, fun x hx => List.all_eq_true.1 (by rfl) x hx⟩)
    (fun _ hq => absurd hq List.not_mem_nil) (by kernel_rfl)
end
section
def tm9f (cs st cy : List Value) (n c l lc : Nat) (j : Int) (t s : Nat) (ex : Bool) : TM := tmL 72 ((s9f cs st cy n c l lc j t s ex).live (List.replicate 14 true))
def h9f (cs st cy : List Value) (n c l lc : Nat) (j : Int) (t s : Nat) (ex : Bool) : CH := heapL ((s9f cs st cy n c l lc j t s ex).hp (List.replicate 14 true))
theorem end9f : bitsL OU9.size (2 ^ OU9.size - 1) = List.replicate 14 true := by kernel_rfl
theorem pad9f (cs st cy : List Value) (n c l lc : Nat) (j : Int) (t s : Nat) (ex : Bool) : heapL ((s9f cs st cy n c l lc j t s ex).hp (bitsL OU9.size 0)) = heapL ((s9f cs st cy n c l lc j t s ex).hp0.map (·.1) ++ List.replicate 2 .dead) := by kernel_rfl
def in9f (_cs _st _cy : List Value) (n c l lc : Nat) (j : Int) (_t _s : Nat) (_ex : Bool) : List (Nat × Value) := [(0, sl 1 0 n c), (4, sl 8 0 l l), (5, sl 9 0 lc lc), (6, i j), (7, i l)]
theorem zero9f (cs st cy : List Value) (n c l lc : Nat) (j : Int) (t s : Nat) (ex : Bool) : tmL 72 ((s9f cs st cy n c l lc j t s ex).live (bitsL OU9.size 0)) = tmL 72 (in9f cs st cy n c l lc j t s ex) := by kernel_rfl
variable {cs st cy : List Value} {n c l lc : Nat} {j : Int} {t s : Nat} {ex : Bool}
theorem snd9f (f1 : cs.all Ex.flat = true) (f2 : st.all Ex.flat = true) (f3 : cy.all Ex.flat = true) (h : ok9f st l = true) (ro : Option Nat) {tm0 : Array Value} {H0 : CH} (hk : H0.length = 10) (hst : Restate 10 tm0 H0 (absT (tmL 72 (in9f cs st cy n c l lc j t s ex))) (heapL ((s9f cs st cy n c l lc j t s ex).hp0.map (·.1)))) :
    Sound Try.prog 2 (.code (.region 9 OU9 true) ro tm0 H0 []) (.ex .normal (absT (tm9f cs st cy n c l lc j t s ex)) (h9f cs st cy n c l lc j t s ex) []) := by
  have ho := ord9f (n := n) (c := c) (lc := lc) (j := j) (t := t) (s := s) (ex := ex) hk f1 f2 f3 h
  have hp := pad9f cs st cy n c l lc j t s ex
  have hz := zero9f cs st cy n c l lc j t s ex
  have h0 := goodY_zero OU9
  unfold tm9f h9f
  rw [← end9f]
  rw [← hz] at hst
  generalize s9f cs st cy n c l lc j t s ex = s at *
  rw [← hk] at hst
  exact orders_sound2 (tmS := fun m => absT (tmL 72 (s.live (bitsL OU9.size m)))) (HS := fun m => heapL (s.hp (bitsL OU9.size m))) (mF := 2 ^ OU9.size - 1) (qS_selfSound noW_sound) mixU ho (by rw [hk]; decide) h0 hp hst ro
end
section
noncomputable def L9f (cs st cy : List Value) (n c l lc : Nat) (j : Int) (t s : Nat) (ex : Bool) (L : LTab) : LTab := regE L 24 9 72 10 OU9 (in9f cs st cy n c l lc j t s ex) (s9f cs st cy n c l lc j t s ex).hp0 (.br (ok9f st l) (.leaf (.ex .normal (tm9f cs st cy n c l lc j t s ex) (h9f cs st cy n c l lc j t s ex) [])) .fail)
variable {cs st cy : List Value} {n c l lc : Nat} {j : Int} {t s : Nat} {ex : Bool}
theorem ls9f {L : LTab} (hL : LSound Try.prog 2 L) (f1 : cs.all Ex.flat = true) (f2 : st.all Ex.flat = true) (f3 : cy.all Ex.flat = true) : LSound Try.prog 2 (L9f cs st cy n c l lc j t s ex L) := by
  refine LSound.region hL (by kernel_rfl) (hp9f_flat (n := n) (c := c) (l := l) (lc := lc) (j := j) (t := t) (s := s) (ex := ex) f1 f2 f3) fun r hr ro tm0 H0 hk hst => ?_
  cases h : ok9f st l with
  | false => rw [h] at hr; cases hr
  | true =>
    rw [h] at hr
    cases hr
    exact snd9f (n := n) (c := c) (l := l) (lc := lc) (j := j) (t := t) (s := s) (ex := ex) f1 f2 f3 h ro hk hst
end
end Go.Proofs.Ytphadgdlknhbnaa.Ways
set_option maxRecDepth 10000
noncomputable section
namespace Go.Proofs.Ytphadgdlknhbnaa.Ways
open Go Go.Ex Go.RowKit Go.Turn
section
def hp11e (cs st cy : List Value) (_n _c _l _lc : Nat) (_j : Int) (t s : Nat) (ex : Bool) : List (CO × Bool) := [(.dead, false), (.cells cs t s ex, true), (.dead, false), (.dead, false), (.dead, false), (.dead, false), (.dead, false), (.cells st 70 2 false, true), (.dead, false), (.dead, false), (.dead, false), (.cells cy 69 4 false, true)]
def s11e (cs st cy : List Value) (n c l lc : Nat) (j : Int) (t s : Nat) (ex : Bool) : SymS where
  live0 := [(0, sl 1 0 n c), (5, sl 11 0 lc lc), (6, i j), (7, i l)]
  S := [(57, 0, sl 12 0 0 0), (58, 1, sl 7 0 l l), (59, 2, i l), (60, 3, i (w3 l)), (61, 4, sl 7 0 (w3 l).toNat l), (62, 5, sl 13 0 (w3 l).toNat (w3 l).toNat), (63, 6, sl 7 0 l l), (64, 7, i l), (65, 8, i (w1 l)), (66, 9, pt 7 (0 + (w1 l).toNat * 2)), (67, 10, ag (el st (w1 l))), (68, 11, sl 14 0 1 1), (69, 12, sl 15 0 ((w3 l).toNat + 1) ((w3 l).toNat + 1))]
  S2 := [(4, 13, sl 7 0 l l, sl 15 0 ((w3 l).toNat + 1) ((w3 l).toNat + 1))]
  hp0 := hp11e cs st cy n c l lc j t s ex
  A := [(0, .cells [] 70 2 true, 0, .cells [] 70 2 true), (5, .cells (X6 st (w3 l).toNat) 70 2 false, 12, .dead), (11, .cells (el st (w1 l)) 70 2 true, 11, .cells (el st (w1 l)) 70 2 true), (12, .cells (X6 st (w3 l).toNat ++ el st (w1 l)) 70 2 false, 12, .cells (X6 st (w3 l).toNat ++ el st (w1 l)) 70 2 false)]
def cd11e (st : List Value) (l : Nat) (k : Nat) : List Bool := match k with
  | 4 => [slN (w3 l) l]
  | 5 => [apN (w3 l).toNat l st]
  | 9 => [bnd_ (w1 l) l l]
  | 10 => [cP st (w1 l)]
  | 12 => [full2 (w3 l).toNat (X6 st (w3 l).toNat)]
  | _ => []
end
def rho11e (k : Nat) : List Nat := match k with
  | 0 => (List.range 16).set 12 16
  | 5 => (List.range 16).set 13 16
  | 11 => (List.range 16).set 14 16
  | 12 => (List.range 16).set 15 16
  | _ => List.range 16
def len11e (k : Nat) : Nat := cond (Nat.beq k 0 || (Nat.beq k 5 || (Nat.beq k 11 || (Nat.beq k 12)))) 17 16
def ans11e (k : Nat) : List Bool := match k with
  | 4 => [true]
  | 5 => [true]
  | 9 => [true]
  | 10 => [true]
  | 12 => [true]
  | _ => []
section
theorem fix11e (cs st cy : List Value) (n c l lc : Nat) (j : Int) (t s : Nat) (ex : Bool) : ∀ B : List Bool, B.length = OU11.size → (List.range OU11.size).map (fun k => outV noW Try.prog 2 CU 24 OU11 72 (s11e cs st cy n c l lc j t s ex) (forceN OU11.size (pre2 OU11) k B) k) = (List.range OU11.size).map fun k => (outV noW Try.prog 2 CU 24 OU11 72 (s11e cs st cy n c l lc j t s ex) (forceN OU11.size (pre2 OU11) k B) k).fix
  | [x0, x1, x2, x3, x4, x5, x6, x7, x8, x9, x10, x11, x12, x13], _ => by kernel_rfl
theorem obs11e (cs st cy : List Value) (n c l lc : Nat) (j : Int) (t s : Nat) (ex : Bool) : ∀ B : List Bool, B.length = OU11.size → (List.range OU11.size).map (fun k => obsV noW Try.prog 2 CU 24 OU11 72 (s11e cs st cy n c l lc j t s ex) rho11e ans11e (forceN OU11.size (pre2 OU11) k B) k) = (List.range OU11.size).map fun k => expY 72 (s11e cs st cy n c l lc j t s ex) rho11e (cd11e st l) len11e (forceN OU11.size (pre2 OU11) k B) k
  | [x0, x1, x2, x3, x4, x5, x6, x7, x8, x9, x10, x11, x12, x13], _ => by kernel_rfl
def ok11e (st : List Value) (l : Nat) : Bool := slN (w3 l) l && (apN (w3 l).toNat l st && (bnd_ (w1 l) l l && (cP st (w1 l) && (full2 (w3 l).toNat (X6 st (w3 l).toNat)))))
end
section
variable {cs st cy : List Value} {n c l lc : Nat} {j : Int} {t s : Nat} {ex : Bool}
theorem hp11e_flat (f1 : cs.all Ex.flat = true) (f2 : st.all Ex.flat = true) (f3 : cy.all Ex.flat = true) : ∀ o, (o, true) ∈ hp11e cs st cy n c l lc j t s ex → FlatO o := by
  intro o ho
  simp [hp11e] at ho
  rcases ho with rfl | rfl | rfl
  · exact fun x hx => List.all_eq_true.1 f1 x hx
  · exact fun x hx => List.all_eq_true.1 f2 x hx
  · exact fun x hx => List.all_eq_true.1 f3 x hx
theorem cd11e_ok (h : ok11e st l = true) : ∀ k, cd11e st l k = (ans11e k).take (cd11e st l k).length := by
  unfold ok11e at h
  rw [Bool.and_eq_true, Bool.and_eq_true, Bool.and_eq_true, Bool.and_eq_true] at h
  obtain ⟨g4, g5, g9, g10, g12⟩ := h
  intro k
  unfold cd11e ans11e
  split
  · rw [g4]; rfl
  · rw [g5]; rfl
  · rw [g9]; rfl
  · rw [g10]; rfl
  · rw [g12]; rfl
  · rfl
theorem ord11e {kk : Nat} (hkk : kk = 12) (f1 : cs.all Ex.flat = true) (f2 : st.all Ex.flat = true) (f3 : cy.all Ex.flat = true) (h : ok11e st l = true) : Orders (selfA (qS noW)) Try.prog 2 OU11 kk (fun m => m < 2 ^ OU11.size ∧ GoodY OU11 (bitsL OU11.size m)) (fun m => absT (tmL 72 ((s11e cs st cy n c l lc j t s ex).live (bitsL OU11.size m)))) (fun m => heapL ((s11e cs st cy n c l lc j t s ex).hp (bitsL OU11.size m))) (2 ^ OU11.size - 1) := by
  subst hkk
  exact sym_of2 (fix11e cs st cy n c l lc j t s ex) (obs11e cs st cy n c l lc j t s ex) (cd11e_ok h) (by kernel_rfl) (by kernel_rfl) (by kernel_rfl) (by kernel_rfl) (by kernel_rfl) (hp11e_flat (n := n) (c := c) (l := l) (lc := lc) (j := j) (t := t) (s := s) (ex := ex) f1 f2 f3)
    (fun q hq => by
      simp only [s11e, List.mem_cons, List.not_mem_nil, or_false] at hq
      rcases hq with rfl | rfl | rfl | rfl
      · exact ⟨fun x hx => List.all_eq_true.1 (by rfl) x hx, fun x hx => List.all_eq_true.1 (by rfl) x hx⟩
      · exact ⟨fun x hx => List.all_eq_true.1 (x6_flat f2) x hx, trivial⟩
      · exact ⟨fun x hx => List.all_eq_true.1 (by rfl) x hx, fun x hx => List.all_eq_true.1 (by rfl) x hx⟩
      · exact ⟨fun x hx => List.all_eq_true.1 (app_flat (x6_flat f2) rfl) x hx, fun x hx => List.all_eq_true.1 (app_flat (x6_flat f2) rfl) x hx⟩)
    (fun _ hq => absurd hq List.not_mem_nil) (by kernel_rfl)
end
section
def tm11e (cs st cy : List Value) (n c l lc : Nat) (j : Int) (t s : Nat) (ex : Bool) : TM := tmL 72 ((s11e cs st cy n c l lc j t s ex).live (List.replicate 14 true))
def h11e (cs st cy : List Value) (n c l lc : Nat) (j : Int) (t s : Nat) (ex : Bool) : CH := heapL ((s11e cs st cy n c l lc j t s ex).hp (List.replicate 14 true))
theorem end11e : bitsL OU11.size (2 ^ OU11.size - 1) = List.replicate 14 true := by kernel_rfl
theorem pad11e (cs st cy : List Value) (n c l lc : Nat) (j : Int) (t s : Nat) (ex : Bool) : heapL ((s11e cs st cy n c l lc j t s ex).hp (bitsL OU11.size 0)) = heapL ((s11e cs st cy n c l lc j t s ex).hp0.map (·.1) ++ List.replicate 4 .dead) := by kernel_rfl
def in11e (_cs _st _cy : List Value) (n c l lc : Nat) (j : Int) (_t _s : Nat) (_ex : Bool) : List (Nat × Value) := [(0, sl 1 0 n c), (5, sl 11 0 lc lc), (6, i j), (7, i l), (4, sl 7 0 l l)]
theorem zero11e (cs st cy : List Value) (n c l lc : Nat) (j : Int) (t s : Nat) (ex : Bool) : tmL 72 ((s11e cs st cy n c l lc j t s ex).live (bitsL OU11.size 0)) = tmL 72 (in11e cs st cy n c l lc j t s ex) := by kernel_rfl
variable {cs st cy : List Value} {n c l lc : Nat} {j : Int} {t s : Nat} {ex : Bool}
theorem snd11e (f1 : cs.all Ex.flat = true) (f2 : st.all Ex.flat = true) (f3 : cy.all Ex.flat = true) (h : ok11e st l = true) (ro : Option Nat) {tm0 : Array Value} {H0 : CH} (hk : H0.length = 12) (hst : Restate 12 tm0 H0 (absT (tmL 72 (in11e cs st cy n c l lc j t s ex))) (heapL ((s11e cs st cy n c l lc j t s ex).hp0.map (·.1)))) :
    Sound Try.prog 2 (.code (.region 11 OU11 true) ro tm0 H0 []) (.ex .normal (absT (tm11e cs st cy n c l lc j t s ex)) (h11e cs st cy n c l lc j t s ex) []) := by
  have ho := ord11e (n := n) (c := c) (lc := lc) (j := j) (t := t) (s := s) (ex := ex) hk f1 f2 f3 h
  have hp := pad11e cs st cy n c l lc j t s ex
  have hz := zero11e cs st cy n c l lc j t s ex
  have h0 := goodY_zero OU11
  unfold tm11e h11e
  rw [← end11e]
  rw [← hz] at hst
  generalize s11e cs st cy n c l lc j t s ex = s at *
  rw [← hk] at hst
  exact orders_sound2 (tmS := fun m => absT (tmL 72 (s.live (bitsL OU11.size m)))) (HS := fun m => heapL (s.hp (bitsL OU11.size m))) (mF := 2 ^ OU11.size - 1) (qS_selfSound noW_sound) mixU ho (by rw [hk]; decide) h0 hp hst ro
end
section
noncomputable def L11e (cs st cy : List Value) (n c l lc : Nat) (j : Int) (t s : Nat) (ex : Bool) (L : LTab) : LTab := regE L 24 11 72 12 OU11 (in11e cs st cy n c l lc j t s ex) (s11e cs st cy n c l lc j t s ex).hp0 (.br (ok11e st l) (.leaf (.ex .normal (tm11e cs st cy n c l lc j t s ex) (h11e cs st cy n c l lc j t s ex) [])) .fail)
variable {cs st cy : List Value} {n c l lc : Nat} {j : Int} {t s : Nat} {ex : Bool}
theorem ls11e {L : LTab} (hL : LSound Try.prog 2 L) (f1 : cs.all Ex.flat = true) (f2 : st.all Ex.flat = true) (f3 : cy.all Ex.flat = true) : LSound Try.prog 2 (L11e cs st cy n c l lc j t s ex L) := by
  refine LSound.region hL (by kernel_rfl) (hp11e_flat (n := n) (c := c) (l := l) (lc := lc) (j := j) (t := t) (s := s) (ex := ex) f1 f2 f3) fun r hr ro tm0 H0 hk hst => ?_
  cases h : ok11e st l with
  | false => rw [h] at hr; cases hr
  | true =>
    rw [h] at hr
    cases hr
    exact snd11e (n := n) (c := c) (l := l) (lc := lc) (j := j) (t := t) (s := s) (ex := ex) f1 f2 f3 h ro hk hst
end
end Go.Proofs.Ytphadgdlknhbnaa.Ways
set_option maxRecDepth 10000
noncomputable section
namespace Go.Proofs.Ytphadgdlknhbnaa.Ways
open Go Go.Ex Go.RowKit Go.Turn
section
def hp11f (cs st cy : List Value) (_n _c _l _lc : Nat) (_j : Int) (t s : Nat) (ex : Bool) : List (CO × Bool) := [(.dead, false), (.cells cs t s ex, true), (.dead, false), (.dead, false), (.dead, false), (.dead, false), (.dead, false), (.dead, false), (.cells st 70 2 false, true), (.dead, false), (.dead, false), (.dead, false), (.dead, false), (.cells cy 69 4 false, true)]
def s11f (cs st cy : List Value) (n c l lc : Nat) (j : Int) (t s : Nat) (ex : Bool) : SymS where
  live0 := [(0, sl 1 0 n c), (5, sl 13 0 lc lc), (6, i j), (7, i l)]
  S := [(57, 0, sl 14 0 0 0), (58, 1, sl 8 0 l l), (59, 2, i l), (60, 3, i (w3 l)), (61, 4, sl 8 0 (w3 l).toNat l), (62, 5, sl 15 0 (w3 l).toNat (w3 l).toNat), (63, 6, sl 8 0 l l), (64, 7, i l), (65, 8, i (w1 l)), (66, 9, pt 8 (0 + (w1 l).toNat * 2)), (67, 10, ag (el st (w1 l))), (68, 11, sl 16 0 1 1), (69, 12, sl 17 0 ((w3 l).toNat + 1) ((w3 l).toNat + 1))]
  S2 := [(4, 13, sl 8 0 l l, sl 17 0 ((w3 l).toNat + 1) ((w3 l).toNat + 1))]
  hp0 := hp11f cs st cy n c l lc j t s ex
  A := [(0, .cells [] 70 2 true, 0, .cells [] 70 2 true), (5, .cells (X6 st (w3 l).toNat) 70 2 false, 12, .dead), (11, .cells (el st (w1 l)) 70 2 true, 11, .cells (el st (w1 l)) 70 2 true), (12, .cells (X6 st (w3 l).toNat ++ el st (w1 l)) 70 2 false, 12, .cells (X6 st (w3 l).toNat ++ el st (w1 l)) 70 2 false)]
def cd11f (st : List Value) (l : Nat) (k : Nat) : List Bool := match k with
  | 4 => [slN (w3 l) l]
  | 5 => [apN (w3 l).toNat l st]
  | 9 => [bnd_ (w1 l) l l]
  | 10 => [cP st (w1 l)]
  | 12 => [full2 (w3 l).toNat (X6 st (w3 l).toNat)]
  | _ => []
end
def rho11f (k : Nat) : List Nat := match k with
  | 0 => (List.range 18).set 14 18
  | 5 => (List.range 18).set 15 18
  | 11 => (List.range 18).set 16 18
  | 12 => (List.range 18).set 17 18
  | _ => List.range 18
def len11f (k : Nat) : Nat := cond (Nat.beq k 0 || (Nat.beq k 5 || (Nat.beq k 11 || (Nat.beq k 12)))) 19 18
def ans11f (k : Nat) : List Bool := match k with
  | 4 => [true]
  | 5 => [true]
  | 9 => [true]
  | 10 => [true]
  | 12 => [true]
  | _ => []
section
theorem fix11f (cs st cy : List Value) (n c l lc : Nat) (j : Int) (t s : Nat) (ex : Bool) : ∀ B : List Bool, B.length = OU11.size → (List.range OU11.size).map (fun k => outV noW Try.prog 2 CU 24 OU11 72 (s11f cs st cy n c l lc j t s ex) (forceN OU11.size (pre2 OU11) k B) k) = (List.range OU11.size).map fun k => (outV noW Try.prog 2 CU 24 OU11 72 (s11f cs st cy n c l lc j t s ex) (forceN OU11.size (pre2 OU11) k B) k).fix
  | [x0, x1, x2, x3, x4, x5, x6, x7, x8, x9, x10, x11, x12, x13], _ => by kernel_rfl
theorem obs11f (cs st cy : List Value) (n c l lc : Nat) (j : Int) (t s : Nat) (ex : Bool) : ∀ B : List Bool, B.length = OU11.size → (List.range OU11.size).map (fun k => obsV noW Try.prog 2 CU 24 OU11 72 (s11f cs st cy n c l lc j t s ex) rho11f ans11f (forceN OU11.size (pre2 OU11) k B) k) = (List.range OU11.size).map fun k => expY 72 (s11f cs st cy n c l lc j t s ex) rho11f (cd11f st l) len11f (forceN OU11.size (pre2 OU11) k B) k
  | [x0, x1, x2, x3, x4, x5, x6, x7, x8, x9, x10, x11, x12, x13], _ => by kernel_rfl
def ok11f (st : List Value) (l : Nat) : Bool := slN (w3 l) l && (apN (w3 l).toNat l st && (bnd_ (w1 l) l l && (cP st (w1 l) && (full2 (w3 l).toNat (X6 st (w3 l).toNat)))))
end
section
variable {cs st cy : List Value} {n c l lc : Nat} {j : Int} {t s : Nat} {ex : Bool}
theorem hp11f_flat (f1 : cs.all Ex.flat = true) (f2 : st.all Ex.flat = true) (f3 : cy.all Ex.flat = true) : ∀ o, (o, true) ∈ hp11f cs st cy n c l lc j t s ex → FlatO o := by
  intro o ho
  simp [hp11f] at ho
  rcases ho with rfl | rfl | rfl
  · exact fun x hx => List.all_eq_true.1 f1 x hx
  · exact fun x hx => List.all_eq_true.1 f2 x hx
  · exact fun x hx => List.all_eq_true.1 f3 x hx
theorem cd11f_ok (h : ok11f st l = true) : ∀ k, cd11f st l k = (ans11f k).take (cd11f st l k).length := by
  unfold ok11f at h
  rw [Bool.and_eq_true, Bool.and_eq_true, Bool.and_eq_true, Bool.and_eq_true] at h
  obtain ⟨g4, g5, g9, g10, g12⟩ := h
  intro k
  unfold cd11f ans11f
  split
  · rw [g4]; rfl
  · rw [g5]; rfl
  · rw [g9]; rfl
  · rw [g10]; rfl
  · rw [g12]; rfl
  · rfl
theorem ord11f {kk : Nat} (hkk : kk = 14) (f1 : cs.all Ex.flat = true) (f2 : st.all Ex.flat = true) (f3 : cy.all Ex.flat = true) (h : ok11f st l = true) : Orders (selfA (qS noW)) Try.prog 2 OU11 kk (fun m => m < 2 ^ OU11.size ∧ GoodY OU11 (bitsL OU11.size m)) (fun m => absT (tmL 72 ((s11f cs st cy n c l lc j t s ex).live (bitsL OU11.size m)))) (fun m => heapL ((s11f cs st cy n c l lc j t s ex).hp (bitsL OU11.size m))) (2 ^ OU11.size - 1) := by
  subst hkk
  exact sym_of2 (fix11f cs st cy n c l lc j t s ex) (obs11f cs st cy n c l lc j t s ex) (cd11f_ok h) (by kernel_rfl) (by kernel_rfl) (by kernel_rfl) (by kernel_rfl) (by kernel_rfl) (hp11f_flat (n := n) (c := c) (l := l) (lc := lc) (j := j) (t := t) (s := s) (ex := ex) f1 f2 f3)
    (fun q hq => by
      simp only [s11f, List.mem_cons, List.not_mem_nil, or_false] at hq
      rcases hq with rfl | rfl | rfl | rfl
      · exact ⟨fun x hx => List.all_eq_true.1 (by rfl) x hx, fun x hx => List.all_eq_true.1 (by rfl) x hx⟩
      · exact ⟨fun x hx => List.all_eq_true.1 (x6_flat f2) x hx, trivial⟩
      · exact ⟨fun x hx => List.all_eq_true.1 (by rfl) x hx, fun x hx => List.all_eq_true.1 (by rfl) x hx⟩
      · exact ⟨fun x hx => List.all_eq_true.1 (app_flat (x6_flat f2) rfl) x hx, fun x hx => List.all_eq_true.1 (app_flat (x6_flat f2) rfl) x hx⟩)
    (fun _ hq => absurd hq List.not_mem_nil) (by kernel_rfl)
end
section
def tm11f (cs st cy : List Value) (n c l lc : Nat) (j : Int) (t s : Nat) (ex : Bool) : TM := tmL 72 ((s11f cs st cy n c l lc j t s ex).live (List.replicate 14 true))
def h11f (cs st cy : List Value) (n c l lc : Nat) (j : Int) (t s : Nat) (ex : Bool) : CH := heapL ((s11f cs st cy n c l lc j t s ex).hp (List.replicate 14 true))
theorem end11f : bitsL OU11.size (2 ^ OU11.size - 1) = List.replicate 14 true := by kernel_rfl
theorem pad11f (cs st cy : List Value) (n c l lc : Nat) (j : Int) (t s : Nat) (ex : Bool) : heapL ((s11f cs st cy n c l lc j t s ex).hp (bitsL OU11.size 0)) = heapL ((s11f cs st cy n c l lc j t s ex).hp0.map (·.1) ++ List.replicate 4 .dead) := by kernel_rfl
def in11f (_cs _st _cy : List Value) (n c l lc : Nat) (j : Int) (_t _s : Nat) (_ex : Bool) : List (Nat × Value) := [(0, sl 1 0 n c), (5, sl 13 0 lc lc), (6, i j), (7, i l), (4, sl 8 0 l l)]
theorem zero11f (cs st cy : List Value) (n c l lc : Nat) (j : Int) (t s : Nat) (ex : Bool) : tmL 72 ((s11f cs st cy n c l lc j t s ex).live (bitsL OU11.size 0)) = tmL 72 (in11f cs st cy n c l lc j t s ex) := by kernel_rfl
variable {cs st cy : List Value} {n c l lc : Nat} {j : Int} {t s : Nat} {ex : Bool}
theorem snd11f (f1 : cs.all Ex.flat = true) (f2 : st.all Ex.flat = true) (f3 : cy.all Ex.flat = true) (h : ok11f st l = true) (ro : Option Nat) {tm0 : Array Value} {H0 : CH} (hk : H0.length = 14) (hst : Restate 14 tm0 H0 (absT (tmL 72 (in11f cs st cy n c l lc j t s ex))) (heapL ((s11f cs st cy n c l lc j t s ex).hp0.map (·.1)))) :
    Sound Try.prog 2 (.code (.region 11 OU11 true) ro tm0 H0 []) (.ex .normal (absT (tm11f cs st cy n c l lc j t s ex)) (h11f cs st cy n c l lc j t s ex) []) := by
  have ho := ord11f (n := n) (c := c) (lc := lc) (j := j) (t := t) (s := s) (ex := ex) hk f1 f2 f3 h
  have hp := pad11f cs st cy n c l lc j t s ex
  have hz := zero11f cs st cy n c l lc j t s ex
  have h0 := goodY_zero OU11
  unfold tm11f h11f
  rw [← end11f]
  rw [← hz] at hst
  generalize s11f cs st cy n c l lc j t s ex = s at *
  rw [← hk] at hst
  exact orders_sound2 (tmS := fun m => absT (tmL 72 (s.live (bitsL OU11.size m)))) (HS := fun m => heapL (s.hp (bitsL OU11.size m))) (mF := 2 ^ OU11.size - 1) (qS_selfSound noW_sound) mixU ho (by rw [hk]; decide) h0 hp hst ro
end
section
noncomputable def L11f (cs st cy : List Value) (n c l lc : Nat) (j : Int) (t s : Nat) (ex : Bool) (L : LTab) : LTab := regE L 24 11 72 14 OU11 (in11f cs st cy n c l lc j t s ex) (s11f cs st cy n c l lc j t s ex).hp0 (.br (ok11f st l) (.leaf (.ex .normal (tm11f cs st cy n c l lc j t s ex) (h11f cs st cy n c l lc j t s ex) [])) .fail)
variable {cs st cy : List Value} {n c l lc : Nat} {j : Int} {t s : Nat} {ex : Bool}
theorem ls11f {L : LTab} (hL : LSound Try.prog 2 L) (f1 : cs.all Ex.flat = true) (f2 : st.all Ex.flat = true) (f3 : cy.all Ex.flat = true) : LSound Try.prog 2 (L11f cs st cy n c l lc j t s ex L) := by
  refine LSound.region hL (by kernel_rfl) (hp11f_flat (n := n) (c := c) (l := l) (lc := lc) (j := j) (t := t) (s := s) (ex := ex) f1 f2 f3) fun r hr ro tm0 H0 hk hst => ?_
  cases h : ok11f st l with
  | false => rw [h] at hr; cases hr
  | true =>
    rw [h] at hr
    cases hr
    exact snd11f (n := n) (c := c) (l := l) (lc := lc) (j := j) (t := t) (s := s) (ex := ex) f1 f2 f3 h ro hk hst
end
end Go.Proofs.Ytphadgdlknhbnaa.Ways
