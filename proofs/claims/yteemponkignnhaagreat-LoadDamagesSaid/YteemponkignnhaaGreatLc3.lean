import Derived.Test.YteemponkignnhaaGreatLc1
import Derived.Test.YteemponkignnhaaGreatLr3
import Derived.Test.YteemponkignnhaaGreatEngOrdA
set_option maxRecDepth 10000
noncomputable section
namespace Go.Proofs.YteemponkignnhaaGreat.Ways
open Go Go.Ex Go.RowKit Go.Turn
def k4 : List CK := [.i .i64, .i .i64, .i .i64, .i .i64]
def okF (cs : List Value) (n c : Nat) : Prop := cs.all Ex.flat = true ∧ n ≤ c ∧ n < 4000000000000000000 ∧ ∀ j, j < n → areCells k4 cs (0 + j * 4) = true
def cF (cs : List Value) (j : Int) : Bool := areCells k4 cs (0 + j.toNat * 4)
def f_ (cs : List Value) (j k : Nat) : Int := intO cs[0 + j * 4 + k]?
def spN : Nat → Nat → Split := at_ [(999999, 10), (999999, 10), (49, 10), (47, 10), (999999, 10)] .bool (at_ [(999999, 12), (999999, 12), (49, 13), (47, 13), (999999, 13)] (.ints []) no_)
section
variable (eq : List Value → List Value → Nat → Bool) (ck : List Value → Int → Bool) (cs ds : List Value) (t s n c t2 s2 m c2 : Nat) (ex e2 : Bool)
def sameE : Bool := decide (n = m) && eqF (firstF (fun j => cond (eq cs ds j) 0 1) n 0) 0
end
section
variable {cs ds : List Value} {t s n c t2 s2 m c2 : Nat} {ex e2 : Bool}
end
def okX (ck : List Value → Int → Bool) (a : List Value) (n c : Nat) : Prop := a.all Ex.flat = true ∧ n ≤ c ∧ n < 4000000000000000000 ∧ ∀ j : Nat, j < n → ck a (j : Int) = true
end Go.Proofs.YteemponkignnhaaGreat.Ways
set_option maxRecDepth 10000
noncomputable section
namespace Go.Proofs.YteemponkignnhaaGreat.Ways
open Go Go.Ex Go.RowKit Go.Turn
def elF (cs : List Value) (j : Int) : List Value := [i (f_ cs j.toNat 0), i (f_ cs j.toNat 1), i (f_ cs j.toNat 2), i (f_ cs j.toNat 3)]
noncomputable def B23 : Code := bodyL Tryz.f9 3
def spD : Nat → Nat → Split := at_ [(9, 9), (50, 9)] .bool no_
def syDz : Nat → Nat → Bool := on_ [(9, 10), (9, 11), (50, 10), (50, 11)]
def syD : Nat → Nat → Bool := on_ [(9, 10), (9, 11), (9, 15), (9, 300015), (50, 10), (50, 11), (50, 15), (50, 300015)]
def CD : PS → Cfg
  | .z => ⟨noT, spD, syDz, noL⟩
  | .m _ _ _ => ⟨noT, spD, syD, noL⟩
section
variable (e : Nat) (cs : List Value) (t s n c : Nat) (ex : Bool)
def hpD (out : List Value) : List (CO × Bool) := [(.dead, false), (.cells cs t s ex, true), (.cells out e 4 false, true)]
def SD : Shape PS := ⟨18, fun q => match q with
  | .z => ⟨[(6, sl 1 0 n c), (7, i n), (3, .slice none 0 0), (8, i 0)], hpz cs t s ex⟩
  | .m j l out => ⟨[(6, sl 1 0 n c), (7, i n), (3, sl 2 0 l l), (8, i j)], hpD e cs t s ex out⟩,
  fun _ q => match q with
  | .z => (.exit 0, ⟨[(3, .slice none 0 0)], hpz cs t s ex⟩)
  | .m _ l out => (.exit 0, ⟨[(3, sl 2 0 l l)], hpD e cs t s ex out⟩)⟩
def stD : PS → SS PS
  | .z => .br (ltF 0 n) (askS (bnd_ 0 n c) <| askS (cF cs 0) <| .next 5 [0, 1, 4] (.m 1 1 (elF cs 0))) (.done 2 [0, 1] 0)
  | .m j l out => .br (ltF j n) (askS (bnd_ j n c) <| askS (cF cs j) <| askS (full4 l out) <| .next 6 [0, 1, 5] (.m (wrapF .i64 (j + 1)) (l + 1) (out ++ elF cs j))) (.done 3 [0, 1, 2] 0)
end
section
variable {e : Nat} {cs : List Value} {t s n c : Nat} {ex : Bool}
theorem hpD_flat {out : List Value} (h : cs.all Ex.flat = true) (h2 : out.all Ex.flat = true) : ∀ o, (o, true) ∈ hpD e cs t s ex out → FlatO o := by
  intro o ho
  simp [hpD] at ho
  rcases ho with rfl | rfl
  · exact fun x hx => List.all_eq_true.1 h x hx
  · exact fun x hx => List.all_eq_true.1 h2 x hx
theorem goodD : ∀ q q', GdP q → (stD cs n c q).sel = some (.inl q') → GdP q' := by
  intro q q' hg h
  cases q with
  | z =>
    rcases br_or' h with h | h
    · have h := ask_or' (ask_or' h); cases h; rfl
    · cases h
  | m j l out =>
    rcases br_or' h with h | h
    · have h := ask_or' (ask_or' (ask_or' h)); cases h; exact app_flat hg rfl
    · cases h
theorem L23 (h : cs.all Ex.flat = true) : Loop1 Tryz.prog 2 9 B23 (SD 89 cs t s n c ex) 2 (stD cs n c) GdP :=
  .mk' (C := CD) (n := 60) (fun q _ => by cases q <;> exact .none) (fun q _ => by cases q <;> exact .none) (fun q ro _ => by cases q <;> kernel_rfl) (fun q ro _ => by cases q <;> kernel_rfl) (fun q => by cases q <;> kernel_rfl) goodD
    (fun q hq => by cases q with
      | z => exact hpI_flat h
      | m _ _ _ => exact hpD_flat h hq)
    (fun q j hq _ => by cases q with
      | z => exact ⟨hpI_flat h, fun h => by cases h⟩
      | m _ _ _ => exact ⟨hpD_flat h hq, fun h => by cases h⟩)
end
theorem okF_at {cs : List Value} {n c j : Nat} (h : okF cs n c) (hj : j < n) (k : Nat) (hk : k < 4) : cs[0 + j * 4 + k]? = some (i (f_ cs j k)) := by
  have h1 := h.2.2.2 j hj
  unfold k4 areCells areCells areCells areCells areCells at h1
  simp only [Bool.and_eq_true, Bool.and_true] at h1
  obtain ⟨g0, g1, g2, g3⟩ := h1
  match k, hk with
  | 0, _ => exact cellAt_eq g0
  | 1, _ => exact cellAt_eq g1
  | 2, _ => exact cellAt_eq g2
  | 3, _ => exact cellAt_eq g3
theorem take_el {cs : List Value} {n c j : Nat} (h : okF cs n c) (hj : j < n) : cs.take ((j + 1) * 4) = cs.take (j * 4) ++ elF cs (j : Int) := by
  have e : (j + 1) * 4 = j * 4 + 1 + 1 + 1 + 1 := by omega
  have a0 := okF_at h hj 0 (by decide)
  have a1 := okF_at h hj 1 (by decide)
  have a2 := okF_at h hj 2 (by decide)
  have a3 := okF_at h hj 3 (by decide)
  rw [show 0 + j * 4 + 0 = j * 4 from by omega] at a0
  rw [show 0 + j * 4 + 1 = j * 4 + 1 from by omega] at a1
  rw [show 0 + j * 4 + 2 = j * 4 + 1 + 1 from by omega] at a2
  rw [show 0 + j * 4 + 3 = j * 4 + 1 + 1 + 1 from by omega] at a3
  rw [e, List.take_add_one, List.take_add_one, List.take_add_one, List.take_add_one, a0, a1, a2, a3]
  simp [elF]
def fsT (cs : List Value) : Nat → PS
  | 0 => .z
  | j + 1 => .m ((j + 1 : Nat) : Int) (j + 1) (cs.take ((j + 1) * 4))
theorem full4_t {l : Nat} {out : List Value} (h : out.length = l * 4) (hl : l < 1000000) : full4 l out = true := by
  unfold full4
  rw [decide_eq_true rfl, decide_eq_true h, decide_eq_true (by omega)]; rfl
theorem runD_ {cs : List Value} {n c : Nat} (h : okF cs n c) (hn : n < 1000000) (hl : cs.length = n * 4) : runS (stD cs n c) (n + 1) .z = some (0, fsT cs n) := by
  have hc := h.2.1
  refine run_all (st := fsT cs) n (fun j hj => ?_) ?_
  · have hT : fsT cs (j + 1) = .m ((j + 1 : Nat) : Int) (j + 1) (cs.take (j * 4) ++ elF cs (j : Int)) := by rw [← take_el h hj]; rfl
    rw [hT]
    cases j with
    | zero =>
      show (stD cs n c .z).sel = _
      unfold stD
      rw [br_t (by rw [ltF_eq]; simpa using hj), askS_sel (show bnd_ 0 n c = true from bnd_t (j := 0) hj hc), askS_sel (show cF cs 0 = true from h.2.2.2 0 hj)]; rfl
    | succ j =>
      show (stD cs n c (.m ((j + 1 : Nat) : Int) (j + 1) (cs.take ((j + 1) * 4)))).sel = _
      unfold stD
      dsimp only
      rw [br_t (by rw [ltF_eq]; exact decide_eq_true (by omega)), askS_sel (bnd_t hj hc), askS_sel (show cF cs ((j + 1 : Nat) : Int) = true from h.2.2.2 (j + 1) hj), askS_sel (full4_t (by rw [List.length_take, hl]; omega) (by omega)), wsucc (by omega)]; rfl
  · cases n with
    | zero => rfl
    | succ n =>
      show (stD cs (n + 1) c (.m ((n + 1 : Nat) : Int) _ _)).sel = _
      unfold stD
      dsimp only
      rw [br_f (by rw [ltF_eq]; simp)]; rfl
section
variable (cs : List Value) (t s n c : Nat) (ex : Bool)
noncomputable def K23 (r : Nat × PS) : Cfg := ⟨noT, no_, off_, loopE noL 9 3 18 2 B23 ((SD 89 cs t s n c ex).st .z).live ((SD 89 cs t s n c ex).st .z).hp (finO (SD 89 cs t s n c ex) r [0])⟩
noncomputable def o23 (r : Nat × PS) : Out QRes := execO Tryz.prog 2 (K23 cs t s n c ex r) 60 (.call 9 ⟨[sl 1 0 n c]⟩ (heapL (deads ++ [.cells cs t s ex])))
theorem v23 (j : Int) (l : Nat) (out : List Value) : (o23 cs t s n c ex (0, .m j l out)).news = .br true (.leaf 2 (.sl l l out 89 4 false)) .fail := by kernel_rfl
theorem x23 (j : Int) (l : Nat) (out : List Value) : o23 cs t s n c ex (0, .m j l out) = (o23 cs t s n c ex (0, .m j l out)).fix := by kernel_rfl
end
def CfE (cs : List Value) (n c : Nat) : Prop := okF cs n c ∧ 1 ≤ n ∧ n < 1000000 ∧ cs.length = n * 4
def sp23 (e : Nat) : NSpec := fun al css => match al, css with
  | [.slice (some ⟨1, 0, none⟩) n c], [cs] => some (CfE cs n c, .sl n n cs e 4 false)
  | _, _ => none
theorem fsT_end {cs : List Value} {k : Nat} (h : cs.length = (k + 1) * 4) : fsT cs (k + 1) = .m ((k + 1 : Nat) : Int) (k + 1) cs := by
  show PS.m _ _ (cs.take ((k + 1) * 4)) = _
  rw [← h, List.take_length]
theorem c23 : ∀ al css os p v, sp23 89 al css = some (p, v) → p → Blks css os → (∀ cs ∈ css, cs.all Ex.flat = true) ∧ v.Ok Tryz.prog 9 al deads os (gl + css.length) := by
  intro al css os p v hs hp hb
  unfold sp23 at hs
  split at hs
  case h_2 => cases hs
  rename_i n c cs
  cases hs
  obtain ⟨t, s, ex, rfl⟩ := blks1 hb
  obtain ⟨p1, p2, p3, p4⟩ := hp
  refine ⟨by simpa using p1.1, ?_⟩
  obtain ⟨k, rfl⟩ : ∃ k, n = k + 1 := ⟨n - 1, by omega⟩
  have hL := (L23 (t := t) (s := s) (ex := ex) (n := k + 1) (c := c) p1.1).table (id := 3) (s0 := .z) .none (by decide) trivial (runD_ p1 p3 p4) (by kernel_rfl) [0]
  rw [fsT_end p4] at hL
  exact news_ok (C := K23 cs t s (k + 1) c ex (0, .m ((k + 1 : Nat) : Int) (k + 1) cs)) (n := 60) .none hL (x23 cs t s (k + 1) c ex _ _ _) (b := 2) ((congrArg NT.sel (v23 cs t s (k + 1) c ex _ _ _)).trans rfl) (show 2 ≤ 2 by decide) p1.1
end Go.Proofs.YteemponkignnhaaGreat.Ways
set_option maxRecDepth 10000
noncomputable section
namespace Go.Proofs.YteemponkignnhaaGreat.Ways
open Go Go.Ex Go.RowKit Go.Turn
def abQ (x : Int) : Int := maxQ x (wrapF .i64 (0 - x))
theorem p89 (x : Int) : Pure Tryz.prog Hd 71 [i x] (i (abQ x)) :=
  pure_run (C := ⟨noT, no_, off_, noL⟩) (G := 1) 30 (.leaf (i (abQ x))) .none .none (by decide) hd_len rfl (by kernel_rfl) (by kernel_rfl) rfl
def s89 : List Value → Option Value
  | [.int .i64 x] => some (i (abQ x))
  | _ => none
noncomputable def TU0 : Tb := ext noT 71 (pureE s89 [] Hd)
theorem tsU0 {G : Nat} : TSound Tryz.prog G TU0 := TSound.pure hd_vars .none fun args v h => by
  unfold s89 at h
  split at h
  · cases h; exact p89 _
  · cases h
noncomputable def CU0 : Cfg := ⟨TU0, at_ [(112, 11), (112, 45)] .bool no_, on_ [(112, 15), (112, 17), (112, 21), (112, 23), (112, 27), (112, 29), (112, 33), (112, 35)], noL⟩
def lfU : VT := .leaf (b_ false)
def ad (x y : Int) : Int := abQ (wrapF .i64 (x - y))
section
variable (st : List Value) (t s l c : Nat) (ex : Bool)
noncomputable def o63 : Out QRes := execO Tryz.prog 2 CU0 40 (.call 112 ⟨[sl 1 0 l c]⟩ (heapL [.dead, .cells st t s ex]))
def t63 (w4 w3 w2 w1 : Int) : VT := .br (ltF l 4) lfU (aV (bnd_ w4 l c) <| aV (cB2 st w4) <| aV (bnd_ w3 l c) <| aV (cB2 st w3) <| aV (bnd_ w2 l c) <| aV (cB2 st w2) <| aV (bnd_ w1 l c) <| aV (cB2 st w1) <|
  .br (leF (ad (pB st w3.toNat) (pB st w2.toNat)) (ad (pB st w4.toNat) (pB st w3.toNat))) (.leaf (b_ (leF (ad (pB st w3.toNat) (pB st w2.toNat)) (ad (pB st w2.toNat) (pB st w1.toNat))))) lfU)
theorem v63 : (o63 st t s l c ex).vals = t63 st l c (wrapF .i64 (l - 4)) (wrapF .i64 (l - 3)) (wrapF .i64 (l - 2)) (wrapF .i64 (l - 1)) := by kernel_rfl
theorem x63 : o63 st t s l c ex = (o63 st t s l c ex).fix := by kernel_rfl
end
def clQ (st : List Value) (m : Nat) : Bool := leF (ad (pB st (m + 1)) (pB st (m + 2))) (ad (pB st m) (pB st (m + 1))) && leF (ad (pB st (m + 1)) (pB st (m + 2))) (ad (pB st (m + 2)) (pB st (m + 3)))
def clB (st : List Value) (l : Nat) : Bool := decide (4 ≤ l) && clQ st (l - 4)
theorem t63_sel {st : List Value} {l c : Nat} (h : okP st l c) (hl : l < 1000000) : (t63 st l c (wrapF .i64 (l - 4)) (wrapF .i64 (l - 3)) (wrapF .i64 (l - 2)) (wrapF .i64 (l - 1))).sel = some (b_ (clB st l)) := by
  have hc := h.2.1
  unfold t63 clB
  by_cases h4 : 4 ≤ l
  · obtain ⟨m, rfl⟩ : ∃ m, l = m + 4 := ⟨l - 4, by omega⟩
    have e4 : wrapF .i64 (((m + 4 : Nat) : Int) - 4) = ((m : Nat) : Int) := by rw [wrapF_in (by omega) (by omega)]; omega
    have e3 : wrapF .i64 (((m + 4 : Nat) : Int) - 3) = ((m + 1 : Nat) : Int) := by rw [wrapF_in (by omega) (by omega)]; omega
    have e2 : wrapF .i64 (((m + 4 : Nat) : Int) - 2) = ((m + 2 : Nat) : Int) := by rw [wrapF_in (by omega) (by omega)]; omega
    have e1 : wrapF .i64 (((m + 4 : Nat) : Int) - 1) = ((m + 3 : Nat) : Int) := by rw [wrapF_in (by omega) (by omega)]; omega
    rw [e4, e3, e2, e1, vb_f (by rw [ltF_eq]; exact decide_eq_false (by omega)), aV_sel (bnd_t (by omega) hc), aV_sel (cB2_t h (by omega)), aV_sel (bnd_t (by omega) hc), aV_sel (cB2_t h (by omega)), aV_sel (bnd_t (by omega) hc), aV_sel (cB2_t h (by omega)), aV_sel (bnd_t (by omega) hc), aV_sel (cB2_t h (by omega)), decide_eq_true h4, Bool.true_and, Nat.add_sub_cancel]
    unfold clQ
    show (VT.br (leF (ad (pB st (m + 1)) (pB st (m + 2))) (ad (pB st m) (pB st (m + 1)))) (.leaf (b_ (leF (ad (pB st (m + 1)) (pB st (m + 2))) (ad (pB st (m + 2)) (pB st (m + 3)))))) lfU).sel = _
    cases leF (ad (pB st (m + 1)) (pB st (m + 2))) (ad (pB st m) (pB st (m + 1))) <;> rfl
  · rw [vb_t (by rw [ltF_eq]; exact decide_eq_true (by omega)), decide_eq_false h4]; rfl
def sp63 : ESpec := fun al css => match al, css with
  | [.slice (some ⟨1, 0, none⟩) l c], [st] => some (BokE st l c, b_ (clB st l))
  | _, _ => none
theorem c63 : ∀ al css os p v, sp63 al css = some (p, v) → p → Blks css os → (∀ cs ∈ css, cs.all Ex.flat = true) ∧ clean 6 v = true ∧ ∃ H', Sound Tryz.prog (gl + css.length) (.call 112 ⟨al⟩ (heapL (deads ++ os))) (.val v H') := by
  intro al css os p v hs hp hb
  unfold sp63 at hs
  split at hs
  case h_2 => cases hs
  rename_i l c st
  cases hs
  obtain ⟨t, s, ex, rfl⟩ := blks1 hb
  refine ⟨by simpa using hp.1.1, rfl, ?_⟩
  obtain ⟨H', h'⟩ := Out.vals_sel (x63 st t s l c ex) (v := b_ (clB st l)) (by rw [v63]; exact t63_sel hp.1 hp.2)
  exact ⟨H', execO_sound (C := CU0) tsU0 .none 40 _ _ h'⟩
noncomputable def TU : Tb := ext TU0 112 (autoE sp63 [] (heapL deads))
theorem tsU {G : Nat} : TSound Tryz.prog G TU := tsU0.auto c63
theorem ad_eq (x y : Int) : ad x y = difQ x y := by
  unfold ad abQ difQ
  have : wrapF .i64 (0 - wrapF .i64 (x - y)) = wrapF .i64 (y - x) := by
    rw [wrapF_eq, wrapF_eq, wrapF_eq, IntKind.wrap_i64, IntKind.wrap_i64, IntKind.wrap_i64]; omega
  rw [this]
theorem leF_min (a b c : Int) : leF a (minQ b c) = (leF a b && leF a c) := by
  unfold minQ
  rw [leF_eq, leF_eq, leF_eq]
  by_cases h : c < b
  · rw [if_pos h]
    by_cases h1 : a ≤ c
    · rw [decide_eq_true h1, decide_eq_true (by omega)]; rfl
    · rw [decide_eq_false h1, Bool.and_false]
  · rw [if_neg h]
    by_cases h1 : a ≤ b
    · rw [decide_eq_true h1, decide_eq_true (by omega)]; rfl
    · rw [decide_eq_false h1, Bool.false_and]
def regC (id : Nat) : Nat → Code → Array Oper
  | 0, _ => #[]
  | k + 1, c => match c with
    | .region j o _ => cond (Nat.beq j id) o #[]
    | .seq a b => cond (Nat.beq (regC id k a).size 0) (regC id k b) (regC id k a)
    | .cond _ a b => cond (Nat.beq (regC id k a).size 0) (regC id k b) (regC id k a)
    | .block _ a => regC id k a
    | .loop a => regC id k a
    | .scope a => regC id k a
    | _ => #[]
noncomputable def OU6 : Array Oper := regC 6 60 (Tryz.f84.body.getD .skip)
noncomputable def OU9 : Array Oper := regC 9 60 (Tryz.f84.body.getD .skip)
noncomputable def OU11 : Array Oper := regC 11 60 (Tryz.f84.body.getD .skip)
theorem mixU : Tryz.prog.follows .mixedOrders = true := by kernel_rfl
def syU : Nat → Nat → Bool := on_ [(84, 18), (84, 200018), (84, 21), (84, 22), (84, 24), (84, 300024), (84, 32), (84, 33), (84, 37), (84, 38), (84, 56), (84, 300056), (84, 61), (84, 62), (84, 200062), (84, 66), (84, 67), (84, 69), (84, 300069)]
def syUz : Nat → Nat → Bool := on_ [(84, 21), (84, 22)]
noncomputable def CUz : Cfg := ⟨TU, no_, syUz, noL⟩
def w3 (l : Nat) : Int := wrapF .i64 ((l : Int) - 3)
def w2 (l : Nat) : Int := wrapF .i64 ((l : Int) - 2)
def w1 (l : Nat) : Int := wrapF .i64 ((l : Int) - 1)
def X6 (st : List Value) (k : Nat) : List Value := (st.drop 0).take (k * 2)
theorem x6_flat {st : List Value} {k : Nat} (h : st.all Ex.flat = true) : (X6 st k).all Ex.flat = true :=
  List.all_eq_true.2 fun x hx => List.all_eq_true.1 h x (List.mem_of_mem_drop (List.mem_of_mem_take hx))
def apN (k l : Nat) (st : List Value) : Bool := !decide (k = 0) && (decide (k ≤ l) && (decide (k ≤ 1048576) && decide (0 + k * 2 ≤ st.length)))
def slN (w : Int) (l : Nat) : Bool := leF 0 0 && (leF 0 w && leF w l)
noncomputable def CU : Cfg := ⟨TU, no_, syU, noL⟩
end Go.Proofs.YteemponkignnhaaGreat.Ways
set_option maxRecDepth 10000
noncomputable section
namespace Go.Proofs.YteemponkignnhaaGreat.Ways
open Go Go.Ex Go.RowKit Go.Turn
section
def hp6s (cs st : List Value) (_n _c _l : Nat) (_j : Int) (t s : Nat) (ex : Bool) : List (CO × Bool) := [(.dead, false), (.cells cs t s ex, true), (.cells st 93 2 false, true), (.dead, false)]
def s6s (cs st : List Value) (n c l : Nat) (j : Int) (t s : Nat) (ex : Bool) : SymS where
  live0 := [(0, sl 1 0 n c), (5, .slice none 0 0), (6, i j)]
  S := [(16, 0, sl 4 0 0 0), (17, 1, sl 2 0 l l), (18, 2, sl 5 0 l l), (19, 3, sl 1 0 n c), (20, 4, i j), (21, 5, pt 1 (0 + j.toNat * 2)), (22, 6, ag (el cs j)), (23, 7, sl 6 0 1 1), (24, 8, sl 7 0 (l + 1) (l + 1))]
  S2 := [(4, 9, sl 2 0 l l, sl 7 0 (l + 1) (l + 1))]
  hp0 := hp6s cs st n c l j t s ex
  A := [(0, .cells [] 93 2 true, 0, .cells [] 93 2 true), (2, .cells (X6 st l) 93 2 false, 8, .dead), (7, .cells (el cs j) 93 2 true, 7, .cells (el cs j) 93 2 true), (8, .cells (X6 st l ++ el cs j) 93 2 false, 8, .cells (X6 st l ++ el cs j) 93 2 false)]
def cd6s (cs st : List Value) (n c l : Nat) (j : Int) (k : Nat) : List Bool := match k with
  | 2 => [apN l l st]
  | 5 => [bnd_ j n c]
  | 6 => [cP cs j]
  | 8 => [full2 l (X6 st l)]
  | _ => []
end
def rho6s (k : Nat) : List Nat := match k with
  | 0 => (List.range 8).set 4 8
  | 2 => (List.range 8).set 5 8
  | 7 => (List.range 8).set 6 8
  | 8 => (List.range 8).set 7 8
  | _ => List.range 8
def len6s (k : Nat) : Nat := cond (Nat.beq k 0 || (Nat.beq k 2 || (Nat.beq k 7 || (Nat.beq k 8)))) 9 8
def ans6s (k : Nat) : List Bool := match k with
  | 2 => [true]
  | 5 => [true]
  | 6 => [true]
  | 8 => [true]
  | _ => []
section
theorem fix6s (cs st : List Value) (n c l : Nat) (j : Int) (t s : Nat) (ex : Bool) : ∀ B : List Bool, B.length = OU6.size → (List.range OU6.size).map (fun k => outV noW Tryz.prog 2 CU 84 OU6 72 (s6s cs st n c l j t s ex) (forceN OU6.size (pre2 OU6) k B) k) = (List.range OU6.size).map fun k => (outV noW Tryz.prog 2 CU 84 OU6 72 (s6s cs st n c l j t s ex) (forceN OU6.size (pre2 OU6) k B) k).fix
  | [x0, x1, x2, x3, x4, x5, x6, x7, x8, x9], _ => by kernel_rfl
theorem obs6s (cs st : List Value) (n c l : Nat) (j : Int) (t s : Nat) (ex : Bool) : ∀ B : List Bool, B.length = OU6.size → (List.range OU6.size).map (fun k => obsV noW Tryz.prog 2 CU 84 OU6 72 (s6s cs st n c l j t s ex) rho6s ans6s (forceN OU6.size (pre2 OU6) k B) k) = (List.range OU6.size).map fun k => expY 72 (s6s cs st n c l j t s ex) rho6s (cd6s cs st n c l j) len6s (forceN OU6.size (pre2 OU6) k B) k
  | [x0, x1, x2, x3, x4, x5, x6, x7, x8, x9], _ => by kernel_rfl
def ok6s (cs st : List Value) (n c l : Nat) (j : Int) : Bool := apN l l st && (bnd_ j n c && (cP cs j && (full2 l (X6 st l))))
end
section
variable {cs st : List Value} {n c l : Nat} {j : Int} {t s : Nat} {ex : Bool}
theorem hp6s_flat (f1 : cs.all Ex.flat = true) (f2 : st.all Ex.flat = true) : ∀ o, (o, true) ∈ hp6s cs st n c l j t s ex → FlatO o := by
  intro o ho
  simp [hp6s] at ho
  rcases ho with rfl | rfl
  · exact fun x hx => List.all_eq_true.1 f1 x hx
  · exact fun x hx => List.all_eq_true.1 f2 x hx
theorem cd6s_ok (h : ok6s cs st n c l j = true) : ∀ k, cd6s cs st n c l j k = (ans6s k).take (cd6s cs st n c l j k).length := by
  unfold ok6s at h
  rw [Bool.and_eq_true, Bool.and_eq_true, Bool.and_eq_true] at h
  obtain ⟨g2, g5, g6, g8⟩ := h
  intro k
  unfold cd6s ans6s
  split
  · rw [g2]; rfl
  · rw [g5]; rfl
  · rw [g6]; rfl
  · rw [g8]; rfl
  · rfl
theorem ord6s {kk : Nat} (hkk : kk = 4) (f1 : cs.all Ex.flat = true) (f2 : st.all Ex.flat = true) (h : ok6s cs st n c l j = true) : Orders (selfA (qS noW)) Tryz.prog 2 OU6 kk (fun m => m < 2 ^ OU6.size ∧ GoodY OU6 (bitsL OU6.size m)) (fun m => absT (tmL 72 ((s6s cs st n c l j t s ex).live (bitsL OU6.size m)))) (fun m => heapL ((s6s cs st n c l j t s ex).hp (bitsL OU6.size m))) (2 ^ OU6.size - 1) := by
  subst hkk
  exact sym_of2 (fix6s cs st n c l j t s ex) (obs6s cs st n c l j t s ex) (cd6s_ok h) (by kernel_rfl) (by kernel_rfl) (by kernel_rfl) (by kernel_rfl) (by kernel_rfl) (hp6s_flat (n := n) (c := c) (l := l) (j := j) (t := t) (s := s) (ex := ex) f1 f2)
    (fun q hq => by
      simp only [s6s, List.mem_cons, List.not_mem_nil, or_false] at hq
      rcases hq with rfl | rfl | rfl | rfl
      · exact ⟨fun x hx => List.all_eq_true.1 (by rfl) x hx, fun x hx => List.all_eq_true.1 (by rfl) x hx⟩
      · exact ⟨fun x hx => List.all_eq_true.1 (x6_flat f2) x hx, trivial⟩
      · exact ⟨fun x hx => List.all_eq_true.1 (by rfl) x hx, fun x hx => List.all_eq_true.1 (by rfl) x hx⟩
      · exact ⟨fun x hx => List.all_eq_true.1 (app_flat (x6_flat f2) rfl) x hx, fun x hx => List.all_eq_true.1 (app_flat (x6_flat f2) rfl) x hx⟩)
    (fun _ hq => absurd hq List.not_mem_nil) (by kernel_rfl)
end
section
def tm6s (cs st : List Value) (n c l : Nat) (j : Int) (t s : Nat) (ex : Bool) : TM := tmL 72 ((s6s cs st n c l j t s ex).live (List.replicate 10 true))
def h6s (cs st : List Value) (n c l : Nat) (j : Int) (t s : Nat) (ex : Bool) : CH := heapL ((s6s cs st n c l j t s ex).hp (List.replicate 10 true))
theorem end6s : bitsL OU6.size (2 ^ OU6.size - 1) = List.replicate 10 true := by kernel_rfl
theorem pad6s (cs st : List Value) (n c l : Nat) (j : Int) (t s : Nat) (ex : Bool) : heapL ((s6s cs st n c l j t s ex).hp (bitsL OU6.size 0)) = heapL ((s6s cs st n c l j t s ex).hp0.map (·.1) ++ List.replicate 4 .dead) := by kernel_rfl
def in6s (_cs _st : List Value) (n c l : Nat) (j : Int) (_t _s : Nat) (_ex : Bool) : List (Nat × Value) := [(0, sl 1 0 n c), (5, .slice none 0 0), (6, i j), (4, sl 2 0 l l)]
theorem zero6s (cs st : List Value) (n c l : Nat) (j : Int) (t s : Nat) (ex : Bool) : tmL 72 ((s6s cs st n c l j t s ex).live (bitsL OU6.size 0)) = tmL 72 (in6s cs st n c l j t s ex) := by kernel_rfl
variable {cs st : List Value} {n c l : Nat} {j : Int} {t s : Nat} {ex : Bool}
theorem snd6s (f1 : cs.all Ex.flat = true) (f2 : st.all Ex.flat = true) (h : ok6s cs st n c l j = true) (ro : Option Nat) {tm0 : Array Value} {H0 : CH} (hk : H0.length = 4) (hst : Restate 4 tm0 H0 (absT (tmL 72 (in6s cs st n c l j t s ex))) (heapL ((s6s cs st n c l j t s ex).hp0.map (·.1)))) :
    Sound Tryz.prog 2 (.code (.region 6 OU6 true) ro tm0 H0 []) (.ex .normal (absT (tm6s cs st n c l j t s ex)) (h6s cs st n c l j t s ex) []) := by
  have ho := ord6s (t := t) (s := s) (ex := ex) hk f1 f2 h
  have hp := pad6s cs st n c l j t s ex
  have hz := zero6s cs st n c l j t s ex
  have h0 := goodY_zero OU6
  unfold tm6s h6s
  rw [← end6s]
  rw [← hz] at hst
  generalize s6s cs st n c l j t s ex = s at *
  rw [← hk] at hst
  exact orders_sound2 (tmS := fun m => absT (tmL 72 (s.live (bitsL OU6.size m)))) (HS := fun m => heapL (s.hp (bitsL OU6.size m))) (mF := 2 ^ OU6.size - 1) (qS_selfSound noW_sound) mixU ho (by rw [hk]; decide) h0 hp hst ro
end
section
noncomputable def L6s (cs st : List Value) (n c l : Nat) (j : Int) (t s : Nat) (ex : Bool) (L : LTab) : LTab := regE L 84 6 72 4 OU6 (in6s cs st n c l j t s ex) (s6s cs st n c l j t s ex).hp0 (.br (ok6s cs st n c l j) (.leaf (.ex .normal (tm6s cs st n c l j t s ex) (h6s cs st n c l j t s ex) [])) .fail)
variable {cs st : List Value} {n c l : Nat} {j : Int} {t s : Nat} {ex : Bool}
theorem ls6s {L : LTab} (hL : LSound Tryz.prog 2 L) (f1 : cs.all Ex.flat = true) (f2 : st.all Ex.flat = true) : LSound Tryz.prog 2 (L6s cs st n c l j t s ex L) := by
  refine LSound.region hL (by kernel_rfl) (hp6s_flat (n := n) (c := c) (l := l) (j := j) (t := t) (s := s) (ex := ex) f1 f2) fun r hr ro tm0 H0 hk hst => ?_
  cases h : ok6s cs st n c l j with
  | false => rw [h] at hr; cases hr
  | true =>
    rw [h] at hr
    cases hr
    exact snd6s (n := n) (c := c) (l := l) (j := j) (t := t) (s := s) (ex := ex) f1 f2 h ro hk hst
end
end Go.Proofs.YteemponkignnhaaGreat.Ways
set_option maxRecDepth 10000
noncomputable section
namespace Go.Proofs.YteemponkignnhaaGreat.Ways
open Go Go.Ex Go.RowKit Go.Turn
section
def hp6b (cs st cy : List Value) (_n _c _l _lc : Nat) (_j : Int) (t s : Nat) (ex : Bool) : List (CO × Bool) := [(.dead, false), (.cells cs t s ex, true), (.cells st 93 2 false, true), (.cells cy 96 4 false, true)]
def s6b (cs st cy : List Value) (n c l lc : Nat) (j : Int) (t s : Nat) (ex : Bool) : SymS where
  live0 := [(0, sl 1 0 n c), (5, sl 3 0 lc lc), (6, i j)]
  S := [(16, 0, sl 4 0 0 0), (17, 1, sl 2 0 l l), (18, 2, sl 5 0 l l), (19, 3, sl 1 0 n c), (20, 4, i j), (21, 5, pt 1 (0 + j.toNat * 2)), (22, 6, ag (el cs j)), (23, 7, sl 6 0 1 1), (24, 8, sl 7 0 (l + 1) (l + 1))]
  S2 := [(4, 9, sl 2 0 l l, sl 7 0 (l + 1) (l + 1))]
  hp0 := hp6b cs st cy n c l lc j t s ex
  A := [(0, .cells [] 93 2 true, 0, .cells [] 93 2 true), (2, .cells (X6 st l) 93 2 false, 8, .dead), (7, .cells (el cs j) 93 2 true, 7, .cells (el cs j) 93 2 true), (8, .cells (X6 st l ++ el cs j) 93 2 false, 8, .cells (X6 st l ++ el cs j) 93 2 false)]
def cd6b (cs st : List Value) (n c l : Nat) (j : Int) (k : Nat) : List Bool := match k with
  | 2 => [apN l l st]
  | 5 => [bnd_ j n c]
  | 6 => [cP cs j]
  | 8 => [full2 l (X6 st l)]
  | _ => []
end
def rho6b (k : Nat) : List Nat := match k with
  | 0 => (List.range 8).set 4 8
  | 2 => (List.range 8).set 5 8
  | 7 => (List.range 8).set 6 8
  | 8 => (List.range 8).set 7 8
  | _ => List.range 8
def len6b (k : Nat) : Nat := cond (Nat.beq k 0 || (Nat.beq k 2 || (Nat.beq k 7 || (Nat.beq k 8)))) 9 8
def ans6b (k : Nat) : List Bool := match k with
  | 2 => [true]
  | 5 => [true]
  | 6 => [true]
  | 8 => [true]
  | _ => []
section
theorem fix6b (cs st cy : List Value) (n c l lc : Nat) (j : Int) (t s : Nat) (ex : Bool) : ∀ B : List Bool, B.length = OU6.size → (List.range OU6.size).map (fun k => outV noW Tryz.prog 2 CU 84 OU6 72 (s6b cs st cy n c l lc j t s ex) (forceN OU6.size (pre2 OU6) k B) k) = (List.range OU6.size).map fun k => (outV noW Tryz.prog 2 CU 84 OU6 72 (s6b cs st cy n c l lc j t s ex) (forceN OU6.size (pre2 OU6) k B) k).fix
  | [x0, x1, x2, x3, x4, x5, x6, x7, x8, x9], _ => by kernel_rfl
theorem obs6b (cs st cy : List Value) (n c l lc : Nat) (j : Int) (t s : Nat) (ex : Bool) : ∀ B : List Bool, B.length = OU6.size → (List.range OU6.size).map (fun k => obsV noW Tryz.prog 2 CU 84 OU6 72 (s6b cs st cy n c l lc j t s ex) rho6b ans6b (forceN OU6.size (pre2 OU6) k B) k) = (List.range OU6.size).map fun k => expY 72 (s6b cs st cy n c l lc j t s ex) rho6b (cd6b cs st n c l j) len6b (forceN OU6.size (pre2 OU6) k B) k
  | [x0, x1, x2, x3, x4, x5, x6, x7, x8, x9], _ => by kernel_rfl
def ok6b (cs st : List Value) (n c l : Nat) (j : Int) : Bool := apN l l st && (bnd_ j n c && (cP cs j && (full2 l (X6 st l))))
end
section
variable {cs st cy : List Value} {n c l lc : Nat} {j : Int} {t s : Nat} {ex : Bool}
theorem hp6b_flat (f1 : cs.all Ex.flat = true) (f2 : st.all Ex.flat = true) (f3 : cy.all Ex.flat = true) : ∀ o, (o, true) ∈ hp6b cs st cy n c l lc j t s ex → FlatO o := by
  intro o ho
  simp [hp6b] at ho
  rcases ho with rfl | rfl | rfl
  · exact fun x hx => List.all_eq_true.1 f1 x hx
  · exact fun x hx => List.all_eq_true.1 f2 x hx
  · exact fun x hx => List.all_eq_true.1 f3 x hx
theorem cd6b_ok (h : ok6b cs st n c l j = true) : ∀ k, cd6b cs st n c l j k = (ans6b k).take (cd6b cs st n c l j k).length := by
  unfold ok6b at h
  rw [Bool.and_eq_true, Bool.and_eq_true, Bool.and_eq_true] at h
  obtain ⟨g2, g5, g6, g8⟩ := h
  intro k
  unfold cd6b ans6b
  split
  · rw [g2]; rfl
  · rw [g5]; rfl
  · rw [g6]; rfl
  · rw [g8]; rfl
  · rfl
theorem ord6b {kk : Nat} (hkk : kk = 4) (f1 : cs.all Ex.flat = true) (f2 : st.all Ex.flat = true) (f3 : cy.all Ex.flat = true) (h : ok6b cs st n c l j = true) : Orders (selfA (qS noW)) Tryz.prog 2 OU6 kk (fun m => m < 2 ^ OU6.size ∧ GoodY OU6 (bitsL OU6.size m)) (fun m => absT (tmL 72 ((s6b cs st cy n c l lc j t s ex).live (bitsL OU6.size m)))) (fun m => heapL ((s6b cs st cy n c l lc j t s ex).hp (bitsL OU6.size m))) (2 ^ OU6.size - 1) := by
  subst hkk
  exact sym_of2 (fix6b cs st cy n c l lc j t s ex) (obs6b cs st cy n c l lc j t s ex) (cd6b_ok h) (by kernel_rfl) (by kernel_rfl) (by kernel_rfl) (by kernel_rfl) (by kernel_rfl) (hp6b_flat (n := n) (c := c) (l := l) (lc := lc) (j := j) (t := t) (s := s) (ex := ex) f1 f2 f3)
    (fun q hq => by
      simp only [s6b, List.mem_cons, List.not_mem_nil, or_false] at hq
      rcases hq with rfl | rfl | rfl | rfl
      · exact ⟨fun x hx => List.all_eq_true.1 (by rfl) x hx, fun x hx => List.all_eq_true.1 (by rfl) x hx⟩
      · exact ⟨fun x hx => List.all_eq_true.1 (x6_flat f2) x hx, trivial⟩
      · exact ⟨fun x hx => List.all_eq_true.1 (by rfl) x hx, fun x hx => List.all_eq_true.1 (by rfl) x hx⟩
      · exact ⟨fun x hx => List.all_eq_true.1 (app_flat (x6_flat f2) rfl) x hx, fun x hx => List.all_eq_true.1 (app_flat (x6_flat f2) rfl) x hx⟩)
    (fun _ hq => absurd hq List.not_mem_nil) (by kernel_rfl)
end
section
def tm6b (cs st cy : List Value) (n c l lc : Nat) (j : Int) (t s : Nat) (ex : Bool) : TM := tmL 72 ((s6b cs st cy n c l lc j t s ex).live (List.replicate 10 true))
def h6b (cs st cy : List Value) (n c l lc : Nat) (j : Int) (t s : Nat) (ex : Bool) : CH := heapL ((s6b cs st cy n c l lc j t s ex).hp (List.replicate 10 true))
theorem end6b : bitsL OU6.size (2 ^ OU6.size - 1) = List.replicate 10 true := by kernel_rfl
theorem pad6b (cs st cy : List Value) (n c l lc : Nat) (j : Int) (t s : Nat) (ex : Bool) : heapL ((s6b cs st cy n c l lc j t s ex).hp (bitsL OU6.size 0)) = heapL ((s6b cs st cy n c l lc j t s ex).hp0.map (·.1) ++ List.replicate 4 .dead) := by kernel_rfl
def in6b (_cs _st _cy : List Value) (n c l lc : Nat) (j : Int) (_t _s : Nat) (_ex : Bool) : List (Nat × Value) := [(0, sl 1 0 n c), (5, sl 3 0 lc lc), (6, i j), (4, sl 2 0 l l)]
theorem zero6b (cs st cy : List Value) (n c l lc : Nat) (j : Int) (t s : Nat) (ex : Bool) : tmL 72 ((s6b cs st cy n c l lc j t s ex).live (bitsL OU6.size 0)) = tmL 72 (in6b cs st cy n c l lc j t s ex) := by kernel_rfl
variable {cs st cy : List Value} {n c l lc : Nat} {j : Int} {t s : Nat} {ex : Bool}
theorem snd6b (f1 : cs.all Ex.flat = true) (f2 : st.all Ex.flat = true) (f3 : cy.all Ex.flat = true) (h : ok6b cs st n c l j = true) (ro : Option Nat) {tm0 : Array Value} {H0 : CH} (hk : H0.length = 4) (hst : Restate 4 tm0 H0 (absT (tmL 72 (in6b cs st cy n c l lc j t s ex))) (heapL ((s6b cs st cy n c l lc j t s ex).hp0.map (·.1)))) :
    Sound Tryz.prog 2 (.code (.region 6 OU6 true) ro tm0 H0 []) (.ex .normal (absT (tm6b cs st cy n c l lc j t s ex)) (h6b cs st cy n c l lc j t s ex) []) := by
  have ho := ord6b (lc := lc) (t := t) (s := s) (ex := ex) hk f1 f2 f3 h
  have hp := pad6b cs st cy n c l lc j t s ex
  have hz := zero6b cs st cy n c l lc j t s ex
  have h0 := goodY_zero OU6
  unfold tm6b h6b
  rw [← end6b]
  rw [← hz] at hst
  generalize s6b cs st cy n c l lc j t s ex = s at *
  rw [← hk] at hst
  exact orders_sound2 (tmS := fun m => absT (tmL 72 (s.live (bitsL OU6.size m)))) (HS := fun m => heapL (s.hp (bitsL OU6.size m))) (mF := 2 ^ OU6.size - 1) (qS_selfSound noW_sound) mixU ho (by rw [hk]; decide) h0 hp hst ro
end
section
noncomputable def L6b (cs st cy : List Value) (n c l lc : Nat) (j : Int) (t s : Nat) (ex : Bool) (L : LTab) : LTab := regE L 84 6 72 4 OU6 (in6b cs st cy n c l lc j t s ex) (s6b cs st cy n c l lc j t s ex).hp0 (.br (ok6b cs st n c l j) (.leaf (.ex .normal (tm6b cs st cy n c l lc j t s ex) (h6b cs st cy n c l lc j t s ex) [])) .fail)
variable {cs st cy : List Value} {n c l lc : Nat} {j : Int} {t s : Nat} {ex : Bool}
theorem ls6b {L : LTab} (hL : LSound Tryz.prog 2 L) (f1 : cs.all Ex.flat = true) (f2 : st.all Ex.flat = true) (f3 : cy.all Ex.flat = true) : LSound Tryz.prog 2 (L6b cs st cy n c l lc j t s ex L) := by
  refine LSound.region hL (by kernel_rfl) (hp6b_flat (n := n) (c := c) (l := l) (lc := lc) (j := j) (t := t) (s := s) (ex := ex) f1 f2 f3) fun r hr ro tm0 H0 hk hst => ?_
  cases h : ok6b cs st n c l j with
  | false => rw [h] at hr; cases hr
  | true =>
    rw [h] at hr
    cases hr
    exact snd6b (n := n) (c := c) (l := l) (lc := lc) (j := j) (t := t) (s := s) (ex := ex) f1 f2 f3 h ro hk hst
end
end Go.Proofs.YteemponkignnhaaGreat.Ways
set_option maxRecDepth 10000
noncomputable section
namespace Go.Proofs.YteemponkignnhaaGreat.Ways
open Go Go.Ex Go.RowKit Go.Turn
section
def hp6z (cs : List Value) (_n _c : Nat) (t s : Nat) (ex : Bool) : List (CO × Bool) := [(.dead, false), (.cells cs t s ex, true)]
def s6z (cs : List Value) (n c : Nat) (t s : Nat) (ex : Bool) : SymS where
  live0 := [(0, sl 1 0 n c), (5, .slice none 0 0), (6, i 0)]
  S := [(16, 0, sl 2 0 0 0), (17, 1, .slice none 0 0), (18, 2, sl 2 0 0 0), (19, 3, sl 1 0 n c), (20, 4, i 0), (21, 5, pt 1 0), (22, 6, ag (el cs 0)), (23, 7, sl 3 0 1 1), (24, 8, sl 4 0 1 1)]
  S2 := [(4, 9, .slice none 0 0, sl 4 0 1 1)]
  hp0 := hp6z cs n c t s ex
  A := [(0, .cells [] 93 2 true, 0, .cells [] 93 2 true), (7, .cells (el cs 0) 93 2 true, 7, .cells (el cs 0) 93 2 true), (8, .cells (el cs 0) 93 2 false, 8, .cells (el cs 0) 93 2 false)]
def cd6z (cs : List Value) (n c : Nat) (k : Nat) : List Bool := match k with
  | 5 => [bnd_ 0 n c]
  | 6 => [cP cs 0]
  | _ => []
end
def rho6z (k : Nat) : List Nat := match k with
  | 0 => (List.range 5).set 2 5
  | 7 => (List.range 5).set 3 5
  | 8 => (List.range 5).set 4 5
  | _ => List.range 5
def len6z (k : Nat) : Nat := cond (Nat.beq k 0 || (Nat.beq k 7 || (Nat.beq k 8))) 6 5
def ans6z (k : Nat) : List Bool := match k with
  | 5 => [true]
  | 6 => [true]
  | _ => []
section
theorem fix6z (cs : List Value) (n c : Nat) (t s : Nat) (ex : Bool) : ∀ B : List Bool, B.length = OU6.size → (List.range OU6.size).map (fun k => outV noW Tryz.prog 2 CUz 84 OU6 72 (s6z cs n c t s ex) (forceN OU6.size (pre2 OU6) k B) k) = (List.range OU6.size).map fun k => (outV noW Tryz.prog 2 CUz 84 OU6 72 (s6z cs n c t s ex) (forceN OU6.size (pre2 OU6) k B) k).fix
  | [x0, x1, x2, x3, x4, x5, x6, x7, x8, x9], _ => by kernel_rfl
theorem obs6z (cs : List Value) (n c : Nat) (t s : Nat) (ex : Bool) : ∀ B : List Bool, B.length = OU6.size → (List.range OU6.size).map (fun k => obsV noW Tryz.prog 2 CUz 84 OU6 72 (s6z cs n c t s ex) rho6z ans6z (forceN OU6.size (pre2 OU6) k B) k) = (List.range OU6.size).map fun k => expY 72 (s6z cs n c t s ex) rho6z (cd6z cs n c) len6z (forceN OU6.size (pre2 OU6) k B) k
  | [x0, x1, x2, x3, x4, x5, x6, x7, x8, x9], _ => by kernel_rfl
def ok6z (cs : List Value) (n c : Nat) : Bool := bnd_ 0 n c && (cP cs 0)
end
section
variable {cs : List Value} {n c : Nat} {t s : Nat} {ex : Bool}
theorem hp6z_flat (f1 : cs.all Ex.flat = true) : ∀ o, (o, true) ∈ hp6z cs n c t s ex → FlatO o := by
  intro o ho
  simp [hp6z] at ho
  rcases ho with rfl
  · exact fun x hx => List.all_eq_true.1 f1 x hx
theorem cd6z_ok (h : ok6z cs n c = true) : ∀ k, cd6z cs n c k = (ans6z k).take (cd6z cs n c k).length := by
  unfold ok6z at h
  rw [Bool.and_eq_true] at h
  obtain ⟨g5, g6⟩ := h
  intro k
  unfold cd6z ans6z
  split
  · rw [g5]; rfl
  · rw [g6]; rfl
  · rfl
theorem ord6z {kk : Nat} (hkk : kk = 2) (f1 : cs.all Ex.flat = true) (h : ok6z cs n c = true) : Orders (selfA (qS noW)) Tryz.prog 2 OU6 kk (fun m => m < 2 ^ OU6.size ∧ GoodY OU6 (bitsL OU6.size m)) (fun m => absT (tmL 72 ((s6z cs n c t s ex).live (bitsL OU6.size m)))) (fun m => heapL ((s6z cs n c t s ex).hp (bitsL OU6.size m))) (2 ^ OU6.size - 1) := by
  subst hkk
  exact sym_of2 (fix6z cs n c t s ex) (obs6z cs n c t s ex) (cd6z_ok h) (by kernel_rfl) (by kernel_rfl) (by kernel_rfl) (by kernel_rfl) (by kernel_rfl) (hp6z_flat (n := n) (c := c) (t := t) (s := s) (ex := ex) f1)
    (fun q hq => by
      simp only [s6z, List.mem_cons, List.not_mem_nil, or_false] at hq
      rcases hq with rfl | rfl | rfl
      · exact ⟨fun x hx => List.all_eq_true.1 (by rfl) x hx, fun x hx => List.all_eq_true.1 (by rfl) x hx⟩
      · exact ⟨fun x hx => List.all_eq_true.1 (by rfl) x hx, fun x hx => List.all_eq_true.1 (by rfl) x hx⟩
      · exact ⟨fun x hx => List.all_eq_true.1 (by rfl) x hx, fun x hx => List.all_eq_true.1 (by rfl) x hx⟩)
    (fun _ hq => absurd hq List.not_mem_nil) (by kernel_rfl)
end
section
def tm6z (cs : List Value) (n c : Nat) (t s : Nat) (ex : Bool) : TM := tmL 72 ((s6z cs n c t s ex).live (List.replicate 10 true))
def h6z (cs : List Value) (n c : Nat) (t s : Nat) (ex : Bool) : CH := heapL ((s6z cs n c t s ex).hp (List.replicate 10 true))
theorem end6z : bitsL OU6.size (2 ^ OU6.size - 1) = List.replicate 10 true := by kernel_rfl
theorem pad6z (cs : List Value) (n c : Nat) (t s : Nat) (ex : Bool) : heapL ((s6z cs n c t s ex).hp (bitsL OU6.size 0)) = heapL ((s6z cs n c t s ex).hp0.map (·.1) ++ List.replicate 3 .dead) := by kernel_rfl
def in6z (_cs : List Value) (n c : Nat) (_t _s : Nat) (_ex : Bool) : List (Nat × Value) := [(0, sl 1 0 n c), (5, .slice none 0 0), (6, i 0), (4, .slice none 0 0)]
theorem zero6z (cs : List Value) (n c : Nat) (t s : Nat) (ex : Bool) : tmL 72 ((s6z cs n c t s ex).live (bitsL OU6.size 0)) = tmL 72 (in6z cs n c t s ex) := by kernel_rfl
variable {cs : List Value} {n c : Nat} {t s : Nat} {ex : Bool}
theorem snd6z (f1 : cs.all Ex.flat = true) (h : ok6z cs n c = true) (ro : Option Nat) {tm0 : Array Value} {H0 : CH} (hk : H0.length = 2) (hst : Restate 2 tm0 H0 (absT (tmL 72 (in6z cs n c t s ex))) (heapL ((s6z cs n c t s ex).hp0.map (·.1)))) :
    Sound Tryz.prog 2 (.code (.region 6 OU6 true) ro tm0 H0 []) (.ex .normal (absT (tm6z cs n c t s ex)) (h6z cs n c t s ex) []) := by
  have ho := ord6z (t := t) (s := s) (ex := ex) hk f1 h
  have hp := pad6z cs n c t s ex
  have hz := zero6z cs n c t s ex
  have h0 := goodY_zero OU6
  unfold tm6z h6z
  rw [← end6z]
  rw [← hz] at hst
  generalize s6z cs n c t s ex = s at *
  rw [← hk] at hst
  exact orders_sound2 (tmS := fun m => absT (tmL 72 (s.live (bitsL OU6.size m)))) (HS := fun m => heapL (s.hp (bitsL OU6.size m))) (mF := 2 ^ OU6.size - 1) (qS_selfSound noW_sound) mixU ho (by rw [hk]; decide) h0 hp hst ro
end
section
noncomputable def L6z (cs : List Value) (n c : Nat) (t s : Nat) (ex : Bool) (L : LTab) : LTab := regE L 84 6 72 2 OU6 (in6z cs n c t s ex) (s6z cs n c t s ex).hp0 (.br (ok6z cs n c) (.leaf (.ex .normal (tm6z cs n c t s ex) (h6z cs n c t s ex) [])) .fail)
variable {cs : List Value} {n c : Nat} {t s : Nat} {ex : Bool}
theorem ls6z {L : LTab} (hL : LSound Tryz.prog 2 L) (f1 : cs.all Ex.flat = true) : LSound Tryz.prog 2 (L6z cs n c t s ex L) := by
  refine LSound.region hL (by kernel_rfl) (hp6z_flat (n := n) (c := c) (t := t) (s := s) (ex := ex) f1) fun r hr ro tm0 H0 hk hst => ?_
  cases h : ok6z cs n c with
  | false => rw [h] at hr; cases hr
  | true =>
    rw [h] at hr
    cases hr
    exact snd6z (n := n) (c := c) (t := t) (s := s) (ex := ex) f1 h ro hk hst
end
end Go.Proofs.YteemponkignnhaaGreat.Ways
set_option maxRecDepth 10000
noncomputable section
namespace Go.Proofs.YteemponkignnhaaGreat.Ways
open Go Go.Ex Go.RowKit Go.Turn
section
def hp9e (cs st : List Value) (_n _c _l : Nat) (_j : Int) (t s : Nat) (ex : Bool) : List (CO × Bool) := [(.dead, false), (.cells cs t s ex, true), (.dead, false), (.dead, false), (.dead, false), (.dead, false), (.dead, false), (.cells st 93 2 false, true)]
def s9e (cs st : List Value) (n c l : Nat) (j : Int) (t s : Nat) (ex : Bool) : SymS where
  live0 := [(0, sl 1 0 n c), (4, sl 7 0 l l), (5, .slice none 0 0), (6, i j), (7, i l)]
  S := [(29, 0, sl 7 0 l l), (30, 1, i l), (31, 2, i (w3 l)), (32, 3, pt 7 (0 + (w3 l).toNat * 2)), (33, 4, ag (el st (w3 l))), (34, 5, sl 7 0 l l), (35, 6, i l), (36, 7, i (w2 l)), (37, 8, pt 7 (0 + (w2 l).toNat * 2)), (38, 9, ag (el st (w2 l))), (8, 10, pt 8 0), (9, 11, pt 9 0)]
  S2 := []
  hp0 := hp9e cs st n c l j t s ex
  A := [(10, .cells [i 0, i 0] 93 1 true, 12, .cells (el st (w3 l)) 93 1 true), (11, .cells [i 0, i 0] 93 1 true, 13, .cells (el st (w2 l)) 93 1 true)]
def cd9e (st : List Value) (l : Nat) (k : Nat) : List Bool := match k with
  | 3 => [bnd_ (w3 l) l l]
  | 4 => [cP st (w3 l)]
  | 8 => [bnd_ (w2 l) l l]
  | 9 => [cP st (w2 l)]
  | _ => []
end
def rho9e (k : Nat) : List Nat := match k with
  | 10 => (List.range 10).set 8 10
  | 11 => (List.range 10).set 9 10
  | _ => List.range 10
def len9e (k : Nat) : Nat := cond (Nat.beq k 10 || (Nat.beq k 11)) 11 10
def ans9e (k : Nat) : List Bool := match k with
  | 3 => [true]
  | 4 => [true]
  | 8 => [true]
  | 9 => [true]
  | _ => []
section
theorem fix9e (cs st : List Value) (n c l : Nat) (j : Int) (t s : Nat) (ex : Bool) : ∀ B : List Bool, B.length = OU9.size → (List.range OU9.size).map (fun k => outV noW Tryz.prog 2 CU 84 OU9 72 (s9e cs st n c l j t s ex) (forceN OU9.size (pre2 OU9) k B) k) = (List.range OU9.size).map fun k => (outV noW Tryz.prog 2 CU 84 OU9 72 (s9e cs st n c l j t s ex) (forceN OU9.size (pre2 OU9) k B) k).fix
  | [x0, x1, x2, x3, x4, x5, x6, x7, x8, x9, x10, x11, x12, x13], _ => by kernel_rfl
theorem obs9e (cs st : List Value) (n c l : Nat) (j : Int) (t s : Nat) (ex : Bool) : ∀ B : List Bool, B.length = OU9.size → (List.range OU9.size).map (fun k => obsV noW Tryz.prog 2 CU 84 OU9 72 (s9e cs st n c l j t s ex) rho9e ans9e (forceN OU9.size (pre2 OU9) k B) k) = (List.range OU9.size).map fun k => expY 72 (s9e cs st n c l j t s ex) rho9e (cd9e st l) len9e (forceN OU9.size (pre2 OU9) k B) k
  | [x0, x1, x2, x3, x4, x5, x6, x7, x8, x9, x10, x11, x12, x13], _ => by kernel_rfl
def ok9e (st : List Value) (l : Nat) : Bool := bnd_ (w3 l) l l && (cP st (w3 l) && (bnd_ (w2 l) l l && (cP st (w2 l))))
end
section
variable {cs st : List Value} {n c l : Nat} {j : Int} {t s : Nat} {ex : Bool}
theorem hp9e_flat (f1 : cs.all Ex.flat = true) (f2 : st.all Ex.flat = true) : ∀ o, (o, true) ∈ hp9e cs st n c l j t s ex → FlatO o := by
  intro o ho
  simp [hp9e] at ho
  rcases ho with rfl | rfl
  · exact fun x hx => List.all_eq_true.1 f1 x hx
  · exact fun x hx => List.all_eq_true.1 f2 x hx
theorem cd9e_ok (h : ok9e st l = true) : ∀ k, cd9e st l k = (ans9e k).take (cd9e st l k).length := by
  unfold ok9e at h
  rw [Bool.and_eq_true, Bool.and_eq_true, Bool.and_eq_true] at h
  obtain ⟨g3, g4, g8, g9⟩ := h
  intro k
  unfold cd9e ans9e
  split
  · rw [g3]; rfl
  · rw [g4]; rfl
  · rw [g8]; rfl
  · rw [g9]; rfl
  · rfl
theorem ord9e {kk : Nat} (hkk : kk = 8) (f1 : cs.all Ex.flat = true) (f2 : st.all Ex.flat = true) (h : ok9e st l = true) : Orders (selfA (qS noW)) Tryz.prog 2 OU9 kk (fun m => m < 2 ^ OU9.size ∧ GoodY OU9 (bitsL OU9.size m)) (fun m => absT (tmL 72 ((s9e cs st n c l j t s ex).live (bitsL OU9.size m)))) (fun m => heapL ((s9e cs st n c l j t s ex).hp (bitsL OU9.size m))) (2 ^ OU9.size - 1) := by
  subst hkk
  exact sym_of2 (fix9e cs st n c l j t s ex) (obs9e cs st n c l j t s ex) (cd9e_ok h) (by kernel_rfl) (by kernel_rfl) (by kernel_rfl) (by kernel_rfl) (by kernel_rfl) (hp9e_flat (n := n) (c := c) (l := l) (j := j) (t := t) (s := s) (ex := ex) f1 f2)
    (fun q hq => by
      simp only [s9e, List.mem_cons, List.not_mem_nil, or_false] at hq
      rcases hq with rfl | rfl
      · exact ⟨fun x hx => List.all_eq_true.1 (by rfl) x hx, fun x hx => List.all_eq_true.1 (by rfl) x hx⟩
      · exact ⟨fun x hx => List.all_eq_true.1 (by rfl) x hx, fun x hx => List.all_eq_true.1 (by rfl) x hx⟩)
    (fun _ hq => absurd hq List.not_mem_nil) (by kernel_rfl)
end
section
def tm9e (cs st : List Value) (n c l : Nat) (j : Int) (t s : Nat) (ex : Bool) : TM := tmL 72 ((s9e cs st n c l j t s ex).live (List.replicate 14 true))
def h9e (cs st : List Value) (n c l : Nat) (j : Int) (t s : Nat) (ex : Bool) : CH := heapL ((s9e cs st n c l j t s ex).hp (List.replicate 14 true))
theorem end9e : bitsL OU9.size (2 ^ OU9.size - 1) = List.replicate 14 true := by kernel_rfl
theorem pad9e (cs st : List Value) (n c l : Nat) (j : Int) (t s : Nat) (ex : Bool) : heapL ((s9e cs st n c l j t s ex).hp (bitsL OU9.size 0)) = heapL ((s9e cs st n c l j t s ex).hp0.map (·.1) ++ List.replicate 2 .dead) := by kernel_rfl
def in9e (_cs _st : List Value) (n c l : Nat) (j : Int) (_t _s : Nat) (_ex : Bool) : List (Nat × Value) := [(0, sl 1 0 n c), (4, sl 7 0 l l), (5, .slice none 0 0), (6, i j), (7, i l)]
theorem zero9e (cs st : List Value) (n c l : Nat) (j : Int) (t s : Nat) (ex : Bool) : tmL 72 ((s9e cs st n c l j t s ex).live (bitsL OU9.size 0)) = tmL 72 (in9e cs st n c l j t s ex) := by kernel_rfl
variable {cs st : List Value} {n c l : Nat} {j : Int} {t s : Nat} {ex : Bool}
theorem snd9e (f1 : cs.all Ex.flat = true) (f2 : st.all Ex.flat = true) (h : ok9e st l = true) (ro : Option Nat) {tm0 : Array Value} {H0 : CH} (hk : H0.length = 8) (hst : Restate 8 tm0 H0 (absT (tmL 72 (in9e cs st n c l j t s ex))) (heapL ((s9e cs st n c l j t s ex).hp0.map (·.1)))) :
    Sound Tryz.prog 2 (.code (.region 9 OU9 true) ro tm0 H0 []) (.ex .normal (absT (tm9e cs st n c l j t s ex)) (h9e cs st n c l j t s ex) []) := by
  have ho := ord9e (n := n) (c := c) (j := j) (t := t) (s := s) (ex := ex) hk f1 f2 h
  have hp := pad9e cs st n c l j t s ex
  have hz := zero9e cs st n c l j t s ex
  have h0 := goodY_zero OU9
  unfold tm9e h9e
  rw [← end9e]
  rw [← hz] at hst
  generalize s9e cs st n c l j t s ex = s at *
  rw [← hk] at hst
  exact orders_sound2 (tmS := fun m => absT (tmL 72 (s.live (bitsL OU9.size m)))) (HS := fun m => heapL (s.hp (bitsL OU9.size m))) (mF := 2 ^ OU9.size - 1) (qS_selfSound noW_sound) mixU ho (by rw [hk]; decide) h0 hp hst ro
end
section
noncomputable def L9e (cs st : List Value) (n c l : Nat) (j : Int) (t s : Nat) (ex : Bool) (L : LTab) : LTab := regE L 84 9 72 8 OU9 (in9e cs st n c l j t s ex) (s9e cs st n c l j t s ex).hp0 (.br (ok9e st l) (.leaf (.ex .normal (tm9e cs st n c l j t s ex) (h9e cs st n c l j t s ex) [])) .fail)
variable {cs st : List Value} {n c l : Nat} {j : Int} {t s : Nat} {ex : Bool}
theorem ls9e {L : LTab} (hL : LSound Tryz.prog 2 L) (f1 : cs.all Ex.flat = true) (f2 : st.all Ex.flat = true) : LSound Tryz.prog 2 (L9e cs st n c l j t s ex L) := by
  refine LSound.region hL (by kernel_rfl) (hp9e_flat (n := n) (c := c) (l := l) (j := j) (t := t) (s := s) (ex := ex) f1 f2) fun r hr ro tm0 H0 hk hst => ?_
  cases h : ok9e st l with
  | false => rw [h] at hr; cases hr
  | true =>
    rw [h] at hr
    cases hr
    exact snd9e (n := n) (c := c) (l := l) (j := j) (t := t) (s := s) (ex := ex) f1 f2 h ro hk hst
end
end Go.Proofs.YteemponkignnhaaGreat.Ways
set_option maxRecDepth 10000
noncomputable section
namespace Go.Proofs.YteemponkignnhaaGreat.Ways
open Go Go.Ex Go.RowKit Go.Turn
section
def hp9o (cs st cy : List Value) (_n _c _l _lc : Nat) (_j : Int) (t s : Nat) (ex : Bool) : List (CO × Bool) := [(.dead, false), (.cells cs t s ex, true), (.dead, false), (.cells cy 96 4 false, true), (.dead, false), (.dead, false), (.dead, false), (.cells st 93 2 false, true)]
def s9o (cs st cy : List Value) (n c l lc : Nat) (j : Int) (t s : Nat) (ex : Bool) : SymS where
  live0 := [(0, sl 1 0 n c), (4, sl 7 0 l l), (5, sl 3 0 lc lc), (6, i j), (7, i l)]
  S := [(29, 0, sl 7 0 l l), (30, 1, i l), (31, 2, i (w3 l)), (32, 3, pt 7 (0 + (w3 l).toNat * 2)), (33, 4, ag (el st (w3 l))), (34, 5, sl 7 0 l l), (35, 6, i l), (36, 7, i (w2 l)), (37, 8, pt 7 (0 + (w2 l).toNat * 2)), (38, 9, ag (el st (w2 l))), (8, 10, pt 8 0), (9, 11, pt 9 0)]
  S2 := []
  hp0 := hp9o cs st cy n c l lc j t s ex
  A := [(10, .cells [i 0, i 0] 93 1 true, 12, .cells (el st (w3 l)) 93 1 true), (11, .cells [i 0, i 0] 93 1 true, 13, .cells (el st (w2 l)) 93 1 true)]
def cd9o (st : List Value) (l : Nat) (k : Nat) : List Bool := match k with
  | 3 => [bnd_ (w3 l) l l]
  | 4 => [cP st (w3 l)]
  | 8 => [bnd_ (w2 l) l l]
  | 9 => [cP st (w2 l)]
  | _ => []
end
def rho9o (k : Nat) : List Nat := match k with
  | 10 => (List.range 10).set 8 10
  | 11 => (List.range 10).set 9 10
  | _ => List.range 10
def len9o (k : Nat) : Nat := cond (Nat.beq k 10 || (Nat.beq k 11)) 11 10
def ans9o (k : Nat) : List Bool := match k with
  | 3 => [true]
  | 4 => [true]
  | 8 => [true]
  | 9 => [true]
  | _ => []
section
theorem fix9o (cs st cy : List Value) (n c l lc : Nat) (j : Int) (t s : Nat) (ex : Bool) : ∀ B : List Bool, B.length = OU9.size → (List.range OU9.size).map (fun k => outV noW Tryz.prog 2 CU 84 OU9 72 (s9o cs st cy n c l lc j t s ex) (forceN OU9.size (pre2 OU9) k B) k) = (List.range OU9.size).map fun k => (outV noW Tryz.prog 2 CU 84 OU9 72 (s9o cs st cy n c l lc j t s ex) (forceN OU9.size (pre2 OU9) k B) k).fix
  | [x0, x1, x2, x3, x4, x5, x6, x7, x8, x9, x10, x11, x12, x13], _ => by kernel_rfl
theorem obs9o (cs st cy : List Value) (n c l lc : Nat) (j : Int) (t s : Nat) (ex : Bool) : ∀ B : List Bool, B.length = OU9.size → (List.range OU9.size).map (fun k => obsV noW Tryz.prog 2 CU 84 OU9 72 (s9o cs st cy n c l lc j t s ex) rho9o ans9o (forceN OU9.size (pre2 OU9) k B) k) = (List.range OU9.size).map fun k => expY 72 (s9o cs st cy n c l lc j t s ex) rho9o (cd9o st l) len9o (forceN OU9.size (pre2 OU9) k B) k
  | [x0, x1, x2, x3, x4, x5, x6, x7, x8, x9, x10, x11, x12, x13], _ => by kernel_rfl
def ok9o (st : List Value) (l : Nat) : Bool := bnd_ (w3 l) l l && (cP st (w3 l) && (bnd_ (w2 l) l l && (cP st (w2 l))))
end
section
variable {cs st cy : List Value} {n c l lc : Nat} {j : Int} {t s : Nat} {ex : Bool}
theorem hp9o_flat (f1 : cs.all Ex.flat = true) (f3 : cy.all Ex.flat = true) (f2 : st.all Ex.flat = true) : ∀ o, (o, true) ∈ hp9o cs st cy n c l lc j t s ex → FlatO o := by
  intro o ho
  simp [hp9o] at ho
  rcases ho with rfl | rfl | rfl
  · exact fun x hx => List.all_eq_true.1 f1 x hx
  · exact fun x hx => List.all_eq_true.1 f3 x hx
  · exact fun x hx => List.all_eq_true.1 f2 x hx
theorem cd9o_ok (h : ok9o st l = true) : ∀ k, cd9o st l k = (ans9o k).take (cd9o st l k).length := by
  unfold ok9o at h
  rw [Bool.and_eq_true, Bool.and_eq_true, Bool.and_eq_true] at h
  obtain ⟨g3, g4, g8, g9⟩ := h
  intro k
  unfold cd9o ans9o
  split
  · rw [g3]; rfl
  · rw [g4]; rfl
  · rw [g8]; rfl
  · rw [g9]; rfl
  · rfl
theorem ord9o {kk : Nat} (hkk : kk = 8) (f1 : cs.all Ex.flat = true) (f3 : cy.all Ex.flat = true) (f2 : st.all Ex.flat = true) (h : ok9o st l = true) : Orders (selfA (qS noW)) Tryz.prog 2 OU9 kk (fun m => m < 2 ^ OU9.size ∧ GoodY OU9 (bitsL OU9.size m)) (fun m => absT (tmL 72 ((s9o cs st cy n c l lc j t s ex).live (bitsL OU9.size m)))) (fun m => heapL ((s9o cs st cy n c l lc j t s ex).hp (bitsL OU9.size m))) (2 ^ OU9.size - 1) := by
  subst hkk
  exact sym_of2 (fix9o cs st cy n c l lc j t s ex) (obs9o cs st cy n c l lc j t s ex) (cd9o_ok h) (by kernel_rfl) (by kernel_rfl) (by kernel_rfl) (by kernel_rfl) (by kernel_rfl) (hp9o_flat (n := n) (c := c) (l := l) (lc := lc) (j := j) (t := t) (s := s) (ex := ex) f1 f3 f2)
    (fun q hq => by
      simp only [s9o, List.mem_cons, List.not_mem_nil, or_false] at hq
      rcases hq with rfl | rfl
      · exact ⟨fun x hx => List.all_eq_true.1 (by rfl) x hx, fun x hx => List.all_eq_true.1 (by rfl) x hx⟩
      · exact ⟨fun x hx => List.all_eq_true.1 (by rfl) x hx, fun x hx => List.all_eq_true.1 (by rfl) x hx⟩)
    (fun _ hq => absurd hq List.not_mem_nil) (by kernel_rfl)
end
section
def tm9o (cs st cy : List Value) (n c l lc : Nat) (j : Int) (t s : Nat) (ex : Bool) : TM := tmL 72 ((s9o cs st cy n c l lc j t s ex).live (List.replicate 14 true))
def h9o (cs st cy : List Value) (n c l lc : Nat) (j : Int) (t s : Nat) (ex : Bool) : CH := heapL ((s9o cs st cy n c l lc j t s ex).hp (List.replicate 14 true))
theorem end9o : bitsL OU9.size (2 ^ OU9.size - 1) = List.replicate 14 true := by kernel_rfl
theorem pad9o (cs st cy : List Value) (n c l lc : Nat) (j : Int) (t s : Nat) (ex : Bool) : heapL ((s9o cs st cy n c l lc j t s ex).hp (bitsL OU9.size 0)) = heapL ((s9o cs st cy n c l lc j t s ex).hp0.map (·.1) ++ List.replicate 2 .dead) := by kernel_rfl
def in9o (_cs _st _cy : List Value) (n c l lc : Nat) (j : Int) (_t _s : Nat) (_ex : Bool) : List (Nat × Value) := [(0, sl 1 0 n c), (4, sl 7 0 l l), (5, sl 3 0 lc lc), (6, i j), (7, i l)]
theorem zero9o (cs st cy : List Value) (n c l lc : Nat) (j : Int) (t s : Nat) (ex : Bool) : tmL 72 ((s9o cs st cy n c l lc j t s ex).live (bitsL OU9.size 0)) = tmL 72 (in9o cs st cy n c l lc j t s ex) := by kernel_rfl
variable {cs st cy : List Value} {n c l lc : Nat} {j : Int} {t s : Nat} {ex : Bool}
theorem snd9o (f1 : cs.all Ex.flat = true) (f3 : cy.all Ex.flat = true) (f2 : st.all Ex.flat = true) (h : ok9o st l = true) (ro : Option Nat) {tm0 : Array Value} {H0 : CH} (hk : H0.length = 8) (hst : Restate 8 tm0 H0 (absT (tmL 72 (in9o cs st cy n c l lc j t s ex))) (heapL ((s9o cs st cy n c l lc j t s ex).hp0.map (·.1)))) :
    Sound Tryz.prog 2 (.code (.region 9 OU9 true) ro tm0 H0 []) (.ex .normal (absT (tm9o cs st cy n c l lc j t s ex)) (h9o cs st cy n c l lc j t s ex) []) := by
  have ho := ord9o (n := n) (c := c) (lc := lc) (j := j) (t := t) (s := s) (ex := ex) hk f1 f3 f2 h
  have hp := pad9o cs st cy n c l lc j t s ex
  have hz := zero9o cs st cy n c l lc j t s ex
  have h0 := goodY_zero OU9
  unfold tm9o h9o
  rw [← end9o]
  rw [← hz] at hst
  generalize s9o cs st cy n c l lc j t s ex = s at *
  rw [← hk] at hst
  exact orders_sound2 (tmS := fun m => absT (tmL 72 (s.live (bitsL OU9.size m)))) (HS := fun m => heapL (s.hp (bitsL OU9.size m))) (mF := 2 ^ OU9.size - 1) (qS_selfSound noW_sound) mixU ho (by rw [hk]; decide) h0 hp hst ro
end
section
noncomputable def L9o (cs st cy : List Value) (n c l lc : Nat) (j : Int) (t s : Nat) (ex : Bool) (L : LTab) : LTab := regE L 84 9 72 8 OU9 (in9o cs st cy n c l lc j t s ex) (s9o cs st cy n c l lc j t s ex).hp0 (.br (ok9o st l) (.leaf (.ex .normal (tm9o cs st cy n c l lc j t s ex) (h9o cs st cy n c l lc j t s ex) [])) .fail)
variable {cs st cy : List Value} {n c l lc : Nat} {j : Int} {t s : Nat} {ex : Bool}
theorem ls9o {L : LTab} (hL : LSound Tryz.prog 2 L) (f1 : cs.all Ex.flat = true) (f3 : cy.all Ex.flat = true) (f2 : st.all Ex.flat = true) : LSound Tryz.prog 2 (L9o cs st cy n c l lc j t s ex L) := by
  refine LSound.region hL (by kernel_rfl) (hp9o_flat (n := n) (c := c) (l := l) (lc := lc) (j := j) (t := t) (s := s) (ex := ex) f1 f3 f2) fun r hr ro tm0 H0 hk hst => ?_
  cases h : ok9o st l with
  | false => rw [h] at hr; cases hr
  | true =>
    rw [h] at hr
    cases hr
    exact snd9o (n := n) (c := c) (l := l) (lc := lc) (j := j) (t := t) (s := s) (ex := ex) f1 f3 f2 h ro hk hst
end
end Go.Proofs.YteemponkignnhaaGreat.Ways
set_option maxRecDepth 10000
noncomputable section
namespace Go.Proofs.YteemponkignnhaaGreat.Ways
open Go Go.Ex Go.RowKit Go.Turn
section
def hp9f (cs st cy : List Value) (_n _c _l _lc : Nat) (_j : Int) (t s : Nat) (ex : Bool) : List (CO × Bool) := [(.dead, false), (.cells cs t s ex, true), (.dead, false), (.dead, false), (.dead, false), (.dead, false), (.dead, false), (.dead, false), (.cells st 93 2 false, true), (.cells cy 96 4 false, true)]
def s9f (cs st cy : List Value) (n c l lc : Nat) (j : Int) (t s : Nat) (ex : Bool) : SymS where
  live0 := [(0, sl 1 0 n c), (4, sl 8 0 l l), (5, sl 9 0 lc lc), (6, i j), (7, i l)]
  S := [(29, 0, sl 8 0 l l), (30, 1, i l), (31, 2, i (w3 l)), (32, 3, pt 8 (0 + (w3 l).toNat * 2)), (33, 4, ag (el st (w3 l))), (34, 5, sl 8 0 l l), (35, 6, i l), (36, 7, i (w2 l)), (37, 8, pt 8 (0 + (w2 l).toNat * 2)), (38, 9, ag (el st (w2 l))), (8, 10, pt 10 0), (9, 11, pt 11 0)]
  S2 := []
  hp0 := hp9f cs st cy n c l lc j t s ex
  A := [(10, .cells [i 0, i 0] 93 1 true, 12, .cells (el st (w3 l)) 93 1 true), (11, .cells [i 0, i 0] 93 1 true, 13, .cells (el st (w2 l)) 93 1 true)]
def cd9f (st : List Value) (l : Nat) (k : Nat) : List Bool := match k with
  | 3 => [bnd_ (w3 l) l l]
  | 4 => [cP st (w3 l)]
  | 8 => [bnd_ (w2 l) l l]
  | 9 => [cP st (w2 l)]
  | _ => []
end
def rho9f (k : Nat) : List Nat := match k with
  | 10 => (List.range 12).set 10 12
  | 11 => (List.range 12).set 11 12
  | _ => List.range 12
def len9f (k : Nat) : Nat := cond (Nat.beq k 10 || (Nat.beq k 11)) 13 12
def ans9f (k : Nat) : List Bool := match k with
  | 3 => [true]
  | 4 => [true]
  | 8 => [true]
  | 9 => [true]
  | _ => []
section
theorem fix9f (cs st cy : List Value) (n c l lc : Nat) (j : Int) (t s : Nat) (ex : Bool) : ∀ B : List Bool, B.length = OU9.size → (List.range OU9.size).map (fun k => outV noW Tryz.prog 2 CU 84 OU9 72 (s9f cs st cy n c l lc j t s ex) (forceN OU9.size (pre2 OU9) k B) k) = (List.range OU9.size).map fun k => (outV noW Tryz.prog 2 CU 84 OU9 72 (s9f cs st cy n c l lc j t s ex) (forceN OU9.size (pre2 OU9) k B) k).fix
  | [x0, x1, x2, x3, x4, x5, x6, x7, x8, x9, x10, x11, x12, x13], _ => by kernel_rfl
theorem obs9f (cs st cy : List Value) (n c l lc : Nat) (j : Int) (t s : Nat) (ex : Bool) : ∀ B : List Bool, B.length = OU9.size → (List.range OU9.size).map (fun k => obsV noW Tryz.prog 2 CU 84 OU9 72 (s9f cs st cy n c l lc j t s ex) rho9f ans9f (forceN OU9.size (pre2 OU9) k B) k) = (List.range OU9.size).map fun k => expY 72 (s9f cs st cy n c l lc j t s ex) rho9f (cd9f st l) len9f (forceN OU9.size (pre2 OU9) k B) k
  | [x0, x1, x2, x3, x4, x5, x6, x7, x8, x9, x10, x11, x12, x13], _ => by kernel_rfl
def ok9f (st : List Value) (l : Nat) : Bool := bnd_ (w3 l) l l && (cP st (w3 l) && (bnd_ (w2 l) l l && (cP st (w2 l))))
end
section
variable {cs st cy : List Value} {n c l lc : Nat} {j : Int} {t s : Nat} {ex : Bool}
theorem hp9f_flat (f1 : cs.all Ex.flat = true) (f2 : st.all Ex.flat = true) (f3 : cy.all Ex.flat = true) : ∀ o, (o, true) ∈ hp9f cs st cy n c l lc j t s ex → FlatO o := by
  intro o ho
  simp [hp9f] at ho
  rcases ho with rfl | rfl | rfl
  · exact fun x hx => List.all_eq_true.1 f1 x hx
  · exact fun x hx => List.all_eq_true.1 f2 x hx
  · exact fun x hx => List.all_eq_true.1 f3 x hx
theorem cd9f_ok (h : ok9f st l = true) : ∀ k, cd9f st l k = (ans9f k).take (cd9f st l k).length := by
  unfold ok9f at h
  rw [Bool.and_eq_true, Bool.and_eq_true, Bool.and_eq_true] at h
  obtain ⟨g3, g4, g8, g9⟩ := h
  intro k
  unfold cd9f ans9f
  split
  · rw [g3]; rfl
  · rw [g4]; rfl
  · rw [g8]; rfl
  · rw [g9]; rfl
  · rfl
theorem ord9f {kk : Nat} (hkk : kk = 10) (f1 : cs.all Ex.flat = true) (f2 : st.all Ex.flat = true) (f3 : cy.all Ex.flat = true) (h : ok9f st l = true) : Orders (selfA (qS noW)) Tryz.prog 2 OU9 kk (fun m => m < 2 ^ OU9.size ∧ GoodY OU9 (bitsL OU9.size m)) (fun m => absT (tmL 72 ((s9f cs st cy n c l lc j t s ex).live (bitsL OU9.size m)))) (fun m => heapL ((s9f cs st cy n c l lc j t s ex).hp (bitsL OU9.size m))) (2 ^ OU9.size - 1) := by
  subst hkk
  exact sym_of2 (fix9f cs st cy n c l lc j t s ex) (obs9f cs st cy n c l lc j t s ex) (cd9f_ok h) (by kernel_rfl) (by kernel_rfl) (by kernel_rfl) (by kernel_rfl) (by kernel_rfl) (hp9f_flat (n := n) (c := c) (l := l) (lc := lc) (j := j) (t := t) (s := s) (ex := ex) f1 f2 f3)
    (fun q hq => by
      simp only [s9f, List.mem_cons, List.not_mem_nil, or_false] at hq
      rcases hq with rfl | rfl
      · exact ⟨fun x hx => List.all_eq_true.1 (by rfl) x hx, fun x hx => List.all_eq_true.1 (by rfl) x hx⟩
      · exact ⟨fun x hx => List.all_eq_true.1 (by rfl) x hx, fun x hx => List.all_eq_true.1 (by rfl) x hx⟩)
    (fun _ hq => absurd hq List.not_mem_nil) (by kernel_rfl)
end
section
def tm9f (cs st cy : List Value) (n c l lc : Nat) (j : Int) (t s : Nat) (ex : Bool) : TM := tmL 72 ((s9f cs st cy n c l lc j t s ex).live (List.replicate 14 true))
def h9f (cs st cy : List Value) (n c l lc : Nat) (j : Int) (t s : Nat) (ex : Bool) : CH := heapL ((s9f cs st cy n c l lc j t s ex).hp (List.replicate 14 true))
theorem end9f : bitsL OU9.size (2 ^ OU9.size - 1) = List.replicate 14 true := by kernel_rfl
theorem pad9f (cs st cy : List Value) (n c l lc : Nat) (j : Int) (t s : Nat) (ex : Bool) : heapL ((s9f cs st cy n c l lc j t s ex).hp (bitsL OU9.size 0)) = heapL ((s9f cs st cy n c l lc j t s ex).hp0.map (·.1) ++ List.replicate 2 .dead) := by kernel_rfl
def in9f (_cs _st _cy : List Value) (n c l lc : Nat) (j : Int) (_t _s : Nat) (_ex : Bool) : List (Nat × Value) := [(0, sl 1 0 n c), (4, sl 8 0 l l), (5, sl 9 0 lc lc), (6, i j), (7, i l)]
theorem zero9f (cs st cy : List Value) (n c l lc : Nat) (j : Int) (t s : Nat) (ex : Bool) : tmL 72 ((s9f cs st cy n c l lc j t s ex).live (bitsL OU9.size 0)) = tmL 72 (in9f cs st cy n c l lc j t s ex) := by kernel_rfl
variable {cs st cy : List Value} {n c l lc : Nat} {j : Int} {t s : Nat} {ex : Bool}
theorem snd9f (f1 : cs.all Ex.flat = true) (f2 : st.all Ex.flat = true) (f3 : cy.all Ex.flat = true) (h : ok9f st l = true) (ro : Option Nat) {tm0 : Array Value} {H0 : CH} (hk : H0.length = 10) (hst : Restate 10 tm0 H0 (absT (tmL 72 (in9f cs st cy n c l lc j t s ex))) (heapL ((s9f cs st cy n c l lc j t s ex).hp0.map (·.1)))) :
    Sound Tryz.prog 2 (.code (.region 9 OU9 true) ro tm0 H0 []) (.ex .normal (absT (tm9f cs st cy n c l lc j t s ex)) (h9f cs st cy n c l lc j t s ex) []) := by
  have ho := ord9f (n := n) (c := c) (lc := lc) (j := j) (t := t) (s := s) (ex := ex) hk f1 f2 f3 h
  have hp := pad9f cs st cy n c l lc j t s ex
  have hz := zero9f cs st cy n c l lc j t s ex
  have h0 := goodY_zero OU9
  unfold tm9f h9f
  rw [← end9f]
  rw [← hz] at hst
  generalize s9f cs st cy n c l lc j t s ex = s at *
  rw [← hk] at hst
  exact orders_sound2 (tmS := fun m => absT (tmL 72 (s.live (bitsL OU9.size m)))) (HS := fun m => heapL (s.hp (bitsL OU9.size m))) (mF := 2 ^ OU9.size - 1) (qS_selfSound noW_sound) mixU ho (by rw [hk]; decide) h0 hp hst ro
end
section
noncomputable def L9f (cs st cy : List Value) (n c l lc : Nat) (j : Int) (t s : Nat) (ex : Bool) (L : LTab) : LTab := regE L 84 9 72 10 OU9 (in9f cs st cy n c l lc j t s ex) (s9f cs st cy n c l lc j t s ex).hp0 (.br (ok9f st l) (.leaf (.ex .normal (tm9f cs st cy n c l lc j t s ex) (h9f cs st cy n c l lc j t s ex) [])) .fail)
variable {cs st cy : List Value} {n c l lc : Nat} {j : Int} {t s : Nat} {ex : Bool}
theorem ls9f {L : LTab} (hL : LSound Tryz.prog 2 L) (f1 : cs.all Ex.flat = true) (f2 : st.all Ex.flat = true) (f3 : cy.all Ex.flat = true) : LSound Tryz.prog 2 (L9f cs st cy n c l lc j t s ex L) := by
  refine LSound.region hL (by kernel_rfl) (hp9f_flat (n := n) (c := c) (l := l) (lc := lc) (j := j) (t := t) (s := s) (ex := ex) f1 f2 f3) fun r hr ro tm0 H0 hk hst => ?_
  cases h : ok9f st l with
  | false => rw [h] at hr; cases hr
  | true =>
    rw [h] at hr
    cases hr
    exact snd9f (n := n) (c := c) (l := l) (lc := lc) (j := j) (t := t) (s := s) (ex := ex) f1 f2 f3 h ro hk hst
end
end Go.Proofs.YteemponkignnhaaGreat.Ways
set_option maxRecDepth 10000
noncomputable section
namespace Go.Proofs.YteemponkignnhaaGreat.Ways
open Go Go.Ex Go.RowKit Go.Turn
section
def hp11e (cs st cy : List Value) (_n _c _l _lc : Nat) (_j : Int) (t s : Nat) (ex : Bool) : List (CO × Bool) := [(.dead, false), (.cells cs t s ex, true), (.dead, false), (.dead, false), (.dead, false), (.dead, false), (.dead, false), (.cells st 93 2 false, true), (.dead, false), (.dead, false), (.dead, false), (.cells cy 96 4 false, true)]
def s11e (cs st cy : List Value) (n c l lc : Nat) (j : Int) (t s : Nat) (ex : Bool) : SymS where
  live0 := [(0, sl 1 0 n c), (5, sl 11 0 lc lc), (6, i j), (7, i l)]
  S := [(57, 0, sl 12 0 0 0), (58, 1, sl 7 0 l l), (59, 2, i l), (60, 3, i (w3 l)), (61, 4, sl 7 0 (w3 l).toNat l), (62, 5, sl 13 0 (w3 l).toNat (w3 l).toNat), (63, 6, sl 7 0 l l), (64, 7, i l), (65, 8, i (w1 l)), (66, 9, pt 7 (0 + (w1 l).toNat * 2)), (67, 10, ag (el st (w1 l))), (68, 11, sl 14 0 1 1), (69, 12, sl 15 0 ((w3 l).toNat + 1) ((w3 l).toNat + 1))]
  S2 := [(4, 13, sl 7 0 l l, sl 15 0 ((w3 l).toNat + 1) ((w3 l).toNat + 1))]
  hp0 := hp11e cs st cy n c l lc j t s ex
  A := [(0, .cells [] 93 2 true, 0, .cells [] 93 2 true), (5, .cells (X6 st (w3 l).toNat) 93 2 false, 12, .dead), (11, .cells (el st (w1 l)) 93 2 true, 11, .cells (el st (w1 l)) 93 2 true), (12, .cells (X6 st (w3 l).toNat ++ el st (w1 l)) 93 2 false, 12, .cells (X6 st (w3 l).toNat ++ el st (w1 l)) 93 2 false)]
def cd11e (st : List Value) (l : Nat) (k : Nat) : List Bool := match k with
  | 4 => [slN (w3 l) l]
  | 5 => [apN (w3 l).toNat l st]
  | 9 => [bnd_ (w1 l) l l]
  | 10 => [cP st (w1 l)]
  | 12 => [full2 (w3 l).toNat (X6 st (w3 l).toNat)]
  | _ => []
end
def rho11e (k : Nat) : List Nat := match k with
  | 0 => (List.range 16).set 12 16
  | 5 => (List.range 16).set 13 16
  | 11 => (List.range 16).set 14 16
  | 12 => (List.range 16).set 15 16
  | _ => List.range 16
def len11e (k : Nat) : Nat := cond (Nat.beq k 0 || (Nat.beq k 5 || (Nat.beq k 11 || (Nat.beq k 12)))) 17 16
def ans11e (k : Nat) : List Bool := match k with
  | 4 => [true]
  | 5 => [true]
  | 9 => [true]
  | 10 => [true]
  | 12 => [true]
  | _ => []
section
theorem fix11e (cs st cy : List Value) (n c l lc : Nat) (j : Int) (t s : Nat) (ex : Bool) : ∀ B : List Bool, B.length = OU11.size → (List.range OU11.size).map (fun k => outV noW Tryz.prog 2 CU 84 OU11 72 (s11e cs st cy n c l lc j t s ex) (forceN OU11.size (pre2 OU11) k B) k) = (List.range OU11.size).map fun k => (outV noW Tryz.prog 2 CU 84 OU11 72 (s11e cs st cy n c l lc j t s ex) (forceN OU11.size (pre2 OU11) k B) k).fix
  | [x0, x1, x2, x3, x4, x5, x6, x7, x8, x9, x10, x11, x12, x13], _ => by kernel_rfl
theorem obs11e (cs st cy : List Value) (n c l lc : Nat) (j : Int) (t s : Nat) (ex : Bool) : ∀ B : List Bool, B.length = OU11.size → (List.range OU11.size).map (fun k => obsV noW Tryz.prog 2 CU 84 OU11 72 (s11e cs st cy n c l lc j t s ex) rho11e ans11e (forceN OU11.size (pre2 OU11) k B) k) = (List.range OU11.size).map fun k => expY 72 (s11e cs st cy n c l lc j t s ex) rho11e (cd11e st l) len11e (forceN OU11.size (pre2 OU11) k B) k
  | [x0, x1, x2, x3, x4, x5, x6, x7, x8, x9, x10, x11, x12, x13], _ => by kernel_rfl
def ok11e (st : List Value) (l : Nat) : Bool := slN (w3 l) l && (apN (w3 l).toNat l st && (bnd_ (w1 l) l l && (cP st (w1 l) && (full2 (w3 l).toNat (X6 st (w3 l).toNat)))))
end
section
variable {cs st cy : List Value} {n c l lc : Nat} {j : Int} {t s : Nat} {ex : Bool}
theorem hp11e_flat (f1 : cs.all Ex.flat = true) (f2 : st.all Ex.flat = true) (f3 : cy.all Ex.flat = true) : ∀ o, (o, true) ∈ hp11e cs st cy n c l lc j t s ex → FlatO o := by
  intro o ho
  simp [hp11e] at ho
  rcases ho with rfl | rfl | rfl
  · exact fun x hx => List.all_eq_true.1 f1 x hx
  · exact fun x hx => List.all_eq_true.1 f2 x hx
  · exact fun x hx => List.all_eq_true.1 f3 x hx
theorem cd11e_ok (h : ok11e st l = true) : ∀ k, cd11e st l k = (ans11e k).take (cd11e st l k).length := by
  unfold ok11e at h
  rw [Bool.and_eq_true, Bool.and_eq_true, Bool.and_eq_true, Bool.and_eq_true] at h
  obtain ⟨g4, g5, g9, g10, g12⟩ := h
  intro k
  unfold cd11e ans11e
  split
  · rw [g4]; rfl
  · rw [g5]; rfl
  · rw [g9]; rfl
  · rw [g10]; rfl
  · rw [g12]; rfl
  · rfl
theorem ord11e {kk : Nat} (hkk : kk = 12) (f1 : cs.all Ex.flat = true) (f2 : st.all Ex.flat = true) (f3 : cy.all Ex.flat = true) (h : ok11e st l = true) : Orders (selfA (qS noW)) Tryz.prog 2 OU11 kk (fun m => m < 2 ^ OU11.size ∧ GoodY OU11 (bitsL OU11.size m)) (fun m => absT (tmL 72 ((s11e cs st cy n c l lc j t s ex).live (bitsL OU11.size m)))) (fun m => heapL ((s11e cs st cy n c l lc j t s ex).hp (bitsL OU11.size m))) (2 ^ OU11.size - 1) := by
  subst hkk
  exact sym_of2 (fix11e cs st cy n c l lc j t s ex) (obs11e cs st cy n c l lc j t s ex) (cd11e_ok h) (by kernel_rfl) (by kernel_rfl) (by kernel_rfl) (by kernel_rfl) (by kernel_rfl) (hp11e_flat (n := n) (c := c) (l := l) (lc := lc) (j := j) (t := t) (s := s) (ex := ex) f1 f2 f3)
    (fun q hq => by
      simp only [s11e, List.mem_cons, List.not_mem_nil, or_false] at hq
      rcases hq with rfl | rfl | rfl | rfl
      · exact ⟨fun x hx => List.all_eq_true.1 (by rfl) x hx, fun x hx => List.all_eq_true.1 (by rfl) x hx⟩
      · exact ⟨fun x hx => List.all_eq_true.1 (x6_flat f2) x hx, trivial⟩
      · exact ⟨fun x hx => List.all_eq_true.1 (by rfl) x hx, fun x hx => List.all_eq_true.1 (by rfl) x hx⟩
      · exact ⟨fun x hx => List.all_eq_true.1 (app_flat (x6_flat f2) rfl) x hx, fun x hx => List.all_eq_true.1 (app_flat (x6_flat f2) rfl) x hx⟩)
    (fun _ hq => absurd hq List.not_mem_nil) (by kernel_rfl)
end
section
def tm11e (cs st cy : List Value) (n c l lc : Nat) (j : Int) (t s : Nat) (ex : Bool) : TM := tmL 72 ((s11e cs st cy n c l lc j t s ex).live (List.replicate 14 true))
def h11e (cs st cy : List Value) (n c l lc : Nat) (j : Int) (t s : Nat) (ex : Bool) : CH := heapL ((s11e cs st cy n c l lc j t s ex).hp (List.replicate 14 true))
theorem end11e : bitsL OU11.size (2 ^ OU11.size - 1) = List.replicate 14 true := by kernel_rfl
theorem pad11e (cs st cy : List Value) (n c l lc : Nat) (j : Int) (t s : Nat) (ex : Bool) : heapL ((s11e cs st cy n c l lc j t s ex).hp (bitsL OU11.size 0)) = heapL ((s11e cs st cy n c l lc j t s ex).hp0.map (·.1) ++ List.replicate 4 .dead) := by kernel_rfl
def in11e (_cs _st _cy : List Value) (n c l lc : Nat) (j : Int) (_t _s : Nat) (_ex : Bool) : List (Nat × Value) := [(0, sl 1 0 n c), (5, sl 11 0 lc lc), (6, i j), (7, i l), (4, sl 7 0 l l)]
theorem zero11e (cs st cy : List Value) (n c l lc : Nat) (j : Int) (t s : Nat) (ex : Bool) : tmL 72 ((s11e cs st cy n c l lc j t s ex).live (bitsL OU11.size 0)) = tmL 72 (in11e cs st cy n c l lc j t s ex) := by kernel_rfl
variable {cs st cy : List Value} {n c l lc : Nat} {j : Int} {t s : Nat} {ex : Bool}
theorem snd11e (f1 : cs.all Ex.flat = true) (f2 : st.all Ex.flat = true) (f3 : cy.all Ex.flat = true) (h : ok11e st l = true) (ro : Option Nat) {tm0 : Array Value} {H0 : CH} (hk : H0.length = 12) (hst : Restate 12 tm0 H0 (absT (tmL 72 (in11e cs st cy n c l lc j t s ex))) (heapL ((s11e cs st cy n c l lc j t s ex).hp0.map (·.1)))) :
    Sound Tryz.prog 2 (.code (.region 11 OU11 true) ro tm0 H0 []) (.ex .normal (absT (tm11e cs st cy n c l lc j t s ex)) (h11e cs st cy n c l lc j t s ex) []) := by
  have ho := ord11e (n := n) (c := c) (lc := lc) (j := j) (t := t) (s := s) (ex := ex) hk f1 f2 f3 h
  have hp := pad11e cs st cy n c l lc j t s ex
  have hz := zero11e cs st cy n c l lc j t s ex
  have h0 := goodY_zero OU11
  unfold tm11e h11e
  rw [← end11e]
  rw [← hz] at hst
  generalize s11e cs st cy n c l lc j t s ex = s at *
  rw [← hk] at hst
  exact orders_sound2 (tmS := fun m => absT (tmL 72 (s.live (bitsL OU11.size m)))) (HS := fun m => heapL (s.hp (bitsL OU11.size m))) (mF := 2 ^ OU11.size - 1) (qS_selfSound noW_sound) mixU ho (by rw [hk]; decide) h0 hp hst ro
end
section
noncomputable def L11e (cs st cy : List Value) (n c l lc : Nat) (j : Int) (t s : Nat) (ex : Bool) (L : LTab) : LTab := regE L 84 11 72 12 OU11 (in11e cs st cy n c l lc j t s ex) (s11e cs st cy n c l lc j t s ex).hp0 (.br (ok11e st l) (.leaf (.ex .normal (tm11e cs st cy n c l lc j t s ex) (h11e cs st cy n c l lc j t s ex) [])) .fail)
variable {cs st cy : List Value} {n c l lc : Nat} {j : Int} {t s : Nat} {ex : Bool}
theorem ls11e {L : LTab} (hL : LSound Tryz.prog 2 L) (f1 : cs.all Ex.flat = true) (f2 : st.all Ex.flat = true) (f3 : cy.all Ex.flat = true) : LSound Tryz.prog 2 (L11e cs st cy n c l lc j t s ex L) := by
  refine LSound.region hL (by kernel_rfl) (hp11e_flat (n := n) (c := c) (l := l) (lc := lc) (j := j) (t := t) (s := s) (ex := ex) f1 f2 f3) fun r hr ro tm0 H0 hk hst => ?_
  cases h : ok11e st l with
  | false => rw [h] at hr; cases hr
  | true =>
    rw [h] at hr
    cases hr
    exact snd11e (n := n) (c := c) (l := l) (lc := lc) (j := j) (t := t) (s := s) (ex := ex) f1 f2 f3 h ro hk hst
end
end Go.Proofs.YteemponkignnhaaGreat.Ways
set_option maxRecDepth 10000
noncomputable section
namespace Go.Proofs.YteemponkignnhaaGreat.Ways
open Go Go.Ex Go.RowKit Go.Turn
section
def hp11f (cs st cy : List Value) (_n _c _l _lc : Nat) (_j : Int) (t s : Nat) (ex : Bool) : List (CO × Bool) := [(.dead, false), (.cells cs t s ex, true), (.dead, false), (.dead, false), (.dead, false), (.dead, false), (.dead, false), (.dead, false), (.cells st 93 2 false, true), (.dead, false), (.dead, false), (.dead, false), (.dead, false), (.cells cy 96 4 false, true)]
def s11f (cs st cy : List Value) (n c l lc : Nat) (j : Int) (t s : Nat) (ex : Bool) : SymS where
  live0 := [(0, sl 1 0 n c), (5, sl 13 0 lc lc), (6, i j), (7, i l)]
  S := [(57, 0, sl 14 0 0 0), (58, 1, sl 8 0 l l), (59, 2, i l), (60, 3, i (w3 l)), (61, 4, sl 8 0 (w3 l).toNat l), (62, 5, sl 15 0 (w3 l).toNat (w3 l).toNat), (63, 6, sl 8 0 l l), (64, 7, i l), (65, 8, i (w1 l)), (66, 9, pt 8 (0 + (w1 l).toNat * 2)), (67, 10, ag (el st (w1 l))), (68, 11, sl 16 0 1 1), (69, 12, sl 17 0 ((w3 l).toNat + 1) ((w3 l).toNat + 1))]
  S2 := [(4, 13, sl 8 0 l l, sl 17 0 ((w3 l).toNat + 1) ((w3 l).toNat + 1))]
  hp0 := hp11f cs st cy n c l lc j t s ex
  A := [(0, .cells [] 93 2 true, 0, .cells [] 93 2 true), (5, .cells (X6 st (w3 l).toNat) 93 2 false, 12, .dead), (11, .cells (el st (w1 l)) 93 2 true, 11, .cells (el st (w1 l)) 93 2 true), (12, .cells (X6 st (w3 l).toNat ++ el st (w1 l)) 93 2 false, 12, .cells (X6 st (w3 l).toNat ++ el st (w1 l)) 93 2 false)]
def cd11f (st : List Value) (l : Nat) (k : Nat) : List Bool := match k with
  | 4 => [slN (w3 l) l]
  | 5 => [apN (w3 l).toNat l st]
  | 9 => [bnd_ (w1 l) l l]
  | 10 => [cP st (w1 l)]
  | 12 => [full2 (w3 l).toNat (X6 st (w3 l).toNat)]
  | _ => []
end
def rho11f (k : Nat) : List Nat := match k with
  | 0 => (List.range 18).set 14 18
  | 5 => (List.range 18).set 15 18
  | 11 => (List.range 18).set 16 18
  | 12 => (List.range 18).set 17 18
  | _ => List.range 18
def len11f (k : Nat) : Nat := cond (Nat.beq k 0 || (Nat.beq k 5 || (Nat.beq k 11 || (Nat.beq k 12)))) 19 18
def ans11f (k : Nat) : List Bool := match k with
  | 4 => [true]
  | 5 => [true]
  | 9 => [true]
  | 10 => [true]
  | 12 => [true]
  | _ => []
section
theorem fix11f (cs st cy : List Value) (n c l lc : Nat) (j : Int) (t s : Nat) (ex : Bool) : ∀ B : List Bool, B.length = OU11.size → (List.range OU11.size).map (fun k => outV noW Tryz.prog 2 CU 84 OU11 72 (s11f cs st cy n c l lc j t s ex) (forceN OU11.size (pre2 OU11) k B) k) = (List.range OU11.size).map fun k => (outV noW Tryz.prog 2 CU 84 OU11 72 (s11f cs st cy n c l lc j t s ex) (forceN OU11.size (pre2 OU11) k B) k).fix
  | [x0, x1, x2, x3, x4, x5, x6, x7, x8, x9, x10, x11, x12, x13], _ => by kernel_rfl
theorem obs11f (cs st cy : List Value) (n c l lc : Nat) (j : Int) (t s : Nat) (ex : Bool) : ∀ B : List Bool, B.length = OU11.size → (List.range OU11.size).map (fun k => obsV noW Tryz.prog 2 CU 84 OU11 72 (s11f cs st cy n c l lc j t s ex) rho11f ans11f (forceN OU11.size (pre2 OU11) k B) k) = (List.range OU11.size).map fun k => expY 72 (s11f cs st cy n c l lc j t s ex) rho11f (cd11f st l) len11f (forceN OU11.size (pre2 OU11) k B) k
  | [x0, x1, x2, x3, x4, x5, x6, x7, x8, x9, x10, x11, x12, x13], _ => by kernel_rfl
def ok11f (st : List Value) (l : Nat) : Bool := slN (w3 l) l && (apN (w3 l).toNat l st && (bnd_ (w1 l) l l && (cP st (w1 l) && (full2 (w3 l).toNat (X6 st (w3 l).toNat)))))
end
section
variable {cs st cy : List Value} {n c l lc : Nat} {j : Int} {t s : Nat} {ex : Bool}
theorem hp11f_flat (f1 : cs.all Ex.flat = true) (f2 : st.all Ex.flat = true) (f3 : cy.all Ex.flat = true) : ∀ o, (o, true) ∈ hp11f cs st cy n c l lc j t s ex → FlatO o := by
  intro o ho
  simp [hp11f] at ho
  rcases ho with rfl | rfl | rfl
  · exact fun x hx => List.all_eq_true.1 f1 x hx
  · exact fun x hx => List.all_eq_true.1 f2 x hx
  · exact fun x hx => List.all_eq_true.1 f3 x hx
theorem cd11f_ok (h : ok11f st l = true) : ∀ k, cd11f st l k = (ans11f k).take (cd11f st l k).length := by
  unfold ok11f at h
  rw [Bool.and_eq_true, Bool.and_eq_true, Bool.and_eq_true, Bool.and_eq_true] at h
  obtain ⟨g4, g5, g9, g10, g12⟩ := h
  intro k
  unfold cd11f ans11f
  split
  · rw [g4]; rfl
  · rw [g5]; rfl
  · rw [g9]; rfl
  · rw [g10]; rfl
  · rw [g12]; rfl
  · rfl
theorem ord11f {kk : Nat} (hkk : kk = 14) (f1 : cs.all Ex.flat = true) (f2 : st.all Ex.flat = true) (f3 : cy.all Ex.flat = true) (h : ok11f st l = true) : Orders (selfA (qS noW)) Tryz.prog 2 OU11 kk (fun m => m < 2 ^ OU11.size ∧ GoodY OU11 (bitsL OU11.size m)) (fun m => absT (tmL 72 ((s11f cs st cy n c l lc j t s ex).live (bitsL OU11.size m)))) (fun m => heapL ((s11f cs st cy n c l lc j t s ex).hp (bitsL OU11.size m))) (2 ^ OU11.size - 1) := by
  subst hkk
  exact sym_of2 (fix11f cs st cy n c l lc j t s ex) (obs11f cs st cy n c l lc j t s ex) (cd11f_ok h) (by kernel_rfl) (by kernel_rfl) (by kernel_rfl) (by kernel_rfl) (by kernel_rfl) (hp11f_flat (n := n) (c := c) (l := l) (lc := lc) (j := j) (t := t) (s := s) (ex := ex) f1 f2 f3)
    (fun q hq => by
      simp only [s11f, List.mem_cons, List.not_mem_nil, or_false] at hq
      rcases hq with rfl | rfl | rfl | rfl
      · exact ⟨fun x hx => List.all_eq_true.1 (by rfl) x hx, fun x hx => List.all_eq_true.1 (by rfl) x hx⟩
      · exact ⟨fun x hx => List.all_eq_true.1 (x6_flat f2) x hx, trivial⟩
      · exact ⟨fun x hx => List.all_eq_true.1 (by rfl) x hx, fun x hx => List.all_eq_true.1 (by rfl) x hx⟩
      · exact ⟨fun x hx => List.all_eq_true.1 (app_flat (x6_flat f2) rfl) x hx, fun x hx => List.all_eq_true.1 (app_flat (x6_flat f2) rfl) x hx⟩)
    (fun _ hq => absurd hq List.not_mem_nil) (by kernel_rfl)
end
section
def tm11f (cs st cy : List Value) (n c l lc : Nat) (j : Int) (t s : Nat) (ex : Bool) : TM := tmL 72 ((s11f cs st cy n c l lc j t s ex).live (List.replicate 14 true))
def h11f (cs st cy : List Value) (n c l lc : Nat) (j : Int) (t s : Nat) (ex : Bool) : CH := heapL ((s11f cs st cy n c l lc j t s ex).hp (List.replicate 14 true))
theorem end11f : bitsL OU11.size (2 ^ OU11.size - 1) = List.replicate 14 true := by kernel_rfl
theorem pad11f (cs st cy : List Value) (n c l lc : Nat) (j : Int) (t s : Nat) (ex : Bool) : heapL ((s11f cs st cy n c l lc j t s ex).hp (bitsL OU11.size 0)) = heapL ((s11f cs st cy n c l lc j t s ex).hp0.map (·.1) ++ List.replicate 4 .dead) := by kernel_rfl
def in11f (_cs _st _cy : List Value) (n c l lc : Nat) (j : Int) (_t _s : Nat) (_ex : Bool) : List (Nat × Value) := [(0, sl 1 0 n c), (5, sl 13 0 lc lc), (6, i j), (7, i l), (4, sl 8 0 l l)]
theorem zero11f (cs st cy : List Value) (n c l lc : Nat) (j : Int) (t s : Nat) (ex : Bool) : tmL 72 ((s11f cs st cy n c l lc j t s ex).live (bitsL OU11.size 0)) = tmL 72 (in11f cs st cy n c l lc j t s ex) := by kernel_rfl
variable {cs st cy : List Value} {n c l lc : Nat} {j : Int} {t s : Nat} {ex : Bool}
theorem snd11f (f1 : cs.all Ex.flat = true) (f2 : st.all Ex.flat = true) (f3 : cy.all Ex.flat = true) (h : ok11f st l = true) (ro : Option Nat) {tm0 : Array Value} {H0 : CH} (hk : H0.length = 14) (hst : Restate 14 tm0 H0 (absT (tmL 72 (in11f cs st cy n c l lc j t s ex))) (heapL ((s11f cs st cy n c l lc j t s ex).hp0.map (·.1)))) :
    Sound Tryz.prog 2 (.code (.region 11 OU11 true) ro tm0 H0 []) (.ex .normal (absT (tm11f cs st cy n c l lc j t s ex)) (h11f cs st cy n c l lc j t s ex) []) := by
  have ho := ord11f (n := n) (c := c) (lc := lc) (j := j) (t := t) (s := s) (ex := ex) hk f1 f2 f3 h
  have hp := pad11f cs st cy n c l lc j t s ex
  have hz := zero11f cs st cy n c l lc j t s ex
  have h0 := goodY_zero OU11
  unfold tm11f h11f
  rw [← end11f]
  rw [← hz] at hst
  generalize s11f cs st cy n c l lc j t s ex = s at *
  rw [← hk] at hst
  exact orders_sound2 (tmS := fun m => absT (tmL 72 (s.live (bitsL OU11.size m)))) (HS := fun m => heapL (s.hp (bitsL OU11.size m))) (mF := 2 ^ OU11.size - 1) (qS_selfSound noW_sound) mixU ho (by rw [hk]; decide) h0 hp hst ro
end
section
noncomputable def L11f (cs st cy : List Value) (n c l lc : Nat) (j : Int) (t s : Nat) (ex : Bool) (L : LTab) : LTab := regE L 84 11 72 14 OU11 (in11f cs st cy n c l lc j t s ex) (s11f cs st cy n c l lc j t s ex).hp0 (.br (ok11f st l) (.leaf (.ex .normal (tm11f cs st cy n c l lc j t s ex) (h11f cs st cy n c l lc j t s ex) [])) .fail)
variable {cs st cy : List Value} {n c l lc : Nat} {j : Int} {t s : Nat} {ex : Bool}
theorem ls11f {L : LTab} (hL : LSound Tryz.prog 2 L) (f1 : cs.all Ex.flat = true) (f2 : st.all Ex.flat = true) (f3 : cy.all Ex.flat = true) : LSound Tryz.prog 2 (L11f cs st cy n c l lc j t s ex L) := by
  refine LSound.region hL (by kernel_rfl) (hp11f_flat (n := n) (c := c) (l := l) (lc := lc) (j := j) (t := t) (s := s) (ex := ex) f1 f2 f3) fun r hr ro tm0 H0 hk hst => ?_
  cases h : ok11f st l with
  | false => rw [h] at hr; cases hr
  | true =>
    rw [h] at hr
    cases hr
    exact snd11f (n := n) (c := c) (l := l) (lc := lc) (j := j) (t := t) (s := s) (ex := ex) f1 f2 f3 h ro hk hst
end
end Go.Proofs.YteemponkignnhaaGreat.Ways
set_option maxRecDepth 10000
noncomputable section
namespace Go.Proofs.YteemponkignnhaaGreat.Ways
open Go Go.Ex Go.RowKit Go.Turn
noncomputable def BuO : Code := bodyL Tryz.f84 4
noncomputable def BuI : Code := bodyL Tryz.f84 7
def spU : Nat → Nat → Split := at_ [(84, 13), (84, 26)] .bool no_
def syUm : Nat → Nat → Bool := on_ [(84, 56), (84, 300056)]
inductive RI where
  | e (l : Nat) (st : List Value)
  | o (l : Nat) (st : List Value) (lc : Nat) (cy : List Value)
  | f (l : Nat) (st : List Value) (lc : Nat) (cy : List Value)
def cycR (st : List Value) (l : Nat) : List Value := [i (pA st (w3 l).toNat), i (pA st (w2 l).toNat), i (minQ (pB st (w3 l).toNat) (pB st (w2 l).toNat)), i (maxQ (pB st (w3 l).toNat) (pB st (w2 l).toNat))]
def nxR (st : List Value) (l lc : Nat) (cy : List Value) : RI := .f ((w3 l).toNat + 1) (X6 st (w3 l).toNat ++ el st (w1 l)) lc cy
noncomputable def stR : RI → SS RI
  | .e l st => askS (tru (BokE st l l)) <| .br (clB st l) (askS (ok9e st l) <| askS (ok11e st l) <| .next 16 [0, 1, 2, 3, 4, 5, 6, 7, 15, 11] (nxR st l 1 (cycR st l))) (.done 8 (List.range 8) 0)
  | .o l st lc cy => askS (tru (BokE st l l)) <| .br (clB st l) (askS (ok9o st l) <| askS (full4 lc cy) <| askS (ok11e st l) <| .next 16 [0, 1, 2, 3, 4, 5, 6, 7, 15, 11] (nxR st l (lc + 1) (cy ++ cycR st l))) (.done 8 (List.range 8) 0)
  | .f l st lc cy => askS (tru (BokE st l l)) <| .br (clB st l) (askS (ok9f st l) <| askS (full4 lc cy) <| askS (ok11f st l) <| .next 18 [0, 1, 2, 3, 4, 5, 6, 7, 17, 13] (nxR st l (lc + 1) (cy ++ cycR st l))) (.done 10 (List.range 10) 0)
def GdR (b : Bool) : RI → Prop
  | .e _ st => b = false ∧ st.all Ex.flat = true
  | .o _ st _ cy => b = true ∧ st.all Ex.flat = true ∧ cy.all Ex.flat = true
  | .f _ st _ cy => st.all Ex.flat = true ∧ cy.all Ex.flat = true
theorem nxR_good {b : Bool} {st cy : List Value} {l lc : Nat} (h : st.all Ex.flat = true) (h2 : cy.all Ex.flat = true) : GdR b (nxR st l lc cy) := ⟨app_flat (x6_flat h) rfl, h2⟩
theorem goodR_ {b : Bool} : ∀ q q', GdR b q → (stR q).sel = some (.inl q') → GdR b q' := by
  intro q q' hg h
  cases q with
  | e l st =>
    rcases br_or' (ask_or' h) with h | h
    · have h := ask_or' (ask_or' h); cases h; exact nxR_good hg.2 rfl
    · cases h
  | o l st lc cy =>
    rcases br_or' (ask_or' h) with h | h
    · have h := ask_or' (ask_or' (ask_or' h)); cases h; exact nxR_good hg.2.1 (app_flat hg.2.2 rfl)
    · cases h
  | f l st lc cy =>
    rcases br_or' (ask_or' h) with h | h
    · have h := ask_or' (ask_or' (ask_or' h)); cases h; exact nxR_good hg.1 (app_flat hg.2 rfl)
    · cases h
section
variable (cs : List Value) (n c : Nat) (j : Int) (t s : Nat) (ex : Bool)
def stkR (st : List Value) : CO × Bool := (.cells st 93 2 false, true)
def cyR_ (cy : List Value) : CO × Bool := (.cells cy 96 4 false, true)
def tdR : RI → Go.Ex.Told
  | .e l st => ⟨[(0, sl 1 0 n c), (4, sl 7 0 l l), (5, .slice none 0 0), (6, i j)], [ddQ, (.cells cs t s ex, true), ddQ, ddQ, ddQ, ddQ, ddQ, stkR st]⟩
  | .o l st lc cy => ⟨[(0, sl 1 0 n c), (4, sl 7 0 l l), (5, sl 3 0 lc lc), (6, i j)], [ddQ, (.cells cs t s ex, true), ddQ, cyR_ cy, ddQ, ddQ, ddQ, stkR st]⟩
  | .f l st lc cy => ⟨[(0, sl 1 0 n c), (4, sl 8 0 l l), (5, sl 9 0 lc lc), (6, i j)], [ddQ, (.cells cs t s ex, true), ddQ, ddQ, ddQ, ddQ, ddQ, ddQ, stkR st, cyR_ cy]⟩
def ShR : Shape RI := ⟨72, tdR cs n c j t s ex, fun _ q => (.exit 2, tdR cs n c j t s ex q)⟩
noncomputable def CcR : RI → Cfg
  | .e l st => ⟨TU, spU, off_, L11e cs st (cycR st l) n c l 1 j t s ex (L9e cs st n c l j t s ex noL)⟩
  | .o l st lc cy => ⟨TU, spU, syUm, L11e cs st (cy ++ cycR st l) n c l (lc + 1) j t s ex (L9o cs st cy n c l lc j t s ex noL)⟩
  | .f l st lc cy => ⟨TU, spU, syUm, L11f cs st (cy ++ cycR st l) n c l (lc + 1) j t s ex (L9f cs st cy n c l lc j t s ex noL)⟩
end
section
variable {cs : List Value} {n c : Nat} {j : Int} {t s : Nat} {ex b : Bool}
theorem tdR_flat (h : cs.all Ex.flat = true) {q : RI} (hq : GdR b q) : (tdR cs n c j t s ex q).flat := by
  intro o ho
  cases q
  all_goals (simp [tdR, stkR, ddQ, cyR_] at ho)
  · rcases ho with rfl | rfl
    · exact fun y hy => List.all_eq_true.1 h y hy
    · exact fun y hy => List.all_eq_true.1 hq.2 y hy
  · rcases ho with rfl | rfl | rfl
    · exact fun y hy => List.all_eq_true.1 h y hy
    · exact fun y hy => List.all_eq_true.1 hq.2.2 y hy
    · exact fun y hy => List.all_eq_true.1 hq.2.1 y hy
  · rcases ho with rfl | rfl | rfl
    · exact fun y hy => List.all_eq_true.1 h y hy
    · exact fun y hy => List.all_eq_true.1 hq.1 y hy
    · exact fun y hy => List.all_eq_true.1 hq.2 y hy
theorem LuI (h : cs.all Ex.flat = true) : Loop1 Tryz.prog 2 84 BuI (ShR cs n c j t s ex) 8 stR (GdR b) :=
  .mk' (C := CcR cs n c j t s ex) (n := 60) (fun q _ => by cases q <;> exact tsU) (fun q hq => by
    cases q with
    | e _ _ => exact ls11e (ls9e .none h hq.2) h hq.2 rfl
    | o _ _ _ _ => exact ls11e (ls9o .none h hq.2.2 hq.2.1) h hq.2.1 (app_flat hq.2.2 rfl)
    | f _ _ _ _ => exact ls11f (ls9f .none h hq.1 hq.2) h hq.1 (app_flat hq.2 rfl)) (fun q ro _ => by cases q <;> kernel_rfl) (fun q ro _ => by cases q <;> kernel_rfl) (fun q => by cases q <;> kernel_rfl)
    goodR_ (fun _ hq => tdR_flat h hq) (fun _ _ hq _ => ⟨tdR_flat h hq, fun h => by cases h⟩)
end
end Go.Proofs.YteemponkignnhaaGreat.Ways
set_option maxRecDepth 10000
noncomputable section
namespace Go.Proofs.YteemponkignnhaaGreat.Ways
open Go Go.Ex Go.RowKit Go.Turn
def isR : RI → Bool
  | .f _ _ _ _ => true
  | _ => false
def lR : RI → Nat
  | .e l _ => l
  | .o l _ _ _ => l
  | .f l _ _ _ => l
def stR_ : RI → List Value
  | .e _ st => st
  | .o _ st _ _ => st
  | .f _ st _ _ => st
def lcR : RI → Nat
  | .e _ _ => 0
  | .o _ _ lc _ => lc
  | .f _ _ lc _ => lc
def cyR : RI → List Value
  | .e _ _ => []
  | .o _ _ _ cy => cy
  | .f _ _ _ cy => cy
noncomputable def fin1 (S : Shape RI) (q : RI) : Out QRes := .leaf (.ex (S.fin 0 q).1 ((S.fin 0 q).2.tm S.N) (S.fin 0 q).2.heap [])
noncomputable def outR (S : Shape RI) (s0 : RI) (b : Bool) : Out QRes :=
  .br (tru (endP stR s0)) (.br (isR (endE stR s0)) (fin1 S (.f (lR (endE stR s0)) (stR_ (endE stR s0)) (lcR (endE stR s0)) (cyR (endE stR s0))))
    (cond b (fin1 S (.o (lR (endE stR s0)) (stR_ (endE stR s0)) (lcR (endE stR s0)) (cyR (endE stR s0)))) (fin1 S (.e (lR (endE stR s0)) (stR_ (endE stR s0)))))) .fail
theorem outR_sel {S : Shape RI} {s0 : RI} {b : Bool} {r : QRes} (hg : GdR b s0) (h : (outR S s0 b).sel = some r) : endP stR s0 ∧ r = .ex (S.fin 0 (endE stR s0)).1 ((S.fin 0 (endE stR s0)).2.tm S.N) (S.fin 0 (endE stR s0)).2.heap [] := by
  unfold outR at h
  rw [Out.sel_br] at h
  cases hp : tru (endP stR s0) with
  | false => rw [hp] at h; cases h
  | true =>
    rw [hp] at h
    refine ⟨tru_iff.1 hp, ?_⟩
    have hge := endE_good (Good := GdR b) goodR_ hg
    have h' : (Out.br (isR (endE stR s0)) (fin1 S (.f (lR (endE stR s0)) (stR_ (endE stR s0)) (lcR (endE stR s0)) (cyR (endE stR s0))))
      (cond b (fin1 S (.o (lR (endE stR s0)) (stR_ (endE stR s0)) (lcR (endE stR s0)) (cyR (endE stR s0)))) (fin1 S (.e (lR (endE stR s0)) (stR_ (endE stR s0)))))).sel = some r := h
    generalize endE stR s0 = u at h' hge
    cases u with
    | e l st =>
      obtain ⟨rfl, _⟩ := hge
      exact (Option.some.inj h').symm
    | o l st lc cy =>
      obtain ⟨rfl, _⟩ := hge
      exact (Option.some.inj h').symm
    | f _ _ _ _ => exact (Option.some.inj h').symm
theorem _root_.Go.Ex.Loop1.tableR {P : Program} {G f id : Nat} {b : Code} {S : Shape RI} {k : Nat} {L : LTab} {bb : Bool} (h : Loop1 P G f b S k stR (GdR bb)) (hL : LSound P G L) (hG : G ≤ k) {s0 : RI} (hg : GdR bb s0)
    (hgood : goodR k k (S.st s0).live (S.st s0).hp (List.range k) = true) : LSound P G (loopE L f id S.N k b (S.st s0).live (S.st s0).hp (outR S s0 bb)) := by
  refine hL.loop hgood (h.flat s0 hg) fun q hq ro tm0 H0 hk hst => ?_
  obtain ⟨hp, rfl⟩ := outR_sel hg hq
  obtain ⟨m, hm⟩ := endE_run hp
  exact h.run hG hg hm ro hk hst
inductive RO where
  | z
  | s (j : Int) (l : Nat) (st : List Value)
  | b (j : Int) (l : Nat) (st : List Value) (lc : Nat) (cy : List Value)
def GdU : RO → Prop
  | .z => True
  | .s _ _ st => st.all Ex.flat = true
  | .b _ _ st _ cy => st.all Ex.flat = true ∧ cy.all Ex.flat = true
def sE0 (cs st : List Value) (j : Int) (l : Nat) : RI := .e (l + 1) (X6 st l ++ el cs j)
def sO0 (cs st : List Value) (j : Int) (l lc : Nat) (cy : List Value) : RI := .o (l + 1) (X6 st l ++ el cs j) lc cy
section
variable (cs : List Value) (n c : Nat) (t s : Nat) (ex : Bool)
noncomputable def CcU : RO → Cfg
  | .z => ⟨TU, spU, off_, L6z cs n c t s ex noL⟩
  | .s j l st => ⟨TU, spU, off_, loopE (L6s cs st n c l j t s ex noL) 84 7 72 8 BuI ((ShR cs n c j t s ex).st (sE0 cs st j l)).live ((ShR cs n c j t s ex).st (sE0 cs st j l)).hp (outR (ShR cs n c j t s ex) (sE0 cs st j l) false)⟩
  | .b j l st lc cy => ⟨TU, spU, off_, loopE (L6b cs st cy n c l lc j t s ex noL) 84 7 72 8 BuI ((ShR cs n c j t s ex).st (sO0 cs st j l lc cy)).live ((ShR cs n c j t s ex).st (sO0 cs st j l lc cy)).hp (outR (ShR cs n c j t s ex) (sO0 cs st j l lc cy) true)⟩
def tdU : RO → Go.Ex.Told
  | .z => ⟨[(0, sl 1 0 n c), (4, .slice none 0 0), (5, .slice none 0 0), (6, i 0)], [ddQ, (.cells cs t s ex, true)]⟩
  | .s j l st => ⟨[(0, sl 1 0 n c), (4, sl 2 0 l l), (5, .slice none 0 0), (6, i j)], [ddQ, (.cells cs t s ex, true), stkR st, ddQ]⟩
  | .b j l st lc cy => ⟨[(0, sl 1 0 n c), (4, sl 2 0 l l), (5, sl 3 0 lc lc), (6, i j)], [ddQ, (.cells cs t s ex, true), stkR st, cyR_ cy]⟩
def fdU : RO → Go.Ex.Told
  | .z => ⟨[(4, .slice none 0 0), (5, .slice none 0 0)], [ddQ, (.cells cs t s ex, true)]⟩
  | .s _ l st => ⟨[(4, sl 2 0 l l), (5, .slice none 0 0)], [ddQ, (.cells cs t s ex, true), stkR st, ddQ]⟩
  | .b _ l st lc cy => ⟨[(4, sl 2 0 l l), (5, sl 3 0 lc lc)], [ddQ, (.cells cs t s ex, true), stkR st, cyR_ cy]⟩
def ShU : Shape RO := ⟨72, tdU cs n c t s ex, fun _ q => (.exit 0, fdU cs t s ex q)⟩
noncomputable def bhR (s0 : RI) (b : Bool) (j : Int) : SS RO :=
  askS (tru (endP stR s0)) <| .br (isR (endE stR s0)) (.next 10 [0, 1, 8, 9] (.b (wrapF .i64 (j + 1)) (lR (endE stR s0)) (stR_ (endE stR s0)) (lcR (endE stR s0)) (cyR (endE stR s0))))
    (cond b (.next 8 [0, 1, 7, 3] (.b (wrapF .i64 (j + 1)) (lR (endE stR s0)) (stR_ (endE stR s0)) (lcR (endE stR s0)) (cyR (endE stR s0)))) (.next 8 [0, 1, 7, 4] (.s (wrapF .i64 (j + 1)) (lR (endE stR s0)) (stR_ (endE stR s0)))))
noncomputable def stU : RO → SS RO
  | .z => .br (ltF 0 n) (askS (ok6z cs n c) <| askS (tru (BokE (el cs 0) 1 1)) <| .br (clB (el cs 0) 1) .fail (.next 5 [0, 1, 4, 2] (.s 1 1 (el cs 0)))) (.done 2 [0, 1] 0)
  | .s j l st => .br (ltF j n) (askS (ok6s cs st n c l j) <| bhR (sE0 cs st j l) false j) (.done 4 [0, 1, 2, 3] 0)
  | .b j l st lc cy => .br (ltF j n) (askS (ok6b cs st n c l j) <| bhR (sO0 cs st j l lc cy) true j) (.done 4 [0, 1, 2, 3] 0)
end
section
variable {cs : List Value} {n c : Nat} {t s : Nat} {ex : Bool}
theorem tdU_flat (h : cs.all Ex.flat = true) {q : RO} (hq : GdU q) : (tdU cs n c t s ex q).flat := by
  intro o ho
  cases q
  all_goals (simp [tdU, stkR, ddQ, cyR_] at ho)
  · subst ho; exact fun y hy => List.all_eq_true.1 h y hy
  · rcases ho with rfl | rfl
    · exact fun y hy => List.all_eq_true.1 h y hy
    · exact fun y hy => List.all_eq_true.1 hq y hy
  · rcases ho with rfl | rfl | rfl
    · exact fun y hy => List.all_eq_true.1 h y hy
    · exact fun y hy => List.all_eq_true.1 hq.1 y hy
    · exact fun y hy => List.all_eq_true.1 hq.2 y hy
theorem fdU_flat (h : cs.all Ex.flat = true) {q : RO} (hq : GdU q) : (fdU cs t s ex q).flat := by
  intro o ho
  cases q
  all_goals (simp [fdU, stkR, ddQ, cyR_] at ho)
  · subst ho; exact fun y hy => List.all_eq_true.1 h y hy
  · rcases ho with rfl | rfl
    · exact fun y hy => List.all_eq_true.1 h y hy
    · exact fun y hy => List.all_eq_true.1 hq y hy
  · rcases ho with rfl | rfl | rfl
    · exact fun y hy => List.all_eq_true.1 h y hy
    · exact fun y hy => List.all_eq_true.1 hq.1 y hy
    · exact fun y hy => List.all_eq_true.1 hq.2 y hy
theorem sE0_good {j : Int} {l : Nat} {st : List Value} (h : st.all Ex.flat = true) : GdR false (sE0 cs st j l) := ⟨rfl, app_flat (x6_flat h) rfl⟩
theorem sO0_good {j : Int} {l lc : Nat} {st cy : List Value} (h : st.all Ex.flat = true) (h2 : cy.all Ex.flat = true) : GdR true (sO0 cs st j l lc cy) := ⟨rfl, app_flat (x6_flat h) rfl, h2⟩
theorem gr_st {b : Bool} {q : RI} (h : GdR b q) : (stR_ q).all Ex.flat = true := by
  cases q with
  | e _ _ => exact h.2
  | o _ _ _ _ => exact h.2.1
  | f _ _ _ _ => exact h.1
theorem gr_cy {b : Bool} {q : RI} (h : GdR b q) : (cyR q).all Ex.flat = true := by
  cases q with
  | e _ _ => rfl
  | o _ _ _ _ => exact h.2.2
  | f _ _ _ _ => exact h.2
theorem bhR_good {s0 : RI} {b : Bool} {j : Int} {q' : RO} (h0 : GdR b s0) (h : (bhR s0 b j).sel = some (.inl q')) : GdU q' := by
  have hg := endE_good (Good := GdR b) goodR_ h0
  have h := ask_or' h
  rcases br_or' h with h | h
  · cases h; exact ⟨gr_st hg, gr_cy hg⟩
  · cases b with
    | true => cases h; exact ⟨gr_st hg, gr_cy hg⟩
    | false => cases h; exact gr_st hg
theorem goodU : ∀ q q', GdU q → (stU cs n c q).sel = some (.inl q') → GdU q' := by
  intro q q' hg h
  cases q with
  | z =>
    rcases br_or' h with h | h
    · rcases br_or' (ask_or' (ask_or' h)) with h | h
      · cases h
      · cases h; rfl
    · cases h
  | s j l st =>
    rcases br_or' h with h | h
    · exact bhR_good (sE0_good hg) (ask_or' h)
    · cases h
  | b j l st lc cy =>
    rcases br_or' h with h | h
    · exact bhR_good (sO0_good hg.1 hg.2) (ask_or' h)
    · cases h
theorem LuO (h : cs.all Ex.flat = true) : Loop1 Tryz.prog 2 84 BuO (ShU cs n c t s ex) 2 (stU cs n c) GdU :=
  .mk' (C := CcU cs n c t s ex) (n := 60) (fun q _ => by cases q <;> exact tsU) (fun q hq => by
    cases q with
    | z => exact ls6z .none h
    | s j _ _ => exact (LuI (n := n) (c := c) (j := j) (t := t) (s := s) (ex := ex) h).tableR (id := 7) (ls6s .none h hq) (by decide) (sE0_good hq) (by kernel_rfl)
    | b j _ _ _ _ => exact (LuI (n := n) (c := c) (j := j) (t := t) (s := s) (ex := ex) h).tableR (id := 7) (ls6b .none h hq.1 hq.2) (by decide) (sO0_good hq.1 hq.2) (by kernel_rfl))
    (fun q ro _ => by cases q <;> kernel_rfl) (fun q ro _ => by cases q <;> kernel_rfl) (fun q => by cases q <;> kernel_rfl)
    goodU (fun _ hq => tdU_flat h hq) (fun _ _ hq _ => ⟨fdU_flat h hq, fun h => by cases h⟩)
end
end Go.Proofs.YteemponkignnhaaGreat.Ways
set_option maxRecDepth 10000
noncomputable section
namespace Go.Proofs.YteemponkignnhaaGreat.Ways
open Go Go.Ex Go.RowKit Go.Turn
theorem pA_app (P : List Pt) (Q : List Value) (k : Nat) : pA (flatP P ++ Q) (P.length + k) = pA Q k := by
  unfold pA
  rw [List.getElem?_append_right (by rw [flatP_len]; omega), flatP_len, show 0 + (P.length + k) * 2 - P.length * 2 = 0 + k * 2 from by omega]
theorem pB_app (P : List Pt) (Q : List Value) (k : Nat) : pB (flatP P ++ Q) (P.length + k) = pB Q k := by
  unfold pB
  rw [List.getElem?_append_right (by rw [flatP_len]; omega), flatP_len, show 0 + (P.length + k) * 2 + 1 - P.length * 2 = 0 + k * 2 + 1 from by omega]
theorem X6_app (P Q : List Pt) : X6 (flatP (P ++ Q)) P.length = flatP P := by
  unfold X6
  rw [List.drop_zero, flatP_app, ← flatP_len, List.take_left]
theorem X6_all (P : List Pt) : X6 (flatP P) P.length = flatP P := by
  have := X6_app P []
  rwa [List.append_nil] at this
theorem w3_eq (m : Nat) (h : m < 1000000) : w3 (m + 4) = ((m + 1 : Nat) : Int) := by
  unfold w3
  rw [wrapF_in (by omega) (by omega)]; omega
theorem w2_eq (m : Nat) (h : m < 1000000) : w2 (m + 4) = ((m + 2 : Nat) : Int) := by
  unfold w2
  rw [wrapF_in (by omega) (by omega)]; omega
theorem w1_eq (m : Nat) (h : m < 1000000) : w1 (m + 4) = ((m + 3 : Nat) : Int) := by
  unfold w1
  rw [wrapF_in (by omega) (by omega)]; omega
theorem apN_t {P : List Pt} {k : Nat} (h : k ≠ 0) (h2 : k ≤ P.length) (h3 : P.length < 1000000) : apN k P.length (flatP P) = true := by
  unfold apN
  rw [decide_eq_false h, decide_eq_true h2, decide_eq_true (by omega), flatP_len, decide_eq_true (by omega)]; rfl
section
variable {a b x d : Pt} {T : List Pt}
def V4 (a b x d : Pt) : List Value := [i a.1, i a.2, i b.1, i b.2, i x.1, i x.2, i d.1, i d.2]
theorem fl4 : flatP (d :: x :: b :: a :: T).reverse = flatP T.reverse ++ V4 a b x d := by
  have := flat4 a b x d T []
  rwa [List.append_nil] at this
theorem pA4 (k : Nat) : pA (flatP (d :: x :: b :: a :: T).reverse) (T.length + k) = pA (V4 a b x d) k := by
  rw [fl4]
  have := pA_app T.reverse (V4 a b x d) k
  rwa [List.length_reverse] at this
theorem pB4 (k : Nat) : pB (flatP (d :: x :: b :: a :: T).reverse) (T.length + k) = pB (V4 a b x d) k := by
  rw [fl4]
  have := pB_app T.reverse (V4 a b x d) k
  rwa [List.length_reverse] at this
theorem cl4 : clB (flatP (d :: x :: b :: a :: T).reverse) (T.length + 4) = nst a b x d := by
  unfold clB clQ
  rw [decide_eq_true (by omega), Bool.true_and, Nat.add_sub_cancel]
  have e0 := pB4 (a := a) (b := b) (x := x) (d := d) (T := T) 0
  rw [Nat.add_zero] at e0
  rw [e0, pB4 1, pB4 2, pB4 3, ad_eq, ad_eq, ad_eq, ← leF_min]; rfl
theorem cyc4 (h : T.length < 1000000) : cycR (flatP (d :: x :: b :: a :: T).reverse) (T.length + 4) = cyL (b, x) := by
  unfold cycR
  rw [w3_eq _ h, w2_eq _ h, show ((T.length + 1 : Nat) : Int).toNat = T.length + 1 from rfl, show ((T.length + 2 : Nat) : Int).toNat = T.length + 2 from rfl, pA4 1, pA4 2, pB4 1, pB4 2]; rfl
theorem nx4 (h : T.length < 1000000) : X6 (flatP (d :: x :: b :: a :: T).reverse) (w3 (T.length + 4)).toNat ++ el (flatP (d :: x :: b :: a :: T).reverse) (w1 (T.length + 4)) = flatP (d :: a :: T).reverse := by
  have e1 : (d :: x :: b :: a :: T).reverse = (a :: T).reverse ++ [b, x, d] := by simp
  have e2 : X6 (flatP (d :: x :: b :: a :: T).reverse) (w3 (T.length + 4)).toNat = flatP (a :: T).reverse := by
    rw [e1, w3_eq _ h]
    have := X6_app (a :: T).reverse [b, x, d]
    rwa [List.length_reverse] at this
  have e3 : el (flatP (d :: x :: b :: a :: T).reverse) (w1 (T.length + 4)) = flatP [d] := by
    rw [w1_eq _ h]
    show [i (pA _ (T.length + 3)), i (pB _ (T.length + 3))] = _
    rw [pA4 3, pB4 3]; rfl
  rw [e2, e3, ← flatP_app, List.reverse_cons (a := d)]
theorem okP_rev {R : List Pt} (h : R.length < 1000000) : okP (flatP R.reverse) R.length R.length := by
  have := okP_flat (a := R.reverse) (by rw [List.length_reverse]; exact h)
  rwa [List.length_reverse] at this
theorem ok9_t (h : T.length + 4 < 1000000) : ok9e (flatP (d :: x :: b :: a :: T).reverse) (T.length + 4) = true := by
  have ho := okP_rev (R := d :: x :: b :: a :: T) (by exact h)
  unfold ok9e
  rw [w3_eq _ (by omega), w2_eq _ (by omega), bnd_t (by omega) (Nat.le_refl _), cP_t ho (show T.length + 1 < T.length + 4 by omega), bnd_t (by omega) (Nat.le_refl _), cP_t ho (show T.length + 2 < T.length + 4 by omega)]; rfl
theorem ok11_t (h : T.length + 4 < 1000000) : ok11e (flatP (d :: x :: b :: a :: T).reverse) (T.length + 4) = true := by
  have ho := okP_rev (R := d :: x :: b :: a :: T) (by exact h)
  have e1 : (d :: x :: b :: a :: T).reverse = (a :: T).reverse ++ [b, x, d] := by simp
  have e2 : X6 (flatP (d :: x :: b :: a :: T).reverse) (T.length + 1) = flatP (a :: T).reverse := by
    rw [e1]
    have := X6_app (a :: T).reverse [b, x, d]
    rwa [List.length_reverse] at this
  have ha := apN_t (P := (d :: x :: b :: a :: T).reverse) (k := T.length + 1) (by omega) (by simp <;> omega) (by simp <;> omega)
  rw [List.length_reverse] at ha
  unfold ok11e
  rw [w3_eq _ (by omega), w1_eq _ (by omega), show ((T.length + 1 : Nat) : Int).toNat = T.length + 1 from rfl, bnd_t (by omega) (Nat.le_refl _), cP_t ho (show T.length + 3 < T.length + 4 by omega), e2,
    full2_t (by rw [flatP_len, List.length_reverse]; rfl) (by omega)]
  have hs : slN ((T.length + 1 : Nat) : Int) (T.length + 4) = true := by
    unfold slN
    rw [leF_eq, leF_eq, leF_eq, decide_eq_true (by omega), decide_eq_true (by omega), decide_eq_true (by omega)]; rfl
  rw [hs]
  show (true && (apN (T.length + 1) (d :: x :: b :: a :: T).length (flatP (d :: x :: b :: a :: T).reverse) && true)) = true
  rw [ha]; rfl
end
def RepI (b : Bool) (R : List Pt) (C : List Cy) : RI → Prop
  | .e l st => b = false ∧ R.length = l ∧ st = flatP R.reverse ∧ C = []
  | .o l st lc cy => b = true ∧ R.length = l ∧ st = flatP R.reverse ∧ C ≠ [] ∧ lc = C.length ∧ cy = flatC C
  | .f l st lc cy => R.length = l ∧ st = flatP R.reverse ∧ C ≠ [] ∧ lc = C.length ∧ cy = flatC C
theorem stop {b : Bool} {R : List Pt} {C : List Cy} {q : RI} (hq : RepI b R C q) (hR : R.length < 1000000) (h : clB (flatP R.reverse) R.length = false) : (stR q).sel = some (.inr 0) := by
  have ho : tru (BokE (flatP R.reverse) R.length R.length) = true := tru_iff.2 ⟨okP_rev hR, hR⟩
  cases q with
  | e l st =>
    obtain ⟨_, rfl, rfl, _⟩ := hq
    unfold stR
    rw [askS_sel ho, br_f h]; rfl
  | o l st lc cy =>
    obtain ⟨_, rfl, rfl, _⟩ := hq
    unfold stR
    rw [askS_sel ho, br_f h]; rfl
  | f l st lc cy =>
    obtain ⟨rfl, rfl, _⟩ := hq
    unfold stR
    rw [askS_sel ho, br_f h]; rfl
theorem go_on {bb : Bool} {a b x d : Pt} {T : List Pt} {C : List Cy} {q : RI} (hq : RepI bb (d :: x :: b :: a :: T) C q) (hR : T.length + 4 < 1000000) (hC : C.length < 1000000) (h : nst a b x d = true) :
    (stR q).sel = some (.inl (.f (T.length + 2) (flatP (d :: a :: T).reverse) (C.length + 1) (flatC (C ++ [(b, x)])))) := by
  have ho : tru (BokE (flatP (d :: x :: b :: a :: T).reverse) (T.length + 4) (T.length + 4)) = true := tru_iff.2 ⟨okP_rev (R := d :: x :: b :: a :: T) hR, hR⟩
  have hc : clB (flatP (d :: x :: b :: a :: T).reverse) (T.length + 4) = true := by rw [cl4]; exact h
  have hf : full4 C.length (flatC C) = true := full4_t (flatC_len C) hC
  have hn : ∀ lc cy, nxR (flatP (d :: x :: b :: a :: T).reverse) (T.length + 4) lc cy = .f (T.length + 2) (flatP (d :: a :: T).reverse) lc cy := fun lc cy => by
    unfold nxR
    rw [nx4 (by omega), w3_eq _ (by omega)]; rfl
  have h9 := ok9_t (a := a) (b := b) (x := x) (d := d) hR
  have h11 := ok11_t (a := a) (b := b) (x := x) (d := d) hR
  have hcy : flatC (C ++ [(b, x)]) = flatC C ++ cycR (flatP (d :: x :: b :: a :: T).reverse) (T.length + 4) := by
    rw [flatC_app, cyc4 (by omega)]
    show _ = flatC C ++ cyL (b, x)
    rw [show flatC [(b, x)] = cyL (b, x) from rfl]
  rw [hcy]
  cases q with
  | e l st =>
    obtain ⟨_, rfl, rfl, rfl⟩ := hq
    show (stR (.e (T.length + 4) _)).sel = _
    unfold stR
    rw [askS_sel ho, br_t hc, askS_sel h9, askS_sel h11, hn]; rfl
  | o l st lc cy =>
    obtain ⟨_, rfl, rfl, _, rfl, rfl⟩ := hq
    show (stR (.o (T.length + 4) _ _ _)).sel = _
    unfold stR
    rw [askS_sel ho, br_t hc, askS_sel (show ok9o _ _ = true from h9), askS_sel hf, askS_sel h11, hn]; rfl
  | f l st lc cy =>
    obtain ⟨rfl, rfl, _, rfl, rfl⟩ := hq
    show (stR (.f (T.length + 4) _ _ _)).sel = _
    unfold stR
    rw [askS_sel ho, br_t hc, askS_sel (show ok9f _ _ = true from h9), askS_sel hf, askS_sel (show ok11f _ _ = true from h11), hn]; rfl
theorem innerR (bb : Bool) (p : Pt) : ∀ (n : Nat) (S : List Pt) (C : List Cy) (q : RI), S.length ≤ n → RepI bb (p :: S) C q → S.length + 1 < 1000000 → S.length + 2 * C.length < 1000000 →
    ∃ m q', runS stR m q = some (0, q') ∧ RepI bb (p :: (rd p S C).1) (rd p S C).2 q'
  | n, S, C, q, hn, hq, hS, hC => by
    have short : S.length < 3 → rd p S C = (S, C) → ∃ m q', runS stR m q = some (0, q') ∧ RepI bb (p :: (rd p S C).1) (rd p S C).2 q' := by
      intro hs hr
      refine ⟨1, q, runD (stop hq hS ?_), by rw [hr]; exact hq⟩
      unfold clB
      rw [decide_eq_false (by simp; omega)]; rfl
    match S, hn, hq, hS, hC, short with
    | [], _, _, _, _, short => exact short (by simp) rfl
    | [_], _, _, _, _, short => exact short (by simp) rfl
    | [_, _], _, _, _, _, short => exact short (by simp) rfl
    | x :: b :: a :: T, hn, hq, hS, hC, _ =>
      have hS' : T.length + 4 < 1000000 := by simp at hS; omega
      have hC' : C.length < 1000000 := by simp at hC; omega
      have hrd : rd p (x :: b :: a :: T) C = cond (nst a b x p) (rd p (a :: T) (C ++ [(b, x)])) (x :: b :: a :: T, C) := by rw [rd]
      cases hns : nst a b x p with
      | false =>
        rw [hns] at hrd
        refine ⟨1, q, runD (stop hq hS ?_), by rw [hrd]; exact hq⟩
        show clB (flatP (p :: x :: b :: a :: T).reverse) (T.length + 4) = false
        rw [cl4]; exact hns
      | true =>
        rw [hns] at hrd
        have hrd' : rd p (x :: b :: a :: T) C = rd p (a :: T) (C ++ [(b, x)]) := hrd
        match n, hn with
        | 0, hn => simp at hn
        | n + 1, hn =>
          obtain ⟨m, q', g1, g2⟩ := innerR bb p n (a :: T) (C ++ [(b, x)]) (.f (T.length + 2) (flatP (p :: a :: T).reverse) (C.length + 1) (flatC (C ++ [(b, x)]))) (by simp at hn ⊢; omega) ⟨rfl, rfl, by simp, by simp, rfl⟩ (by simp at hS ⊢; omega) (by simp at hC ⊢; omega)
          exact ⟨m + 1, q', runN (go_on hq hS' hC' hns) g1, by rw [hrd']; exact g2⟩
def RepV (cs : List Value) (j : Nat) : RO → Prop
  | .z => j = 0
  | .s j' l st => j' = (j : Int) ∧ 1 ≤ j ∧ (cnt cs j).1.length = l ∧ st = flatP (cnt cs j).1.reverse ∧ (cnt cs j).2 = []
  | .b j' l st lc cy => j' = (j : Int) ∧ 1 ≤ j ∧ (cnt cs j).1.length = l ∧ st = flatP (cnt cs j).1.reverse ∧ (cnt cs j).2 ≠ [] ∧ lc = (cnt cs j).2.length ∧ cy = flatC (cnt cs j).2
section
variable {cs : List Value} {n c : Nat}
theorem pushR {j : Nat} {s0 : RI} {bb : Bool} (hT : RepI bb ((pA cs j, pB cs j) :: (cnt cs j).1) (cnt cs j).2 s0) (hj : j < 999990) :
    ∃ q', (bhR s0 bb (j : Int)).sel = some (.inl q') ∧ RepV cs (j + 1) q' := by
  have hl := cnt_len cs j
  obtain ⟨m, q, hrun, hq⟩ := innerR bb (pA cs j, pB cs j) _ (cnt cs j).1 (cnt cs j).2 s0 (Nat.le_refl _) hT (by omega) (by omega)
  obtain ⟨g1, g2⟩ := endE_eq hrun
  have hw := wsucc (j := j) (by omega)
  unfold bhR
  rw [askS_sel (tru_iff.2 g1), g2]
  cases q with
  | e l st =>
    obtain ⟨rfl, a1, a2, a3⟩ := hq
    exact ⟨_, rfl, hw, by omega, a1, a2, a3⟩
  | o l st lc cy =>
    obtain ⟨rfl, a1, a2, a3, a4, a5⟩ := hq
    exact ⟨_, rfl, hw, by omega, a1, a2, a3, a4, a5⟩
  | f l st lc cy =>
    obtain ⟨a1, a2, a3, a4, a5⟩ := hq
    exact ⟨_, rfl, hw, by omega, a1, a2, a3, a4, a5⟩
theorem ok6_t (h : okP cs n c) {j : Nat} (hj : j < n) {R : List Pt} (hR : R.length < 1000000) (h0 : R ≠ []) : ok6s cs (flatP R.reverse) n c R.length (j : Int) = true ∧ X6 (flatP R.reverse) R.length ++ el cs (j : Int) = flatP ((pA cs j, pB cs j) :: R).reverse := by
  have hne : R.length ≠ 0 := fun hh => h0 (List.length_eq_zero_iff.1 hh)
  have e1 : X6 (flatP R.reverse) R.length = flatP R.reverse := by
    have := X6_all R.reverse
    rwa [List.length_reverse] at this
  have ha := apN_t (P := R.reverse) (k := R.length) hne (by rw [List.length_reverse]; omega) (by rw [List.length_reverse]; exact hR)
  rw [List.length_reverse] at ha
  refine ⟨?_, ?_⟩
  · unfold ok6s
    rw [ha, bnd_t hj h.2.1, cP_t h hj, e1, full2_t (by rw [flatP_len, List.length_reverse]) hR]; rfl
  · rw [e1, List.reverse_cons, flatP_app]; rfl
theorem cnt_ne (cs : List Value) {j : Nat} (h : 1 ≤ j) : (cnt cs j).1 ≠ [] := by
  obtain ⟨k, rfl⟩ : ∃ k, j = k + 1 := ⟨j - 1, by omega⟩
  exact List.cons_ne_nil _ _
theorem stepU (h : okP cs n c) (hn : n < 999990) {j : Nat} {q : RO} (hj : j < n) (hq : RepV cs j q) : ∃ q', (stU cs n c q).sel = some (.inl q') ∧ RepV cs (j + 1) q' := by
  have hc := h.2.1
  have hl := cnt_len cs j
  cases q with
  | z =>
    have hj0 : j = 0 := hq
    subst hj0
    refine ⟨.s 1 1 (el cs 0), ?_, rfl, by omega, rfl, rfl, rfl⟩
    have h6 : ok6z cs n c = true := by
      unfold ok6z
      rw [show bnd_ 0 n c = true from bnd_t (j := 0) hj hc, show cP cs 0 = true from cP_t (j := 0) h hj]; rfl
    have hb : BokE (el cs 0) 1 1 := ⟨okP_flat (a := [(pA cs 0, pB cs 0)]) (show 1 < 1000000 by decide), by decide⟩
    unfold stU
    rw [br_t (by rw [ltF_eq]; exact decide_eq_true (by omega)), askS_sel h6, askS_sel (tru_iff.2 hb), br_f (by rfl)]; rfl
  | s j' l st =>
    obtain ⟨rfl, h1, rfl, rfl, h3⟩ := hq
    obtain ⟨g1, g2⟩ := ok6_t h hj (R := (cnt cs j).1) (by omega) (cnt_ne cs h1)
    unfold stU
    dsimp only
    rw [br_t (by rw [ltF_eq]; exact decide_eq_true (by omega)), askS_sel g1]
    exact pushR (bb := false) ⟨rfl, rfl, g2, h3⟩ (by omega)
  | b j' l st lc cy =>
    obtain ⟨rfl, h1, rfl, rfl, h3, rfl, rfl⟩ := hq
    obtain ⟨g1, g2⟩ := ok6_t h hj (R := (cnt cs j).1) (by omega) (cnt_ne cs h1)
    unfold stU
    dsimp only
    rw [br_t (by rw [ltF_eq]; exact decide_eq_true (by omega)), askS_sel (show ok6b _ _ _ _ _ _ = true from g1)]
    exact pushR (bb := true) ⟨rfl, rfl, g2, h3, rfl, rfl⟩ (by omega)
theorem lastU {q : RO} (hq : RepV cs n q) : (stU cs n c q).sel = some (.inr 0) := by
  cases q with
  | z =>
    have : n = 0 := hq
    subst this; rfl
  | s j' l st =>
    obtain ⟨rfl, _⟩ := hq
    unfold stU
    dsimp only
    rw [br_f (by rw [ltF_eq]; simp)]; rfl
  | b j' l st lc cy =>
    obtain ⟨rfl, _⟩ := hq
    unfold stU
    dsimp only
    rw [br_f (by rw [ltF_eq]; simp)]; rfl
theorem runU (h : okP cs n c) (hn : n < 999990) : ∀ (d j : Nat) (q : RO), j + d = n → RepV cs j q → ∃ m r, runS (stU cs n c) m q = some (0, r) ∧ RepV cs n r
  | 0, j, q, hd, hq => by
    have : j = n := by omega
    subst this
    exact ⟨1, q, runD (lastU hq), hq⟩
  | d + 1, j, q, hd, hq => by
    obtain ⟨q', h1, h2⟩ := stepU h hn (by omega) hq
    obtain ⟨m, r, h3, h4⟩ := runU h hn d (j + 1) q' (by omega) h2
    exact ⟨m + 1, r, runN h1 h3, h4⟩
end
section
variable (cs : List Value) (t s n c : Nat) (ex : Bool)
noncomputable def K24 (q : RO) : Cfg := ⟨TU, no_, off_, loopE noL 84 4 72 2 BuO ((ShU cs n c t s ex).st .z).live ((ShU cs n c t s ex).st .z).hp (finO (ShU cs n c t s ex) (0, q) [0])⟩
noncomputable def o24 (q : RO) : Out QRes := execO Tryz.prog 2 (K24 cs t s n c ex q) 60 (.call 84 ⟨[sl 1 0 n c]⟩ (heapL (deads ++ [.cells cs t s ex])))
theorem v24s (j : Int) (l : Nat) (st : List Value) : (o24 cs t s n c ex (.s j l st)).twos [2] = .br true (.leaf (tp [.slice none 0 0, sl 2 0 l l]) [some (.cells st 93 2 false)]) .fail := by kernel_rfl
theorem x24s (j : Int) (l : Nat) (st : List Value) : o24 cs t s n c ex (.s j l st) = (o24 cs t s n c ex (.s j l st)).fix := by kernel_rfl
theorem v24b (j : Int) (l : Nat) (st : List Value) (lc : Nat) (cy : List Value) : (o24 cs t s n c ex (.b j l st lc cy)).twos [3, 2] = .br true (.leaf (tp [sl 3 0 lc lc, sl 2 0 l l]) [some (.cells cy 96 4 false), some (.cells st 93 2 false)]) .fail := by kernel_rfl
theorem x24b (j : Int) (l : Nat) (st : List Value) (lc : Nat) (cy : List Value) : o24 cs t s n c ex (.b j l st lc cy) = (o24 cs t s n c ex (.b j l st lc cy)).fix := by kernel_rfl
end
def R24 (f : Bool) (cs : List Value) (n : Nat) : List NC := cond f
  [.s (cnt cs n).2.length (cnt cs n).2.length (flatC (cnt cs n).2) 96 4 false, .s (cnt cs n).1.length (cnt cs n).1.length (flatP (cnt cs n).1.reverse) 93 2 false]
  [.v (.slice none 0 0), .s (cnt cs n).1.length (cnt cs n).1.length (flatP (cnt cs n).1.reverse) 93 2 false]
def sp24 (f : Bool) : TSpec := fun al css => match al, css with
  | [.slice (some ⟨1, 0, none⟩) n c], [cs] => some (P59 f cs n c, R24 f cs n)
  | _, _ => none
theorem c24 (f : Bool) : ∀ al css os p v, sp24 f al css = some (p, v) → p → Blks css os → (∀ cs ∈ css, cs.all Ex.flat = true) ∧ NC.Ok Tryz.prog 84 al deads os (gl + css.length) v := by
  intro al css os p v hs hp hb
  unfold sp24 at hs
  split at hs
  case h_2 => cases hs
  rename_i n c cs
  cases hs
  obtain ⟨t, s, ex, rfl⟩ := blks1 hb
  obtain ⟨p1, p2, p3, p4⟩ := hp
  refine ⟨by simpa using p1.1, ?_⟩
  obtain ⟨m, q, hr, hrep⟩ := runU p1 p3 n 0 .z (by omega) rfl
  unfold R24
  cases q with
  | z =>
    have : n = 0 := hrep
    omega
  | s j l st =>
    obtain ⟨rfl, _, rfl, rfl, h2⟩ := hrep
    have hL := (LuO (t := t) (s := s) (ex := ex) (n := n) (c := c) p1.1).table (id := 4) (s0 := .z) .none (by decide) (by trivial) hr (by kernel_rfl) [0]
    cases f with
    | true => exact absurd h2 p4
    | false =>
      refine twos_ok (C := K24 cs t s n c ex (.s (n : Int) _ _)) (n := 60) (κ := [2]) tsU hL (x24s cs t s n c ex _ _ _) ?_ rfl (by decide) (show ∀ c ∈ [2], 2 ≤ c by decide) ?_
      · exact (congrArg TT.sel (v24s cs t s n c ex _ _ _)).trans rfl
      · show ((flatP (cnt cs n).1.reverse).all flat && true) = true
        rw [flatP_flat]; rfl
  | b j l st lc cy =>
    obtain ⟨rfl, _, rfl, rfl, h2, rfl, rfl⟩ := hrep
    have hL := (LuO (t := t) (s := s) (ex := ex) (n := n) (c := c) p1.1).table (id := 4) (s0 := .z) .none (by decide) (by trivial) hr (by kernel_rfl) [0]
    cases f with
    | false => exact absurd p4 h2
    | true =>
      refine twos_ok (C := K24 cs t s n c ex (.b (n : Int) _ _ _ _)) (n := 60) (κ := [3, 2]) tsU hL (x24b cs t s n c ex _ _ _ _ _) ?_ rfl (by decide) (show ∀ c ∈ [3, 2], 2 ≤ c by decide) ?_
      · exact (congrArg TT.sel (v24b cs t s n c ex _ _ _ _ _)).trans rfl
      · show ((flatC (cnt cs n).2).all flat && ((flatP (cnt cs n).1.reverse).all flat && true)) = true
        rw [flatP_flat, flatC_flat]; rfl
end Go.Proofs.YteemponkignnhaaGreat.Ways
