import Derived.Test.YteemponkignnhaaLc1
import Derived.Test.YteemponkignnhaaLr3
import Derived.Test.YteemponkignnhaaEngOrdA
set_option maxRecDepth 10000
noncomputable section
namespace Go.Proofs.Yteemponkignnhaa.Ways
open Go Go.Ex Go.RowKit Go.Turn
def k4 : List CK := [.i .i64, .i .i64, .i .i64, .i .i64]
def okF (cs : List Value) (n c : Nat) : Prop := cs.all Ex.flat = true ∧ n ≤ c ∧ n < 4000000000000000000 ∧ ∀ j, j < n → areCells k4 cs (0 + j * 4) = true
def cF (cs : List Value) (j : Int) : Bool := areCells k4 cs (0 + j.toNat * 4)
def f_ (cs : List Value) (j k : Nat) : Int := intO cs[0 + j * 4 + k]?
def spE : Nat → Nat → Split := at_ [(65, 10), (65, 14), (65, 24), (66, 10), (66, 14), (66, 24), (27, 10), (27, 14), (27, 25), (18, 10), (18, 14), (18, 25), (41, 10), (41, 14), (41, 25)] .bool no_
def syE : Nat → Nat → Bool := on_ [(65, 18), (65, 19), (65, 22), (65, 23), (66, 18), (66, 19), (66, 22), (66, 23), (27, 19), (27, 20), (27, 23), (27, 24), (18, 19), (18, 20), (18, 23), (18, 24), (41, 19), (41, 20), (41, 23), (41, 24)]
def spN : Nat → Nat → Split := at_ [(65, 10), (66, 10), (27, 10), (18, 10), (41, 10)] .bool (at_ [(65, 12), (66, 12), (27, 13), (18, 13), (41, 13)] (.ints []) no_)
def CE : Cfg := ⟨noT, spE, syE, noL⟩
noncomputable def B39 : Code := bodyL Try.f41 4
section
variable (eq : List Value → List Value → Nat → Bool) (ck : List Value → Int → Bool) (cs ds : List Value) (t s n c t2 s2 m c2 : Nat) (ex e2 : Bool)
def stE (j : Int) : SS Int := .br (ltF j n) (askS (bnd_ j n c) <| askS (ck cs j) <| askS (bnd_ j m c2) <| askS (ck ds j) <| .br (!eq cs ds j.toNat) (.done 3 [0, 1, 2] 1) (.next 3 [0, 1, 2] (wrapF .i64 (j + 1)))) (.done 3 [0, 1, 2] 0)
def sameE : Bool := decide (n = m) && eqF (firstF (fun j => cond (eq cs ds j) 0 1) n 0) 0
noncomputable def KE (f id : Nat) (b : Code) (S : Shape Int) (r : Nat × Int) : Cfg := ⟨noT, spE, syE, loopE noL f id 26 3 b (S.st 0).live (S.st 0).hp (finO S r [0, 1])⟩
noncomputable def oE (f id : Nat) (b : Code) (S : Shape Int) (r : Nat × Int) : Out QRes := execO Try.prog 3 (KE f id b S r) 60 (.call f ⟨[sl 1 0 n c, sl 2 0 m c2]⟩ (heapL [.dead, .cells cs t s ex, .cells ds t2 s2 e2]))
noncomputable def oN (f : Nat) : Out QRes := execO Try.prog 3 ⟨noT, spN, off_, noL⟩ 60 (.call f ⟨[sl 1 0 n c, sl 2 0 m c2]⟩ (heapL [.dead, .cells cs t s ex, .cells ds t2 s2 e2]))
def vtN : VT := .br (!eqF n m) (.leaf (b_ false)) .fail
def vtE (r : Nat × Int) : VT := .br (!eqF n m) (.leaf (b_ false)) (.br (Nat.beq r.1 0) (.leaf (b_ true)) (.br (Nat.beq r.1 1) (.leaf (b_ false)) .fail))
theorem n16 : (oN cs ds t s n c t2 s2 m c2 ex e2 18).vals = vtN n m := by kernel_rfl
theorem n39 : (oN cs ds t s n c t2 s2 m c2 ex e2 41).vals = vtN n m := by kernel_rfl
theorem m16 : oN cs ds t s n c t2 s2 m c2 ex e2 18 = (oN cs ds t s n c t2 s2 m c2 ex e2 18).fix := by kernel_rfl
theorem m39 : oN cs ds t s n c t2 s2 m c2 ex e2 41 = (oN cs ds t s n c t2 s2 m c2 ex e2 41).fix := by kernel_rfl
theorem v16b (r : Nat × Int) : (oE cs ds t s n c t2 s2 m c2 ex e2 18 4 B16 (S16 cs ds t s n c t2 s2 m c2 ex e2) r).vals = vtE n m r := by kernel_rfl
theorem v39 (r : Nat × Int) : (oE cs ds t s n c t2 s2 m c2 ex e2 41 4 B39 (S16 cs ds t s n c t2 s2 m c2 ex e2) r).vals = vtE n m r := by kernel_rfl
theorem x16b (r : Nat × Int) : oE cs ds t s n c t2 s2 m c2 ex e2 18 4 B16 (S16 cs ds t s n c t2 s2 m c2 ex e2) r = (oE cs ds t s n c t2 s2 m c2 ex e2 18 4 B16 (S16 cs ds t s n c t2 s2 m c2 ex e2) r).fix := by kernel_rfl
theorem x39 (r : Nat × Int) : oE cs ds t s n c t2 s2 m c2 ex e2 41 4 B39 (S16 cs ds t s n c t2 s2 m c2 ex e2) r = (oE cs ds t s n c t2 s2 m c2 ex e2 41 4 B39 (S16 cs ds t s n c t2 s2 m c2 ex e2) r).fix := by kernel_rfl
end
section
variable {cs ds : List Value} {t s n c t2 s2 m c2 : Nat} {ex e2 : Bool}
theorem L16b (h : cs.all Ex.flat = true) (h2 : ds.all Ex.flat = true) : Loop1 Try.prog 3 18 B16 (S16 cs ds t s n c t2 s2 m c2 ex e2) 3 (stE eqP cP cs ds n c m c2) (fun _ => True) :=
  .mk' (C := fun _ => CE) (n := 60) (fun _ _ => .none) (fun _ _ => .none) (fun s ro _ => by kernel_rfl) (fun s ro _ => by kernel_rfl) (fun s => by kernel_rfl) (fun _ _ _ _ => trivial) (fun _ _ => hpR_flat h h2)
    (fun s j _ _ => by cases j <;> exact ⟨hpR_flat h h2, fun h => by cases h⟩)
theorem L39 (h : cs.all Ex.flat = true) (h2 : ds.all Ex.flat = true) : Loop1 Try.prog 3 41 B39 (S16 cs ds t s n c t2 s2 m c2 ex e2) 3 (stE eqP cP cs ds n c m c2) (fun _ => True) :=
  .mk' (C := fun _ => CE) (n := 60) (fun _ _ => .none) (fun _ _ => .none) (fun s ro _ => by kernel_rfl) (fun s ro _ => by kernel_rfl) (fun s => by kernel_rfl) (fun _ _ _ _ => trivial) (fun _ _ => hpR_flat h h2)
    (fun s j _ _ => by cases j <;> exact ⟨hpR_flat h h2, fun h => by cases h⟩)
end
def okX (ck : List Value → Int → Bool) (a : List Value) (n c : Nat) : Prop := a.all Ex.flat = true ∧ n ≤ c ∧ n < 4000000000000000000 ∧ ∀ j : Nat, j < n → ck a (j : Int) = true
theorem runE {eq : List Value → List Value → Nat → Bool} {ck : List Value → Int → Bool} {cs ds : List Value} {n c c2 : Nat} (h : okX ck cs n c) (h2 : okX ck ds n c2) :
    ∃ r, runS (stE eq ck cs ds n c n c2) (n + 1) 0 = some r ∧ ((vtE n n r).sel = some (b_ (sameE eq cs ds n n))) := by
  obtain ⟨r, h3, h4⟩ := run_first (step := stE eq ck cs ds n c n c2) (e := fun j => cond (eq cs ds j) 0 1) (st := fun j => ((j : Nat) : Int)) (a := 0) (b := fun _ => 1) n (fun j hj he => by
    have he' : eq cs ds j = true := by cases hh : eq cs ds j with
      | true => rfl
      | false => rw [hh] at he; exact absurd he (by decide)
    unfold stE
    rw [br_t (by rw [ltF_eq]; simpa using hj), askS_sel (bnd_t hj h.2.1), askS_sel (h.2.2.2 j hj), askS_sel (bnd_t hj h2.2.1), askS_sel (h2.2.2.2 j hj), show ((j : Nat) : Int).toNat = j from rfl, br_f (by rw [he']; rfl), wsucc (by have := h.2.2.1; omega)]; rfl) (fun j hj he => by
    have he' : eq cs ds j = false := by cases hh : eq cs ds j with
      | false => rfl
      | true => rw [hh] at he; exact absurd rfl he
    unfold stE
    rw [br_t (by rw [ltF_eq]; simpa using hj), askS_sel (bnd_t hj h.2.1), askS_sel (h.2.2.2 j hj), askS_sel (bnd_t hj h2.2.1), askS_sel (h2.2.2.2 j hj), show ((j : Nat) : Int).toNat = j from rfl, br_t (by rw [he']; rfl)]; rfl) (by
    unfold stE
    rw [br_f (by rw [ltF_eq]; simp)]; rfl)
  refine ⟨r, h3, ?_⟩
  unfold sameE vtE
  rw [vb_f (by rw [eqF_d, decide_eq_true rfl]; rfl), decide_eq_true rfl, Bool.true_and]
  rcases h4 with ⟨g1, rfl⟩ | ⟨g1, j, _, rfl, _, _⟩
  · rw [g1]; rfl
  · rw [show eqF (firstF (fun j => cond (eq cs ds j) 0 1) n 0) 0 = false from by rw [eqF_d, decide_eq_false g1]]; rfl
theorem sameE_ne {eq : List Value → List Value → Nat → Bool} {cs ds : List Value} {n m : Nat} (h : n ≠ m) : sameE eq cs ds n m = false := by
  unfold sameE
  rw [decide_eq_false h]; rfl
noncomputable def spSame (eq : List Value → List Value → Nat → Bool) (ck : List Value → Int → Bool) : ESpec := fun al css => match al, css with
  | [.slice (some ⟨1, 0, none⟩) n c, .slice (some ⟨2, 0, none⟩) m c2], [a, b] => some (okX ck a n c ∧ okX ck b m c2, b_ (sameE eq a b n m))
  | _, _ => none
theorem cE {f id : Nat} {b : Code} {S : List Value → List Value → Nat → Nat → Nat → Nat → Nat → Nat → Nat → Nat → Bool → Bool → Shape Int} {eq : List Value → List Value → Nat → Bool} {ck : List Value → Int → Bool}
    (hv : ∀ cs ds t s n c t2 s2 m c2 ex e2 r, (oE cs ds t s n c t2 s2 m c2 ex e2 f id b (S cs ds t s n c t2 s2 m c2 ex e2) r).vals = vtE n m r)
    (hx : ∀ cs ds t s n c t2 s2 m c2 ex e2 r, oE cs ds t s n c t2 s2 m c2 ex e2 f id b (S cs ds t s n c t2 s2 m c2 ex e2) r = (oE cs ds t s n c t2 s2 m c2 ex e2 f id b (S cs ds t s n c t2 s2 m c2 ex e2) r).fix)
    (hl : ∀ {cs ds t s n c t2 s2 m c2 ex e2}, cs.all Ex.flat = true → ds.all Ex.flat = true → Loop1 Try.prog 3 f b (S cs ds t s n c t2 s2 m c2 ex e2) 3 (stE eq ck cs ds n c m c2) (fun _ => True))
    (hn : ∀ cs ds t s n c t2 s2 m c2 ex e2, (oN cs ds t s n c t2 s2 m c2 ex e2 f).vals = vtN n m) (hm : ∀ cs ds t s n c t2 s2 m c2 ex e2, oN cs ds t s n c t2 s2 m c2 ex e2 f = (oN cs ds t s n c t2 s2 m c2 ex e2 f).fix)
    (hN : ∀ {cs ds t s n c t2 s2 m c2 ex e2}, (S cs ds t s n c t2 s2 m c2 ex e2).N = 26)
    (hg : ∀ {cs ds t s n c t2 s2 m c2 ex e2}, goodR 3 3 ((S cs ds t s n c t2 s2 m c2 ex e2).st 0).live ((S cs ds t s n c t2 s2 m c2 ex e2).st 0).hp (List.range 3) = true) :
    ∀ al css os p v, spSame eq ck al css = some (p, v) → p → Blks css os → (∀ cs ∈ css, cs.all Ex.flat = true) ∧ clean 6 v = true ∧ ∃ H', Sound Try.prog (gl + css.length) (.call f ⟨al⟩ (heapL (deads ++ os))) (.val v H') := by
  intro al css os p v hs hp hb
  unfold spSame at hs
  split at hs
  case h_2 => cases hs
  rename_i n c m c2 a d
  cases hs
  obtain ⟨t, s, ex, t2, s2, e2, rfl⟩ := blks2 hb
  obtain ⟨p1, p2⟩ := hp
  refine ⟨fun x hx => ?_, rfl, ?_⟩
  · simp only [List.mem_cons, List.not_mem_nil, or_false] at hx
    rcases hx with rfl | rfl
    · exact p1.1
    · exact p2.1
  by_cases h : n = m
  · subst h
    obtain ⟨r, h3, h4⟩ := runE (eq := eq) p1 p2
    have hL := (hl (t := t) (s := s) (t2 := t2) (s2 := s2) (ex := ex) (e2 := e2) (n := n) (c := c) (m := n) (c2 := c2) p1.1 p2.1).table (id := id) .none (by decide) trivial h3 hg [0, 1]
    rw [hN] at hL
    obtain ⟨H', h'⟩ := Out.vals_sel (hx a d t s n c t2 s2 n c2 ex e2 r) (v := b_ (sameE eq a d n n)) (by rw [hv]; exact h4)
    exact ⟨H', execO_sound (C := KE f id b (S a d t s n c t2 s2 n c2 ex e2) r) .none hL 60 _ _ h'⟩
  · rw [sameE_ne h]
    obtain ⟨H', h'⟩ := Out.vals_sel (hm a d t s n c t2 s2 m c2 ex e2) (v := b_ false) (by
      rw [hn]
      unfold vtN
      rw [vb_t (by rw [eqF_d, decide_eq_false (by omega)]; rfl)]; rfl)
    exact ⟨H', execO_sound (C := ⟨noT, spN, off_, noL⟩) .none .none 60 _ _ h'⟩
theorem c16b : ∀ al css os p v, spSame eqP cP al css = some (p, v) → p → Blks css os → (∀ cs ∈ css, cs.all Ex.flat = true) ∧ clean 6 v = true ∧ ∃ H', Sound Try.prog (gl + css.length) (.call 18 ⟨al⟩ (heapL (deads ++ os))) (.val v H') :=
  cE (S := S16) v16b x16b (fun h h2 => L16b h h2) n16 m16 rfl (by intros; kernel_rfl)
theorem c39 : ∀ al css os p v, spSame eqP cP al css = some (p, v) → p → Blks css os → (∀ cs ∈ css, cs.all Ex.flat = true) ∧ clean 6 v = true ∧ ∃ H', Sound Try.prog (gl + css.length) (.call 41 ⟨al⟩ (heapL (deads ++ os))) (.val v H') :=
  cE (S := S16) v39 x39 (fun h h2 => L39 h h2) n39 m39 rfl (by intros; kernel_rfl)
end Go.Proofs.Yteemponkignnhaa.Ways
set_option maxRecDepth 10000
noncomputable section
namespace Go.Proofs.Yteemponkignnhaa.Ways
open Go Go.Ex Go.RowKit Go.Turn
def elF (cs : List Value) (j : Int) : List Value := [i (f_ cs j.toNat 0), i (f_ cs j.toNat 1), i (f_ cs j.toNat 2), i (f_ cs j.toNat 3)]
noncomputable def B26 : Code := bodyL Try.f28 3
def spD : Nat → Nat → Split := at_ [(25, 9), (28, 9)] .bool no_
def syDz : Nat → Nat → Bool := on_ [(25, 10), (25, 11), (28, 10), (28, 11)]
def syD : Nat → Nat → Bool := on_ [(25, 10), (25, 11), (25, 15), (25, 300015), (28, 10), (28, 11), (28, 15), (28, 300015)]
def CD : PS → Cfg
  | .z => ⟨noT, spD, syDz, noL⟩
  | .m _ _ _ => ⟨noT, spD, syD, noL⟩
section
variable (e : Nat) (cs : List Value) (t s n c : Nat) (ex : Bool)
def hpD (out : List Value) : List (CO × Bool) := [(.dead, false), (.cells cs t s ex, true), (.cells out e 4 false, true)]
def SD : Shape PS := ⟨18, fun q => match q with
  | .z => ⟨[(6, sl 1 0 n c), (7, i n), (3, .slice none 0 0), (8, i 0)], hpz cs t s ex⟩
  | .m j l out => ⟨[(6, sl 1 0 n c), (7, i n), (3, sl 2 0 l l), (8, i j)], hpD e cs t s ex out⟩,
  fun _ q => match q with
  | .z => (.exit 0, ⟨[(3, .slice none 0 0)], hpz cs t s ex⟩)
  | .m _ l out => (.exit 0, ⟨[(3, sl 2 0 l l)], hpD e cs t s ex out⟩)⟩
def stD : PS → SS PS
  | .z => .br (ltF 0 n) (askS (bnd_ 0 n c) <| askS (cF cs 0) <| .next 5 [0, 1, 4] (.m 1 1 (elF cs 0))) (.done 2 [0, 1] 0)
  | .m j l out => .br (ltF j n) (askS (bnd_ j n c) <| askS (cF cs j) <| askS (full4 l out) <| .next 6 [0, 1, 5] (.m (wrapF .i64 (j + 1)) (l + 1) (out ++ elF cs j))) (.done 3 [0, 1, 2] 0)
end
section
variable {e : Nat} {cs : List Value} {t s n c : Nat} {ex : Bool}
theorem hpD_flat {out : List Value} (h : cs.all Ex.flat = true) (h2 : out.all Ex.flat = true) : ∀ o, (o, true) ∈ hpD e cs t s ex out → FlatO o := by
  intro o ho
  simp [hpD] at ho
  rcases ho with rfl | rfl
  · exact fun x hx => List.all_eq_true.1 h x hx
  · exact fun x hx => List.all_eq_true.1 h2 x hx
theorem goodD : ∀ q q', GdP q → (stD cs n c q).sel = some (.inl q') → GdP q' := by
  intro q q' hg h
  cases q with
  | z =>
    rcases br_or' h with h | h
    · have h := ask_or' (ask_or' h); cases h; rfl
    · cases h
  | m j l out =>
    rcases br_or' h with h | h
    · have h := ask_or' (ask_or' (ask_or' h)); cases h; exact app_flat hg rfl
    · cases h
theorem L26 (h : cs.all Ex.flat = true) : Loop1 Try.prog 2 28 B26 (SD 69 cs t s n c ex) 2 (stD cs n c) GdP :=
  .mk' (C := CD) (n := 60) (fun q _ => by cases q <;> exact .none) (fun q _ => by cases q <;> exact .none) (fun q ro _ => by cases q <;> kernel_rfl) (fun q ro _ => by cases q <;> kernel_rfl) (fun q => by cases q <;> kernel_rfl) goodD
    (fun q hq => by cases q with
      | z => exact hpI_flat h
      | m _ _ _ => exact hpD_flat h hq)
    (fun q j hq _ => by cases q with
      | z => exact ⟨hpI_flat h, fun h => by cases h⟩
      | m _ _ _ => exact ⟨hpD_flat h hq, fun h => by cases h⟩)
end
theorem okF_at {cs : List Value} {n c j : Nat} (h : okF cs n c) (hj : j < n) (k : Nat) (hk : k < 4) : cs[0 + j * 4 + k]? = some (i (f_ cs j k)) := by
  have h1 := h.2.2.2 j hj
  unfold k4 areCells areCells areCells areCells areCells at h1
  simp only [Bool.and_eq_true, Bool.and_true] at h1
  obtain ⟨g0, g1, g2, g3⟩ := h1
  match k, hk with
  | 0, _ => exact cellAt_eq g0
  | 1, _ => exact cellAt_eq g1
  | 2, _ => exact cellAt_eq g2
  | 3, _ => exact cellAt_eq g3
theorem take_el {cs : List Value} {n c j : Nat} (h : okF cs n c) (hj : j < n) : cs.take ((j + 1) * 4) = cs.take (j * 4) ++ elF cs (j : Int) := by
  have e : (j + 1) * 4 = j * 4 + 1 + 1 + 1 + 1 := by omega
  have a0 := okF_at h hj 0 (by decide)
  have a1 := okF_at h hj 1 (by decide)
  have a2 := okF_at h hj 2 (by decide)
  have a3 := okF_at h hj 3 (by decide)
  rw [show 0 + j * 4 + 0 = j * 4 from by omega] at a0
  rw [show 0 + j * 4 + 1 = j * 4 + 1 from by omega] at a1
  rw [show 0 + j * 4 + 2 = j * 4 + 1 + 1 from by omega] at a2
  rw [show 0 + j * 4 + 3 = j * 4 + 1 + 1 + 1 from by omega] at a3
  rw [e, List.take_add_one, List.take_add_one, List.take_add_one, List.take_add_one, a0, a1, a2, a3]
  simp [elF]
def fsT (cs : List Value) : Nat → PS
  | 0 => .z
  | j + 1 => .m ((j + 1 : Nat) : Int) (j + 1) (cs.take ((j + 1) * 4))
theorem full4_t {l : Nat} {out : List Value} (h : out.length = l * 4) (hl : l < 1000000) : full4 l out = true := by
  unfold full4
  rw [decide_eq_true rfl, decide_eq_true h, decide_eq_true (by omega)]; rfl
theorem runD_ {cs : List Value} {n c : Nat} (h : okF cs n c) (hn : n < 1000000) (hl : cs.length = n * 4) : runS (stD cs n c) (n + 1) .z = some (0, fsT cs n) := by
  have hc := h.2.1
  refine run_all (st := fsT cs) n (fun j hj => ?_) ?_
  · have hT : fsT cs (j + 1) = .m ((j + 1 : Nat) : Int) (j + 1) (cs.take (j * 4) ++ elF cs (j : Int)) := by rw [← take_el h hj]; rfl
    rw [hT]
    cases j with
    | zero =>
      show (stD cs n c .z).sel = _
      unfold stD
      rw [br_t (by rw [ltF_eq]; simpa using hj), askS_sel (show bnd_ 0 n c = true from bnd_t (j := 0) hj hc), askS_sel (show cF cs 0 = true from h.2.2.2 0 hj)]; rfl
    | succ j =>
      show (stD cs n c (.m ((j + 1 : Nat) : Int) (j + 1) (cs.take ((j + 1) * 4)))).sel = _
      unfold stD
      dsimp only
      rw [br_t (by rw [ltF_eq]; exact decide_eq_true (by omega)), askS_sel (bnd_t hj hc), askS_sel (show cF cs ((j + 1 : Nat) : Int) = true from h.2.2.2 (j + 1) hj), askS_sel (full4_t (by rw [List.length_take, hl]; omega) (by omega)), wsucc (by omega)]; rfl
  · cases n with
    | zero => rfl
    | succ n =>
      show (stD cs (n + 1) c (.m ((n + 1 : Nat) : Int) _ _)).sel = _
      unfold stD
      dsimp only
      rw [br_f (by rw [ltF_eq]; simp)]; rfl
section
variable (cs : List Value) (t s n c : Nat) (ex : Bool)
noncomputable def K26 (r : Nat × PS) : Cfg := ⟨noT, no_, off_, loopE noL 28 3 18 2 B26 ((SD 69 cs t s n c ex).st .z).live ((SD 69 cs t s n c ex).st .z).hp (finO (SD 69 cs t s n c ex) r [0])⟩
noncomputable def o26 (r : Nat × PS) : Out QRes := execO Try.prog 2 (K26 cs t s n c ex r) 60 (.call 28 ⟨[sl 1 0 n c]⟩ (heapL (deads ++ [.cells cs t s ex])))
theorem v26 (j : Int) (l : Nat) (out : List Value) : (o26 cs t s n c ex (0, .m j l out)).news = .br true (.leaf 2 (.sl l l out 69 4 false)) .fail := by kernel_rfl
theorem x26 (j : Int) (l : Nat) (out : List Value) : o26 cs t s n c ex (0, .m j l out) = (o26 cs t s n c ex (0, .m j l out)).fix := by kernel_rfl
end
def CfE (cs : List Value) (n c : Nat) : Prop := okF cs n c ∧ 1 ≤ n ∧ n < 1000000 ∧ cs.length = n * 4
def sp23 (e : Nat) : NSpec := fun al css => match al, css with
  | [.slice (some ⟨1, 0, none⟩) n c], [cs] => some (CfE cs n c, .sl n n cs e 4 false)
  | _, _ => none
theorem fsT_end {cs : List Value} {k : Nat} (h : cs.length = (k + 1) * 4) : fsT cs (k + 1) = .m ((k + 1 : Nat) : Int) (k + 1) cs := by
  show PS.m _ _ (cs.take ((k + 1) * 4)) = _
  rw [← h, List.take_length]
theorem c26 : ∀ al css os p v, sp23 69 al css = some (p, v) → p → Blks css os → (∀ cs ∈ css, cs.all Ex.flat = true) ∧ v.Ok Try.prog 28 al deads os (gl + css.length) := by
  intro al css os p v hs hp hb
  unfold sp23 at hs
  split at hs
  case h_2 => cases hs
  rename_i n c cs
  cases hs
  obtain ⟨t, s, ex, rfl⟩ := blks1 hb
  obtain ⟨p1, p2, p3, p4⟩ := hp
  refine ⟨by simpa using p1.1, ?_⟩
  obtain ⟨k, rfl⟩ : ∃ k, n = k + 1 := ⟨n - 1, by omega⟩
  have hL := (L26 (t := t) (s := s) (ex := ex) (n := k + 1) (c := c) p1.1).table (id := 3) (s0 := .z) .none (by decide) trivial (runD_ p1 p3 p4) (by kernel_rfl) [0]
  rw [fsT_end p4] at hL
  exact news_ok (C := K26 cs t s (k + 1) c ex (0, .m ((k + 1 : Nat) : Int) (k + 1) cs)) (n := 60) .none hL (x26 cs t s (k + 1) c ex _ _ _) (b := 2) ((congrArg NT.sel (v26 cs t s (k + 1) c ex _ _ _)).trans rfl) (show 2 ≤ 2 by decide) p1.1
def sp17t : NSpec := fun al css => match al, css with
  | [.slice (some ⟨1, 0, none⟩) n c], [cs] => some (TokE cs n c, .sl n n (flatP (pts cs n)) 70 2 false)
  | _, _ => none
theorem c17t : ∀ al css os p v, sp17t al css = some (p, v) → p → Blks css os → (∀ cs ∈ css, cs.all Ex.flat = true) ∧ v.Ok Try.prog 19 al deads os (gl + css.length) := by
  intro al css os p v hs hp hb
  unfold sp17t at hs
  split at hs
  case h_2 => cases hs
  rename_i n c cs
  cases hs
  obtain ⟨t, s, ex, rfl⟩ := blks1 hb
  obtain ⟨p1, p2, p3⟩ := hp
  refine ⟨by simpa using p1.1, ?_⟩
  obtain ⟨k, rfl⟩ : ∃ k, n = k + 1 := ⟨n - 1, by omega⟩
  have hL := (L17 (t := t) (s := s) (ex := ex) (n := k + 1) (c := c) p1.1).table (id := 3) (s0 := .z) .none (by decide) trivial (runC p1 p3) (by kernel_rfl) [0]
  have hps : psT (pts cs) (k + 1) = .m ((k + 1 : Nat) : Int) (k + 1) (flatP (pts cs (k + 1))) := by
    show PS.m ((k + 1 : Nat) : Int) (pts cs (k + 1)).length (flatP (pts cs (k + 1))) = _
    rw [pts_len]
  rw [hps] at hL
  exact news_ok (C := K17 cs t s (k + 1) c ex (0, .m ((k + 1 : Nat) : Int) (k + 1) (flatP (pts cs (k + 1))))) (n := 60) ts9 hL (x17m cs t s (k + 1) c ex _ _ _) (b := 2) ((congrArg NT.sel (v17m cs t s (k + 1) c ex _ _ _)).trans rfl) (show 2 ≤ 2 by decide) (flatP_flat _)
end Go.Proofs.Yteemponkignnhaa.Ways
set_option maxRecDepth 10000
noncomputable section
namespace Go.Proofs.Yteemponkignnhaa.Ways
open Go Go.Ex Go.RowKit Go.Turn
section
variable (st : List Value) (t s l c : Nat) (ex : Bool)
end
def regC (id : Nat) : Nat → Code → Array Oper
  | 0, _ => #[]
  | k + 1, c => match c with
    | .region j o _ => cond (Nat.beq j id) o #[]
    | .seq a b => cond (Nat.beq (regC id k a).size 0) (regC id k b) (regC id k a)
    | .cond _ a b => cond (Nat.beq (regC id k a).size 0) (regC id k b) (regC id k a)
    | .block _ a => regC id k a
    | .loop a => regC id k a
    | .scope a => regC id k a
    | _ => #[]
theorem mixU : Try.prog.follows .mixedOrders = true := by kernel_rfl
def w3 (l : Nat) : Int := wrapF .i64 ((l : Int) - 3)
def w2 (l : Nat) : Int := wrapF .i64 ((l : Int) - 2)
def w1 (l : Nat) : Int := wrapF .i64 ((l : Int) - 1)
def X6 (st : List Value) (k : Nat) : List Value := (st.drop 0).take (k * 2)
theorem x6_flat {st : List Value} {k : Nat} (h : st.all Ex.flat = true) : (X6 st k).all Ex.flat = true :=
  List.all_eq_true.2 fun x hx => List.all_eq_true.1 h x (List.mem_of_mem_drop (List.mem_of_mem_take hx))
def apN (k l : Nat) (st : List Value) : Bool := !decide (k = 0) && (decide (k ≤ l) && (decide (k ≤ 1048576) && decide (0 + k * 2 ≤ st.length)))
def slN (w : Int) (l : Nat) : Bool := leF 0 0 && (leF 0 w && leF w l)
end Go.Proofs.Yteemponkignnhaa.Ways
set_option maxRecDepth 10000
noncomputable section
namespace Go.Proofs.Yteemponkignnhaa.Ways
open Go Go.Ex Go.RowKit Go.Turn
section
end
section
end
section
variable {cs st : List Value} {n c l : Nat} {j : Int} {t s : Nat} {ex : Bool}
end
section
variable {cs st : List Value} {n c l : Nat} {j : Int} {t s : Nat} {ex : Bool}
end
section
variable {cs st : List Value} {n c l : Nat} {j : Int} {t s : Nat} {ex : Bool}
end
end Go.Proofs.Yteemponkignnhaa.Ways
set_option maxRecDepth 10000
noncomputable section
namespace Go.Proofs.Yteemponkignnhaa.Ways
open Go Go.Ex Go.RowKit Go.Turn
section
end
section
end
section
variable {cs st cy : List Value} {n c l lc : Nat} {j : Int} {t s : Nat} {ex : Bool}
end
section
variable {cs st cy : List Value} {n c l lc : Nat} {j : Int} {t s : Nat} {ex : Bool}
end
section
variable {cs st cy : List Value} {n c l lc : Nat} {j : Int} {t s : Nat} {ex : Bool}
end
end Go.Proofs.Yteemponkignnhaa.Ways
set_option maxRecDepth 10000
noncomputable section
namespace Go.Proofs.Yteemponkignnhaa.Ways
open Go Go.Ex Go.RowKit Go.Turn
section
end
section
end
section
variable {cs : List Value} {n c : Nat} {t s : Nat} {ex : Bool}
end
section
variable {cs : List Value} {n c : Nat} {t s : Nat} {ex : Bool}
end
section
variable {cs : List Value} {n c : Nat} {t s : Nat} {ex : Bool}
end
end Go.Proofs.Yteemponkignnhaa.Ways
set_option maxRecDepth 10000
noncomputable section
namespace Go.Proofs.Yteemponkignnhaa.Ways
open Go Go.Ex Go.RowKit Go.Turn
section
end
section
end
section
variable {cs st : List Value} {n c l : Nat} {j : Int} {t s : Nat} {ex : Bool}
end
section
variable {cs st : List Value} {n c l : Nat} {j : Int} {t s : Nat} {ex : Bool}
end
section
variable {cs st : List Value} {n c l : Nat} {j : Int} {t s : Nat} {ex : Bool}
end
end Go.Proofs.Yteemponkignnhaa.Ways
set_option maxRecDepth 10000
noncomputable section
namespace Go.Proofs.Yteemponkignnhaa.Ways
open Go Go.Ex Go.RowKit Go.Turn
section
end
section
end
section
variable {cs st cy : List Value} {n c l lc : Nat} {j : Int} {t s : Nat} {ex : Bool}
end
section
variable {cs st cy : List Value} {n c l lc : Nat} {j : Int} {t s : Nat} {ex : Bool}
end
section
variable {cs st cy : List Value} {n c l lc : Nat} {j : Int} {t s : Nat} {ex : Bool}
end
end Go.Proofs.Yteemponkignnhaa.Ways
set_option maxRecDepth 10000
noncomputable section
namespace Go.Proofs.Yteemponkignnhaa.Ways
open Go Go.Ex Go.RowKit Go.Turn
section
end
section
end
section
variable {cs st cy : List Value} {n c l lc : Nat} {j : Int} {t s : Nat} {ex : Bool}
end
section
variable {cs st cy : List Value} {n c l lc : Nat} {j : Int} {t s : Nat} {ex : Bool}
end
section
variable {cs st cy : List Value} {n c l lc : Nat} {j : Int} {t s : Nat} {ex : Bool}
end
end Go.Proofs.Yteemponkignnhaa.Ways
set_option maxRecDepth 10000
noncomputable section
namespace Go.Proofs.Yteemponkignnhaa.Ways
open Go Go.Ex Go.RowKit Go.Turn
section
end
section
end
section
variable {cs st cy : List Value} {n c l lc : Nat} {j : Int} {t s : Nat} {ex : Bool}
end
section
variable {cs st cy : List Value} {n c l lc : Nat} {j : Int} {t s : Nat} {ex : Bool}
end
section
variable {cs st cy : List Value} {n c l lc : Nat} {j : Int} {t s : Nat} {ex : Bool}
end
end Go.Proofs.Yteemponkignnhaa.Ways
set_option maxRecDepth 10000
noncomputable section
namespace Go.Proofs.Yteemponkignnhaa.Ways
open Go Go.Ex Go.RowKit Go.Turn
section
end
section
end
section
variable {cs st cy : List Value} {n c l lc : Nat} {j : Int} {t s : Nat} {ex : Bool}
end
section
variable {cs st cy : List Value} {n c l lc : Nat} {j : Int} {t s : Nat} {ex : Bool}
end
section
variable {cs st cy : List Value} {n c l lc : Nat} {j : Int} {t s : Nat} {ex : Bool}
end
end Go.Proofs.Yteemponkignnhaa.Ways
set_option maxRecDepth 10000
noncomputable section
namespace Go.Proofs.Yteemponkignnhaa.Ways
open Go Go.Ex Go.RowKit Go.Turn
inductive RI where
  | e (l : Nat) (st : List Value)
  | o (l : Nat) (st : List Value) (lc : Nat) (cy : List Value)
  | f (l : Nat) (st : List Value) (lc : Nat) (cy : List Value)
section
variable (cs : List Value) (n c : Nat) (j : Int) (t s : Nat) (ex : Bool)
end
section
variable {cs : List Value} {n c : Nat} {j : Int} {t s : Nat} {ex b : Bool}
end
end Go.Proofs.Yteemponkignnhaa.Ways
set_option maxRecDepth 10000
noncomputable section
namespace Go.Proofs.Yteemponkignnhaa.Ways
open Go Go.Ex Go.RowKit Go.Turn
inductive RO where
  | z
  | s (j : Int) (l : Nat) (st : List Value)
  | b (j : Int) (l : Nat) (st : List Value) (lc : Nat) (cy : List Value)
section
variable (cs : List Value) (n c : Nat) (t s : Nat) (ex : Bool)
end
section
variable {cs : List Value} {n c : Nat} {t s : Nat} {ex : Bool}
end
end Go.Proofs.Yteemponkignnhaa.Ways
set_option maxRecDepth 10000
noncomputable section
namespace Go.Proofs.Yteemponkignnhaa.Ways
open Go Go.Ex Go.RowKit Go.Turn
theorem X6_app (P Q : List Pt) : X6 (flatP (P ++ Q)) P.length = flatP P := by
  unfold X6
  rw [List.drop_zero, flatP_app, ← flatP_len, List.take_left]
theorem apN_t {P : List Pt} {k : Nat} (h : k ≠ 0) (h2 : k ≤ P.length) (h3 : P.length < 1000000) : apN k P.length (flatP P) = true := by
  unfold apN
  rw [decide_eq_false h, decide_eq_true h2, decide_eq_true (by omega), flatP_len, decide_eq_true (by omega)]; rfl
section
variable {a b x d : Pt} {T : List Pt}
end
section
variable {cs : List Value} {n c : Nat}
theorem cnt_ne (cs : List Value) {j : Nat} (h : 1 ≤ j) : (cnt cs j).1 ≠ [] := by
  obtain ⟨k, rfl⟩ : ∃ k, j = k + 1 := ⟨j - 1, by omega⟩
  exact List.cons_ne_nil _ _
end
section
variable (cs : List Value) (t s n c : Nat) (ex : Bool)
end
end Go.Proofs.Yteemponkignnhaa.Ways
