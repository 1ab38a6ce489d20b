import Derived.Test.YteemponkignnhaaLc1
import Derived.Test.YteemponkignnhaaLr3
import Derived.Test.YteemponkignnhaaEngOrdA
set_option maxRecDepth 10000
noncomputable section
namespace Go.Proofs.Yteemponkignnhaa.Ways
open Go Go.Ex Go.RowKit Go.Turn
def k4 : List CK := [.i .i64, .i .i64, .i .i64, .i .i64]
def okF (cs : List Value) (n c : Nat) : Prop := cs.all Ex.flat = true ∧ n ≤ c ∧ n < 4000000000000000000 ∧ ∀ j, j < n → areCells k4 cs (0 + j * 4) = true
def cF (cs : List Value) (j : Int) : Bool := areCells k4 cs (0 + j.toNat * 4)
def f_ (cs : List Value) (j k : Nat) : Int := intO cs[0 + j * 4 + k]?
def spN : Nat → Nat → Split := at_ [(65, 10), (66, 10), (27, 10), (18, 10), (41, 10)] .bool (at_ [(65, 12), (66, 12), (27, 13), (18, 13), (41, 13)] (.ints []) no_)
section
variable (eq : List Value → List Value → Nat → Bool) (ck : List Value → Int → Bool) (cs ds : List Value) (t s n c t2 s2 m c2 : Nat) (ex e2 : Bool)
def sameE : Bool := decide (n = m) && eqF (firstF (fun j => cond (eq cs ds j) 0 1) n 0) 0
end
section
variable {cs ds : List Value} {t s n c t2 s2 m c2 : Nat} {ex e2 : Bool}
end
def okX (ck : List Value → Int → Bool) (a : List Value) (n c : Nat) : Prop := a.all Ex.flat = true ∧ n ≤ c ∧ n < 4000000000000000000 ∧ ∀ j : Nat, j < n → ck a (j : Int) = true
end Go.Proofs.Yteemponkignnhaa.Ways
set_option maxRecDepth 10000
noncomputable section
namespace Go.Proofs.Yteemponkignnhaa.Ways
open Go Go.Ex Go.RowKit Go.Turn
def elF (cs : List Value) (j : Int) : List Value := [i (f_ cs j.toNat 0), i (f_ cs j.toNat 1), i (f_ cs j.toNat 2), i (f_ cs j.toNat 3)]
noncomputable def B23 : Code := bodyL Try.f25 3
noncomputable def B26 : Code := bodyL Try.f28 3
def spD : Nat → Nat → Split := at_ [(25, 9), (28, 9)] .bool no_
def syDz : Nat → Nat → Bool := on_ [(25, 10), (25, 11), (28, 10), (28, 11)]
def syD : Nat → Nat → Bool := on_ [(25, 10), (25, 11), (25, 15), (25, 300015), (28, 10), (28, 11), (28, 15), (28, 300015)]
def CD : PS → Cfg
  | .z => ⟨noT, spD, syDz, noL⟩
  | .m _ _ _ => ⟨noT, spD, syD, noL⟩
section
variable (e : Nat) (cs : List Value) (t s n c : Nat) (ex : Bool)
def hpD (out : List Value) : List (CO × Bool) := [(.dead, false), (.cells cs t s ex, true), (.cells out e 4 false, true)]
def SD : Shape PS := ⟨18, fun q => match q with
  | .z => ⟨[(6, sl 1 0 n c), (7, i n), (3, .slice none 0 0), (8, i 0)], hpz cs t s ex⟩
  | .m j l out => ⟨[(6, sl 1 0 n c), (7, i n), (3, sl 2 0 l l), (8, i j)], hpD e cs t s ex out⟩,
  fun _ q => match q with
  | .z => (.exit 0, ⟨[(3, .slice none 0 0)], hpz cs t s ex⟩)
  | .m _ l out => (.exit 0, ⟨[(3, sl 2 0 l l)], hpD e cs t s ex out⟩)⟩
def stD : PS → SS PS
  | .z => .br (ltF 0 n) (askS (bnd_ 0 n c) <| askS (cF cs 0) <| .next 5 [0, 1, 4] (.m 1 1 (elF cs 0))) (.done 2 [0, 1] 0)
  | .m j l out => .br (ltF j n) (askS (bnd_ j n c) <| askS (cF cs j) <| askS (full4 l out) <| .next 6 [0, 1, 5] (.m (wrapF .i64 (j + 1)) (l + 1) (out ++ elF cs j))) (.done 3 [0, 1, 2] 0)
end
section
variable {e : Nat} {cs : List Value} {t s n c : Nat} {ex : Bool}
theorem hpD_flat {out : List Value} (h : cs.all Ex.flat = true) (h2 : out.all Ex.flat = true) : ∀ o, (o, true) ∈ hpD e cs t s ex out → FlatO o := by
  intro o ho
  simp [hpD] at ho
  rcases ho with rfl | rfl
  · exact fun x hx => List.all_eq_true.1 h x hx
  · exact fun x hx => List.all_eq_true.1 h2 x hx
theorem goodD : ∀ q q', GdP q → (stD cs n c q).sel = some (.inl q') → GdP q' := by
  intro q q' hg h
  cases q with
  | z =>
    rcases br_or' h with h | h
    · have h := ask_or' (ask_or' h); cases h; rfl
    · cases h
  | m j l out =>
    rcases br_or' h with h | h
    · have h := ask_or' (ask_or' (ask_or' h)); cases h; exact app_flat hg rfl
    · cases h
theorem L23 (h : cs.all Ex.flat = true) : Loop1 Try.prog 2 25 B23 (SD 86 cs t s n c ex) 2 (stD cs n c) GdP :=
  .mk' (C := CD) (n := 60) (fun q _ => by cases q <;> exact .none) (fun q _ => by cases q <;> exact .none) (fun q ro _ => by cases q <;> kernel_rfl) (fun q ro _ => by cases q <;> kernel_rfl) (fun q => by cases q <;> kernel_rfl) goodD
    (fun q hq => by cases q with
      | z => exact hpI_flat h
      | m _ _ _ => exact hpD_flat h hq)
    (fun q j hq _ => by cases q with
      | z => exact ⟨hpI_flat h, fun h => by cases h⟩
      | m _ _ _ => exact ⟨hpD_flat h hq, fun h => by cases h⟩)
theorem L26 (h : cs.all Ex.flat = true) : Loop1 Try.prog 2 28 B26 (SD 69 cs t s n c ex) 2 (stD cs n c) GdP :=
  .mk' (C := CD) (n := 60) (fun q _ => by cases q <;> exact .none) (fun q _ => by cases q <;> exact .none) (fun q ro _ => by cases q <;> kernel_rfl) (fun q ro _ => by cases q <;> kernel_rfl) (fun q => by cases q <;> kernel_rfl) goodD
    (fun q hq => by cases q with
      | z => exact hpI_flat h
      | m _ _ _ => exact hpD_flat h hq)
    (fun q j hq _ => by cases q with
      | z => exact ⟨hpI_flat h, fun h => by cases h⟩
      | m _ _ _ => exact ⟨hpD_flat h hq, fun h => by cases h⟩)
end
theorem okF_at {cs : List Value} {n c j : Nat} (h : okF cs n c) (hj : j < n) (k : Nat) (hk : k < 4) : cs[0 + j * 4 + k]? = some (i (f_ cs j k)) := by
  have h1 := h.2.2.2 j hj
  unfold k4 areCells areCells areCells areCells areCells at h1
  simp only [Bool.and_eq_true, Bool.and_true] at h1
  obtain ⟨g0, g1, g2, g3⟩ := h1
  match k, hk with
  | 0, _ => exact cellAt_eq g0
  | 1, _ => exact cellAt_eq g1
  | 2, _ => exact cellAt_eq g2
  | 3, _ => exact cellAt_eq g3
theorem take_el {cs : List Value} {n c j : Nat} (h : okF cs n c) (hj : j < n) : cs.take ((j + 1) * 4) = cs.take (j * 4) ++ elF cs (j : Int) := by
  have e : (j + 1) * 4 = j * 4 + 1 + 1 + 1 + 1 := by omega
  have a0 := okF_at h hj 0 (by decide)
  have a1 := okF_at h hj 1 (by decide)
  have a2 := okF_at h hj 2 (by decide)
  have a3 := okF_at h hj 3 (by decide)
  rw [show 0 + j * 4 + 0 = j * 4 from by omega] at a0
  rw [show 0 + j * 4 + 1 = j * 4 + 1 from by omega] at a1
  rw [show 0 + j * 4 + 2 = j * 4 + 1 + 1 from by omega] at a2
  rw [show 0 + j * 4 + 3 = j * 4 + 1 + 1 + 1 from by omega] at a3
  rw [e, List.take_add_one, List.take_add_one, List.take_add_one, List.take_add_one, a0, a1, a2, a3]
  simp [elF]
def fsT (cs : List Value) : Nat → PS
  | 0 => .z
  | j + 1 => .m ((j + 1 : Nat) : Int) (j + 1) (cs.take ((j + 1) * 4))
theorem full4_t {l : Nat} {out : List Value} (h : out.length = l * 4) (hl : l < 1000000) : full4 l out = true := by
  unfold full4
  rw [decide_eq_true rfl, decide_eq_true h, decide_eq_true (by omega)]; rfl
theorem runD_ {cs : List Value} {n c : Nat} (h : okF cs n c) (hn : n < 1000000) (hl : cs.length = n * 4) : runS (stD cs n c) (n + 1) .z = some (0, fsT cs n) := by
  have hc := h.2.1
  refine run_all (st := fsT cs) n (fun j hj => ?_) ?_
  · have hT : fsT cs (j + 1) = .m ((j + 1 : Nat) : Int) (j + 1) (cs.take (j * 4) ++ elF cs (j : Int)) := by rw [← take_el h hj]; rfl
    rw [hT]
    cases j with
    | zero =>
      show (stD cs n c .z).sel = _
      unfold stD
      rw [br_t (by rw [ltF_eq]; simpa using hj), askS_sel (show bnd_ 0 n c = true from bnd_t (j := 0) hj hc), askS_sel (show cF cs 0 = true from h.2.2.2 0 hj)]; rfl
    | succ j =>
      show (stD cs n c (.m ((j + 1 : Nat) : Int) (j + 1) (cs.take ((j + 1) * 4)))).sel = _
      unfold stD
      dsimp only
      rw [br_t (by rw [ltF_eq]; exact decide_eq_true (by omega)), askS_sel (bnd_t hj hc), askS_sel (show cF cs ((j + 1 : Nat) : Int) = true from h.2.2.2 (j + 1) hj), askS_sel (full4_t (by rw [List.length_take, hl]; omega) (by omega)), wsucc (by omega)]; rfl
  · cases n with
    | zero => rfl
    | succ n =>
      show (stD cs (n + 1) c (.m ((n + 1 : Nat) : Int) _ _)).sel = _
      unfold stD
      dsimp only
      rw [br_f (by rw [ltF_eq]; simp)]; rfl
section
variable (cs : List Value) (t s n c : Nat) (ex : Bool)
noncomputable def K23 (r : Nat × PS) : Cfg := ⟨noT, no_, off_, loopE noL 25 3 18 2 B23 ((SD 86 cs t s n c ex).st .z).live ((SD 86 cs t s n c ex).st .z).hp (finO (SD 86 cs t s n c ex) r [0])⟩
noncomputable def K26 (r : Nat × PS) : Cfg := ⟨noT, no_, off_, loopE noL 28 3 18 2 B26 ((SD 69 cs t s n c ex).st .z).live ((SD 69 cs t s n c ex).st .z).hp (finO (SD 69 cs t s n c ex) r [0])⟩
noncomputable def o23 (r : Nat × PS) : Out QRes := execO Try.prog 2 (K23 cs t s n c ex r) 60 (.call 25 ⟨[sl 1 0 n c]⟩ (heapL (deads ++ [.cells cs t s ex])))
noncomputable def o26 (r : Nat × PS) : Out QRes := execO Try.prog 2 (K26 cs t s n c ex r) 60 (.call 28 ⟨[sl 1 0 n c]⟩ (heapL (deads ++ [.cells cs t s ex])))
theorem v23 (j : Int) (l : Nat) (out : List Value) : (o23 cs t s n c ex (0, .m j l out)).news = .br true (.leaf 2 (.sl l l out 86 4 false)) .fail := by kernel_rfl
theorem x23 (j : Int) (l : Nat) (out : List Value) : o23 cs t s n c ex (0, .m j l out) = (o23 cs t s n c ex (0, .m j l out)).fix := by kernel_rfl
theorem v26 (j : Int) (l : Nat) (out : List Value) : (o26 cs t s n c ex (0, .m j l out)).news = .br true (.leaf 2 (.sl l l out 69 4 false)) .fail := by kernel_rfl
theorem x26 (j : Int) (l : Nat) (out : List Value) : o26 cs t s n c ex (0, .m j l out) = (o26 cs t s n c ex (0, .m j l out)).fix := by kernel_rfl
end
def CfE (cs : List Value) (n c : Nat) : Prop := okF cs n c ∧ 1 ≤ n ∧ n < 1000000 ∧ cs.length = n * 4
def sp23 (e : Nat) : NSpec := fun al css => match al, css with
  | [.slice (some ⟨1, 0, none⟩) n c], [cs] => some (CfE cs n c, .sl n n cs e 4 false)
  | _, _ => none
theorem fsT_end {cs : List Value} {k : Nat} (h : cs.length = (k + 1) * 4) : fsT cs (k + 1) = .m ((k + 1 : Nat) : Int) (k + 1) cs := by
  show PS.m _ _ (cs.take ((k + 1) * 4)) = _
  rw [← h, List.take_length]
theorem c23 : ∀ al css os p v, sp23 86 al css = some (p, v) → p → Blks css os → (∀ cs ∈ css, cs.all Ex.flat = true) ∧ v.Ok Try.prog 25 al deads os (gl + css.length) := by
  intro al css os p v hs hp hb
  unfold sp23 at hs
  split at hs
  case h_2 => cases hs
  rename_i n c cs
  cases hs
  obtain ⟨t, s, ex, rfl⟩ := blks1 hb
  obtain ⟨p1, p2, p3, p4⟩ := hp
  refine ⟨by simpa using p1.1, ?_⟩
  obtain ⟨k, rfl⟩ : ∃ k, n = k + 1 := ⟨n - 1, by omega⟩
  have hL := (L23 (t := t) (s := s) (ex := ex) (n := k + 1) (c := c) p1.1).table (id := 3) (s0 := .z) .none (by decide) trivial (runD_ p1 p3 p4) (by kernel_rfl) [0]
  rw [fsT_end p4] at hL
  exact news_ok (C := K23 cs t s (k + 1) c ex (0, .m ((k + 1 : Nat) : Int) (k + 1) cs)) (n := 60) .none hL (x23 cs t s (k + 1) c ex _ _ _) (b := 2) ((congrArg NT.sel (v23 cs t s (k + 1) c ex _ _ _)).trans rfl) (show 2 ≤ 2 by decide) p1.1
theorem c26 : ∀ al css os p v, sp23 69 al css = some (p, v) → p → Blks css os → (∀ cs ∈ css, cs.all Ex.flat = true) ∧ v.Ok Try.prog 28 al deads os (gl + css.length) := by
  intro al css os p v hs hp hb
  unfold sp23 at hs
  split at hs
  case h_2 => cases hs
  rename_i n c cs
  cases hs
  obtain ⟨t, s, ex, rfl⟩ := blks1 hb
  obtain ⟨p1, p2, p3, p4⟩ := hp
  refine ⟨by simpa using p1.1, ?_⟩
  obtain ⟨k, rfl⟩ : ∃ k, n = k + 1 := ⟨n - 1, by omega⟩
  have hL := (L26 (t := t) (s := s) (ex := ex) (n := k + 1) (c := c) p1.1).table (id := 3) (s0 := .z) .none (by decide) trivial (runD_ p1 p3 p4) (by kernel_rfl) [0]
  rw [fsT_end p4] at hL
  exact news_ok (C := K26 cs t s (k + 1) c ex (0, .m ((k + 1 : Nat) : Int) (k + 1) cs)) (n := 60) .none hL (x26 cs t s (k + 1) c ex _ _ _) (b := 2) ((congrArg NT.sel (v26 cs t s (k + 1) c ex _ _ _)).trans rfl) (show 2 ≤ 2 by decide) p1.1
def sp17t : NSpec := fun al css => match al, css with
  | [.slice (some ⟨1, 0, none⟩) n c], [cs] => some (TokE cs n c, .sl n n (flatP (pts cs n)) 70 2 false)
  | _, _ => none
theorem c17t : ∀ al css os p v, sp17t al css = some (p, v) → p → Blks css os → (∀ cs ∈ css, cs.all Ex.flat = true) ∧ v.Ok Try.prog 19 al deads os (gl + css.length) := by
  intro al css os p v hs hp hb
  unfold sp17t at hs
  split at hs
  case h_2 => cases hs
  rename_i n c cs
  cases hs
  obtain ⟨t, s, ex, rfl⟩ := blks1 hb
  obtain ⟨p1, p2, p3⟩ := hp
  refine ⟨by simpa using p1.1, ?_⟩
  obtain ⟨k, rfl⟩ : ∃ k, n = k + 1 := ⟨n - 1, by omega⟩
  have hL := (L17 (t := t) (s := s) (ex := ex) (n := k + 1) (c := c) p1.1).table (id := 3) (s0 := .z) .none (by decide) trivial (runC p1 p3) (by kernel_rfl) [0]
  have hps : psT (pts cs) (k + 1) = .m ((k + 1 : Nat) : Int) (k + 1) (flatP (pts cs (k + 1))) := by
    show PS.m ((k + 1 : Nat) : Int) (pts cs (k + 1)).length (flatP (pts cs (k + 1))) = _
    rw [pts_len]
  rw [hps] at hL
  exact news_ok (C := K17 cs t s (k + 1) c ex (0, .m ((k + 1 : Nat) : Int) (k + 1) (flatP (pts cs (k + 1))))) (n := 60) ts9 hL (x17m cs t s (k + 1) c ex _ _ _) (b := 2) ((congrArg NT.sel (v17m cs t s (k + 1) c ex _ _ _)).trans rfl) (show 2 ≤ 2 by decide) (flatP_flat _)
end Go.Proofs.Yteemponkignnhaa.Ways
set_option maxRecDepth 10000
noncomputable section
namespace Go.Proofs.Yteemponkignnhaa.Ways
open Go Go.Ex Go.RowKit Go.Turn
section
variable (st : List Value) (t s l c : Nat) (ex : Bool)
end
def regC (id : Nat) : Nat → Code → Array Oper
  | 0, _ => #[]
  | k + 1, c => match c with
    | .region j o _ => cond (Nat.beq j id) o #[]
    | .seq a b => cond (Nat.beq (regC id k a).size 0) (regC id k b) (regC id k a)
    | .cond _ a b => cond (Nat.beq (regC id k a).size 0) (regC id k b) (regC id k a)
    | .block _ a => regC id k a
    | .loop a => regC id k a
    | .scope a => regC id k a
    | _ => #[]
theorem mixU : Try.prog.follows .mixedOrders = true := by kernel_rfl
def w3 (l : Nat) : Int := wrapF .i64 ((l : Int) - 3)
def w2 (l : Nat) : Int := wrapF .i64 ((l : Int) - 2)
def w1 (l : Nat) : Int := wrapF .i64 ((l : Int) - 1)
def slN (w : Int) (l : Nat) : Bool := leF 0 0 && (leF 0 w && leF w l)
end Go.Proofs.Yteemponkignnhaa.Ways
set_option maxRecDepth 10000
noncomputable section
namespace Go.Proofs.Yteemponkignnhaa.Ways
open Go Go.Ex Go.RowKit Go.Turn
section
end
section
end
section
variable {cs st : List Value} {n c l : Nat} {j : Int} {t s : Nat} {ex : Bool}
end
section
variable {cs st : List Value} {n c l : Nat} {j : Int} {t s : Nat} {ex : Bool}
end
section
variable {cs st : List Value} {n c l : Nat} {j : Int} {t s : Nat} {ex : Bool}
end
end Go.Proofs.Yteemponkignnhaa.Ways
set_option maxRecDepth 10000
noncomputable section
namespace Go.Proofs.Yteemponkignnhaa.Ways
open Go Go.Ex Go.RowKit Go.Turn
section
end
section
end
section
variable {cs st cy : List Value} {n c l lc : Nat} {j : Int} {t s : Nat} {ex : Bool}
end
section
variable {cs st cy : List Value} {n c l lc : Nat} {j : Int} {t s : Nat} {ex : Bool}
end
section
variable {cs st cy : List Value} {n c l lc : Nat} {j : Int} {t s : Nat} {ex : Bool}
end
end Go.Proofs.Yteemponkignnhaa.Ways
set_option maxRecDepth 10000
noncomputable section
namespace Go.Proofs.Yteemponkignnhaa.Ways
open Go Go.Ex Go.RowKit Go.Turn
section
end
section
end
section
variable {cs : List Value} {n c : Nat} {t s : Nat} {ex : Bool}
end
section
variable {cs : List Value} {n c : Nat} {t s : Nat} {ex : Bool}
end
section
variable {cs : List Value} {n c : Nat} {t s : Nat} {ex : Bool}
end
end Go.Proofs.Yteemponkignnhaa.Ways
set_option maxRecDepth 10000
noncomputable section
namespace Go.Proofs.Yteemponkignnhaa.Ways
open Go Go.Ex Go.RowKit Go.Turn
section
end
section
end
section
variable {cs st : List Value} {n c l : Nat} {j : Int} {t s : Nat} {ex : Bool}
end
section
variable {cs st : List Value} {n c l : Nat} {j : Int} {t s : Nat} {ex : Bool}
end
section
variable {cs st : List Value} {n c l : Nat} {j : Int} {t s : Nat} {ex : Bool}
end
end Go.Proofs.Yteemponkignnhaa.Ways
set_option maxRecDepth 10000
noncomputable section
namespace Go.Proofs.Yteemponkignnhaa.Ways
open Go Go.Ex Go.RowKit Go.Turn
section
end
section
end
section
variable {cs st cy : List Value} {n c l lc : Nat} {j : Int} {t s : Nat} {ex : Bool}
end
section
variable {cs st cy : List Value} {n c l lc : Nat} {j : Int} {t s : Nat} {ex : Bool}
end
section
variable {cs st cy : List Value} {n c l lc : Nat} {j : Int} {t s : Nat} {ex : Bool}
end
end Go.Proofs.Yteemponkignnhaa.Ways
set_option maxRecDepth 10000
noncomputable section
namespace Go.Proofs.Yteemponkignnhaa.Ways
open Go Go.Ex Go.RowKit Go.Turn
section
end
section
end
section
variable {cs st cy : List Value} {n c l lc : Nat} {j : Int} {t s : Nat} {ex : Bool}
end
section
variable {cs st cy : List Value} {n c l lc : Nat} {j : Int} {t s : Nat} {ex : Bool}
end
section
variable {cs st cy : List Value} {n c l lc : Nat} {j : Int} {t s : Nat} {ex : Bool}
end
end Go.Proofs.Yteemponkignnhaa.Ways
set_option maxRecDepth 10000
noncomputable section
namespace Go.Proofs.Yteemponkignnhaa.Ways
open Go Go.Ex Go.RowKit Go.Turn
section
end
section
end
section
variable {cs st cy : List Value} {n c l lc : Nat} {j : Int} {t s : Nat} {ex : Bool}
end
section
variable {cs st cy : List Value} {n c l lc : Nat} {j : Int} {t s : Nat} {ex : Bool}
end
section
variable {cs st cy : List Value} {n c l lc : Nat} {j : Int} {t s : Nat} {ex : Bool}
end
end Go.Proofs.Yteemponkignnhaa.Ways
set_option maxRecDepth 10000
noncomputable section
namespace Go.Proofs.Yteemponkignnhaa.Ways
open Go Go.Ex Go.RowKit Go.Turn
section
end
section
end
section
variable {cs st cy : List Value} {n c l lc : Nat} {j : Int} {t s : Nat} {ex : Bool}
end
section
variable {cs st cy : List Value} {n c l lc : Nat} {j : Int} {t s : Nat} {ex : Bool}
end
section
variable {cs st cy : List Value} {n c l lc : Nat} {j : Int} {t s : Nat} {ex : Bool}
end
end Go.Proofs.Yteemponkignnhaa.Ways
set_option maxRecDepth 10000
noncomputable section
namespace Go.Proofs.Yteemponkignnhaa.Ways
open Go Go.Ex Go.RowKit Go.Turn
inductive RI where
  | e (l : Nat) (st : List Value)
  | o (l : Nat) (st : List Value) (lc : Nat) (cy : List Value)
  | f (l : Nat) (st : List Value) (lc : Nat) (cy : List Value)
section
variable (cs : List Value) (n c : Nat) (j : Int) (t s : Nat) (ex : Bool)
end
section
variable {cs : List Value} {n c : Nat} {j : Int} {t s : Nat} {ex b : Bool}
end
end Go.Proofs.Yteemponkignnhaa.Ways
set_option maxRecDepth 10000
noncomputable section
namespace Go.Proofs.Yteemponkignnhaa.Ways
open Go Go.Ex Go.RowKit Go.Turn
inductive RO where
  | z
  | s (j : Int) (l : Nat) (st : List Value)
  | b (j : Int) (l : Nat) (st : List Value) (lc : Nat) (cy : List Value)
section
variable (cs : List Value) (n c : Nat) (t s : Nat) (ex : Bool)
end
section
variable {cs : List Value} {n c : Nat} {t s : Nat} {ex : Bool}
end
end Go.Proofs.Yteemponkignnhaa.Ways
set_option maxRecDepth 10000
noncomputable section
namespace Go.Proofs.Yteemponkignnhaa.Ways
open Go Go.Ex Go.RowKit Go.Turn
section
variable {a b x d : Pt} {T : List Pt}
end
section
variable {cs : List Value} {n c : Nat}
theorem cnt_ne (cs : List Value) {j : Nat} (h : 1 ≤ j) : (cnt cs j).1 ≠ [] := by
  obtain ⟨k, rfl⟩ : ∃ k, j = k + 1 := ⟨j - 1, by omega⟩
  exact List.cons_ne_nil _ _
end
section
variable (cs : List Value) (t s n c : Nat) (ex : Bool)
end
end Go.Proofs.Yteemponkignnhaa.Ways
