import Derived.Test.YteemponkignnhaaKm6
import Derived.Test.YteemponkignnhaaEngOrdA
set_option maxRecDepth 10000
noncomputable section
namespace Go.Proofs.Yteemponkignnhaa.Ways
open Go Go.Ex Go.RowKit Go.Turn
section
variable (cs : List Value) (t s n c : Nat) (ex : Bool)
end
section
variable {cs : List Value} {t s n c : Nat} {ex : Bool}
end
section
variable (cs : List Value) (t s n c : Nat) (ex : Bool)
end
end Go.Proofs.Yteemponkignnhaa.Ways
set_option maxRecDepth 10000
noncomputable section
namespace Go.Proofs.Yteemponkignnhaa.Ways
open Go Go.Ex Go.RowKit Go.Turn
section
variable (cs : List Value) (t s n c : Nat) (ex : Bool) (e : Int)
end
end Go.Proofs.Yteemponkignnhaa.Ways
set_option maxRecDepth 10000
noncomputable section
namespace Go.Proofs.Yteemponkignnhaa.Ways
open Go Go.Ex Go.RowKit Go.Turn
end Go.Proofs.Yteemponkignnhaa.Ways
set_option maxRecDepth 10000
noncomputable section
namespace Go.Proofs.Yteemponkignnhaa.Ways
open Go Go.Ex Go.RowKit Go.Turn
def bD (m j : Nat) : Bool := Nat.testBit m j
section
variable (cs out : List Value) (t s n c l : Nat) (ex : Bool) (p q u v : Int)
end
end Go.Proofs.Yteemponkignnhaa.Ways
set_option maxRecDepth 10000
noncomputable section
namespace Go.Proofs.Yteemponkignnhaa.Ways
open Go Go.Ex Go.RowKit Go.Turn
section
variable {cs out : List Value} {t s n c l : Nat} {ex : Bool} {p q u v : Int}
end
section
variable (cs out : List Value) (t s n c l : Nat) (ex : Bool) (p q u v : Int)
end
section
variable {cs out : List Value} {t s n c l : Nat} {ex : Bool} {p q u v : Int}
end
end Go.Proofs.Yteemponkignnhaa.Ways
set_option maxRecDepth 10000
noncomputable section
namespace Go.Proofs.Yteemponkignnhaa.Ways
open Go Go.Ex Go.RowKit Go.Turn
inductive KDd where
  | z (j : Int)
  | m (j : Int) (l : Nat) (out : List Value)
section
variable (cs : List Value) (t s n c : Nat) (ex : Bool)
end
section
variable {cs : List Value} {t s n c : Nat} {ex : Bool}
end
section
variable (cs : List Value) (t s n c : Nat) (ex : Bool)
end
end Go.Proofs.Yteemponkignnhaa.Ways
set_option maxRecDepth 10000
noncomputable section
namespace Go.Proofs.Yteemponkignnhaa.Ways
open Go Go.Ex Go.RowKit Go.Turn
structure Cyv (a b c d : Int) : Prop where
  b0 : 0 ≤ a ∧ a ≤ 39999
  b1 : 0 ≤ b ∧ b ≤ 39999
  b2 : -32768 ≤ c ∧ c ≤ 32768
  b3 : -32768 ≤ d ∧ d ≤ 32768
  lt0 : a < b
  lt2 : c < d
section
variable (cs : List Value) (t s n c : Nat) (ex : Bool)
end
section
variable {cs : List Value} {t s n c : Nat} {ex : Bool}
end
end Go.Proofs.Yteemponkignnhaa.Ways
set_option maxRecDepth 10000
noncomputable section
namespace Go.Proofs.Yteemponkignnhaa.Ways
open Go Go.Ex Go.RowKit Go.Turn
end Go.Proofs.Yteemponkignnhaa.Ways
set_option maxRecDepth 10000
noncomputable section
namespace Go.Proofs.Yteemponkignnhaa.Ways
open Go Go.Ex Go.RowKit Go.Turn
section
variable (cs : List Value) (n t s : Nat) (ex : Bool) (e : Int)
end
end Go.Proofs.Yteemponkignnhaa.Ways
set_option maxRecDepth 10000
noncomputable section
namespace Go.Proofs.Yteemponkignnhaa.Ways
open Go Go.Ex Go.RowKit Go.Turn
section
variable (cs : List Value) (t s n c : Nat) (ex : Bool) (e : Int)
end
section
variable (cs : List Value) (t s n c : Nat) (ex : Bool) (e : Int)
end
end Go.Proofs.Yteemponkignnhaa.Ways
set_option maxRecDepth 10000
noncomputable section
namespace Go.Proofs.Yteemponkignnhaa.Ways
open Go Go.Ex Go.RowKit Go.Turn
section
variable {cs : List Value} {n : Nat} {e : Int}
theorem Fx.sz (h : Fx cs n 0) : 2 * (CC_ cs n).length + LD_ cs n ≤ 24 ∧ 1 ≤ LD_ cs n := by
  have := lens cs n
  have := h.rn
  have := h.n24
  have := h.ld
  omega
theorem Fx.okC (h : Fx cs n 0) : okF (flatC (CC_ cs n)) (CC_ cs n).length (CC_ cs n).length ∧ (CC_ cs n).length < 1000000 := ⟨okF_flat _ h.lt.2.1, h.lt.2.1⟩
end
end Go.Proofs.Yteemponkignnhaa.Ways
set_option maxRecDepth 10000
noncomputable section
namespace Go.Proofs.Yteemponkignnhaa.Ways
open Go Go.Ex Go.RowKit Go.Turn
section
variable {cs : List Value} {n t s : Nat} {ex : Bool} {e : Int}
end
end Go.Proofs.Yteemponkignnhaa.Ways
set_option maxRecDepth 10000
noncomputable section
namespace Go.Proofs.Yteemponkignnhaa.Ways
open Go Go.Ex Go.RowKit Go.Turn
noncomputable def B42 : Code := bodyL Try.f44 3
inductive KL where
  | z
  | m (j : Int) (l : Nat) (out : List Value)
section
variable (cs : List Value) (t s n c : Nat) (ex : Bool)
noncomputable def C42 : Cfg := ⟨noT, at_ [(44, 8)] .bool no_, on_ [(44, 14), (44, 16), (44, 18), (44, 300018)], noL⟩
noncomputable def C42z : Cfg := ⟨noT, at_ [(44, 8)] .bool no_, on_ [(44, 14), (44, 16)], noL⟩
def tdL : KL → Go.Ex.Told
  | .z => ⟨[(0, sl 1 0 n c), (3, .slice none 0 0), (4, i 0)], [ddQ, (.cells cs t s ex, true)]⟩
  | .m j l out => ⟨[(0, sl 1 0 n c), (3, sl 2 0 l l), (4, i j)], [ddQ, (.cells cs t s ex, true), rw1 out]⟩
def fdL : KL → Go.Ex.Told
  | .z => ⟨[(3, .slice none 0 0)], [ddQ, (.cells cs t s ex, true)]⟩
  | .m _ l out => ⟨[(3, sl 2 0 l l)], [ddQ, (.cells cs t s ex, true), rw1 out]⟩
def ShL : Shape KL := ⟨20, tdL cs t s n c ex, fun _ q => (.exit 0, fdL cs t s ex q)⟩
def stL : KL → SS KL
  | .z => .br (ltF 0 n) (askS (bnd_ 0 n c) <| askS (cB2 cs 0) <| .next 4 [0, 1, 3] (.m 1 1 [i (pB cs 0)])) (.done 2 [0, 1] 0)
  | .m j l out => .br (ltF j n) (askS (bnd_ j n c) <| askS (cB2 cs j) <| askS (fl1 l out) <| .next 5 [0, 1, 4] (.m (wrapF .i64 (j + 1)) (l + 1) (out ++ [i (pB cs j.toNat)]))) (.done 3 [0, 1, 2] 0)
def GdL : KL → Prop
  | .z => True
  | .m _ _ out => out.all Ex.flat = true
end
section
variable {cs : List Value} {t s n c : Nat} {ex : Bool}
theorem twoL_flat {out : List Value} (h : cs.all Ex.flat = true) (g : out.all Ex.flat = true) : ∀ o, (o, true) ∈ [ddQ, (.cells cs t s ex, true), rw1 out] → FlatO o := by
  intro o ho
  simp [ddQ, rw1] at ho
  rcases ho with rfl | rfl
  · exact fun y hy => List.all_eq_true.1 h y hy
  · exact fun y hy => List.all_eq_true.1 g y hy
theorem tdL_flat (h : cs.all Ex.flat = true) {q : KL} (hq : GdL q) : (tdL cs t s n c ex q).flat := by
  cases q with
  | z => exact one_flatM h
  | m _ _ _ => exact twoL_flat h hq
theorem fdL_flat (h : cs.all Ex.flat = true) {q : KL} (hq : GdL q) : (fdL cs t s ex q).flat := by
  cases q with
  | z => exact one_flatM h
  | m _ _ _ => exact twoL_flat h hq
theorem goodL : ∀ q q', GdL q → (stL cs n c q).sel = some (.inl q') → GdL q' := by
  intro q q' hg h
  cases q with
  | z =>
    rcases br_or' h with h | h
    · have h := ask_or' (ask_or' h); cases h; rfl
    · cases h
  | m j l out =>
    rcases br_or' h with h | h
    · have h := ask_or' (ask_or' (ask_or' h)); cases h; exact app_flat hg rfl
    · cases h
theorem LL42 (h : cs.all Ex.flat = true) : Loop1 Try.prog 2 44 B42 (ShL cs t s n c ex) 2 (stL cs n c) GdL :=
  .mk' (C := fun q => match q with
    | .z => C42z
    | .m _ _ _ => C42) (n := 60) (fun q _ => by cases q <;> exact .none) (fun q _ => by cases q <;> exact .none)
    (fun q ro _ => by cases q <;> kernel_rfl) (fun q ro _ => by cases q <;> kernel_rfl) (fun q => by cases q <;> kernel_rfl)
    goodL (fun _ hq => tdL_flat h hq) (fun _ _ hq _ => ⟨fdL_flat h hq, fun h => by cases h⟩)
def qL (cs : List Value) : Nat → KL
  | 0 => .z
  | j + 1 => .m ((j + 1 : Nat) : Int) (j + 1) (lstI (pB cs) (j + 1))
theorem runL (h : okP cs n c) (hn : n < 1000000) : runS (stL cs n c) (n + 1) .z = some (0, qL cs n) := by
  refine run_all (step := stL cs n c) (st := qL cs) (a := 0) n (fun j hj => ?_) ?_
  · cases j with
    | zero =>
      show (stL cs n c .z).sel = _
      unfold stL
      rw [br_t (by rw [ltF_eq]; exact decide_eq_true (by omega)), askS_sel (show bnd_ 0 n c = true from bnd_t (j := 0) hj h.2.1), askS_sel (show cB2 cs 0 = true from cB2_t h hj)]; rfl
    | succ j =>
      show (stL cs n c (.m ((j + 1 : Nat) : Int) (j + 1) _)).sel = _
      unfold stL
      dsimp only
      rw [br_t (by rw [ltF_eq]; exact decide_eq_true (by omega)), askS_sel (bnd_t hj h.2.1), askS_sel (cB2_t h hj), askS_sel (fl1_t (lst_len _ _) (by omega)), wsucc (by omega), show ((j + 1 : Nat) : Int).toNat = j + 1 from rfl, ← lst_succ]; rfl
  · cases n with
    | zero => rfl
    | succ n =>
      show (stL cs (n + 1) c (.m ((n + 1 : Nat) : Int) (n + 1) _)).sel = _
      unfold stL
      dsimp only
      rw [br_f (by rw [ltF_eq]; simp)]; rfl
end
section
variable (cs : List Value) (t s n c : Nat) (ex : Bool)
noncomputable def K42 (q : KL) : Cfg := ⟨noT, no_, off_, loopE noL 44 3 20 2 B42 ((ShL cs t s n c ex).st .z).live ((ShL cs t s n c ex).st .z).hp (finO (ShL cs t s n c ex) (0, q) [0])⟩
noncomputable def o42 (q : KL) : Out QRes := execO Try.prog 2 (K42 cs t s n c ex q) 60 (.call 44 ⟨[sl 1 0 n c]⟩ (heapL (deads ++ [.cells cs t s ex])))
theorem v42 (j : Int) (l : Nat) (out : List Value) : (o42 cs t s n c ex (.m j l out)).news = .br true (.leaf 2 (.sl l l out 3 1 false)) .fail := by kernel_rfl
theorem x42 (j : Int) (l : Nat) (out : List Value) : o42 cs t s n c ex (.m j l out) = (o42 cs t s n c ex (.m j l out)).fix := by kernel_rfl
end
def sp42 : NSpec := fun al css => match al, css with
  | [.slice (some ⟨1, 0, none⟩) n c], [cs] => some (TokE cs n c, .sl n n (lstI (pB cs) n) 3 1 false)
  | _, _ => none
theorem c42 : ∀ al css os p v, sp42 al css = some (p, v) → p → Blks css os → (∀ cs ∈ css, cs.all Ex.flat = true) ∧ v.Ok Try.prog 44 al deads os (gl + css.length) := by
  intro al css os p v hs hp hb
  unfold sp42 at hs
  split at hs
  case h_2 => cases hs
  rename_i n c cs
  cases hs
  obtain ⟨t, s, ex, rfl⟩ := blks1 hb
  obtain ⟨p1, p2, p3⟩ := hp
  refine ⟨by simpa using p1.1, ?_⟩
  obtain ⟨k, rfl⟩ : ∃ k, n = k + 1 := ⟨n - 1, by omega⟩
  have hL := (LL42 (t := t) (s := s) (ex := ex) (n := k + 1) (c := c) p1.1).table (id := 3) (s0 := .z) .none (by decide) trivial (runL p1 p3) (by kernel_rfl) [0]
  exact news_ok (C := K42 cs t s (k + 1) c ex (qL cs (k + 1))) (n := 60) .none hL (x42 cs t s (k + 1) c ex _ _ _) (b := 2) ((congrArg NT.sel (v42 cs t s (k + 1) c ex _ _ _)).trans rfl) (show 2 ≤ 2 by decide) (lst_flat _ _)
noncomputable def B41 : Code := bodyL Try.f43 4
def eqI1 (a b : List Value) (j : Nat) : Bool := eqF (eI a j) (eI b j)
def ckI (a : List Value) (j : Int) : Bool := cB a (.i .i64) j
def C41 : Cfg := ⟨noT, at_ [(43, 10), (43, 14), (43, 25)] .bool no_, on_ [(43, 19), (43, 20), (43, 23), (43, 24)], noL⟩
section
variable (cs ds : List Value) (t s n c t2 s2 m c2 : Nat) (ex e2 : Bool)
noncomputable def K41 (r : Nat × Int) : Cfg := ⟨noT, at_ [(43, 10)] .bool no_, off_, loopE noL 43 4 26 3 B41 ((S16 cs ds t s n c t2 s2 m c2 ex e2).st 0).live ((S16 cs ds t s n c t2 s2 m c2 ex e2).st 0).hp (finO (S16 cs ds t s n c t2 s2 m c2 ex e2) r [0])⟩
noncomputable def o41 (r : Nat × Int) : Out QRes := execO Try.prog 3 (K41 cs ds t s n c t2 s2 m c2 ex e2 r) 60 (.call 43 ⟨[sl 1 0 n c, sl 2 0 m c2]⟩ (heapL (deads ++ [.cells cs t s ex, .cells ds t2 s2 e2])))
theorem v41 (j : Int) : (o41 cs ds t s n c t2 s2 m c2 ex e2 (0, j)).vals = .br (!eqF n m) (.leaf (b_ false)) (.br true (.leaf (b_ true)) .fail) := by kernel_rfl
theorem x41 (j : Int) : o41 cs ds t s n c t2 s2 m c2 ex e2 (0, j) = (o41 cs ds t s n c t2 s2 m c2 ex e2 (0, j)).fix := by kernel_rfl
end
theorem L41 {cs ds : List Value} {t s n c t2 s2 m c2 : Nat} {ex e2 : Bool} (h : cs.all Ex.flat = true) (h2 : ds.all Ex.flat = true) : Loop1 Try.prog 3 43 B41 (S16 cs ds t s n c t2 s2 m c2 ex e2) 3 (stE eqI1 ckI cs ds n c m c2) (fun _ => True) :=
  .mk' (C := fun _ => C41) (n := 60) (fun _ _ => .none) (fun _ _ => .none) (fun s ro _ => by kernel_rfl) (fun s ro _ => by kernel_rfl) (fun s => by kernel_rfl) (fun _ _ _ _ => trivial) (fun _ _ => hpR_flat h h2)
    (fun s j _ _ => by cases j <;> exact ⟨hpR_flat h h2, fun h => by cases h⟩)
def sp41 : ESpec := fun al css => match al, css with
  | [.slice (some ⟨1, 0, none⟩) n c, .slice (some ⟨2, 0, none⟩) m c2], [a, b] => some (okI a n c ∧ okI b m c2 ∧ n = m ∧ n < 1000000 ∧ ∀ j, j < n → eI a j = eI b j, b_ true)
  | _, _ => none
theorem c41 : ∀ al css os p v, sp41 al css = some (p, v) → p → Blks css os → (∀ cs ∈ css, cs.all Ex.flat = true) ∧ clean 6 v = true ∧ ∃ H', Sound Try.prog (gl + css.length) (.call 43 ⟨al⟩ (heapL (deads ++ os))) (.val v H') := by
  intro al css os p v hs hp hb
  unfold sp41 at hs
  split at hs
  case h_2 => cases hs
  rename_i n c m c2 a d
  cases hs
  obtain ⟨t, s, ex, t2, s2, e2, rfl⟩ := blks2 hb
  obtain ⟨p1, p2, rfl, p3, p4⟩ := hp
  refine ⟨two_flat p1.1 p2.1, rfl, ?_⟩
  have hr : runS (stE eqI1 ckI a d n c n c2) (n + 1) 0 = some (0, (n : Int)) := by
    refine run_all (step := stE eqI1 ckI a d n c n c2) (st := fun j => ((j : Nat) : Int)) (a := 0) n (fun j hj => ?_) ?_
    · have e : eqI1 a d j = true := by unfold eqI1; rw [p4 j hj, eqF_d, decide_eq_true rfl]
      unfold stE
      rw [br_t (by rw [ltF_eq]; simpa using hj), askS_sel (bnd_t hj p1.2.1), askS_sel (show ckI a (j : Int) = true from cB_t p1 hj), askS_sel (bnd_t hj p2.2.1), askS_sel (show ckI d (j : Int) = true from cB_t p2 hj), show ((j : Nat) : Int).toNat = j from rfl, br_f (by rw [e]; rfl), wsucc (by omega)]; rfl
    · unfold stE
      rw [br_f (by rw [ltF_eq]; simp)]; rfl
  have hL := (L41 (t := t) (s := s) (t2 := t2) (s2 := s2) (ex := ex) (e2 := e2) (n := n) (c := c) (m := n) (c2 := c2) p1.1 p2.1).table (id := 4) .none (by decide) trivial hr (by kernel_rfl) [0]
  obtain ⟨H', h'⟩ := Out.vals_sel (x41 a d t s n c t2 s2 n c2 ex e2 n) (v := b_ true) (by rw [v41, vb_f (by rw [eqF_d, decide_eq_true rfl]; rfl)]; rfl)
  exact ⟨H', execO_sound (C := K41 a d t s n c t2 s2 n c2 ex e2 (0, n)) .none hL 60 _ _ h'⟩
end Go.Proofs.Yteemponkignnhaa.Ways
