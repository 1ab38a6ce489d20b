import Derived.Test.YtafpmehhdcmllaaGreatDoorMr3
import Derived.Test.YtafpmehhdcmllaaGreatDoorMr6
import Derived.Test.YtafpmehhdcmllaaGreatDoorEngOrdA
noncomputable section
namespace Go.Proofs.YtafpmehhdcmllaaGreatDoor.Ways
open Go Go.Ex Go.RowKit
/-! ### rows of a part of a list, copied: the part begins at the cell o -/
def cRO (ks : List CK) (w o : Nat) (cs : List Value) (j : Int) : Bool := areCells ks cs (o + j.toNat * w)
def okO (ks : List CK) (w o : Nat) (cs : List Value) (n c : Nat) : Prop := cs.all Ex.flat = true ∧ n ≤ c ∧ n < 9223372036854775808 ∧ ∀ j, j < n → areCells ks cs (o + j * w) = true
theorem cRO_t {ks : List CK} {w o : Nat} {cs : List Value} {n c j : Nat} (h : okO ks w o cs n c) (hj : j < n) : cRO ks w o cs (j : Int) = true := h.2.2.2 j hj
def rowsO (ks : List CK) (w o : Nat) (cs : List Value) : Nat → List Value
  | 0 => []
  | j + 1 => rowsO ks w o cs j ++ cellsAt ks cs (o + j * w)
theorem rowsO_len {ks : List CK} {w o : Nat} {cs : List Value} (hw : ks.length = w) : ∀ j, (rowsO ks w o cs j).length = j * w
  | 0 => by simp [rowsO]
  | j + 1 => by
    show (rowsO ks w o cs j ++ cellsAt ks cs (o + j * w)).length = _
    rw [List.length_append, rowsO_len hw j, cellsAt_len, hw, Nat.add_mul, Nat.one_mul]
theorem rowsO_take {ks : List CK} {w o : Nat} {cs : List Value} {n c : Nat} (hw : ks.length = w) (h : okO ks w o cs n c) : ∀ j, j ≤ n → rowsO ks w o cs j = (cs.drop o).take (j * w)
  | 0, _ => by simp [rowsO]
  | j + 1, hj => by
    show rowsO ks w o cs j ++ cellsAt ks cs (o + j * w) = _
    rw [rowsO_take hw h j (by omega), cellsAt_take ks _ (h.2.2.2 j (by omega)), hw, Nat.add_mul, Nat.one_mul, List.take_add, List.drop_drop]
theorem rowsO_flat {ks : List CK} {w o : Nat} {cs : List Value} : ∀ j, (rowsO ks w o cs j).all Ex.flat = true
  | 0 => rfl
  | j + 1 => app_flat (rowsO_flat j) (cellsAt_flat ks cs _)
def stO (ks : List CK) (w o : Nat) (cs : List Value) (n c : Nat) : PS → SS PS
  | .z => .br (ltF 0 n) (askS (bnd_ 0 n c) <| askS (cRO ks w o cs 0) <| .next 8 [0, 1, 2, 3, 4, 7] (.m 1 1 (cellsAt ks cs (o + (0 : Int).toNat * w)))) (.done 5 [0, 1, 2, 3, 4] 0)
  | .m j l out => .br (ltF j n) (askS (bnd_ j n c) <| askS (cRO ks w o cs j) <| askS (fullW w l out) <| .next 9 [0, 1, 2, 3, 4, 8] (.m (wrapF .i64 (j + 1)) (l + 1) (out ++ cellsAt ks cs (o + j.toNat * w)))) (.done 6 [0, 1, 2, 3, 4, 5] 0)
def psO (ks : List CK) (w o : Nat) (cs : List Value) : Nat → PS
  | 0 => .z
  | j + 1 => .m ((j + 1 : Nat) : Int) (j + 1) (rowsO ks w o cs (j + 1))
theorem goodO {ks : List CK} {w o : Nat} {cs : List Value} {n c : Nat} : ∀ q q', GdP q → (stO ks w o cs n c q).sel = some (.inl q') → GdP q' := by
  intro q q' hg h
  cases q with
  | z =>
    rcases br_or' h with h | h
    · have h := ask_or' (ask_or' h); cases h; exact cellsAt_flat _ _ _
    · cases h
  | m j l out =>
    rcases br_or' h with h | h
    · have h := ask_or' (ask_or' (ask_or' h)); cases h; exact app_flat hg (cellsAt_flat _ _ _)
    · cases h
theorem runO {ks : List CK} {w o : Nat} {cs : List Value} {n c : Nat} (hw : ks.length = w) (h : okO ks w o cs n c) (hn : n < 1000000) : runS (stO ks w o cs n c) (n + 1) .z = some (0, psO ks w o cs n) := by
  have hc := h.2.1
  refine run_all (st := psO ks w o cs) n (fun j hj => ?_) ?_
  · cases j with
    | zero =>
      show (stO ks w o cs n c .z).sel = _
      unfold stO
      rw [br_t (by rw [ltF_eq]; simpa using hj), askS_sel (show bnd_ 0 n c = true from bnd_t (j := 0) hj hc), askS_sel (show cRO ks w o cs 0 = true from cRO_t (j := 0) h hj)]
      show some (Sum.inl (PS.m 1 1 (cellsAt ks cs (o + 0 * w)))) = some (Sum.inl (PS.m ((0 + 1 : Nat) : Int) 1 ([] ++ cellsAt ks cs (o + 0 * w))))
      rw [List.nil_append]; rfl
    | succ j =>
      show (stO ks w o cs n c (.m ((j + 1 : Nat) : Int) (j + 1) (rowsO ks w o cs (j + 1)))).sel = _
      unfold stO
      dsimp only
      rw [br_t (by rw [ltF_eq]; exact decide_eq_true (by omega)), askS_sel (bnd_t hj hc), askS_sel (cRO_t h hj), askS_sel (fullW_t (rowsO_len hw _) (by omega)), wsucc (by omega)]; rfl
  · cases n with
    | zero => rfl
    | succ n =>
      show (stO ks w o cs (n + 1) c (.m ((n + 1 : Nat) : Int) (n + 1) _)).sel = _
      unfold stO
      dsimp only
      rw [br_f (by rw [ltF_eq]; simp)]; rfl
section
variable (e w o : Nat) (cs : List Value) (t s n c : Nat) (ex : Bool)
def SO : Shape PS := ⟨18, fun q => match q with
  | .z => ⟨[(6, sl 4 o n c), (7, i n), (3, .slice none 0 0), (8, i 0)], hpI cs t s ex⟩
  | .m j l out => ⟨[(6, sl 4 o n c), (7, i n), (3, sl 5 0 l l), (8, i j)], hpC e w cs t s ex out⟩,
  fun _ q => match q with
  | .z => (.exit 0, ⟨[(3, .slice none 0 0)], hpI cs t s ex⟩)
  | .m _ l out => (.exit 0, ⟨[(3, sl 5 0 l l)], hpC e w cs t s ex out⟩)⟩
end
def CmO (ks : List CK) (w o : Nat) (cs : List Value) (n c : Nat) : Prop := okO ks w o cs n c ∧ 1 ≤ n ∧ n < 1000000
def CzO (ks : List CK) (w o : Nat) (cs : List Value) (n c : Nat) : Prop := okO ks w o cs n c ∧ n = 0
/-- z: the part has no rows -/
def spO (ks : List CK) (w e : Nat) (z : Bool) : NSpec := fun al css => match al, css with
  | [.slice (some ⟨4, o, none⟩) n c], [cs] => cond z (some (CzO ks w o cs n c, .old (.slice none 0 0))) (some (CmO ks w o cs n c, .sl n n ((cs.drop o).take (n * w)) e w false))
  | _, _ => none
theorem LO47 {o : Nat} {cs : List Value} {t s n c : Nat} {ex : Bool} (h : cs.all Ex.flat = true) : Loop1 Tryz.prog 5 47 B47 (SO 77 5 o cs t s n c ex) 5 (stO k5 5 o cs n c) GdP :=
  .mk' (C := CC) (n := 60) (fun q _ => by cases q <;> exact .none) (fun q _ => by cases q <;> exact .none) (fun q ro _ => by cases q <;> kernel_rfl) (fun q ro _ => by cases q <;> kernel_rfl) (fun q => by cases q <;> kernel_rfl) goodO
    (fun q hq => by cases q with
      | z => exact hpI_flat h
      | m j l out => exact hpC_flat h hq)
    (fun q j hq _ => by cases q with
      | z => exact ⟨hpI_flat h, fun h => by cases h⟩
      | m j l out => exact ⟨hpC_flat h hq, fun h => by cases h⟩)
section
variable (o : Nat) (cs : List Value) (t s n c : Nat) (ex : Bool)
noncomputable def KO47 (r : Nat × PS) : Cfg := ⟨noT, no_, off_, loopE noL 47 3 18 5 B47 ((SO 77 5 o cs t s n c ex).st .z).live ((SO 77 5 o cs t s n c ex).st .z).hp (finO (SO 77 5 o cs t s n c ex) r [0])⟩
noncomputable def oO47 (r : Nat × PS) : Out QRes := execO Tryz.prog 5 (KO47 o cs t s n c ex r) 60 (.call 47 ⟨[sl 4 o n c]⟩ (heapL (deads ++ [.cells cs t s ex])))
theorem vO47z : (oO47 o cs t s n c ex (0, .z)).news = .br true (.leaf 1000000 (.old (.slice none 0 0))) .fail := by kernel_rfl
theorem xO47z : oO47 o cs t s n c ex (0, .z) = (oO47 o cs t s n c ex (0, .z)).fix := by kernel_rfl
theorem vO47m (j : Int) (l : Nat) (out : List Value) : (oO47 o cs t s n c ex (0, .m j l out)).news = .br true (.leaf 5 (.sl l l out 77 5 false)) .fail := by kernel_rfl
theorem xO47m (j : Int) (l : Nat) (out : List Value) : oO47 o cs t s n c ex (0, .m j l out) = (oO47 o cs t s n c ex (0, .m j l out)).fix := by kernel_rfl
end
theorem cO47 (z : Bool) : ∀ al css os p v, spO k5 5 77 z al css = some (p, v) → p → Blks css os → (∀ cs ∈ css, cs.all Ex.flat = true) ∧ v.Ok Tryz.prog 47 al deads os (gl + css.length) := by
  intro al css os p v hs hp hb
  unfold spO at hs
  split at hs
  case h_2 => cases hs
  rename_i o n c cs
  obtain ⟨t, s, ex, rfl⟩ := blks1 hb
  cases z with
  | true =>
    cases hs
    obtain ⟨p1, rfl⟩ := hp
    refine ⟨by simpa using p1.1, ?_⟩
    have hL := (LO47 (o := o) (t := t) (s := s) (ex := ex) (n := 0) (c := c) p1.1).table (id := 3) (s0 := .z) .none (by decide) trivial (runO rfl p1 (by decide)) (by kernel_rfl) [0]
    exact news_ok (C := KO47 o cs t s 0 c ex (0, .z)) (n := 60) .none hL (xO47z o cs t s 0 c ex) (b := 1000000) ((congrArg NT.sel (vO47z o cs t s 0 c ex)).trans rfl) (show 5 ≤ 1000000 by decide) (show NRes.Fl (.old (.slice none 0 0)) from rfl)
  | false =>
    cases hs
    obtain ⟨p1, p2, p3⟩ := hp
    refine ⟨by simpa using p1.1, ?_⟩
    obtain ⟨k, rfl⟩ : ∃ k, n = k + 1 := ⟨n - 1, by omega⟩
    have hL := (LO47 (o := o) (t := t) (s := s) (ex := ex) (n := k + 1) (c := c) p1.1).table (id := 3) (s0 := .z) .none (by decide) trivial (runO rfl p1 p3) (by kernel_rfl) [0]
    have hps : psO k5 5 o cs (k + 1) = .m ((k + 1 : Nat) : Int) (k + 1) ((cs.drop o).take ((k + 1) * 5)) := by
      show PS.m ((k + 1 : Nat) : Int) (k + 1) (rowsO k5 5 o cs (k + 1)) = _
      rw [rowsO_take (w := 5) rfl p1 (k + 1) (Nat.le_refl _)]
    rw [hps] at hL
    exact news_ok (C := KO47 o cs t s (k + 1) c ex (0, .m ((k + 1 : Nat) : Int) (k + 1) ((cs.drop o).take ((k + 1) * 5)))) (n := 60) .none hL (xO47m o cs t s (k + 1) c ex _ _ _) (b := 5) ((congrArg NT.sel (vO47m o cs t s (k + 1) c ex _ _ _)).trans rfl) (show 5 ≤ 5 by decide) (by rw [← rowsO_take (w := 5) rfl p1 (k + 1) (Nat.le_refl _)]; exact rowsO_flat _)
theorem LO48 {o : Nat} {cs : List Value} {t s n c : Nat} {ex : Bool} (h : cs.all Ex.flat = true) : Loop1 Tryz.prog 5 48 B48 (SO 31 3 o cs t s n c ex) 5 (stO k3 3 o cs n c) GdP :=
  .mk' (C := CC) (n := 60) (fun q _ => by cases q <;> exact .none) (fun q _ => by cases q <;> exact .none) (fun q ro _ => by cases q <;> kernel_rfl) (fun q ro _ => by cases q <;> kernel_rfl) (fun q => by cases q <;> kernel_rfl) goodO
    (fun q hq => by cases q with
      | z => exact hpI_flat h
      | m j l out => exact hpC_flat h hq)
    (fun q j hq _ => by cases q with
      | z => exact ⟨hpI_flat h, fun h => by cases h⟩
      | m j l out => exact ⟨hpC_flat h hq, fun h => by cases h⟩)
section
variable (o : Nat) (cs : List Value) (t s n c : Nat) (ex : Bool)
noncomputable def KO48 (r : Nat × PS) : Cfg := ⟨noT, no_, off_, loopE noL 48 3 18 5 B48 ((SO 31 3 o cs t s n c ex).st .z).live ((SO 31 3 o cs t s n c ex).st .z).hp (finO (SO 31 3 o cs t s n c ex) r [0])⟩
noncomputable def oO48 (r : Nat × PS) : Out QRes := execO Tryz.prog 5 (KO48 o cs t s n c ex r) 60 (.call 48 ⟨[sl 4 o n c]⟩ (heapL (deads ++ [.cells cs t s ex])))
theorem vO48z : (oO48 o cs t s n c ex (0, .z)).news = .br true (.leaf 1000000 (.old (.slice none 0 0))) .fail := by kernel_rfl
theorem xO48z : oO48 o cs t s n c ex (0, .z) = (oO48 o cs t s n c ex (0, .z)).fix := by kernel_rfl
theorem vO48m (j : Int) (l : Nat) (out : List Value) : (oO48 o cs t s n c ex (0, .m j l out)).news = .br true (.leaf 5 (.sl l l out 31 3 false)) .fail := by kernel_rfl
theorem xO48m (j : Int) (l : Nat) (out : List Value) : oO48 o cs t s n c ex (0, .m j l out) = (oO48 o cs t s n c ex (0, .m j l out)).fix := by kernel_rfl
end
theorem cO48 (z : Bool) : ∀ al css os p v, spO k3 3 31 z al css = some (p, v) → p → Blks css os → (∀ cs ∈ css, cs.all Ex.flat = true) ∧ v.Ok Tryz.prog 48 al deads os (gl + css.length) := by
  intro al css os p v hs hp hb
  unfold spO at hs
  split at hs
  case h_2 => cases hs
  rename_i o n c cs
  obtain ⟨t, s, ex, rfl⟩ := blks1 hb
  cases z with
  | true =>
    cases hs
    obtain ⟨p1, rfl⟩ := hp
    refine ⟨by simpa using p1.1, ?_⟩
    have hL := (LO48 (o := o) (t := t) (s := s) (ex := ex) (n := 0) (c := c) p1.1).table (id := 3) (s0 := .z) .none (by decide) trivial (runO rfl p1 (by decide)) (by kernel_rfl) [0]
    exact news_ok (C := KO48 o cs t s 0 c ex (0, .z)) (n := 60) .none hL (xO48z o cs t s 0 c ex) (b := 1000000) ((congrArg NT.sel (vO48z o cs t s 0 c ex)).trans rfl) (show 5 ≤ 1000000 by decide) (show NRes.Fl (.old (.slice none 0 0)) from rfl)
  | false =>
    cases hs
    obtain ⟨p1, p2, p3⟩ := hp
    refine ⟨by simpa using p1.1, ?_⟩
    obtain ⟨k, rfl⟩ : ∃ k, n = k + 1 := ⟨n - 1, by omega⟩
    have hL := (LO48 (o := o) (t := t) (s := s) (ex := ex) (n := k + 1) (c := c) p1.1).table (id := 3) (s0 := .z) .none (by decide) trivial (runO rfl p1 p3) (by kernel_rfl) [0]
    have hps : psO k3 3 o cs (k + 1) = .m ((k + 1 : Nat) : Int) (k + 1) ((cs.drop o).take ((k + 1) * 3)) := by
      show PS.m ((k + 1 : Nat) : Int) (k + 1) (rowsO k3 3 o cs (k + 1)) = _
      rw [rowsO_take (w := 3) rfl p1 (k + 1) (Nat.le_refl _)]
    rw [hps] at hL
    exact news_ok (C := KO48 o cs t s (k + 1) c ex (0, .m ((k + 1 : Nat) : Int) (k + 1) ((cs.drop o).take ((k + 1) * 3)))) (n := 60) .none hL (xO48m o cs t s (k + 1) c ex _ _ _) (b := 5) ((congrArg NT.sel (vO48m o cs t s (k + 1) c ex _ _ _)).trans rfl) (show 5 ≤ 5 by decide) (by rw [← rowsO_take (w := 3) rfl p1 (k + 1) (Nat.le_refl _)]; exact rowsO_flat _)
end Go.Proofs.YtafpmehhdcmllaaGreatDoor.Ways
set_option maxRecDepth 10000
noncomputable section
namespace Go.Proofs.YtafpmehhdcmllaaGreatDoor.Ways
open Go Go.Ex Go.RowKit
/-! ### MarketBooks: the law's regions 5 and 6 (their order is open): a part's books, where the part has rows -/
/-- the first region of this number -/
def regAt (id : Nat) : Nat → Code → Array Oper
  | 0, _ => #[]
  | k + 1, c => match c with
    | .region j o _ => cond (Nat.beq j id) o #[]
    | .seq a b => cond (Nat.beq (regAt id k a).size 0) (regAt id k b) (regAt id k a)
    | .cond _ a b => cond (Nat.beq (regAt id k a).size 0) (regAt id k b) (regAt id k a)
    | .block _ a => regAt id k a
    | .loop a => regAt id k a
    | .scope a => regAt id k a
    | _ => #[]
noncomputable def O5 : Array Oper := regAt 5 60 (Tryz.f12.body.getD .skip)
noncomputable def O6 : Array Oper := regAt 6 60 (Tryz.f12.body.getD .skip)
theorem size5 : O5.size = 15 := by kernel_rfl
theorem size6 : O6.size = 15 := by kernel_rfl
/-- a list's part: from x rows on, len rows -/
def ptO (w : Nat) (cs : List Value) (o len : Nat) : List Value := (cs.drop o).take (len * w)
noncomputable def TP (z : Bool) : Tb := ext (ext (ext (T9 true) 47 (newE (spO k5 5 77 z) [] (heapL deads))) 48 (newE (spO k3 3 31 z) [] (heapL deads))) 49 (autoE (sp49 true) [] (heapL deads))
theorem tsP {G : Nat} (z : Bool) : TSound Tryz.prog G (TP z) := (((ts9 true).new (f' := 47) (cO47 z)).new (f' := 48) (cO48 z)).auto (c49 true)
noncomputable def CP (z : Bool) : Cfg := ⟨TP z, no_, on_ [(12, 54), (12, 58), (12, 66), (12, 70)], noL⟩
/-! the books of no rows -/
def mZ : Int := fst2 (mnE 0 96) 0
def zQ6 : Q6 := (0, 0, 0, 0, 0, 0)
noncomputable def Cz : Cfg := ⟨T9 true, no_, off_, noL⟩
theorem p49z : Pure Tryz.prog Hd 49 [.slice none 0 0, .slice none 0 0] (tp [agT zQ6, i 0]) := by
  refine pure_run (C := Cz) (G := 4) 60 (aV (tru (okI [i (mnE 0 96), i 0] 2 2)) (aV (tru (okI [i (mnE 0 96), i 0] 2 2)) (aV (tru (okI [i mZ, i mZ, i (shE 0 0)] 3 3)) (.leaf (tp [agT zQ6, i 0]))))) (ts9 true) .none (by decide) hd_len rfl (by kernel_rfl) (by kernel_rfl) ?_
  rw [aP (okI2 _ _), aP (okI2 _ _), aP (okI3 _ _ _)]; rfl
def s49z : List Value → Option Value
  | [.slice none 0 0, .slice none 0 0] => some (tp [agT zQ6, i 0])
  | _ => none
noncomputable def TPz : Tb := ext (TP true) 49 (pureE s49z [] Hd)
theorem tsPz {G : Nat} : TSound Tryz.prog G TPz := by
  refine TSound.pure hd_vars (tsP true) fun args v h => ?_
  unfold s49z at h
  split at h
  · cases h; exact p49z
  · cases h
noncomputable def CPz : Cfg := ⟨TPz, no_, on_ [(12, 54), (12, 58), (12, 66), (12, 70)], noL⟩
section
variable (cs ps : List Value) (N M : Nat) (X : Int) (t s t2 s2 : Nat) (ex e2 : Bool)
/-- the totals of a part -/
def bkP (csP psP : List Value) (len : Nat) : Q6 := bkS csP (ce 2 1 (rwL (fP csP psP) len)) len
noncomputable def hp5 : List (CO × Bool) := [(.dead, false), (.cells pow10 287 1 true, false), (.cells tab32 289 1 true, false), (.cells tab64 290 1 true, false), (.cells cs t s ex, true), (.cells ps t2 s2 e2, true), (.cells cs 77 5 false, true), (.cells ps 31 3 false, true), (.cells (tot (bkP cs ps N)) 86 1 true, true)]
noncomputable def s5 : SymS where
  live0 := [(0, sl 4 0 N N), (1, sl 5 0 M M), (6, b_ false), (7, i X), (8, pt 8 0), (9, i 0)]
  S := [(52, 0, sl 4 0 N N), (53, 1, i X), (54, 2, sl 4 0 X.toNat N), (55, 3, sl 9 0 X.toNat X.toNat), (56, 4, sl 5 0 M M), (57, 5, i X), (58, 6, sl 5 0 X.toNat M), (59, 7, sl 10 0 X.toNat X.toNat),
    (60, 8, tp [agT (bkP (ptO 5 cs 0 X.toNat) (ptO 3 ps 0 X.toNat) X.toNat), i 0]), (51, 9, tp [agT (bkP (ptO 5 cs 0 X.toNat) (ptO 3 ps 0 X.toNat) X.toNat), i 0]), (61, 10, agT (bkP (ptO 5 cs 0 X.toNat) (ptO 3 ps 0 X.toNat) X.toNat)), (62, 11, i 0), (10, 12, pt 11 0), (11, 14, i 0)]
  hp0 := hp5 cs ps N t s t2 s2 ex e2
  A := [(3, .cells (ptO 5 cs 0 X.toNat) 77 5 false, 3, .cells (ptO 5 cs 0 X.toNat) 77 5 false), (7, .cells (ptO 3 ps 0 X.toNat) 31 3 false, 7, .cells (ptO 3 ps 0 X.toNat) 31 3 false), (12, .cells [i 0, i 0, i 0, i 0, i 0] 86 1 true, 13, .cells (tot (bkP (ptO 5 cs 0 X.toNat) (ptO 3 ps 0 X.toNat) X.toNat)) 86 1 true)]
noncomputable def cd5 (j : Nat) : List Bool := match j with
  | 2 => [leF 0 0 && (leF 0 X && leF X N)]
  | 3 => [tru (CmO k5 5 0 cs X.toNat N)]
  | 6 => [leF 0 0 && (leF 0 X && leF X M)]
  | 7 => [tru (CmO k3 3 0 ps X.toNat M)]
  | 8 => [tru (GoE (ptO 5 cs 0 X.toNat) (ptO 3 ps 0 X.toNat) X.toNat X.toNat X.toNat X.toNat)]
  | _ => []
end
def rho5 (j : Nat) : List Nat := match j with
  | 3 => (List.range 12).set 9 12
  | 7 => (List.range 12).set 10 12
  | 12 => (List.range 12).set 11 12
  | _ => List.range 12
def len5 (j : Nat) : Nat := cond (Nat.beq j 3 || (Nat.beq j 7 || Nat.beq j 12)) 13 12
def ans5 (j : Nat) : List Bool := match j with
  | 2 => [true]
  | 3 => [true]
  | 6 => [true]
  | 7 => [true]
  | 8 => [true]
  | _ => []
section
variable (cs ps : List Value) (N M : Nat) (X : Int) (t s t2 s2 : Nat) (ex e2 : Bool)
theorem fix5 : ∀ B : List Bool, B.length = O5.size → (List.range O5.size).map (fun j => outV (tabW (CP false)) Tryz.prog 6 (CP false) 12 O5 250 (s5 cs ps N M X t s t2 s2 ex e2) (forceN O5.size (preN O5) j B) j) = (List.range O5.size).map fun j => (outV (tabW (CP false)) Tryz.prog 6 (CP false) 12 O5 250 (s5 cs ps N M X t s t2 s2 ex e2) (forceN O5.size (preN O5) j B) j).fix
  | [x0, x1, x2, x3, x4, x5, x6, x7, x8, x9, x10, x11, x12, x13, x14], _ => by kernel_rfl
theorem obs5 : ∀ B : List Bool, B.length = O5.size → (List.range O5.size).map (fun j => obsV (tabW (CP false)) Tryz.prog 6 (CP false) 12 O5 250 (s5 cs ps N M X t s t2 s2 ex e2) rho5 ans5 (forceN O5.size (preN O5) j B) j) = (List.range O5.size).map fun j => expY 250 (s5 cs ps N M X t s t2 s2 ex e2) rho5 (cd5 cs ps N M X) len5 (forceN O5.size (preN O5) j B) j
  | [x0, x1, x2, x3, x4, x5, x6, x7, x8, x9, x10, x11, x12, x13, x14], _ => by kernel_rfl
end
section
variable {cs ps : List Value} {N M : Nat} {X : Int} {t s t2 s2 : Nat} {ex e2 : Bool}
theorem hp5_flat (f1 : cs.all Ex.flat = true) (f2 : ps.all Ex.flat = true) : ∀ o, (o, true) ∈ hp5 cs ps N t s t2 s2 ex e2 → FlatO o := by
  intro o ho
  simp [hp5] at ho
  rcases ho with rfl | rfl | rfl | rfl | rfl
  · exact fun x hx => List.all_eq_true.1 f1 x hx
  · exact fun x hx => List.all_eq_true.1 f2 x hx
  · exact fun x hx => List.all_eq_true.1 f1 x hx
  · exact fun x hx => List.all_eq_true.1 f2 x hx
  · exact fun x hx => List.all_eq_true.1 (by rfl) x hx
theorem pt_flat {w o len : Nat} {l : List Value} (h : l.all Ex.flat = true) : (ptO w l o len).all Ex.flat = true := by
  unfold ptO
  exact List.all_eq_true.2 fun x hx => List.all_eq_true.1 h x (List.mem_of_mem_drop (List.mem_of_mem_take hx))
/-- what must hold -/
def H5 (cs ps : List Value) (N M : Nat) (X : Int) : Prop := 0 ≤ X ∧ X ≤ N ∧ X ≤ M ∧ CmO k5 5 0 cs X.toNat N ∧ CmO k3 3 0 ps X.toNat M ∧ GoE (ptO 5 cs 0 X.toNat) (ptO 3 ps 0 X.toNat) X.toNat X.toNat X.toNat X.toNat
theorem cd5_ok (h : H5 cs ps N M X) : ∀ j, cd5 cs ps N M X j = (ans5 j).take (cd5 cs ps N M X j).length := by
  obtain ⟨h1, h2, h3, h4, h5, h6⟩ := h
  have e : ∀ K : Nat, X ≤ K → (leF 0 0 && (leF 0 X && leF X K)) = true := fun K hK => by
    rw [leF_eq, leF_eq, leF_eq, decide_eq_true h1, decide_eq_true hK]; rfl
  intro j
  unfold cd5 ans5
  split
  · rw [e N h2]; rfl
  · rw [tru_iff.2 h4]; rfl
  · rw [e M h3]; rfl
  · rw [tru_iff.2 h5]; rfl
  · rw [tru_iff.2 h6]; rfl
  · rfl
theorem ord5 (f1 : cs.all Ex.flat = true) (f2 : ps.all Ex.flat = true) (h : H5 cs ps N M X) : Orders (selfA (qS (tabW (CP false)))) Tryz.prog 6 O5 9 (fun m => m < 2 ^ O5.size ∧ GoodY O5 (bitsL O5.size m)) (fun m => absT (tmL 250 ((s5 cs ps N M X t s t2 s2 ex e2).live (bitsL O5.size m)))) (fun m => heapL ((s5 cs ps N M X t s t2 s2 ex e2).hp (bitsL O5.size m))) (2 ^ O5.size - 1) :=
  sym_ofW (fix5 cs ps N M X t s t2 s2 ex e2) (obs5 cs ps N M X t s t2 s2 ex e2) (cd5_ok h) (by kernel_rfl) (by kernel_rfl) (by kernel_rfl) (by kernel_rfl) (by kernel_rfl) (hp5_flat f1 f2)
    (fun q hq => by
      simp only [s5, List.mem_cons, List.not_mem_nil, or_false] at hq
      rcases hq with rfl | rfl | rfl
      · exact ⟨fun x hx => List.all_eq_true.1 (pt_flat f1) x hx, fun x hx => List.all_eq_true.1 (pt_flat f1) x hx⟩
      · exact ⟨fun x hx => List.all_eq_true.1 (pt_flat f2) x hx, fun x hx => List.all_eq_true.1 (pt_flat f2) x hx⟩
      · exact ⟨fun x hx => List.all_eq_true.1 (by rfl) x hx, fun x hx => List.all_eq_true.1 (by rfl) x hx⟩)
end
noncomputable def fin5 : List Bool := List.replicate 15 true
section
variable (cs ps : List Value) (N M : Nat) (X : Int) (t s t2 s2 : Nat) (ex e2 : Bool)
noncomputable def tm5 : TM := tmL 250 ((s5 cs ps N M X t s t2 s2 ex e2).live fin5)
noncomputable def h5 : CH := heapL ((s5 cs ps N M X t s t2 s2 ex e2).hp fin5)
theorem end5 : bitsL O5.size (2 ^ O5.size - 1) = fin5 := by kernel_rfl
theorem pad5 : heapL ((s5 cs ps N M X t s t2 s2 ex e2).hp (bitsL O5.size 0)) = heapL ((s5 cs ps N M X t s t2 s2 ex e2).hp0.map (·.1) ++ List.replicate 3 .dead) := by kernel_rfl
theorem zero5 : tmL 250 ((s5 cs ps N M X t s t2 s2 ex e2).live (bitsL O5.size 0)) = tmL 250 (s5 cs ps N M X t s t2 s2 ex e2).live0 := by kernel_rfl
theorem mix5 : Tryz.prog.follows .mixedOrders = true := by kernel_rfl
variable {cs ps N M X t s t2 s2 ex e2}
theorem snd5 (f1 : cs.all Ex.flat = true) (f2 : ps.all Ex.flat = true) (h : H5 cs ps N M X) (ro : Option Nat) {tm0 : Array Value} {H0 : CH} (hk : H0.length = 9) (hst : Restate 9 tm0 H0 (absT (tmL 250 (s5 cs ps N M X t s t2 s2 ex e2).live0)) (heapL ((s5 cs ps N M X t s t2 s2 ex e2).hp0.map (·.1)))) :
    Sound Tryz.prog 6 (.code (.region 5 O5 true) ro tm0 H0 []) (.ex .normal (absT (tm5 cs ps N M X t s t2 s2 ex e2)) (h5 cs ps N M X t s t2 s2 ex e2) []) := by
  have ho := ord5 (t := t) (s := s) (t2 := t2) (s2 := s2) (ex := ex) (e2 := e2) f1 f2 h
  have hp := pad5 cs ps N M X t s t2 s2 ex e2
  have hz := zero5 cs ps N M X t s t2 s2 ex e2
  have h0 := goodY_zero O5
  unfold tm5 h5
  rw [← end5]
  rw [← hz] at hst
  generalize s5 cs ps N M X t s t2 s2 ex e2 = s at *
  rw [← hk] at ho hst
  exact orders_sound2 (tmS := fun m => absT (tmL 250 (s.live (bitsL O5.size m)))) (HS := fun m => heapL (s.hp (bitsL O5.size m))) (mF := 2 ^ O5.size - 1) (qS_selfSound (tabW_sound (tsP false))) mix5 ho (by rw [hk]; decide) h0 hp hst ro
end
section
variable (cs ps : List Value) (N M : Nat) (X : Int) (t s t2 s2 : Nat) (ex e2 : Bool)
noncomputable def L5 (L : LTab) : LTab := regE L 12 5 250 9 O5 (s5 cs ps N M X t s t2 s2 ex e2).live0 (s5 cs ps N M X t s t2 s2 ex e2).hp0 (.leaf (.ex .normal (tm5 cs ps N M X t s t2 s2 ex e2) (h5 cs ps N M X t s t2 s2 ex e2) []))
theorem ls5 {L : LTab} (hL : LSound Tryz.prog 6 L) (f1 : cs.all Ex.flat = true) (f2 : ps.all Ex.flat = true) (h : H5 cs ps N M X) : LSound Tryz.prog 6 (L5 cs ps N M X t s t2 s2 ex e2 L) := by
  refine LSound.region hL (by kernel_rfl) (hp5_flat f1 f2) fun r hr ro tm0 H0 hk hst => ?_
  cases hr
  exact snd5 f1 f2 h ro hk hst
end
/-! the loop's region 15: a row and its prices, copied -/
noncomputable def O15 : Array Oper := regAt 15 60 (Tryz.f12.body.getD .skip)
theorem size15 : O15.size = 9 := by kernel_rfl
theorem end15 : bitsL O15.size (2 ^ O15.size - 1) = List.replicate 9 true := by kernel_rfl
noncomputable def C15 : Cfg := ⟨noT, no_, on_ [(12, 156), (12, 157)], noL⟩
def row5 (cs : List Value) (j : Int) : List Value := [i (ce 5 0 cs j.toNat), i (ce 5 1 cs j.toNat), i (ce 5 2 cs j.toNat), i (ce 5 3 cs j.toNat), i (ce 5 4 cs j.toNat)]
def row3 (ps : List Value) (j : Int) : List Value := [i (ce 3 0 ps j.toNat), i (ce 3 1 ps j.toNat), i (ce 3 2 ps j.toNat)]
def okR15 (ps : List Value) (M : Nat) (j : Int) : Bool := bnd_ j M M && cR k3 3 ps j
def cdR (ps : List Value) (M : Nat) (j : Int) (k : Nat) : List Bool := match k with
  | 3 => [bnd_ j M M]
  | 4 => [cR k3 3 ps j]
  | _ => []
def ansR (k : Nat) : List Bool := match k with
  | 3 => [true]
  | 4 => [true]
  | _ => []
theorem cdR_ok {ps : List Value} {M : Nat} {j : Int} (h : okR15 ps M j = true) : ∀ k, cdR ps M j k = (ansR k).take (cdR ps M j k).length := by
  unfold okR15 at h
  rw [Bool.and_eq_true] at h
  intro k
  unfold cdR ansR
  split
  · rw [h.1]; rfl
  · rw [h.2]; rfl
  · rfl
/-! no rows at all -/
noncomputable def hpY (cs ps : List Value) (t s t2 s2 : Nat) (ex e2 : Bool) : List (CO × Bool) := [(.dead, false), (.cells pow10 287 1 true, false), (.cells tab32 289 1 true, false), (.cells tab64 290 1 true, false), (.cells cs t s ex, true), (.cells ps t2 s2 e2, true), (.cells (tot zQ6) 86 1 true, true)]
end Go.Proofs.YtafpmehhdcmllaaGreatDoor.Ways
