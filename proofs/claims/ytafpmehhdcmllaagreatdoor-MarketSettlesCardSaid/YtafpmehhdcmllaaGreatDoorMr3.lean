import Derived.Test.YtafpmehhdcmllaaGreatDoorMr2
noncomputable section
namespace Go.Proofs.YtafpmehhdcmllaaGreatDoor.Ways
open Go Go.Ex Go.RowKit
/-! ### rows, copied -/
theorem cellsAt_take {cs : List Value} : ∀ (ks : List CK) (off : Nat), areCells ks cs off = true → cellsAt ks cs off = (cs.drop off).take ks.length
  | [], off, _ => by simp [cellsAt]
  | k :: r, off, h => by
    unfold areCells at h
    rw [Bool.and_eq_true] at h
    have h1 := cellAt_eq h.1
    have ih := cellsAt_take r (off + 1) h.2
    have hlt : off < cs.length := (List.getElem?_eq_some_iff.1 h1).1
    rw [List.drop_eq_getElem_cons hlt]
    show cellAt k cs[off]? :: cellsAt r cs (off + 1) = cs[off] :: (cs.drop (off + 1)).take r.length
    rw [ih]
    have h2 := h1.symm.trans (List.getElem?_eq_getElem hlt)
    rw [Option.some.inj h2]
theorem cellsAt_len : ∀ (ks : List CK) (cs : List Value) (off : Nat), (cellsAt ks cs off).length = ks.length
  | [], _, _ => rfl
  | _ :: r, cs, off => by show (cellsAt r cs (off + 1)).length + 1 = _; rw [cellsAt_len r]; rfl
def rowsN (ks : List CK) (w : Nat) (cs : List Value) : Nat → List Value
  | 0 => []
  | j + 1 => rowsN ks w cs j ++ cellsAt ks cs (0 + j * w)
theorem rowsN_len {ks : List CK} {w : Nat} {cs : List Value} (hw : ks.length = w) : ∀ j, (rowsN ks w cs j).length = j * w
  | 0 => by simp [rowsN]
  | j + 1 => by
    show (rowsN ks w cs j ++ cellsAt ks cs (0 + j * w)).length = _
    rw [List.length_append, rowsN_len hw j, cellsAt_len, hw, Nat.add_mul, Nat.one_mul]
theorem rowsN_take {ks : List CK} {w : Nat} {cs : List Value} {n c : Nat} (hw : ks.length = w) (h : okR ks w cs n c) : ∀ j, j ≤ n → rowsN ks w cs j = cs.take (j * w)
  | 0, _ => by simp [rowsN]
  | j + 1, hj => by
    show rowsN ks w cs j ++ cellsAt ks cs (0 + j * w) = _
    rw [rowsN_take hw h j (by omega), cellsAt_take ks _ (h.2.2.2 j (by omega)), hw, Nat.zero_add, Nat.add_mul, Nat.one_mul, List.take_add]
theorem rowsN_all {ks : List CK} {w : Nat} {cs : List Value} {n c : Nat} (hw : ks.length = w) (h : okR ks w cs n c) (hl : cs.length = n * w) : rowsN ks w cs n = cs := by
  rw [rowsN_take hw h n (Nat.le_refl n), ← hl, List.take_length]
theorem cellsAt_flat : ∀ (ks : List CK) (cs : List Value) (off : Nat), (cellsAt ks cs off).all Ex.flat = true
  | [], _, _ => rfl
  | k :: r, cs, off => by
    show (Ex.flat (cellAt k cs[off]?) && (cellsAt r cs (off + 1)).all Ex.flat) = true
    rw [cellsAt_flat r, Bool.and_true]
    cases k <;> rfl
theorem app_flat {a b : List Value} (h1 : a.all Ex.flat = true) (h2 : b.all Ex.flat = true) : (a ++ b).all Ex.flat = true := by rw [List.all_append, h1, h2]; rfl
theorem rowsN_flat {ks : List CK} {w : Nat} {cs : List Value} : ∀ j, (rowsN ks w cs j).all Ex.flat = true
  | 0 => rfl
  | j + 1 => app_flat (rowsN_flat j) (cellsAt_flat ks cs _)
inductive PS where
  | z
  | m (j : Int) (l : Nat) (out : List Value)
def GdP : PS → Prop
  | .z => True
  | .m _ _ out => out.all Ex.flat = true
def fullW (w l : Nat) (out : List Value) : Bool := decide (l = l) && (decide (out.length = l * w) && decide (l + 1 ≤ 1048576))
theorem fullW_t {w l : Nat} {out : List Value} (h : out.length = l * w) (hl : l < 1000000) : fullW w l out = true := by
  unfold fullW
  rw [decide_eq_true rfl, decide_eq_true h, decide_eq_true (by omega)]; rfl
def stC (ks : List CK) (w : Nat) (cs : List Value) (n c : Nat) : PS → SS PS
  | .z => .br (ltF 0 n) (askS (bnd_ 0 n c) <| askS (cR ks w cs 0) <| .next 8 [0, 1, 2, 3, 4, 7] (.m 1 1 (cellsAt ks cs (0 + (0 : Int).toNat * w)))) (.done 5 [0, 1, 2, 3, 4] 0)
  | .m j l out => .br (ltF j n) (askS (bnd_ j n c) <| askS (cR ks w cs j) <| askS (fullW w l out) <| .next 9 [0, 1, 2, 3, 4, 8] (.m (wrapF .i64 (j + 1)) (l + 1) (out ++ cellsAt ks cs (0 + j.toNat * w)))) (.done 6 [0, 1, 2, 3, 4, 5] 0)
def psR (ks : List CK) (w : Nat) (cs : List Value) : Nat → PS
  | 0 => .z
  | j + 1 => .m ((j + 1 : Nat) : Int) (j + 1) (rowsN ks w cs (j + 1))
theorem br_or' {σ : Type} {b : Bool} {t e : SS σ} {r : σ ⊕ Nat} (h : (SS.br b t e).sel = some r) : t.sel = some r ∨ e.sel = some r := by
  cases b with
  | true => exact .inl h
  | false => exact .inr h
theorem ask_or' {σ : Type} {b : Bool} {t : SS σ} {r : σ ⊕ Nat} (h : (askS b t).sel = some r) : t.sel = some r := by
  cases b with
  | true => exact h
  | false => cases h
theorem goodC {ks : List CK} {w : Nat} {cs : List Value} {n c : Nat} : ∀ q q', GdP q → (stC ks w cs n c q).sel = some (.inl q') → GdP q' := by
  intro q q' hg h
  cases q with
  | z =>
    rcases br_or' h with h | h
    · have h := ask_or' (ask_or' h); cases h; exact cellsAt_flat _ _ _
    · cases h
  | m j l out =>
    rcases br_or' h with h | h
    · have h := ask_or' (ask_or' (ask_or' h)); cases h; exact app_flat hg (cellsAt_flat _ _ _)
    · cases h
theorem runC {ks : List CK} {w : Nat} {cs : List Value} {n c : Nat} (hw : ks.length = w) (h : okR ks w cs n c) (hn : n < 1000000) : runS (stC ks w cs n c) (n + 1) .z = some (0, psR ks w cs n) := by
  have hc := h.2.1
  refine run_all (st := psR ks w cs) n (fun j hj => ?_) ?_
  · cases j with
    | zero =>
      show (stC ks w cs n c .z).sel = _
      unfold stC
      rw [br_t (by rw [ltF_eq]; simpa using hj), askS_sel (show bnd_ 0 n c = true from bnd_t (j := 0) hj hc), askS_sel (show cR ks w cs 0 = true from cR_t (j := 0) h hj)]
      show some (Sum.inl (PS.m 1 1 (cellsAt ks cs (0 + 0 * w)))) = some (Sum.inl (PS.m ((0 + 1 : Nat) : Int) 1 ([] ++ cellsAt ks cs (0 + 0 * w))))
      rw [List.nil_append]; rfl
    | succ j =>
      show (stC ks w cs n c (.m ((j + 1 : Nat) : Int) (j + 1) (rowsN ks w cs (j + 1)))).sel = _
      unfold stC
      dsimp only
      rw [br_t (by rw [ltF_eq]; exact decide_eq_true (by omega)), askS_sel (bnd_t hj hc), askS_sel (cR_t h hj), askS_sel (fullW_t (rowsN_len hw _) (by omega)), wsucc (by omega)]; rfl
  · cases n with
    | zero => rfl
    | succ n =>
      show (stC ks w cs (n + 1) c (.m ((n + 1 : Nat) : Int) (n + 1) _)).sel = _
      unfold stC
      dsimp only
      rw [br_f (by rw [ltF_eq]; simp)]; rfl
section
variable (e w : Nat) (cs : List Value) (t s n c : Nat) (ex : Bool)
def hpC (out : List Value) : List (CO × Bool) := [(.dead, false), (.dead, false), (.dead, false), (.dead, false), (.cells cs t s ex, true), (.cells out e w false, true)]
def SC : Shape PS := ⟨18, fun q => match q with
  | .z => ⟨[(6, sl 4 0 n c), (7, i n), (3, .slice none 0 0), (8, i 0)], hpI cs t s ex⟩
  | .m j l out => ⟨[(6, sl 4 0 n c), (7, i n), (3, sl 5 0 l l), (8, i j)], hpC e w cs t s ex out⟩,
  fun _ q => match q with
  | .z => (.exit 0, ⟨[(3, .slice none 0 0)], hpI cs t s ex⟩)
  | .m _ l out => (.exit 0, ⟨[(3, sl 5 0 l l)], hpC e w cs t s ex out⟩)⟩
end
theorem hpC_flat {e w : Nat} {cs : List Value} {t s : Nat} {ex : Bool} {out : List Value} (h : cs.all Ex.flat = true) (h2 : out.all Ex.flat = true) : ∀ o, (o, true) ∈ hpC e w cs t s ex out → FlatO o := by
  intro o ho
  simp [hpC] at ho
  rcases ho with rfl | rfl
  · exact fun x hx => List.all_eq_true.1 h x hx
  · exact fun x hx => List.all_eq_true.1 h2 x hx
def CmE (ks : List CK) (w : Nat) (cs : List Value) (n c : Nat) : Prop := okR ks w cs n c ∧ 1 ≤ n ∧ n < 1000000 ∧ cs.length = n * w
def CzE (ks : List CK) (w : Nat) (cs : List Value) (n c : Nat) : Prop := okR ks w cs n c ∧ n = 0
def spC (ks : List CK) (w e : Nat) (z : Bool) : NSpec := fun al css => match al, css with
  | [.slice (some ⟨4, 0, none⟩) n c], [cs] => cond z (some (CzE ks w cs n c, .old (.slice none 0 0))) (some (CmE ks w cs n c, .sl n n cs e w false))
  | _, _ => none
noncomputable def spCo : Nat → Nat → Split := at_ [(47, 9), (48, 9), (57, 9)] .bool no_
def syCz : Nat → Nat → Bool := on_ [(47, 10), (47, 11), (48, 10), (48, 11), (57, 10), (57, 11)]
def syCm : Nat → Nat → Bool := on_ [(47, 10), (47, 11), (47, 15), (47, 300015), (48, 10), (48, 11), (48, 15), (48, 300015), (57, 10), (57, 11), (57, 15), (57, 300015)]
noncomputable def CC : PS → Cfg
  | .z => ⟨noT, spCo, syCz, noL⟩
  | .m _ _ _ => ⟨noT, spCo, syCm, noL⟩
noncomputable def B47 : Code := bodyL Tryz.f47 3
theorem L47 {cs : List Value} {t s n c : Nat} {ex : Bool} (h : cs.all Ex.flat = true) : Loop1 Tryz.prog 5 47 B47 (SC 77 5 cs t s n c ex) 5 (stC k5 5 cs n c) GdP :=
  .mk' (C := CC) (n := 60) (fun q _ => by cases q <;> exact .none) (fun q _ => by cases q <;> exact .none) (fun q ro _ => by cases q <;> kernel_rfl) (fun q ro _ => by cases q <;> kernel_rfl) (fun q => by cases q <;> kernel_rfl) goodC
    (fun q hq => by cases q with
      | z => exact hpI_flat h
      | m j l out => exact hpC_flat h hq)
    (fun q j hq _ => by cases q with
      | z => exact ⟨hpI_flat h, fun h => by cases h⟩
      | m j l out => exact ⟨hpC_flat h hq, fun h => by cases h⟩)
section
variable (cs : List Value) (t s n c : Nat) (ex : Bool)
noncomputable def K47 (r : Nat × PS) : Cfg := ⟨noT, no_, off_, loopE noL 47 3 18 5 B47 ((SC 77 5 cs t s n c ex).st .z).live ((SC 77 5 cs t s n c ex).st .z).hp (finO (SC 77 5 cs t s n c ex) r [0])⟩
noncomputable def o47 (r : Nat × PS) : Out QRes := execO Tryz.prog 5 (K47 cs t s n c ex r) 60 (.call 47 ⟨[sl 4 0 n c]⟩ (heapL (deads ++ [.cells cs t s ex])))
theorem v47z : (o47 cs t s n c ex (0, .z)).news = .br true (.leaf 1000000 (.old (.slice none 0 0))) .fail := by kernel_rfl
theorem x47z : o47 cs t s n c ex (0, .z) = (o47 cs t s n c ex (0, .z)).fix := by kernel_rfl
theorem v47m (j : Int) (l : Nat) (out : List Value) : (o47 cs t s n c ex (0, .m j l out)).news = .br true (.leaf 5 (.sl l l out 77 5 false)) .fail := by kernel_rfl
theorem x47m (j : Int) (l : Nat) (out : List Value) : o47 cs t s n c ex (0, .m j l out) = (o47 cs t s n c ex (0, .m j l out)).fix := by kernel_rfl
end
theorem c47 (z : Bool) : ∀ al css os p v, spC k5 5 77 z al css = some (p, v) → p → Blks css os → (∀ cs ∈ css, cs.all Ex.flat = true) ∧ v.Ok Tryz.prog 47 al deads os (gl + css.length) := by
  intro al css os p v hs hp hb
  unfold spC at hs
  split at hs
  case h_2 => cases hs
  rename_i n c cs
  obtain ⟨t, s, ex, rfl⟩ := blks1 hb
  cases z with
  | true =>
    cases hs
    obtain ⟨p1, rfl⟩ := hp
    refine ⟨by simpa using p1.1, ?_⟩
    have hL := (L47 (t := t) (s := s) (ex := ex) (n := 0) (c := c) p1.1).table (id := 3) (s0 := .z) .none (by decide) trivial (runC rfl p1 (by decide)) (by kernel_rfl) [0]
    exact news_ok (C := K47 cs t s 0 c ex (0, .z)) (n := 60) .none hL (x47z cs t s 0 c ex) (b := 1000000) ((congrArg NT.sel (v47z cs t s 0 c ex)).trans rfl) (show 5 ≤ 1000000 by decide) (show NRes.Fl (.old (.slice none 0 0)) from rfl)
  | false =>
    cases hs
    obtain ⟨p1, p2, p3, p4⟩ := hp
    refine ⟨by simpa using p1.1, ?_⟩
    obtain ⟨k, rfl⟩ : ∃ k, n = k + 1 := ⟨n - 1, by omega⟩
    have hL := (L47 (t := t) (s := s) (ex := ex) (n := k + 1) (c := c) p1.1).table (id := 3) (s0 := .z) .none (by decide) trivial (runC rfl p1 p3) (by kernel_rfl) [0]
    have hps : psR k5 5 cs (k + 1) = .m ((k + 1 : Nat) : Int) (k + 1) cs := by
      show PS.m ((k + 1 : Nat) : Int) (k + 1) (rowsN k5 5 cs (k + 1)) = _
      rw [rowsN_all (w := 5) rfl p1 p4]
    rw [hps] at hL
    exact news_ok (C := K47 cs t s (k + 1) c ex (0, .m ((k + 1 : Nat) : Int) (k + 1) cs)) (n := 60) .none hL (x47m cs t s (k + 1) c ex _ _ _) (b := 5) ((congrArg NT.sel (v47m cs t s (k + 1) c ex _ _ _)).trans rfl) (show 5 ≤ 5 by decide) p1.1
noncomputable def B48 : Code := bodyL Tryz.f48 3
theorem L48 {cs : List Value} {t s n c : Nat} {ex : Bool} (h : cs.all Ex.flat = true) : Loop1 Tryz.prog 5 48 B48 (SC 31 3 cs t s n c ex) 5 (stC k3 3 cs n c) GdP :=
  .mk' (C := CC) (n := 60) (fun q _ => by cases q <;> exact .none) (fun q _ => by cases q <;> exact .none) (fun q ro _ => by cases q <;> kernel_rfl) (fun q ro _ => by cases q <;> kernel_rfl) (fun q => by cases q <;> kernel_rfl) goodC
    (fun q hq => by cases q with
      | z => exact hpI_flat h
      | m j l out => exact hpC_flat h hq)
    (fun q j hq _ => by cases q with
      | z => exact ⟨hpI_flat h, fun h => by cases h⟩
      | m j l out => exact ⟨hpC_flat h hq, fun h => by cases h⟩)
section
variable (cs : List Value) (t s n c : Nat) (ex : Bool)
noncomputable def K48 (r : Nat × PS) : Cfg := ⟨noT, no_, off_, loopE noL 48 3 18 5 B48 ((SC 31 3 cs t s n c ex).st .z).live ((SC 31 3 cs t s n c ex).st .z).hp (finO (SC 31 3 cs t s n c ex) r [0])⟩
noncomputable def o48 (r : Nat × PS) : Out QRes := execO Tryz.prog 5 (K48 cs t s n c ex r) 60 (.call 48 ⟨[sl 4 0 n c]⟩ (heapL (deads ++ [.cells cs t s ex])))
theorem v48z : (o48 cs t s n c ex (0, .z)).news = .br true (.leaf 1000000 (.old (.slice none 0 0))) .fail := by kernel_rfl
theorem x48z : o48 cs t s n c ex (0, .z) = (o48 cs t s n c ex (0, .z)).fix := by kernel_rfl
theorem v48m (j : Int) (l : Nat) (out : List Value) : (o48 cs t s n c ex (0, .m j l out)).news = .br true (.leaf 5 (.sl l l out 31 3 false)) .fail := by kernel_rfl
theorem x48m (j : Int) (l : Nat) (out : List Value) : o48 cs t s n c ex (0, .m j l out) = (o48 cs t s n c ex (0, .m j l out)).fix := by kernel_rfl
end
theorem c48 (z : Bool) : ∀ al css os p v, spC k3 3 31 z al css = some (p, v) → p → Blks css os → (∀ cs ∈ css, cs.all Ex.flat = true) ∧ v.Ok Tryz.prog 48 al deads os (gl + css.length) := by
  intro al css os p v hs hp hb
  unfold spC at hs
  split at hs
  case h_2 => cases hs
  rename_i n c cs
  obtain ⟨t, s, ex, rfl⟩ := blks1 hb
  cases z with
  | true =>
    cases hs
    obtain ⟨p1, rfl⟩ := hp
    refine ⟨by simpa using p1.1, ?_⟩
    have hL := (L48 (t := t) (s := s) (ex := ex) (n := 0) (c := c) p1.1).table (id := 3) (s0 := .z) .none (by decide) trivial (runC rfl p1 (by decide)) (by kernel_rfl) [0]
    exact news_ok (C := K48 cs t s 0 c ex (0, .z)) (n := 60) .none hL (x48z cs t s 0 c ex) (b := 1000000) ((congrArg NT.sel (v48z cs t s 0 c ex)).trans rfl) (show 5 ≤ 1000000 by decide) (show NRes.Fl (.old (.slice none 0 0)) from rfl)
  | false =>
    cases hs
    obtain ⟨p1, p2, p3, p4⟩ := hp
    refine ⟨by simpa using p1.1, ?_⟩
    obtain ⟨k, rfl⟩ : ∃ k, n = k + 1 := ⟨n - 1, by omega⟩
    have hL := (L48 (t := t) (s := s) (ex := ex) (n := k + 1) (c := c) p1.1).table (id := 3) (s0 := .z) .none (by decide) trivial (runC rfl p1 p3) (by kernel_rfl) [0]
    have hps : psR k3 3 cs (k + 1) = .m ((k + 1 : Nat) : Int) (k + 1) cs := by
      show PS.m ((k + 1 : Nat) : Int) (k + 1) (rowsN k3 3 cs (k + 1)) = _
      rw [rowsN_all (w := 3) rfl p1 p4]
    rw [hps] at hL
    exact news_ok (C := K48 cs t s (k + 1) c ex (0, .m ((k + 1 : Nat) : Int) (k + 1) cs)) (n := 60) .none hL (x48m cs t s (k + 1) c ex _ _ _) (b := 5) ((congrArg NT.sel (v48m cs t s (k + 1) c ex _ _ _)).trans rfl) (show 5 ≤ 5 by decide) p1.1
noncomputable def B57 : Code := bodyL Tryz.f57 3
theorem L57 {cs : List Value} {t s n c : Nat} {ex : Bool} (h : cs.all Ex.flat = true) : Loop1 Tryz.prog 5 57 B57 (SC 177 2 cs t s n c ex) 5 (stC k2 2 cs n c) GdP :=
  .mk' (C := CC) (n := 60) (fun q _ => by cases q <;> exact .none) (fun q _ => by cases q <;> exact .none) (fun q ro _ => by cases q <;> kernel_rfl) (fun q ro _ => by cases q <;> kernel_rfl) (fun q => by cases q <;> kernel_rfl) goodC
    (fun q hq => by cases q with
      | z => exact hpI_flat h
      | m j l out => exact hpC_flat h hq)
    (fun q j hq _ => by cases q with
      | z => exact ⟨hpI_flat h, fun h => by cases h⟩
      | m j l out => exact ⟨hpC_flat h hq, fun h => by cases h⟩)
section
variable (cs : List Value) (t s n c : Nat) (ex : Bool)
noncomputable def K57 (r : Nat × PS) : Cfg := ⟨noT, no_, off_, loopE noL 57 3 18 5 B57 ((SC 177 2 cs t s n c ex).st .z).live ((SC 177 2 cs t s n c ex).st .z).hp (finO (SC 177 2 cs t s n c ex) r [0])⟩
noncomputable def o57 (r : Nat × PS) : Out QRes := execO Tryz.prog 5 (K57 cs t s n c ex r) 60 (.call 57 ⟨[sl 4 0 n c]⟩ (heapL (deads ++ [.cells cs t s ex])))
theorem v57z : (o57 cs t s n c ex (0, .z)).news = .br true (.leaf 1000000 (.old (.slice none 0 0))) .fail := by kernel_rfl
theorem x57z : o57 cs t s n c ex (0, .z) = (o57 cs t s n c ex (0, .z)).fix := by kernel_rfl
theorem v57m (j : Int) (l : Nat) (out : List Value) : (o57 cs t s n c ex (0, .m j l out)).news = .br true (.leaf 5 (.sl l l out 177 2 false)) .fail := by kernel_rfl
theorem x57m (j : Int) (l : Nat) (out : List Value) : o57 cs t s n c ex (0, .m j l out) = (o57 cs t s n c ex (0, .m j l out)).fix := by kernel_rfl
end
theorem c57 (z : Bool) : ∀ al css os p v, spC k2 2 177 z al css = some (p, v) → p → Blks css os → (∀ cs ∈ css, cs.all Ex.flat = true) ∧ v.Ok Tryz.prog 57 al deads os (gl + css.length) := by
  intro al css os p v hs hp hb
  unfold spC at hs
  split at hs
  case h_2 => cases hs
  rename_i n c cs
  obtain ⟨t, s, ex, rfl⟩ := blks1 hb
  cases z with
  | true =>
    cases hs
    obtain ⟨p1, rfl⟩ := hp
    refine ⟨by simpa using p1.1, ?_⟩
    have hL := (L57 (t := t) (s := s) (ex := ex) (n := 0) (c := c) p1.1).table (id := 3) (s0 := .z) .none (by decide) trivial (runC rfl p1 (by decide)) (by kernel_rfl) [0]
    exact news_ok (C := K57 cs t s 0 c ex (0, .z)) (n := 60) .none hL (x57z cs t s 0 c ex) (b := 1000000) ((congrArg NT.sel (v57z cs t s 0 c ex)).trans rfl) (show 5 ≤ 1000000 by decide) (show NRes.Fl (.old (.slice none 0 0)) from rfl)
  | false =>
    cases hs
    obtain ⟨p1, p2, p3, p4⟩ := hp
    refine ⟨by simpa using p1.1, ?_⟩
    obtain ⟨k, rfl⟩ : ∃ k, n = k + 1 := ⟨n - 1, by omega⟩
    have hL := (L57 (t := t) (s := s) (ex := ex) (n := k + 1) (c := c) p1.1).table (id := 3) (s0 := .z) .none (by decide) trivial (runC rfl p1 p3) (by kernel_rfl) [0]
    have hps : psR k2 2 cs (k + 1) = .m ((k + 1 : Nat) : Int) (k + 1) cs := by
      show PS.m ((k + 1 : Nat) : Int) (k + 1) (rowsN k2 2 cs (k + 1)) = _
      rw [rowsN_all (w := 2) rfl p1 p4]
    rw [hps] at hL
    exact news_ok (C := K57 cs t s (k + 1) c ex (0, .m ((k + 1 : Nat) : Int) (k + 1) cs)) (n := 60) .none hL (x57m cs t s (k + 1) c ex _ _ _) (b := 5) ((congrArg NT.sel (v57m cs t s (k + 1) c ex _ _ _)).trans rfl) (show 5 ≤ 5 by decide) p1.1
end Go.Proofs.YtafpmehhdcmllaaGreatDoor.Ways
noncomputable section
namespace Go.Proofs.YtafpmehhdcmllaaGreatDoor.Ways
open Go Go.Ex Go.RowKit
/-! ### rows that are settled: the program's Paired, the reference's Settle; SameRows -/
theorem set_app {A B : List Value} {k : Nat} {v : Value} (h : A.length ≤ k) : (A ++ B).set k v = A ++ B.set (k - A.length) v := by
  rw [List.set_append, if_neg (by omega)]
theorem set_flat {out : List Value} {k : Nat} {v : Value} (h : out.all Ex.flat = true) (hv : Ex.flat v = true) : (out.set k v).all Ex.flat = true := by
  refine List.all_eq_true.2 fun x hx => ?_
  rcases List.mem_or_eq_of_mem_set hx with h1 | rfl
  · exact List.all_eq_true.1 h x h1
  · exact hv
def set2 (out : List Value) (k : Nat) (l : List Value) : List Value := (out.set k (l.getD 0 (i 0))).set (k + 1) (l.getD 1 (i 0))
def in2 (out : List Value) (k : Nat) (v : Value) : Bool := decide (k < out.length) && (decide (k + 1 < (out.set k v).length) && true)
theorem set2_flat {out : List Value} {k : Nat} {a b : Int} (h : out.all Ex.flat = true) : (set2 out k [i a, i b]).all Ex.flat = true := set_flat (set_flat h rfl) rfl
theorem set2_app {A B : List Value} {k : Nat} {a b x y : Value} (h : A.length = k) : set2 (A ++ x :: y :: B) k [a, b] = A ++ a :: b :: B := by
  unfold set2
  rw [set_app (by omega), h, Nat.sub_self]
  show (A ++ a :: y :: B).set (k + 1) b = _
  rw [set_app (by omega), h, show k + 1 - k = 1 from by omega]; rfl
theorem in2_t {out : List Value} {k : Nat} {v : Value} (h : k + 1 < out.length) : in2 out k v = true := by
  unfold in2
  rw [decide_eq_true (by omega), List.length_set, decide_eq_true h]; rfl
/-- rows of two numbers -/
def rwL (f : Nat → Int × Int) : Nat → List Value
  | 0 => []
  | j + 1 => rwL f j ++ [i (f j).1, i (f j).2]
theorem rwL_len (f : Nat → Int × Int) : ∀ j, (rwL f j).length = j * 2
  | 0 => rfl
  | j + 1 => by
    show (rwL f j ++ [i (f j).1, i (f j).2]).length = _
    rw [List.length_append, rwL_len f j]
    show j * 2 + 2 = (j + 1) * 2
    omega
theorem rwL_flat (f : Nat → Int × Int) : ∀ j, (rwL f j).all Ex.flat = true
  | 0 => rfl
  | j + 1 => app_flat (rwL_flat f j) rfl
theorem rwL_ext {f g : Nat → Int × Int} : ∀ {n : Nat}, (∀ j, j < n → f j = g j) → rwL f n = rwL g n
  | 0, _ => rfl
  | n + 1, h => by
    show rwL f n ++ _ = rwL g n ++ _
    rw [rwL_ext fun j hj => h j (by omega), h n (by omega)]
theorem rwL_get (f : Nat → Int × Int) : ∀ (n j : Nat), j < n → (rwL f n)[0 + j * 2]? = some (i (f j).1) ∧ (rwL f n)[0 + j * 2 + 1]? = some (i (f j).2)
  | 0, j, h => by omega
  | n + 1, j, h => by
    show (rwL f n ++ [i (f n).1, i (f n).2])[0 + j * 2]? = _ ∧ (rwL f n ++ [i (f n).1, i (f n).2])[0 + j * 2 + 1]? = _
    by_cases hj : j < n
    · obtain ⟨h1, h2⟩ := rwL_get f n j hj
      rw [List.getElem?_append_left (by rw [rwL_len]; omega), List.getElem?_append_left (by rw [rwL_len]; omega)]
      exact ⟨h1, h2⟩
    · have : j = n := by omega
      subst this
      rw [List.getElem?_append_right (by rw [rwL_len]; omega), List.getElem?_append_right (by rw [rwL_len]; omega), rwL_len]
      rw [show 0 + j * 2 - j * 2 = 0 from by omega, show 0 + j * 2 + 1 - j * 2 = 1 from by omega]
      exact ⟨rfl, rfl⟩
theorem rwL_ok (f : Nat → Int × Int) (n : Nat) (h : n < 1000000) : okR k2 2 (rwL f n) n n := by
  refine ⟨rwL_flat f n, Nat.le_refl n, by omega, fun j hj => ?_⟩
  obtain ⟨h1, h2⟩ := rwL_get f n j hj
  unfold k2 areCells areCells areCells
  rw [h1, h2]; rfl
theorem rwL_ce (f : Nat → Int × Int) {n j : Nat} (hj : j < n) : ce 2 0 (rwL f n) j = (f j).1 ∧ ce 2 1 (rwL f n) j = (f j).2 := by
  obtain ⟨h1, h2⟩ := rwL_get f n j hj
  unfold ce
  rw [show 0 + j * 2 + 0 = 0 + j * 2 from rfl, h1, h2]
  exact ⟨rfl, rfl⟩
section
variable (cs ps : List Value)
def qd (j : Nat) : Int := dvE (ce 5 0 cs j) (ce 5 2 cs j) (ce 5 4 cs j)
def qP (j : Nat) : Int := rvP (ce 3 0 ps j) (ce 3 1 ps j) (ce 3 2 ps j) (ce 5 0 cs j) (enE (ce 5 2 cs j) (ce 5 4 cs j))
def qR (j : Nat) : Int := rvR (ce 3 0 ps j) (ce 3 1 ps j) (ce 3 2 ps j) (ce 5 0 cs j) (enE (ce 5 2 cs j) (ce 5 4 cs j))
def fP (j : Nat) : Int × Int := (qd cs j, qP cs ps j)
def fR (j : Nat) : Int × Int := (qd cs j, qR cs ps j)
end
def z0 (n : Nat) : List Value := (zeroRow #[i 0, i 0] ((n : Int).toNat * 2)).toList
theorem z0_len (n : Nat) : (z0 n).length = n * 2 := by
  unfold z0 zeroRow
  simp
theorem z0_flat (n : Nat) : (z0 n).all Ex.flat = true := by
  refine List.all_eq_true.2 fun v hv => ?_
  unfold z0 zeroRow at hv
  simp only [Array.toList_map, List.mem_map, Array.mem_toList_iff, Array.mem_range] at hv
  obtain ⟨k, _, rfl⟩ := hv
  have hk : k % (#[i 0, i 0] : Array Value).size < 2 := Nat.mod_lt _ (by decide)
  generalize k % (#[i 0, i 0] : Array Value).size = m at hk
  match m, hk with
  | 0, _ => rfl
  | 1, _ => rfl
noncomputable def B114 : Code := bodyL Tryz.f114 3
noncomputable def B53 : Code := bodyL Tryz.f53 3
noncomputable def B56 : Code := bodyL Tryz.f56 4
noncomputable def sp8 : Nat → Nat → Split := at_ [(114, 16), (53, 10), (56, 10), (56, 14), (56, 25)] .bool no_
def sy8z : Nat → Nat → Bool := on_ [(114, 12), (114, 18), (114, 19), (114, 26), (114, 27), (114, 29), (114, 100029), (53, 16), (53, 17), (53, 21), (53, 22), (53, 25), (53, 26), (56, 19), (56, 20), (56, 23), (56, 24)]
def sy8m : Nat → Nat → Bool := on_ [(53, 16), (53, 17), (53, 21), (53, 22), (53, 25), (53, 26), (53, 30), (53, 300030)]
noncomputable def C8 : Cfg := ⟨T7, sp8, sy8z, noL⟩
noncomputable def CS : PS → Cfg
  | .z => ⟨T7, sp8, sy8z, noL⟩
  | .m _ _ _ => ⟨T7, sp8, sy8m, noL⟩
section
variable (cs ps : List Value) (t s n c t2 s2 m c2 : Nat) (ex e2 : Bool)
def hp3 (e : Nat) (out : List Value) (x : Bool) : List (CO × Bool) := [(.dead, false), (.dead, false), (.dead, false), (.dead, false), (.cells cs t s ex, true), (.cells ps t2 s2 e2, true), (.cells out e 2 x, true)]
def S114 : Shape (Int × List Value) := ⟨32, fun q => ⟨[(1, sl 5 0 m c2), (2, fn 111), (7, sl 6 0 n n), (13, sl 4 0 n c), (14, i n), (15, i q.1)], hp3 cs ps t s t2 s2 ex e2 132 q.2 true⟩, fun _ q => (.exit 0, ⟨[(7, sl 6 0 n n)], hp3 cs ps t s t2 s2 ex e2 132 q.2 true⟩)⟩
def st114 (q : Int × List Value) : SS (Int × List Value) := .br (ltF q.1 n) (askS (bnd_ q.1 n c) <| askS (cR k5 5 cs q.1) <| askS (bnd_ q.1 m c2) <| askS (cR k3 3 ps q.1) <| askS (bnd_ q.1 n n) <| askS (in2 q.2 (0 + q.1.toNat * 2) (i (qd cs q.1.toNat))) <|
  .next 8 [0, 1, 2, 3, 4, 5, 6] (wrapF .i64 (q.1 + 1), set2 q.2 (0 + q.1.toNat * 2) [i (qd cs q.1.toNat), i (qP cs ps q.1.toNat)])) (.done 7 [0, 1, 2, 3, 4, 5, 6] 0)
def S53 : Shape PS := ⟨32, fun q => match q with
  | .z => ⟨[(0, sl 4 0 n c), (1, sl 5 0 m c2), (5, .slice none 0 0), (6, i 0)], hp2 cs ps t s t2 s2 ex e2⟩
  | .m j l out => ⟨[(0, sl 4 0 n c), (1, sl 5 0 m c2), (5, sl 6 0 l l), (6, i j)], hp3 cs ps t s t2 s2 ex e2 177 out false⟩,
  fun _ q => match q with
  | .z => (.exit 0, ⟨[(5, .slice none 0 0)], hp2 cs ps t s t2 s2 ex e2⟩)
  | .m _ l out => (.exit 0, ⟨[(5, sl 6 0 l l)], hp3 cs ps t s t2 s2 ex e2 177 out false⟩)⟩
def asks53 {σ : Type} (j : Int) (t : SS σ) : SS σ := askS (bnd_ j n c) <| askS (cR k5 5 cs j) <| askS (bnd_ j n c) <| askS (cR k5 5 cs j) <| askS (bnd_ j m c2) <| askS (cR k3 3 ps j) t
def st53 : PS → SS PS
  | .z => .br (ltF 0 n) (asks53 cs ps n c m c2 0 <| .next 8 [0, 1, 2, 3, 4, 5, 7] (.m 1 1 [i (qd cs (0 : Int).toNat), i (qR cs ps (0 : Int).toNat)])) (.done 6 [0, 1, 2, 3, 4, 5] 0)
  | .m j l out => .br (ltF j n) (asks53 cs ps n c m c2 j <| askS (fullW 2 l out) <| .next 9 [0, 1, 2, 3, 4, 5, 8] (.m (wrapF .i64 (j + 1)) (l + 1) (out ++ [i (qd cs j.toNat), i (qR cs ps j.toNat)]))) (.done 7 [0, 1, 2, 3, 4, 5, 6] 0)
def S56 : Shape Int := ⟨26, fun j => ⟨[(0, sl 4 0 n c), (1, sl 5 0 m c2), (5, i j)], hp2 cs ps t s t2 s2 ex e2⟩, fun k _ => match k with
  | 0 => (.exit 0, ⟨[], hp2 cs ps t s t2 s2 ex e2⟩)
  | _ => (.ret, ⟨[(4, b_ false)], hp2 cs ps t s t2 s2 ex e2⟩)⟩
def eqW (a b : List Value) (j : Nat) : Bool := ce 2 0 a j == ce 2 0 b j && (ce 2 1 a j == ce 2 1 b j && true)
def st56 (j : Int) : SS Int := .br (ltF j n) (askS (bnd_ j n c) <| askS (cR k2 2 cs j) <| askS (bnd_ j m c2) <| askS (cR k2 2 ps j) <| .br (!eqW cs ps j.toNat) (.done 6 [0, 1, 2, 3, 4, 5] 1) (.next 6 [0, 1, 2, 3, 4, 5] (wrapF .i64 (j + 1)))) (.done 6 [0, 1, 2, 3, 4, 5] 0)
end
section
variable {cs ps : List Value} {t s n c t2 s2 m c2 : Nat} {ex e2 : Bool}
theorem hp3_flat {e : Nat} {out : List Value} {x : Bool} (h : cs.all Ex.flat = true) (h2 : ps.all Ex.flat = true) (h3 : out.all Ex.flat = true) : ∀ o, (o, true) ∈ hp3 cs ps t s t2 s2 ex e2 e out x → FlatO o := by
  intro o ho
  simp [hp3] at ho
  rcases ho with rfl | rfl | rfl
  · exact fun x hx => List.all_eq_true.1 h x hx
  · exact fun x hx => List.all_eq_true.1 h2 x hx
  · exact fun x hx => List.all_eq_true.1 h3 x hx
theorem L114 (h : cs.all Ex.flat = true) (h2 : ps.all Ex.flat = true) : Loop1 Tryz.prog 6 114 B114 (S114 cs ps t s n c t2 s2 m c2 ex e2) 7 (st114 cs ps n c m c2) (fun q => q.2.all Ex.flat = true) :=
  .mk' (C := fun _ => C8) (n := 60) (fun _ _ => ts7) (fun _ _ => .none) (fun s ro _ => by kernel_rfl) (fun s ro _ => by kernel_rfl) (fun s => by kernel_rfl)
    (fun q q' hg h => by
      rcases br_or' h with h | h
      · have h := ask_or' (ask_or' (ask_or' (ask_or' (ask_or' (ask_or' h)))))
        cases h
        exact set2_flat hg
      · cases h) (fun q hq => hp3_flat h h2 hq)
    (fun q j hq _ => ⟨hp3_flat h h2 hq, fun h => by cases h⟩)
theorem asks53_or {σ : Type} {j : Int} {K : SS σ} {r : σ ⊕ Nat} (h : (asks53 cs ps n c m c2 j K).sel = some r) : K.sel = some r := ask_or' (ask_or' (ask_or' (ask_or' (ask_or' (ask_or' h)))))
theorem L53 (h : cs.all Ex.flat = true) (h2 : ps.all Ex.flat = true) : Loop1 Tryz.prog 6 53 B53 (S53 cs ps t s n c t2 s2 m c2 ex e2) 6 (st53 cs ps n c m c2) GdP :=
  .mk' (C := CS) (n := 60) (fun q _ => by cases q <;> exact ts7) (fun q _ => by cases q <;> exact .none) (fun q ro _ => by cases q <;> kernel_rfl) (fun q ro _ => by cases q <;> kernel_rfl) (fun q => by cases q <;> kernel_rfl)
    (fun q q' hg h => by
      cases q with
      | z =>
        rcases br_or' h with h | h
        · have h := asks53_or h; cases h; rfl
        · cases h
      | m j l out =>
        rcases br_or' h with h | h
        · have h := ask_or' (asks53_or h); cases h; exact app_flat hg rfl
        · cases h)
    (fun q hq => by cases q with
      | z => exact hp2_flat h h2
      | m j l out => exact hp3_flat h h2 hq)
    (fun q j hq _ => by cases q with
      | z => exact ⟨hp2_flat h h2, fun h => by cases h⟩
      | m j l out => exact ⟨hp3_flat h h2 hq, fun h => by cases h⟩)
theorem L56 (h : cs.all Ex.flat = true) (h2 : ps.all Ex.flat = true) : Loop1 Tryz.prog 6 56 B56 (S56 cs ps t s n c t2 s2 m c2 ex e2) 6 (st56 cs ps n c m c2) (fun _ => True) :=
  .mk' (C := fun _ => C8) (n := 60) (fun _ _ => ts7) (fun _ _ => .none) (fun s ro _ => by kernel_rfl) (fun s ro _ => by kernel_rfl) (fun s => by kernel_rfl) (fun _ _ _ _ => trivial) (fun _ _ => hp2_flat h h2)
    (fun s j _ _ => by cases j <;> exact ⟨hp2_flat h h2, fun h => by cases h⟩)
theorem run114 (h : okR k5 5 cs n c) (h2 : okR k3 3 ps m c2) (hnm : n = m) (hn : n < 1000000) : runS (st114 cs ps n c m c2) (n + 1) (0, z0 n) = some (0, ((n : Int), rwL (fP cs ps) n)) := by
  have hc := h.2.1
  have hc2 := h2.2.1
  have key := run_all (step := st114 cs ps n c m c2) (st := fun j => (((j : Nat) : Int), rwL (fP cs ps) j ++ (z0 n).drop (j * 2))) (a := 0) n (fun j hj => ?_) ?_
  · have e1 : rwL (fP cs ps) n ++ (z0 n).drop (n * 2) = rwL (fP cs ps) n := by rw [List.drop_of_length_le (by rw [z0_len]; exact Nat.le_refl _), List.append_nil]
    rw [e1] at key
    exact key
  · have hfl : (rwL (fP cs ps) j).length = j * 2 := rwL_len _ _
    have hdl : ((z0 n).drop (j * 2)).length = n * 2 - j * 2 := by rw [List.length_drop, z0_len]
    obtain ⟨x, y, B, hB⟩ : ∃ x y B, (z0 n).drop (j * 2) = x :: y :: B := by
      match hd : (z0 n).drop (j * 2), hdl with
      | [], hdl => simp at hdl; omega
      | [x], hdl => simp at hdl; omega
      | x :: y :: B, _ => exact ⟨x, y, B, rfl⟩
    have hB2 : (z0 n).drop ((j + 1) * 2) = B := by
      rw [show (j + 1) * 2 = j * 2 + 2 from by omega, ← List.drop_drop, hB]; rfl
    have hset : set2 (rwL (fP cs ps) j ++ (z0 n).drop (j * 2)) (0 + j * 2) [i (qd cs j), i (qP cs ps j)] = rwL (fP cs ps) (j + 1) ++ (z0 n).drop ((j + 1) * 2) := by
      rw [hB, set2_app (by omega), hB2]
      show _ = rwL (fP cs ps) j ++ [i (qd cs j), i (qP cs ps j)] ++ B
      rw [List.append_assoc]; rfl
    unfold st114
    dsimp only
    rw [br_t (by rw [ltF_eq]; simpa using hj), askS_sel (bnd_t hj hc), askS_sel (cR_t h hj), askS_sel (bnd_t (by omega) hc2), askS_sel (cR_t h2 (by omega)), askS_sel (bnd_t hj (Nat.le_refl n)), show ((j : Nat) : Int).toNat = j from rfl, askS_sel (in2_t (by rw [List.length_append, hfl, hdl]; omega)), wsucc (by omega), hset]; rfl
  · unfold st114
    dsimp only
    rw [br_f (by rw [ltF_eq]; simp)]; rfl
def psW (f : Nat → Int × Int) : Nat → PS
  | 0 => .z
  | j + 1 => .m ((j + 1 : Nat) : Int) (j + 1) (rwL f (j + 1))
theorem run53 (h : okR k5 5 cs n c) (h2 : okR k3 3 ps m c2) (hnm : n = m) (hn : n < 1000000) : runS (st53 cs ps n c m c2) (n + 1) .z = some (0, psW (fR cs ps) n) := by
  have hc := h.2.1
  have hc2 := h2.2.1
  have ha : ∀ {σ : Type} (K : SS σ) (j : Nat), j < n → (asks53 cs ps n c m c2 (j : Int) K).sel = K.sel := fun K j hj => by
    unfold asks53
    rw [askS_sel (bnd_t hj hc), askS_sel (cR_t h hj), askS_sel (bnd_t hj hc), askS_sel (cR_t h hj), askS_sel (bnd_t (by omega) hc2), askS_sel (cR_t h2 (by omega))]
  refine run_all (st := psW (fR cs ps)) n (fun j hj => ?_) ?_
  · cases j with
    | zero =>
      show (st53 cs ps n c m c2 .z).sel = _
      unfold st53
      rw [br_t (by rw [ltF_eq]; simpa using hj)]
      exact (ha _ 0 hj).trans rfl
    | succ j =>
      show (st53 cs ps n c m c2 (.m ((j + 1 : Nat) : Int) (j + 1) (rwL (fR cs ps) (j + 1)))).sel = _
      unfold st53
      dsimp only
      rw [br_t (by rw [ltF_eq]; exact decide_eq_true (by omega)), ha _ _ hj, askS_sel (fullW_t (rwL_len _ _) (by omega)), wsucc (by omega)]; rfl
  · cases n with
    | zero => rfl
    | succ n =>
      show (st53 cs ps (n + 1) c m c2 (.m ((n + 1 : Nat) : Int) (n + 1) _)).sel = _
      unfold st53
      dsimp only
      rw [br_f (by rw [ltF_eq]; simp)]; rfl
end
end Go.Proofs.YtafpmehhdcmllaaGreatDoor.Ways
