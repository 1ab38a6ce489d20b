import Derived.Test.YtafpmehhdcmllaaGreatDoorMr2
noncomputable section
namespace Go.Proofs.YtafpmehhdcmllaaGreatDoor.Ways
open Go Go.Ex Go.RowKit
/-! ### rows, copied -/
theorem cellsAt_take {cs : List Value} : ∀ (ks : List CK) (off : Nat), areCells ks cs off = true → cellsAt ks cs off = (cs.drop off).take ks.length
  | [], off, _ => by simp [cellsAt]
  | k :: r, off, h => by
    unfold areCells at h
    rw [Bool.and_eq_true] at h
    have h1 := cellAt_eq h.1
    have ih := cellsAt_take r (off + 1) h.2
    have hlt : off < cs.length := (List.getElem?_eq_some_iff.1 h1).1
    rw [List.drop_eq_getElem_cons hlt]
    show cellAt k cs[off]? :: cellsAt r cs (off + 1) = cs[off] :: (cs.drop (off + 1)).take r.length
    rw [ih]
    have h2 := h1.symm.trans (List.getElem?_eq_getElem hlt)
    rw [Option.some.inj h2]
theorem cellsAt_len : ∀ (ks : List CK) (cs : List Value) (off : Nat), (cellsAt ks cs off).length = ks.length
  | [], _, _ => rfl
  | _ :: r, cs, off => by show (cellsAt r cs (off + 1)).length + 1 = _; rw [cellsAt_len r]; rfl
def rowsN (ks : List CK) (w : Nat) (cs : List Value) : Nat → List Value
  | 0 => []
  | j + 1 => rowsN ks w cs j ++ cellsAt ks cs (0 + j * w)
theorem rowsN_len {ks : List CK} {w : Nat} {cs : List Value} (hw : ks.length = w) : ∀ j, (rowsN ks w cs j).length = j * w
  | 0 => by simp [rowsN]
  | j + 1 => by
    show (rowsN ks w cs j ++ cellsAt ks cs (0 + j * w)).length = _
    rw [List.length_append, rowsN_len hw j, cellsAt_len, hw, Nat.add_mul, Nat.one_mul]
theorem rowsN_take {ks : List CK} {w : Nat} {cs : List Value} {n c : Nat} (hw : ks.length = w) (h : okR ks w cs n c) : ∀ j, j ≤ n → rowsN ks w cs j = cs.take (j * w)
  | 0, _ => by simp [rowsN]
  | j + 1, hj => by
    show rowsN ks w cs j ++ cellsAt ks cs (0 + j * w) = _
    rw [rowsN_take hw h j (by omega), cellsAt_take ks _ (h.2.2.2 j (by omega)), hw, Nat.zero_add, Nat.add_mul, Nat.one_mul, List.take_add]
theorem rowsN_all {ks : List CK} {w : Nat} {cs : List Value} {n c : Nat} (hw : ks.length = w) (h : okR ks w cs n c) (hl : cs.length = n * w) : rowsN ks w cs n = cs := by
  rw [rowsN_take hw h n (Nat.le_refl n), ← hl, List.take_length]
theorem cellsAt_flat : ∀ (ks : List CK) (cs : List Value) (off : Nat), (cellsAt ks cs off).all Ex.flat = true
  | [], _, _ => rfl
  | k :: r, cs, off => by
    show (Ex.flat (cellAt k cs[off]?) && (cellsAt r cs (off + 1)).all Ex.flat) = true
    rw [cellsAt_flat r, Bool.and_true]
    cases k <;> rfl
theorem app_flat {a b : List Value} (h1 : a.all Ex.flat = true) (h2 : b.all Ex.flat = true) : (a ++ b).all Ex.flat = true := by rw [List.all_append, h1, h2]; rfl
theorem rowsN_flat {ks : List CK} {w : Nat} {cs : List Value} : ∀ j, (rowsN ks w cs j).all Ex.flat = true
  | 0 => rfl
  | j + 1 => app_flat (rowsN_flat j) (cellsAt_flat ks cs _)
inductive PS where
  | z
  | m (j : Int) (l : Nat) (out : List Value)
def GdP : PS → Prop
  | .z => True
  | .m _ _ out => out.all Ex.flat = true
def fullW (w l : Nat) (out : List Value) : Bool := decide (l = l) && (decide (out.length = l * w) && decide (l + 1 ≤ 1048576))
theorem fullW_t {w l : Nat} {out : List Value} (h : out.length = l * w) (hl : l < 1000000) : fullW w l out = true := by
  unfold fullW
  rw [decide_eq_true rfl, decide_eq_true h, decide_eq_true (by omega)]; rfl
def stC (ks : List CK) (w : Nat) (cs : List Value) (n c : Nat) : PS → SS PS
  | .z => .br (ltF 0 n) (askS (bnd_ 0 n c) <| askS (cR ks w cs 0) <| .next 8 [0, 1, 2, 3, 4, 7] (.m 1 1 (cellsAt ks cs (0 + (0 : Int).toNat * w)))) (.done 5 [0, 1, 2, 3, 4] 0)
  | .m j l out => .br (ltF j n) (askS (bnd_ j n c) <| askS (cR ks w cs j) <| askS (fullW w l out) <| .next 9 [0, 1, 2, 3, 4, 8] (.m (wrapF .i64 (j + 1)) (l + 1) (out ++ cellsAt ks cs (0 + j.toNat * w)))) (.done 6 [0, 1, 2, 3, 4, 5] 0)
def psR (ks : List CK) (w : Nat) (cs : List Value) : Nat → PS
  | 0 => .z
  | j + 1 => .m ((j + 1 : Nat) : Int) (j + 1) (rowsN ks w cs (j + 1))
theorem br_or' {σ : Type} {b : Bool} {t e : SS σ} {r : σ ⊕ Nat} (h : (SS.br b t e).sel = some r) : t.sel = some r ∨ e.sel = some r := by
  cases b with
  | true => exact .inl h
  | false => exact .inr h
theorem ask_or' {σ : Type} {b : Bool} {t : SS σ} {r : σ ⊕ Nat} (h : (askS b t).sel = some r) : t.sel = some r := by
  cases b with
  | true => exact h
  | false => cases h
theorem goodC {ks : List CK} {w : Nat} {cs : List Value} {n c : Nat} : ∀ q q', GdP q → (stC ks w cs n c q).sel = some (.inl q') → GdP q' := by
  intro q q' hg h
  cases q with
  | z =>
    rcases br_or' h with h | h
    · have h := ask_or' (ask_or' h); cases h; exact cellsAt_flat _ _ _
    · cases h
  | m j l out =>
    rcases br_or' h with h | h
    · have h := ask_or' (ask_or' (ask_or' h)); cases h; exact app_flat hg (cellsAt_flat _ _ _)
    · cases h
theorem runC {ks : List CK} {w : Nat} {cs : List Value} {n c : Nat} (hw : ks.length = w) (h : okR ks w cs n c) (hn : n < 1000000) : runS (stC ks w cs n c) (n + 1) .z = some (0, psR ks w cs n) := by
  have hc := h.2.1
  refine run_all (st := psR ks w cs) n (fun j hj => ?_) ?_
  · cases j with
    | zero =>
      show (stC ks w cs n c .z).sel = _
      unfold stC
      rw [br_t (by rw [ltF_eq]; simpa using hj), askS_sel (show bnd_ 0 n c = true from bnd_t (j := 0) hj hc), askS_sel (show cR ks w cs 0 = true from cR_t (j := 0) h hj)]
      show some (Sum.inl (PS.m 1 1 (cellsAt ks cs (0 + 0 * w)))) = some (Sum.inl (PS.m ((0 + 1 : Nat) : Int) 1 ([] ++ cellsAt ks cs (0 + 0 * w))))
      rw [List.nil_append]; rfl
    | succ j =>
      show (stC ks w cs n c (.m ((j + 1 : Nat) : Int) (j + 1) (rowsN ks w cs (j + 1)))).sel = _
      unfold stC
      dsimp only
      rw [br_t (by rw [ltF_eq]; exact decide_eq_true (by omega)), askS_sel (bnd_t hj hc), askS_sel (cR_t h hj), askS_sel (fullW_t (rowsN_len hw _) (by omega)), wsucc (by omega)]; rfl
  · cases n with
    | zero => rfl
    | succ n =>
      show (stC ks w cs (n + 1) c (.m ((n + 1 : Nat) : Int) (n + 1) _)).sel = _
      unfold stC
      dsimp only
      rw [br_f (by rw [ltF_eq]; simp)]; rfl
section
variable (e w : Nat) (cs : List Value) (t s n c : Nat) (ex : Bool)
def hpC (out : List Value) : List (CO × Bool) := [(.dead, false), (.dead, false), (.dead, false), (.dead, false), (.cells cs t s ex, true), (.cells out e w false, true)]
def SC : Shape PS := ⟨18, fun q => match q with
  | .z => ⟨[(6, sl 4 0 n c), (7, i n), (3, .slice none 0 0), (8, i 0)], hpI cs t s ex⟩
  | .m j l out => ⟨[(6, sl 4 0 n c), (7, i n), (3, sl 5 0 l l), (8, i j)], hpC e w cs t s ex out⟩,
  fun _ q => match q with
  | .z => (.exit 0, ⟨[(3, .slice none 0 0)], hpI cs t s ex⟩)
  | .m _ l out => (.exit 0, ⟨[(3, sl 5 0 l l)], hpC e w cs t s ex out⟩)⟩
end
theorem hpC_flat {e w : Nat} {cs : List Value} {t s : Nat} {ex : Bool} {out : List Value} (h : cs.all Ex.flat = true) (h2 : out.all Ex.flat = true) : ∀ o, (o, true) ∈ hpC e w cs t s ex out → FlatO o := by
  intro o ho
  simp [hpC] at ho
  rcases ho with rfl | rfl
  · exact fun x hx => List.all_eq_true.1 h x hx
  · exact fun x hx => List.all_eq_true.1 h2 x hx
def CmE (ks : List CK) (w : Nat) (cs : List Value) (n c : Nat) : Prop := okR ks w cs n c ∧ 1 ≤ n ∧ n < 1000000 ∧ cs.length = n * w
def CzE (ks : List CK) (w : Nat) (cs : List Value) (n c : Nat) : Prop := okR ks w cs n c ∧ n = 0
def spC (ks : List CK) (w e : Nat) (z : Bool) : NSpec := fun al css => match al, css with
  | [.slice (some ⟨4, 0, none⟩) n c], [cs] => cond z (some (CzE ks w cs n c, .old (.slice none 0 0))) (some (CmE ks w cs n c, .sl n n cs e w false))
  | _, _ => none
noncomputable def spCo : Nat → Nat → Split := at_ [(47, 9), (48, 9), (57, 9)] .bool no_
def syCz : Nat → Nat → Bool := on_ [(47, 10), (47, 11), (48, 10), (48, 11), (57, 10), (57, 11)]
def syCm : Nat → Nat → Bool := on_ [(47, 10), (47, 11), (47, 15), (47, 300015), (48, 10), (48, 11), (48, 15), (48, 300015), (57, 10), (57, 11), (57, 15), (57, 300015)]
noncomputable def CC : PS → Cfg
  | .z => ⟨noT, spCo, syCz, noL⟩
  | .m _ _ _ => ⟨noT, spCo, syCm, noL⟩
noncomputable def B47 : Code := bodyL Tryz.f47 3
theorem L47 {cs : List Value} {t s n c : Nat} {ex : Bool} (h : cs.all Ex.flat = true) : Loop1 Tryz.prog 5 47 B47 (SC 77 5 cs t s n c ex) 5 (stC k5 5 cs n c) GdP :=
  .mk' (C := CC) (n := 60) (fun q _ => by cases q <;> exact .none) (fun q _ => by cases q <;> exact .none) (fun q ro _ => by cases q <;> kernel_rfl) (fun q ro _ => by cases q <;> kernel_rfl) (fun q => by cases q <;> kernel_rfl) goodC
    (fun q hq => by cases q with
      | z => exact hpI_flat h
      | m j l out => exact hpC_flat h hq)
    (fun q j hq _ => by cases q with
      | z => exact ⟨hpI_flat h, fun h => by cases h⟩
      | m j l out => exact ⟨hpC_flat h hq, fun h => by cases h⟩)
section
variable (cs : List Value) (t s n c : Nat) (ex : Bool)
noncomputable def K47 (r : Nat × PS) : Cfg := ⟨noT, no_, off_, loopE noL 47 3 18 5 B47 ((SC 77 5 cs t s n c ex).st .z).live ((SC 77 5 cs t s n c ex).st .z).hp (finO (SC 77 5 cs t s n c ex) r [0])⟩
noncomputable def o47 (r : Nat × PS) : Out QRes := execO Tryz.prog 5 (K47 cs t s n c ex r) 60 (.call 47 ⟨[sl 4 0 n c]⟩ (heapL (deads ++ [.cells cs t s ex])))
theorem v47z : (o47 cs t s n c ex (0, .z)).news = .br true (.leaf 1000000 (.old (.slice none 0 0))) .fail := by kernel_rfl
theorem x47z : o47 cs t s n c ex (0, .z) = (o47 cs t s n c ex (0, .z)).fix := by kernel_rfl
theorem v47m (j : Int) (l : Nat) (out : List Value) : (o47 cs t s n c ex (0, .m j l out)).news = .br true (.leaf 5 (.sl l l out 77 5 false)) .fail := by kernel_rfl
theorem x47m (j : Int) (l : Nat) (out : List Value) : o47 cs t s n c ex (0, .m j l out) = (o47 cs t s n c ex (0, .m j l out)).fix := by kernel_rfl
end
theorem c47 (z : Bool) : ∀ al css os p v, spC k5 5 77 z al css = some (p, v) → p → Blks css os → (∀ cs ∈ css, cs.all Ex.flat = true) ∧ v.Ok Tryz.prog 47 al deads os (gl + css.length) := by
  intro al css os p v hs hp hb
  unfold spC at hs
  split at hs
  case h_2 => cases hs
  rename_i n c cs
  obtain ⟨t, s, ex, rfl⟩ := blks1 hb
  cases z with
  | true =>
    cases hs
    obtain ⟨p1, rfl⟩ := hp
    refine ⟨by simpa using p1.1, ?_⟩
    have hL := (L47 (t := t) (s := s) (ex := ex) (n := 0) (c := c) p1.1).table (id := 3) (s0 := .z) .none (by decide) trivial (runC rfl p1 (by decide)) (by kernel_rfl) [0]
    exact news_ok (C := K47 cs t s 0 c ex (0, .z)) (n := 60) .none hL (x47z cs t s 0 c ex) (b := 1000000) ((congrArg NT.sel (v47z cs t s 0 c ex)).trans rfl) (show 5 ≤ 1000000 by decide) (show NRes.Fl (.old (.slice none 0 0)) from rfl)
  | false =>
    cases hs
    obtain ⟨p1, p2, p3, p4⟩ := hp
    refine ⟨by simpa using p1.1, ?_⟩
    obtain ⟨k, rfl⟩ : ∃ k, n = k + 1 := ⟨n - 1, by omega⟩
    have hL := (L47 (t := t) (s := s) (ex := ex) (n := k + 1) (c := c) p1.1).table (id := 3) (s0 := .z) .none (by decide) trivial (runC rfl p1 p3) (by kernel_rfl) [0]
    have hps : psR k5 5 cs (k + 1) = .m ((k + 1 : Nat) : Int) (k + 1) cs := by
      show PS.m ((k + 1 : Nat) : Int) (k + 1) (rowsN k5 5 cs (k + 1)) = _
      rw [rowsN_all (w := 5) rfl p1 p4]
    rw [hps] at hL
    exact news_ok (C := K47 cs t s (k + 1) c ex (0, .m ((k + 1 : Nat) : Int) (k + 1) cs)) (n := 60) .none hL (x47m cs t s (k + 1) c ex _ _ _) (b := 5) ((congrArg NT.sel (v47m cs t s (k + 1) c ex _ _ _)).trans rfl) (show 5 ≤ 5 by decide) p1.1
noncomputable def B48 : Code := bodyL Tryz.f48 3
theorem L48 {cs : List Value} {t s n c : Nat} {ex : Bool} (h : cs.all Ex.flat = true) : Loop1 Tryz.prog 5 48 B48 (SC 31 3 cs t s n c ex) 5 (stC k3 3 cs n c) GdP :=
  .mk' (C := CC) (n := 60) (fun q _ => by cases q <;> exact .none) (fun q _ => by cases q <;> exact .none) (fun q ro _ => by cases q <;> kernel_rfl) (fun q ro _ => by cases q <;> kernel_rfl) (fun q => by cases q <;> kernel_rfl) goodC
    (fun q hq => by cases q with
      | z => exact hpI_flat h
      | m j l out => exact hpC_flat h hq)
    (fun q j hq _ => by cases q with
      | z => exact ⟨hpI_flat h, fun h => by cases h⟩
      | m j l out => exact ⟨hpC_flat h hq, fun h => by cases h⟩)
section
variable (cs : List Value) (t s n c : Nat) (ex : Bool)
noncomputable def K48 (r : Nat × PS) : Cfg := ⟨noT, no_, off_, loopE noL 48 3 18 5 B48 ((SC 31 3 cs t s n c ex).st .z).live ((SC 31 3 cs t s n c ex).st .z).hp (finO (SC 31 3 cs t s n c ex) r [0])⟩
noncomputable def o48 (r : Nat × PS) : Out QRes := execO Tryz.prog 5 (K48 cs t s n c ex r) 60 (.call 48 ⟨[sl 4 0 n c]⟩ (heapL (deads ++ [.cells cs t s ex])))
theorem v48z : (o48 cs t s n c ex (0, .z)).news = .br true (.leaf 1000000 (.old (.slice none 0 0))) .fail := by kernel_rfl
theorem x48z : o48 cs t s n c ex (0, .z) = (o48 cs t s n c ex (0, .z)).fix := by kernel_rfl
theorem v48m (j : Int) (l : Nat) (out : List Value) : (o48 cs t s n c ex (0, .m j l out)).news = .br true (.leaf 5 (.sl l l out 31 3 false)) .fail := by kernel_rfl
theorem x48m (j : Int) (l : Nat) (out : List Value) : o48 cs t s n c ex (0, .m j l out) = (o48 cs t s n c ex (0, .m j l out)).fix := by kernel_rfl
end
theorem c48 (z : Bool) : ∀ al css os p v, spC k3 3 31 z al css = some (p, v) → p → Blks css os → (∀ cs ∈ css, cs.all Ex.flat = true) ∧ v.Ok Tryz.prog 48 al deads os (gl + css.length) := by
  intro al css os p v hs hp hb
  unfold spC at hs
  split at hs
  case h_2 => cases hs
  rename_i n c cs
  obtain ⟨t, s, ex, rfl⟩ := blks1 hb
  cases z with
  | true =>
    cases hs
    obtain ⟨p1, rfl⟩ := hp
    refine ⟨by simpa using p1.1, ?_⟩
    have hL := (L48 (t := t) (s := s) (ex := ex) (n := 0) (c := c) p1.1).table (id := 3) (s0 := .z) .none (by decide) trivial (runC rfl p1 (by decide)) (by kernel_rfl) [0]
    exact news_ok (C := K48 cs t s 0 c ex (0, .z)) (n := 60) .none hL (x48z cs t s 0 c ex) (b := 1000000) ((congrArg NT.sel (v48z cs t s 0 c ex)).trans rfl) (show 5 ≤ 1000000 by decide) (show NRes.Fl (.old (.slice none 0 0)) from rfl)
  | false =>
    cases hs
    obtain ⟨p1, p2, p3, p4⟩ := hp
    refine ⟨by simpa using p1.1, ?_⟩
    obtain ⟨k, rfl⟩ : ∃ k, n = k + 1 := ⟨n - 1, by omega⟩
    have hL := (L48 (t := t) (s := s) (ex := ex) (n := k + 1) (c := c) p1.1).table (id := 3) (s0 := .z) .none (by decide) trivial (runC rfl p1 p3) (by kernel_rfl) [0]
    have hps : psR k3 3 cs (k + 1) = .m ((k + 1 : Nat) : Int) (k + 1) cs := by
      show PS.m ((k + 1 : Nat) : Int) (k + 1) (rowsN k3 3 cs (k + 1)) = _
      rw [rowsN_all (w := 3) rfl p1 p4]
    rw [hps] at hL
    exact news_ok (C := K48 cs t s (k + 1) c ex (0, .m ((k + 1 : Nat) : Int) (k + 1) cs)) (n := 60) .none hL (x48m cs t s (k + 1) c ex _ _ _) (b := 5) ((congrArg NT.sel (v48m cs t s (k + 1) c ex _ _ _)).trans rfl) (show 5 ≤ 5 by decide) p1.1
noncomputable def B57 : Code := bodyL Tryz.f57 3
theorem L57 {cs : List Value} {t s n c : Nat} {ex : Bool} (h : cs.all Ex.flat = true) : Loop1 Tryz.prog 5 57 B57 (SC 177 2 cs t s n c ex) 5 (stC k2 2 cs n c) GdP :=
  .mk' (C := CC) (n := 60) (fun q _ => by cases q <;> exact .none) (fun q _ => by cases q <;> exact .none) (fun q ro _ => by cases q <;> kernel_rfl) (fun q ro _ => by cases q <;> kernel_rfl) (fun q => by cases q <;> kernel_rfl) goodC
    (fun q hq => by cases q with
      | z => exact hpI_flat h
      | m j l out => exact hpC_flat h hq)
    (fun q j hq _ => by cases q with
      | z => exact ⟨hpI_flat h, fun h => by cases h⟩
      | m j l out => exact ⟨hpC_flat h hq, fun h => by cases h⟩)
section
variable (cs : List Value) (t s n c : Nat) (ex : Bool)
noncomputable def K57 (r : Nat × PS) : Cfg := ⟨noT, no_, off_, loopE noL 57 3 18 5 B57 ((SC 177 2 cs t s n c ex).st .z).live ((SC 177 2 cs t s n c ex).st .z).hp (finO (SC 177 2 cs t s n c ex) r [0])⟩
noncomputable def o57 (r : Nat × PS) : Out QRes := execO Tryz.prog 5 (K57 cs t s n c ex r) 60 (.call 57 ⟨[sl 4 0 n c]⟩ (heapL (deads ++ [.cells cs t s ex])))
theorem v57z : (o57 cs t s n c ex (0, .z)).news = .br true (.leaf 1000000 (.old (.slice none 0 0))) .fail := by kernel_rfl
theorem x57z : o57 cs t s n c ex (0, .z) = (o57 cs t s n c ex (0, .z)).fix := by kernel_rfl
theorem v57m (j : Int) (l : Nat) (out : List Value) : (o57 cs t s n c ex (0, .m j l out)).news = .br true (.leaf 5 (.sl l l out 177 2 false)) .fail := by kernel_rfl
theorem x57m (j : Int) (l : Nat) (out : List Value) : o57 cs t s n c ex (0, .m j l out) = (o57 cs t s n c ex (0, .m j l out)).fix := by kernel_rfl
end
theorem c57 (z : Bool) : ∀ al css os p v, spC k2 2 177 z al css = some (p, v) → p → Blks css os → (∀ cs ∈ css, cs.all Ex.flat = true) ∧ v.Ok Tryz.prog 57 al deads os (gl + css.length) := by
  intro al css os p v hs hp hb
  unfold spC at hs
  split at hs
  case h_2 => cases hs
  rename_i n c cs
  obtain ⟨t, s, ex, rfl⟩ := blks1 hb
  cases z with
  | true =>
    cases hs
    obtain ⟨p1, rfl⟩ := hp
    refine ⟨by simpa using p1.1, ?_⟩
    have hL := (L57 (t := t) (s := s) (ex := ex) (n := 0) (c := c) p1.1).table (id := 3) (s0 := .z) .none (by decide) trivial (runC rfl p1 (by decide)) (by kernel_rfl) [0]
    exact news_ok (C := K57 cs t s 0 c ex (0, .z)) (n := 60) .none hL (x57z cs t s 0 c ex) (b := 1000000) ((congrArg NT.sel (v57z cs t s 0 c ex)).trans rfl) (show 5 ≤ 1000000 by decide) (show NRes.Fl (.old (.slice none 0 0)) from rfl)
  | false =>
    cases hs
    obtain ⟨p1, p2, p3, p4⟩ := hp
    refine ⟨by simpa using p1.1, ?_⟩
    obtain ⟨k, rfl⟩ : ∃ k, n = k + 1 := ⟨n - 1, by omega⟩
    have hL := (L57 (t := t) (s := s) (ex := ex) (n := k + 1) (c := c) p1.1).table (id := 3) (s0 := .z) .none (by decide) trivial (runC rfl p1 p3) (by kernel_rfl) [0]
    have hps : psR k2 2 cs (k + 1) = .m ((k + 1 : Nat) : Int) (k + 1) cs := by
      show PS.m ((k + 1 : Nat) : Int) (k + 1) (rowsN k2 2 cs (k + 1)) = _
      rw [rowsN_all (w := 2) rfl p1 p4]
    rw [hps] at hL
    exact news_ok (C := K57 cs t s (k + 1) c ex (0, .m ((k + 1 : Nat) : Int) (k + 1) cs)) (n := 60) .none hL (x57m cs t s (k + 1) c ex _ _ _) (b := 5) ((congrArg NT.sel (v57m cs t s (k + 1) c ex _ _ _)).trans rfl) (show 5 ≤ 5 by decide) p1.1
end Go.Proofs.YtafpmehhdcmllaaGreatDoor.Ways
noncomputable section
namespace Go.Proofs.YtafpmehhdcmllaaGreatDoor.Ways
open Go Go.Ex Go.RowKit
/-! ### rows that are settled: the program's Paired, the reference's Settle; SameRows -/
theorem set_app {A B : List Value} {k : Nat} {v : Value} (h : A.length ≤ k) : (A ++ B).set k v = A ++ B.set (k - A.length) v := by
  rw [List.set_append, if_neg (by omega)]
theorem set_flat {out : List Value} {k : Nat} {v : Value} (h : out.all Ex.flat = true) (hv : Ex.flat v = true) : (out.set k v).all Ex.flat = true := by
  refine List.all_eq_true.2 fun x hx => ?_
  rcases List.mem_or_eq_of_mem_set hx with h1 | rfl
  · exact List.all_eq_true.1 h x h1
  · exact hv
def set2 (out : List Value) (k : Nat) (l : List Value) : List Value := (out.set k (l.getD 0 (i 0))).set (k + 1) (l.getD 1 (i 0))
def in2 (out : List Value) (k : Nat) (v : Value) : Bool := decide (k < out.length) && (decide (k + 1 < (out.set k v).length) && true)
theorem set2_flat {out : List Value} {k : Nat} {a b : Int} (h : out.all Ex.flat = true) : (set2 out k [i a, i b]).all Ex.flat = true := set_flat (set_flat h rfl) rfl
theorem set2_app {A B : List Value} {k : Nat} {a b x y : Value} (h : A.length = k) : set2 (A ++ x :: y :: B) k [a, b] = A ++ a :: b :: B := by
  unfold set2
  rw [set_app (by omega), h, Nat.sub_self]
  show (A ++ a :: y :: B).set (k + 1) b = _
  rw [set_app (by omega), h, show k + 1 - k = 1 from by omega]; rfl
theorem in2_t {out : List Value} {k : Nat} {v : Value} (h : k + 1 < out.length) : in2 out k v = true := by
  unfold in2
  rw [decide_eq_true (by omega), List.length_set, decide_eq_true h]; rfl
/-- rows of two numbers -/
def rwL (f : Nat → Int × Int) : Nat → List Value
  | 0 => []
  | j + 1 => rwL f j ++ [i (f j).1, i (f j).2]
theorem rwL_len (f : Nat → Int × Int) : ∀ j, (rwL f j).length = j * 2
  | 0 => rfl
  | j + 1 => by
    show (rwL f j ++ [i (f j).1, i (f j).2]).length = _
    rw [List.length_append, rwL_len f j]
    show j * 2 + 2 = (j + 1) * 2
    omega
theorem rwL_flat (f : Nat → Int × Int) : ∀ j, (rwL f j).all Ex.flat = true
  | 0 => rfl
  | j + 1 => app_flat (rwL_flat f j) rfl
theorem rwL_ext {f g : Nat → Int × Int} : ∀ {n : Nat}, (∀ j, j < n → f j = g j) → rwL f n = rwL g n
  | 0, _ => rfl
  | n + 1, h => by
    show rwL f n ++ _ = rwL g n ++ _
    rw [rwL_ext fun j hj => h j (by omega), h n (by omega)]
theorem rwL_get (f : Nat → Int × Int) : ∀ (n j : Nat), j < n → (rwL f n)[0 + j * 2]? = some (i (f j).1) ∧ (rwL f n)[0 + j * 2 + 1]? = some (i (f j).2)
  | 0, j, h => by omega
  | n + 1, j, h => by
    show (rwL f n ++ [i (f n).1, i (f n).2])[0 + j * 2]? = _ ∧ (rwL f n ++ [i (f n).1, i (f n).2])[0 + j * 2 + 1]? = _
    by_cases hj : j < n
    · obtain ⟨h1, h2⟩ := rwL_get f n j hj
      rw [List.getElem?_append_left (by rw [rwL_len]; omega), List.getElem?_append_left (by rw [rwL_len]; omega)]
      exact ⟨h1, h2⟩
    · have : j = n := by omega
      subst this
      rw [List.getElem?_append_right (by rw [rwL_len]; omega), List.getElem?_append_right (by rw [rwL_len]; omega), rwL_len]
      rw [show 0 + j * 2 - j * 2 = 0 from by omega, show 0 + j * 2 + 1 - j * 2 = 1 from by omega]
      exact ⟨rfl, rfl⟩
theorem rwL_ok (f : Nat → Int × Int) (n : Nat) (h : n < 1000000) : okR k2 2 (rwL f n) n n := by
  refine ⟨rwL_flat f n, Nat.le_refl n, by omega, fun j hj => ?_⟩
  obtain ⟨h1, h2⟩ := rwL_get f n j hj
  unfold k2 areCells areCells areCells
  rw [h1, h2]; rfl
theorem rwL_ce (f : Nat → Int × Int) {n j : Nat} (hj : j < n) : ce 2 0 (rwL f n) j = (f j).1 ∧ ce 2 1 (rwL f n) j = (f j).2 := by
  obtain ⟨h1, h2⟩ := rwL_get f n j hj
  unfold ce
  rw [show 0 + j * 2 + 0 = 0 + j * 2 from rfl, h1, h2]
  exact ⟨rfl, rfl⟩
section
variable (cs ps : List Value)
def qd (j : Nat) : Int := dvE (ce 5 0 cs j) (ce 5 2 cs j) (ce 5 4 cs j)
def qP (j : Nat) : Int := rvP (ce 3 0 ps j) (ce 3 1 ps j) (ce 3 2 ps j) (ce 5 0 cs j) (enE (ce 5 2 cs j) (ce 5 4 cs j))
def qR (j : Nat) : Int := rvR (ce 3 0 ps j) (ce 3 1 ps j) (ce 3 2 ps j) (ce 5 0 cs j) (enE (ce 5 2 cs j) (ce 5 4 cs j))
def fP (j : Nat) : Int × Int := (qd cs j, qP cs ps j)
def fR (j : Nat) : Int × Int := (qd cs j, qR cs ps j)
end
def z0 (n : Nat) : List Value := (zeroRow #[i 0, i 0] ((n : Int).toNat * 2)).toList
theorem z0_len (n : Nat) : (z0 n).length = n * 2 := by
  unfold z0 zeroRow
  simp
theorem z0_flat (n : Nat) : (z0 n).all Ex.flat = true := by
  refine List.all_eq_true.2 fun v hv => ?_
  unfold z0 zeroRow at hv
  simp only [Array.toList_map, List.mem_map, Array.mem_toList_iff, Array.mem_range] at hv
  obtain ⟨k, _, rfl⟩ := hv
  have hk : k % (#[i 0, i 0] : Array Value).size < 2 := Nat.mod_lt _ (by decide)
  generalize k % (#[i 0, i 0] : Array Value).size = m at hk
  match m, hk with
  | 0, _ => rfl
  | 1, _ => rfl
noncomputable def B114 : Code := bodyL Tryz.f114 3
noncomputable def B53 : Code := bodyL Tryz.f53 3
noncomputable def B56 : Code := bodyL Tryz.f56 4
noncomputable def sp8 : Nat → Nat → Split := at_ [(114, 16), (53, 10), (56, 10), (56, 14), (56, 25)] .bool no_
def sy8z : Nat → Nat → Bool := on_ [(114, 12), (114, 18), (114, 19), (114, 26), (114, 27), (114, 29), (114, 100029), (53, 16), (53, 17), (53, 21), (53, 22), (53, 25), (53, 26), (56, 19), (56, 20), (56, 23), (56, 24)]
def sy8m : Nat → Nat → Bool := on_ [(53, 16), (53, 17), (53, 21), (53, 22), (53, 25), (53, 26), (53, 30), (53, 300030)]
noncomputable def C8 : Cfg := ⟨T7, sp8, sy8z, noL⟩
noncomputable def CS : PS → Cfg
  | .z => ⟨T7, sp8, sy8z, noL⟩
  | .m _ _ _ => ⟨T7, sp8, sy8m, noL⟩
section
variable (cs ps : List Value) (t s n c t2 s2 m c2 : Nat) (ex e2 : Bool)
def hp3 (e : Nat) (out : List Value) (x : Bool) : List (CO × Bool) := [(.dead, false), (.dead, false), (.dead, false), (.dead, false), (.cells cs t s ex, true), (.cells ps t2 s2 e2, true), (.cells out e 2 x, true)]
def S114 : Shape (Int × List Value) := ⟨32, fun q => ⟨[(1, sl 5 0 m c2), (2, fn 111), (7, sl 6 0 n n), (13, sl 4 0 n c), (14, i n), (15, i q.1)], hp3 cs ps t s t2 s2 ex e2 132 q.2 true⟩, fun _ q => (.exit 0, ⟨[(7, sl 6 0 n n)], hp3 cs ps t s t2 s2 ex e2 132 q.2 true⟩)⟩
def st114 (q : Int × List Value) : SS (Int × List Value) := .br (ltF q.1 n) (askS (bnd_ q.1 n c) <| askS (cR k5 5 cs q.1) <| askS (bnd_ q.1 m c2) <| askS (cR k3 3 ps q.1) <| askS (bnd_ q.1 n n) <| askS (in2 q.2 (0 + q.1.toNat * 2) (i (qd cs q.1.toNat))) <|
  .next 8 [0, 1, 2, 3, 4, 5, 6] (wrapF .i64 (q.1 + 1), set2 q.2 (0 + q.1.toNat * 2) [i (qd cs q.1.toNat), i (qP cs ps q.1.toNat)])) (.done 7 [0, 1, 2, 3, 4, 5, 6] 0)
def S53 : Shape PS := ⟨32, fun q => match q with
  | .z => ⟨[(0, sl 4 0 n c), (1, sl 5 0 m c2), (5, .slice none 0 0), (6, i 0)], hp2 cs ps t s t2 s2 ex e2⟩
  | .m j l out => ⟨[(0, sl 4 0 n c), (1, sl 5 0 m c2), (5, sl 6 0 l l), (6, i j)], hp3 cs ps t s t2 s2 ex e2 177 out false⟩,
  fun _ q => match q with
  | .z => (.exit 0, ⟨[(5, .slice none 0 0)], hp2 cs ps t s t2 s2 ex e2⟩)
  | .m _ l out => (.exit 0, ⟨[(5, sl 6 0 l l)], hp3 cs ps t s t2 s2 ex e2 177 out false⟩)⟩
def asks53 {σ : Type} (j : Int) (t : SS σ) : SS σ := askS (bnd_ j n c) <| askS (cR k5 5 cs j) <| askS (bnd_ j n c) <| askS (cR k5 5 cs j) <| askS (bnd_ j m c2) <| askS (cR k3 3 ps j) t
def st53 : PS → SS PS
  | .z => .br (ltF 0 n) (asks53 cs ps n c m c2 0 <| .next 8 [0, 1, 2, 3, 4, 5, 7] (.m 1 1 [i (qd cs (0 : Int).toNat), i (qR cs ps (0 : Int).toNat)])) (.done 6 [0, 1, 2, 3, 4, 5] 0)
  | .m j l out => .br (ltF j n) (asks53 cs ps n c m c2 j <| askS (fullW 2 l out) <| .next 9 [0, 1, 2, 3, 4, 5, 8] (.m (wrapF .i64 (j + 1)) (l + 1) (out ++ [i (qd cs j.toNat), i (qR cs ps j.toNat)]))) (.done 7 [0, 1, 2, 3, 4, 5, 6] 0)
def S56 : Shape Int := ⟨26, fun j => ⟨[(0, sl 4 0 n c), (1, sl 5 0 m c2), (5, i j)], hp2 cs ps t s t2 s2 ex e2⟩, fun k _ => match k with
  | 0 => (.exit 0, ⟨[], hp2 cs ps t s t2 s2 ex e2⟩)
  | _ => (.ret, ⟨[(4, b_ false)], hp2 cs ps t s t2 s2 ex e2⟩)⟩
def eqW (a b : List Value) (j : Nat) : Bool := ce 2 0 a j == ce 2 0 b j && (ce 2 1 a j == ce 2 1 b j && true)
def st56 (j : Int) : SS Int := .br (ltF j n) (askS (bnd_ j n c) <| askS (cR k2 2 cs j) <| askS (bnd_ j m c2) <| askS (cR k2 2 ps j) <| .br (!eqW cs ps j.toNat) (.done 6 [0, 1, 2, 3, 4, 5] 1) (.next 6 [0, 1, 2, 3, 4, 5] (wrapF .i64 (j + 1)))) (.done 6 [0, 1, 2, 3, 4, 5] 0)
end
section
variable {cs ps : List Value} {t s n c t2 s2 m c2 : Nat} {ex e2 : Bool}
theorem hp3_flat {e : Nat} {out : List Value} {x : Bool} (h : cs.all Ex.flat = true) (h2 : ps.all Ex.flat = true) (h3 : out.all Ex.flat = true) : ∀ o, (o, true) ∈ hp3 cs ps t s t2 s2 ex e2 e out x → FlatO o := by
  intro o ho
  simp [hp3] at ho
  rcases ho with rfl | rfl | rfl
  · exact fun x hx => List.all_eq_true.1 h x hx
  · exact fun x hx => List.all_eq_true.1 h2 x hx
  · exact fun x hx => List.all_eq_true.1 h3 x hx
theorem L114 (h : cs.all Ex.flat = true) (h2 : ps.all Ex.flat = true) : Loop1 Tryz.prog 6 114 B114 (S114 cs ps t s n c t2 s2 m c2 ex e2) 7 (st114 cs ps n c m c2) (fun q => q.2.all Ex.flat = true) :=
  .mk' (C := fun _ => C8) (n := 60) (fun _ _ => ts7) (fun _ _ => .none) (fun s ro _ => by kernel_rfl) (fun s ro _ => by kernel_rfl) (fun s => by kernel_rfl)
    (fun q q' hg h => by
      rcases br_or' h with h | h
      · have h := ask_or' (ask_or' (ask_or' (ask_or' (ask_or' (ask_or' h)))))
        cases h
        exact set2_flat hg
      · cases h) (fun q hq => hp3_flat h h2 hq)
    (fun q j hq _ => ⟨hp3_flat h h2 hq, fun h => by cases h⟩)
theorem asks53_or {σ : Type} {j : Int} {K : SS σ} {r : σ ⊕ Nat} (h : (asks53 cs ps n c m c2 j K).sel = some r) : K.sel = some r := ask_or' (ask_or' (ask_or' (ask_or' (ask_or' (ask_or' h)))))
theorem L53 (h : cs.all Ex.flat = true) (h2 : ps.all Ex.flat = true) : Loop1 Tryz.prog 6 53 B53 (S53 cs ps t s n c t2 s2 m c2 ex e2) 6 (st53 cs ps n c m c2) GdP :=
  .mk' (C := CS) (n := 60) (fun q _ => by cases q <;> exact ts7) (fun q _ => by cases q <;> exact .none) (fun q ro _ => by cases q <;> kernel_rfl) (fun q ro _ => by cases q <;> kernel_rfl) (fun q => by cases q <;> kernel_rfl)
    (fun q q' hg h => by
      cases q with
      | z =>
        rcases br_or' h with h | h
        · have h := asks53_or h; cases h; rfl
        · cases h
      | m j l out =>
        rcases br_or' h with h | h
        · have h := ask_or' (asks53_or h); cases h; exact app_flat hg rfl
        · cases h)
    (fun q hq => by cases q with
      | z => exact hp2_flat h h2
      | m j l out => exact hp3_flat h h2 hq)
    (fun q j hq _ => by cases q with
      | z => exact ⟨hp2_flat h h2, fun h => by cases h⟩
      | m j l out => exact ⟨hp3_flat h h2 hq, fun h => by cases h⟩)
theorem L56 (h : cs.all Ex.flat = true) (h2 : ps.all Ex.flat = true) : Loop1 Tryz.prog 6 56 B56 (S56 cs ps t s n c t2 s2 m c2 ex e2) 6 (st56 cs ps n c m c2) (fun _ => True) :=
  .mk' (C := fun _ => C8) (n := 60) (fun _ _ => ts7) (fun _ _ => .none) (fun s ro _ => by kernel_rfl) (fun s ro _ => by kernel_rfl) (fun s => by kernel_rfl) (fun _ _ _ _ => trivial) (fun _ _ => hp2_flat h h2)
    (fun s j _ _ => by cases j <;> exact ⟨hp2_flat h h2, fun h => by cases h⟩)
theorem run114 (h : okR k5 5 cs n c) (h2 : okR k3 3 ps m c2) (hnm : n = m) (hn : n < 1000000) : runS (st114 cs ps n c m c2) (n + 1) (0, z0 n) = some (0, ((n : Int), rwL (fP cs ps) n)) := by
  have hc := h.2.1
  have hc2 := h2.2.1
  have key := run_all (step := st114 cs ps n c m c2) (st := fun j => (((j : Nat) : Int), rwL (fP cs ps) j ++ (z0 n).drop (j * 2))) (a := 0) n (fun j hj => ?_) ?_
  · have e1 : rwL (fP cs ps) n ++ (z0 n).drop (n * 2) = rwL (fP cs ps) n := by rw [List.drop_of_length_le (by rw [z0_len]; exact Nat.le_refl _), List.append_nil]
    rw [e1] at key
    exact key
  · have hfl : (rwL (fP cs ps) j).length = j * 2 := rwL_len _ _
    have hdl : ((z0 n).drop (j * 2)).length = n * 2 - j * 2 := by rw [List.length_drop, z0_len]
    obtain ⟨x, y, B, hB⟩ : ∃ x y B, (z0 n).drop (j * 2) = x :: y :: B := by
      match hd : (z0 n).drop (j * 2), hdl with
      | [], hdl => simp at hdl; omega
      | [x], hdl => simp at hdl; omega
      | x :: y :: B, _ => exact ⟨x, y, B, rfl⟩
    have hB2 : (z0 n).drop ((j + 1) * 2) = B := by
      rw [show (j + 1) * 2 = j * 2 + 2 from by omega, ← List.drop_drop, hB]; rfl
    have hset : set2 (rwL (fP cs ps) j ++ (z0 n).drop (j * 2)) (0 + j * 2) [i (qd cs j), i (qP cs ps j)] = rwL (fP cs ps) (j + 1) ++ (z0 n).drop ((j + 1) * 2) := by
      rw [hB, set2_app (by omega), hB2]
      show _ = rwL (fP cs ps) j ++ [i (qd cs j), i (qP cs ps j)] ++ B
      rw [List.append_assoc]; rfl
    unfold st114
    dsimp only
    rw [br_t (by rw [ltF_eq]; simpa using hj), askS_sel (bnd_t hj hc), askS_sel (cR_t h hj), askS_sel (bnd_t (by omega) hc2), askS_sel (cR_t h2 (by omega)), askS_sel (bnd_t hj (Nat.le_refl n)), show ((j : Nat) : Int).toNat = j from rfl, askS_sel (in2_t (by rw [List.length_append, hfl, hdl]; omega)), wsucc (by omega), hset]; rfl
  · unfold st114
    dsimp only
    rw [br_f (by rw [ltF_eq]; simp)]; rfl
def psW (f : Nat → Int × Int) : Nat → PS
  | 0 => .z
  | j + 1 => .m ((j + 1 : Nat) : Int) (j + 1) (rwL f (j + 1))
theorem run53 (h : okR k5 5 cs n c) (h2 : okR k3 3 ps m c2) (hnm : n = m) (hn : n < 1000000) : runS (st53 cs ps n c m c2) (n + 1) .z = some (0, psW (fR cs ps) n) := by
  have hc := h.2.1
  have hc2 := h2.2.1
  have ha : ∀ {σ : Type} (K : SS σ) (j : Nat), j < n → (asks53 cs ps n c m c2 (j : Int) K).sel = K.sel := fun K j hj => by
    unfold asks53
    rw [askS_sel (bnd_t hj hc), askS_sel (cR_t h hj), askS_sel (bnd_t hj hc), askS_sel (cR_t h hj), askS_sel (bnd_t (by omega) hc2), askS_sel (cR_t h2 (by omega))]
  refine run_all (st := psW (fR cs ps)) n (fun j hj => ?_) ?_
  · cases j with
    | zero =>
      show (st53 cs ps n c m c2 .z).sel = _
      unfold st53
      rw [br_t (by rw [ltF_eq]; simpa using hj)]
      exact (ha _ 0 hj).trans rfl
    | succ j =>
      show (st53 cs ps n c m c2 (.m ((j + 1 : Nat) : Int) (j + 1) (rwL (fR cs ps) (j + 1)))).sel = _
      unfold st53
      dsimp only
      rw [br_t (by rw [ltF_eq]; exact decide_eq_true (by omega)), ha _ _ hj, askS_sel (fullW_t (rwL_len _ _) (by omega)), wsucc (by omega)]; rfl
  · cases n with
    | zero => rfl
    | succ n =>
      show (st53 cs ps (n + 1) c m c2 (.m ((n + 1 : Nat) : Int) (n + 1) _)).sel = _
      unfold st53
      dsimp only
      rw [br_f (by rw [ltF_eq]; simp)]; rfl
end
end Go.Proofs.YtafpmehhdcmllaaGreatDoor.Ways
noncomputable section
namespace Go.Proofs.YtafpmehhdcmllaaGreatDoor.Ways
open Go Go.Ex Go.RowKit
/-! ### the contracts of Paired, Settle (both), SameRows -/
section
variable (cs ps : List Value) (t s n c t2 s2 m c2 : Nat) (ex e2 : Bool)
noncomputable def K114 (r : Nat × Int × List Value) : Cfg := ⟨T7, no_, on_ [(114, 12)], loopE noL 114 3 32 7 B114 ((S114 cs ps t s n c t2 s2 m c2 ex e2).st (0, z0 n)).live ((S114 cs ps t s n c t2 s2 m c2 ex e2).st (0, z0 n)).hp (finO (S114 cs ps t s n c t2 s2 m c2 ex e2) r [0])⟩
noncomputable def o114 (r : Nat × Int × List Value) : Out QRes := execO Tryz.prog 6 (K114 cs ps t s n c t2 s2 m c2 ex e2 r) 60 (.call 114 ⟨[sl 4 0 n c, sl 5 0 m c2, fn 111]⟩ (heapL (deads ++ [.cells cs t s ex, .cells ps t2 s2 e2])))
theorem v114 (j : Int) (out : List Value) : (o114 cs ps t s n c t2 s2 m c2 ex e2 (0, j, out)).news = .br (leF 0 n && (leF n n && leF n 1048576)) (.br true (.leaf 6 (.sl n n out 132 2 true)) .fail) .fail := by kernel_rfl
theorem x114 (j : Int) (out : List Value) : o114 cs ps t s n c t2 s2 m c2 ex e2 (0, j, out) = (o114 cs ps t s n c t2 s2 m c2 ex e2 (0, j, out)).fix := by kernel_rfl
noncomputable def K53 (r : Nat × PS) : Cfg := ⟨T7, no_, off_, loopE noL 53 3 32 6 B53 ((S53 cs ps t s n c t2 s2 m c2 ex e2).st .z).live ((S53 cs ps t s n c t2 s2 m c2 ex e2).st .z).hp (finO (S53 cs ps t s n c t2 s2 m c2 ex e2) r [0])⟩
noncomputable def o53 (r : Nat × PS) : Out QRes := execO Tryz.prog 6 (K53 cs ps t s n c t2 s2 m c2 ex e2 r) 60 (.call 53 ⟨[sl 4 0 n c, sl 5 0 m c2]⟩ (heapL (deads ++ [.cells cs t s ex, .cells ps t2 s2 e2])))
theorem v53z : (o53 cs ps t s n c t2 s2 m c2 ex e2 (0, .z)).news = .br true (.leaf 1000000 (.old (.slice none 0 0))) .fail := by kernel_rfl
theorem x53z : o53 cs ps t s n c t2 s2 m c2 ex e2 (0, .z) = (o53 cs ps t s n c t2 s2 m c2 ex e2 (0, .z)).fix := by kernel_rfl
theorem v53m (j : Int) (l : Nat) (out : List Value) : (o53 cs ps t s n c t2 s2 m c2 ex e2 (0, .m j l out)).news = .br true (.leaf 6 (.sl l l out 177 2 false)) .fail := by kernel_rfl
theorem x53m (j : Int) (l : Nat) (out : List Value) : o53 cs ps t s n c t2 s2 m c2 ex e2 (0, .m j l out) = (o53 cs ps t s n c t2 s2 m c2 ex e2 (0, .m j l out)).fix := by kernel_rfl
noncomputable def K56 (r : Nat × Int) : Cfg := ⟨T7, sp8, sy8z, loopE noL 56 4 26 6 B56 ((S56 cs ps t s n c t2 s2 m c2 ex e2).st 0).live ((S56 cs ps t s n c t2 s2 m c2 ex e2).st 0).hp (finO (S56 cs ps t s n c t2 s2 m c2 ex e2) r [0, 1])⟩
noncomputable def o56 (r : Nat × Int) : Out QRes := execO Tryz.prog 6 (K56 cs ps t s n c t2 s2 m c2 ex e2 r) 60 (.call 56 ⟨[sl 4 0 n c, sl 5 0 m c2]⟩ (heapL (deads ++ [.cells cs t s ex, .cells ps t2 s2 e2])))
theorem v56 (r : Nat × Int) : (o56 cs ps t s n c t2 s2 m c2 ex e2 r).vals = .br (!eqF n m) (.leaf (b_ false)) (.br (Nat.beq r.1 0) (.leaf (b_ true)) (.br (Nat.beq r.1 1) (.leaf (b_ false)) .fail)) := by kernel_rfl
theorem x56 (r : Nat × Int) : o56 cs ps t s n c t2 s2 m c2 ex e2 r = (o56 cs ps t s n c t2 s2 m c2 ex e2 r).fix := by kernel_rfl
end
def PdE (cs ps : List Value) (n c m c2 : Nat) : Prop := ok2 cs ps n c m c2 ∧ n = m ∧ n < 1000000
def sp114 : NSpec := fun al css => match al, css with
  | [.slice (some ⟨4, 0, none⟩) n c, .slice (some ⟨5, 0, none⟩) m c2, .func (.func 111) ⟨[]⟩ ⟨[]⟩], [cs, ps] => some (PdE cs ps n c m c2, .sl n n (rwL (fP cs ps) n) 132 2 true)
  | _, _ => none
theorem two_flat {cs ps : List Value} (h : cs.all Ex.flat = true) (h2 : ps.all Ex.flat = true) : ∀ x ∈ [cs, ps], x.all Ex.flat = true := by
  intro x hx
  simp only [List.mem_cons, List.not_mem_nil, or_false] at hx
  rcases hx with rfl | rfl
  · exact h
  · exact h2
theorem c114 : ∀ al css os p v, sp114 al css = some (p, v) → p → Blks css os → (∀ cs ∈ css, cs.all Ex.flat = true) ∧ v.Ok Tryz.prog 114 al deads os (gl + css.length) := by
  intro al css os p v hs hp hb
  unfold sp114 at hs
  split at hs
  case h_2 => cases hs
  rename_i n c m c2 cs ps
  cases hs
  obtain ⟨t, s, ex, t2, s2, e2, rfl⟩ := blks2 hb
  obtain ⟨⟨p1, p2⟩, p3, p4⟩ := hp
  refine ⟨two_flat p1.1 p2.1, ?_⟩
  have hL := (L114 (cs := cs) (ps := ps) (t := t) (s := s) (n := n) (c := c) (t2 := t2) (s2 := s2) (m := m) (c2 := c2) (ex := ex) (e2 := e2) p1.1 p2.1).table (id := 3) (s0 := (0, z0 n)) .none (by decide) (z0_flat n) (run114 p1 p2 p3 p4) (by kernel_rfl) [0]
  refine news_ok (C := K114 cs ps t s n c t2 s2 m c2 ex e2 (0, ((n : Int), rwL (fP cs ps) n))) (n := 60) ts7 hL (x114 cs ps t s n c t2 s2 m c2 ex e2 _ _) (b := 6) ((congrArg NT.sel (v114 cs ps t s n c t2 s2 m c2 ex e2 _ _)).trans ?_) (show 6 ≤ 6 by decide) (rwL_flat _ _)
  have h1 : (leF 0 n && (leF n n && leF n 1048576)) = true := by
    rw [leF_eq, leF_eq, leF_eq, decide_eq_true (by omega), decide_eq_true (by omega), decide_eq_true (by omega)]; rfl
  show cond (leF 0 n && (leF n n && leF n 1048576)) _ _ = _
  rw [h1]; rfl
def sp53 (z : Bool) : NSpec := fun al css => match al, css with
  | [.slice (some ⟨4, 0, none⟩) n c, .slice (some ⟨5, 0, none⟩) m c2], [cs, ps] => cond z (some (PdE cs ps n c m c2 ∧ n = 0, .old (.slice none 0 0))) (some (PdE cs ps n c m c2 ∧ 1 ≤ n, .sl n n (rwL (fR cs ps) n) 177 2 false))
  | _, _ => none
theorem c53 (z : Bool) : ∀ al css os p v, sp53 z al css = some (p, v) → p → Blks css os → (∀ cs ∈ css, cs.all Ex.flat = true) ∧ v.Ok Tryz.prog 53 al deads os (gl + css.length) := by
  intro al css os p v hs hp hb
  unfold sp53 at hs
  split at hs
  case h_2 => cases hs
  rename_i n c m c2 cs ps
  obtain ⟨t, s, ex, t2, s2, e2, rfl⟩ := blks2 hb
  cases z with
  | true =>
    cases hs
    obtain ⟨⟨⟨p1, p2⟩, p3, p4⟩, rfl⟩ := hp
    refine ⟨two_flat p1.1 p2.1, ?_⟩
    have hL := (L53 (cs := cs) (ps := ps) (t := t) (s := s) (n := 0) (c := c) (t2 := t2) (s2 := s2) (m := m) (c2 := c2) (ex := ex) (e2 := e2) p1.1 p2.1).table (id := 3) (s0 := .z) .none (by decide) trivial (run53 p1 p2 p3 p4) (by kernel_rfl) [0]
    exact news_ok (C := K53 cs ps t s 0 c t2 s2 m c2 ex e2 (0, .z)) (n := 60) ts7 hL (x53z cs ps t s 0 c t2 s2 m c2 ex e2) (b := 1000000) ((congrArg NT.sel (v53z cs ps t s 0 c t2 s2 m c2 ex e2)).trans rfl) (show 6 ≤ 1000000 by decide) (show NRes.Fl (.old (.slice none 0 0)) from rfl)
  | false =>
    cases hs
    obtain ⟨⟨⟨p1, p2⟩, p3, p4⟩, p5⟩ := hp
    refine ⟨two_flat p1.1 p2.1, ?_⟩
    obtain ⟨k, rfl⟩ : ∃ k, n = k + 1 := ⟨n - 1, by omega⟩
    have hL := (L53 (cs := cs) (ps := ps) (t := t) (s := s) (n := k + 1) (c := c) (t2 := t2) (s2 := s2) (m := m) (c2 := c2) (ex := ex) (e2 := e2) p1.1 p2.1).table (id := 3) (s0 := .z) .none (by decide) trivial (run53 p1 p2 p3 p4) (by kernel_rfl) [0]
    exact news_ok (C := K53 cs ps t s (k + 1) c t2 s2 m c2 ex e2 (0, .m ((k + 1 : Nat) : Int) (k + 1) (rwL (fR cs ps) (k + 1)))) (n := 60) ts7 hL (x53m cs ps t s (k + 1) c t2 s2 m c2 ex e2 _ _ _) (b := 6) ((congrArg NT.sel (v53m cs ps t s (k + 1) c t2 s2 m c2 ex e2 _ _ _)).trans rfl) (show 6 ≤ 6 by decide) (rwL_flat _ _)
def SwE (a b : List Value) (n c m c2 : Nat) : Prop := okR k2 2 a n c ∧ okR k2 2 b m c2 ∧ n = m ∧ n < 1000000 ∧ ∀ j, j < n → eqW a b j = true
def sp56 : ESpec := fun al css => match al, css with
  | [.slice (some ⟨4, 0, none⟩) n c, .slice (some ⟨5, 0, none⟩) m c2], [a, b] => some (SwE a b n c m c2, b_ true)
  | _, _ => none
theorem c56 : ∀ al css os p v, sp56 al css = some (p, v) → p → Blks css os → (∀ cs ∈ css, cs.all Ex.flat = true) ∧ clean 6 v = true ∧ ∃ H', Sound Tryz.prog (gl + css.length) (.call 56 ⟨al⟩ (heapL (deads ++ os))) (.val v H') := by
  intro al css os p v hs hp hb
  unfold sp56 at hs
  split at hs
  case h_2 => cases hs
  rename_i n c m c2 a b
  cases hs
  obtain ⟨t, s, ex, t2, s2, e2, rfl⟩ := blks2 hb
  obtain ⟨p1, p2, rfl, p4, p5⟩ := hp
  refine ⟨two_flat p1.1 p2.1, rfl, ?_⟩
  have hr : runS (st56 a b n c n c2) (n + 1) 0 = some (0, (n : Int)) := by
    refine run_all (step := st56 a b n c n c2) (st := fun j => ((j : Nat) : Int)) (a := 0) n (fun j hj => ?_) ?_
    · unfold st56
      rw [br_t (by rw [ltF_eq]; simpa using hj), askS_sel (bnd_t hj p1.2.1), askS_sel (cR_t p1 hj), askS_sel (bnd_t hj p2.2.1), askS_sel (cR_t p2 hj), show ((j : Nat) : Int).toNat = j from rfl, br_f (by rw [p5 j hj]; rfl), wsucc (by omega)]; rfl
    · unfold st56
      rw [br_f (by rw [ltF_eq]; simp)]; rfl
  have hL := (L56 (cs := a) (ps := b) (t := t) (s := s) (t2 := t2) (s2 := s2) (ex := ex) (e2 := e2) (n := n) (c := c) (m := n) (c2 := c2) p1.1 p2.1).table (id := 4) .none (by decide) trivial hr (by kernel_rfl) [0, 1]
  obtain ⟨H', h'⟩ := Out.vals_sel (x56 a b t s n c t2 s2 n c2 ex e2 (0, (n : Int))) (v := b_ true) (by
    rw [v56, vb_f (by rw [eqF_d, decide_eq_true rfl]; rfl)]; rfl)
  exact ⟨H', execO_sound (C := K56 a b t s n c t2 s2 n c2 ex e2 (0, (n : Int))) ts7 hL 60 _ _ h'⟩
theorem eqW_self (a : List Value) (j : Nat) : eqW a a j = true := by
  unfold eqW
  rw [beq_self_eq_true, beq_self_eq_true]; rfl
noncomputable def T8 : Tb := ext T7 114 (newE sp114 [] (heapL deads))
theorem ts8 {G : Nat} : TSound Tryz.prog G T8 := ts7.new (f' := 114) c114
/-! the program's Settle -/
section
variable (cs ps : List Value) (t s n c t2 s2 m c2 : Nat) (ex e2 : Bool)
noncomputable def o46 : Out QRes := execO Tryz.prog 6 ⟨T8, at_ [(46, 19)] .bool no_, off_, noL⟩ 60 (.call 46 ⟨[sl 4 0 n c, sl 5 0 m c2]⟩ (heapL (deads ++ [.cells cs t s ex, .cells ps t2 s2 e2])))
def a3 (cs ps : List Value) (n m : Nat) : Int := fst3 (cqE cs n) (cpE ps m) (shE n m)
def asN (b : Bool) (t : NT) : NT := .br b t .fail
theorem v46 : (o46 cs ps t s n c t2 s2 m c2 ex e2).news = asN (tru (okR k5 5 cs n c)) (asN (tru (okR k3 3 ps m c2)) (asN (tru (okI [i (cqE cs n), i (cpE ps m), i (shE n m)] 3 3)) (.br (!eqF (a3 cs ps n m) 0) (.leaf 1000000 (.old (tp [.slice none 0 0, i (a3 cs ps n m)]))) (asN (tru (PdE cs ps n c m c2)) (.leaf 7 (.tup n n (rwL (fP cs ps) n) 132 2 true (i 0))))))) := by kernel_rfl
theorem x46 : o46 cs ps t s n c t2 s2 m c2 ex e2 = (o46 cs ps t s n c t2 s2 m c2 ex e2).fix := by kernel_rfl
end
theorem a3_eq (cs ps : List Value) (n m : Nat) : a3 cs ps n m = csE cs ps n m := by
  unfold a3 csE
  rw [fst3_eq]
  have hs : shE n m = if n = m then 0 else 2 := by
    unfold shE
    by_cases h : n = m
    · rw [if_pos h, if_pos (by omega)]
    · rw [if_neg h, if_neg (by omega)]
  by_cases h1 : cqE cs n ≠ 0
  · rw [if_pos h1, if_pos h1]
  · rw [if_neg h1, if_neg h1]
    by_cases h2 : cpE ps m ≠ 0
    · rw [if_pos h2, if_pos h2]
    · rw [if_neg h2, if_neg h2, hs]
      by_cases h : n = m
      · rw [if_pos h]; rfl
      · rw [if_neg h]; rfl
theorem csE_eq0 {cs ps : List Value} {n m : Nat} (h : csE cs ps n m = 0) : cqE cs n = 0 ∧ cpE ps m = 0 ∧ n = m := by
  unfold csE at h
  by_cases h1 : cqE cs n ≠ 0
  · rw [if_pos h1] at h; exact absurd h h1
  · rw [if_neg h1] at h
    by_cases h2 : cpE ps m ≠ 0
    · rw [if_pos h2] at h; exact absurd h h2
    · rw [if_neg h2] at h
      by_cases h3 : n = m
      · exact ⟨by simpa using h1, by simpa using h2, h3⟩
      · rw [if_neg h3] at h; cases h
def GoE (cs ps : List Value) (n c m c2 : Nat) : Prop := ok2 cs ps n c m c2 ∧ csE cs ps n m = 0 ∧ n < 1000000
def NoE (cs ps : List Value) (n c m c2 : Nat) : Prop := ok2 cs ps n c m c2 ∧ csE cs ps n m ≠ 0
def sp46 (g : Bool) : NSpec := fun al css => match al, css with
  | [.slice (some ⟨4, 0, none⟩) n c, .slice (some ⟨5, 0, none⟩) m c2], [cs, ps] => cond g (some (GoE cs ps n c m c2, .tup n n (rwL (fP cs ps) n) 132 2 true (i 0))) (some (NoE cs ps n c m c2, .old (tp [.slice none 0 0, i (csE cs ps n m)])))
  | _, _ => none
theorem asN_t {b : Bool} {t : NT} (h : b = true) : (asN b t).sel = t.sel := by rw [h]; rfl
theorem nb_t {b : Bool} {t e : NT} (h : b = true) : (NT.br b t e).sel = t.sel := by rw [h]; rfl
theorem nb_f {b : Bool} {t e : NT} (h : b = false) : (NT.br b t e).sel = e.sel := by rw [h]; rfl
theorem c46 (g : Bool) : ∀ al css os p v, sp46 g al css = some (p, v) → p → Blks css os → (∀ cs ∈ css, cs.all Ex.flat = true) ∧ v.Ok Tryz.prog 46 al deads os (gl + css.length) := by
  intro al css os p v hs hp hb
  unfold sp46 at hs
  split at hs
  case h_2 => cases hs
  rename_i n c m c2 cs ps
  obtain ⟨t, s, ex, t2, s2, e2, rfl⟩ := blks2 hb
  cases g with
  | true =>
    cases hs
    obtain ⟨⟨p1, p2⟩, p3, p4⟩ := hp
    refine ⟨two_flat p1.1 p2.1, ?_⟩
    refine news_ok (C := ⟨T8, at_ [(46, 19)] .bool no_, off_, noL⟩) (n := 60) ts8 .none (x46 cs ps t s n c t2 s2 m c2 ex e2) (b := 7) ((congrArg NT.sel (v46 cs ps t s n c t2 s2 m c2 ex e2)).trans ?_) (show 6 ≤ 7 by decide) ⟨rwL_flat _ _, rfl⟩
    rw [asN_t (tru_iff.2 p1), asN_t (tru_iff.2 p2), asN_t (tru_iff.2 (okI3 _ _ _)), nb_f (ne_f (by rw [a3_eq]; exact p3)), asN_t (tru_iff.2 ⟨⟨p1, p2⟩, (csE_eq0 p3).2.2, p4⟩)]; rfl
  | false =>
    cases hs
    obtain ⟨⟨p1, p2⟩, p3⟩ := hp
    refine ⟨two_flat p1.1 p2.1, ?_⟩
    refine news_ok (C := ⟨T8, at_ [(46, 19)] .bool no_, off_, noL⟩) (n := 60) ts8 .none (x46 cs ps t s n c t2 s2 m c2 ex e2) (b := 1000000) ((congrArg NT.sel (v46 cs ps t s n c t2 s2 m c2 ex e2)).trans ?_) (show 6 ≤ 1000000 by decide) (show NRes.Fl (.old (tp [.slice none 0 0, i (csE cs ps n m)])) from rfl)
    rw [asN_t (tru_iff.2 p1), asN_t (tru_iff.2 p2), asN_t (tru_iff.2 (okI3 _ _ _)), nb_t (ne_t (by rw [a3_eq]; exact p3)), a3_eq]; rfl
end Go.Proofs.YtafpmehhdcmllaaGreatDoor.Ways
noncomputable section
namespace Go.Proofs.YtafpmehhdcmllaaGreatDoor.Ways
open Go Go.Ex Go.RowKit
/-! ### books, amounts -/
def sumW (f : Nat → Int) : Nat → Int
  | 0 => 0
  | j + 1 => wrapF .i64 (sumW f j + f j)
def amP (qe pe r : Int) : Int := if fst2 qe pe = 0 then r else 0
noncomputable def C9 : Cfg := ⟨T8, at_ [(45, 14)] .bool no_, off_, noL⟩
theorem p45 (a b c d e x y z : Int) : Pure Tryz.prog Hd 45 [ag [i a, i b, i c, i d, i e], ag [i x, i y, i z]] (tp [i (amP (qcE a b c d e) (pcE x y z) (rvP x y z a (enE c e))), i (fst2 (qcE a b c d e) (pcE x y z))]) := by
  refine pure_run (C := C9) (G := 4) 60 (aV (tru (okI [i (qcE a b c d e), i (pcE x y z)] 2 2)) (.br (!eqF (fst2 (qcE a b c d e) (pcE x y z)) 0) (.leaf (tp [i 0, i (fst2 (qcE a b c d e) (pcE x y z))])) (.leaf (tp [i (rvP x y z a (enE c e)), i 0])))) ts8 .none (by decide) hd_len rfl (by kernel_rfl) (by kernel_rfl) ?_
  rw [aP (okI2 _ _)]
  unfold amP
  by_cases h : fst2 (qcE a b c d e) (pcE x y z) = 0
  · rw [vb_f (ne_f h), if_pos h, h]; rfl
  · rw [vb_t (ne_t h), if_neg h]; rfl
def s45 : List Value → Option Value
  | [.agg ⟨[.int .i64 a, .int .i64 b, .int .i64 c, .int .i64 d, .int .i64 e]⟩, .agg ⟨[.int .i64 x, .int .i64 y, .int .i64 z]⟩] => some (tp [i (amP (qcE a b c d e) (pcE x y z) (rvP x y z a (enE c e))), i (fst2 (qcE a b c d e) (pcE x y z))])
  | _ => none
abbrev Q6 := Int × Int × Int × Int × Int × Int
noncomputable def B49 : Code := bodyL Tryz.f49 4
noncomputable def B54 : Code := bodyL Tryz.f54 3
noncomputable def spB : Nat → Nat → Split := at_ [(49, 20), (54, 10)] .bool no_
def syB : Nat → Nat → Bool := on_ [(49, 24), (49, 25), (49, 54), (49, 56), (54, 17), (54, 19), (54, 26), (54, 28), (54, 35), (54, 37), (54, 44), (54, 46), (54, 53), (54, 54), (54, 57), (54, 58)]
noncomputable def T9 (g : Bool) : Tb := ext T8 46 (newE (sp46 g) [] (heapL deads))
theorem ts9 (g : Bool) {G : Nat} : TSound Tryz.prog G (T9 g) := ts8.new (f' := 46) (c46 g)
noncomputable def CB : Cfg := ⟨T9 true, spB, syB, noL⟩
def isI (cs : List Value) (k : Nat) : Bool := isCellB (.i .i64) cs[k]?
def tot (q : Q6) : List Value := [i q.2.1, i q.2.2.1, i q.2.2.2.1, i q.2.2.2.2.1, i q.2.2.2.2.2]
section
variable (cs ps rs : List Value) (t s n c t2 s2 m c2 : Nat) (ex e2 : Bool)
def hp49 (q : Q6) : List (CO × Bool) := [(.dead, false), (.dead, false), (.dead, false), (.dead, false), (.cells cs t s ex, true), (.cells ps t2 s2 e2, true), (.cells [i 0, i 0, i 0, i 0, i 0] 86 1 true, true), (.cells rs 132 2 true, true), (.cells (tot q) 86 1 true, true)]
def S49 : Shape Q6 := ⟨62, fun q => ⟨[(0, sl 4 0 n c), (4, pt 6 0), (6, sl 7 0 n n), (7, i 0), (8, pt 8 0), (17, sl 7 0 n n), (18, i n), (19, i q.1)], hp49 cs ps rs t s t2 s2 ex e2 q⟩, fun _ q => (.exit 0, ⟨[(4, pt 6 0), (7, i 0), (8, pt 8 0)], hp49 cs ps rs t s t2 s2 ex e2 q⟩)⟩
def st49 (q : Q6) : SS Q6 := .br (ltF q.1 n) (askS (bnd_ q.1 n c) <| askS (cR k5 5 cs q.1) <| askS (bnd_ q.1 n n) <| askS (isI rs (0 + q.1.toNat * 2 + 1)) <|
  .next 10 [0, 1, 2, 3, 4, 5, 6, 7, 8] (wrapF .i64 (q.1 + 1), wrapF .i64 (q.2.1 + ce 5 0 cs q.1.toNat), wrapF .i64 (q.2.2.1 + ce 5 4 cs q.1.toNat), wrapF .i64 (q.2.2.2.1 + ce 5 2 cs q.1.toNat), wrapF .i64 (q.2.2.2.2.1 + ce 5 3 cs q.1.toNat), wrapF .i64 (q.2.2.2.2.2 + ce 2 1 rs q.1.toNat))) (.done 9 [0, 1, 2, 3, 4, 5, 6, 7, 8] 0)
def hp54 (q : Q6) : List (CO × Bool) := [(.dead, false), (.dead, false), (.dead, false), (.dead, false), (.cells cs t s ex, true), (.cells ps t2 s2 e2, true), (.cells [i 0, i 0, i 0, i 0, i 0] 92 1 true, true), (.cells (tot q) 92 1 true, true)]
def S54 : Shape Q6 := ⟨63, fun q => ⟨[(0, sl 4 0 n c), (1, sl 5 0 m c2), (4, pt 6 0), (5, pt 7 0), (6, i q.1)], hp54 cs ps t s t2 s2 ex e2 q⟩, fun _ q => (.exit 0, ⟨[(4, pt 6 0), (5, pt 7 0)], hp54 cs ps t s t2 s2 ex e2 q⟩)⟩
def st54 (q : Q6) : SS Q6 := .br (ltF q.1 n) (askS (bnd_ q.1 n c) <| askS (isI cs (0 + q.1.toNat * 5 + 0)) <| askS (bnd_ q.1 n c) <| askS (isI cs (0 + q.1.toNat * 5 + 4)) <| askS (bnd_ q.1 n c) <| askS (isI cs (0 + q.1.toNat * 5 + 2)) <| askS (bnd_ q.1 n c) <| askS (isI cs (0 + q.1.toNat * 5 + 3)) <| askS (bnd_ q.1 n c) <| askS (cR k5 5 cs q.1) <| askS (bnd_ q.1 m c2) <| askS (cR k3 3 ps q.1) <|
  .next 8 [0, 1, 2, 3, 4, 5, 6, 7] (wrapF .i64 (q.1 + 1), wrapF .i64 (q.2.1 + ce 5 0 cs q.1.toNat), wrapF .i64 (q.2.2.1 + ce 5 4 cs q.1.toNat), wrapF .i64 (q.2.2.2.1 + ce 5 2 cs q.1.toNat), wrapF .i64 (q.2.2.2.2.1 + ce 5 3 cs q.1.toNat), wrapF .i64 (q.2.2.2.2.2 + qR cs ps q.1.toNat))) (.done 8 [0, 1, 2, 3, 4, 5, 6, 7] 0)
def bkS (g : Nat → Int) (j : Nat) : Q6 := ((j : Int), sumW (ce 5 0 cs) j, sumW (ce 5 4 cs) j, sumW (ce 5 2 cs) j, sumW (ce 5 3 cs) j, sumW g j)
end
section
variable {cs ps rs : List Value} {t s n c t2 s2 m c2 : Nat} {ex e2 : Bool}
theorem hp49_flat {q : Q6} (h : cs.all Ex.flat = true) (h2 : ps.all Ex.flat = true) (h3 : rs.all Ex.flat = true) : ∀ o, (o, true) ∈ hp49 cs ps rs t s t2 s2 ex e2 q → FlatO o := by
  intro o ho
  simp [hp49] at ho
  rcases ho with rfl | rfl | rfl | rfl | rfl
  · exact fun x hx => List.all_eq_true.1 h x hx
  · exact fun x hx => List.all_eq_true.1 h2 x hx
  · exact fun x hx => List.all_eq_true.1 (by rfl) x hx
  · exact fun x hx => List.all_eq_true.1 h3 x hx
  · exact fun x hx => List.all_eq_true.1 (by rfl) x hx
theorem hp54_flat {q : Q6} (h : cs.all Ex.flat = true) (h2 : ps.all Ex.flat = true) : ∀ o, (o, true) ∈ hp54 cs ps t s t2 s2 ex e2 q → FlatO o := by
  intro o ho
  simp [hp54] at ho
  rcases ho with rfl | rfl | rfl | rfl
  · exact fun x hx => List.all_eq_true.1 h x hx
  · exact fun x hx => List.all_eq_true.1 h2 x hx
  · exact fun x hx => List.all_eq_true.1 (by rfl) x hx
  · exact fun x hx => List.all_eq_true.1 (by rfl) x hx
theorem L49 (h : cs.all Ex.flat = true) (h2 : ps.all Ex.flat = true) (h3 : rs.all Ex.flat = true) : Loop1 Tryz.prog 6 49 B49 (S49 cs ps rs t s n c t2 s2 ex e2) 9 (st49 cs rs n c) (fun _ => True) :=
  .mk' (C := fun _ => CB) (n := 60) (fun _ _ => ts9 true) (fun _ _ => .none) (fun s ro _ => by kernel_rfl) (fun s ro _ => by kernel_rfl) (fun s => by kernel_rfl) (fun _ _ _ _ => trivial) (fun _ _ => hp49_flat h h2 h3)
    (fun s j _ _ => ⟨hp49_flat h h2 h3, fun h => by cases h⟩)
theorem L54 (h : cs.all Ex.flat = true) (h2 : ps.all Ex.flat = true) : Loop1 Tryz.prog 6 54 B54 (S54 cs ps t s n c t2 s2 m c2 ex e2) 8 (st54 cs ps n c m c2) (fun _ => True) :=
  .mk' (C := fun _ => CB) (n := 60) (fun _ _ => ts9 true) (fun _ _ => .none) (fun s ro _ => by kernel_rfl) (fun s ro _ => by kernel_rfl) (fun s => by kernel_rfl) (fun _ _ _ _ => trivial) (fun _ _ => hp54_flat h h2)
    (fun s j _ _ => ⟨hp54_flat h h2, fun h => by cases h⟩)
theorem run49 (h : okR k5 5 cs n c) (hr : okR k2 2 rs n n) : runS (st49 cs rs n c) (n + 1) (bkS cs (ce 2 1 rs) 0) = some (0, bkS cs (ce 2 1 rs) n) := by
  have hc := h.2.1
  have hl := h.2.2.1
  refine run_all (step := st49 cs rs n c) (st := bkS cs (ce 2 1 rs)) n (fun j hj => ?_) ?_
  · have hI : isI rs (0 + j * 2 + 1) = true := by
      have := hr.2.2.2 j hj
      unfold k2 areCells areCells areCells at this
      simp only [Bool.and_eq_true, Bool.and_true] at this
      exact this.2
    unfold st49 bkS
    dsimp only
    rw [br_t (by rw [ltF_eq]; simpa using hj), askS_sel (bnd_t hj hc), askS_sel (cR_t h hj), askS_sel (bnd_t hj (Nat.le_refl n)), show ((j : Nat) : Int).toNat = j from rfl, askS_sel hI, wsucc (by omega)]; rfl
  · unfold st49 bkS
    dsimp only
    rw [br_f (by rw [ltF_eq]; simp)]; rfl
theorem run54 (h : okR k5 5 cs n c) (h2 : okR k3 3 ps m c2) (hnm : n = m) : runS (st54 cs ps n c m c2) (n + 1) (bkS cs (qR cs ps) 0) = some (0, bkS cs (qR cs ps) n) := by
  have hc := h.2.1
  have hl := h.2.2.1
  have hc2 := h2.2.1
  refine run_all (step := st54 cs ps n c m c2) (st := bkS cs (qR cs ps)) n (fun j hj => ?_) ?_
  · obtain ⟨i0, i1, i2, i3, i4⟩ : isI cs (0 + j * 5 + 0) = true ∧ isI cs (0 + j * 5 + 1) = true ∧ isI cs (0 + j * 5 + 2) = true ∧ isI cs (0 + j * 5 + 3) = true ∧ isI cs (0 + j * 5 + 4) = true := by
      have := h.2.2.2 j hj
      unfold k5 areCells areCells areCells areCells areCells areCells at this
      simp only [Bool.and_eq_true, Bool.and_true] at this
      exact this
    unfold st54 bkS
    dsimp only
    rw [br_t (by rw [ltF_eq]; simpa using hj), askS_sel (bnd_t hj hc), show ((j : Nat) : Int).toNat = j from rfl, askS_sel i0, askS_sel (bnd_t hj hc), askS_sel i4, askS_sel (bnd_t hj hc), askS_sel i2, askS_sel (bnd_t hj hc), askS_sel i3, askS_sel (bnd_t hj hc), askS_sel (cR_t h hj), askS_sel (bnd_t (by omega) hc2), askS_sel (cR_t h2 (by omega)), wsucc (by omega)]; rfl
  · unfold st54 bkS
    dsimp only
    rw [br_f (by rw [ltF_eq]; simp)]; rfl
end
def agT (q : Q6) : Value := ag (tot q)
section
variable (cs ps rs : List Value) (t s n c t2 s2 m c2 : Nat) (ex e2 : Bool)
noncomputable def K49 (r : Nat × Q6) : Cfg := ⟨T9 true, no_, off_, loopE noL 49 4 62 9 B49 ((S49 cs ps rs t s n c t2 s2 ex e2).st (bkS cs (ce 2 1 rs) 0)).live ((S49 cs ps rs t s n c t2 s2 ex e2).st (bkS cs (ce 2 1 rs) 0)).hp (finO (S49 cs ps rs t s n c t2 s2 ex e2) r [0])⟩
noncomputable def o49 (q : Q6) : Out QRes := execO Tryz.prog 6 (K49 cs ps (rwL (fP cs ps) n) t s n c t2 s2 ex e2 (0, q)) 60 (.call 49 ⟨[sl 4 0 n c, sl 5 0 m c2]⟩ (heapL (deads ++ [.cells cs t s ex, .cells ps t2 s2 e2])))
theorem v49 (q : Q6) : (o49 cs ps t s n c t2 s2 m c2 ex e2 q).vals = aV (tru (GoE cs ps n c m c2)) (aV true (.leaf (tp [agT q, i 0]))) := by kernel_rfl
theorem x49 (q : Q6) : o49 cs ps t s n c t2 s2 m c2 ex e2 q = (o49 cs ps t s n c t2 s2 m c2 ex e2 q).fix := by kernel_rfl
noncomputable def o49n : Out QRes := execO Tryz.prog 6 ⟨T9 false, no_, off_, noL⟩ 60 (.call 49 ⟨[sl 4 0 n c, sl 5 0 m c2]⟩ (heapL (deads ++ [.cells cs t s ex, .cells ps t2 s2 e2])))
theorem v49n : (o49n cs ps t s n c t2 s2 m c2 ex e2).vals = aV (tru (NoE cs ps n c m c2)) (.leaf (tp [ag [i 0, i 0, i 0, i 0, i 0], i (csE cs ps n m)])) := by kernel_rfl
theorem x49n : o49n cs ps t s n c t2 s2 m c2 ex e2 = (o49n cs ps t s n c t2 s2 m c2 ex e2).fix := by kernel_rfl
noncomputable def K54 (r : Nat × Q6) : Cfg := ⟨T9 true, no_, off_, loopE noL 54 3 63 8 B54 ((S54 cs ps t s n c t2 s2 m c2 ex e2).st (bkS cs (qR cs ps) 0)).live ((S54 cs ps t s n c t2 s2 m c2 ex e2).st (bkS cs (qR cs ps) 0)).hp (finO (S54 cs ps t s n c t2 s2 m c2 ex e2) r [0])⟩
noncomputable def o54 (q : Q6) : Out QRes := execO Tryz.prog 6 (K54 cs ps t s n c t2 s2 m c2 ex e2 (0, q)) 60 (.call 54 ⟨[sl 4 0 n c, sl 5 0 m c2]⟩ (heapL (deads ++ [.cells cs t s ex, .cells ps t2 s2 e2])))
theorem v54 (q : Q6) : (o54 cs ps t s n c t2 s2 m c2 ex e2 q).vals = aV true (.leaf (agT q)) := by kernel_rfl
theorem x54 (q : Q6) : o54 cs ps t s n c t2 s2 m c2 ex e2 q = (o54 cs ps t s n c t2 s2 m c2 ex e2 q).fix := by kernel_rfl
end
def sp49 (g : Bool) : ESpec := fun al css => match al, css with
  | [.slice (some ⟨4, 0, none⟩) n c, .slice (some ⟨5, 0, none⟩) m c2], [cs, ps] => cond g (some (GoE cs ps n c m c2, tp [agT (bkS cs (ce 2 1 (rwL (fP cs ps) n)) n), i 0])) (some (NoE cs ps n c m c2, tp [ag [i 0, i 0, i 0, i 0, i 0], i (csE cs ps n m)]))
  | _, _ => none
theorem c49 (g : Bool) : ∀ al css os p v, sp49 g al css = some (p, v) → p → Blks css os → (∀ cs ∈ css, cs.all Ex.flat = true) ∧ clean 6 v = true ∧ ∃ H', Sound Tryz.prog (gl + css.length) (.call 49 ⟨al⟩ (heapL (deads ++ os))) (.val v H') := by
  intro al css os p v hs hp hb
  unfold sp49 at hs
  split at hs
  case h_2 => cases hs
  rename_i n c m c2 cs ps
  obtain ⟨t, s, ex, t2, s2, e2, rfl⟩ := blks2 hb
  cases g with
  | true =>
    cases hs
    have hgo := hp
    obtain ⟨⟨p1, p2⟩, p3, p4⟩ := hp
    refine ⟨two_flat p1.1 p2.1, rfl, ?_⟩
    have hL := (L49 (cs := cs) (ps := ps) (rs := rwL (fP cs ps) n) (t := t) (s := s) (n := n) (c := c) (t2 := t2) (s2 := s2) (ex := ex) (e2 := e2) p1.1 p2.1 (rwL_flat _ _)).table (id := 4) .none (by decide) trivial (run49 p1 (rwL_ok _ _ p4)) (by kernel_rfl) [0]
    obtain ⟨H', h'⟩ := Out.vals_sel (x49 cs ps t s n c t2 s2 m c2 ex e2 (bkS cs (ce 2 1 (rwL (fP cs ps) n)) n)) (v := tp [agT (bkS cs (ce 2 1 (rwL (fP cs ps) n)) n), i 0]) (by rw [v49, aP hgo, aV_sel rfl]; rfl)
    exact ⟨H', execO_sound (C := K49 cs ps (rwL (fP cs ps) n) t s n c t2 s2 ex e2 (0, bkS cs (ce 2 1 (rwL (fP cs ps) n)) n)) (ts9 true) hL 60 _ _ h'⟩
  | false =>
    cases hs
    have hno := hp
    obtain ⟨⟨p1, p2⟩, p3⟩ := hp
    refine ⟨two_flat p1.1 p2.1, rfl, ?_⟩
    obtain ⟨H', h'⟩ := Out.vals_sel (x49n cs ps t s n c t2 s2 m c2 ex e2) (v := tp [ag [i 0, i 0, i 0, i 0, i 0], i (csE cs ps n m)]) (by rw [v49n, aP hno]; rfl)
    exact ⟨H', execO_sound (C := ⟨T9 false, no_, off_, noL⟩) (ts9 false) .none 60 _ _ h'⟩
def sp54 : ESpec := fun al css => match al, css with
  | [.slice (some ⟨4, 0, none⟩) n c, .slice (some ⟨5, 0, none⟩) m c2], [cs, ps] => some (PdE cs ps n c m c2, agT (bkS cs (qR cs ps) n))
  | _, _ => none
theorem c54 : ∀ al css os p v, sp54 al css = some (p, v) → p → Blks css os → (∀ cs ∈ css, cs.all Ex.flat = true) ∧ clean 6 v = true ∧ ∃ H', Sound Tryz.prog (gl + css.length) (.call 54 ⟨al⟩ (heapL (deads ++ os))) (.val v H') := by
  intro al css os p v hs hp hb
  unfold sp54 at hs
  split at hs
  case h_2 => cases hs
  rename_i n c m c2 cs ps
  cases hs
  obtain ⟨t, s, ex, t2, s2, e2, rfl⟩ := blks2 hb
  obtain ⟨⟨p1, p2⟩, p3, p4⟩ := hp
  refine ⟨two_flat p1.1 p2.1, rfl, ?_⟩
  have hL := (L54 (cs := cs) (ps := ps) (t := t) (s := s) (n := n) (c := c) (t2 := t2) (s2 := s2) (m := m) (c2 := c2) (ex := ex) (e2 := e2) p1.1 p2.1).table (id := 3) .none (by decide) trivial (run54 p1 p2 p3) (by kernel_rfl) [0]
  obtain ⟨H', h'⟩ := Out.vals_sel (x54 cs ps t s n c t2 s2 m c2 ex e2 (bkS cs (qR cs ps) n)) (v := agT (bkS cs (qR cs ps) n)) (by rw [v54, aV_sel rfl]; rfl)
  exact ⟨H', execO_sound (C := K54 cs ps t s n c t2 s2 m c2 ex e2 (0, bkS cs (qR cs ps) n)) (ts9 true) hL 60 _ _ h'⟩
end Go.Proofs.YtafpmehhdcmllaaGreatDoor.Ways
