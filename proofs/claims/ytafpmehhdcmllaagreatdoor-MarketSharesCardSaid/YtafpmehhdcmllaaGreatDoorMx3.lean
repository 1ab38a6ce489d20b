import Derived.Test.YtafpmehhdcmllaaGreatDoorMx2
set_option maxRecDepth 10000
noncomputable section
namespace Go.Proofs.YtafpmehhdcmllaaGreatDoor.Ways
open Go Go.Ex Go.RowKit Go.Ex.Srt
/-! ### MarketShares: the law's table -/
noncomputable def TW (k : Nat) : Tb := ext (ext (ext (ext (ext Td 41 (newE (spI 3) [] (heapL deads))) 40 (newE (sp40 k) [] (heapL deads))) 42 (autoE sp42 [] (heapL deads))) 72 (autoE spS [] (heapL deads))) 16 (pureE s16 [1, 2, 3] Ha)
theorem tsW (k : Nat) {G : Nat} : TSound Tryz.prog G (TW k) := by
  refine TSound.pure ha_vars ((((tsd.new (f' := 41) c41).new (f' := 40) (c40 k)).auto c42).auto c72) fun args v h => ?_
  unfold s16 at h
  split at h
  · cases h; exact p16
  · cases h
noncomputable def spW : Nat → Nat → Split := at_ [(11, 19), (11, 23), (11, 28), (11, 72), (11, 79), (11, 88), (11, 95)] .bool no_
section
variable (cs C D : List Value) (n : Nat) (lim : Int) (t s : Nat) (ex xc : Bool)
noncomputable def LVl (all : Int) : LTab :=
  loopE (loopE noL 11 6 223 7 BsA ((SvA cs C n lim t s ex xc).st .z).live ((SvA cs C n lim t s ex xc).st .z).hp (finO (SvA cs C n lim t s ex xc) (0, PS.m (n : Int) n (rvL cs n)) [0]))
    11 17 223 9 BsO ((SvO cs C (rvL cs n) D n lim all t s ex xc).st 0).live ((SvO cs C (rvL cs n) D n lim all t s ex xc).st 0).hp (finO (SvO cs C (rvL cs n) D n lim all t s ex xc) (0, (n : Int)) [0])
noncomputable def CW (k : Nat) : Cfg := ⟨TW k, spW, off_, LVl cs C D n lim t s ex xc (sumW (eI cs) n)⟩
noncomputable def o11 (k : Nat) : Out QRes := execO Tryz.prog 5 (CW cs C D n lim t s ex xc k) 80 (.call 11 ⟨[sl 4 0 n n, i lim]⟩ (heapL (hA ++ [.cells cs t s ex])))
/-- no energies: all is run -/
noncomputable def TWz : Tb := ext (ext (ext (ext (ext Td 107 (autoE sp107 [] (heapL deads))) 119 (autoE spS [] (heapL deads))) 72 (autoE spS [] (heapL deads))) 42 (autoE sp42 [] (heapL deads))) 16 (pureE s16 [1, 2, 3] Ha)
theorem tsWz {G : Nat} : TSound Tryz.prog G TWz := by
  refine TSound.pure ha_vars ((((tsd.auto c107).auto c119).auto c72).auto c42) fun args v h => ?_
  unfold s16 at h
  split at h
  · cases h; exact p16
  · cases h
noncomputable def CWz : Cfg := ⟨TWz, at_ [(11, 23), (11, 28), (40, 17), (109, 13), (11, 88), (11, 95)] .bool (at_ [(109, 17), (40, 18)] (.ints []) no_), off_, noL⟩
noncomputable def o11z : Out QRes := execO Tryz.prog 5 CWz 80 (.call 11 ⟨[sl 4 0 0 0, i lim]⟩ (heapL (hA ++ [.cells [] t s ex])))
end
end Go.Proofs.YtafpmehhdcmllaaGreatDoor.Ways
set_option maxRecDepth 10000
noncomputable section
namespace Go.Proofs.YtafpmehhdcmllaaGreatDoor.Ways
open Go Go.Ex Go.RowKit Go.Ex.Srt
/-! ### MarketShares: the law's trees come out true -/
def mn2 (a b : Int) : Int := if b < a then b else a
section
variable (cs : List Value) (n : Nat) (lim : Int) (t s : Nat) (ex : Bool)
noncomputable def endW (C D : List Value) : VT := .br (!eqF n n) lf1 <| .br (!eqF n n) lf1 <| aV (tru (okI cs n n)) <| aV (tru (okI C n n)) <| .br (!eqF (sumW (eI C) n) (mn2 (sumW (eI cs) n) lim)) lf1 <| aV (tru (okI D n n)) <| .br (!eqF (sumW (eI D) n) (mn2 (sumW (eI cs) n) lim)) lf1 <| aV true lt1
noncomputable def mainW (g : Bool) : VT := aV (tru (CiE cs n n)) <| aV (tru (CuE g cs n n lim)) <| aV true <| aV (tru (CuE g (rvL cs n) n n lim)) <| endW cs n lim (cu1 cs n lim g) (cu1 (rvL cs n) n lim g)
noncomputable def lawW (M : VT) : VT := .br (ltF 10 n) lt1 (aV (tru (okI cs n n)) (.br (!eqF (cE cs n) 0) lt1 (.br (!eqF (lE lim) 0) lt1 M)))
theorem w11t : (o11 cs cs (rvL cs n) n lim t s ex false 1).vals = lawW cs n lim (mainW cs n lim true) := by kernel_rfl
theorem y11t : o11 cs cs (rvL cs n) n lim t s ex false 1 = (o11 cs cs (rvL cs n) n lim t s ex false 1).fix := by kernel_rfl
theorem w11f : (o11 cs (nmL (resF cs n lim) n) (nmL (resF (rvL cs n) n lim) n) n lim t s ex true 2).vals = lawW cs n lim (mainW cs n lim false) := by kernel_rfl
theorem y11f : o11 cs (nmL (resF cs n lim) n) (nmL (resF (rvL cs n) n lim) n) n lim t s ex true 2 = (o11 cs (nmL (resF cs n lim) n) (nmL (resF (rvL cs n) n lim) n) n lim t s ex true 2).fix := by kernel_rfl
/-- no valid arguments: the law ends before its first loop -/
noncomputable def CWn : Cfg := ⟨TW 1, at_ [(11, 19), (11, 23), (11, 28)] .bool (at_ [(11, 32)] (.ints []) no_), off_, noL⟩
noncomputable def o11n : Out QRes := execO Tryz.prog 5 CWn 80 (.call 11 ⟨[sl 4 0 n n, i lim]⟩ (heapL (hA ++ [.cells cs t s ex])))
theorem u11 : (o11n cs n lim t s ex).vals = lawW cs n lim .fail := by kernel_rfl
theorem z11 : o11n cs n lim t s ex = (o11n cs n lim t s ex).fix := by kernel_rfl
noncomputable def mZ2 (t : VT) : VT := .br (!eqF 0 (mn2 0 lim)) lf1 t
noncomputable def mainZ : VT := aV (tru (okI [] 0 0)) <| aV (tru (okI [i (mnE 0 64), i (firstF (eE []) 0 0), i (toE lim)] 3 3)) <| .br (!eqF (b3 [] 0 lim) 0) .fail <| aV (tru (okI [] 0 0)) <| .br (leF 0 lim) (aV (tru (okI [i (mnE 0 64), i 0, i (toE lim)] 3 3)) <| .br (!eqF (b3 [] 0 lim) 0) .fail <|
  .br (leF 0 lim) (aV (tru (okI [] 0 0)) <| aV (tru (okI [] 0 0)) <| mZ2 lim <| mZ2 lim lt1) .fail) .fail
noncomputable def lawZ : VT := aV (tru (okI [] 0 0)) (.br (!eqF (cE [] 0) 0) lt1 (.br (!eqF (lE lim) 0) lt1 (mainZ lim)))
theorem w11z : (o11z lim t s ex).vals = lawZ lim := by kernel_rfl
theorem y11z : o11z lim t s ex = (o11z lim t s ex).fix := by kernel_rfl
end
section
variable {cs : List Value} {n : Nat} {lim : Int} {t s : Nat} {ex : Bool}
theorem z_f {x y : Int} (h : x = y) : (!eqF x y) = false := by rw [eqF_d, decide_eq_true h]; rfl
theorem cu_sum {g : Bool} {c : Nat} (h : CuE g cs n c lim) : sumW (eI (cu1 cs n lim g)) n = mn2 (sumW (eI cs) n) lim := by
  unfold mn2
  cases g with
  | true =>
    have h2 : sumW (eI cs) n ≤ lim := h.2
    rw [if_neg (by omega)]; rfl
  | false =>
    have h2 : lim < sumW (eI cs) n := h.2
    rw [if_pos h2]
    exact res_sum h.1 h2
theorem cu_ok {g : Bool} {c : Nat} (h : CuE g cs n c lim) (ho : okI cs n n) : okI (cu1 cs n lim g) n n := by
  cases g with
  | true => exact ho
  | false => exact nmL_ok _ h.1.1.2.2.1
theorem mainW_sel {g : Bool} (h : CuE g cs n n lim) : (mainW cs n lim g).sel = some (b_ true) := by
  have hr := rev_cu h
  have hc := h.1.1
  have hs : mn2 (sumW (eI (rvL cs n)) n) lim = mn2 (sumW (eI cs) n) lim := by rw [(rev_va h.1).2]
  unfold mainW endW
  rw [aP hc, aP h, aV_sel rfl, aP hr, vb_f (z_f rfl), vb_f (z_f rfl), aP hc.1, aP (cu_ok h hc.1), vb_f (z_f (cu_sum h)), aP (cu_ok hr hr.1.1.1), vb_f (z_f ((cu_sum hr).trans hs)), aV_sel rfl]; rfl
theorem c_l (_hn : n ≤ 10) : bdE cs n lim = 0 ↔ cE cs n = 0 ∧ lE lim = 0 := by
  have h : bdE cs n lim = fst2 (cE cs n) (lE lim) := rfl
  rw [h, fst2']
  by_cases h1 : cE cs n = 0
  · rw [if_neg (by simpa using h1)]; simp [h1]
  · rw [if_pos h1]; simp [h1]
theorem lawW_sel {M : VT} (ho : n ≤ 10 → okI cs n n) (h : n ≤ 10 → b3 cs n lim = 0 → M.sel = some (b_ true)) : (lawW cs n lim M).sel = some (b_ true) := by
  unfold lawW
  by_cases h1 : 10 < n
  · rw [vb_t (by rw [ltF_eq]; exact decide_eq_true (by omega))]; rfl
  · have hn : n ≤ 10 := by omega
    rw [vb_f (by rw [ltF_eq]; exact decide_eq_false (by omega)), aP (ho hn)]
    by_cases h2 : cE cs n = 0
    · rw [vb_f (ne_f h2)]
      by_cases h3 : lE lim = 0
      · rw [vb_f (ne_f h3)]
        exact h hn (by rw [← bd_b3]; exact (c_l hn).2 ⟨h2, h3⟩)
      · rw [vb_t (ne_t h3)]; rfl
    · rw [vb_t (ne_t h2)]; rfl
theorem lawZ_sel : (lawZ lim).sel = some (b_ true) := by
  unfold lawZ
  rw [aP ok0, vb_f (ne_f (show cE [] 0 = 0 from rfl))]
  by_cases h3 : lE lim = 0
  · rw [vb_f (ne_f h3)]
    have hl := (rg_y (show rgE lim 0 6400000 = 0 from h3)).1
    have hb : b3 [] 0 lim = 0 := by rw [← bd_b3]; exact (c_l (by omega)).2 ⟨rfl, h3⟩
    have hm : mn2 0 lim = 0 := by
      unfold mn2
      rw [if_neg (by omega)]
    have hle : leF 0 lim = true := by rw [leF_eq]; exact decide_eq_true hl
    unfold mainZ mZ2
    rw [aP ok0, aP (okI3 _ _ _), vb_f (ne_f hb), aP ok0, vb_t hle, aP (okI3 _ _ _), vb_f (ne_f hb), vb_t hle, aP ok0, aP ok0, vb_f (z_f hm.symm), vb_f (z_f hm.symm)]; rfl
  · rw [vb_t (ne_t h3)]; rfl
/-- the loops are in the table -/
theorem lsV {g : Bool} {xc : Bool} (h : CuE g cs n n lim) : LSound Tryz.prog 5 (LVl cs (cu1 cs n lim g) (cu1 (rvL cs n) n lim g) n lim t s ex xc (sumW (eI cs) n)) := by
  have hn := h.1.1.2.2.1
  have h1 := h.1.1.2.1
  have ho := h.1.1.1
  have hC := (cu_ok h ho).1
  have hD := (cu_ok (rev_cu h) (rev_va h.1).1.1.1).1
  have hr := runV ho hn
  have hps : psV cs n n = PS.m (n : Int) n (rvL cs n) := by
    obtain ⟨k, rfl⟩ : ∃ k, n = k + 1 := ⟨n - 1, by omega⟩
    rfl
  rw [hps] at hr
  have a1 := (LvA (cs := cs) (C := cu1 cs n lim g) (n := n) (lim := lim) (t := t) (s := s) (ex := ex) (xc := xc) ho.1 hC).table (id := 6) (s0 := PS.z) .none (by decide) trivial hr (by kernel_rfl) [0]
  exact (LvO (cs := cs) (C := cu1 cs n lim g) (R := rvL cs n) (D := cu1 (rvL cs n) n lim g) (n := n) (lim := lim) (all := sumW (eI cs) n) (t := t) (s := s) (ex := ex) (xc := xc) ho.1 hC (nmL_flat _ _) hD).table (id := 17) (s0 := (0 : Int)) a1 (by decide) trivial (run2 (share_ok h) hn) (by kernel_rfl) [0]
theorem law11_true (h : rawI cs n) : ∃ H', Sound Tryz.prog 5 (.call 11 ⟨[sl 4 0 n n, i lim]⟩ (heapL (hA ++ [.cells cs t s ex]))) (.val (b_ true) H') := by
  by_cases h1 : n = 0
  · subst h1
    have hcs : cs = [] := List.length_eq_zero_iff.1 (by have := h.2.1; omega)
    subst hcs
    obtain ⟨H', h'⟩ := Out.vals_sel (y11z lim t s ex) (v := b_ true) (by rw [w11z]; exact lawZ_sel)
    exact ⟨H', execO_sound (C := CWz) tsWz .none 80 _ _ h'⟩
  · have hl := h.2.1
    by_cases hv : n ≤ 10 ∧ b3 cs n lim = 0
    · have hc : CiE cs n n := ⟨okI_of h (by omega), by omega, by omega, by omega⟩
      have hva := b3_va hc hv.1 hv.2
      by_cases hs : sumW (eI cs) n ≤ lim
      · have hcu : CuE true cs n n lim := ⟨hva, hs⟩
        obtain ⟨H', h'⟩ := Out.vals_sel (y11t cs n lim t s ex) (v := b_ true) (by
          rw [w11t]
          exact lawW_sel (fun _ => hc.1) fun _ _ => mainW_sel hcu)
        exact ⟨H', execO_sound (C := CW cs cs (rvL cs n) n lim t s ex false 1) (tsW 1) (lsV hcu) 80 _ _ h'⟩
      · have hcu : CuE false cs n n lim := ⟨hva, show lim < sumW (eI cs) n by omega⟩
        obtain ⟨H', h'⟩ := Out.vals_sel (y11f cs n lim t s ex) (v := b_ true) (by
          rw [w11f]
          exact lawW_sel (fun _ => hc.1) fun _ _ => mainW_sel hcu)
        exact ⟨H', execO_sound (C := CW cs (nmL (resF cs n lim) n) (nmL (resF (rvL cs n) n lim) n) n lim t s ex true 2) (tsW 2) (lsV hcu) 80 _ _ h'⟩
    · obtain ⟨H', h'⟩ := Out.vals_sel (z11 cs n lim t s ex) (v := b_ true) (by
        rw [u11]
        exact lawW_sel (fun hn => okI_of h (by omega)) fun hn hb => absurd ⟨hn, hb⟩ hv)
      exact ⟨H', execO_sound (C := CWn) (tsW 1) .none 80 _ _ h'⟩
end
end Go.Proofs.YtafpmehhdcmllaaGreatDoor.Ways
