import Derived.Test.YtafpmehhdcmllaaGreatDoorMc9
set_option maxRecDepth 10000
noncomputable section
namespace Go.Proofs.YtafpmehhdcmllaaGreatDoor.Ways
open Go Go.Ex Go.RowKit Go.Ex.Srt
/-! ### MarketShares: the law's loops -/
noncomputable def BsA : Code := bodyL Tryz.f11 6
noncomputable def BsO : Code := bodyL Tryz.f11 17
noncomputable def BsI : Code := bodyL Tryz.f11 22
noncomputable def hV : List (CO × Bool) := [(.dead, false), (.cells pow10 287 1 true, false), (.cells tab32 289 1 true, false), (.cells tab64 290 1 true, false)]
noncomputable def hpB (cs C : List Value) (t s : Nat) (ex xc : Bool) : List (CO × Bool) := hV ++ [(.cells cs t s ex, true), (.cells cs 3 1 false, true), (.cells C 3 1 xc, true)]
noncomputable def hpB2 (cs C out : List Value) (t s : Nat) (ex xc : Bool) : List (CO × Bool) := hV ++ [(.cells cs t s ex, true), (.cells cs 3 1 false, true), (.cells C 3 1 xc, true), (.cells out 3 1 false, true)]
noncomputable def hpB3 (cs C R D : List Value) (t s : Nat) (ex xc : Bool) : List (CO × Bool) := hV ++ [(.cells cs t s ex, true), (.cells cs 3 1 false, true), (.cells C 3 1 xc, true), (.cells R 3 1 false, true), (.cells D 3 1 xc, true)]
noncomputable def spV : Nat → Nat → Split := at_ [(11, 41), (11, 100), (11, 108), (11, 115), (11, 120), (11, 133), (11, 146), (11, 153), (11, 159), (11, 169), (11, 174), (11, 195), (11, 220)] .bool no_
def syV : Nat → Nat → Bool := on_ [(11, 50), (11, 51), (11, 102), (11, 103), (11, 106), (11, 107), (11, 112), (11, 113), (11, 124), (11, 125), (11, 137), (11, 138), (11, 155), (11, 156), (11, 163), (11, 164), (11, 167), (11, 168), (11, 178), (11, 179), (11, 182), (11, 183), (11, 187), (11, 188), (11, 191), (11, 192), (11, 205), (11, 206), (11, 209), (11, 210), (11, 216), (11, 217)]
def syVm : Nat → Nat → Bool := on_ [(11, 50), (11, 51), (11, 53), (11, 300053)]
noncomputable def CvA : PS → Cfg
  | .z => ⟨noT, spV, syV, noL⟩
  | .m _ _ _ => ⟨noT, spV, syVm, noL⟩
noncomputable def Cv : Cfg := ⟨noT, spV, syV, noL⟩
def ri (n : Nat) (j : Int) : Int := wrapF .i64 (wrapF .i64 ((n : Int) - 1) - j)
def r9 : List Nat := [0, 1, 2, 3, 4, 5, 6, 7, 8]
def mx2 (a b : Int) : Int := if a < b then b else a
section
variable (cs C R D : List Value) (n : Nat) (lim all : Int) (t s : Nat) (ex xc : Bool)
noncomputable def SvA : Shape PS := ⟨223, fun q => match q with
  | .z => ⟨[(0, sl 4 0 n n), (1, i lim), (5, sl 6 0 n n), (6, i 0), (7, .slice none 0 0), (39, i n), (40, i 0)], hpB cs C t s ex xc⟩
  | .m j l out => ⟨[(0, sl 4 0 n n), (1, i lim), (5, sl 6 0 n n), (6, i 0), (7, sl 7 0 l l), (39, i n), (40, i j)], hpB2 cs C out t s ex xc⟩,
  fun _ q => match q with
  | .z => (.exit 0, ⟨[(0, sl 4 0 n n), (1, i lim), (5, sl 6 0 n n), (6, i 0), (7, .slice none 0 0)], hpB cs C t s ex xc⟩)
  | .m _ l out => (.exit 0, ⟨[(0, sl 4 0 n n), (1, i lim), (5, sl 6 0 n n), (6, i 0), (7, sl 7 0 l l)], hpB2 cs C out t s ex xc⟩)⟩
def stV : PS → SS PS
  | .z => .br (ltF 0 n) (askS (bnd_ (ri n 0) n n) <| askS (cB cs (.i .i64) (ri n 0)) <| .next 9 [0, 1, 2, 3, 4, 5, 6, 8] (.m 1 1 [i (eI cs (ri n 0).toNat)])) (.done 7 [0, 1, 2, 3, 4, 5, 6] 0)
  | .m j l out => .br (ltF j n) (askS (bnd_ (ri n j) n n) <| askS (cB cs (.i .i64) (ri n j)) <| askS (fullW 1 l out) <| .next 10 [0, 1, 2, 3, 4, 5, 6, 9] (.m (wrapF .i64 (j + 1)) (l + 1) (out ++ [i (eI cs (ri n j).toNat)]))) (.done 8 [0, 1, 2, 3, 4, 5, 6, 7] 0)
/-- each other energy -/
noncomputable def SvI (ii x : Int) : Shape Int := ⟨223, fun k => ⟨[(0, sl 4 0 n n), (1, i lim), (5, sl 6 0 n n), (9, sl 8 0 n n), (11, i all), (12, i ii), (13, i x), (97, sl 4 0 n n), (98, i n), (99, i ii), (150, sl 4 0 n n), (151, i n), (152, i k)], hpB3 cs C R D t s ex xc⟩,
  fun j _ => match j with
  | 0 => (.exit 4, ⟨[(0, sl 4 0 n n), (1, i lim), (5, sl 6 0 n n), (9, sl 8 0 n n), (11, i all), (12, i ii), (13, i x), (97, sl 4 0 n n), (98, i n), (99, i ii)], hpB3 cs C R D t s ex xc⟩)
  | _ => (.ret, ⟨[(4, b_ false)], hpB3 cs C R D t s ex xc⟩)⟩
def rj (b : Bool) (t : SS Int) : SS Int := .br b (.done 9 r9 1) t
def nx3 (k : Int) : SS Int := .next 9 r9 (wrapF .i64 (k + 1))
def at3 (j : Int) (t : SS Int) : SS Int := askS (bnd_ j n n) <| askS (cB C (.i .i64) j) t
def df (a b : Int) : Int := mx2 (wrapF .i64 (a - b)) (wrapF .i64 (b - a))
def eq3_ (ii x k : Int) : SS Int := .br (eqF x (eI cs k.toNat)) (at3 C n ii <| at3 C n k <| at3 C n k <| at3 C n ii <| rj (ltF 1 (df (eI C ii.toNat) (eI C k.toNat))) (nx3 k)) (nx3 k)
def st3 (ii x k : Int) : SS Int := .br (ltF k n) (askS (bnd_ k n n) <| askS (cB cs (.i .i64) k) <| .br (ltF (eI cs k.toNat) x) (at3 C n ii <| at3 C n k <| rj (ltF (eI C ii.toNat) (eI C k.toNat)) (eq3_ cs C n ii x k)) (eq3_ cs C n ii x k)) (.done 9 r9 0)
noncomputable def KvO (ii : Int) : Cfg := ⟨noT, spV, syV, loopE noL 11 22 223 9 BsI ((SvI cs C R D n lim all t s ex xc ii (eI cs ii.toNat)).st 0).live ((SvI cs C R D n lim all t s ex xc ii (eI cs ii.toNat)).st 0).hp (.br (tru (endP (st3 cs C n ii (eI cs ii.toNat)) 0)) (finO (SvI cs C R D n lim all t s ex xc ii (eI cs ii.toNat)) (0, endE (st3 cs C n ii (eI cs ii.toNat)) 0) [0]) .fail)⟩
noncomputable def SvO : Shape Int := ⟨223, fun k => ⟨[(0, sl 4 0 n n), (1, i lim), (5, sl 6 0 n n), (9, sl 8 0 n n), (11, i all), (97, sl 4 0 n n), (98, i n), (99, i k)], hpB3 cs C R D t s ex xc⟩,
  fun j _ => match j with
  | 0 => (.exit 2, ⟨[], hpB3 cs C R D t s ex xc⟩)
  | _ => (.ret, ⟨[(4, b_ false)], hpB3 cs C R D t s ex xc⟩)⟩
noncomputable def tl2 (ii : Int) : SS Int := askS (tru (endP (st3 cs C n ii (eI cs ii.toNat)) 0)) <| askS true <| at3 D n (ri n ii) <| at3 C n ii <| at3 C n ii <| rj (ltF 1 (df (eI C ii.toNat) (eI D (ri n ii).toNat))) (nx3 ii)
def lo2 (ii : Int) : Bool := leF (wrapF .i64 (eI C ii.toNat * all)) (wrapF .i64 (wrapF .i64 (eI cs ii.toNat * lim) - all))
def hi2 (ii : Int) : Bool := leF (wrapF .i64 (wrapF .i64 (eI cs ii.toNat * lim) + all)) (wrapF .i64 (eI C ii.toNat * all))
noncomputable def st2 (ii : Int) : SS Int := .br (ltF ii n) (askS (bnd_ ii n n) <| askS (cB cs (.i .i64) ii) <| at3 C n ii <| rj (ltF (eI C ii.toNat) 0) <| at3 C n ii <| rj (ltF (eI cs ii.toNat) (eI C ii.toNat)) <|
  .br (ltF lim all) (at3 C n ii <| rj (lo2 cs C lim all ii) <| at3 C n ii <| rj (hi2 cs C lim all ii) <| tl2 cs C D n ii) (tl2 cs C D n ii)) (.done 9 r9 0)
end
theorem hV_t : ∀ o, (o, true) ∈ hV → False := by
  intro o ho
  simp [hV] at ho
section
variable {cs C R D : List Value} {n : Nat} {lim all : Int} {t s : Nat} {ex xc : Bool}
theorem hpB_fl (h1 : cs.all Ex.flat = true) (h2 : C.all Ex.flat = true) : ∀ o, (o, true) ∈ hpB cs C t s ex xc → FlatO o := by
  intro o ho
  rcases List.mem_append.1 ho with ho | ho
  · exact (hV_t o ho).elim
  · simp at ho
    rcases ho with rfl | rfl | rfl
    · exact fun x hx => List.all_eq_true.1 h1 x hx
    · exact fun x hx => List.all_eq_true.1 h1 x hx
    · exact fun x hx => List.all_eq_true.1 h2 x hx
theorem hpB2_fl {out : List Value} (h1 : cs.all Ex.flat = true) (h2 : C.all Ex.flat = true) (h3 : out.all Ex.flat = true) : ∀ o, (o, true) ∈ hpB2 cs C out t s ex xc → FlatO o := by
  intro o ho
  rcases List.mem_append.1 ho with ho | ho
  · exact (hV_t o ho).elim
  · simp at ho
    rcases ho with rfl | rfl | rfl | rfl
    · exact fun x hx => List.all_eq_true.1 h1 x hx
    · exact fun x hx => List.all_eq_true.1 h1 x hx
    · exact fun x hx => List.all_eq_true.1 h2 x hx
    · exact fun x hx => List.all_eq_true.1 h3 x hx
theorem hpB3_fl (h1 : cs.all Ex.flat = true) (h2 : C.all Ex.flat = true) (h3 : R.all Ex.flat = true) (h4 : D.all Ex.flat = true) : ∀ o, (o, true) ∈ hpB3 cs C R D t s ex xc → FlatO o := by
  intro o ho
  rcases List.mem_append.1 ho with ho | ho
  · exact (hV_t o ho).elim
  · simp at ho
    rcases ho with rfl | rfl | rfl | rfl | rfl
    · exact fun x hx => List.all_eq_true.1 h1 x hx
    · exact fun x hx => List.all_eq_true.1 h1 x hx
    · exact fun x hx => List.all_eq_true.1 h2 x hx
    · exact fun x hx => List.all_eq_true.1 h3 x hx
    · exact fun x hx => List.all_eq_true.1 h4 x hx
theorem LvA (h1 : cs.all Ex.flat = true) (h2 : C.all Ex.flat = true) : Loop1 Tryz.prog 5 11 BsA (SvA cs C n lim t s ex xc) 7 (stV cs n) GdP :=
  .mk' (C := CvA) (n := 60) (fun q _ => by cases q <;> exact .none) (fun q _ => by cases q <;> exact .none) (fun q ro _ => by cases q <;> kernel_rfl) (fun q ro _ => by cases q <;> kernel_rfl) (fun q => by cases q <;> kernel_rfl)
    (fun q q' hg h => by
      cases q with
      | z =>
        rcases br_or' h with h | h
        · have h := ask_or' (ask_or' h); cases h; rfl
        · cases h
      | m j l out =>
        rcases br_or' h with h | h
        · have h := ask_or' (ask_or' (ask_or' h)); cases h; exact app_flat hg rfl
        · cases h)
    (fun q hq => by cases q with
      | z => exact hpB_fl h1 h2
      | m j l out => exact hpB2_fl h1 h2 hq)
    (fun q j hq _ => by cases q with
      | z => exact ⟨hpB_fl h1 h2, fun h => by cases h⟩
      | m j l out => exact ⟨hpB2_fl h1 h2 hq, fun h => by cases h⟩)
theorem LvI (ii x : Int) (h1 : cs.all Ex.flat = true) (h2 : C.all Ex.flat = true) (h3 : R.all Ex.flat = true) (h4 : D.all Ex.flat = true) : Loop1 Tryz.prog 5 11 BsI (SvI cs C R D n lim all t s ex xc ii x) 9 (st3 cs C n ii x) (fun _ => True) :=
  .mk' (C := fun _ => Cv) (n := 60) (fun _ _ => .none) (fun _ _ => .none) (fun s ro _ => by kernel_rfl) (fun s ro _ => by kernel_rfl) (fun s => by kernel_rfl) (fun _ _ _ _ => trivial) (fun _ _ => hpB3_fl h1 h2 h3 h4)
    (fun s j _ _ => by cases j <;> exact ⟨hpB3_fl h1 h2 h3 h4, fun h => by cases h⟩)
theorem LvO (h1 : cs.all Ex.flat = true) (h2 : C.all Ex.flat = true) (h3 : R.all Ex.flat = true) (h4 : D.all Ex.flat = true) : Loop1 Tryz.prog 5 11 BsO (SvO cs C R D n lim all t s ex xc) 9 (st2 cs C D n lim all) (fun _ => True) :=
  .mk' (C := KvO cs C R D n lim all t s ex xc) (n := 60) (fun _ _ => .none) (fun ii _ => (LvI (n := n) (lim := lim) (all := all) (t := t) (s := s) (ex := ex) (xc := xc) ii (eI cs ii.toNat) h1 h2 h3 h4).tableIf (id := 22) (s0 := (0 : Int)) .none (by decide) trivial (fun hp => endE_run (tru_iff.1 hp)) (by kernel_rfl) [0]) (fun s ro _ => by kernel_rfl) (fun s ro _ => by kernel_rfl) (fun s => by kernel_rfl) (fun _ _ _ _ => trivial) (fun _ _ => hpB3_fl h1 h2 h3 h4)
    (fun s j _ _ => by cases j <;> exact ⟨hpB3_fl h1 h2 h3 h4, fun h => by cases h⟩)
end
end Go.Proofs.YtafpmehhdcmllaaGreatDoor.Ways
set_option maxRecDepth 10000
noncomputable section
namespace Go.Proofs.YtafpmehhdcmllaaGreatDoor.Ways
open Go Go.Ex Go.RowKit Go.Ex.Srt
/-! ### MarketShares: what the law's loops come to -/
/-- what the law asks of the shares -/
def ShE (cs C D : List Value) (n : Nat) (lim all : Int) : Prop := okI cs n n ∧ okI C n n ∧ okI D n n ∧ (∀ j, j < n → 0 ≤ eI C j ∧ eI C j ≤ eI cs j) ∧ (∀ j : Nat, j < n → lim < all → lo2 cs C lim all (j : Int) = false ∧ hi2 cs C lim all (j : Int) = false) ∧
  (∀ j k, j < n → k < n → eI cs k < eI cs j → ¬ eI C j < eI C k) ∧ (∀ j k, j < n → k < n → eI cs j = eI cs k → df (eI C j) (eI C k) ≤ 1) ∧ ∀ j, j < n → df (eI C j) (eI D (n - 1 - j)) ≤ 1
theorem ri_eq {n j : Nat} (h : j < n) (hn : n < 1000000) : ri n (j : Int) = ((n - 1 - j : Nat) : Int) := by
  unfold ri
  rw [wrapF_in (n := (n : Int) - 1) (by omega) (by omega), wrapF_in (by omega) (by omega)]
  omega
section
variable {cs C D : List Value} {n : Nat} {lim all : Int}
theorem at3_sel {C : List Value} {j : Nat} {t : SS Int} (h : okI C n n) (hj : j < n) : (at3 C n (j : Int) t).sel = t.sel := by
  unfold at3
  rw [askS_sel (bnd_t hj (Nat.le_refl n)), askS_sel (by exact h.2.2.2 j hj)]
theorem rj_sel {b : Bool} {t : SS Int} (h : b = false) : (rj b t).sel = t.sel := by unfold rj; exact br_f h
theorem run3 (h : ShE cs C D n lim all) (hn : n < 1000000) {ii : Nat} (hi : ii < n) : runS (st3 cs C n (ii : Int) (eI cs ii)) (n + 1) 0 = some (0, (n : Int)) := by
  obtain ⟨h0, hC, _, _, _, h3, h4, _⟩ := h
  refine run_all (step := st3 cs C n (ii : Int) (eI cs ii)) (st := fun j => ((j : Nat) : Int)) (a := 0) n (fun j hj => ?_) ?_
  · have hq : (eq3_ cs C n (ii : Int) (eI cs ii) (j : Int)).sel = some (.inl ((j + 1 : Nat) : Int)) := by
      have hnx : (nx3 (j : Int)).sel = some (.inl ((j + 1 : Nat) : Int)) := by
        unfold nx3
        rw [wsucc (by omega)]; rfl
      unfold eq3_
      rw [show ((j : Nat) : Int).toNat = j from rfl, show ((ii : Nat) : Int).toNat = ii from rfl]
      by_cases he : eI cs ii = eI cs j
      · rw [br_t (by rw [eqF_d]; exact decide_eq_true he), at3_sel hC hi, at3_sel hC hj, at3_sel hC hj, at3_sel hC hi, rj_sel (by rw [ltF_eq]; exact decide_eq_false (by have := h4 ii j hi hj he; omega))]
        exact hnx
      · rw [br_f (by rw [eqF_d]; exact decide_eq_false he)]
        exact hnx
    unfold st3
    rw [br_t (by rw [ltF_eq]; simpa using hj), askS_sel (bnd_t hj (Nat.le_refl n)), askS_sel (by exact h0.2.2.2 j hj), show ((j : Nat) : Int).toNat = j from rfl, show ((ii : Nat) : Int).toNat = ii from rfl]
    by_cases hl : eI cs j < eI cs ii
    · rw [br_t (by rw [ltF_eq]; exact decide_eq_true hl), at3_sel hC hi, at3_sel hC hj, rj_sel (by rw [ltF_eq]; exact decide_eq_false (h3 ii j hi hj hl))]
      exact hq
    · rw [br_f (by rw [ltF_eq]; exact decide_eq_false hl)]
      exact hq
  · unfold st3
    rw [br_f (by rw [ltF_eq]; simp)]; rfl
theorem run2 (h : ShE cs C D n lim all) (hn : n < 1000000) : runS (st2 cs C D n lim all) (n + 1) 0 = some (0, (n : Int)) := by
  refine run_all (step := st2 cs C D n lim all) (st := fun j => ((j : Nat) : Int)) (a := 0) n (fun j hj => ?_) ?_
  · have h' := h
    obtain ⟨h0, hC, hD, h1, h2, _, _, h5⟩ := h'
    obtain ⟨g1, g2⟩ := endE_eq (run3 h hn hj)
    have ht : (tl2 cs C D n (j : Int)).sel = some (.inl ((j + 1 : Nat) : Int)) := by
      unfold tl2
      rw [show ((j : Nat) : Int).toNat = j from rfl, askS_sel (tru_iff.2 g1), askS_sel rfl, ri_eq hj hn, at3_sel hD (by omega), at3_sel hC hj, at3_sel hC hj, show ((n - 1 - j : Nat) : Int).toNat = n - 1 - j from rfl, rj_sel (by rw [ltF_eq]; exact decide_eq_false (by have := h5 j hj; omega))]
      unfold nx3
      rw [wsucc (by omega)]; rfl
    obtain ⟨b1, b2⟩ := h1 j hj
    unfold st2
    rw [br_t (by rw [ltF_eq]; simpa using hj), askS_sel (bnd_t hj (Nat.le_refl n)), askS_sel (by exact h0.2.2.2 j hj), at3_sel hC hj, rj_sel (by rw [ltF_eq]; exact decide_eq_false (by rw [show ((j : Nat) : Int).toNat = j from rfl]; omega)), at3_sel hC hj,
      rj_sel (by rw [ltF_eq]; exact decide_eq_false (by rw [show ((j : Nat) : Int).toNat = j from rfl]; omega))]
    by_cases hl : lim < all
    · obtain ⟨c1, c2⟩ := h2 j hj hl
      rw [br_t (by rw [ltF_eq]; exact decide_eq_true hl), at3_sel hC hj, rj_sel c1, at3_sel hC hj, rj_sel c2]
      exact ht
    · rw [br_f (by rw [ltF_eq]; exact decide_eq_false hl)]
      exact ht
  · unfold st2
    rw [br_f (by rw [ltF_eq]; simp)]; rfl
/-- the energies in the reversed order -/
def rvF (cs : List Value) (n j : Nat) : Int := eI cs (n - 1 - j)
def rvL (cs : List Value) (n : Nat) : List Value := nmL (rvF cs n) n
def psV (cs : List Value) (n : Nat) : Nat → PS
  | 0 => .z
  | j + 1 => .m ((j + 1 : Nat) : Int) (j + 1) (nmL (rvF cs n) (j + 1))
theorem runV (h : okI cs n n) (hn : n < 1000000) : runS (stV cs n) (n + 1) .z = some (0, psV cs n n) := by
  refine run_all (st := psV cs n) n (fun j hj => ?_) ?_
  · cases j with
    | zero =>
      show (stV cs n .z).sel = _
      unfold stV
      rw [br_t (by rw [ltF_eq]; simpa using hj), show ri n 0 = ((n - 1 - 0 : Nat) : Int) from ri_eq hj hn, askS_sel (bnd_t (by omega) (Nat.le_refl n)), askS_sel (by exact h.2.2.2 (n - 1 - 0) (by omega))]; rfl
    | succ j =>
      show (stV cs n (.m ((j + 1 : Nat) : Int) (j + 1) (nmL (rvF cs n) (j + 1)))).sel = _
      unfold stV
      dsimp only
      rw [br_t (by rw [ltF_eq]; exact decide_eq_true (by omega)), ri_eq hj hn, askS_sel (bnd_t (by omega) (Nat.le_refl n)), askS_sel (by exact h.2.2.2 (n - 1 - (j + 1)) (by omega)), askS_sel (fullW_t (by rw [nmL_len]; omega) (by omega)), wsucc (by omega)]; rfl
  · cases n with
    | zero => rfl
    | succ n =>
      show (stV cs (n + 1) (.m ((n + 1 : Nat) : Int) (n + 1) _)).sel = _
      unfold stV
      dsimp only
      rw [br_f (by rw [ltF_eq]; simp)]; rfl
end
end Go.Proofs.YtafpmehhdcmllaaGreatDoor.Ways
