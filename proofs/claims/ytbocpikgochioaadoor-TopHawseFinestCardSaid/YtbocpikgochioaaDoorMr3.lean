import Derived.Test.YtbocpikgochioaaDoorMr2
namespace Go.Proofs.YtbocpikgochioaaDoor.Ways
open Go Go.Ex
/-! ### brackets of a section -/
theorem next_pure (a d : Int) : Pure Tryd.prog Hd Fn.rotor_Induction_next [ag [i a, i d]] (ag [i (wrapF .i64 (a + 1)), i d]) :=
  pure_run (C := CF1) (G := 4) 30 (.leaf (ag [i (wrapF .i64 (a + 1)), i d])) tsF1 .none (by decide) hd_len rfl (by kernel_rfl) (by kernel_rfl) rfl
def nextS : List Value → Option Value
  | [.agg ⟨[.int .i64 a, .int .i64 d]⟩] => some (ag [i (wrapF .i64 (a + 1)), i d])
  | _ => none
noncomputable def TXa : Tb := ext TN Fn.rotor_Induction_next (pureE nextS [] Hd)
theorem tsXa {G : Nat} : TSound Tryd.prog G TXa := by
  refine tsN.pure hd_vars fun args v h => ?_
  unfold nextS at h
  split at h
  · cases h; exact next_pure _ _
  · cases h
def spX : Nat → Nat → Split := at_ [(Fn.rotor_section_finer, 19), (Fn.rotor_section_bracket, 12), (Fn.rotor_section_checkBracket, 15), (Fn.rotor_section_checkBracket, 19)] .bool no_
noncomputable def CXa : Cfg := ⟨TXa, spX, off_, noL⟩
def upE (x : Int) : Int := wrapF .i64 (wrapF .i64 (2 * x) + 1)
def okFin (a : ScA × Int × Int) (css : List (List Value)) : Prop := okBal (a.1, upE a.2.1, wrapF .i64 (a.2.2 + 1)) css
def finA (a : ScA) (css : List (List Value)) (x d : Int) : Int := if balV (a, upE x, wrapF .i64 (d + 1)) css ≤ 0 then upE x else wrapF .i64 (2 * x)
theorem fin_small : ∀ a css os, okFin a css → Blks css os → ∃ H', Sound Tryd.prog (gl + css.length) (.call Fn.rotor_section_finer ⟨[a.1.val, ag [i a.2.1, i a.2.2]]⟩ (heapL (deads ++ os))) (.val (ag [i (finA a.1 css a.2.1 a.2.2), i (wrapF .i64 (a.2.2 + 1))]) H') := by
  intro a css os h hb
  have h0 := okBal_fl h
  obtain ⟨⟨r, c, t, p, w, s, n1, c1, n2, c2⟩, x, d⟩ := a
  obtain ⟨cs1, t1, s1, e1, cs2, t2, s2, e2, rfl, rfl⟩ := fl2_blks h0 hb
  let A : ScA := ⟨r, c, t, p, w, s, n1, c1, n2, c2⟩
  refine one_tree (C := CXa) (n := 40) (askB (tru (okBal (A, upE x, wrapF .i64 (d + 1)) [cs1, cs2])) (.br (leF (balV (A, upE x, wrapF .i64 (d + 1)) [cs1, cs2]) 0) (.leaf (ag [i (upE x), i (wrapF .i64 (d + 1))])) (.leaf (ag [i (wrapF .i64 (2 * x)), i (wrapF .i64 (d + 1))])))) tsXa .none (by kernel_rfl) (by kernel_rfl) ?_
  rw [askB_sel (tru_iff.2 (show okBal (A, upE x, wrapF .i64 (d + 1)) [cs1, cs2] from h)), leF_d, brD]
  show _ = some (ag [i (finA A [cs1, cs2] x d), i (wrapF .i64 (d + 1))])
  unfold finA
  split <;> rfl
noncomputable def TXb : Tb := ext TXa Fn.rotor_section_finer (rdE rdSI okFin (fun a css => ag [i (finA a.1 css a.2.1 a.2.2), i (wrapF .i64 (a.2.2 + 1))]) [] (heapL deads))
theorem tsXb {G : Nat} : TSound Tryd.prog G TXb :=
  tsXa.ext (rd_ok (fun a => [a.1.val, ag [i a.2.1, i a.2.2]]) deads_len deads_flat deads_mem rdSI_ok (fun _ _ h => fl2_flat (okBal_fl h)) (fun _ _ _ => rfl) fin_small)
noncomputable def CXb : Cfg := ⟨TXb, spX, off_, noL⟩
def brA (a : ScA) (css : List (List Value)) : Nat → Int
  | 0 => 0
  | j + 1 => finA a css (brA a css j) ((j + 1 : Nat) : Int)
def okBr (a : ScA × Int) : List (List Value) → Prop
  | [cs1, cs2] => OkI cs1 a.1.n1 a.1.c1 ∧ cs2.all Ex.flat = true ∧ 1 ≤ a.1.n1 ∧ (1 ≤ a.1.r ∧ a.1.r ≤ 200) ∧ (1 ≤ a.1.s ∧ a.1.s ≤ 1000) ∧ (1 ≤ a.2 ∧ a.2 ≤ 12)
  | _ => False
def hasB (a : ScA) (css : List (List Value)) : Bool := !leF (balV (a, 1, 1) css) 0
def selB (b : Bool) (x y : Int) : Int := cond b x y
def brV (a : ScA × Int) (css : List (List Value)) : Value := tp [ag [i (selB (hasB a.1 css) (brA a.1 css (a.2 - 1).toNat) 0), i (selB (hasB a.1 css) a.2 0)], b_ (hasB a.1 css)]
noncomputable def brT (a : ScA) (css : List (List Value)) : Nat → Nat → VT
  | 0, j => .leaf (tp [ag [i (brA a css j), i ((j + 1 : Nat) : Int)], b_ true])
  | m + 1, j => askB (tru (okFin (a, brA a css j, ((j + 1 : Nat) : Int)) css)) (brT a css m (j + 1))
theorem okBr_fl {a : ScA × Int} {css : List (List Value)} (h : okBr a css) : fl2 css := by
  unfold okBr at h
  split at h
  · exact ⟨h.1.1, h.2.1⟩
  · cases h
theorem okBr_bal {a : ScA × Int} {css : List (List Value)} (h : okBr a css) {x d : Int} (hd : 1 ≤ d ∧ d ≤ 12) : okBal (a.1, x, d) css := by
  unfold okBr at h
  split at h
  · exact ⟨h.1, h.2.1, h.2.2.1, hd, den_ne h.2.2.2.1 h.2.2.2.2.1 hd⟩
  · cases h
theorem brT_sel {a : ScA × Int} {css : List (List Value)} (h : okBr a css) : ∀ m j, j + m + 1 ≤ 12 → (brT a.1 css m j).sel = some (tp [ag [i (brA a.1 css (j + m)), i ((j + m + 1 : Nat) : Int)], b_ true])
  | 0, j, _ => rfl
  | m + 1, j, hj => by
    unfold brT
    have hw : wrapF .i64 (((j + 1 : Nat) : Int) + 1) = ((j + 2 : Nat) : Int) := by rw [wrapF_in (by omega) (by omega)]; omega
    rw [askB_sel (tru_iff.2 (show okFin (a.1, brA a.1 css j, ((j + 1 : Nat) : Int)) css from okBr_bal h (by dsimp only; rw [hw]; omega))), brT_sel h m (j + 1) (by omega), show j + 1 + m = j + (m + 1) from by omega]
noncomputable def brTop (a : ScA) (css : List (List Value)) (m : Nat) : VT := askB (tru (okBal (a, 1, 1) css)) (.br (leF (balV (a, 1, 1) css) 0) (.leaf (tp [ag [i 0, i 0], b_ false])) (brT a css m 0))
theorem brTop_sel {a : ScA} {D : Int} {css : List (List Value)} (h : okBr (a, D) css) (m : Nat) (hm : D = ((m + 1 : Nat) : Int)) : (brTop a css m).sel = some (brV (a, D) css) := by
  have hb : okBal (a, 1, 1) css := okBr_bal h ⟨by decide, by decide⟩
  have hD : 1 ≤ D ∧ D ≤ 12 := by
    unfold okBr at h
    split at h
    · exact h.2.2.2.2.2
    · cases h
  unfold brTop
  rw [askB_sel (tru_iff.2 hb), brB, brT_sel h m 0 (by omega)]
  unfold brV hasB selB
  dsimp only
  cases hq : leF (balV (a, 1, 1) css) 0 with
  | true => rfl
  | false =>
    rw [show (D - 1).toNat = 0 + m from by omega, hm, Nat.zero_add]
    rfl
theorem br_small : ∀ a css os, okBr a css → Blks css os → ∃ H', Sound Tryd.prog (gl + css.length) (.call Fn.rotor_section_bracket ⟨[a.1.val, i a.2]⟩ (heapL (deads ++ os))) (.val (brV a css) H') := by
  intro a css os h hb
  have h0 := okBr_fl h
  obtain ⟨⟨r, c, t, p, w, s, n1, c1, n2, c2⟩, D⟩ := a
  obtain ⟨cs1, t1, s1, e1, cs2, t2, s2, e2, rfl, rfl⟩ := fl2_blks h0 hb
  have hD : 1 ≤ D ∧ D ≤ 12 := h.2.2.2.2.2
  have : D = 1 ∨ D = 2 ∨ D = 3 ∨ D = 4 ∨ D = 5 ∨ D = 6 ∨ D = 7 ∨ D = 8 ∨ D = 9 ∨ D = 10 ∨ D = 11 ∨ D = 12 := by omega
  let A : ScA := ⟨r, c, t, p, w, s, n1, c1, n2, c2⟩
  rcases this with rfl | rfl | rfl | rfl | rfl | rfl | rfl | rfl | rfl | rfl | rfl | rfl
  · exact one_tree (C := CXb) (n := 60) (brTop A [cs1, cs2] 0) tsXb .none (by kernel_rfl) (by kernel_rfl) (brTop_sel h 0 rfl)
  · exact one_tree (C := CXb) (n := 60) (brTop A [cs1, cs2] 1) tsXb .none (by kernel_rfl) (by kernel_rfl) (brTop_sel h 1 rfl)
  · exact one_tree (C := CXb) (n := 60) (brTop A [cs1, cs2] 2) tsXb .none (by kernel_rfl) (by kernel_rfl) (brTop_sel h 2 rfl)
  · exact one_tree (C := CXb) (n := 60) (brTop A [cs1, cs2] 3) tsXb .none (by kernel_rfl) (by kernel_rfl) (brTop_sel h 3 rfl)
  · exact one_tree (C := CXb) (n := 60) (brTop A [cs1, cs2] 4) tsXb .none (by kernel_rfl) (by kernel_rfl) (brTop_sel h 4 rfl)
  · exact one_tree (C := CXb) (n := 60) (brTop A [cs1, cs2] 5) tsXb .none (by kernel_rfl) (by kernel_rfl) (brTop_sel h 5 rfl)
  · exact one_tree (C := CXb) (n := 60) (brTop A [cs1, cs2] 6) tsXb .none (by kernel_rfl) (by kernel_rfl) (brTop_sel h 6 rfl)
  · exact one_tree (C := CXb) (n := 60) (brTop A [cs1, cs2] 7) tsXb .none (by kernel_rfl) (by kernel_rfl) (brTop_sel h 7 rfl)
  · exact one_tree (C := CXb) (n := 60) (brTop A [cs1, cs2] 8) tsXb .none (by kernel_rfl) (by kernel_rfl) (brTop_sel h 8 rfl)
  · exact one_tree (C := CXb) (n := 60) (brTop A [cs1, cs2] 9) tsXb .none (by kernel_rfl) (by kernel_rfl) (brTop_sel h 9 rfl)
  · exact one_tree (C := CXb) (n := 60) (brTop A [cs1, cs2] 10) tsXb .none (by kernel_rfl) (by kernel_rfl) (brTop_sel h 10 rfl)
  · exact one_tree (C := CXb) (n := 60) (brTop A [cs1, cs2] 11) tsXb .none (by kernel_rfl) (by kernel_rfl) (brTop_sel h 11 rfl)
end Go.Proofs.YtbocpikgochioaaDoor.Ways
namespace Go.Proofs.YtbocpikgochioaaDoor.Ways
open Go Go.Ex
noncomputable def TXc : Tb := ext TXb Fn.rotor_section_bracket (rdE rdSX okBr brV [] (heapL deads))
theorem tsXc {G : Nat} : TSound Tryd.prog G TXc :=
  tsXb.ext (rd_ok (fun a => [a.1.val, i a.2]) deads_len deads_flat deads_mem rdSX_ok (fun _ _ h => fl2_flat (okBr_fl h)) (fun _ _ _ => rfl) br_small)
noncomputable def CXc : Cfg := ⟨TXc, spX, off_, noL⟩
def cbE (a : ScA) (css : List (List Value)) (x d : Int) : Int := cond (hasB a css) (if brA a css (d - 1).toNat = x then 0 else 22) 22
def okCb (a : ScA × Int × Int) (css : List (List Value)) : Prop := okBr (a.1, a.2.2) css
theorem cb_small : ∀ a css os, okCb a css → Blks css os → ∃ H', Sound Tryd.prog (gl + css.length) (.call Fn.rotor_section_checkBracket ⟨[a.1.val, ag [i a.2.1, i a.2.2]]⟩ (heapL (deads ++ os))) (.val (i (cbE a.1 css a.2.1 a.2.2)) H') := by
  intro a css os h hb
  have h0 := okBr_fl h
  obtain ⟨⟨r, c, t, p, w, s, n1, c1, n2, c2⟩, x, d⟩ := a
  obtain ⟨cs1, t1, s1, e1, cs2, t2, s2, e2, rfl, rfl⟩ := fl2_blks h0 hb
  let A : ScA := ⟨r, c, t, p, w, s, n1, c1, n2, c2⟩
  refine one_tree (C := CXc) (n := 40) (askB (tru (okBr (A, d) [cs1, cs2])) (.br (!hasB A [cs1, cs2]) (.leaf (i 22)) (.br (!(selB (hasB A [cs1, cs2]) (brA A [cs1, cs2] (d - 1).toNat) 0 == x && (selB (hasB A [cs1, cs2]) d 0 == d && true))) (.leaf (i 22)) (.leaf (i 0))))) tsXc .none (by kernel_rfl) (by kernel_rfl) ?_
  rw [askB_sel (tru_iff.2 (show okBr (A, d) [cs1, cs2] from h))]
  show _ = some (i (cbE A [cs1, cs2] x d))
  unfold cbE
  cases hq : hasB A [cs1, cs2] with
  | false => rfl
  | true =>
    show (VT.br (!(brA A [cs1, cs2] (d - 1).toNat == x && (d == d && true))) (.leaf (i 22)) (.leaf (i 0))).sel = some (i (if brA A [cs1, cs2] (d - 1).toNat = x then 0 else 22))
    by_cases hx : brA A [cs1, cs2] (d - 1).toNat = x
    · rw [if_pos hx, hx]; simp [VT.sel]
    · rw [if_neg hx, beqI, decide_eq_false hx]; rfl
noncomputable def zT2 : Tb := fun f args H => cond (Nat.beq f Fn.rotor_section_inflow || (Nat.beq f Fn.rotor_section_class || (Nat.beq f Fn.rotor_section_balance || (Nat.beq f Fn.rotor_section_bracket || Nat.beq f Fn.rotor_section_checkBracket)))) (zE args H) none
theorem zT2_ok {P : Program} {G : Nat} : TSound P G zT2 := by
  intro f args H c v H' l h hc _
  unfold zT2 at h
  cases hb : (Nat.beq f Fn.rotor_section_inflow || (Nat.beq f Fn.rotor_section_class || (Nat.beq f Fn.rotor_section_balance || (Nat.beq f Fn.rotor_section_bracket || Nat.beq f Fn.rotor_section_checkBracket)))) with
  | false => rw [hb] at h; cases h
  | true =>
    rw [hb] at h
    have h' : zE args H = some (c, v, H', l) := h
    unfold zE at h'
    split at h'
    · cases h'
      exact (tru_iff.1 hc).elim
    · cases h'
noncomputable def TXd : Tb := orT (ext TXc Fn.rotor_section_checkBracket (rdE rdSI okCb (fun a css => i (cbE a.1 css a.2.1 a.2.2)) [] (heapL deads))) zT2
theorem tsXd {G : Nat} : TSound Tryd.prog G TXd :=
  orT_ok (tsXc.ext (rd_ok (fun a => [a.1.val, ag [i a.2.1, i a.2.2]]) deads_len deads_flat deads_mem rdSI_ok (fun _ _ h => fl2_flat (okBr_fl h)) (fun _ _ _ => rfl) cb_small)) zT2_ok
def spY : Nat → Nat → Split := at_ [(Fn.rotor_sectionOf, 18), (Fn.rotor_sectionOf, 28), (Fn.rotor_Find, 28), (Fn.rotor_Find, 38), (Fn.rotor_CheckBracket, 20), (Fn.rotor_Refine, 17), (Fn.rotor_Refine, 22)] .bool no_
noncomputable def CXd : Cfg := ⟨TXd, spY, off_, noL⟩
def errF (e : Int) : Value := tp [ag [i 0, i 0], i e]
noncomputable def finF (errV : Int → Value) (e r : Int) (g : VT) : VT := askFst [e, r] fun e2 => .br (!eqF e2 0) (.leaf (errV e2)) g
theorem sec_two {okb : Bool} {bE fE ring r : Int} {n : Nat} {good : Nat → VT} {errV : Int → Value} {jk : VT} (h : okb = true) :
    (secT okb bE fE ring n (fun e => finF errV e r jk) (fun j => finF errV 0 r (good j))).sel = if firstE (secE bE fE ring n) r = 0 then (good ring.toNat).sel else some (errV (firstE (secE bE fE ring n) r)) := by
  have fin : ∀ e g, (finF errV e r g).sel = if firstE e r = 0 then g.sel else some (errV (firstE e r)) := by
    intro e g
    unfold finF
    rw [askFst_sel (by simp), firstL2, eqF_d, brN]; rfl
  rw [secT_sel h, fin, fin]
  by_cases h1 : secE bE fE ring n = 0
  · rw [if_pos h1, h1]
  · rw [if_neg h1]
    have : firstE (secE bE fE ring n) r = secE bE fE ring n := by unfold firstE; rw [if_neg h1]
    rw [this, if_neg h1, if_neg h1]
/-- Find: the error, the bracket -/
def fErr (E : Int) (hb : Bool) : Int := firstE E (cond hb 0 7)
def resF (E : Int) (hb : Bool) (A D : Int) : Value := tp [ag [i (okE (fErr E hb) A), i (okE (fErr E hb) D)], i (fErr E hb)]
noncomputable def goodF (cs1 cs2 : List Value) (ρ : Nat → Int) (w s q : Int) (n1 c1 n2 c2 : Nat) (D : Int) (j : Nat) : VT :=
  askB (tru (okBr (scA ρ w s q n1 c1 n2 c2 j, D) [cs1, cs2])) (.br (!hasB (scA ρ w s q n1 c1 n2 c2 j) [cs1, cs2]) (.leaf (errF 7)) (.leaf (tp [ag [i (selB (hasB (scA ρ w s q n1 c1 n2 c2 j) [cs1, cs2]) (brA (scA ρ w s q n1 c1 n2 c2 j) [cs1, cs2] (D - 1).toNat) 0), i (selB (hasB (scA ρ w s q n1 c1 n2 c2 j) [cs1, cs2]) D 0)], i 0])))
noncomputable def goodK (cs1 cs2 : List Value) (ρ : Nat → Int) (w s q : Int) (n1 c1 n2 c2 : Nat) (x d : Int) (j : Nat) : VT :=
  askB (tru (okCb (scA ρ w s q n1 c1 n2 c2 j, x, d) [cs1, cs2])) (.leaf (i (cbE (scA ρ w s q n1 c1 n2 c2 j) [cs1, cs2] x d)))
section
variable {cs1 cs2 : List Value} {t1 s1 t2 s2 t3 s3 : Nat} {e1 e2 e3 : Bool} {n1 c1 n2 c2 : Nat} {w s q ring : Int} {ρ : Nat → Int} {n : Nat}
theorem okBr_in (h1 : OkI cs1 n1 c1) (h2 : OkI cs2 n2 c2) {D : Int} (hD : 1 ≤ D ∧ D ≤ 12) (h : secE (bladeE cs1 n1 cs2 n2 ρ n) (flowE w s q) ring n = 0) : okBr (scA ρ w s q n1 c1 n2 c2 ring.toNat, D) [cs1, cs2] := by
  obtain ⟨hb, hf, hr0, hr1⟩ := sec_z h
  obtain ⟨hp, _, _, hr⟩ := blade_z hb
  obtain ⟨hrj, _⟩ := hr ring.toNat (by omega)
  obtain ⟨g1, _⟩ := ring4_z hrj
  obtain ⟨_, g2, _⟩ := flow_z hf
  exact ⟨h1, h2.1, (pol_z hp).1, g1, g2, hD⟩
theorem find_sel {okb : Bool} (hk : okb = true) (h1 : OkI cs1 n1 c1) (h2 : OkI cs2 n2 c2) (D : Int) :
    (secT okb (bladeE cs1 n1 cs2 n2 ρ n) (flowE w s q) ring n (fun e => finF errF e (rangeE D 1 12) (askB (tru False) .fail)) (fun j => finF errF 0 (rangeE D 1 12) (goodF cs1 cs2 ρ w s q n1 c1 n2 c2 D j))).sel =
      some (resF (firstE (secE (bladeE cs1 n1 cs2 n2 ρ n) (flowE w s q) ring n) (rangeE D 1 12)) (hasB (scA ρ w s q n1 c1 n2 c2 ring.toNat) [cs1, cs2]) (brA (scA ρ w s q n1 c1 n2 c2 ring.toNat) [cs1, cs2] (D - 1).toNat) D) := by
  rw [sec_two hk]
  by_cases h : firstE (secE (bladeE cs1 n1 cs2 n2 ρ n) (flowE w s q) ring n) (rangeE D 1 12) = 0
  · obtain ⟨g1, g2⟩ := firstE_z h
    rw [if_pos h, h]
    unfold goodF
    rw [askB_sel (tru_iff.2 (okBr_in h1 h2 (range_z g2) g1))]
    unfold resF fErr
    cases hq : hasB (scA ρ w s q n1 c1 n2 c2 ring.toNat) [cs1, cs2] <;> rfl
  · rw [if_neg h]
    have hf : fErr (firstE (secE (bladeE cs1 n1 cs2 n2 ρ n) (flowE w s q) ring n) (rangeE D 1 12)) (hasB (scA ρ w s q n1 c1 n2 c2 ring.toNat) [cs1, cs2]) = firstE (secE (bladeE cs1 n1 cs2 n2 ρ n) (flowE w s q) ring n) (rangeE D 1 12) := by
      unfold fErr
      generalize firstE (secE (bladeE cs1 n1 cs2 n2 ρ n) (flowE w s q) ring n) (rangeE D 1 12) = E at *
      unfold firstE; rw [if_neg h]
    unfold resF
    rw [hf]
    unfold okE errF
    rw [if_neg h, if_neg h]
theorem check_sel {okb : Bool} (hk : okb = true) (h1 : OkI cs1 n1 c1) (h2 : OkI cs2 n2 c2) (x d : Int) :
    (secT okb (bladeE cs1 n1 cs2 n2 ρ n) (flowE w s q) ring n (fun e => finF i e (indE x d) (askB (tru False) (.leaf (i 0)))) (fun j => finF i 0 (indE x d) (goodK cs1 cs2 ρ w s q n1 c1 n2 c2 x d j))).sel =
      some (i (firstE (firstE (secE (bladeE cs1 n1 cs2 n2 ρ n) (flowE w s q) ring n) (indE x d)) (cbE (scA ρ w s q n1 c1 n2 c2 ring.toNat) [cs1, cs2] x d))) := by
  rw [sec_two hk]
  by_cases h : firstE (secE (bladeE cs1 n1 cs2 n2 ρ n) (flowE w s q) ring n) (indE x d) = 0
  · obtain ⟨g1, g2⟩ := firstE_z h
    rw [if_pos h, h]
    unfold goodK
    rw [askB_sel (tru_iff.2 (show okCb (scA ρ w s q n1 c1 n2 c2 ring.toNat, x, d) [cs1, cs2] from okBr_in h1 h2 (ind_z g2).1 g1))]
    have : ∀ y : Int, firstE 0 y = y := fun y => by unfold firstE; rw [if_pos rfl]
    rw [this]; rfl
  · rw [if_neg h]
    generalize firstE (secE (bladeE cs1 n1 cs2 n2 ρ n) (flowE w s q) ring n) (indE x d) = E at *
    have : ∀ y : Int, firstE E y = E := fun y => by unfold firstE; rw [if_neg h]
    rw [this]
theorem f23_nil (h1 : OkI cs1 n1 c1) (h2 : OkI cs2 n2 c2) (D : Int) : ∃ H', Sound Tryd.prog 6 (.call Fn.rotor_Find ⟨[blV n1 c1 n2 c2 (.slice none 0 0), flV w s q, i ring, i D]⟩ (hp118 cs1 t1 s1 e1 cs2 t2 s2 e2)) (.val (resF (firstE (secE (bladeE cs1 n1 cs2 n2 (rhoE []) 0) (flowE w s q) ring 0) (rangeE D 1 12)) (hasB (scA (rhoE []) w s q n1 c1 n2 c2 ring.toNat) [cs1, cs2]) (brA (scA (rhoE []) w s q n1 c1 n2 c2 ring.toNat) [cs1, cs2] (D - 1).toNat) D) H') :=
  one_tree (C := CXd) (n := 60) (secT (tru (okB ⟨n1, c1, n2, c2, 0, 0, true⟩ [cs1, cs2])) (bladeE cs1 n1 cs2 n2 (rhoE []) 0) (flowE w s q) ring 0 (fun e => finF errF e (rangeE D 1 12) (askB (tru False) .fail)) (fun j => finF errF 0 (rangeE D 1 12) (goodF cs1 cs2 (rhoE []) w s q n1 c1 n2 c2 D j))) tsXd .none (by kernel_rfl) (by kernel_rfl) (find_sel (tru_iff.2 (show okB ⟨n1, c1, n2, c2, 0, 0, true⟩ [cs1, cs2] from ⟨rfl, rfl, h1, h2⟩)) h1 h2 D)
theorem f23_1 (h1 : OkI cs1 n1 c1) (h2 : OkI cs2 n2 c2) (D : Int) : ∃ H', Sound Tryd.prog 7 (.call Fn.rotor_Find ⟨[blV n1 c1 n2 c2 (sl 6 0 1 1), flV w s q, i ring, i D]⟩ (hpB cs1 t1 s1 e1 cs2 t2 s2 e2 (ringC ρ 1) t3 s3 e3)) (.val (resF (firstE (secE (bladeE cs1 n1 cs2 n2 ρ 1) (flowE w s q) ring 1) (rangeE D 1 12)) (hasB (scA ρ w s q n1 c1 n2 c2 ring.toNat) [cs1, cs2]) (brA (scA ρ w s q n1 c1 n2 c2 ring.toNat) [cs1, cs2] (D - 1).toNat) D) H') :=
  one_tree (C := CXd) (n := 60) (secT (tru (okB ⟨n1, c1, n2, c2, 1, 1, false⟩ [cs1, cs2, ringC ρ 1])) (bladeE cs1 n1 cs2 n2 ρ 1) (flowE w s q) ring 1 (fun e => finF errF e (rangeE D 1 12) (askB (tru False) .fail)) (fun j => finF errF 0 (rangeE D 1 12) (goodF cs1 cs2 ρ w s q n1 c1 n2 c2 D j))) tsXd .none (by kernel_rfl) (by kernel_rfl) (find_sel (tru_iff.2 (show okB ⟨n1, c1, n2, c2, 1, 1, false⟩ [cs1, cs2, ringC ρ 1] from ⟨rfl, ⟨h1, h2⟩, by unfold five; simp, rfl, ringC_self ρ 1⟩)) h1 h2 D)
theorem f23_2 (h1 : OkI cs1 n1 c1) (h2 : OkI cs2 n2 c2) (D : Int) : ∃ H', Sound Tryd.prog 7 (.call Fn.rotor_Find ⟨[blV n1 c1 n2 c2 (sl 6 0 2 2), flV w s q, i ring, i D]⟩ (hpB cs1 t1 s1 e1 cs2 t2 s2 e2 (ringC ρ 2) t3 s3 e3)) (.val (resF (firstE (secE (bladeE cs1 n1 cs2 n2 ρ 2) (flowE w s q) ring 2) (rangeE D 1 12)) (hasB (scA ρ w s q n1 c1 n2 c2 ring.toNat) [cs1, cs2]) (brA (scA ρ w s q n1 c1 n2 c2 ring.toNat) [cs1, cs2] (D - 1).toNat) D) H') :=
  one_tree (C := CXd) (n := 60) (secT (tru (okB ⟨n1, c1, n2, c2, 2, 2, false⟩ [cs1, cs2, ringC ρ 2])) (bladeE cs1 n1 cs2 n2 ρ 2) (flowE w s q) ring 2 (fun e => finF errF e (rangeE D 1 12) (askB (tru False) .fail)) (fun j => finF errF 0 (rangeE D 1 12) (goodF cs1 cs2 ρ w s q n1 c1 n2 c2 D j))) tsXd .none (by kernel_rfl) (by kernel_rfl) (find_sel (tru_iff.2 (show okB ⟨n1, c1, n2, c2, 2, 2, false⟩ [cs1, cs2, ringC ρ 2] from ⟨rfl, ⟨h1, h2⟩, by unfold five; simp, rfl, ringC_self ρ 2⟩)) h1 h2 D)
theorem f23_3 (h1 : OkI cs1 n1 c1) (h2 : OkI cs2 n2 c2) (D : Int) : ∃ H', Sound Tryd.prog 7 (.call Fn.rotor_Find ⟨[blV n1 c1 n2 c2 (sl 6 0 3 3), flV w s q, i ring, i D]⟩ (hpB cs1 t1 s1 e1 cs2 t2 s2 e2 (ringC ρ 3) t3 s3 e3)) (.val (resF (firstE (secE (bladeE cs1 n1 cs2 n2 ρ 3) (flowE w s q) ring 3) (rangeE D 1 12)) (hasB (scA ρ w s q n1 c1 n2 c2 ring.toNat) [cs1, cs2]) (brA (scA ρ w s q n1 c1 n2 c2 ring.toNat) [cs1, cs2] (D - 1).toNat) D) H') :=
  one_tree (C := CXd) (n := 60) (secT (tru (okB ⟨n1, c1, n2, c2, 3, 3, false⟩ [cs1, cs2, ringC ρ 3])) (bladeE cs1 n1 cs2 n2 ρ 3) (flowE w s q) ring 3 (fun e => finF errF e (rangeE D 1 12) (askB (tru False) .fail)) (fun j => finF errF 0 (rangeE D 1 12) (goodF cs1 cs2 ρ w s q n1 c1 n2 c2 D j))) tsXd .none (by kernel_rfl) (by kernel_rfl) (find_sel (tru_iff.2 (show okB ⟨n1, c1, n2, c2, 3, 3, false⟩ [cs1, cs2, ringC ρ 3] from ⟨rfl, ⟨h1, h2⟩, by unfold five; simp, rfl, ringC_self ρ 3⟩)) h1 h2 D)
theorem f23_17 (h1 : OkI cs1 n1 c1) (h2 : OkI cs2 n2 c2) (D : Int) : ∃ H', Sound Tryd.prog 7 (.call Fn.rotor_Find ⟨[blV n1 c1 n2 c2 (sl 6 0 17 17), flV w s q, i ring, i D]⟩ (hpB cs1 t1 s1 e1 cs2 t2 s2 e2 (ringC ρ 17) t3 s3 e3)) (.val (resF (firstE (secE (bladeE cs1 n1 cs2 n2 ρ 17) (flowE w s q) ring 17) (rangeE D 1 12)) (hasB (scA ρ w s q n1 c1 n2 c2 ring.toNat) [cs1, cs2]) (brA (scA ρ w s q n1 c1 n2 c2 ring.toNat) [cs1, cs2] (D - 1).toNat) D) H') :=
  one_tree (C := CXd) (n := 60) (secT (tru (okB ⟨n1, c1, n2, c2, 17, 17, false⟩ [cs1, cs2, ringC ρ 17])) (bladeE cs1 n1 cs2 n2 ρ 17) (flowE w s q) ring 17 (fun e => finF errF e (rangeE D 1 12) (askB (tru False) .fail)) (fun j => finF errF 0 (rangeE D 1 12) (goodF cs1 cs2 ρ w s q n1 c1 n2 c2 D j))) tsXd .none (by kernel_rfl) (by kernel_rfl) (find_sel (tru_iff.2 (show okB ⟨n1, c1, n2, c2, 17, 17, false⟩ [cs1, cs2, ringC ρ 17] from ⟨rfl, ⟨h1, h2⟩, by unfold five; simp, rfl, ringC_self ρ 17⟩)) h1 h2 D)
theorem f24_nil (h1 : OkI cs1 n1 c1) (h2 : OkI cs2 n2 c2) (x d : Int) : ∃ H', Sound Tryd.prog 6 (.call Fn.rotor_CheckBracket ⟨[blV n1 c1 n2 c2 (.slice none 0 0), flV w s q, i ring, ag [i x, i d]]⟩ (hp118 cs1 t1 s1 e1 cs2 t2 s2 e2)) (.val (i (firstE (firstE (secE (bladeE cs1 n1 cs2 n2 (rhoE []) 0) (flowE w s q) ring 0) (indE x d)) (cbE (scA (rhoE []) w s q n1 c1 n2 c2 ring.toNat) [cs1, cs2] x d))) H') :=
  one_tree (C := CXd) (n := 60) (secT (tru (okB ⟨n1, c1, n2, c2, 0, 0, true⟩ [cs1, cs2])) (bladeE cs1 n1 cs2 n2 (rhoE []) 0) (flowE w s q) ring 0 (fun e => finF i e (indE x d) (askB (tru False) (.leaf (i 0)))) (fun j => finF i 0 (indE x d) (goodK cs1 cs2 (rhoE []) w s q n1 c1 n2 c2 x d j))) tsXd .none (by kernel_rfl) (by kernel_rfl) (check_sel (tru_iff.2 (show okB ⟨n1, c1, n2, c2, 0, 0, true⟩ [cs1, cs2] from ⟨rfl, rfl, h1, h2⟩)) h1 h2 x d)
theorem f24_1 (h1 : OkI cs1 n1 c1) (h2 : OkI cs2 n2 c2) (x d : Int) : ∃ H', Sound Tryd.prog 7 (.call Fn.rotor_CheckBracket ⟨[blV n1 c1 n2 c2 (sl 6 0 1 1), flV w s q, i ring, ag [i x, i d]]⟩ (hpB cs1 t1 s1 e1 cs2 t2 s2 e2 (ringC ρ 1) t3 s3 e3)) (.val (i (firstE (firstE (secE (bladeE cs1 n1 cs2 n2 ρ 1) (flowE w s q) ring 1) (indE x d)) (cbE (scA ρ w s q n1 c1 n2 c2 ring.toNat) [cs1, cs2] x d))) H') :=
  one_tree (C := CXd) (n := 60) (secT (tru (okB ⟨n1, c1, n2, c2, 1, 1, false⟩ [cs1, cs2, ringC ρ 1])) (bladeE cs1 n1 cs2 n2 ρ 1) (flowE w s q) ring 1 (fun e => finF i e (indE x d) (askB (tru False) (.leaf (i 0)))) (fun j => finF i 0 (indE x d) (goodK cs1 cs2 ρ w s q n1 c1 n2 c2 x d j))) tsXd .none (by kernel_rfl) (by kernel_rfl) (check_sel (tru_iff.2 (show okB ⟨n1, c1, n2, c2, 1, 1, false⟩ [cs1, cs2, ringC ρ 1] from ⟨rfl, ⟨h1, h2⟩, by unfold five; simp, rfl, ringC_self ρ 1⟩)) h1 h2 x d)
theorem f24_2 (h1 : OkI cs1 n1 c1) (h2 : OkI cs2 n2 c2) (x d : Int) : ∃ H', Sound Tryd.prog 7 (.call Fn.rotor_CheckBracket ⟨[blV n1 c1 n2 c2 (sl 6 0 2 2), flV w s q, i ring, ag [i x, i d]]⟩ (hpB cs1 t1 s1 e1 cs2 t2 s2 e2 (ringC ρ 2) t3 s3 e3)) (.val (i (firstE (firstE (secE (bladeE cs1 n1 cs2 n2 ρ 2) (flowE w s q) ring 2) (indE x d)) (cbE (scA ρ w s q n1 c1 n2 c2 ring.toNat) [cs1, cs2] x d))) H') :=
  one_tree (C := CXd) (n := 60) (secT (tru (okB ⟨n1, c1, n2, c2, 2, 2, false⟩ [cs1, cs2, ringC ρ 2])) (bladeE cs1 n1 cs2 n2 ρ 2) (flowE w s q) ring 2 (fun e => finF i e (indE x d) (askB (tru False) (.leaf (i 0)))) (fun j => finF i 0 (indE x d) (goodK cs1 cs2 ρ w s q n1 c1 n2 c2 x d j))) tsXd .none (by kernel_rfl) (by kernel_rfl) (check_sel (tru_iff.2 (show okB ⟨n1, c1, n2, c2, 2, 2, false⟩ [cs1, cs2, ringC ρ 2] from ⟨rfl, ⟨h1, h2⟩, by unfold five; simp, rfl, ringC_self ρ 2⟩)) h1 h2 x d)
theorem f24_3 (h1 : OkI cs1 n1 c1) (h2 : OkI cs2 n2 c2) (x d : Int) : ∃ H', Sound Tryd.prog 7 (.call Fn.rotor_CheckBracket ⟨[blV n1 c1 n2 c2 (sl 6 0 3 3), flV w s q, i ring, ag [i x, i d]]⟩ (hpB cs1 t1 s1 e1 cs2 t2 s2 e2 (ringC ρ 3) t3 s3 e3)) (.val (i (firstE (firstE (secE (bladeE cs1 n1 cs2 n2 ρ 3) (flowE w s q) ring 3) (indE x d)) (cbE (scA ρ w s q n1 c1 n2 c2 ring.toNat) [cs1, cs2] x d))) H') :=
  one_tree (C := CXd) (n := 60) (secT (tru (okB ⟨n1, c1, n2, c2, 3, 3, false⟩ [cs1, cs2, ringC ρ 3])) (bladeE cs1 n1 cs2 n2 ρ 3) (flowE w s q) ring 3 (fun e => finF i e (indE x d) (askB (tru False) (.leaf (i 0)))) (fun j => finF i 0 (indE x d) (goodK cs1 cs2 ρ w s q n1 c1 n2 c2 x d j))) tsXd .none (by kernel_rfl) (by kernel_rfl) (check_sel (tru_iff.2 (show okB ⟨n1, c1, n2, c2, 3, 3, false⟩ [cs1, cs2, ringC ρ 3] from ⟨rfl, ⟨h1, h2⟩, by unfold five; simp, rfl, ringC_self ρ 3⟩)) h1 h2 x d)
theorem f24_17 (h1 : OkI cs1 n1 c1) (h2 : OkI cs2 n2 c2) (x d : Int) : ∃ H', Sound Tryd.prog 7 (.call Fn.rotor_CheckBracket ⟨[blV n1 c1 n2 c2 (sl 6 0 17 17), flV w s q, i ring, ag [i x, i d]]⟩ (hpB cs1 t1 s1 e1 cs2 t2 s2 e2 (ringC ρ 17) t3 s3 e3)) (.val (i (firstE (firstE (secE (bladeE cs1 n1 cs2 n2 ρ 17) (flowE w s q) ring 17) (indE x d)) (cbE (scA ρ w s q n1 c1 n2 c2 ring.toNat) [cs1, cs2] x d))) H') :=
  one_tree (C := CXd) (n := 60) (secT (tru (okB ⟨n1, c1, n2, c2, 17, 17, false⟩ [cs1, cs2, ringC ρ 17])) (bladeE cs1 n1 cs2 n2 ρ 17) (flowE w s q) ring 17 (fun e => finF i e (indE x d) (askB (tru False) (.leaf (i 0)))) (fun j => finF i 0 (indE x d) (goodK cs1 cs2 ρ w s q n1 c1 n2 c2 x d j))) tsXd .none (by kernel_rfl) (by kernel_rfl) (check_sel (tru_iff.2 (show okB ⟨n1, c1, n2, c2, 17, 17, false⟩ [cs1, cs2, ringC ρ 17] from ⟨rfl, ⟨h1, h2⟩, by unfold five; simp, rfl, ringC_self ρ 17⟩)) h1 h2 x d)
end
/-! ### as contracts -/
def scB (a : ArA) (css : List (List Value)) : ScA := scA (rhoC css) a.w a.s a.q a.b.n1 a.b.c1 a.b.n2 a.b.c2 a.ring.toNat
def cs12 : List (List Value) → List (List Value)
  | c :: d :: _ => [c, d]
  | l => l
def fndR (a : ArA) (css : List (List Value)) (D : Int) : Value := resF (firstE (sE_ a css) (rangeE D 1 12)) (hasB (scB a css) (cs12 css)) (brA (scB a css) (cs12 css) (D - 1).toNat) D
def checkR (a : ArA) (css : List (List Value)) : Int := firstE (firstE (sE_ a css) (indE a.x a.d)) (cbE (scB a css) (cs12 css) a.x a.d)
theorem f23_small : ∀ a css os, okP a css → Blks css os → ∃ H', Sound Tryd.prog (gl + css.length) (.call Fn.rotor_Find ⟨a.valsX⟩ (heapL (deads ++ os))) (.val (fndR a css a.x) H') := by
  intro a css os h hb
  obtain ⟨⟨n1, c1, n2, c2, n, c, nl⟩, w, s, q, ring, x, d⟩ := a
  obtain ⟨h, hne⟩ := h
  dsimp only at h hne
  unfold okB at h
  split at h
  · rename_i cs1 cs2 cs3
    dsimp only at h
    obtain ⟨rfl, ⟨h1, h2⟩, h5, rfl, h3⟩ := h
    obtain ⟨t1, s1, e1, t2, s2, e2, t3, s3, e3, rfl⟩ := blks3 hb
    rcases h5 with rfl | rfl | rfl | rfl | rfl
    · exact absurd rfl (hne rfl)
    · have := f23_1 (t1 := t1) (s1 := s1) (e1 := e1) (t2 := t2) (s2 := s2) (e2 := e2) (t3 := t3) (s3 := s3) (e3 := e3) (w := w) (s := s) (q := q) (ring := ring) (ρ := rhoE cs3) h1 h2 x
      rw [← h3] at this; exact this
    · have := f23_2 (t1 := t1) (s1 := s1) (e1 := e1) (t2 := t2) (s2 := s2) (e2 := e2) (t3 := t3) (s3 := s3) (e3 := e3) (w := w) (s := s) (q := q) (ring := ring) (ρ := rhoE cs3) h1 h2 x
      rw [← h3] at this; exact this
    · have := f23_3 (t1 := t1) (s1 := s1) (e1 := e1) (t2 := t2) (s2 := s2) (e2 := e2) (t3 := t3) (s3 := s3) (e3 := e3) (w := w) (s := s) (q := q) (ring := ring) (ρ := rhoE cs3) h1 h2 x
      rw [← h3] at this; exact this
    · have := f23_17 (t1 := t1) (s1 := s1) (e1 := e1) (t2 := t2) (s2 := s2) (e2 := e2) (t3 := t3) (s3 := s3) (e3 := e3) (w := w) (s := s) (q := q) (ring := ring) (ρ := rhoE cs3) h1 h2 x
      rw [← h3] at this; exact this
  · dsimp only at h
    obtain ⟨rfl, rfl, h1, h2⟩ := h
    obtain ⟨t1, s1, e1, t2, s2, e2, rfl⟩ := blks2 hb
    exact f23_nil h1 h2 x
  · cases h
theorem f24_small : ∀ a css os, okP a css → Blks css os → ∃ H', Sound Tryd.prog (gl + css.length) (.call Fn.rotor_CheckBracket ⟨a.valsI⟩ (heapL (deads ++ os))) (.val (i (checkR a css)) H') := by
  intro a css os h hb
  obtain ⟨⟨n1, c1, n2, c2, n, c, nl⟩, w, s, q, ring, x, d⟩ := a
  obtain ⟨h, hne⟩ := h
  dsimp only at h hne
  unfold okB at h
  split at h
  · rename_i cs1 cs2 cs3
    dsimp only at h
    obtain ⟨rfl, ⟨h1, h2⟩, h5, rfl, h3⟩ := h
    obtain ⟨t1, s1, e1, t2, s2, e2, t3, s3, e3, rfl⟩ := blks3 hb
    rcases h5 with rfl | rfl | rfl | rfl | rfl
    · exact absurd rfl (hne rfl)
    · have := f24_1 (t1 := t1) (s1 := s1) (e1 := e1) (t2 := t2) (s2 := s2) (e2 := e2) (t3 := t3) (s3 := s3) (e3 := e3) (w := w) (s := s) (q := q) (ring := ring) (ρ := rhoE cs3) h1 h2 x d
      rw [← h3] at this; exact this
    · have := f24_2 (t1 := t1) (s1 := s1) (e1 := e1) (t2 := t2) (s2 := s2) (e2 := e2) (t3 := t3) (s3 := s3) (e3 := e3) (w := w) (s := s) (q := q) (ring := ring) (ρ := rhoE cs3) h1 h2 x d
      rw [← h3] at this; exact this
    · have := f24_3 (t1 := t1) (s1 := s1) (e1 := e1) (t2 := t2) (s2 := s2) (e2 := e2) (t3 := t3) (s3 := s3) (e3 := e3) (w := w) (s := s) (q := q) (ring := ring) (ρ := rhoE cs3) h1 h2 x d
      rw [← h3] at this; exact this
    · have := f24_17 (t1 := t1) (s1 := s1) (e1 := e1) (t2 := t2) (s2 := s2) (e2 := e2) (t3 := t3) (s3 := s3) (e3 := e3) (w := w) (s := s) (q := q) (ring := ring) (ρ := rhoE cs3) h1 h2 x d
      rw [← h3] at this; exact this
  · dsimp only at h
    obtain ⟨rfl, rfl, h1, h2⟩ := h
    obtain ⟨t1, s1, e1, t2, s2, e2, rfl⟩ := blks2 hb
    exact f24_nil h1 h2 x d
  · cases h
noncomputable def TXe : Tb := ext (ext TXd Fn.rotor_Find (rdE rdAX okP (fun a css => fndR a css a.x) [] (heapL deads))) Fn.rotor_CheckBracket (rdE rdAI okP (fun a css => i (checkR a css)) [] (heapL deads))
theorem tsXe {G : Nat} : TSound Tryd.prog G TXe :=
  (tsXd.ext (rd_ok ArA.valsX deads_len deads_flat deads_mem rdAX_ok okP_flat (fun _ _ _ => rfl) f23_small)).ext
    (rd_ok ArA.valsI deads_len deads_flat deads_mem rdAI_ok okP_flat (fun _ _ _ => rfl) f24_small)
end Go.Proofs.YtbocpikgochioaaDoor.Ways
namespace Go.Proofs.YtbocpikgochioaaDoor.Ways
open Go Go.Ex
/-! ### Refine -/
noncomputable def CXe : Cfg := ⟨TXe, spY, off_, noL⟩
def upA (a : ArA) : ArA := ⟨a.b, a.w, a.s, a.q, a.ring, wrapF .i64 (a.d + 1), 0⟩
def pick3 (E d x y z : Int) : Int := if E = 0 then (if d = 12 then x else y) else z
def ffE (a : ArA) (css : List (List Value)) (D : Int) : Int := fErr (firstE (sE_ a css) (rangeE D 1 12)) (hasB (scB a css) (cs12 css))
def refR (a : ArA) (css : List (List Value)) : Value :=
  tp [ag [i (pick3 (checkR a css) a.d 0 (okE (ffE (upA a) css (upA a).x) (brA (scB (upA a) css) (cs12 css) ((upA a).x - 1).toNat)) 0), i (pick3 (checkR a css) a.d 0 (okE (ffE (upA a) css (upA a).x) (upA a).x) 0)], i (pick3 (checkR a css) a.d 23 (ffE (upA a) css (upA a).x) (checkR a css))]
noncomputable def refT (a : ArA) (css : List (List Value)) : VT :=
  askB (tru (okP a css)) (.br (!eqF (checkR a css) 0) (.leaf (errF (checkR a css))) (.br (eqF a.d 12) (.leaf (errF 23)) (askB (tru (okP (upA a) css)) (.leaf (fndR (upA a) css (upA a).x)))))
theorem refT_sel {a : ArA} {css : List (List Value)} (h : okP a css) : (refT a css).sel = some (refR a css) := by
  unfold refT
  rw [askB_sel (tru_iff.2 h), eqF_d, eqF_d, brN, brD, askB_sel (tru_iff.2 (show okP (upA a) css from h))]
  unfold refR pick3
  by_cases h1 : checkR a css = 0
  · rw [if_pos h1, if_pos h1, if_pos h1, if_pos h1]
    by_cases h2 : a.d = 12
    · rw [if_pos h2, if_pos h2, if_pos h2, if_pos h2]; rfl
    · rw [if_neg h2, if_neg h2, if_neg h2, if_neg h2]; rfl
  · rw [if_neg h1, if_neg h1, if_neg h1, if_neg h1]; rfl
theorem f25_small : ∀ a css os, okP a css → Blks css os → ∃ H', Sound Tryd.prog (gl + css.length) (.call Fn.rotor_Refine ⟨a.valsI⟩ (heapL (deads ++ os))) (.val (refR a css) H') := by
  intro a css os h hb
  obtain ⟨⟨n1, c1, n2, c2, n, c, nl⟩, w, s, q, ring, x, d⟩ := a
  have h0 := h
  obtain ⟨h, hne⟩ := h
  dsimp only at h hne
  unfold okB at h
  split at h
  · rename_i cs1 cs2 cs3
    obtain ⟨hnl, _⟩ := h
    dsimp only at hnl
    subst hnl
    obtain ⟨t1, s1, e1, t2, s2, e2, t3, s3, e3, rfl⟩ := blks3 hb
    exact one_tree (C := CXe) (n := 60) (refT ⟨⟨n1, c1, n2, c2, n, c, false⟩, w, s, q, ring, x, d⟩ [cs1, cs2, cs3]) tsXe .none (by kernel_rfl) (by kernel_rfl) (refT_sel h0)
  · rename_i cs1 cs2
    obtain ⟨hnl, hn, _⟩ := h
    dsimp only at hnl hn
    subst hnl
    subst hn
    obtain ⟨t1, s1, e1, t2, s2, e2, rfl⟩ := blks2 hb
    have hv : BlA.val ⟨n1, c1, n2, c2, 0, c, true⟩ = BlA.val ⟨n1, c1, n2, c2, 0, 0, true⟩ := rfl
    have hr : ∀ y e : Int, rdAI [BlA.val ⟨n1, c1, n2, c2, 0, c, true⟩, flV w s q, i ring, ag [i y, i e]] = some ([4, 5], ⟨⟨n1, c1, n2, c2, 0, 0, true⟩, w, s, q, ring, y, e⟩) := fun _ _ => rfl
    have hok : okP ⟨⟨n1, c1, n2, c2, 0, 0, true⟩, w, s, q, ring, x, d⟩ [cs1, cs2] := ⟨⟨rfl, rfl, h0.1.2.2⟩, fun h => by cases h⟩
    exact one_tree (C := CXe) (n := 60) (refT ⟨⟨n1, c1, n2, c2, 0, 0, true⟩, w, s, q, ring, x, d⟩ [cs1, cs2]) tsXe .none (by kernel_rfl) (by kernel_rfl) (refT_sel hok)
  · cases h
/-! ### the reference's brackets -/
def spZ : Nat → Nat → Split := at_ [(Fn.ref03_IsBracket, 15), (Fn.ref03_IsBracket, 21), (Fn.ref03_IsBracket, 33), (Fn.ref03_Find, 15), (Fn.ref03_Find, 24)] .bool no_
noncomputable def TXf : Tb := ext TXe Fn.rotor_Refine (rdE rdAI okP refR [] (heapL deads))
theorem tsXf {G : Nat} : TSound Tryd.prog G TXf :=
  tsXe.ext (rd_ok ArA.valsI deads_len deads_flat deads_mem rdAI_ok okP_flat (fun _ _ _ => rfl) f25_small)
noncomputable def CXf : Cfg := ⟨TXf, spZ, off_, noL⟩
def rbUp (a : RbA) : RbA := ⟨a.n1, a.c1, a.n2, a.c2, a.r, a.c, a.t, a.p, a.w, a.s, a.q, wrapF .i64 (a.a + 1), a.d⟩
def isB (a : RbA) (css : List (List Value)) : Bool := !leF (powE (wrapF .i64 (a.d - 1))) a.a && (leF (rbalV a css) 0 && ltF 0 (rbalV (rbUp a) css))
end Go.Proofs.YtbocpikgochioaaDoor.Ways
namespace Go.Proofs.YtbocpikgochioaaDoor.Ways
open Go Go.Ex
/-! ### the balance rises with the induction -/
/-- a ring, a polar and a flow without errors -/
structure RV (cs1 : List Value) (n1 : Nat) (r c t p w s q : Int) : Prop where
  r : 1 ≤ r ∧ r ≤ 200
  c : 1 ≤ c ∧ c ≤ 100
  t : -64 ≤ t ∧ t ≤ 64
  p : 0 ≤ p ∧ p ≤ 256
  w : 1 ≤ w ∧ w ≤ 50
  s : 1 ≤ s ∧ s ≤ 1000
  q : -64 ≤ q ∧ q ≤ 64
  n : 1 ≤ n1 ∧ n1 ≤ 32
  l : ∀ j, j < n1 → riE cs1 1000 j = 0
section
variable {cs1 : List Value} {n1 : Nat} {r c t p w s q : Int}
theorem lift_bd (h : RV cs1 n1 r c t p w s q) {j : Nat} (hj : j < n1) : 0 ≤ eIE cs1 j ∧ eIE cs1 j ≤ 1000 := range_z (riE_zero (h.l j hj)).1
theorem lift_step (h : RV cs1 n1 r c t p w s q) {j : Nat} (hj : j + 1 < n1) : eIE cs1 j ≤ eIE cs1 (j + 1) := by
  have := (riE_zero (h.l (j + 1) hj)).2
  have hb : bfE cs1 (j + 1) = eIE cs1 j := rfl
  omega
theorem lift_mono (h : RV cs1 n1 r c t p w s q) {j : Nat} : ∀ k, j + k < n1 → eIE cs1 j ≤ eIE cs1 (j + k)
  | 0, _ => Int.le_refl _
  | k + 1, hk => Int.le_trans (lift_mono h k (by omega)) (lift_step h (by omega))
theorem cl_mono {y z : Int} {n : Nat} (h1 : 1 ≤ n) (h2 : n ≤ 32) (h : y ≤ z) : clE y n ≤ clE z n := by
  unfold clE
  rw [wrapF_in (by omega) (by omega)]
  split <;> split <;> split <;> omega
theorem liftE_mono (h : RV cs1 n1 r c t p w s q) {y z : Int} (hyz : y ≤ z) : liftE cs1 (clE y n1) ≤ liftE cs1 (clE z n1) ∧ 0 ≤ liftE cs1 (clE y n1) ∧ liftE cs1 (clE y n1) ≤ 1000 := by
  have hn := h.n
  have a1 := clE_in y hn.1 (by omega)
  have a2 := clE_in z hn.1 (by omega)
  have a3 := cl_mono hn.1 hn.2 hyz
  have e : ∀ k : Int, liftE cs1 k = eIE cs1 k.toNat := fun k => rfl
  rw [e, e]
  refine ⟨?_, lift_bd h (by omega)⟩
  have := lift_mono h (j := (clE y n1).toNat) ((clE z n1).toNat - (clE y n1).toNat) (by omega)
  rwa [show (clE y n1).toNat + ((clE z n1).toNat - (clE y n1).toNat) = (clE z n1).toNat from by omega] at this
/-- the balance, as the reference has it -/
def balT (cs1 : List Value) (n1 : Nat) (r c t p w s q x d : Int) : Int := balE r c p x d (liftE cs1 (clE (wrapF .i64 (wrapF .i64 (infE r w s x d - t) - q)) n1))
def twE_ (t q y : Int) : Int := wrapF .i64 (wrapF .i64 (y - t) - q)
theorem tw_eq {t q y : Int} (ht : -64 ≤ t ∧ t ≤ 64) (hq : -64 ≤ q ∧ q ≤ 64) (hy : 0 ≤ y ∧ y ≤ 209715200) : wrapF .i64 (wrapF .i64 (y - t) - q) = y - t - q := by
  rw [wrapF_in (n := y - t) (by omega) (by omega), wrapF_in (by omega) (by omega)]
theorem balE_eq {r c p x d lift : Int} (hr : 1 ≤ r ∧ r ≤ 200) (hc : 1 ≤ c ∧ c ≤ 100) (hp : 0 ≤ p ∧ p ≤ 256) (hd : 1 ≤ d ∧ d ≤ 12) (hx : 0 ≤ x ∧ x ≤ powE (d - 1)) (hl : 0 ≤ lift ∧ lift ≤ 1000) :
    balE r c p x d lift = 1024 * (x * (powE d - x)) * r - powE d * powE d * c * p * lift := by
  obtain ⟨p1, p2⟩ := pow_two hd
  have hpw := pow_bd hd
  have m1 := mul_bd (a := x) (b := powE d - x) (A := 4096) (B := 4096) (by omega) (by omega)
  have m2 := mul_bd (a := x * (powE d - x)) (b := r) (A := 4096 * 4096) (B := 200) m1 (by omega)
  have m3 := mul_bd (a := powE d) (b := powE d) (A := 4096) (B := 4096) (by omega) (by omega)
  have m4 := mul_bd (a := powE d * powE d) (b := c) (A := 4096 * 4096) (B := 100) m3 (by omega)
  have m5 := mul_bd (a := powE d * powE d * c) (b := p) (A := 4096 * 4096 * 100) (B := 256) m4 hp
  have m6 := mul_bd (a := powE d * powE d * c * p) (b := lift) (A := 4096 * 4096 * 100 * 256) (B := 1000) m5 hl
  have e0 : wrapF .i64 (1024 * x) = 1024 * x := wrapF_in (by omega) (by omega)
  have e1 : wrapF .i64 (powE d - x) = powE d - x := wrapF_in (by omega) (by omega)
  have e2 : 1024 * x * (powE d - x) = 1024 * (x * (powE d - x)) := Int.mul_assoc _ _ _
  have e3 : wrapF .i64 (1024 * (x * (powE d - x))) = 1024 * (x * (powE d - x)) := wrapF_in (by omega) (by omega)
  have e4 : 1024 * (x * (powE d - x)) * r = 1024 * (x * (powE d - x) * r) := Int.mul_assoc _ _ _
  have e5 : wrapF .i64 (1024 * (x * (powE d - x)) * r) = 1024 * (x * (powE d - x)) * r := wrapF_in (by omega) (by omega)
  have f1 : wrapF .i64 (powE d * powE d) = powE d * powE d := wrapF_in (by omega) (by omega)
  have f2 : wrapF .i64 (powE d * powE d * c) = powE d * powE d * c := wrapF_in (by omega) (by omega)
  have f3 : wrapF .i64 (powE d * powE d * c * p) = powE d * powE d * c * p := wrapF_in (by omega) (by omega)
  have f4 : wrapF .i64 (powE d * powE d * c * p * lift) = powE d * powE d * c * p * lift := wrapF_in (by omega) (by omega)
  unfold balE thrE
  rw [e0, e1, e2, e3, e5, f1, f2, f3, f4, wrapF_in (by omega) (by omega)]
theorem inf_anti {r w s x y d : Int} (hr : 1 ≤ r ∧ r ≤ 200) (hw : 1 ≤ w ∧ w ≤ 50) (hs : 1 ≤ s ∧ s ≤ 1000) (hd : 1 ≤ d ∧ d ≤ 12) (hx : 0 ≤ x ∧ x ≤ y) (hy : y ≤ powE (d - 1)) : infE r w s y d ≤ infE r w s x d := by
  obtain ⟨e1, _⟩ := inf_bd (a := y) hr hw hs hd ⟨by omega, hy⟩
  obtain ⟨e2, _⟩ := inf_bd (a := x) hr hw hs hd ⟨hx.1, by omega⟩
  obtain ⟨_, q2, _⟩ := den_eq hr hs hd
  rw [e1, e2]
  refine Int.ediv_le_ediv q2 ?_
  have := Int.mul_le_mul_of_nonneg_right (show 1024 * (powE d - y) ≤ 1024 * (powE d - x) from by omega) (show 0 ≤ w from by omega)
  exact this
theorem bal_mono (h : RV cs1 n1 r c t p w s q) {x y d : Int} (hd : 1 ≤ d ∧ d ≤ 12) (hx : 0 ≤ x ∧ x ≤ y) (hy : y ≤ powE (d - 1)) : balT cs1 n1 r c t p w s q x d ≤ balT cs1 n1 r c t p w s q y d := by
  obtain ⟨p1, p2⟩ := pow_two hd
  have hi := inf_anti h.r h.w h.s hd hx hy
  obtain ⟨_, b1, b2⟩ := inf_bd (a := x) h.r h.w h.s hd ⟨hx.1, by omega⟩
  obtain ⟨_, b3, b4⟩ := inf_bd (a := y) h.r h.w h.s hd ⟨by omega, hy⟩
  unfold balT
  rw [tw_eq h.t h.q ⟨b1, b2⟩, tw_eq h.t h.q ⟨b3, b4⟩]
  obtain ⟨l1, l2, l3⟩ := liftE_mono h (y := infE r w s y d - t - q) (z := infE r w s x d - t - q) (by omega)
  obtain ⟨_, l5, l6⟩ := liftE_mono h (y := infE r w s x d - t - q) (z := infE r w s x d - t - q) (Int.le_refl _)
  rw [balE_eq h.r h.c h.p hd ⟨hx.1, by omega⟩ ⟨l5, l6⟩, balE_eq h.r h.c h.p hd ⟨by omega, hy⟩ ⟨l2, l3⟩]
  generalize liftE cs1 (clE (infE r w s x d - t - q) n1) = L1 at *
  generalize liftE cs1 (clE (infE r w s y d - t - q) n1) = L2 at *
  have hpw := pow_bd hd
  have m1 : x * (powE d - x) ≤ y * (powE d - y) := by
    have : 0 ≤ (y - x) * (powE d - x - y) := Int.mul_nonneg (by omega) (by omega)
    grind
  have m2 : 1024 * (x * (powE d - x)) * r ≤ 1024 * (y * (powE d - y)) * r := Int.mul_le_mul_of_nonneg_right (by omega) (by have := h.r; omega)
  have m3 : 0 ≤ powE d * powE d * c * p := Int.mul_nonneg (Int.mul_nonneg (Int.mul_nonneg (by omega) (by omega)) (by have := h.c; omega)) h.p.1
  have m4 := Int.mul_le_mul_of_nonneg_left l1 m3
  omega
theorem bal_two (h : RV cs1 n1 r c t p w s q) {x d : Int} (hd : 1 ≤ d ∧ d ≤ 11) (hx : 0 ≤ x ∧ x ≤ powE (d - 1)) : balT cs1 n1 r c t p w s q (2 * x) (d + 1) = 4 * balT cs1 n1 r c t p w s q x d := by
  have hd1 : 1 ≤ d ∧ d ≤ 12 := by omega
  have hd2 : 1 ≤ d + 1 ∧ d + 1 ≤ 12 := by omega
  obtain ⟨p1, p2⟩ := pow_two hd1
  obtain ⟨p3, p4⟩ := pow_two hd2
  have e0 : d + 1 - 1 = d := by omega
  rw [e0] at p3 p4
  obtain ⟨i1, b1, b2⟩ := inf_bd (a := x) h.r h.w h.s hd1 hx
  obtain ⟨i2, b3, b4⟩ := inf_bd (a := 2 * x) h.r h.w h.s hd2 ⟨by omega, by rw [e0]; omega⟩
  have hinf : infE r w s (2 * x) (d + 1) = infE r w s x d := by
    rw [i1, i2, p3]
    rw [show 1024 * (2 * powE d - 2 * x) * w = 2 * (1024 * (powE d - x) * w) from by grind, show 2 * powE d * s * r = 2 * (powE d * s * r) from by grind]
    exact Int.mul_ediv_mul_of_pos _ _ (by decide)
  unfold balT
  rw [hinf]
  obtain ⟨_, l5, l6⟩ := liftE_mono h (y := wrapF .i64 (wrapF .i64 (infE r w s x d - t) - q)) (z := wrapF .i64 (wrapF .i64 (infE r w s x d - t) - q)) (Int.le_refl _)
  rw [balE_eq h.r h.c h.p hd1 hx ⟨l5, l6⟩, balE_eq h.r h.c h.p hd2 ⟨by omega, by rw [e0]; omega⟩ ⟨l5, l6⟩, p3]
  grind
theorem bal_zero (h : RV cs1 n1 r c t p w s q) {d : Int} (hd : 1 ≤ d ∧ d ≤ 12) : balT cs1 n1 r c t p w s q 0 d ≤ 0 := by
  obtain ⟨p1, p2⟩ := pow_two hd
  unfold balT
  obtain ⟨_, l5, l6⟩ := liftE_mono h (y := wrapF .i64 (wrapF .i64 (infE r w s 0 d - t) - q)) (z := wrapF .i64 (wrapF .i64 (infE r w s 0 d - t) - q)) (Int.le_refl _)
  rw [balE_eq h.r h.c h.p hd ⟨by omega, by omega⟩ ⟨l5, l6⟩]
  have m3 : 0 ≤ powE d * powE d * c * p * liftE cs1 (clE (wrapF .i64 (wrapF .i64 (infE r w s 0 d - t) - q)) n1) := Int.mul_nonneg (Int.mul_nonneg (Int.mul_nonneg (Int.mul_nonneg (by have := pow_bd hd; omega) (by have := pow_bd hd; omega)) (by have := h.c; omega)) h.p.1) l5
  rw [Int.zero_mul, Int.mul_zero, Int.zero_mul]
  omega
/-- the program's section has the same balance -/
theorem balV_eq (h : RV cs1 n1 r c t p w s q) {x d : Int} (hd : 1 ≤ d ∧ d ≤ 12) (hx : 0 ≤ x ∧ x ≤ powE (d - 1)) {c1 n2 c2 : Nat} {cs2 : List Value} : balV (⟨r, c, wrapF .i64 (t + q), p, w, s, n1, c1, n2, c2⟩, x, d) [cs1, cs2] = balT cs1 n1 r c t p w s q x d := by
  obtain ⟨_, b1, b2⟩ := inf_bd (a := x) h.r h.w h.s hd hx
  show balE r c p x d (liftE cs1 (clE (wrapF .i64 (infE r w s x d - wrapF .i64 (t + q))) n1)) = _
  rw [twist_eq ⟨b1, by omega⟩ h.t h.q]; rfl
theorem pow_nat (j : Nat) : powE ((j : Nat) : Int) = ((2 ^ j : Nat) : Int) := by
  unfold powE
  rw [Int.toNat_natCast]
  exact (Int.natCast_pow 2 j).symm
/-- the bracket -/
theorem br_inv (h : RV cs1 n1 r c t p w s q) {c1 n2 c2 : Nat} {cs2 : List Value} (hb : 0 < balT cs1 n1 r c t p w s q 1 1) :
    ∀ j : Nat, j ≤ 11 → 0 ≤ brA ⟨r, c, wrapF .i64 (t + q), p, w, s, n1, c1, n2, c2⟩ [cs1, cs2] j ∧ brA ⟨r, c, wrapF .i64 (t + q), p, w, s, n1, c1, n2, c2⟩ [cs1, cs2] j + 1 ≤ powE (j : Int) ∧
      balT cs1 n1 r c t p w s q (brA ⟨r, c, wrapF .i64 (t + q), p, w, s, n1, c1, n2, c2⟩ [cs1, cs2] j) ((j : Int) + 1) ≤ 0 ∧ 0 < balT cs1 n1 r c t p w s q (brA ⟨r, c, wrapF .i64 (t + q), p, w, s, n1, c1, n2, c2⟩ [cs1, cs2] j + 1) ((j : Int) + 1)
  | 0, _ => ⟨Int.le_refl _, (by decide : (0 : Int) + 1 ≤ powE 0), bal_zero h ⟨by decide, by decide⟩, hb⟩
  | j + 1, hj => by
    obtain ⟨i1, i2, i3, i4⟩ := br_inv h (c1 := c1) (n2 := n2) (c2 := c2) (cs2 := cs2) hb j (by omega)
    have hdef : brA ⟨r, c, wrapF .i64 (t + q), p, w, s, n1, c1, n2, c2⟩ [cs1, cs2] (j + 1) = finA ⟨r, c, wrapF .i64 (t + q), p, w, s, n1, c1, n2, c2⟩ [cs1, cs2] (brA ⟨r, c, wrapF .i64 (t + q), p, w, s, n1, c1, n2, c2⟩ [cs1, cs2] j) ((j + 1 : Nat) : Int) := rfl
    rw [hdef]
    generalize brA ⟨r, c, wrapF .i64 (t + q), p, w, s, n1, c1, n2, c2⟩ [cs1, cs2] j = x at *
    have hd : 1 ≤ (j : Int) + 1 ∧ (j : Int) + 1 ≤ 11 := by omega
    have hP : powE (((j + 1 : Nat) : Int)) = 2 * powE (j : Int) := by
      obtain ⟨g1, _⟩ := pow_two (d := (j : Int) + 1) (by omega)
      rw [show (j : Int) + 1 - 1 = (j : Int) from by omega] at g1
      rw [show ((j + 1 : Nat) : Int) = (j : Int) + 1 from by omega]
      exact g1
    have hPb := pow_bd (d := (j : Int) + 1) (by omega)
    have hPj : powE (j : Int) ≤ 4096 := by
      rw [show ((j + 1 : Nat) : Int) = (j : Int) + 1 from by omega] at hP
      omega
    have e1 : wrapF .i64 (2 * x) = 2 * x := wrapF_in (by omega) (by omega)
    have e2 : upE x = 2 * x + 1 := by unfold upE; rw [e1, wrapF_in (by omega) (by omega)]
    have e3 : wrapF .i64 (((j + 1 : Nat) : Int) + 1) = (j : Int) + 1 + 1 := by rw [wrapF_in (by omega) (by omega)]; omega
    have e4 : (j : Int) + 1 + 1 - 1 = ((j + 1 : Nat) : Int) := by omega
    have e5 : (j : Int) + 1 - 1 = (j : Int) := by omega
    have t1 := bal_two h (x := x) (d := (j : Int) + 1) hd ⟨i1, by rw [e5]; omega⟩
    have t2 := bal_two h (x := x + 1) (d := (j : Int) + 1) hd ⟨by omega, by rw [e5]; omega⟩
    rw [show 2 * (x + 1) = 2 * x + 1 + 1 from by omega] at t2
    unfold finA
    rw [e1, e2, e3, balV_eq h (by omega) ⟨by omega, by rw [e4, hP]; omega⟩]
    rw [show ((j + 1 : Nat) : Int) + 1 = (j : Int) + 1 + 1 from by omega]
    by_cases hc : balT cs1 n1 r c t p w s q (2 * x + 1) ((j : Int) + 1 + 1) ≤ 0
    · rw [if_pos hc]
      exact ⟨by omega, by rw [hP]; omega, hc, by omega⟩
    · rw [if_neg hc]
      exact ⟨by omega, by rw [hP]; omega, by omega, by omega⟩
theorem half_inv (h : RV cs1 n1 r c t p w s q) (hb : balT cs1 n1 r c t p w s q 1 1 ≤ 0) : ∀ j : Nat, j ≤ 11 → balT cs1 n1 r c t p w s q (powE (j : Int)) ((j : Int) + 1) ≤ 0
  | 0, _ => hb
  | j + 1, hj => by
    have ih := half_inv h hb j (by omega)
    have hP : powE (((j + 1 : Nat) : Int)) = 2 * powE (j : Int) := by
      obtain ⟨g1, _⟩ := pow_two (d := (j : Int) + 1) (by omega)
      rw [show (j : Int) + 1 - 1 = (j : Int) from by omega] at g1
      rw [show ((j + 1 : Nat) : Int) = (j : Int) + 1 from by omega]
      exact g1
    have e5 : (j : Int) + 1 - 1 = (j : Int) := by omega
    have t1 := bal_two h (x := powE (j : Int)) (d := (j : Int) + 1) (by omega) ⟨by rw [pow_nat]; exact Int.natCast_nonneg _, by rw [e5]; omega⟩
    rw [hP, show ((j + 1 : Nat) : Int) + 1 = (j : Int) + 1 + 1 from by omega, t1]
    omega
end
end Go.Proofs.YtbocpikgochioaaDoor.Ways
namespace Go.Ex
end Go.Ex
namespace Go.Proofs.YtbocpikgochioaaDoor.Ways
open Go Go.Ex
section
variable {cs1 cs2 : List Value} {n1 n2 : Nat} {r c t p w s q : Int}
def AA (n1 n2 : Nat) (r c t p w s q : Int) : ScA := ⟨r, c, wrapF .i64 (t + q), p, w, s, n1, n1, n2, n2⟩
def RR (n1 n2 : Nat) (r c t p w s q x d : Int) : RbA := ⟨n1, n1, n2, n2, r, c, t, p, w, s, q, x, d⟩
theorem hasB_eq (h : RV cs1 n1 r c t p w s q) : hasB (AA n1 n2 r c t p w s q) [cs1, cs2] = decide (0 < balT cs1 n1 r c t p w s q 1 1) := by
  unfold hasB AA
  rw [balV_eq h ⟨by decide, by decide⟩ ⟨by decide, by decide⟩, leF_d]
  by_cases hb : balT cs1 n1 r c t p w s q 1 1 ≤ 0
  · rw [decide_eq_true hb, decide_eq_false (by omega)]; rfl
  · rw [decide_eq_false hb, decide_eq_true (by omega)]; rfl
end
end Go.Proofs.YtbocpikgochioaaDoor.Ways
