import Derived.Test.YtafpmehhdcmllaaGreatDoorMr1
noncomputable section
namespace Go.Proofs.YtafpmehhdcmllaaGreatDoor.Ways
open Go Go.Ex Go.RowKit
def aV (b : Bool) (t : VT) : VT := .br b t .fail
def lv (e : Int) : VT := .leaf (i e)
theorem aV_sel {b : Bool} {t : VT} (h : b = true) : (aV b t).sel = t.sel := by rw [h]; rfl
theorem aP {P : Prop} {t : VT} (h : P) : (aV (tru P) t).sel = t.sel := aV_sel (tru_iff.2 h)
theorem vb_t {b : Bool} {t e : VT} (h : b = true) : (VT.br b t e).sel = t.sel := by rw [h]; rfl
theorem vb_f {b : Bool} {t e : VT} (h : b = false) : (VT.br b t e).sel = e.sel := by rw [h]; rfl
noncomputable def C5 : Cfg := ⟨T4, at_ [(19, 6), (19, 11), (19, 15), (19, 21), (19, 27), (107, 18), (42, 23), (50, 31), (50, 19)] .bool no_, off_, noL⟩
theorem rg_ou (x lo hi : Int) : rgE x lo hi = if ouE x lo hi = true then 3 else 0 := by
  rw [← ouE_rg]
  cases ouE x lo hi <;> rfl
theorem rg_or (x lo hi : Int) : rgE x lo hi = 0 ∨ rgE x lo hi = 3 := by
  rw [rg_ou]
  by_cases h : ouE x lo hi = true
  · rw [if_pos h]; exact .inr rfl
  · rw [if_neg h]; exact .inl rfl
/-! prices -/
def pcE (a b c : Int) : Int := if prE a ≠ 0 ∨ prE b ≠ 0 ∨ prE c ≠ 0 then 3 else if a ≤ b ∧ b ≤ c then 0 else 11
def eq3 (a b c : Int) : Bool := a == oA a b c && (b == oB a b c && (c == oC a b c && true))
theorem eq3_iff (a b c : Int) : eq3 a b c = true ↔ a ≤ b ∧ b ≤ c := by
  unfold eq3
  simp only [Bool.and_eq_true, beq_iff_eq, and_true]
  unfold oA oB oC
  by_cases h1 : b < a <;> by_cases h2 : c < a <;> by_cases h3 : c < b <;> simp [h1, h2, h3] <;> omega
theorem p25 (a b c : Int) : Pure Tryz.prog Hd 25 [ag [i a, i b, i c]] (i (pcE a b c)) := by
  refine pure_run (C := C5) (G := 4) 60 (aV (tru (okI [i (prE a), i (prE b), i (prE c), i (thE (eq3 a b c) 11)] 4 4)) (lv (fst4 (prE a) (prE b) (prE c) (thE (eq3 a b c) 11)))) ts4 .none (by decide) hd_len rfl (by kernel_rfl) (by kernel_rfl) ?_
  rw [aP (okI4 _ _ _ _)]
  show some (i _) = some (i _)
  rw [fst4_eq]
  unfold pcE
  have h3 : ∀ x, prE x = 0 ∨ prE x = 3 := fun x => rg_or x _ _
  rcases h3 a with h | h <;> rcases h3 b with h' | h' <;> rcases h3 c with h'' | h'' <;> simp only [h, h', h''] <;> simp
  have e := eq3_iff a b c
  unfold thE
  by_cases hh : a ≤ b ∧ b ≤ c
  · rw [e.2 hh, if_pos hh]; rfl
  · rw [if_neg hh, Bool.eq_false_iff.2 (fun h => hh (e.1 h))]; rfl
def X19 (a b c : Int) : VT := .br (ltF b a) (.br true (lv 11) (lv 0)) (.br (ltF c b) (lv 11) (lv 0))
def Y19 (a b c : Int) : VT := .br (ouE c 0 10000) (lv 3) (X19 a b c)
theorem x19_sel (a b c : Int) : (X19 a b c).sel = some (i (if a ≤ b ∧ b ≤ c then 0 else 11)) := by
  unfold X19
  by_cases h1 : b < a
  · rw [vb_t (by rw [ltF_eq]; exact decide_eq_true h1), if_neg (by omega)]; rfl
  · rw [vb_f (by rw [ltF_eq]; exact decide_eq_false h1)]
    by_cases h2 : c < b
    · rw [vb_t (by rw [ltF_eq]; exact decide_eq_true h2), if_neg (by omega)]; rfl
    · rw [vb_f (by rw [ltF_eq]; exact decide_eq_false h2), if_pos (by omega)]; rfl
theorem p19 (a b c : Int) : Pure Tryz.prog Hd 19 [ag [i a, i b, i c]] (i (pcE a b c)) := by
  refine pure_run (C := C5) (G := 4) 60 (.br (ouE a 0 10000) (.br true (.br true (lv 3) (X19 a b c)) (Y19 a b c)) (.br (ouE b 0 10000) (.br true (lv 3) (X19 a b c)) (Y19 a b c))) ts4 .none (by decide) hd_len rfl (by kernel_rfl) (by kernel_rfl) ?_
  have hp : ∀ x, prE x = if ouE x 0 10000 = true then 3 else 0 := fun x => rg_ou x _ _
  unfold pcE
  rw [hp a, hp b, hp c]
  cases h1 : ouE a 0 10000 with
  | true => rw [vb_t rfl, vb_t rfl, vb_t rfl]; simp [lv, VT.sel]
  | false =>
    rw [vb_f rfl]
    cases h2 : ouE b 0 10000 with
    | true => rw [vb_t rfl, vb_t rfl]; simp [lv, VT.sel]
    | false =>
      rw [vb_f rfl]
      unfold Y19
      cases h3 : ouE c 0 10000 with
      | true => rw [vb_t rfl]; simp [lv, VT.sel]
      | false => rw [vb_f rfl, x19_sel]; simp
/-! quarters -/
def qcE (a b c d e : Int) : Int := if toE a ≠ 0 ∨ toE b ≠ 0 ∨ toE c ≠ 0 ∨ toE d ≠ 0 ∨ toE e ≠ 0 then 3 else if b = baE c d e then 0 else 30
def eq5 (a b c d e : Int) : Bool := a == a && (b == baE c d e && (c == c && (d == d && (e == e && true))))
theorem eq5_iff (a b c d e : Int) : eq5 a b c d e = decide (b = baE c d e) := by
  unfold eq5
  rw [Bool.eq_iff_iff]
  simp
noncomputable def F55 (x : Int) (q : Bool) : VT := aV (tru (okI [i x, i (thE q 30)] 2 2)) (lv (fst2 x (thE q 30)))
theorem fst2' (a b : Int) : fst2 a b = if a ≠ 0 then a else b := by
  rw [fst2_eq]
  by_cases h : b = 0
  · rw [if_neg (show ¬ b ≠ 0 by simpa using h), h]
  · rw [if_pos h]
theorem f55_sel (x : Int) (q : Bool) : (F55 x q).sel = some (i (if x ≠ 0 then x else thE q 30)) := by
  unfold F55
  rw [aP (okI2 _ _), ← fst2']; rfl
theorem ne_f {x : Int} (h : x = 0) : (!eqF x 0) = false := by rw [eqF_d, decide_eq_true h]; rfl
theorem ne_t {x : Int} (h : x ≠ 0) : (!eqF x 0) = true := by rw [eqF_d, decide_eq_false h]; rfl
theorem p55 (a b c d e : Int) : Pure Tryz.prog Hd 55 [ag [i a, i b, i c, i d, i e]] (i (qcE a b c d e)) := by
  refine pure_run (C := C5) (G := 4) 60 (.br (!eqF (toE a) 0) (F55 (toE a) (eq5 a b c d e)) (.br (!eqF (toE b) 0) (F55 (toE b) (eq5 a b c d e)) (.br (!eqF (toE c) 0) (F55 (toE c) (eq5 a b c d e)) (.br (!eqF (toE d) 0) (F55 (toE d) (eq5 a b c d e)) (.br (!eqF (toE e) 0) (F55 (toE e) (eq5 a b c d e)) (F55 0 (eq5 a b c d e))))))) ts4 .none (by decide) hd_len rfl (by kernel_rfl) (by kernel_rfl) ?_
  have h3 : ∀ x, toE x = 0 ∨ toE x = 3 := fun x => rg_or x _ _
  have e3 : ¬ (3 : Int) = 0 := by decide
  unfold qcE
  rcases h3 a with ha | ha
  · rw [vb_f (ne_f ha)]
    rcases h3 b with hb | hb
    · rw [vb_f (ne_f hb)]
      rcases h3 c with hc | hc
      · rw [vb_f (ne_f hc)]
        rcases h3 d with hd | hd
        · rw [vb_f (ne_f hd)]
          rcases h3 e with he | he
          · rw [vb_f (ne_f he), f55_sel, ha, hb, hc, hd, he, eq5_iff]
            unfold thE
            by_cases hq : b = baE c d e
            · rw [decide_eq_true hq]; simp [hq]
            · rw [decide_eq_false hq]; simp [hq]
          · rw [vb_t (ne_t (by rw [he]; exact e3)), f55_sel, he]; simp
        · rw [vb_t (ne_t (by rw [hd]; exact e3)), f55_sel, hd]; simp
      · rw [vb_t (ne_t (by rw [hc]; exact e3)), f55_sel, hc]; simp
    · rw [vb_t (ne_t (by rw [hb]; exact e3)), f55_sel, hb]; simp
  · rw [vb_t (ne_t (by rw [ha]; exact e3)), f55_sel, ha]; simp
def Z50 (x b q : Int) : VT := .br (!eqF x 0) (lv x) (.br (!eqF b q) (lv 30) (lv 0))
theorem z50_3 (b q : Int) : (Z50 3 b q).sel = some (i 3) := rfl
theorem z50_0 (b q : Int) : (Z50 0 b q).sel = some (i (if b = q then 0 else 30)) := by
  show (VT.br (!eqF b q) (lv 30) (lv 0)).sel = _
  rw [eqF_d]
  by_cases h : b = q
  · rw [decide_eq_true h, if_pos h]; rfl
  · rw [decide_eq_false h, if_neg h]; rfl
theorem p50 (a b c d e : Int) : Pure Tryz.prog Hd 50 [ag [i a, i b, i c, i d, i e]] (i (qcE a b c d e)) := by
  refine pure_run (C := C5) (G := 4) 60 (.br (ouE a 0 6400000) (Z50 3 b (baE c d e)) (.br (ouE b 0 6400000) (Z50 3 b (baE c d e)) (.br (ouE c 0 6400000) (Z50 3 b (baE c d e)) (.br (ouE d 0 6400000) (Z50 3 b (baE c d e)) (.br (ouE e 0 6400000) (Z50 3 b (baE c d e)) (Z50 0 b (baE c d e))))))) ts4 .none (by decide) hd_len rfl (by kernel_rfl) (by kernel_rfl) ?_
  have hp : ∀ x, toE x = if ouE x 0 6400000 = true then 3 else 0 := fun x => rg_ou x _ _
  unfold qcE
  rw [hp a, hp b, hp c, hp d, hp e]
  cases h1 : ouE a 0 6400000 with
  | true => rw [vb_t rfl, z50_3]; simp
  | false =>
    rw [vb_f rfl]
    cases h2 : ouE b 0 6400000 with
    | true => rw [vb_t rfl, z50_3]; simp
    | false =>
      rw [vb_f rfl]
      cases h3 : ouE c 0 6400000 with
      | true => rw [vb_t rfl, z50_3]; simp
      | false =>
        rw [vb_f rfl]
        cases h4 : ouE d 0 6400000 with
        | true => rw [vb_t rfl, z50_3]; simp
        | false =>
          rw [vb_f rfl]
          cases h5 : ouE e 0 6400000 with
          | true => rw [vb_t rfl, z50_3]; simp
          | false => rw [vb_f rfl, z50_0]; simp
def s25 : List Value → Option Value
  | [.agg ⟨[.int .i64 a, .int .i64 b, .int .i64 c]⟩] => some (i (pcE a b c))
  | _ => none
def s55 : List Value → Option Value
  | [.agg ⟨[.int .i64 a, .int .i64 b, .int .i64 c, .int .i64 d, .int .i64 e]⟩] => some (i (qcE a b c d e))
  | _ => none
noncomputable def T5 : Tb := ext (ext (ext (ext T4 25 (pureE s25 [] Hd)) 19 (pureE s25 [] Hd)) 55 (pureE s55 [] Hd)) 50 (pureE s55 [] Hd)
theorem ts5 {G : Nat} : TSound Tryz.prog G T5 := by
  refine (((ts4.pure hd_vars fun args v h => ?_).pure hd_vars fun args v h => ?_).pure hd_vars fun args v h => ?_).pure hd_vars fun args v h => ?_
  · unfold s25 at h
    split at h
    · cases h; exact p25 _ _ _
    · cases h
  · unfold s25 at h
    split at h
    · cases h; exact p19 _ _ _
    · cases h
  · unfold s55 at h
    split at h
    · cases h; exact p55 _ _ _ _ _
    · cases h
  · unfold s55 at h
    split at h
    · cases h; exact p50 _ _ _ _ _
    · cases h
end Go.Proofs.YtafpmehhdcmllaaGreatDoor.Ways
noncomputable section
namespace Go.Proofs.YtafpmehhdcmllaaGreatDoor.Ways
open Go Go.Ex Go.RowKit
/-! ### rows of integers -/
def k2 : List CK := [.i .i64, .i .i64]
def k3 : List CK := [.i .i64, .i .i64, .i .i64]
def k5 : List CK := [.i .i64, .i .i64, .i .i64, .i .i64, .i .i64]
def ce (w k : Nat) (cs : List Value) (j : Nat) : Int := intO cs[0 + j * w + k]?
def cR (ks : List CK) (w : Nat) (cs : List Value) (j : Int) : Bool := areCells ks cs (0 + j.toNat * w)
def okR (ks : List CK) (w : Nat) (cs : List Value) (n c : Nat) : Prop := cs.all Ex.flat = true ∧ n ≤ c ∧ n < 9223372036854775808 ∧ ∀ j, j < n → areCells ks cs (0 + j * w) = true
theorem cR_t {ks : List CK} {w : Nat} {cs : List Value} {n c j : Nat} (h : okR ks w cs n c) (hj : j < n) : cR ks w cs (j : Int) = true := h.2.2.2 j hj
/-- a loop that looks for the first error -/
def stF (ks : List CK) (w : Nat) (e : Nat → Int) (cs : List Value) (len cap m1 m0 : Nat) (ρ : List Nat) (n : Int) : SS Int :=
  .br (ltF n len) (askS (bnd_ n len cap) <| askS (cR ks w cs n) <| .br (!eqF (e n.toNat) 0) (.done m1 ρ 1) (.next m1 ρ (wrapF .i64 (n + 1)))) (.done m0 ρ 0)
def FirstR (e : Nat → Int) (len : Nat) (r : Nat × Int) : Prop := (firstF e len 0 = 0 ∧ r = (0, (len : Int))) ∨ (firstF e len 0 ≠ 0 ∧ ∃ j : Nat, j < len ∧ r = (1, (j : Int)) ∧ e j = firstF e len 0 ∧ ∀ k, k < j → e k = 0)
theorem runF {ks : List CK} {w : Nat} {e : Nat → Int} {cs : List Value} {len cap m1 m0 : Nat} {ρ : List Nat} (h : okR ks w cs len cap) : ∃ r, runS (stF ks w e cs len cap m1 m0 ρ) (len + 1) 0 = some r ∧ FirstR e len r := by
  obtain ⟨_, hc, hl, hk⟩ := h
  refine run_first (st := fun j => ((j : Nat) : Int)) (e := e) (a := 0) (b := fun _ => 1) len (fun j hj he => ?_) (fun j hj he => ?_) ?_
  · unfold stF
    rw [br_t (by rw [ltF_eq]; simpa using hj), askS_sel (bnd_t hj hc), askS_sel (by exact hk j hj), show ((j : Nat) : Int).toNat = j from rfl, br_f (by rw [eqF_d]; simp [he]), wsucc (by omega)]; rfl
  · unfold stF
    rw [br_t (by rw [ltF_eq]; simpa using hj), askS_sel (bnd_t hj hc), askS_sel (by exact hk j hj), show ((j : Nat) : Int).toNat = j from rfl, br_t (by rw [eqF_d]; simp [he])]; rfl
  · unfold stF
    rw [br_f (by rw [ltF_eq]; simp)]; rfl
def vtF (e : Nat → Int) (r : Nat × Int) : VT := .br (Nat.beq r.1 0) (lv 0) (.br (Nat.beq r.1 1) (lv (e r.2.toNat)) .fail)
theorem vtF_sel {e : Nat → Int} {len : Nat} {r : Nat × Int} (h : FirstR e len r) : (vtF e r).sel = some (i (firstF e len 0)) := by
  rcases h with ⟨h1, rfl⟩ | ⟨_, j, _, rfl, h2, _⟩
  · rw [h1]; rfl
  · rw [← h2]; rfl
def eP (cs : List Value) (j : Nat) : Int := pcE (ce 3 0 cs j) (ce 3 1 cs j) (ce 3 2 cs j)
def eQ (cs : List Value) (j : Nat) : Int := qcE (ce 5 0 cs j) (ce 5 1 cs j) (ce 5 2 cs j) (ce 5 3 cs j) (ce 5 4 cs j)
noncomputable def B157 : Code := bodyL Tryz.f157 2
noncomputable def B183 : Code := bodyL Tryz.f183 2
noncomputable def B115 : Code := bodyL Tryz.f115 4
noncomputable def B51 : Code := bodyL Tryz.f51 7
noncomputable def sp6 : Nat → Nat → Split := at_ [(157, 11), (157, 18), (183, 11), (183, 18), (115, 7), (115, 11), (115, 20), (51, 11), (51, 15), (51, 19), (51, 28), (51, 34)] .bool no_
def sy6 : Nat → Nat → Bool := on_ [(157, 12), (157, 13), (183, 12), (183, 13), (115, 16), (115, 17), (51, 24), (51, 25)]
noncomputable def C6 : Cfg := ⟨T5, sp6, sy6, noL⟩
section
variable (cs : List Value) (t s len cap : Nat) (ex : Bool)
def S157 : Shape Int := ⟨21, fun n => ⟨[(1, fn 25), (8, sl 4 0 len cap), (9, i len), (10, i n)], hpI cs t s ex⟩, fun j n => match j with
  | 0 => (.exit 0, ⟨[], hpI cs t s ex⟩)
  | _ => (.ret, ⟨[(4, i (eP cs n.toNat))], hpI cs t s ex⟩)⟩
def S183 : Shape Int := ⟨21, fun n => ⟨[(1, fn 55), (8, sl 4 0 len cap), (9, i len), (10, i n)], hpI cs t s ex⟩, fun j n => match j with
  | 0 => (.exit 0, ⟨[], hpI cs t s ex⟩)
  | _ => (.ret, ⟨[(4, i (eQ cs n.toNat))], hpI cs t s ex⟩)⟩
def S115 : Shape Int := ⟨22, fun n => ⟨[(0, sl 4 0 len cap), (3, i n)], hpI cs t s ex⟩, fun j n => match j with
  | 0 => (.exit 0, ⟨[], hpI cs t s ex⟩)
  | _ => (.ret, ⟨[(2, i (eQ cs n.toNat))], hpI cs t s ex⟩)⟩
noncomputable def K157 (r : Nat × Int) : Cfg := ⟨T5, sp6, sy6, loopE noL 157 2 21 5 B157 ((S157 cs t s len cap ex).st 0).live ((S157 cs t s len cap ex).st 0).hp (finO (S157 cs t s len cap ex) r [0, 1])⟩
noncomputable def K183 (r : Nat × Int) : Cfg := ⟨T5, sp6, sy6, loopE noL 183 2 21 5 B183 ((S183 cs t s len cap ex).st 0).live ((S183 cs t s len cap ex).st 0).hp (finO (S183 cs t s len cap ex) r [0, 1])⟩
noncomputable def K115 (r : Nat × Int) : Cfg := ⟨T5, sp6, sy6, loopE noL 115 4 22 5 B115 ((S115 cs t s len cap ex).st 0).live ((S115 cs t s len cap ex).st 0).hp (finO (S115 cs t s len cap ex) r [0, 1])⟩
noncomputable def o157 (r : Nat × Int) : Out QRes := execO Tryz.prog 5 (K157 cs t s len cap ex r) 40 (.call 157 ⟨[sl 4 0 len cap, fn 25]⟩ (heapL (deads ++ [.cells cs t s ex])))
noncomputable def o183 (r : Nat × Int) : Out QRes := execO Tryz.prog 5 (K183 cs t s len cap ex r) 40 (.call 183 ⟨[sl 4 0 len cap, fn 55]⟩ (heapL (deads ++ [.cells cs t s ex])))
noncomputable def o115 (r : Nat × Int) : Out QRes := execO Tryz.prog 5 (K115 cs t s len cap ex r) 40 (.call 115 ⟨[sl 4 0 len cap]⟩ (heapL (deads ++ [.cells cs t s ex])))
theorem v157 (r : Nat × Int) : (o157 cs t s len cap ex r).vals = vtF (eP cs) r := by kernel_rfl
theorem x157 (r : Nat × Int) : o157 cs t s len cap ex r = (o157 cs t s len cap ex r).fix := by kernel_rfl
theorem v183 (r : Nat × Int) : (o183 cs t s len cap ex r).vals = vtF (eQ cs) r := by kernel_rfl
theorem x183 (r : Nat × Int) : o183 cs t s len cap ex r = (o183 cs t s len cap ex r).fix := by kernel_rfl
theorem v115 (r : Nat × Int) : (o115 cs t s len cap ex r).vals = .br (ltF 96 len) (lv 5) (vtF (eQ cs) r) := by kernel_rfl
theorem x115 (r : Nat × Int) : o115 cs t s len cap ex r = (o115 cs t s len cap ex r).fix := by kernel_rfl
end
section
variable {cs : List Value} {t s len cap : Nat} {ex : Bool}
theorem L157 (h : cs.all Ex.flat = true) : Loop1 Tryz.prog 5 157 B157 (S157 cs t s len cap ex) 5 (stF k3 3 (eP cs) cs len cap 6 5 [0, 1, 2, 3, 4]) (fun _ => True) :=
  .mk' (C := fun _ => C6) (n := 40) (fun _ _ => ts5) (fun _ _ => .none) (fun s ro _ => by kernel_rfl) (fun s ro _ => by kernel_rfl) (fun s => by kernel_rfl) (fun _ _ _ _ => trivial) (fun _ _ => hpI_flat h)
    (fun s j _ _ => by cases j <;> exact ⟨hpI_flat h, fun h => by cases h⟩)
theorem L183 (h : cs.all Ex.flat = true) : Loop1 Tryz.prog 5 183 B183 (S183 cs t s len cap ex) 5 (stF k5 5 (eQ cs) cs len cap 6 5 [0, 1, 2, 3, 4]) (fun _ => True) :=
  .mk' (C := fun _ => C6) (n := 40) (fun _ _ => ts5) (fun _ _ => .none) (fun s ro _ => by kernel_rfl) (fun s ro _ => by kernel_rfl) (fun s => by kernel_rfl) (fun _ _ _ _ => trivial) (fun _ _ => hpI_flat h)
    (fun s j _ _ => by cases j <;> exact ⟨hpI_flat h, fun h => by cases h⟩)
theorem L115 (h : cs.all Ex.flat = true) : Loop1 Tryz.prog 5 115 B115 (S115 cs t s len cap ex) 5 (stF k5 5 (eQ cs) cs len cap 5 5 [0, 1, 2, 3, 4]) (fun _ => True) :=
  .mk' (C := fun _ => C6) (n := 40) (fun _ _ => ts5) (fun _ _ => .none) (fun s ro _ => by kernel_rfl) (fun s ro _ => by kernel_rfl) (fun s => by kernel_rfl) (fun _ _ _ _ => trivial) (fun _ _ => hpI_flat h)
    (fun s j _ _ => by cases j <;> exact ⟨hpI_flat h, fun h => by cases h⟩)
end
def cqE (cs : List Value) (n : Nat) : Int := if 96 < n then 5 else firstF (eQ cs) n 0
def cpE (cs : List Value) (n : Nat) : Int := if 96 < n then 5 else firstF (eP cs) n 0
def sp157 : ESpec := fun al css => match al, css with
  | [.slice (some ⟨4, 0, none⟩) n c, .func (.func 25) ⟨[]⟩ ⟨[]⟩], [cs] => some (okR k3 3 cs n c, i (firstF (eP cs) n 0))
  | _, _ => none
def sp183 : ESpec := fun al css => match al, css with
  | [.slice (some ⟨4, 0, none⟩) n c, .func (.func 55) ⟨[]⟩ ⟨[]⟩], [cs] => some (okR k5 5 cs n c, i (firstF (eQ cs) n 0))
  | _, _ => none
def sp115 : ESpec := fun al css => match al, css with
  | [.slice (some ⟨4, 0, none⟩) n c], [cs] => some (okR k5 5 cs n c, i (cqE cs n))
  | _, _ => none
theorem c157 : ∀ al css os p v, sp157 al css = some (p, v) → p → Blks css os → (∀ cs ∈ css, cs.all Ex.flat = true) ∧ clean 6 v = true ∧ ∃ H', Sound Tryz.prog (gl + css.length) (.call 157 ⟨al⟩ (heapL (deads ++ os))) (.val v H') := by
  intro al css os p v hs hp hb
  unfold sp157 at hs
  split at hs
  case h_2 => cases hs
  rename_i n c cs
  cases hs
  obtain ⟨t, s, ex, rfl⟩ := blks1 hb
  refine ⟨by simpa using hp.1, rfl, ?_⟩
  obtain ⟨r, hr, hv⟩ := runF (e := eP cs) (m1 := 6) (m0 := 5) (ρ := [0, 1, 2, 3, 4]) hp
  have hL := (L157 (t := t) (s := s) (len := n) (cap := c) (ex := ex) hp.1).table (id := 2) .none (by decide) trivial hr (by kernel_rfl) [0, 1]
  obtain ⟨H', h'⟩ := Out.vals_sel (x157 cs t s n c ex r) (v := i (firstF (eP cs) n 0)) (by rw [v157]; exact vtF_sel hv)
  exact ⟨H', execO_sound (C := K157 cs t s n c ex r) ts5 hL 40 _ _ h'⟩
theorem c183 : ∀ al css os p v, sp183 al css = some (p, v) → p → Blks css os → (∀ cs ∈ css, cs.all Ex.flat = true) ∧ clean 6 v = true ∧ ∃ H', Sound Tryz.prog (gl + css.length) (.call 183 ⟨al⟩ (heapL (deads ++ os))) (.val v H') := by
  intro al css os p v hs hp hb
  unfold sp183 at hs
  split at hs
  case h_2 => cases hs
  rename_i n c cs
  cases hs
  obtain ⟨t, s, ex, rfl⟩ := blks1 hb
  refine ⟨by simpa using hp.1, rfl, ?_⟩
  obtain ⟨r, hr, hv⟩ := runF (e := eQ cs) (m1 := 6) (m0 := 5) (ρ := [0, 1, 2, 3, 4]) hp
  have hL := (L183 (t := t) (s := s) (len := n) (cap := c) (ex := ex) hp.1).table (id := 2) .none (by decide) trivial hr (by kernel_rfl) [0, 1]
  obtain ⟨H', h'⟩ := Out.vals_sel (x183 cs t s n c ex r) (v := i (firstF (eQ cs) n 0)) (by rw [v183]; exact vtF_sel hv)
  exact ⟨H', execO_sound (C := K183 cs t s n c ex r) ts5 hL 40 _ _ h'⟩
theorem big_sel {e : Nat → Int} {n : Nat} {r : Nat × Int} (hv : FirstR e n r) : (VT.br (ltF 96 n) (lv 5) (vtF e r)).sel = some (i (if 96 < n then 5 else firstF e n 0)) := by
  by_cases h : 96 < n
  · rw [vb_t (by rw [ltF_eq]; exact decide_eq_true (by omega)), if_pos h]; rfl
  · rw [vb_f (by rw [ltF_eq]; exact decide_eq_false (by omega)), if_neg h]
    exact vtF_sel hv
theorem c115 : ∀ al css os p v, sp115 al css = some (p, v) → p → Blks css os → (∀ cs ∈ css, cs.all Ex.flat = true) ∧ clean 6 v = true ∧ ∃ H', Sound Tryz.prog (gl + css.length) (.call 115 ⟨al⟩ (heapL (deads ++ os))) (.val v H') := by
  intro al css os p v hs hp hb
  unfold sp115 at hs
  split at hs
  case h_2 => cases hs
  rename_i n c cs
  cases hs
  obtain ⟨t, s, ex, rfl⟩ := blks1 hb
  refine ⟨by simpa using hp.1, rfl, ?_⟩
  obtain ⟨r, hr, hv⟩ := runF (e := eQ cs) (m1 := 5) (m0 := 5) (ρ := [0, 1, 2, 3, 4]) hp
  have hL := (L115 (t := t) (s := s) (len := n) (cap := c) (ex := ex) hp.1).table (id := 4) .none (by decide) trivial hr (by kernel_rfl) [0, 1]
  obtain ⟨H', h'⟩ := Out.vals_sel (x115 cs t s n c ex r) (v := i (cqE cs n)) (by rw [v115]; exact big_sel hv)
  exact ⟨H', execO_sound (C := K115 cs t s n c ex r) ts5 hL 40 _ _ h'⟩
noncomputable def T6 : Tb := ext (ext (ext T5 157 (autoE sp157 [] (heapL deads))) 183 (autoE sp183 [] (heapL deads))) 115 (autoE sp115 [] (heapL deads))
theorem ts6 {G : Nat} : TSound Tryz.prog G T6 := ((ts5.auto c157).auto c183).auto c115
end Go.Proofs.YtafpmehhdcmllaaGreatDoor.Ways
noncomputable section
namespace Go.Proofs.YtafpmehhdcmllaaGreatDoor.Ways
open Go Go.Ex Go.RowKit
/-! ### days; the reference's CheckSettle -/
section
variable (cs ps : List Value) (t s n c t2 s2 m c2 : Nat) (ex e2 : Bool)
noncomputable def o113 : Out QRes := execO Tryz.prog 5 ⟨T6, no_, off_, noL⟩ 40 (.call 113 ⟨[sl 4 0 n c, fn 25]⟩ (heapL (deads ++ [.cells cs t s ex])))
noncomputable def o112 : Out QRes := execO Tryz.prog 5 ⟨T6, no_, off_, noL⟩ 40 (.call 112 ⟨[sl 4 0 n c]⟩ (heapL (deads ++ [.cells cs t s ex])))
theorem v113 : (o113 cs t s n c ex).vals = aV (tru (okR k3 3 cs n c)) (aV (tru (okI [i (mnE n 96), i (firstF (eP cs) n 0)] 2 2)) (lv (fst2 (mnE n 96) (firstF (eP cs) n 0)))) := by kernel_rfl
theorem x113 : o113 cs t s n c ex = (o113 cs t s n c ex).fix := by kernel_rfl
theorem v112 : (o112 cs t s n c ex).vals = aV (tru (okR k5 5 cs n c)) (aV (tru (okI [i (mnE n 96), i (firstF (eQ cs) n 0)] 2 2)) (lv (fst2 (mnE n 96) (firstF (eQ cs) n 0)))) := by kernel_rfl
theorem x112 : o112 cs t s n c ex = (o112 cs t s n c ex).fix := by kernel_rfl
def hp2 : List (CO × Bool) := [(.dead, false), (.dead, false), (.dead, false), (.dead, false), (.cells cs t s ex, true), (.cells ps t2 s2 e2, true)]
def S51 : Shape Int := ⟨35, fun j => ⟨[(0, sl 4 0 n c), (1, sl 5 0 m c2), (6, i j)], hp2 cs ps t s t2 s2 ex e2⟩, fun k j => match k with
  | 0 => (.exit 0, ⟨[(0, sl 4 0 n c), (1, sl 5 0 m c2)], hp2 cs ps t s t2 s2 ex e2⟩)
  | _ => (.ret, ⟨[(4, i (eP ps j.toNat))], hp2 cs ps t s t2 s2 ex e2⟩)⟩
noncomputable def C7 : Cfg := ⟨T6, sp6, sy6, noL⟩
noncomputable def K51 (r : Nat × Int) : Cfg := ⟨T6, sp6, sy6, loopE noL 51 7 35 6 B51 ((S51 cs ps t s n c t2 s2 m c2 ex e2).st 0).live ((S51 cs ps t s n c t2 s2 m c2 ex e2).st 0).hp (finO (S51 cs ps t s n c t2 s2 m c2 ex e2) r [0, 1])⟩
noncomputable def o51 (r : Nat × Int) : Out QRes := execO Tryz.prog 6 (K51 cs ps t s n c t2 s2 m c2 ex e2 r) 40 (.call 51 ⟨[sl 4 0 n c, sl 5 0 m c2]⟩ (heapL (deads ++ [.cells cs t s ex, .cells ps t2 s2 e2])))
theorem v51 (r : Nat × Int) : (o51 cs ps t s n c t2 s2 m c2 ex e2 r).vals = aV (tru (okR k5 5 cs n c)) (.br (!eqF (cqE cs n) 0) (lv (cqE cs n)) (.br (ltF 96 m) (lv 5) (.br (Nat.beq r.1 0) (.br (!eqF n m) (lv 2) (lv 0)) (.br (Nat.beq r.1 1) (lv (eP ps r.2.toNat)) .fail)))) := by kernel_rfl
theorem x51 (r : Nat × Int) : o51 cs ps t s n c t2 s2 m c2 ex e2 r = (o51 cs ps t s n c t2 s2 m c2 ex e2 r).fix := by kernel_rfl
end
section
variable {cs ps : List Value} {t s n c t2 s2 m c2 : Nat} {ex e2 : Bool}
theorem hp2_flat (h : cs.all Ex.flat = true) (h2 : ps.all Ex.flat = true) : ∀ o, (o, true) ∈ hp2 cs ps t s t2 s2 ex e2 → FlatO o := by
  intro o ho
  simp [hp2] at ho
  rcases ho with rfl | rfl
  · exact fun x hx => List.all_eq_true.1 h x hx
  · exact fun x hx => List.all_eq_true.1 h2 x hx
theorem L51 (h : cs.all Ex.flat = true) (h2 : ps.all Ex.flat = true) : Loop1 Tryz.prog 6 51 B51 (S51 cs ps t s n c t2 s2 m c2 ex e2) 6 (stF k3 3 (eP ps) ps m c2 6 6 [0, 1, 2, 3, 4, 5]) (fun _ => True) :=
  .mk' (C := fun _ => C7) (n := 40) (fun _ _ => ts6) (fun _ _ => .none) (fun s ro _ => by kernel_rfl) (fun s ro _ => by kernel_rfl) (fun s => by kernel_rfl) (fun _ _ _ _ => trivial) (fun _ _ => hp2_flat h h2)
    (fun s j _ _ => by cases j <;> exact ⟨hp2_flat h h2, fun h => by cases h⟩)
end
theorem mnE_nat (x k : Nat) : mnE x k = if k < x then 5 else 0 := by
  unfold mnE
  by_cases h : k < x
  · rw [if_pos h, if_neg (by omega)]
  · rw [if_neg h, if_pos (by omega)]
theorem day_eq (e : Nat → Int) (n : Nat) : fst2 (mnE n 96) (firstF e n 0) = if 96 < n then 5 else firstF e n 0 := by
  rw [fst2', show mnE n 96 = if 96 < n then 5 else 0 from mnE_nat n 96]
  by_cases h : 96 < n
  · rw [if_pos h, if_pos h]; rfl
  · rw [if_neg h, if_neg h]; rfl
def sp113 : ESpec := fun al css => match al, css with
  | [.slice (some ⟨4, 0, none⟩) n c, .func (.func 25) ⟨[]⟩ ⟨[]⟩], [cs] => some (okR k3 3 cs n c, i (cpE cs n))
  | _, _ => none
theorem c113 : ∀ al css os p v, sp113 al css = some (p, v) → p → Blks css os → (∀ cs ∈ css, cs.all Ex.flat = true) ∧ clean 6 v = true ∧ ∃ H', Sound Tryz.prog (gl + css.length) (.call 113 ⟨al⟩ (heapL (deads ++ os))) (.val v H') := by
  intro al css os p v hs hp hb
  unfold sp113 at hs
  split at hs
  case h_2 => cases hs
  rename_i n c cs
  cases hs
  obtain ⟨t, s, ex, rfl⟩ := blks1 hb
  refine ⟨by simpa using hp.1, rfl, ?_⟩
  obtain ⟨H', h'⟩ := Out.vals_sel (x113 cs t s n c ex) (v := i (cpE cs n)) (by
    rw [v113, aP hp, aP (okI2 _ _), day_eq]; rfl)
  exact ⟨H', execO_sound (C := ⟨T6, no_, off_, noL⟩) ts6 .none 40 _ _ h'⟩
theorem c112 : ∀ al css os p v, sp115 al css = some (p, v) → p → Blks css os → (∀ cs ∈ css, cs.all Ex.flat = true) ∧ clean 6 v = true ∧ ∃ H', Sound Tryz.prog (gl + css.length) (.call 112 ⟨al⟩ (heapL (deads ++ os))) (.val v H') := by
  intro al css os p v hs hp hb
  unfold sp115 at hs
  split at hs
  case h_2 => cases hs
  rename_i n c cs
  cases hs
  obtain ⟨t, s, ex, rfl⟩ := blks1 hb
  refine ⟨by simpa using hp.1, rfl, ?_⟩
  obtain ⟨H', h'⟩ := Out.vals_sel (x112 cs t s n c ex) (v := i (cqE cs n)) (by
    rw [v112, aP hp, aP (okI2 _ _), day_eq]; rfl)
  exact ⟨H', execO_sound (C := ⟨T6, no_, off_, noL⟩) ts6 .none 40 _ _ h'⟩
def csE (cs ps : List Value) (n m : Nat) : Int := if cqE cs n ≠ 0 then cqE cs n else if cpE ps m ≠ 0 then cpE ps m else if n = m then 0 else 2
def ok2 (cs ps : List Value) (n c m c2 : Nat) : Prop := okR k5 5 cs n c ∧ okR k3 3 ps m c2
def sp51 : ESpec := fun al css => match al, css with
  | [.slice (some ⟨4, 0, none⟩) n c, .slice (some ⟨5, 0, none⟩) m c2], [cs, ps] => some (ok2 cs ps n c m c2, i (csE cs ps n m))
  | _, _ => none
theorem c51 : ∀ al css os p v, sp51 al css = some (p, v) → p → Blks css os → (∀ cs ∈ css, cs.all Ex.flat = true) ∧ clean 6 v = true ∧ ∃ H', Sound Tryz.prog (gl + css.length) (.call 51 ⟨al⟩ (heapL (deads ++ os))) (.val v H') := by
  intro al css os p v hs hp hb
  unfold sp51 at hs
  split at hs
  case h_2 => cases hs
  rename_i n c m c2 cs ps
  cases hs
  obtain ⟨t, s, ex, t2, s2, e2, rfl⟩ := blks2 hb
  obtain ⟨p1, p2⟩ := hp
  refine ⟨fun x hx => ?_, rfl, ?_⟩
  · simp only [List.mem_cons, List.not_mem_nil, or_false] at hx
    rcases hx with rfl | rfl
    · exact p1.1
    · exact p2.1
  obtain ⟨r, hr, hv⟩ := runF (e := eP ps) (m1 := 6) (m0 := 6) (ρ := [0, 1, 2, 3, 4, 5]) p2
  have hL := (L51 (cs := cs) (t := t) (s := s) (n := n) (c := c) (t2 := t2) (s2 := s2) (m := m) (c2 := c2) (ex := ex) (e2 := e2) p1.1 p2.1).table (id := 7) .none (by decide) trivial hr (by kernel_rfl) [0, 1]
  obtain ⟨H', h'⟩ := Out.vals_sel (x51 cs ps t s n c t2 s2 m c2 ex e2 r) (v := i (csE cs ps n m)) (by
    rw [v51, aP p1]
    unfold csE cpE
    by_cases h1 : cqE cs n = 0
    · rw [vb_f (ne_f h1), if_neg (show ¬ cqE cs n ≠ 0 by simpa using h1)]
      by_cases h2 : 96 < m
      · rw [vb_t (by rw [ltF_eq]; exact decide_eq_true (by omega)), if_pos h2, if_pos (by decide)]; rfl
      · rw [vb_f (by rw [ltF_eq]; exact decide_eq_false (by omega)), if_neg h2]
        rcases hv with ⟨h3, rfl⟩ | ⟨h3, j, _, rfl, h4, _⟩
        · show (VT.br (!eqF (n : Int) (m : Int)) (lv 2) (lv 0)).sel = _
          rw [if_neg (show ¬ firstF (eP ps) m 0 ≠ 0 by simpa using h3)]
          by_cases h5 : n = m
          · rw [vb_f (by rw [eqF_d, decide_eq_true (by omega)]; rfl), if_pos h5]; rfl
          · rw [vb_t (by rw [eqF_d, decide_eq_false (by omega)]; rfl), if_neg h5]; rfl
        · show some (i (eP ps j)) = _
          rw [if_pos h3, h4]
    · rw [vb_t (ne_t h1), if_pos h1]; rfl)
  exact ⟨H', execO_sound (C := K51 cs ps t s n c t2 s2 m c2 ex e2 r) ts6 hL 40 _ _ h'⟩
noncomputable def T7 : Tb := ext (ext (ext T6 113 (autoE sp113 [] (heapL deads))) 112 (autoE sp115 [] (heapL deads))) 51 (autoE sp51 [] (heapL deads))
theorem ts7 {G : Nat} : TSound Tryz.prog G T7 := ((ts6.auto c113).auto c112).auto c51
end Go.Proofs.YtafpmehhdcmllaaGreatDoor.Ways
