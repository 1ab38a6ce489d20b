import Derived.Test.YtbocpikgochioaaGreatDoorZf
namespace Go.Proofs.YtbocpikgochioaaGreatDoor.Ways
open Go Go.Ex
theorem flat_gg {cs : List Value} {t s : Nat} {ex : Bool} (hf : cs.all Ex.flat = true) {r : List CO} : ∀ o, (o, true) ∈ hpA gg4 cs t s ex ++ r.map (fun o => (o, false)) → FlatO o := by
  intro o ho
  rcases List.mem_append.1 ho with ho | ho
  · simp [hpA, gg4] at ho
    rcases ho with rfl | rfl
    · exact fun x hx => List.all_eq_true.1 flatP x hx
    · exact fun x hx => List.all_eq_true.1 hf x hx
  · simp at ho
theorem flat_d4 {cs : List Value} {t s : Nat} {ex : Bool} (hf : cs.all Ex.flat = true) {r : List CO} : ∀ o, (o, true) ∈ hpA dd4 cs t s ex ++ r.map (fun o => (o, false)) → FlatO o := by
  intro o ho
  rcases List.mem_append.1 ho with ho | ho
  · exact flat_dd hf o ho
  · simp at ho
def c2 (t : Nat) (A B : Int) : CO := .cells [i A, i B] t 1 true
def cA (cs : List Value) (j : Nat) : Int := aE (c0E cs j) (c1E cs j) (c2E cs j)
def cB (cs : List Value) (j : Nat) : Int := bE (c0E cs j) (c1E cs j) (c2E cs j)
def rcA (cs : List Value) (j : Nat) : Int := cpA (c0E cs j) (c1E cs j) (c2E cs j)
def rcB (cs : List Value) (j : Nat) : Int := cpB (c0E cs j) (c1E cs j) (c2E cs j)
def fRot (cs : List Value) (j : Nat) (A B : Int) : Int × Int := (plE A (cA cs j), plE B (cB cs j))
def fFix (cs : List Value) (j : Nat) (A B : Int) : Int × Int := (plE A (turnAE (cA cs j) (cB cs j) j), plE B (turnBE (cA cs j) (cB cs j) j))
def rRot (cs : List Value) (j : Nat) (A B : Int) : Int × Int := (plE A (rcA cs j), plE B (rcB cs j))
def rFix (cs : List Value) (j : Nat) (A B : Int) : Int × Int := (plE A (rturnAE (rcA cs j) (rcB cs j) j), plE B (rturnBE (rcA cs j) (rcB cs j) j))
noncomputable def CM : Cfg := ⟨T12, spL', syL, noL⟩
theorem tsM {G : Nat} : TSound Tryz.prog G CM.T := ts12
/-! ### part -/
def st89 (g n j : Nat) : List (Nat × Value) := [(1, fn g), (4, pt 6 0), (7, pt 7 0), (18, sl 4 0 n n), (19, i (n : Int)), (20, i (j : Int))]
def hp89 (cs : List Value) (t s : Nat) (ex : Bool) (A B : Int) : List (CO × Bool) := hpA gg4 cs t s ex ++ [c2 99 0 0, c2 99 0 0, c2 99 A B].map fun o => (o, false)
def lF89 : List (Nat × Value) := [(4, pt 6 0), (7, pt 7 0)]
section
variable {cs : List Value} {t s : Nat} {ex : Bool} {n : Nat}
theorem p89_rot (hf : cs.all Ex.flat = true) (hl : Lds cs n) (hn : n ≤ 1000000) (j : Nat) (A B : Int) (ro : Option Nat) (hj : j < n) :
    ∃ tm1 H1, Sound Tryz.prog 5 (.code B89 ro (absT (tmL 38 (st89 Fn.rotor_Rotating_1 n j))) (heapL ((hp89 cs t s ex A B).map (·.1))) []) (.ex .normal tm1 H1 []) ∧ Restate 8 tm1 H1 (absT (tmL 38 (st89 Fn.rotor_Rotating_1 n (j + 1)))) (heapL ((hp89 cs t s ex (fRot cs j A B).1 (fRot cs j A B).2).map (·.1))) := by
  have h := round_of (P := Tryz.prog) (G := 5) (C := CM) (n := 30) (f := Fn.rotor_part) (b := B89) (ro := ro) (tm := tmL 38 (st89 Fn.rotor_Rotating_1 n j)) (H := heapL ((hp89 cs t s ex A B).map (·.1))) (df := []) (df1 := []) (k := 8) (N := 38) (len := 12) (x := .normal) (List.range 8) [(1, fn Fn.rotor_Rotating_1), (4, pt 6 0), (7, pt 7 0), (18, sl 4 0 n n), (19, i (n : Int)), (20, i (wrapF .i64 ((j : Int) + 1)))] (hp89 cs t s ex (fRot cs j A B).1 (fRot cs j A B).2) [true, true, true]
    [ltF j n, (leF 0 (j : Int) && (ltF j n && decide (n ≤ n))), areCells k3 cs (0 + j * 3)] tsM lsL (by kernel_rfl) (by kernel_rfl) (by rw [inT hj, ltT hj, hl j hj]; rfl) (by kernel_rfl) (flat_gg hf)
  rw [next_i hj hn] at h
  exact h
theorem p89_fix (hf : cs.all Ex.flat = true) (hl : Lds cs n) (hn : n ≤ 1000000) (j : Nat) (A B : Int) (ro : Option Nat) (hj : j < n) :
    ∃ tm1 H1, Sound Tryz.prog 5 (.code B89 ro (absT (tmL 38 (st89 Fn.rotor_Fixed_1 n j))) (heapL ((hp89 cs t s ex A B).map (·.1))) []) (.ex .normal tm1 H1 []) ∧ Restate 8 tm1 H1 (absT (tmL 38 (st89 Fn.rotor_Fixed_1 n (j + 1)))) (heapL ((hp89 cs t s ex (fFix cs j A B).1 (fFix cs j A B).2).map (·.1))) := by
  have h := round_of (P := Tryz.prog) (G := 5) (C := CM) (n := 30) (f := Fn.rotor_part) (b := B89) (ro := ro) (tm := tmL 38 (st89 Fn.rotor_Fixed_1 n j)) (H := heapL ((hp89 cs t s ex A B).map (·.1))) (df := []) (df1 := []) (k := 8) (N := 38) (len := 12) (x := .normal) (List.range 8) [(1, fn Fn.rotor_Fixed_1), (4, pt 6 0), (7, pt 7 0), (18, sl 4 0 n n), (19, i (n : Int)), (20, i (wrapF .i64 ((j : Int) + 1)))] (hp89 cs t s ex (fFix cs j A B).1 (fFix cs j A B).2) [true, true, true]
    [ltF j n, (leF 0 (j : Int) && (ltF j n && decide (n ≤ n))), areCells k3 cs (0 + j * 3)] tsM lsL (by kernel_rfl) (by kernel_rfl) (by rw [inT hj, ltT hj, hl j hj]; rfl) (by kernel_rfl) (flat_gg hf)
  rw [next_i hj hn] at h
  exact h
theorem p89_endr (hf : cs.all Ex.flat = true) (A B : Int) (ro : Option Nat) :
    ∃ tm1 H1, Sound Tryz.prog 5 (.code B89 ro (absT (tmL 38 (st89 Fn.rotor_Rotating_1 n n))) (heapL ((hp89 cs t s ex A B).map (·.1))) []) (.ex (.exit 0) tm1 H1 []) ∧ Restate 8 tm1 H1 (absT (tmL 38 lF89)) (heapL ((hp89 cs t s ex A B).map (·.1))) := by
  have h := round_of (P := Tryz.prog) (G := 5) (C := CM) (n := 30) (f := Fn.rotor_part) (b := B89) (ro := ro) (tm := tmL 38 (st89 Fn.rotor_Rotating_1 n n)) (H := heapL ((hp89 cs t s ex A B).map (·.1))) (df := []) (df1 := []) (k := 8) (N := 38) (len := 8) (x := .exit 0) (List.range 8) lF89 (hp89 cs t s ex A B) [false]
    [ltF n n] tsM lsL (by kernel_rfl) (by kernel_rfl) (by rw [ltN]; rfl) (by kernel_rfl) (flat_gg (r := [c2 99 0 0, c2 99 0 0, c2 99 A B]) hf)
  exact h
theorem p89_endf (hf : cs.all Ex.flat = true) (A B : Int) (ro : Option Nat) :
    ∃ tm1 H1, Sound Tryz.prog 5 (.code B89 ro (absT (tmL 38 (st89 Fn.rotor_Fixed_1 n n))) (heapL ((hp89 cs t s ex A B).map (·.1))) []) (.ex (.exit 0) tm1 H1 []) ∧ Restate 8 tm1 H1 (absT (tmL 38 lF89)) (heapL ((hp89 cs t s ex A B).map (·.1))) := by
  have h := round_of (P := Tryz.prog) (G := 5) (C := CM) (n := 30) (f := Fn.rotor_part) (b := B89) (ro := ro) (tm := tmL 38 (st89 Fn.rotor_Fixed_1 n n)) (H := heapL ((hp89 cs t s ex A B).map (·.1))) (df := []) (df1 := []) (k := 8) (N := 38) (len := 8) (x := .exit 0) (List.range 8) lF89 (hp89 cs t s ex A B) [false]
    [ltF n n] tsM lsL (by kernel_rfl) (by kernel_rfl) (by rw [ltN]; rfl) (by kernel_rfl) (flat_gg (r := [c2 99 0 0, c2 99 0 0, c2 99 A B]) hf)
  exact h
variable (cs t s ex n) in
noncomputable def L89 (g : Nat) (f : Nat → Int → Int → Int × Int) : LTab := loopE noL Fn.rotor_part 6 38 8 B89 (st89 g n 0) (hp89 cs t s ex 0 0) (.leaf (.ex (.exit 0) (tmL 38 lF89) (heapL ((hp89 cs t s ex (accF f n 0 0 0).1 (accF f n 0 0 0).2).map (·.1))) []))
theorem ls89r (hf : cs.all Ex.flat = true) (hl : Lds cs n) (hn : n ≤ 1000000) : LSound Tryz.prog 5 (L89 cs t s ex n Fn.rotor_Rotating_1 (fRot cs)) := by
  refine LSound.loop .none (by kernel_rfl) (flat_gg hf) fun r hr ro tm0 H0 hk hst => ?_
  cases hr
  exact acc_loop (P := Tryz.prog) (G := 5) (b := B89) (N := 38) (k := 8) (st := st89 Fn.rotor_Rotating_1 n) (hp := hp89 cs t s ex) (lF := lF89) (x := .exit 0) n (fRot cs) (fun h => by cases h)
    (fun j A B ro hj => p89_rot hf hl hn j A B ro hj) (fun A B ro => p89_endr hf A B ro) ro 0 0 hk (by omega) hst
theorem ls89f (hf : cs.all Ex.flat = true) (hl : Lds cs n) (hn : n ≤ 1000000) : LSound Tryz.prog 5 (L89 cs t s ex n Fn.rotor_Fixed_1 (fFix cs)) := by
  refine LSound.loop .none (by kernel_rfl) (flat_gg hf) fun r hr ro tm0 H0 hk hst => ?_
  cases hr
  exact acc_loop (P := Tryz.prog) (G := 5) (b := B89) (N := 38) (k := 8) (st := st89 Fn.rotor_Fixed_1 n) (hp := hp89 cs t s ex) (lF := lF89) (x := .exit 0) n (fFix cs) (fun h => by cases h)
    (fun j A B ro hj => p89_fix hf hl hn j A B ro hj) (fun A B ro => p89_endf hf A B ro) ro 0 0 hk (by omega) hst
def gG : List CO := [.cells powers 180 1 true, .dead, .dead, .dead]
def errR (e : Int) : Value := tp [ag [i 0, i 0], i e]
def partV (f : List Value → Nat → Int → Int → Int × Int) (cs : List Value) (n : Nat) : Value := resP (recE cs n) (accF (f cs) n 0 0 0).1 (accF (f cs) n 0 0 0).2
theorem rot_small (hf : cs.all Ex.flat = true) (hl : Lds cs n) (hn : n ≤ 1000000) :
    ∃ H', Sound Tryz.prog 5 (.call Fn.rotor_Rotating ⟨[sl 4 0 n n]⟩ (small1g gG (.cells cs t s ex))) (.val (partV fRot cs n) H') := by
  let C : Cfg := ⟨T12, spL', syL, L89 cs t s ex n Fn.rotor_Rotating_1 (fRot cs)⟩
  obtain ⟨H', hs⟩ := Out.vals_sel (o := execO Tryz.prog 5 C 40 (.call Fn.rotor_Rotating ⟨[sl 4 0 n n]⟩ (small1g gG (.cells cs t s ex)))) (v := partV fRot cs n) (by kernel_rfl) (by
    rw [show (execO Tryz.prog 5 C 40 (.call Fn.rotor_Rotating ⟨[sl 4 0 n n]⟩ (small1g gG (.cells cs t s ex)))).vals = .br (tru (OkR cs n n)) (ways1 (recE cs n) errR (tp [ag [i (accF (fRot cs) n 0 0 0).1, i (accF (fRot cs) n 0 0 0).2], i 0])) .fail from by kernel_rfl]
    rw [tru_iff.2 (show OkR cs n n from ⟨hf, hl, hn, rfl⟩)]
    show (ways1 _ _ _).sel = _
    rw [ways1_sel]
    exact congrArg some (resP_eq _ _ _))
  exact ⟨H', execO_sound (C := C) ts12 (ls89r hf hl hn) 40 _ _ hs⟩
theorem fix_small (hf : cs.all Ex.flat = true) (hl : Lds cs n) (hn : n ≤ 1000000) :
    ∃ H', Sound Tryz.prog 5 (.call Fn.rotor_Fixed ⟨[sl 4 0 n n]⟩ (small1g gG (.cells cs t s ex))) (.val (partV fFix cs n) H') := by
  let C : Cfg := ⟨T12, spL', syL, L89 cs t s ex n Fn.rotor_Fixed_1 (fFix cs)⟩
  obtain ⟨H', hs⟩ := Out.vals_sel (o := execO Tryz.prog 5 C 40 (.call Fn.rotor_Fixed ⟨[sl 4 0 n n]⟩ (small1g gG (.cells cs t s ex)))) (v := partV fFix cs n) (by kernel_rfl) (by
    rw [show (execO Tryz.prog 5 C 40 (.call Fn.rotor_Fixed ⟨[sl 4 0 n n]⟩ (small1g gG (.cells cs t s ex)))).vals = .br (tru (OkR cs n n)) (ways1 (recE cs n) errR (tp [ag [i (accF (fFix cs) n 0 0 0).1, i (accF (fFix cs) n 0 0 0).2], i 0])) .fail from by kernel_rfl]
    rw [tru_iff.2 (show OkR cs n n from ⟨hf, hl, hn, rfl⟩)]
    show (ways1 _ _ _).sel = _
    rw [ways1_sel]
    exact congrArg some (resP_eq _ _ _))
  exact ⟨H', execO_sound (C := C) ts12 (ls89f hf hl hn) 40 _ _ hs⟩

/-! ### the reference's parts -/
def st53 (n j : Nat) : List (Nat × Value) := [(0, sl 4 0 n n), (2, pt 5 0), (3, pt 6 0), (4, i (j : Int))]
def hp53 (cs : List Value) (t s : Nat) (ex : Bool) (A B : Int) : List (CO × Bool) := hpA dd4 cs t s ex ++ [c2 95 0 0, c2 95 A B].map fun o => (o, false)
def lF53 : List (Nat × Value) := [(2, pt 5 0), (3, pt 6 0)]
theorem r53_round (hf : cs.all Ex.flat = true) (hl : Lds cs n) (hn : n ≤ 1000000) (j : Nat) (A B : Int) (ro : Option Nat) (hj : j < n) :
    ∃ tm1 H1, Sound Tryz.prog 5 (.code B53 ro (absT (tmL 19 (st53 n j))) (heapL ((hp53 cs t s ex A B).map (·.1))) []) (.ex .normal tm1 H1 []) ∧ Restate 7 tm1 H1 (absT (tmL 19 (st53 n (j + 1)))) (heapL ((hp53 cs t s ex (rRot cs j A B).1 (rRot cs j A B).2).map (·.1))) := by
  have h := round_of (P := Tryz.prog) (G := 5) (C := CM) (n := 30) (f := Fn.ref03_Rotating) (b := B53) (ro := ro) (tm := tmL 19 (st53 n j)) (H := heapL ((hp53 cs t s ex A B).map (·.1))) (df := []) (df1 := []) (k := 7) (N := 19) (len := 7) (x := .normal) (List.range 7) [(0, sl 4 0 n n), (2, pt 5 0), (3, pt 6 0), (4, i (wrapF .i64 ((j : Int) + 1)))] (hp53 cs t s ex (rRot cs j A B).1 (rRot cs j A B).2) [true, true, true]
    [ltF j n, (leF 0 (j : Int) && (ltF j n && decide (n ≤ n))), areCells k3 cs (0 + j * 3)] tsM lsL (by kernel_rfl) (by kernel_rfl) (by rw [inT hj, ltT hj, hl j hj]; rfl) (by kernel_rfl) (flat_d4 hf)
  rw [next_i hj hn] at h
  exact h
theorem r53_end (hf : cs.all Ex.flat = true) (A B : Int) (ro : Option Nat) :
    ∃ tm1 H1, Sound Tryz.prog 5 (.code B53 ro (absT (tmL 19 (st53 n n))) (heapL ((hp53 cs t s ex A B).map (·.1))) []) (.ex (.exit 0) tm1 H1 []) ∧ Restate 7 tm1 H1 (absT (tmL 19 lF53)) (heapL ((hp53 cs t s ex A B).map (·.1))) :=
  round_of (P := Tryz.prog) (G := 5) (C := CM) (n := 30) (f := Fn.ref03_Rotating) (b := B53) (ro := ro) (tm := tmL 19 (st53 n n)) (H := heapL ((hp53 cs t s ex A B).map (·.1))) (df := []) (df1 := []) (k := 7) (N := 19) (len := 7) (x := .exit 0) (List.range 7) lF53 (hp53 cs t s ex A B) [false]
    [ltF n n] tsM lsL (by kernel_rfl) (by kernel_rfl) (by rw [ltN]; rfl) (by kernel_rfl) (flat_d4 hf)
variable (cs t s ex n) in
noncomputable def L53 : LTab := loopE noL Fn.ref03_Rotating 3 19 7 B53 (st53 n 0) (hp53 cs t s ex 0 0) (.leaf (.ex (.exit 0) (tmL 19 lF53) (heapL ((hp53 cs t s ex (accF (rRot cs) n 0 0 0).1 (accF (rRot cs) n 0 0 0).2).map (·.1))) []))
theorem ls53 (hf : cs.all Ex.flat = true) (hl : Lds cs n) (hn : n ≤ 1000000) : LSound Tryz.prog 5 (L53 cs t s ex n) := by
  refine LSound.loop .none (by kernel_rfl) (flat_d4 hf) fun r hr ro tm0 H0 hk hst => ?_
  cases hr
  exact acc_loop (P := Tryz.prog) (G := 5) (b := B53) (N := 19) (k := 7) (st := st53 n) (hp := hp53 cs t s ex) (lF := lF53) (x := .exit 0) n (rRot cs) (fun h => by cases h)
    (fun j A B ro hj => r53_round hf hl hn j A B ro hj) (fun A B ro => r53_end hf A B ro) ro 0 0 hk (by omega) hst
theorem r54_round (hf : cs.all Ex.flat = true) (hl : Lds cs n) (hn : n ≤ 1000000) (j : Nat) (A B : Int) (ro : Option Nat) (hj : j < n) :
    ∃ tm1 H1, Sound Tryz.prog 5 (.code B54 ro (absT (tmL 21 (st53 n j))) (heapL ((hp53 cs t s ex A B).map (·.1))) []) (.ex .normal tm1 H1 []) ∧ Restate 7 tm1 H1 (absT (tmL 21 (st53 n (j + 1)))) (heapL ((hp53 cs t s ex (rFix cs j A B).1 (rFix cs j A B).2).map (·.1))) := by
  have h := round_of (P := Tryz.prog) (G := 5) (C := CM) (n := 30) (f := Fn.ref03_Fixed) (b := B54) (ro := ro) (tm := tmL 21 (st53 n j)) (H := heapL ((hp53 cs t s ex A B).map (·.1))) (df := []) (df1 := []) (k := 7) (N := 21) (len := 7) (x := .normal) (List.range 7) [(0, sl 4 0 n n), (2, pt 5 0), (3, pt 6 0), (4, i (wrapF .i64 ((j : Int) + 1)))] (hp53 cs t s ex (rFix cs j A B).1 (rFix cs j A B).2) [true, true, true]
    [ltF j n, (leF 0 (j : Int) && (ltF j n && decide (n ≤ n))), areCells k3 cs (0 + j * 3)] tsM lsL (by kernel_rfl) (by kernel_rfl) (by rw [inT hj, ltT hj, hl j hj]; rfl) (by kernel_rfl) (flat_d4 hf)
  rw [next_i hj hn] at h
  exact h
theorem r54_end (hf : cs.all Ex.flat = true) (A B : Int) (ro : Option Nat) :
    ∃ tm1 H1, Sound Tryz.prog 5 (.code B54 ro (absT (tmL 21 (st53 n n))) (heapL ((hp53 cs t s ex A B).map (·.1))) []) (.ex (.exit 0) tm1 H1 []) ∧ Restate 7 tm1 H1 (absT (tmL 21 lF53)) (heapL ((hp53 cs t s ex A B).map (·.1))) :=
  round_of (P := Tryz.prog) (G := 5) (C := CM) (n := 30) (f := Fn.ref03_Fixed) (b := B54) (ro := ro) (tm := tmL 21 (st53 n n)) (H := heapL ((hp53 cs t s ex A B).map (·.1))) (df := []) (df1 := []) (k := 7) (N := 21) (len := 7) (x := .exit 0) (List.range 7) lF53 (hp53 cs t s ex A B) [false]
    [ltF n n] tsM lsL (by kernel_rfl) (by kernel_rfl) (by rw [ltN]; rfl) (by kernel_rfl) (flat_d4 hf)
variable (cs t s ex n) in
noncomputable def L54 : LTab := loopE noL Fn.ref03_Fixed 3 21 7 B54 (st53 n 0) (hp53 cs t s ex 0 0) (.leaf (.ex (.exit 0) (tmL 21 lF53) (heapL ((hp53 cs t s ex (accF (rFix cs) n 0 0 0).1 (accF (rFix cs) n 0 0 0).2).map (·.1))) []))
theorem ls54 (hf : cs.all Ex.flat = true) (hl : Lds cs n) (hn : n ≤ 1000000) : LSound Tryz.prog 5 (L54 cs t s ex n) := by
  refine LSound.loop .none (by kernel_rfl) (flat_d4 hf) fun r hr ro tm0 H0 hk hst => ?_
  cases hr
  exact acc_loop (P := Tryz.prog) (G := 5) (b := B54) (N := 21) (k := 7) (st := st53 n) (hp := hp53 cs t s ex) (lF := lF53) (x := .exit 0) n (rFix cs) (fun h => by cases h)
    (fun j A B ro hj => r54_round hf hl hn j A B ro hj) (fun A B ro => r54_end hf A B ro) ro 0 0 hk (by omega) hst
def refV (f : List Value → Nat → Int → Int → Int × Int) (cs : List Value) (n : Nat) : Value := ag [i (accF (f cs) n 0 0 0).1, i (accF (f cs) n 0 0 0).2]
theorem r53_small (hf : cs.all Ex.flat = true) (hl : Lds cs n) (hn : n ≤ 1000000) :
    ∃ H', Sound Tryz.prog 5 (.call Fn.ref03_Rotating ⟨[sl 4 0 n n]⟩ (small1 (.cells cs t s ex))) (.val (refV rRot cs n) H') := by
  let C : Cfg := ⟨T12, spL', syL, L53 cs t s ex n⟩
  obtain ⟨H', hs⟩ := Out.vals_sel (o := execO Tryz.prog 5 C 40 (.call Fn.ref03_Rotating ⟨[sl 4 0 n n]⟩ (small1 (.cells cs t s ex)))) (v := refV rRot cs n) (by kernel_rfl) (by
    rw [show (execO Tryz.prog 5 C 40 (.call Fn.ref03_Rotating ⟨[sl 4 0 n n]⟩ (small1 (.cells cs t s ex)))).vals = .leaf (refV rRot cs n) from by kernel_rfl]; rfl)
  exact ⟨H', execO_sound (C := C) ts12 (ls53 hf hl hn) 40 _ _ hs⟩
theorem r54_small (hf : cs.all Ex.flat = true) (hl : Lds cs n) (hn : n ≤ 1000000) :
    ∃ H', Sound Tryz.prog 5 (.call Fn.ref03_Fixed ⟨[sl 4 0 n n]⟩ (small1 (.cells cs t s ex))) (.val (refV rFix cs n) H') := by
  let C : Cfg := ⟨T12, spL', syL, L54 cs t s ex n⟩
  obtain ⟨H', hs⟩ := Out.vals_sel (o := execO Tryz.prog 5 C 40 (.call Fn.ref03_Fixed ⟨[sl 4 0 n n]⟩ (small1 (.cells cs t s ex)))) (v := refV rFix cs n) (by kernel_rfl) (by
    rw [show (execO Tryz.prog 5 C 40 (.call Fn.ref03_Fixed ⟨[sl 4 0 n n]⟩ (small1 (.cells cs t s ex)))).vals = .leaf (refV rFix cs n) from by kernel_rfl]; rfl)
  exact ⟨H', execO_sound (C := C) ts12 (ls54 hf hl hn) 40 _ _ hs⟩
end
end Go.Proofs.YtbocpikgochioaaGreatDoor.Ways
