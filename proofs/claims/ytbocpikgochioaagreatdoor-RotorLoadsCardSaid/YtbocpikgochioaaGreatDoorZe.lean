import Derived.Test.YtbocpikgochioaaGreatDoorZd
namespace Go.Proofs.YtbocpikgochioaaGreatDoor.Ways
open Go Go.Ex
def hpA (hd : List (CO × Bool)) (cs : List Value) (t s : Nat) (ex : Bool) : List (CO × Bool) := hd ++ [(.cells cs t s ex, true)]
theorem next_i {j n : Nat} (hj : j < n) (hn : n ≤ 1000000) : i (wrapF .i64 ((j : Int) + 1)) = i (((j + 1 : Nat) : Int)) := by
  rw [wrapF_in (by omega) (by omega)]; rfl
theorem ltT {j n : Nat} (hj : j < n) : ltF (j : Int) (n : Int) = true := by rw [ltF_eq]; simp; omega
theorem ltN (n : Nat) : ltF (n : Int) (n : Int) = false := by rw [ltF_eq]; simp
theorem inT {j n : Nat} (hj : j < n) : (leF 0 (j : Int) && (ltF (j : Int) (n : Int) && decide (n ≤ n))) = true := by
  rw [ltT hj, leF_eq]; simp
theorem flatP : powers.all Ex.flat = true := by kernel_rfl
theorem flat_dd {cs : List Value} {t s : Nat} {ex : Bool} (hf : cs.all Ex.flat = true) : ∀ o, (o, true) ∈ hpA dd4 cs t s ex → FlatO o := by
  intro o ho
  simp [hpA, dd4] at ho
  subst ho
  exact fun x hx => List.all_eq_true.1 hf x hx
theorem tsL {G : Nat} : TSound Tryz.prog G CL.T := ts10
theorem lsL {G : Nat} : LSound Tryz.prog G CL.L := .none

/-! ### the reference's check of a record -/
def st50 (n j : Nat) : List (Nat × Value) := [(0, sl 4 0 n n), (3, i (j : Int))]
section
variable {cs : List Value} {t s : Nat} {ex : Bool} {n : Nat}
theorem rec50_round (hf : cs.all Ex.flat = true) (hl : Lds cs n) (hn : n ≤ 1000000) (j : Nat) (ro : Option Nat) (hj : j < n) (he : eJE cs j = 0) :
    ∃ tm1 H1, Sound Tryz.prog 5 (.code B50 ro (absT (tmL 22 (st50 n j))) (heapL ((hpA dd4 cs t s ex).map (·.1))) []) (.ex .normal tm1 H1 []) ∧ Restate 5 tm1 H1 (absT (tmL 22 (st50 n (j + 1)))) (heapL ((hpA dd4 cs t s ex).map (·.1))) := by
  have h := round_of (P := Tryz.prog) (G := 5) (C := CL) (n := 30) (f := Fn.ref03_CheckRecord) (b := B50) (ro := ro) (tm := tmL 22 (st50 n j)) (H := heapL ((hpA dd4 cs t s ex).map (·.1))) (df := []) (df1 := []) (k := 5) (N := 22) (len := 5) (x := .normal) (List.range 5) [(0, sl 4 0 n n), (3, i (wrapF .i64 ((j : Int) + 1)))] (hpA dd4 cs t s ex) [true, true, true, false]
    [ltF j n, (leF 0 (j : Int) && (ltF j n && decide (n ≤ n))), areCells k3 cs (0 + j * 3), !eqF (eJE cs j) 0] tsL lsL (by kernel_rfl) (by kernel_rfl) (by rw [inT hj, ltT hj, hl j hj, he]; rfl) (by kernel_rfl) (flat_dd hf)
  rw [next_i hj hn] at h
  exact h
theorem rec50_ret (hf : cs.all Ex.flat = true) (hl : Lds cs n) (j : Nat) (ro : Option Nat) (hj : j < n) (he : eJE cs j ≠ 0) :
    ∃ tm1 H1, Sound Tryz.prog 5 (.code B50 ro (absT (tmL 22 (st50 n j))) (heapL ((hpA dd4 cs t s ex).map (·.1))) []) (.ex .ret tm1 H1 []) ∧ Restate 5 tm1 H1 (absT (tmL 22 [(2, i (eJE cs j))])) (heapL ((hpA dd4 cs t s ex).map (·.1))) :=
  round_of (P := Tryz.prog) (G := 5) (C := CL) (n := 30) (f := Fn.ref03_CheckRecord) (b := B50) (ro := ro) (tm := tmL 22 (st50 n j)) (H := heapL ((hpA dd4 cs t s ex).map (·.1))) (df := []) (df1 := []) (k := 5) (N := 22) (len := 5) (x := .ret) (List.range 5) [(2, i (eJE cs j))] (hpA dd4 cs t s ex) [true, true, true, true]
    [ltF j n, (leF 0 (j : Int) && (ltF j n && decide (n ≤ n))), areCells k3 cs (0 + j * 3), !eqF (eJE cs j) 0] tsL lsL (by kernel_rfl) (by kernel_rfl) (by rw [inT hj, ltT hj, hl j hj, eqF_d, decide_eq_false he]; rfl) (by kernel_rfl) (flat_dd hf)
theorem rec50_end (hf : cs.all Ex.flat = true) (ro : Option Nat) :
    ∃ tm1 H1, Sound Tryz.prog 5 (.code B50 ro (absT (tmL 22 (st50 n n))) (heapL ((hpA dd4 cs t s ex).map (·.1))) []) (.ex (.exit 0) tm1 H1 []) ∧ Restate 5 tm1 H1 (absT (tmL 22 [])) (heapL ((hpA dd4 cs t s ex).map (·.1))) :=
  round_of (P := Tryz.prog) (G := 5) (C := CL) (n := 30) (f := Fn.ref03_CheckRecord) (b := B50) (ro := ro) (tm := tmL 22 (st50 n n)) (H := heapL ((hpA dd4 cs t s ex).map (·.1))) (df := []) (df1 := []) (k := 5) (N := 22) (len := 5) (x := .exit 0) (List.range 5) [] (hpA dd4 cs t s ex) [false]
    [ltF n n] tsL lsL (by kernel_rfl) (by kernel_rfl) (by rw [ltN]; rfl) (by kernel_rfl) (flat_dd hf)
/-- two ends of a loop -/
def two_ends (e : Int) (x : CX) (tmF tmR : TM) (H : CH) : Out QRes := .br (decide (e = 0)) (.leaf (.ex x tmF H [])) (.leaf (.ex .ret tmR H []))
theorem two_ends_sel {e : Int} {x : CX} {tmF tmR : TM} {H : CH} {r : QRes} {p : Res → Prop} (h : (two_ends e x tmF tmR H).sel = some r) (h1 : e = 0 → p (.ex x (absT tmF) H [])) (h2 : e ≠ 0 → p (.ex .ret (absT tmR) H [])) : p r.abs := by
  unfold two_ends at h
  have h' : cond (decide (e = 0)) (some (QRes.ex x tmF H [])) (some (QRes.ex .ret tmR H [])) = some r := h
  by_cases he : e = 0
  · rw [decide_eq_true he] at h'
    cases h'
    exact h1 he
  · rw [decide_eq_false he] at h'
    cases h'
    exact h2 he
variable (cs t s ex n) in
noncomputable def L50 : LTab := loopE noL Fn.ref03_CheckRecord 4 22 5 B50 (st50 n 0) (hpA dd4 cs t s ex) (two_ends (firstF (eJE cs) n 0) (.exit 0) (tmL 22 []) (tmL 22 [(2, i (firstF (eJE cs) n 0))]) (heapL ((hpA dd4 cs t s ex).map (·.1))))
theorem ls50 (hf : cs.all Ex.flat = true) (hl : Lds cs n) (hn : n ≤ 1000000) : LSound Tryz.prog 5 (L50 cs t s ex n) := by
  refine LSound.loop .none (by kernel_rfl) (flat_dd hf) fun r hr ro tm0 H0 hk hst => ?_
  obtain ⟨g1, g2⟩ := first_loop (P := Tryz.prog) (G := 5) (b := B50) (N := 22) (k := 5) (st := st50 n) (hp := hpA dd4 cs t s ex) (lF := []) (lR := fun e => [(2, i e)]) (x := .exit 0) n (eJE cs) (fun h => by cases h)
    (fun j ro hj he => rec50_round hf hl hn j ro hj he) (fun j ro hj he => rec50_ret hf hl j ro hj he) (rec50_end hf) ro hk (Nat.le_refl _) hst
  exact two_ends_sel (p := fun r => Sound Tryz.prog 5 (.code (.loop B50) ro tm0 H0 []) r) hr g1 g2
def recE (cs : List Value) (n : Nat) : Int := if (400 : Int) < n then 5 else firstF (eJE cs) n 0
theorem rec50_small (hf : cs.all Ex.flat = true) (hl : Lds cs n) (hn : n ≤ 1000000) :
    ∃ H', Sound Tryz.prog 5 (.call Fn.ref03_CheckRecord ⟨[sl 4 0 n n]⟩ (small1 (.cells cs t s ex))) (.val (i (recE cs n)) H') := by
  let C : Cfg := ⟨T10, spL', syL, L50 cs t s ex n⟩
  obtain ⟨H', hs⟩ := Out.vals_sel (o := execO Tryz.prog 5 C 30 (.call Fn.ref03_CheckRecord ⟨[sl 4 0 n n]⟩ (small1 (.cells cs t s ex)))) (v := i (recE cs n)) (by kernel_rfl) (by
    rw [show (execO Tryz.prog 5 C 30 (.call Fn.ref03_CheckRecord ⟨[sl 4 0 n n]⟩ (small1 (.cells cs t s ex)))).vals = .br (ltF 400 n) (.leaf (i 5)) (.br (decide (firstF (eJE cs) n 0 = 0)) (.leaf (i 0)) (.leaf (i (firstF (eJE cs) n 0)))) from by kernel_rfl]
    unfold recE
    by_cases h4 : (400 : Int) < n
    · simp [VT.sel, ltF_eq, h4]
    · by_cases h : firstF (eJE cs) n 0 = 0 <;> simp [VT.sel, ltF_eq, h4, h])
  exact ⟨H', execO_sound (C := C) ts10 (ls50 hf hl hn) 30 _ _ hs⟩
end
end Go.Proofs.YtbocpikgochioaaGreatDoor.Ways
